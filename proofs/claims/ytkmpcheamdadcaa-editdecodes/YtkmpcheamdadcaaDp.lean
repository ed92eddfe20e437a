/-
  What an edit was written as is read as that edit, its plain form.
-/
import Derived.Test.YtkmpcheamdadcaaDc
import Derived.Test.YtkmpcheamdadcaaYi
namespace Go.Proofs.Ytkmpcheamdadcaa
open Go.RowKit
set_option linter.unusedVariables false
set_option linter.unusedSimpArgs false

theorem pAny_enc {n : Int} (rest : List Int) (h : 0 ≤ n ∧ n < 18446744073709551616) : pAny (vL 10 n ++ rest) = .ok (n, rest) := pVar_enc rest h.1 (by omega) h.2
theorem pLvl_enc {n : Int} (rest : List Int) (h : 0 ≤ n ∧ n < 7) : pLvl (vL 10 n ++ rest) = .ok (n, rest) := pVar_enc rest h.1 (by omega) (by omega)
theorem pTake_enc {n : Nat} (t rest : List Int) (h : t.length = n) : pTake n (t ++ rest) = .ok (t, rest) := by
  subst h
  unfold pTake
  rw [if_neg (by simp), List.take_left, List.drop_left]
theorem pName_enc {s : ByteArray} (rest : List Int) (h0 : 0 < s.size) (h1 : s.size ≤ 64) : pName (vL 10 s.size ++ sb s ++ rest) = .ok (sb s, rest) := by
  unfold pName
  rw [List.append_assoc, pVar_enc _ (by omega) (by omega) (by omega)]
  dsimp only
  rw [if_neg (by omega), Int.toNat_natCast, pTake_enc _ _ (sb_len s)]
theorem pKyB_enc {k : Ky} (h : kOk k) (hs : 0 ≤ k.s) : pKyB (kb k) = .ok k := by
  have hl := kb_len k
  have hk : k.u.size ≤ 1024 ∧ k.s ≤ 72057594037927935 ∧ 0 ≤ k.k ∧ k.k ≤ 2 := by
    unfold kOk checkV at h
    split at h
    · omega
    · split at h <;> omega
  have h1 : (sb k.u).length = k.u.size := sb_len k.u
  have e : kyD ((kb k).length - 8) (kb k) = k := by
    rw [hl, Nat.add_sub_cancel]
    unfold kyD decU decN kb
    rw [← h1, List.take_left, List.drop_left, bstr_sb, leV_byts 8 _ (by omega) (by show _ < (256 : Int) ^ 8; omega)]
    have e1 : (k.s * 256 + k.k) / 256 = k.s := by omega
    have e2 : (k.s * 256 + k.k) % 256 = k.k := by omega
    rw [e1, e2]
  unfold pKyB
  rw [if_neg (by omega), e]
  exact if_pos h
theorem pKey_enc {k : Ky} (rest : List Int) (h : kOk k) (hs : 0 ≤ k.s) : pKey (kt k ++ rest) = .ok (k, rest) := by
  have hl := kb_len k
  have hz := h.size
  unfold pKey kt
  rw [List.append_assoc, pVar_enc _ (by omega) (by omega) (by omega)]
  dsimp only
  rw [Int.toNat_natCast, pTake_enc _ _ rfl]
  dsimp only
  rw [pKyB_enc h hs]
theorem pFile_enc {a : Ad} (rest : List Int) (h : AOk a) (hf : FOk a.f) : pFile (vL 10 a.f.num ++ (vL 10 a.f.size ++ (vL 10 a.f.ents ++ (vL 10 a.f.rngs ++ (kt a.f.sm ++ (kt a.f.la ++ rest)))))) = .ok (a.f, rest) := by
  unfold pFile
  rw [pAny_enc _ hf.num]
  dsimp only
  rw [pAny_enc _ hf.size]
  dsimp only
  rw [pAny_enc _ hf.ents]
  dsimp only
  rw [pAny_enc _ hf.rngs]
  dsimp only
  rw [pKey_enc _ h.sm hf.ss.1]
  dsimp only
  rw [pKey_enc _ h.la hf.ls.1]
/-- From here on the parts tell this. -/
def PP (last : Int) (e : Ed) (l : List Int) (R : Except Int Ed) : Prop := ∀ f, l.length < f → pParts f last e l = R
theorem PP.nil (last : Int) (e : Ed) : PP last e [] (.ok e) := fun f hf => by
  obtain ⟨f', rfl⟩ : ∃ f', f = f' + 1 := ⟨f - 1, by simp at hf; omega⟩
  rfl
theorem PP.step {last n : Int} {e e' : Ed} {l l' : List Int} {R : Except Int Ed} (hm : mayB last n = true) (hp : pPart n e l = .ok (e', l')) (hl : l'.length ≤ l.length) (h : PP n e' l' R) : PP last e (n :: l) R := fun f hf => by
  simp only [List.length_cons] at hf
  obtain ⟨f', rfl⟩ : ∃ f', f = f' + 1 := ⟨f - 1, by omega⟩
  have hx : pParts (f' + 1) last e (n :: l) = if mayB last n = false then .error 3 else match pPart n e l with
    | .error c => .error c
    | .ok (e', l') => pParts f' n e' l' := rfl
  rw [hx, hm, hp]
  exact h f' (by omega)
theorem may_lt {a b : Int} (h : a < b) : mayB a b = true := by unfold mayB; simp [h]
theorem PP.adds {ads : List Ad} : ∀ {last : Int} {e : Ed}, last ≤ 8 → (∀ a ∈ ads, AOk a) → (∀ a ∈ ads, FOk a.f) → e.gone.length + e.added.length + ads.length ≤ 1024 → PP last e (adBs ads) (.ok { e with added := e.added ++ ads }) := by
  induction ads with
  | nil =>
    intro last e _ _ _ _
    have : ({ e with added := e.added ++ [] } : Ed) = e := by simp
    rw [this]
    exact PP.nil _ _
  | cons a ads ih =>
    intro last e hl h1 h2 hn
    simp only [List.length_cons] at hn
    have ha := h1 a (List.mem_cons_self ..)
    have hf := h2 a (List.mem_cons_self ..)
    have e1 : adBs (a :: ads) = 8 :: (vL 10 a.lv ++ (vL 10 a.f.num ++ (vL 10 a.f.size ++ (vL 10 a.f.ents ++ (vL 10 a.f.rngs ++ (kt a.f.sm ++ (kt a.f.la ++ adBs ads))))))) := by
      simp [adBs, adB, nbs]
    have hr : roomB e = true := by unfold roomB; simp; omega
    have h3 := ih (last := 8) (e := { e with added := e.added ++ [a] }) (by omega) (fun x hx => h1 x (List.mem_cons_of_mem _ hx)) (fun x hx => h2 x (List.mem_cons_of_mem _ hx)) (by simp; omega)
    have e2 : ({ ({ e with added := e.added ++ [a] } : Ed) with added := ({ e with added := e.added ++ [a] } : Ed).added ++ ads } : Ed) = { e with added := e.added ++ a :: ads } := by simp
    rw [e2] at h3
    rw [e1]
    refine PP.step (e' := { e with added := e.added ++ [a] }) (l' := adBs ads) ?_ ?_ (by simp only [List.length_append]; omega) h3
    · unfold mayB; rcases Int.lt_or_le last 8 with h | h
      · simp [h]
      · have : (8 : Int) = last := by omega
        simp [this]
    · unfold pPart
      rw [if_neg (by decide), if_neg (by decide), if_neg (by decide), if_neg (by decide), if_neg (by decide), if_neg (by decide), if_pos rfl, hr, if_neg (by decide), pLvl_enc _ ha.lv]
      dsimp only
      rw [pFile_enc _ ha hf]
theorem PP.gones {gs : List Gn} {rest : List Int} {R : Except Int Ed} : ∀ {last : Int} {e : Ed}, last ≤ 7 → (∀ g ∈ gs, 0 ≤ g.lv ∧ g.lv < 7) → (∀ g ∈ gs, 0 ≤ g.num ∧ g.num < 18446744073709551616) → e.gone.length + e.added.length + gs.length ≤ 1024 → (∀ last', last' ≤ 7 → PP last' { e with gone := e.gone ++ gs } rest R) → PP last e (gnBs gs ++ rest) R := by
  induction gs with
  | nil =>
    intro last e hl _ _ _ h
    have : ({ e with gone := e.gone ++ [] } : Ed) = e := by simp
    rw [this] at h
    exact h last hl
  | cons g gs ih =>
    intro last e hl h1 h2 hn h
    simp only [List.length_cons] at hn
    have e1 : gnBs (g :: gs) ++ rest = 7 :: (vL 10 g.lv ++ (vL 10 g.num ++ (gnBs gs ++ rest))) := by
      simp [gnBs, gnB, nbs]
    have hr : roomB e = true := by unfold roomB; simp; omega
    have e2 : ({ ({ e with gone := e.gone ++ [g] } : Ed) with gone := ({ e with gone := e.gone ++ [g] } : Ed).gone ++ gs } : Ed) = { e with gone := e.gone ++ g :: gs } := by simp
    have h3 := ih (last := 7) (e := { e with gone := e.gone ++ [g] }) (by omega) (fun x hx => h1 x (List.mem_cons_of_mem _ hx)) (fun x hx => h2 x (List.mem_cons_of_mem _ hx)) (by simp; omega) (by rw [e2]; exact h)
    rw [e1]
    refine PP.step (e' := { e with gone := e.gone ++ [g] }) (l' := gnBs gs ++ rest) ?_ ?_ (by simp only [List.length_append]; omega) h3
    · unfold mayB; rcases Int.lt_or_le last 7 with h | h
      · simp [h]
      · have : (7 : Int) = last := by omega
        simp [this]
    · unfold pPart
      rw [if_neg (by decide), if_neg (by decide), if_neg (by decide), if_neg (by decide), if_neg (by decide), if_pos rfl, hr, if_neg (by decide), pLvl_enc _ (h1 g (List.mem_cons_self ..))]
      dsimp only
      rw [pAny_enc _ (h2 g (List.mem_cons_self ..))]
/-- A part that may be there. -/
theorem PP.opt {c : Bool} {last n : Int} {t rest : List Int} {e e' : Ed} {R : Except Int Ed} (hn : last < n) (hp : c = true → pPart n e (t ++ rest) = .ok (e', rest)) (he : c = false → e' = e) (h : ∀ last', last' ≤ n → PP last' e' rest R) : PP last e ((if c = true then n :: t else []) ++ rest) R := by
  cases c with
  | true =>
    rw [if_pos rfl]
    exact PP.step (may_lt hn) (hp rfl) (by simp) (h n (Int.le_refl _))
  | false =>
    have := he rfl
    subst this
    exact h last (by omega)
theorem pEd_one {l l1 : List Int} {v : Int} (h : pVar 4294967295 l = .ok (v, l1)) : pEd (1 :: l) = pParts (l1.length + 1) 1 { ed0 with fam := v } l1 := by
  unfold pEd
  simp only [if_true, h]
theorem pEd_enc {e : Ed} (hc : CanEd e) (ho : EOk e) : pEd (encB e) = .ok (plainE e) := by
  obtain ⟨fam, ma, dr, name, how, hl, hn, hs, log, next, seq, gone, added⟩ := e
  have hmak := hc.mak
  have hmd := hc.md
  have hN := hc.n
  dsimp only at hmak hmd hN
  have e1 : encB ⟨fam, ma, dr, name, how, hl, hn, hs, log, next, seq, gone, added⟩ = 1 :: (vL 10 fam ++ ((if ma = true then 2 :: (vL 10 how ++ (vL 10 name.size ++ sb name)) else []) ++ ((if dr = true then 3 :: [] else []) ++ ((if hl = true then 4 :: vL 10 log else []) ++ ((if hn = true then 5 :: vL 10 next else []) ++ ((if hs = true then 6 :: vL 10 seq else []) ++ (gnBs gone ++ adBs added))))))) := by
    simp [encB, eB6, eB5, eB4, eB3, eB2, eB1, nbs, txs]
  rw [e1]
  rw [pEd_one (pVar_enc _ ho.fam.1 (Int.le_of_lt_add_one ho.fam.2) (Int.lt_trans ho.fam.2 (by decide)))]
  refine (?_ : PP _ _ _ _) _ (Nat.lt_succ_self _)
  refine PP.opt (e' := ⟨fam, ma, false, if ma then name else ⟨#[]⟩, if ma then how else 0, false, false, false, 0, 0, 0, [], []⟩) (by decide) ?_ ?_ ?_
  · rintro rfl
    obtain ⟨g1, g2, g3⟩ := hmak rfl
    unfold pPart
    rw [if_pos rfl, List.append_assoc, pVar_enc _ (by omega) (by omega) (by omega)]
    dsimp only
    rw [pName_enc _ g1 g2]
    dsimp only
    rw [bstr_sb]
    rfl
  · rintro rfl; rfl
  intro l2 hl2
  refine PP.opt (e' := ⟨fam, ma, dr, if ma then name else ⟨#[]⟩, if ma then how else 0, false, false, false, 0, 0, 0, [], []⟩) (by omega) ?_ ?_ ?_
  · rintro rfl
    have : ma = false := by cases ma with
      | true => exact absurd ⟨rfl, rfl⟩ hmd
      | false => rfl
    subst this
    rfl
  · rintro rfl; rfl
  intro l3 hl3
  refine PP.opt (e' := ⟨fam, ma, dr, if ma then name else ⟨#[]⟩, if ma then how else 0, hl, false, false, if hl then log else 0, 0, 0, [], []⟩) (by omega) ?_ ?_ ?_
  · rintro rfl
    unfold pPart
    rw [if_neg (by decide), if_neg (by decide), if_pos rfl, pAny_enc _ ho.log]
    rfl
  · rintro rfl; rfl
  intro l4 hl4
  refine PP.opt (e' := ⟨fam, ma, dr, if ma then name else ⟨#[]⟩, if ma then how else 0, hl, hn, false, if hl then log else 0, if hn then next else 0, 0, [], []⟩) (by omega) ?_ ?_ ?_
  · rintro rfl
    unfold pPart
    rw [if_neg (by decide), if_neg (by decide), if_neg (by decide), if_pos rfl, pAny_enc _ ho.next]
    rfl
  · rintro rfl; rfl
  intro l5 hl5
  refine PP.opt (e' := ⟨fam, ma, dr, if ma then name else ⟨#[]⟩, if ma then how else 0, hl, hn, hs, if hl then log else 0, if hn then next else 0, if hs then seq else 0, [], []⟩) (by omega) ?_ ?_ ?_
  · rintro rfl
    unfold pPart
    rw [if_neg (by decide), if_neg (by decide), if_neg (by decide), if_neg (by decide), if_pos rfl, pAny_enc _ ho.seq]
    rfl
  · rintro rfl; rfl
  intro l6 hl6
  refine PP.gones (by omega) hc.g ho.gn (by simp; omega) ?_
  intro l7 hl7
  have h := PP.adds (ads := added) (last := l7) (e := ⟨fam, ma, dr, if ma then name else ⟨#[]⟩, if ma then how else 0, hl, hn, hs, if hl then log else 0, if hn then next else 0, if hs then seq else 0, [] ++ gone, []⟩) (by omega) hc.a ho.ad (by simp; omega)
  exact h
end Go.Proofs.Ytkmpcheamdadcaa
