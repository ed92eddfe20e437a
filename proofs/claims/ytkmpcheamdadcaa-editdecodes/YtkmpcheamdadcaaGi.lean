/-
  What is read as an edit is written again as the same bytes.
-/
import Derived.Test.YtkmpcheamdadcaaGf
import Derived.Test.YtkmpcheamdadcaaEa
namespace Go.Proofs.Ytkmpcheamdadcaa
open Go.RowKit
set_option linter.unusedVariables false
set_option linter.unusedSimpArgs false
theorem pTake_canon {n : Nat} {l t l' : List Int} (h : pTake n l = .ok (t, l')) : l = t ++ l' ∧ t.length = n := by
  obtain ⟨h1, rfl, rfl⟩ := pTake_yes h
  exact ⟨(List.take_append_drop n l).symm, by rw [List.length_take]; omega⟩
theorem pName_canon {l t l' : List Int} (hb : Byt l) (h : pName l = .ok (t, l')) : l = txs [bstr t] ++ l' ∧ 0 < (bstr t).size ∧ (bstr t).size ≤ 64 := by
  unfold pName at h
  cases hv : pVar 64 l with
  | error c => rw [hv] at h; cases h
  | ok x =>
    obtain ⟨n, l1⟩ := x
    rw [hv] at h
    dsimp only at h
    obtain ⟨e1, n0, n1⟩ := pVar_canon hb hv
    have hb1 : Byt l1 := by rw [e1] at hb; exact hb.right
    by_cases hn : n ≤ 0
    · rw [if_pos hn] at h; cases h
    · rw [if_neg hn] at h
      obtain ⟨e2, e3⟩ := pTake_canon h
      have hbt : Byt t := by rw [e2] at hb1; exact hb1.left
      have hsz := bstr_size t hbt
      refine ⟨?_, by omega, by omega⟩
      have : ((bstr t).size : Int) = n := by omega
      simp only [txs, this, sb_bstr t hbt, List.append_nil]
      rw [e1, e2, List.append_assoc]
theorem pKyB_canon {t : List Int} {k : Ky} (hb : Byt t) (h : pKyB t = .ok k) : kb k = t ∧ kOk k ∧ 0 ≤ k.s ∧ k.s < 18446744073709551616 ∧ 0 ≤ k.k ∧ k.k ≤ 2 := by
  unfold pKyB at h
  by_cases h8 : t.length < 8
  · rw [if_pos h8] at h; cases h
  · rw [if_neg h8] at h
    obtain ⟨m, hm⟩ : ∃ m, t.length = m + 8 := ⟨t.length - 8, by omega⟩
    have e0 : t.length - 8 = m := by omega
    rw [e0] at h
    by_cases hk : checkV (kyD m t).u (kyD m t).s (kyD m t).k = 0
    · rw [if_pos hk] at h
      cases h
      have hd : (t.drop m).length = 8 := by rw [List.length_drop]; omega
      have hbd := decN_bd m t hm hb
      have hbt : Byt (t.take m) := fun c hc => hb c (List.mem_of_mem_take hc)
      have hk' := hk
      have hkk : 0 ≤ decN m t % 256 ∧ decN m t % 256 ≤ 2 := by
        unfold kyD checkV at hk'
        dsimp only at hk'
        split at hk'
        · omega
        · split at hk' <;> omega
      refine ⟨?_, hk, ?_, ?_, hkk⟩
      · show sb (bstr (t.take m)) ++ byts 8 (decN m t / 256 * 256 + decN m t % 256) = t
        have e1 : decN m t / 256 * 256 + decN m t % 256 = decN m t := by omega
        rw [e1, sb_bstr _ hbt]
        have e2 := byts_leV (t.drop m) (fun c hc => hb c (List.mem_of_mem_drop hc))
        rw [hd] at e2
        unfold decN
        rw [e2, List.take_append_drop]
      · show 0 ≤ decN m t / 256
        omega
      · show decN m t / 256 < _
        omega
    · rw [if_neg hk] at h; cases h
theorem pKey_canon {k : Ky} {l l' : List Int} (hb : Byt l) (h : pKey l = .ok (k, l')) : l = kt k ++ l' ∧ kOk k ∧ 0 ≤ k.s ∧ k.s < 18446744073709551616 ∧ 0 ≤ k.k ∧ k.k ≤ 2 := by
  unfold pKey at h
  cases hv : pVar 1032 l with
  | error c => rw [hv] at h; cases h
  | ok x =>
    obtain ⟨n, l1⟩ := x
    rw [hv] at h
    dsimp only at h
    obtain ⟨e1, n0, n1⟩ := pVar_canon hb hv
    have hb1 : Byt l1 := by rw [e1] at hb; exact hb.right
    cases ht : pTake n.toNat l1 with
    | error c => rw [ht] at h; cases h
    | ok y =>
      obtain ⟨t, l2⟩ := y
      rw [ht] at h
      dsimp only at h
      obtain ⟨e2, e3⟩ := pTake_canon ht
      have hbt : Byt t := by rw [e2] at hb1; exact hb1.left
      cases hk : pKyB t with
      | error c => rw [hk] at h; cases h
      | ok k' =>
        rw [hk] at h
        cases h
        obtain ⟨q1, q2⟩ := pKyB_canon hbt hk
        refine ⟨?_, q2⟩
        unfold kt
        rw [q1]
        have : (t.length : Int) = n := by omega
        rw [this, e1, e2, List.append_assoc]
theorem pAny_canon {n : Int} {l l' : List Int} (hb : Byt l) (h : pAny l = .ok (n, l')) : l = vL 10 n ++ l' ∧ 0 ≤ n ∧ n < 18446744073709551616 := by
  obtain ⟨e1, n0, _⟩ := pVar_canon hb h
  exact ⟨e1, n0, (pVar_bd2 h).2.2.1⟩
theorem pLvl_canon {n : Int} {l l' : List Int} (hb : Byt l) (h : pLvl l = .ok (n, l')) : l = vL 10 n ++ l' ∧ 0 ≤ n ∧ n < 7 := by
  obtain ⟨e1, n0, n1⟩ := pVar_canon hb h
  exact ⟨e1, n0, by omega⟩
theorem pFile_canon {f : Fi} {l l' : List Int} (hb : Byt l) (h : pFile l = .ok (f, l')) : l = nbs [f.num, f.size, f.ents, f.rngs] ++ (kt f.sm ++ kt f.la) ++ l' ∧ kOk f.sm ∧ kOk f.la ∧ FOk f := by
  unfold pFile at h
  cases h1 : pAny l with
  | error c => rw [h1] at h; cases h
  | ok x =>
    obtain ⟨_, l1⟩ := x
    rw [h1] at h
    dsimp only at h
    obtain ⟨e1, b1⟩ := pAny_canon hb h1
    have hb1 : Byt l1 := by rw [e1] at hb; exact hb.right
    cases h2 : pAny l1 with
    | error c => rw [h2] at h; cases h
    | ok x =>
      obtain ⟨_, l2⟩ := x
      rw [h2] at h
      dsimp only at h
      obtain ⟨e2, b2⟩ := pAny_canon hb1 h2
      have hb2 : Byt l2 := by rw [e2] at hb1; exact hb1.right
      cases h3 : pAny l2 with
      | error c => rw [h3] at h; cases h
      | ok x =>
        obtain ⟨_, l3⟩ := x
        rw [h3] at h
        dsimp only at h
        obtain ⟨e3, b3⟩ := pAny_canon hb2 h3
        have hb3 : Byt l3 := by rw [e3] at hb2; exact hb2.right
        cases h4 : pAny l3 with
        | error c => rw [h4] at h; cases h
        | ok x =>
          obtain ⟨_, l4⟩ := x
          rw [h4] at h
          dsimp only at h
          obtain ⟨e4, b4⟩ := pAny_canon hb3 h4
          have hb4 : Byt l4 := by rw [e4] at hb3; exact hb3.right
          cases h5 : pKey l4 with
          | error c => rw [h5] at h; cases h
          | ok x =>
            obtain ⟨_, l5⟩ := x
            rw [h5] at h
            dsimp only at h
            obtain ⟨e5, k5, s5, t5, u5, v5⟩ := pKey_canon hb4 h5
            have hb5 : Byt l5 := by rw [e5] at hb4; exact hb4.right
            cases h6 : pKey l5 with
            | error c => rw [h6] at h; cases h
            | ok x =>
              obtain ⟨_, l6⟩ := x
              rw [h6] at h
              cases h
              obtain ⟨e6, k6, s6, t6, u6, v6⟩ := pKey_canon hb5 h6
              refine ⟨?_, k5, k6, ⟨b1, b2, ⟨s5, t5⟩, ⟨s6, t6⟩, b3, b4, ⟨Int.le_trans (by decide) u5, Int.le_trans v5 (by decide)⟩, ⟨Int.le_trans (by decide) u6, Int.le_trans v6 (by decide)⟩⟩⟩
              rw [e1, e2, e3, e4, e5, e6]
              simp [nbs]
/-- What holds of an edit as far as it was read: its parts stand in order. -/
structure Inv (last : Int) (e : Ed) : Prop where
  ok : EOk e
  can : CanEd e
  l1 : 1 ≤ last
  a2 : last < 2 → e.ma = false
  a3 : last < 3 → e.dr = false
  a4 : last < 4 → e.hl = false
  a5 : last < 5 → e.hn = false
  a6 : last < 6 → e.hs = false
  a7 : last < 7 → e.gone = []
  a8 : last < 8 → e.added = []
theorem may_or {last n : Int} (h : mayB last n = true) : last < n ∨ (n = last ∧ (n = 7 ∨ n = 8)) := by
  unfold mayB at h
  simpa using h
theorem roomB_lt {e : Ed} (h : roomB e = true) : e.gone.length + e.added.length < 1024 := by
  unfold roomB at h
  simpa using h
theorem inv_step {last n : Int} {e e' : Ed} {l l' : List Int} (hb : Byt l) (h : Inv last e) (hm : mayB last n = true) (hp : pPart n e l = .ok (e', l')) : Inv n e' ∧ encB e' ++ l' = encB e ++ (n :: l) := by
  have hl := may_or hm
  have h1 := h.l1
  unfold pPart at hp
  by_cases h2 : n = 2
  · subst h2
    rw [if_pos rfl] at hp
    cases hv : pVar 1 l with
    | error c => rw [hv] at hp; cases hp
    | ok x =>
      obtain ⟨k, l1⟩ := x
      rw [hv] at hp
      dsimp only at hp
      obtain ⟨e1, k0, k1⟩ := pVar_canon hb hv
      have hb1 : Byt l1 := by rw [e1] at hb; exact hb.right
      cases hq : pName l1 with
      | error c => rw [hq] at hp; cases hp
      | ok y =>
        obtain ⟨t, l2⟩ := y
        rw [hq] at hp
        cases hp
        obtain ⟨e2, t0, t1⟩ := pName_canon hb1 hq
        have z2 := h.a2 (by omega)
        have z3 := h.a3 (by omega)
        have z4 := h.a4 (by omega)
        have z5 := h.a5 (by omega)
        have z6 := h.a6 (by omega)
        have z7 := h.a7 (by omega)
        have z8 := h.a8 (by omega)
        have o := h.ok
        have c := h.can
        refine ⟨⟨⟨o.fam, ⟨Int.le_trans (by decide) k0, Int.le_trans k1 (by decide)⟩, o.log, o.next, o.seq, o.gn, o.gl, o.ad, o.al⟩, ⟨by simp [z3], fun _ => ⟨t0, t1, by show k = 0 ∨ k = 1; omega⟩, c.n, c.g, c.a⟩, by decide, fun hh => absurd hh (by decide), fun _ => z3, fun _ => z4, fun _ => z5, fun _ => z6, fun _ => z7, fun _ => z8⟩, ?_⟩
        rw [e1, e2]
        simp [encB, eB6, eB5, eB4, eB3, eB2, eB1, nbs, z2, z3, z4, z5, z6, z7, z8, gnBs, adBs]
  rw [if_neg h2] at hp
  by_cases h3 : n = 3
  · subst h3
    rw [if_pos rfl] at hp
    cases hma : e.ma with
    | true => rw [hma, if_pos rfl] at hp; cases hp
    | false =>
      rw [hma, if_neg (by decide)] at hp
      cases hp
      have z3 := h.a3 (by omega)
      have z4 := h.a4 (by omega)
      have z5 := h.a5 (by omega)
      have z6 := h.a6 (by omega)
      have z7 := h.a7 (by omega)
      have z8 := h.a8 (by omega)
      have o := h.ok
      have c := h.can
      refine ⟨⟨⟨o.fam, o.how, o.log, o.next, o.seq, o.gn, o.gl, o.ad, o.al⟩, ⟨by simp [hma], (by intro hh; cases hh), c.n, c.g, c.a⟩, by decide, fun hh => absurd hh (by decide), fun hh => absurd hh (by decide), fun _ => z4, fun _ => z5, fun _ => z6, fun _ => z7, fun _ => z8⟩, ?_⟩
      simp [encB, eB6, eB5, eB4, eB3, eB2, eB1, nbs, z3, z4, z5, z6, z7, z8, hma, gnBs, adBs]
  rw [if_neg h3] at hp
  by_cases h4 : n = 4
  · subst h4
    rw [if_pos rfl] at hp
    cases hv : pAny l with
    | error c => rw [hv] at hp; cases hp
    | ok x =>
      obtain ⟨k, l1⟩ := x
      rw [hv] at hp
      cases hp
      obtain ⟨e1, kb⟩ := pAny_canon hb hv
      have z4 := h.a4 (by omega)
      have z5 := h.a5 (by omega)
      have z6 := h.a6 (by omega)
      have z7 := h.a7 (by omega)
      have z8 := h.a8 (by omega)
      have o := h.ok
      have c := h.can
      refine ⟨⟨⟨o.fam, o.how, kb, o.next, o.seq, o.gn, o.gl, o.ad, o.al⟩, ⟨c.md, c.mak, c.n, c.g, c.a⟩, by decide, fun hh => absurd hh (by decide), fun hh => absurd hh (by decide), fun hh => absurd hh (by decide), fun _ => z5, fun _ => z6, fun _ => z7, fun _ => z8⟩, ?_⟩
      rw [e1]
      simp [encB, eB6, eB5, eB4, eB3, eB2, eB1, nbs, z4, z5, z6, z7, z8, gnBs, adBs]
  rw [if_neg h4] at hp
  by_cases h5 : n = 5
  · subst h5
    rw [if_pos rfl] at hp
    cases hv : pAny l with
    | error c => rw [hv] at hp; cases hp
    | ok x =>
      obtain ⟨k, l1⟩ := x
      rw [hv] at hp
      cases hp
      obtain ⟨e1, kb⟩ := pAny_canon hb hv
      have z5 := h.a5 (by omega)
      have z6 := h.a6 (by omega)
      have z7 := h.a7 (by omega)
      have z8 := h.a8 (by omega)
      have o := h.ok
      have c := h.can
      refine ⟨⟨⟨o.fam, o.how, o.log, kb, o.seq, o.gn, o.gl, o.ad, o.al⟩, ⟨c.md, c.mak, c.n, c.g, c.a⟩, by decide, fun hh => absurd hh (by decide), fun hh => absurd hh (by decide), fun hh => absurd hh (by decide), fun hh => absurd hh (by decide), fun _ => z6, fun _ => z7, fun _ => z8⟩, ?_⟩
      rw [e1]
      simp [encB, eB6, eB5, eB4, eB3, eB2, eB1, nbs, z5, z6, z7, z8, gnBs, adBs]
  rw [if_neg h5] at hp
  by_cases h6 : n = 6
  · subst h6
    rw [if_pos rfl] at hp
    cases hv : pAny l with
    | error c => rw [hv] at hp; cases hp
    | ok x =>
      obtain ⟨k, l1⟩ := x
      rw [hv] at hp
      cases hp
      obtain ⟨e1, kb⟩ := pAny_canon hb hv
      have z6 := h.a6 (by omega)
      have z7 := h.a7 (by omega)
      have z8 := h.a8 (by omega)
      have o := h.ok
      have c := h.can
      refine ⟨⟨⟨o.fam, o.how, o.log, o.next, kb, o.gn, o.gl, o.ad, o.al⟩, ⟨c.md, c.mak, c.n, c.g, c.a⟩, by decide, fun hh => absurd hh (by decide), fun hh => absurd hh (by decide), fun hh => absurd hh (by decide), fun hh => absurd hh (by decide), fun hh => absurd hh (by decide), fun _ => z7, fun _ => z8⟩, ?_⟩
      rw [e1]
      simp [encB, eB6, eB5, eB4, eB3, eB2, eB1, nbs, z6, z7, z8, gnBs, adBs]
  rw [if_neg h6] at hp
  by_cases h7 : n = 7
  · subst h7
    rw [if_pos rfl] at hp
    cases hr : roomB e with
    | false => rw [hr, if_pos rfl] at hp; cases hp
    | true =>
      rw [hr, if_neg (by decide)] at hp
      have hlt := roomB_lt hr
      cases hv : pLvl l with
      | error c => rw [hv] at hp; cases hp
      | ok x =>
        obtain ⟨k, l1⟩ := x
        rw [hv] at hp
        dsimp only at hp
        obtain ⟨e1, kb⟩ := pLvl_canon hb hv
        have hb1 : Byt l1 := by rw [e1] at hb; exact hb.right
        cases hq : pAny l1 with
        | error c => rw [hq] at hp; cases hp
        | ok y =>
          obtain ⟨m, l2⟩ := y
          rw [hq] at hp
          cases hp
          obtain ⟨e2, mb⟩ := pAny_canon hb1 hq
          have z8 := h.a8 (by omega)
          have o := h.ok
          have c := h.can
          refine ⟨⟨⟨o.fam, o.how, o.log, o.next, o.seq, ?_, ?_, o.ad, o.al⟩, ⟨c.md, c.mak, ?_, ?_, c.a⟩, by decide, fun hh => absurd hh (by decide), fun hh => absurd hh (by decide), fun hh => absurd hh (by decide), fun hh => absurd hh (by decide), fun hh => absurd hh (by decide), fun hh => absurd hh (by decide), fun _ => z8⟩, ?_⟩
          · intro g hg
            rcases List.mem_append.1 hg with hg | hg
            · exact o.gn g hg
            · simp at hg; subst hg; exact mb
          · intro g hg
            rcases List.mem_append.1 hg with hg | hg
            · exact o.gl g hg
            · simp at hg; subst hg; exact ⟨Int.le_trans (by decide) kb.1, Int.le_trans (Int.le_of_lt kb.2) (by decide)⟩
          · simp; omega
          · intro g hg
            rcases List.mem_append.1 hg with hg | hg
            · exact c.g g hg
            · simp at hg; subst hg; exact kb
          · rw [e1, e2]
            have q : encB { e with gone := e.gone ++ [⟨k, m⟩] } = eB6 e ++ gnBs (e.gone ++ [⟨k, m⟩]) ++ adBs e.added := rfl
            rw [q, gnBs_snoc]
            simp [encB, z8, adBs, gnB, nbs]
  rw [if_neg h7] at hp
  by_cases h8 : n = 8
  · subst h8
    rw [if_pos rfl] at hp
    cases hr : roomB e with
    | false => rw [hr, if_pos rfl] at hp; cases hp
    | true =>
      rw [hr, if_neg (by decide)] at hp
      have hlt := roomB_lt hr
      cases hv : pLvl l with
      | error c => rw [hv] at hp; cases hp
      | ok x =>
        obtain ⟨k, l1⟩ := x
        rw [hv] at hp
        dsimp only at hp
        obtain ⟨e1, kb⟩ := pLvl_canon hb hv
        have hb1 : Byt l1 := by rw [e1] at hb; exact hb.right
        cases hq : pFile l1 with
        | error c => rw [hq] at hp; cases hp
        | ok y =>
          obtain ⟨m, l2⟩ := y
          rw [hq] at hp
          cases hp
          obtain ⟨e2, m1, m2, mb⟩ := pFile_canon hb1 hq
          have o := h.ok
          have c := h.can
          refine ⟨⟨⟨o.fam, o.how, o.log, o.next, o.seq, o.gn, o.gl, ?_, ?_⟩, ⟨c.md, c.mak, ?_, c.g, ?_⟩, by decide, fun hh => absurd hh (by decide), fun hh => absurd hh (by decide), fun hh => absurd hh (by decide), fun hh => absurd hh (by decide), fun hh => absurd hh (by decide), fun hh => absurd hh (by decide), fun hh => absurd hh (by decide)⟩, ?_⟩
          · intro g hg
            rcases List.mem_append.1 hg with hg | hg
            · exact o.ad g hg
            · simp at hg; subst hg; exact mb
          · intro g hg
            rcases List.mem_append.1 hg with hg | hg
            · exact o.al g hg
            · simp at hg; subst hg; exact ⟨Int.le_trans (by decide) kb.1, Int.le_trans (Int.le_of_lt kb.2) (by decide)⟩
          · simp; omega
          · intro g hg
            rcases List.mem_append.1 hg with hg | hg
            · exact c.a g hg
            · simp at hg; subst hg; exact ⟨kb, m1, m2⟩
          · rw [e1, e2]
            have q : encB { e with added := e.added ++ [⟨k, m⟩] } = eB6 e ++ gnBs e.gone ++ adBs (e.added ++ [⟨k, m⟩]) := rfl
            rw [q, adBs_snoc]
            simp [encB, adB, nbs]
  rw [if_neg h8] at hp
  cases hp
theorem inv_parts : ∀ {f : Nat} {last : Int} {e e' : Ed} {l : List Int}, Byt l → Inv last e → pParts f last e l = .ok e' → CanEd e' ∧ EOk e' ∧ encB e' = encB e ++ l
  | 0, _, _, _, _, _, _, h => by cases h
  | f + 1, last, e, e', [], _, hI, h => by
    cases h
    exact ⟨hI.can, hI.ok, by simp⟩
  | f + 1, last, e, e', n :: l, hb, hI, h => by
    have h' : (if mayB last n = false then (.error 3 : Except Int Ed) else match pPart n e l with
      | .error c => (.error c : Except Int Ed)
      | .ok (e', l') => pParts f n e' l') = .ok e' := h
    have hbl : Byt l := fun c hc => hb c (List.mem_cons_of_mem _ hc)
    split at h'
    · cases h'
    · rename_i hm
      have hm' : mayB last n = true := by simpa using hm
      cases hp : pPart n e l with
      | error c => rw [hp] at h'; cases h'
      | ok x =>
        obtain ⟨e2, l2⟩ := x
        rw [hp] at h'
        obtain ⟨hI2, hE⟩ := inv_step hbl hI hm' hp
        have hb2 : Byt l2 := by
          intro c hc
          have : c ∈ encB e ++ (n :: l) := by rw [← hE]; exact List.mem_append.2 (.inr hc)
          rcases List.mem_append.1 this with h1 | h1
          · exact encB_byt hI.can hI.ok c h1
          · exact hb c h1
        obtain ⟨q1, q2, q3⟩ := inv_parts hb2 hI2 h'
        exact ⟨q1, q2, by rw [q3, hE]⟩
/-- What is read can be written, and is written as it was. -/
theorem pEd_canon {l : List Int} {e : Ed} (hb : Byt l) (h : pEd l = .ok e) : CanEd e ∧ EOk e ∧ encB e = l := by
  cases l with
  | nil => cases h
  | cons n l =>
    have hbl : Byt l := fun c hc => hb c (List.mem_cons_of_mem _ hc)
    unfold pEd at h
    simp only at h
    split at h
    · rename_i hn
      subst hn
      cases hv : pVar 4294967295 l with
      | error c => rw [hv] at h; cases h
      | ok x =>
        obtain ⟨v, l1⟩ := x
        rw [hv] at h
        obtain ⟨e1, v0, v1⟩ := pVar_canon hbl hv
        have hb1 : Byt l1 := by rw [e1] at hbl; exact hbl.right
        have hI : Inv 1 { ed0 with fam := v } := by
          refine ⟨⟨⟨v0, by show v < _; omega⟩, (show (-9223372036854775808 : Int) ≤ 0 ∧ (0 : Int) ≤ 9223372036854775807 from by decide), (show (0 : Int) ≤ 0 ∧ (0 : Int) < 18446744073709551616 from by decide), (show (0 : Int) ≤ 0 ∧ (0 : Int) < 18446744073709551616 from by decide), (show (0 : Int) ≤ 0 ∧ (0 : Int) < 18446744073709551616 from by decide), ?_, ?_, ?_, ?_⟩, ⟨?_, ?_, (show 0 + 0 ≤ 1024 from by decide), ?_, ?_⟩, by decide, fun _ => rfl, fun _ => rfl, fun _ => rfl, fun _ => rfl, fun _ => rfl, fun _ => rfl, fun _ => rfl⟩
          · intro g hg; cases hg
          · intro g hg; cases hg
          · intro g hg; cases hg
          · intro g hg; cases hg
          · intro hh; cases hh.1
          · intro hh; cases hh
          · intro g hg; cases hg
          · intro g hg; cases hg
        obtain ⟨q1, q2, q3⟩ := inv_parts hb1 hI h
        refine ⟨q1, q2, ?_⟩
        rw [q3, e1]
        simp [encB, eB6, eB5, eB4, eB3, eB2, eB1, nbs, ed0, gnBs, adBs]
    · cases h
end Go.Proofs.Ytkmpcheamdadcaa
