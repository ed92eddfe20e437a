import Derived.Test.YtbnllobofndckaaSz
namespace Go.Proofs.Ytbnllobofndckaa
open Go.RowKit
set_option linter.unusedVariables false
set_option linter.unusedSimpArgs false
/-- The first that is not nought. -/
def frm (f : Nat → Int) : Nat → Nat → Int
  | 0, _ => 0
  | n + 1, k => if f k = 0 then frm f n (k + 1) else f k
theorem frm_zero {f : Nat → Int} : ∀ {n k : Nat}, frm f n k = 0 → ∀ i, k ≤ i → i < k + n → f i = 0
  | 0, k, _, i, h1, h2 => by omega
  | n + 1, k, h, i, h1, h2 => by
    unfold frm at h
    split at h
    · next h0 =>
      by_cases e : i = k
      · rw [e]; exact h0
      · exact frm_zero h i (by omega) (by omega)
    · next h0 => exact absurd h h0
def ordE (how : Int) (x y : Ent) : Int := ordK how x.u x.s x.k y.u y.s y.k
/-- Whether an entry is not behind the one ahead. -/
def ordB (how : Int) (l : List Ent) : Nat → Bool
  | 0 => false
  | k + 1 => match l[k]?, l[k + 1]? with
    | some p, some e => decide (0 ≤ ordE how p e)
    | _, _ => false
/-- What is wrong with the entry at a place. -/
def erB (how : Int) (l : List Ent) (k : Nat) : Int := match l[k]? with
  | some e => if e.er = 0 then (if ordB how l k = true then 1 else 0) else e.er
  | none => 0
def bldF (how : Int) (l : List Ent) : Int := frm (erB how l) l.length 0
def bldE (how r : Int) (l : List Ent) : Int := if isHw how = false then 1 else if cntE r l.length ≠ 0 then cntE r l.length else if bldF how l ≠ 0 then bldF how l else if 4194304 < (wr8 r.toNat l).length then 2 else 0
def bldB (how r : Int) (l : List Ent) : List Int := if bldE how r l = 0 then wr8 r.toNat l else []
theorem er_of_erB {how : Int} {l : List Ent} {k : Nat} {e : Ent} (h : l[k]? = some e) (hz : erB how l k = 0) : e.er = 0 := by
  unfold erB at hz
  rw [h] at hz
  simp only at hz
  split at hz
  · assumption
  · next hn => exact absurd hz hn
theorem fit_bld {how : Int} {l : List Ent} (h : bldF how l = 0) (hs : ∀ e ∈ l, 0 ≤ e.s) : Fit l := fit_of (fun e he => by
  obtain ⟨k, hk⟩ := List.mem_iff_getElem?.1 he
  have hlt := (List.getElem?_eq_some_iff.1 hk).1
  exact er_of_erB hk (frm_zero h k (Nat.zero_le _) (by omega))) hs
theorem cord_bel (how : Int) (x y : Ent) (w : World) : Calls Try.prog 22 #[.int .i64 how, .agg #[.string x.u, .int .u64 x.s, .int .i64 x.k], .agg #[.string y.u, .int .u64 y.s, .int .i64 y.k]] w fun e w' => e = .returned (.int .i64 (ordE how x y)) ∧ Below w.heap.size w w' := by
  refine (cord_any how x.u x.s x.k y.u y.s y.k w).mono ?_
  rintro e w' ⟨rfl, rfl⟩
  exact ⟨rfl, ((Below.refl _ _).alloc (Nat.le_refl _) _).alloc (by simp) _⟩
theorem rord_bel (how : Int) (x y : Ent) (w : World) : Calls Try.prog 33 #[.int .i64 how, .agg #[.string x.u, .int .u64 x.s, .int .i64 x.k], .agg #[.string y.u, .int .u64 y.s, .int .i64 y.k]] w fun e w' => e = .returned (.int .i64 (ordE how x y)) ∧ Below w.heap.size w w' := by
  refine (rord_any how x.u x.s x.k y.u y.s y.k w).mono ?_
  rintro e w' ⟨rfl, rfl⟩
  exact ⟨rfl, ((Below.refl _ _).alloc (Nat.le_refl _) _).alloc (by simp) _⟩
theorem RdE.get {w : World} {a : Option Addr} {l : List Ent} (h : RdE w a l) {W : World} (hb : Below w.heap.size w W) {k : Nat} {x : Ent} (hx : l[k]? = some x) : ∃ b off, a = some ⟨b, off, none⟩ ∧ b < w.heap.size ∧ ∀ (j : Nat) (e : Ent), l[j]? = some e → EAt W b (off + j * 4) e := by
  rcases h with h | ⟨b, off, e', hlt, h⟩
  · rw [h] at hx; simp at hx
  · refine ⟨b, off, e', hlt, fun j e he => ?_⟩
    obtain ⟨e0, e1, e2, e3⟩ := h j e he
    exact ⟨(hb.cell hlt).trans e0, (hb.cell hlt).trans e1, (hb.cell hlt).trans e2, (hb.cell hlt).trans e3⟩
set_option maxRecDepth 100000 in
set_option maxHeartbeats 1000000 in
theorem build_any {w : World} {a : Option Addr} {l : List Ent} (hl : RdE w a l) (hs : ∀ e ∈ l, 0 ≤ e.s) (how r : Int) (c : Nat) (hN : l.length ≤ 281474976710656) :
    Calls Try.prog 7 #[.int .i64 how, .int .i64 r, .slice a l.length c] w fun e w' => ∃ v, e = .returned (.tuple #[v, .int .i64 (bldE how r l)]) ∧ OwnB w' w.heap.size v (bldB how r l) ∧ Below w.heap.size w w' := by
  obtain ⟨N, hNN⟩ : ∃ N, Hid (l.length = N) := ⟨_, rfl⟩
  have HL : Hid (RdE w a l) := hl
  have hN' : N ≤ 281474976710656 := by rw [← hNN.out]; exact hN
  obtain ⟨cn, hcn⟩ : ∃ cn, Hid (cntE r N = cn) := ⟨_, rfl⟩
  obtain ⟨E, hE⟩ : ∃ E, Hid (bldE how r l = E) := ⟨_, rfl⟩
  obtain ⟨hh, hhh⟩ : ∃ hh, Hid (isHw how = hh) := ⟨_, rfl⟩
  have HH : Hid (∀ W, Calls Try.prog 25 #[.int .i64 how] W fun e w' => e = .returned (.bool hh) ∧ w' = W) := fun W => by rw [← hhh.out]; exact ishow_any how W
  have HC : Hid (∀ W, Calls Try.prog 26 #[.int .i64 r, .int .i64 N] W fun e w' => e = .returned (.int .i64 cn) ∧ w' = W) := fun W => by rw [← hcn.out]; exact counts_any r N W
  have HNo : Hid (∀ W', E ≠ 0 → OwnB W' w.heap.size (.slice none 0 0) (bldB how r l)) := fun W' h => by unfold bldB; rw [hE.out, if_neg h]; exact OwnB.nil _ _
  rw [hNN.out, hE.out]
  clear hl hN
  go_enter Try.func7, Try.ntmps7
  cases hh with
  | false =>
    have HE1 : Hid (E = 1) := by show _ = _; rw [← hE.out]; unfold bldE; rw [if_pos hhh.out]
    go_wp2_with (go_at_call 25; refine (HH.out _).mono ?_; rintro e w1 ⟨rfl, hw⟩; have hw1 := hw.symm; subst hw1; clear hw)
    go_ret2
    rw [HE1.out]
    exact ⟨_, rfl, HNo.out _ (by rw [HE1.out]; decide), Below.refl _ _⟩
  | true =>
    have HEq : Hid (E = if cn ≠ 0 then cn else if bldF how l ≠ 0 then bldF how l else if 4194304 < (wr8 r.toNat l).length then 2 else 0) := by
      show _ = _
      rw [← hE.out]; unfold bldE; rw [if_neg (by rw [hhh.out]; decide), hNN.out, hcn.out]
    by_cases hc0 : cn = 0
    · have hcs : Hid (1 ≤ r ∧ r ≤ 1024 ∧ N ≤ 65536) := by
        have := hcn.out
        unfold cntE at this
        show _ ∧ _
        split at this
        · omega
        · split at this <;> omega
      subst hc0
      obtain ⟨F, hF⟩ : ∃ F, Hid (bldF how l = F) := ⟨_, rfl⟩
      rw [hF.out] at HEq
      have HF0 : Hid (frm (erB how l) N 0 = F) := by show _ = _; rw [← hF.out, ← hNN.out]; rfl
      go_wp2_with (first
        | (go_at_call 26; refine (HC.out _).mono ?_; rintro e w1 ⟨rfl, hw⟩; have hw1 := hw.symm; subst hw1; clear hw)
        | (go_at_call 25; refine (HH.out _).mono ?_; rintro e w1 ⟨rfl, hw⟩; have hw1 := hw.symm; subst hw1; clear hw))
      go_loopw [25] (fun i wr => ∃ k : Nat, k ≤ N ∧ i = .int .i64 k ∧ Hid (frm (erB how l) (N - k) k = F) ∧ Below w.heap.size w wr) (fun i _ => ((N : Int) - intOf i).toNat)
      case atStart => exact ⟨0, Nat.zero_le _, rfl, HF0, Below.refl _ _⟩
      case round =>
        obtain ⟨k, hk, rfl, HF, hb⟩ := hrel
        rcases Nat.lt_or_ge k N with hkN | hkN
        · have hkz : (k : Int) < N := by omega
          obtain ⟨x, hx⟩ : ∃ x, l[k]? = some x := ⟨l[k]'(by rw [hNN.out]; exact hkN), List.getElem?_eq_getElem _⟩
          obtain ⟨b, off, rfl, hbl, hat⟩ := HL.out.get hb hx
          obtain ⟨e0, e1, e2, e3⟩ := hat k x hx
          obtain ⟨er, her⟩ : ∃ er, Hid (x.er = er) := ⟨_, rfl⟩
          have HEn : Hid (∀ W, Calls Try.prog 27 #[.agg #[.string x.u, .int .u64 x.s, .int .i64 x.k, .string x.v]] W fun e w' => e = .returned (.int .i64 er) ∧ Below W.heap.size W w') := fun W => by rw [← her.out]; exact entry_any x.u x.s x.k x.v W
          have HStp : Hid (frm (erB how l) (N - k) k = if erB how l k = 0 then frm (erB how l) (N - (k + 1)) (k + 1) else erB how l k) := by
            have : N - k = N - (k + 1) + 1 := by omega
            rw [this]; rfl
          have HErB : Hid (erB how l k = if er = 0 then (if ordB how l k = true then 1 else 0) else er) := by
            show _ = _
            rw [← her.out]; unfold erB; rw [hx]
          have hbA : Below w.heap.size w (wr.alloc (.cells #[.string x.u, .int .u64 x.s, .int .i64 x.k, .string x.v] 48)) := hb.alloc hb.size _
          have HBA : Hid _ := hbA
          have BX : Hid (Blk (wr.alloc (.cells #[.string x.u, .int .u64 x.s, .int .i64 x.k, .string x.v] 48)) wr.heap.size 48 [.string x.u, .int .u64 x.s, .int .i64 x.k, .string x.v]) := Blk.new wr 48 _
          have HAt : Hid (∀ W, Below w.heap.size w W → ∀ (j : Nat) (e : Ent), l[j]? = some e → EAt W b (off + j * 4) e) := fun W hW j e he => by
            obtain ⟨b', off', e', _, h⟩ := HL.out.get hW hx
            cases e'
            exact h j e he
          by_cases h0 : er = 0
          · subst h0
            have HEr0 : Hid (erB how l k = if ordB how l k = true then 1 else 0) := by show _ = _; rw [HErB.out]; simp
            rcases Nat.eq_zero_or_pos k with hk0 | hk0
            · have HN0 : Hid (frm (erB how l) (N - (k + 1)) (k + 1) = F) := by
                show _ = _
                have : erB how l k = 0 := by rw [HEr0.out]; subst hk0; rfl
                rw [← HF.out, HStp.out, if_pos this]
              have HK0 : Hid (k = 0) := hk0
              clear hbA hk0
              go_wp2_with (go_at_call 27; refine (HEn.out _).mono ?_; rintro e w2 ⟨rfl, hb2⟩; have hb3 := HBA.out.trans (hb2.mono HBA.out.size))
              have hk0 := HK0.out
              have hp0 : ((k : Int) > 0) = False := eq_false (by omega)
              have hp1 : ((0 : Int) < (k : Int)) = False := eq_false (by omega)
              have hd0 : decide ((0 : Int) < (k : Int)) = false := decide_eq_false (by omega)
              have hp2 : (0 < k) = False := eq_false (by omega)
              have hd2 : decide (0 < k) = false := decide_eq_false (by omega)
              clear hk0
              first | go_quiet (fail) | go_big_quiet (fail)
              have hb4 : Hid (Below w.heap.size w (w2.drewN nq)) := hb3.trans ⟨rfl, rfl, rfl, Nat.le_refl _, fun _ _ => rfl⟩
              go_wp2
              go_roundw
              case rel => exact ⟨k + 1, by omega, by go_num, HN0, hb4.out⟩
              case measure => simp [intOf]; omega
            · obtain ⟨j, hjk⟩ : ∃ j, Hid (k = j + 1) := ⟨k - 1, by show _ = _; omega⟩
              have hjk' := hjk.out
              obtain ⟨y, hy⟩ : ∃ y, l[j]? = some y := ⟨l[j]'(by rw [hNN.out]; omega), List.getElem?_eq_getElem _⟩
              obtain ⟨o, ho⟩ : ∃ o, Hid (ordE how y x = o) := ⟨_, rfl⟩
              have HOr : Hid (∀ W, Calls Try.prog 22 #[.int .i64 how, .agg #[.string y.u, .int .u64 y.s, .int .i64 y.k], .agg #[.string x.u, .int .u64 x.s, .int .i64 x.k]] W fun e w' => e = .returned (.int .i64 o) ∧ Below W.heap.size W w') := fun W => by rw [← ho.out]; exact cord_bel how y x W
              have HOb : Hid (ordB how l k = decide (0 ≤ o)) := by show _ = _; rw [hjk'] at hx ⊢; rw [← ho.out]; have e1 : ordB how l (j + 1) = (match l[j]?, l[j + 1]? with | some p, some e => decide (0 ≤ ordE how p e) | _, _ => false) := rfl; rw [e1, hy, hx]
              have HPy : Hid (∀ W, Below w.heap.size w W → W.cell? ⟨b, off + j * 4, none⟩ = some (.string y.u) ∧ W.cell? ⟨b, off + j * 4 + 1, none⟩ = some (.int .u64 y.s) ∧ W.cell? ⟨b, off + j * 4 + 2, none⟩ = some (.int .i64 y.k)) := fun W hW => ⟨(HAt.out W hW j y hy).1, (HAt.out W hW j y hy).2.1, (HAt.out W hW j y hy).2.2.1⟩
              have HBx : Hid (∀ W, Below (wr.heap.size + 1) (wr.alloc (.cells #[.string x.u, .int .u64 x.s, .int .i64 x.k, .string x.v] 48)) W → W.cell? ⟨wr.heap.size, 0, none⟩ = some (.string x.u) ∧ W.cell? ⟨wr.heap.size, 1, none⟩ = some (.int .u64 x.s) ∧ W.cell? ⟨wr.heap.size, 2, none⟩ = some (.int .i64 x.k)) := fun W hW => by
                have := BX.out.upd (S := Non) (Upd.ofBelow (by simpa using hW)) id
                exact ⟨this.cell1 0 _ rfl, this.cell1 1 _ rfl, this.cell1 2 _ rfl⟩
              have hj1 : ((k : Int) - 1) = j := by omega
              have hjw : IntKind.i64.wrap ((k : Int) - 1) = j := by rw [IntKind.wrap_i64]; omega
              have hjN : (j : Int) < N := by omega
              have hkp : (0 : Int) < (k : Int) := by omega
              clear hjk'
              clear hbA hat
              go_wp2_with (go_at_call 27; refine (HEn.out _).mono ?_; rintro e w2 ⟨rfl, hb2⟩; have hb3 := HBA.out.trans (hb2.mono HBA.out.size))
              have hbx : Below (wr.heap.size + 1) (wr.alloc (.cells #[.string x.u, .int .u64 x.s, .int .i64 x.k, .string x.v] 48)) w2 := by simpa using hb2
              obtain ⟨y0, y1, y2⟩ := HPy.out w2 hb3
              obtain ⟨z0, z1, z2⟩ := HBx.out w2 hbx
              have HB3 : Hid (Below w.heap.size w w2) := hb3
              have HBX : Hid (Below (wr.heap.size + 1) (wr.alloc (.cells #[.string x.u, .int .u64 x.s, .int .i64 x.k, .string x.v] 48)) w2) := hbx
              have HKp : Hid (∀ W, Below w2.drew.heap.size w2.drew W → (W.cell? ⟨b, off + j * 4, none⟩ = some (.string y.u) ∧ W.cell? ⟨b, off + j * 4 + 1, none⟩ = some (.int .u64 y.s) ∧ W.cell? ⟨b, off + j * 4 + 2, none⟩ = some (.int .i64 y.k)) ∧ W.cell? ⟨wr.heap.size, 0, none⟩ = some (.string x.u) ∧ W.cell? ⟨wr.heap.size, 1, none⟩ = some (.int .u64 x.s) ∧ W.cell? ⟨wr.heap.size, 2, none⟩ = some (.int .i64 x.k)) := fun W hW => by
                have hW' : Below w2.heap.size w2 W := ((Below.refl _ _).drew).trans hW
                exact ⟨HPy.out W (HB3.out.trans (hW'.mono HB3.out.size)), HBx.out W (HBX.out.trans (hW'.mono (by have := HBX.out.size; simpa using this)))⟩
              clear hb2 hb3 hbx hj1 hjN
              have hj1 : ((k : Int) - 1) = j := by have := hjk.out; omega
              have hjw2 : IntKind.i64.wrap (j : Int) = j := by rw [IntKind.wrap_i64]; have := hjk.out; omega
              have hq1 : ((j : Int) < N) = True := eq_true (by have := hjk.out; omega)
              have hq2 : ((j : Int) < 0) = False := eq_false (by omega)
              have hq3 : ((N : Int) ≤ j) = False := eq_false (by have := hjk.out; omega)
              have hq4 : (j < N) = True := eq_true (by have := hjk.out; omega)
              have hq5 : (N ≤ j) = False := eq_false (by have := hjk.out; omega)
              go_region_held_law (fun w' => (w'.cell? ⟨b, off + j * 4, none⟩ = some (.string y.u) ∧ w'.cell? ⟨b, off + j * 4 + 1, none⟩ = some (.int .u64 y.s) ∧ w'.cell? ⟨b, off + j * 4 + 2, none⟩ = some (.int .i64 y.k)) ∧ w'.cell? ⟨wr.heap.size, 0, none⟩ = some (.string x.u) ∧ w'.cell? ⟨wr.heap.size, 1, none⟩ = some (.int .u64 x.s) ∧ w'.cell? ⟨wr.heap.size, 2, none⟩ = some (.int .i64 x.k))
                (first | (go_keep; done) | exact HKp.out _ hb5)
                ((go_at_call 22; refine (HOr.out _).mono ?_; rintro e w5 ⟨rfl, hb5⟩))
              have hb6 : Hid (Below w.heap.size w w5) := HB3.out.trans ((((Below.refl _ _).drew).trans hb5).mono HB3.out.size)
              by_cases ho0 : 0 ≤ o
              · have HV1 : Hid (F = 1 ∧ E = 1) := by
                  have e0 : erB how l k = 1 := by rw [HEr0.out, HOb.out, decide_eq_true ho0]; rfl
                  have e1 : F = 1 := by rw [← HF.out, HStp.out, e0]; rfl
                  refine ⟨e1, ?_⟩
                  rw [HEq.out, if_neg (by simp), e1, if_pos (by decide)]
                clear hb5
                go_wp2
                go_ret2
                rw [HV1.out.2]
                exact ⟨.slice none 0 0, rfl, HNo.out _ (by rw [HV1.out.2]; decide), hb6.out⟩
              · have HN0 : Hid (frm (erB how l) (N - (k + 1)) (k + 1) = F) := by
                  show _ = _
                  have : erB how l k = 0 := by rw [HEr0.out, HOb.out, decide_eq_false ho0]; rfl
                  rw [← HF.out, HStp.out, if_pos this]
                clear hb5
                go_wp2
                go_roundw
                case rel => exact ⟨k + 1, by omega, by go_num, HN0, hb6.out⟩
                case measure => simp [intOf]; omega
          · have hne : (er != 0) = true := by simpa using h0
            have HV0 : Hid (F = er ∧ E = er) := by
              have e1 : F = er := by rw [← HF.out, HStp.out, HErB.out, if_neg h0, if_neg h0]
              refine ⟨e1, ?_⟩
              rw [HEq.out, if_neg (by simp), e1, if_pos h0]
            have HE0 : Hid (E ≠ 0) := by rw [HV0.out.2]; exact h0
            clear h0 hbA
            go_wp2_with (go_at_call 27; refine (HEn.out _).mono ?_; rintro e w2 ⟨rfl, hb2⟩; have hb3 := HBA.out.trans (hb2.mono HBA.out.size))
            go_ret2
            rw [HV0.out.2]
            exact ⟨.slice none 0 0, rfl, HNo.out _ HE0.out, hb3⟩
        · have hkz : ¬ (k : Int) < N := by omega
          obtain rfl : k = N := by omega
          have hF0 : F = 0 := by rw [← HF.out, Nat.sub_self]; rfl
          have HFit : Hid (Fit l) := fit_bld (by rw [hF.out]; exact hF0) hs
          obtain ⟨q, hq⟩ : ∃ q : Nat, r = q := ⟨r.toNat, by have := hcs.out; omega⟩
          subst hq
          obtain ⟨Z, hZ⟩ : ∃ Z : Nat, Hid ((wr8 q l).length = Z) := ⟨_, rfl⟩
          have HSo : Hid (Calls Try.prog 28 #[.int .i64 q, .slice a k c] wr fun e w' => e = .returned (.int .i64 Z) ∧ Below wr.heap.size wr w') := by
            have := sizeof_any (HL.out.below hb) HFit.out q (by have := hcs.out; omega) (by have := hcs.out; omega) (by rw [hNN.out]; exact hcs.out.2.2) c
            rw [hNN.out, hZ.out] at this
            exact this
          have HE2 : Hid (E = if 4194304 < Z then 2 else 0) := by
            show _ = _
            rw [HEq.out, if_neg (by simp), hF0, if_neg (by simp)]
            have : (q : Int).toNat = q := by simp
            rw [this, hZ.out]
          by_cases hZl : Z ≤ 4194304
          · have HE3 : Hid (E = 0) := by show _ = _; rw [HE2.out, if_neg (by omega)]
            have hZi : ¬ (4194304 : Int) < Z := by omega
            have HWr : Hid (∀ W, Below w.heap.size w W → Calls Try.prog 29 #[.int .i64 Z, .int .i64 q, .slice a k c] W fun e w' => ∃ v, e = .returned v ∧ OwnB w' w.heap.size v (bldB how q l) ∧ Below W.heap.size W w') := fun W hW => by
              have := write_any (HL.out.below hW) HFit.out q (by have := hcs.out; omega) (by have := hcs.out; omega) (by rw [hNN.out]; exact hcs.out.2.2) c Z (by omega)
              rw [hNN.out] at this
              refine this.mono ?_
              rintro e w' ⟨v, rfl, ho, hb'⟩
              refine ⟨v, rfl, ?_, hb'⟩
              unfold bldB
              rw [hE.out, if_pos HE3.out]
              have : (q : Int).toNat = q := by simp
              rw [this]
              exact ho.mono hW.size
            have hE0 := HE3.out
            subst hE0
            clear HE3 HE2
            go_wp2_with (first
              | (go_at_call 29; refine (HWr.out _ hb5).mono ?_; rintro e w6 ⟨v6, rfl, ho6, hb6⟩; have hb7 := hb5.trans (hb6.mono hb5.size))
              | (go_at_call 28; refine HSo.out.mono ?_; rintro e w4 ⟨rfl, hb4⟩; have hb5 := hb.trans (hb4.mono hb.size)))
            go_ret2
            exact ⟨_, rfl, ho6, hb7⟩
          · have HE3 : Hid (E = 2) := by show _ = _; rw [HE2.out, if_pos (by omega)]
            have hZi : (4194304 : Int) < Z := by omega
            go_wp2_with (go_at_call 28; refine HSo.out.mono ?_; rintro e w4 ⟨rfl, hb4⟩; have hb5 := hb.trans (hb4.mono hb.size))
            go_ret2
            rw [HE3.out]
            exact ⟨.slice none 0 0, rfl, HNo.out _ (by rw [HE3.out]; decide), hb5⟩
    · have hne : (cn != 0) = true := by simpa using hc0
      have HE1 : Hid (E = cn) := by show _ = _; rw [HEq.out, if_pos hc0]
      have HE0 : Hid (E ≠ 0) := by rw [HE1.out]; exact hc0
      clear hc0
      go_wp2_with (first
        | (go_at_call 26; refine (HC.out _).mono ?_; rintro e w1 ⟨rfl, hw⟩; have hw1 := hw.symm; subst hw1; clear hw)
        | (go_at_call 25; refine (HH.out _).mono ?_; rintro e w1 ⟨rfl, hw⟩; have hw1 := hw.symm; subst hw1; clear hw))
      go_ret2
      rw [HE1.out]
      exact ⟨.slice none 0 0, rfl, HNo.out _ HE0.out, Below.refl _ _⟩
end Go.Proofs.Ytbnllobofndckaa
