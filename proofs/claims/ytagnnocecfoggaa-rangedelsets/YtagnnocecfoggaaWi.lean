/-
  The reference's with.
-/
import Derived.Test.YtagnnocecfoggaaRw
namespace Go.Proofs.Ytagnnocecfoggaa
open Go.RowKit
set_option linter.unusedVariables false
set_option linter.unusedSimpArgs false
set_option maxRecDepth 100000 in
set_option maxHeartbeats 1000000 in
theorem with_any {w : World} {how : Int} {a : Option Addr} {c : Nat} {o : List ByteArray} (h : RdC sc 1 w a c o) (x : ByteArray) (hl : o.length ≤ 100000) :
    Calls Try.prog 34 #[.int .i64 how, .slice a o.length c, .string x] w fun e w' => ∃ a' c', e = .returned (.slice a' (insG (kl how) o x).length c') ∧ RdC sc 1 w' a' c' (insG (kl how) o x) ∧ Below w.heap.size w w' ∧ ((a' = a ∧ c' = c ∧ insG (kl how) o x = o) ∨ w'.ownsRow w.heap.size 9 1 (.slice a' (insG (kl how) o x).length c') (insG (kl how) o x).length (cls sc (insG (kl how) o x))) := by
  obtain ⟨R, hR⟩ : ∃ R, Hid (insG (kl how) o x = R) := ⟨_, rfl⟩
  rw [hR.out]
  have H : Hid (RdC sc 1 w a c o) := h
  obtain ⟨p, hp⟩ : ∃ p, Hid (plc (kl how) o x = p) := ⟨_, rfl⟩
  have HR : Hid (R = if o[p]? = some x then o else o.take p ++ [x] ++ o.drop p) := by show _ = _; rw [← hR.out, ← hp.out]; rfl
  have hpl : p ≤ o.length := by rw [← hp.out]; exact plc_le _ _
  have HLo : Hid (∀ (i : Nat) (y : ByteArray), i < p → o[i]? = some y → kl how y x = true) := fun i y hi hy => by
    obtain ⟨s1, _⟩ := plc_split (lt := (kl how)) o x
    apply take_lt (lt := (kl how)) (o := o) (x := x)
    rw [← s1, hp.out]
    exact List.mem_of_getElem? (i := i) (by rw [List.getElem?_take_of_lt hi]; exact hy)
  have HHi : Hid (∀ (y : ByteArray), o[p]? = some y → kl how y x = false) := fun y hy => by
    have : o[(o.takeWhile (fun y => kl how y x)).length]? = some y := by
      have e : (o.takeWhile (fun y => kl how y x)).length = p := hp.out
      rw [e]; exact hy
    obtain ⟨h1, h2⟩ := List.getElem?_eq_some_iff.1 this
    have h3 := List.head?_dropWhile_not (fun y => kl how y x) o
    obtain ⟨_, s2⟩ := plc_split (lt := (kl how)) o x
    rw [hp.out] at s2
    have h4 : (o.dropWhile (fun y => kl how y x)).head? = some y := by rw [← s2, List.head?_drop]; exact hy
    rw [h4] at h3
    simpa using h3
  have hcap := h.cap
  obtain ⟨N, hN⟩ : ∃ N, Hid (N = o.length) := ⟨_, rfl⟩
  rw [← hN.out] at hpl hl hcap ⊢
  -- the copy
  have HCp : Hid (o[p]? ≠ some x → ∃ v1 w1 v2 w2 a3 c3 w3,
      (Builtin.append_ #[59, 59] 59 #[.slice (some ⟨w.heap.size, 0, none⟩) 0 0, .slice a p c]).run Try.prog (w.alloc (.cells #[] 9)) = .ok v1 w1 ∧
      (Builtin.append_ #[59, 59] 59 #[v1, .slice (some ⟨w1.heap.size, 0, none⟩) 1 1]).run Try.prog (w1.alloc (.cells #[.string x] 9)) = .ok v2 w2 ∧
      (Builtin.append_ #[59, 59] 59 #[v2, .slice (cutK 1 a c p) (N - p) (c - p)]).run Try.prog w2 = .ok (.slice a3 R.length c3) w3 ∧
      RdC sc 1 w3 a3 c3 R ∧ Below w.heap.size w w3 ∧ w3.ownsRow w.heap.size 9 1 (.slice a3 R.length c3) R.length (cls sc R)) := fun hne => by
    have hb0 : Below w.heap.size w (w.alloc (.cells #[] 9)) := (Below.refl _ _).alloc (Nat.le_refl _) _
    have ho : (w.alloc (.cells #[] 9)).ownsRow w.heap.size 9 1 (.slice (some ⟨w.heap.size, 0, none⟩) 0 0) ([] : List ByteArray).length (cls sc []) := World.ownsRow_made (base := w.heap.size) (e := 9) (size := 1) w #[] 0 (Nat.le_refl _) (by unfold maxLen; omega) rfl
    have htk : (o.take p).length = p := by simp; rw [← hN.out]; omega
    obtain ⟨v1, w1, r1, o1, u1⟩ := app_run (k := 1) sc_k sc_1 Try.underlying59 info9 rfl (by decide) ho (by simp) (cap := c) ((h.rd.below hb0).take p) h.nn (by rw [htk]; simp; omega) (by rw [htk]; unfold maxLen; simp; omega)
    have b1 : Below w.heap.size w w1 := hb0.trans (u1.below (fun k hk => Nat.lt_of_lt_of_le hk hb0.size) (fun j hj => by cases hj; exact Nat.le_refl _))
    have hb2 : Below w1.heap.size w1 (w1.alloc (.cells #[.string x] 9)) := (Below.refl _ _).alloc (Nat.le_refl _) _
    obtain ⟨v2, w2, r2, o2, u2, _⟩ := push_g (P := Try.prog) sc_k sc_1 Try.underlying59 info9 rfl (by decide) (x := x) (row_upd o1 (S := Non) (Upd.ofBelow hb2) (fun _ _ h => h)) (by have := b1.size; simp; omega) (Blk.new w1 9 (sc x)) 59 (by rw [List.nil_append, htk]; omega) (by rw [List.nil_append, htk]; unfold maxLen; omega)
    have b2 : Below w.heap.size w w2 := (b1.trans (hb2.mono b1.size)).trans (u2.below (fun k hk => Nat.lt_of_lt_of_le hk (Nat.le_trans b1.size hb2.size)) (fun j hj => (row_blk o1 j hj).1))
    have hdl : (o.drop p).length = N - p := by simp; rw [← hN.out]
    have hll : ([] ++ o.take p ++ [x]).length = p + 1 := by simp only [List.nil_append, List.length_append, List.length_singleton]; omega
    obtain ⟨v3, w3, r3, o3, u3⟩ := app_run (k := 1) sc_k sc_1 Try.underlying59 info9 rfl (by decide) o2 b2.size (cap := c - p) ((h.rd.below b2).drop (c := c) (m := p) h.cap) (cutK_none h.nn) (by rw [hll, hdl]; omega) (by rw [hll, hdl]; unfold maxLen; omega)
    have b3 : Below w.heap.size w w3 := b2.trans (u3.below (fun k hk => Nat.lt_of_lt_of_le hk b2.size) (fun j hj => (row_blk o2 j hj).1))
    have hRe : [] ++ o.take p ++ [x] ++ o.drop p = R := by rw [HR.out, if_neg hne]; simp
    rw [hRe] at o3
    obtain ⟨a3, c3, rfl, hrdc⟩ := row_rdc sc_k o3
    rw [htk] at r1
    rw [hdl] at r3
    exact ⟨v1, w1, v2, w2, a3, c3, w3, r1, r2, r3, hrdc, b3, o3⟩
  have hcl := fun W => cutK_run elem59 slc59 size9 a N c p hpl W
  have hch := fun W => cutH_run elem59 slc59 size9 a N c p (by omega) W
  generalize cutK 1 a c p = CA at hcl HCp
  generalize N - p = D at hcl HCp
  generalize c - p = E at hcl HCp
  clear h
  go_enter Try.func34, Try.ntmps34
  go_wp2_with fail
  go_loopw [7] (fun s wr => ∃ i : Nat, i ≤ p ∧ s = .int .i64 i ∧ Hid (wr = w)) (fun s _ => ((p : Int) - intOf s).toNat)
  case atStart => exact ⟨0, Nat.zero_le _, rfl, rfl⟩
  case round =>
    obtain ⟨i, hi, rfl, HI⟩ := hrel
    have hwr := HI.out.symm
    clear HI
    subst hwr
    rcases Nat.lt_or_ge i p with hip | hip
    · have hiz : (i : Int) < N := by omega
      obtain ⟨y, hy⟩ : ∃ y, o[i]? = some y := ⟨_, List.getElem?_eq_getElem (by rw [← hN.out]; omega)⟩
      obtain ⟨g, of, ha, hat⟩ := H.out.rd.at_ hy
      have c0 := hat.s1
      rw [Nat.mul_one] at c0
      have hlt := HLo.out i y hip hy
      have hlt' : cmpH how y x < 0 := by simpa [kl] using hlt
      subst ha
      clear hy hat
      go_wp2_with (go_at_call 26; refine (rcmp_any _ _ _ _).mono ?_; rintro e w9 ⟨rfl, hw⟩; have hw' := hw.symm; subst hw')
      go_roundw
      case rel => exact ⟨i + 1, by omega, by go_num, (by first | rfl | exact True.intro)⟩
      case measure => simp [intOf]; omega
    · obtain rfl : i = p := by omega
      rcases Nat.lt_or_ge i N with hiN | hiN
      · have hiz : (i : Int) < N := by omega
        obtain ⟨y, hy⟩ : ∃ y, o[i]? = some y := ⟨_, List.getElem?_eq_getElem (by rw [← hN.out]; omega)⟩
        obtain ⟨g, of, ha, hat⟩ := H.out.rd.at_ hy
        have c0 := hat.s1
        rw [Nat.mul_one] at c0
        have hlt := HHi.out y hy
        have hlt' : ¬ cmpH how y x < 0 := by simpa [kl] using hlt
        have hltd : decide (cmpH how y x < 0) = false := by simpa using hlt'
        by_cases hxy : y = x
        · have hyx := hxy.symm
          clear hxy
          subst hyx
          have hee : (x.toList == x.toList) = true := by simp
          have hRo : R = o := by rw [HR.out, if_pos hy]
          have HRo : Hid (R = o) := hRo
          subst ha
          clear hy hat hRo HCp
          go_wp2_with (go_at_call 26; refine (rcmp_any _ _ _ _).mono ?_; rintro e w9 ⟨rfl, hw⟩; have hw' := hw.symm; subst hw')
          go_ret
          refine ⟨some ⟨g, of, none⟩, c, ?_, ?_, Below.refl _ _, .inl ⟨rfl, rfl, HRo.out⟩⟩
          · rw [HRo.out, ← hN.out]; rfl
          · rw [HRo.out]; exact H.out
        · have hee : (y.toList == x.toList) = false := by rw [Bool.eq_false_iff]; intro e; simp only [beq_iff_eq, ByteArray.toList_eq] at e; exact hxy (ba_eq.1 e)
          obtain ⟨v1, w1, v2, w2, a3, c3, w3, r1, r2, r3, r4, r5, r6⟩ := HCp.out (fun e => hxy (by rw [hy] at e; cases e; rfl))
          have HP : Hid (RdC sc 1 w3 a3 c3 R ∧ Below w.heap.size w w3 ∧ w3.ownsRow w.heap.size 9 1 (.slice a3 R.length c3) R.length (cls sc R)) := ⟨r4, r5, r6⟩
          subst ha
          clear hy hat HCp r4 r5 r6
          go_wp2_with (first
            | (go_at_call 26; refine (rcmp_any _ _ _ _).mono ?_; rintro e w9 ⟨rfl, hw⟩; have hw' := hw.symm; subst hw')
            | (have hx := r1; clear hx; at_builtin; refine Lib.wpList_append_run _ rfl _ _ _ _ rfl _ _ rfl rfl _ _ r1 ?_; clear r1)
            | (have hx := r2; clear hx; at_builtin; refine Lib.wpList_append_run _ rfl _ _ _ _ rfl _ _ rfl rfl _ _ r2 ?_; clear r2)
            | (have hx := r3; clear hx; at_builtin; refine Lib.wpList_append_run _ rfl _ _ _ _ rfl _ _ rfl rfl _ _ r3 ?_; clear r3))
          go_ret
          exact ⟨_, _, rfl, HP.out.1, HP.out.2.1, .inr HP.out.2.2⟩
      · have hz : ¬ ((i : Int) < N) := by omega
        have hzd : decide ((i : Int) < N) = false := by simpa using hz
        obtain ⟨v1, w1, v2, w2, a3, c3, w3, r1, r2, r3, r4, r5, r6⟩ := HCp.out (by rw [List.getElem?_eq_none (by rw [← hN.out]; omega)]; simp)
        have HP : Hid (RdC sc 1 w3 a3 c3 R ∧ Below w.heap.size w w3 ∧ w3.ownsRow w.heap.size 9 1 (.slice a3 R.length c3) R.length (cls sc R)) := ⟨r4, r5, r6⟩
        clear HCp r4 r5 r6
        go_wp2_with (first
          | (have hx := r1; clear hx; at_builtin; refine Lib.wpList_append_run _ rfl _ _ _ _ rfl _ _ rfl rfl _ _ r1 ?_; clear r1)
          | (have hx := r2; clear hx; at_builtin; refine Lib.wpList_append_run _ rfl _ _ _ _ rfl _ _ rfl rfl _ _ r2 ?_; clear r2)
          | (have hx := r3; clear hx; at_builtin; refine Lib.wpList_append_run _ rfl _ _ _ _ rfl _ _ rfl rfl _ _ r3 ?_; clear r3))
        go_ret
        exact ⟨_, _, rfl, HP.out.1, HP.out.2.1, .inr HP.out.2.2⟩
end Go.Proofs.Ytagnnocecfoggaa
