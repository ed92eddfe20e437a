/-
  RangedelSets: the law's walk.
-/
import Derived.Test.YtagnnocecfoggaaLs
namespace Go.Proofs.Ytagnnocecfoggaa
open Go.RowKit
set_option linter.unusedVariables false
set_option linter.unusedSimpArgs false
theorem row_is_blk {w : World} {base g n c : Nat} {T : List Tm} (h : RowT w base (.slice (some ⟨g, 0, none⟩) n c) T) : ∃ cs, Blk w g 56 cs ∧ T.length * 3 ≤ cs.length := by
  rcases h.2 with ⟨e, _⟩ | ⟨g', cap', cur, e, _, hg, hn, _, hs, _⟩
  · cases e
  · cases e
    refine ⟨cur.toList, by unfold Blk; simpa using hg, ?_⟩
    have : cur.toList.length = cur.size := Array.length_toList
    omega
theorem cellsA_below {W W' : World} {xb : Nat} {x : Ak} (hb : Below W.heap.size W W') (h : cellsA W xb x) : cellsA W' xb x := ⟨cell_below hb h.1, cell_below hb h.2.1, cell_below hb h.2.2.1, cell_below hb h.2.2.2.1, cell_below hb h.2.2.2.2.1, cell_below hb h.2.2.2.2.2.1, cell_below hb h.2.2.2.2.2.2⟩
set_option maxRecDepth 100000 in
set_option maxHeartbeats 4000000 in
theorem sets_walk {w : World} {how : Int} {aa ab : Option Addr} {ca cb : Nat} {la : List Tm} {A : List Ak} (ha : RdT w aa la) (hna : aa = none → ca = 0) (hA : Rd Ak.c 7 w ab A) (hla : la.length * 40 ≤ 140737488355328) (hlA : A.length ≤ 140737488355328) (hsa : ∀ t ∈ la, 0 ≤ t.s) (hxA : ∀ x ∈ A, 0 ≤ x.s ∧ 0 ≤ x.lo ∧ 0 ≤ x.n) :
    Calls Try.prog 4 #[.int .i64 how, .slice aa la.length ca, .slice ab A.length cb] w fun e w' => e = .returned (.bool true) ∧ Below w.heap.size w w' := by
  have HA : Hid (∀ W, Below w.heap.size w W → Calls Try.prog 8 #[.slice aa la.length ca] W fun e w' => ∃ v, e = .returned v ∧ RowT w' W.heap.size v la ∧ Below W.heap.size W w') := fun W hb => copied_any (ha.below hb) hna hla
  have HNw : Hid (∀ W v, (∃ b, RowT W b v la) → Calls Try.prog 15 #[.int .i64 how, v] W fun e w' => ∃ p, e = .returned (.tuple #[.pointer p, .int .i64 (splE how la)]) ∧ Below W.heap.size W w' ∧ (splE how la ≠ 0 → p = none) ∧ (splE how la = 0 → ∃ S a' c, p = some ⟨S, 0, none⟩ ∧ St w' S how a' c (frs how la))) := fun W v ⟨b, hr⟩ => by
    obtain ⟨a, c, rfl, _, hrd, _⟩ := row_rd tm_k hr
    exact New_opt hrd how
  have HRs : Hid (∀ W, Below w.heap.size w W → Calls Try.prog 9 #[.int .i64 how, .slice aa la.length ca] W fun e w' => ∃ a' n' c, e = .returned (.tuple #[.slice a' n' c, .int .i64 (splE how la)]) ∧ n' = (sL how la).length ∧ RdF w' a' (sL how la) ∧ Below W.heap.size W w') := fun W hb => by
    refine (rSplit_any (cap := ca) (ha.below hb) how).mono ?_
    rintro e w' ⟨a', c, h1, _, h2, h3⟩
    exact ⟨a', _, c, h1, rfl, h2, h3⟩
  have HLi : Hid (∀ W, Calls Try.prog 14 #[] W fun e w' => e = .returned (.bool true) ∧ Below W.heap.size W w') := lives_any
  have HRn : Hid (∀ w3 S a' c' a3 c3, splE how la = 0 → St w3 S how a' c' (frs how la) → RdF w3 a3 (frs how la) → ∀ x : Ak, 0 ≤ x.s ∧ 0 ≤ x.lo ∧ 0 ≤ x.n → ∃ NC CT MM CV WH NB NX, Rn w w3 S how aa a3 la.length (frs how la).length ca c3 NC CT x MM CV WH NB NX) := fun w3 S a' c' a3 c3 h0 h1 h2 x hx => rn_of h0 ha hla hsa h1 h2 x hx
  have HEnd : Hid (∀ w3 S a' c' a3 c3, splE how la = 0 → St w3 S how a' c' (frs how la) → RdF w3 a3 (frs how la) → ∀ W, Below w3.heap.size w3 W → (Calls Try.prog 27 #[ptr S] W fun e w' => ∃ b' k', e = .returned (.slice b' (frs how la).length k') ∧ RdF w' b' (frs how la) ∧ Below W.heap.size W w') ∧ (∀ b' k', RdF W b' (frs how la) → Calls Try.prog 12 #[.slice b' (frs how la).length k', .slice a3 (frs how la).length c3] W fun e w' => e = .returned (.bool true) ∧ Below W.heap.size W w')) := fun w3 S a' c' a3 c3 h0 h1 h2 W hb => by
    have hg : FrG how (frs how la) := frs_g (splE_len h0).1
    refine ⟨Fragments_any (h1.below hb) hg, fun b' k' h3 => frags_same h3 (h2.below hb) (by have := hg.len; omega) (fun f hf => by have := hg.qlen f hf; omega)⟩
  have HAk : Hid (Rd Ak.c 7 w ab A) := hA
  have HxA : Hid (∀ x ∈ A, 0 ≤ x.s ∧ 0 ≤ x.lo ∧ 0 ≤ x.n) := hxA
  obtain ⟨NA, hNA⟩ : ∃ NA, Hid (la.length = NA) := ⟨_, rfl⟩
  obtain ⟨N, hN⟩ : ∃ N, Hid (A.length = N) := ⟨_, rfl⟩
  obtain ⟨E, hE⟩ : ∃ E, splE how la = E := ⟨_, rfl⟩
  have HsL : Hid (E = 0 → sL how la = frs how la) := fun h0 => by unfold sL; rw [if_pos (hE.trans h0)]
  rw [hNA.out] at HA HRs HRn ⊢
  rw [hN.out] at hlA ⊢
  rw [hE] at HNw HRs HRn HEnd
  have HB0 : Hid (Below w.heap.size w w) := Below.refl _ _
  clear ha hna hA hla hsa hxA hE
  go_enter Try.func4, Try.ntmps4
  go_upto_region 2 with (first
    | (go_at_call 8; refine (HA.out _ HB0.out).mono ?_; rintro e w1 ⟨v1, rfl, r1, r2⟩
       have HN1 := HNw.out w1 v1 ⟨_, r1⟩
       have HB1 : Hid (Below w.heap.size w w1) := r2
       clear r1 r2)
    | (go_at_call 15; refine HN1.mono ?_; rintro e w2 ⟨p2, rfl, r1, r2, r3⟩
       have HB2 : Hid (Below w.heap.size w w2) := HB1.out.trans (r1.mono HB1.out.size)
       have HP2 : Hid ((E ≠ 0 → p2 = none) ∧ (E = 0 → ∃ S a' c, p2 = some ⟨S, 0, none⟩ ∧ St w2 S how a' c (frs how la))) := ⟨r2, r3⟩
       clear r1 r2 r3 HN1))
  go_upto_region 3 with (first
    | (go_at_call 9; refine (HRs.out _ HB2.out).mono ?_; rintro e w3 ⟨a3, n3, c3, rfl, r0, r1, r2⟩
       have HB3 : Hid (Below w.heap.size w w3 ∧ Below w2.heap.size w2 w3) := ⟨HB2.out.trans (r2.mono HB2.out.size), r2⟩
       have HF3 : Hid (n3 = (sL how la).length ∧ RdF w3 a3 (sL how la)) := ⟨r0, r1⟩
       clear r0 r1 r2))
  have hEE : (E != E) = false := by simp
  by_cases h0 : E = 0
  · subst h0
    obtain ⟨S, a', c', rfl, hSt⟩ := HP2.out.2 rfl
    have hSt3 := hSt.below HB3.out.2
    have hF3 := HF3.out
    rw [HsL.out rfl] at hF3
    have HRn' : Hid (∀ x : Ak, 0 ≤ x.s ∧ 0 ≤ x.lo ∧ 0 ≤ x.n → ∃ NC CT MM CV WH NB NX, Rn w w3 S how aa a3 NA n3 ca c3 NC CT x MM CV WH NB NX) := fun x hx => by rw [hF3.1]; exact HRn.out w3 S a' c' a3 c3 rfl hSt3 hF3.2 x hx
    have HEn : Hid (∀ W, Below w3.heap.size w3 W → (Calls Try.prog 27 #[ptr S] W fun e w' => ∃ b' k', e = .returned (.slice b' n3 k') ∧ RdF w' b' (frs how la) ∧ Below W.heap.size W w') ∧ (∀ b' k', RdF W b' (frs how la) → Calls Try.prog 12 #[.slice b' n3 k', .slice a3 n3 c3] W fun e w' => e = .returned (.bool true) ∧ Below W.heap.size W w')) := fun W hb => by rw [hF3.1]; exact HEnd.out w3 S a' c' a3 c3 rfl hSt3 hF3.2 W hb
    clear hSt hSt3 hF3 HRn HEnd HNw HRs HA HP2 HF3 HsL
    go_wp2_with fail
    go_loopw [11] (fun s11 wr => ∃ k : Nat, k ≤ N ∧ s11 = .int .i64 k ∧ Hid (Below w.heap.size w wr ∧ Below w3.heap.size w3 wr)) (fun s11 _ => ((N : Int) - intOf s11).toNat)
    case atStart => exact ⟨0, Nat.zero_le _, rfl, HB3.out.1, Below.refl _ _⟩
    case round =>
      obtain ⟨k, hk, rfl, HK⟩ := hrel
      rcases Nat.lt_or_ge k N with hkN | hkN
      · have hkz : (k : Int) < N := by omega
        obtain ⟨x, hx⟩ : ∃ x, A[k]? = some x := ⟨_, List.getElem?_eq_getElem (by rw [hN.out]; exact hkN)⟩
        obtain ⟨NC, CT, MM, CV, WH, NBo, NX, hR⟩ := HRn'.out x (HxA.out x (List.mem_of_getElem? hx))
        have HR : Hid (Rn w w3 S how aa a3 NA n3 ca c3 NC CT x MM CV WH NBo NX) := hR
        have hNCl : NC ≤ 10000000 := hR.le
        obtain ⟨g, o, rfl, hat⟩ := (HAk.out.below HK.out.1).at_ hx
        obtain ⟨t0, t1, t2, t3, t4, t5, t6⟩ := Ak.cells hat
        clear hR hx hat
        have hbx : Below wr.heap.size wr (wr.alloc (.cells #[.string x.b, .string x.e, .string x.u, .int .u64 x.s, .int .i64 x.kd, .int .u64 x.lo, .int .u64 x.n] 42)) := (Below.refl _ _).alloc (Nat.le_refl _) _
        have hX : Blk (wr.alloc (.cells #[.string x.b, .string x.e, .string x.u, .int .u64 x.s, .int .i64 x.kd, .int .u64 x.lo, .int .u64 x.n] 42)) wr.heap.size 42 x.c := Blk.new wr 42 x.c
        have HX : Hid (cellsA (wr.alloc (.cells #[.string x.b, .string x.e, .string x.u, .int .u64 x.s, .int .i64 x.kd, .int .u64 x.lo, .int .u64 x.n] 42)) wr.heap.size x) := ⟨hX.cell1 0 _ rfl, hX.cell1 1 _ rfl, hX.cell1 2 _ rfl, hX.cell1 3 _ rfl, hX.cell1 4 _ rfl, hX.cell1 5 _ rfl, hX.cell1 6 _ rfl⟩
        have HBx : Hid (Below wr.heap.size wr (wr.alloc (.cells #[.string x.b, .string x.e, .string x.u, .int .u64 x.s, .int .i64 x.kd, .int .u64 x.lo, .int .u64 x.n] 42))) := hbx
        clear hX hbx
        obtain ⟨W0, rfl⟩ : ∃ W0, W0 = wr := ⟨_, rfl⟩
        go_upto_region 11 with fail
        clear t0 t1 t2 t3 t4 t5 t6
        obtain ⟨xb, hxb⟩ : ∃ xb, Hid (W0.heap.size = xb) := ⟨_, rfl⟩
        rw [hxb.out] at HX ⊢
        generalize W0.alloc (.cells #[.string x.b, .string x.e, .string x.u, .int .u64 x.s, .int .i64 x.kd, .int .u64 x.lo, .int .u64 x.n] 42) = W1 at *
        have HP : Hid (∀ W, Below W1.heap.size W1 W → Below w.heap.size w W ∧ Below w3.heap.size w3 W ∧ cellsA W xb x) := fun W hb => by
          have h1 : Below W0.heap.size W0 W := HBx.out.trans (hb.mono HBx.out.size)
          exact ⟨HK.out.1.trans (h1.mono HK.out.1.size), HK.out.2.trans (h1.mono HK.out.2.size), cellsA_below hb HX.out⟩
        obtain ⟨q0, q1, q2, q3, q4, q5, q6⟩ := HX.out
        have HC : Hid (Below W1.heap.size W1 W1) := Below.refl _ _
        go_upto_region 12 with (first
          | (go_at_call 16; refine (HR.out.nx _ (HP.out _ HC.out).2.1).mono ?_; rintro e w4 ⟨rfl, r2⟩
             replace HC : Hid (Below W1.heap.size W1 w4) := HC.out.trans (r2.mono HC.out.size)
             clear r2 q0 q1 q2 q3 q4 q5 q6
             obtain ⟨q0, q1, q2, q3, q4, q5, q6⟩ := (HP.out _ HC.out).2.2))
        go_upto_region 13 with (first
          | (go_at_call 17; refine (HR.out.nr _ (HP.out _ HC.out).2.1).mono ?_; rintro e w5 ⟨rfl, r2⟩
             replace HC : Hid (Below W1.heap.size W1 w5) := HC.out.trans (r2.mono HC.out.size)
             clear r2 q0 q1 q2 q3 q4 q5 q6
             obtain ⟨q0, q1, q2, q3, q4, q5, q6⟩ := (HP.out _ HC.out).2.2))
        have hmm : (MM != MM) = false := by simp
        have hcv : (CV != CV) = false := by simp
        have hwh : (WH != WH) = false := by simp
        have hnb : (NBo != NBo) = false := by simp
        have hnx : (NX.toList == NX.toList) = true := by simp
        clear q0 q1 q2 q3 q4 q5 q6
        replace HC : Hid (Below W1.heap.size W1 w5.drew) := HC.out.drew
        go_wp2_with fail
        refine wp_region_held_drew (S := fun W => cellsA W xb x) (by kernel_rfl) (HP.out _ HC.out).2.2 (fun hHeld => ?_)
        refine wpAnyH_take (i := 0) (v := ?_) (by simp only [List.getElem?_toArray, List.getElem?_cons_zero, List.getElem?_cons_succ]; rfl) (by kernel_rfl) (by kernel_rfl) (by kernel_rfl) (by intro _ _ _ h; exact h) (Or.inl ⟨by rfl, ?_⟩) (by assumption) ?_
        rotate_left
        · intro w hSw; (try dsimp only [cellsA] at hSw); go_simp; (try with_reducible rfl)
        (try simp only [Act.put, List.setIfInBounds_toArray, List.set_cons_zero, List.set_cons_succ])
        refine wpAnyH_take (i := 1) (v := ?_) (by simp only [List.getElem?_toArray, List.getElem?_cons_zero, List.getElem?_cons_succ]; rfl) (by kernel_rfl) (by kernel_rfl) (by kernel_rfl) (by intro _ _ _ h; exact h) (Or.inl ⟨by rfl, ?_⟩) (by assumption) ?_
        rotate_left
        · intro w hSw; (try dsimp only [cellsA] at hSw); go_simp; (try with_reducible rfl)
        (try simp only [Act.put, List.setIfInBounds_toArray, List.set_cons_zero, List.set_cons_succ])
        refine wpAnyH_take (i := 2) (v := ?_) (by simp only [List.getElem?_toArray, List.getElem?_cons_zero, List.getElem?_cons_succ]; rfl) (by kernel_rfl) (by kernel_rfl) (by kernel_rfl) (by intro _ _ _ h; exact h) (Or.inl ⟨by rfl, ?_⟩) (by assumption) ?_
        rotate_left
        · intro w hSw; (try dsimp only [cellsA] at hSw); go_simp; (try with_reducible rfl)
        (try simp only [Act.put, List.setIfInBounds_toArray, List.set_cons_zero, List.set_cons_succ])
        refine wpAnyH_take (i := 3) (v := ?_) (by simp only [List.getElem?_toArray, List.getElem?_cons_zero, List.getElem?_cons_succ]; rfl) (by kernel_rfl) (by kernel_rfl) (by kernel_rfl) (by intro _ _ _ h; exact h) (Or.inl ⟨by rfl, ?_⟩) (by assumption) ?_
        rotate_left
        · intro w hSw; (try dsimp only [cellsA] at hSw); go_simp; (try with_reducible rfl)
        (try simp only [Act.put, List.setIfInBounds_toArray, List.set_cons_zero, List.set_cons_succ])
        refine wpAnyH_take (i := 4) (v := ?_) (by simp only [List.getElem?_toArray, List.getElem?_cons_zero, List.getElem?_cons_succ]; rfl) (by kernel_rfl) (by kernel_rfl) (by kernel_rfl) (by intro _ _ _ h; exact h) (Or.inl ⟨by rfl, ?_⟩) (by assumption) ?_
        rotate_left
        · intro w hSw; (try dsimp only [cellsA] at hSw); go_simp; (try with_reducible rfl)
        (try simp only [Act.put, List.setIfInBounds_toArray, List.set_cons_zero, List.set_cons_succ])
        refine wpAnyH_take (i := 5) (v := ?_) (by simp only [List.getElem?_toArray, List.getElem?_cons_zero, List.getElem?_cons_succ]; rfl) (by kernel_rfl) (by kernel_rfl) (by kernel_rfl) (by intro _ _ _ h; exact h) (Or.inl ⟨by rfl, ?_⟩) (by assumption) ?_
        rotate_left
        · intro w hSw; (try dsimp only [cellsA] at hSw); go_simp; (try with_reducible rfl)
        (try simp only [Act.put, List.setIfInBounds_toArray, List.set_cons_zero, List.set_cons_succ])
        refine wpAnyH_take (i := 7) (v := ?_) (by simp only [List.getElem?_toArray, List.getElem?_cons_zero, List.getElem?_cons_succ]; rfl) (by kernel_rfl) (by kernel_rfl) (by kernel_rfl) (by intro _ _ _ h; exact h) (Or.inl ⟨by rfl, ?_⟩) (by assumption) ?_
        rotate_left
        · intro w hSw; (try dsimp only [cellsA] at hSw); go_simp; (try with_reducible rfl)
        (try simp only [Act.put, List.setIfInBounds_toArray, List.set_cons_zero, List.set_cons_succ])
        refine wpAnyH_take (i := 8) (v := ?_) (by simp only [List.getElem?_toArray, List.getElem?_cons_zero, List.getElem?_cons_succ]; rfl) (by kernel_rfl) (by kernel_rfl) (by kernel_rfl) (by intro _ _ _ h; exact h) (Or.inl ⟨by rfl, ?_⟩) (by assumption) ?_
        rotate_left
        · intro w hSw; (try dsimp only [cellsA] at hSw); go_simp; (try with_reducible rfl)
        (try simp only [Act.put, List.setIfInBounds_toArray, List.set_cons_zero, List.set_cons_succ])
        refine wpAnyH_take (i := 9) (v := ?_) (by simp only [List.getElem?_toArray, List.getElem?_cons_zero, List.getElem?_cons_succ]; rfl) (by kernel_rfl) (by kernel_rfl) (by kernel_rfl) (by intro _ _ _ h; exact h) (Or.inl ⟨by rfl, ?_⟩) (by assumption) ?_
        rotate_left
        · intro w hSw; (try dsimp only [cellsA] at hSw); go_simp; (try with_reducible rfl)
        (try simp only [Act.put, List.setIfInBounds_toArray, List.set_cons_zero, List.set_cons_succ])
        refine wpAnyH_take (i := 10) (v := ?_) (by simp only [List.getElem?_toArray, List.getElem?_cons_zero, List.getElem?_cons_succ]; rfl) (by kernel_rfl) (by kernel_rfl) (by kernel_rfl) (by intro _ _ _ h; exact h) (Or.inl ⟨by rfl, ?_⟩) (by assumption) ?_
        rotate_left
        · intro w hSw; (try dsimp only [cellsA] at hSw); go_simp; (try with_reducible rfl)
        (try simp only [Act.put, List.setIfInBounds_toArray, List.set_cons_zero, List.set_cons_succ])
        refine wpAnyH_take (i := 11) (v := ?_) (by simp only [List.getElem?_toArray, List.getElem?_cons_zero, List.getElem?_cons_succ]; rfl) (by kernel_rfl) (by kernel_rfl) (by kernel_rfl) (by intro _ _ _ h; exact h) (Or.inl ⟨by rfl, ?_⟩) (by assumption) ?_
        rotate_left
        · intro w hSw; (try dsimp only [cellsA] at hSw); go_simp; (try with_reducible rfl)
        (try simp only [Act.put, List.setIfInBounds_toArray, List.set_cons_zero, List.set_cons_succ])
        refine wpAnyH_take (i := 12) (v := ?_) (by simp only [List.getElem?_toArray, List.getElem?_cons_zero, List.getElem?_cons_succ]; rfl) (by kernel_rfl) (by kernel_rfl) (by kernel_rfl) (by intro _ _ _ h; exact h) (Or.inl ⟨by rfl, ?_⟩) (by assumption) ?_
        rotate_left
        · intro w hSw; (try dsimp only [cellsA] at hSw); go_simp; (try with_reducible rfl)
        (try simp only [Act.put, List.setIfInBounds_toArray, List.set_cons_zero, List.set_cons_succ])
        refine wpAnyH_take (i := 13) (v := ?_) (by simp only [List.getElem?_toArray, List.getElem?_cons_zero, List.getElem?_cons_succ]; rfl) (by kernel_rfl) (by kernel_rfl) (by kernel_rfl) (by intro _ _ _ h; exact h) (Or.inl ⟨by rfl, ?_⟩) (by assumption) ?_
        rotate_left
        · intro w hSw; (try dsimp only [cellsA] at hSw); go_simp; (try with_reducible rfl)
        (try simp only [Act.put, List.setIfInBounds_toArray, List.set_cons_zero, List.set_cons_succ])
        refine wpAnyH_ready (rs := [6]) (by kernel_rfl) (by simp) ?_
        refine AllReadyH.cons rfl (fun K hK => ?_) AllReadyH.nil
        refine step_callG 18 _ _ _ (HR.out.mo _ (HP.out _ HC.out).2.1) (by rfl) (by rfl) (by rfl) (by rfl) en18 ?_
        rintro e w6 ⟨rfl, r2⟩
        refine ⟨_, rfl, ?_⟩
        replace HC : Hid (Below W1.heap.size W1 w6) := HC.out.trans (r2.mono HC.out.size)
        refine hK.out _ _ (HP.out _ HC.out).2.2 (fun hHeld => ?_)
        clear hK K r2
        (try simp only [Act.put, List.setIfInBounds_toArray, List.set_cons_zero, List.set_cons_succ])
        refine wpAnyH_ready (rs := [14]) (by kernel_rfl) (by simp) ?_
        refine AllReadyH.cons rfl (fun K hK => ?_) AllReadyH.nil
        refine step_callG 19 _ _ _ (HR.out.mr _ (HP.out _ HC.out).1) (by rfl) (by rfl) (by rfl) (by rfl) en19 ?_
        rintro e w7 ⟨rfl, r2⟩
        refine ⟨_, rfl, ?_⟩
        replace HC : Hid (Below W1.heap.size W1 w7) := HC.out.trans (r2.mono HC.out.size)
        refine hK.out _ _ (HP.out _ HC.out).2.2 (fun hHeld => ?_)
        clear hK K r2
        (try simp only [Act.put, List.setIfInBounds_toArray, List.set_cons_zero, List.set_cons_succ])
        refine wpAnyH_take (i := 15) (v := ?_) (by simp only [List.getElem?_toArray, List.getElem?_cons_zero, List.getElem?_cons_succ]; rfl) (by kernel_rfl) (by kernel_rfl) (by kernel_rfl) (by intro _ _ _ h; exact h) (Or.inl ⟨by rfl, ?_⟩) (by assumption) ?_
        rotate_left
        · intro w hSw; (try dsimp only [cellsA] at hSw); go_simp; (try with_reducible rfl)
        (try simp only [Act.put, List.setIfInBounds_toArray, List.set_cons_zero, List.set_cons_succ])
        refine wpAnyH_take (i := 16) (v := ?_) (by simp only [List.getElem?_toArray, List.getElem?_cons_zero, List.getElem?_cons_succ]; rfl) (by kernel_rfl) (by kernel_rfl) (by kernel_rfl) (by intro _ _ _ h; exact h) (Or.inl ⟨by rfl, ?_⟩) (by assumption) ?_
        rotate_left
        · intro w hSw; (try dsimp only [cellsA] at hSw); go_simp; (try with_reducible rfl)
        (try simp only [Act.put, List.setIfInBounds_toArray, List.set_cons_zero, List.set_cons_succ])
        refine wpAnyH_take (i := 17) (v := ?_) (by simp only [List.getElem?_toArray, List.getElem?_cons_zero, List.getElem?_cons_succ]; rfl) (by kernel_rfl) (by kernel_rfl) (by kernel_rfl) (by intro _ _ _ h; exact h) (Or.inl ⟨by rfl, ?_⟩) (by assumption) ?_
        rotate_left
        · intro w hSw; (try dsimp only [cellsA] at hSw); go_simp; (try with_reducible rfl)
        (try simp only [Act.put, List.setIfInBounds_toArray, List.set_cons_zero, List.set_cons_succ])
        refine wpAnyH_take (i := 18) (v := ?_) (by simp only [List.getElem?_toArray, List.getElem?_cons_zero, List.getElem?_cons_succ]; rfl) (by kernel_rfl) (by kernel_rfl) (by kernel_rfl) (by intro _ _ _ h; exact h) (Or.inl ⟨by rfl, ?_⟩) (by assumption) ?_
        rotate_left
        · intro w hSw; (try dsimp only [cellsA] at hSw); go_simp; (try with_reducible rfl)
        (try simp only [Act.put, List.setIfInBounds_toArray, List.set_cons_zero, List.set_cons_succ])
        refine wpAnyH_take (i := 19) (v := ?_) (by simp only [List.getElem?_toArray, List.getElem?_cons_zero, List.getElem?_cons_succ]; rfl) (by kernel_rfl) (by kernel_rfl) (by kernel_rfl) (by intro _ _ _ h; exact h) (Or.inl ⟨by rfl, ?_⟩) (by assumption) ?_
        rotate_left
        · intro w hSw; (try dsimp only [cellsA] at hSw); go_simp; (try with_reducible rfl)
        (try simp only [Act.put, List.setIfInBounds_toArray, List.set_cons_zero, List.set_cons_succ])
        refine wpAnyH_take (i := 20) (v := ?_) (by simp only [List.getElem?_toArray, List.getElem?_cons_zero, List.getElem?_cons_succ]; rfl) (by kernel_rfl) (by kernel_rfl) (by kernel_rfl) (by intro _ _ _ h; exact h) (Or.inl ⟨by rfl, ?_⟩) (by assumption) ?_
        rotate_left
        · intro w hSw; (try dsimp only [cellsA] at hSw); go_simp; (try with_reducible rfl)
        (try simp only [Act.put, List.setIfInBounds_toArray, List.set_cons_zero, List.set_cons_succ])
        refine wpAnyH_take (i := 21) (v := ?_) (by simp only [List.getElem?_toArray, List.getElem?_cons_zero, List.getElem?_cons_succ]; rfl) (by kernel_rfl) (by kernel_rfl) (by kernel_rfl) (by intro _ _ _ h; exact h) (Or.inl ⟨by rfl, ?_⟩) (by assumption) ?_
        rotate_left
        · intro w hSw; (try dsimp only [cellsA] at hSw); go_simp; (try with_reducible rfl)
        (try simp only [Act.put, List.setIfInBounds_toArray, List.set_cons_zero, List.set_cons_succ])
        refine wpAnyH_take (i := 23) (v := ?_) (by simp only [List.getElem?_toArray, List.getElem?_cons_zero, List.getElem?_cons_succ]; rfl) (by kernel_rfl) (by kernel_rfl) (by kernel_rfl) (by intro _ _ _ h; exact h) (Or.inl ⟨by rfl, ?_⟩) (by assumption) ?_
        rotate_left
        · intro w hSw; (try dsimp only [cellsA] at hSw); go_simp; (try with_reducible rfl)
        (try simp only [Act.put, List.setIfInBounds_toArray, List.set_cons_zero, List.set_cons_succ])
        refine wpAnyH_take (i := 24) (v := ?_) (by simp only [List.getElem?_toArray, List.getElem?_cons_zero, List.getElem?_cons_succ]; rfl) (by kernel_rfl) (by kernel_rfl) (by kernel_rfl) (by intro _ _ _ h; exact h) (Or.inl ⟨by rfl, ?_⟩) (by assumption) ?_
        rotate_left
        · intro w hSw; (try dsimp only [cellsA] at hSw); go_simp; (try with_reducible rfl)
        (try simp only [Act.put, List.setIfInBounds_toArray, List.set_cons_zero, List.set_cons_succ])
        refine wpAnyH_take (i := 25) (v := ?_) (by simp only [List.getElem?_toArray, List.getElem?_cons_zero, List.getElem?_cons_succ]; rfl) (by kernel_rfl) (by kernel_rfl) (by kernel_rfl) (by intro _ _ _ h; exact h) (Or.inl ⟨by rfl, ?_⟩) (by assumption) ?_
        rotate_left
        · intro w hSw; (try dsimp only [cellsA] at hSw); go_simp; (try with_reducible rfl)
        (try simp only [Act.put, List.setIfInBounds_toArray, List.set_cons_zero, List.set_cons_succ])
        refine wpAnyH_take (i := 26) (v := ?_) (by simp only [List.getElem?_toArray, List.getElem?_cons_zero, List.getElem?_cons_succ]; rfl) (by kernel_rfl) (by kernel_rfl) (by kernel_rfl) (by intro _ _ _ h; exact h) (Or.inl ⟨by rfl, ?_⟩) (by assumption) ?_
        rotate_left
        · intro w hSw; (try dsimp only [cellsA] at hSw); go_simp; (try with_reducible rfl)
        (try simp only [Act.put, List.setIfInBounds_toArray, List.set_cons_zero, List.set_cons_succ])
        refine wpAnyH_take (i := 27) (v := ?_) (by simp only [List.getElem?_toArray, List.getElem?_cons_zero, List.getElem?_cons_succ]; rfl) (by kernel_rfl) (by kernel_rfl) (by kernel_rfl) (by intro _ _ _ h; exact h) (Or.inl ⟨by rfl, ?_⟩) (by assumption) ?_
        rotate_left
        · intro w hSw; (try dsimp only [cellsA] at hSw); go_simp; (try with_reducible rfl)
        (try simp only [Act.put, List.setIfInBounds_toArray, List.set_cons_zero, List.set_cons_succ])
        refine wpAnyH_take (i := 28) (v := ?_) (by simp only [List.getElem?_toArray, List.getElem?_cons_zero, List.getElem?_cons_succ]; rfl) (by kernel_rfl) (by kernel_rfl) (by kernel_rfl) (by intro _ _ _ h; exact h) (Or.inl ⟨by rfl, ?_⟩) (by assumption) ?_
        rotate_left
        · intro w hSw; (try dsimp only [cellsA] at hSw); go_simp; (try with_reducible rfl)
        (try simp only [Act.put, List.setIfInBounds_toArray, List.set_cons_zero, List.set_cons_succ])
        refine wpAnyH_ready (rs := [22]) (by kernel_rfl) (by simp) ?_
        refine AllReadyH.cons rfl (fun K hK => ?_) AllReadyH.nil
        refine step_callG 20 _ _ _ (HR.out.co _ (HP.out _ HC.out).2.1) (by rfl) (by rfl) (by rfl) (by rfl) en20 ?_
        rintro e w8 ⟨rfl, r2⟩
        refine ⟨_, rfl, ?_⟩
        replace HC : Hid (Below W1.heap.size W1 w8) := HC.out.trans (r2.mono HC.out.size)
        refine hK.out _ _ (HP.out _ HC.out).2.2 (fun hHeld => ?_)
        clear hK K r2
        (try simp only [Act.put, List.setIfInBounds_toArray, List.set_cons_zero, List.set_cons_succ])
        refine wpAnyH_ready (rs := [29]) (by kernel_rfl) (by simp) ?_
        refine AllReadyH.cons rfl (fun K hK => ?_) AllReadyH.nil
        refine step_callG 21 _ _ _ (HR.out.cr _ (HP.out _ HC.out).1) (by rfl) (by rfl) (by rfl) (by rfl) en21 ?_
        rintro e w9 ⟨rfl, r2⟩
        refine ⟨_, rfl, ?_⟩
        replace HC : Hid (Below W1.heap.size W1 w9) := HC.out.trans (r2.mono HC.out.size)
        refine hK.out _ _ (HP.out _ HC.out).2.2 (fun hHeld => ?_)
        clear hK K r2
        (try simp only [Act.put, List.setIfInBounds_toArray, List.set_cons_zero, List.set_cons_succ])
        refine wpAnyH_take (i := 30) (v := ?_) (by simp only [List.getElem?_toArray, List.getElem?_cons_zero, List.getElem?_cons_succ]; rfl) (by kernel_rfl) (by kernel_rfl) (by kernel_rfl) (by intro _ _ _ h; exact h) (Or.inl ⟨by rfl, ?_⟩) (by assumption) ?_
        rotate_left
        · intro w hSw; (try dsimp only [cellsA] at hSw); go_simp; (try with_reducible rfl)
        (try simp only [Act.put, List.setIfInBounds_toArray, List.set_cons_zero, List.set_cons_succ])
        refine wpAnyH_take (i := 31) (v := ?_) (by simp only [List.getElem?_toArray, List.getElem?_cons_zero, List.getElem?_cons_succ]; rfl) (by kernel_rfl) (by kernel_rfl) (by kernel_rfl) (by intro _ _ _ h; exact h) (Or.inl ⟨by rfl, ?_⟩) (by assumption) ?_
        rotate_left
        · intro w hSw; (try dsimp only [cellsA] at hSw); go_simp; (try with_reducible rfl)
        (try simp only [Act.put, List.setIfInBounds_toArray, List.set_cons_zero, List.set_cons_succ])
        refine wpAnyH_take (i := 32) (v := ?_) (by simp only [List.getElem?_toArray, List.getElem?_cons_zero, List.getElem?_cons_succ]; rfl) (by kernel_rfl) (by kernel_rfl) (by kernel_rfl) (by intro _ _ _ h; exact h) (Or.inl ⟨by rfl, ?_⟩) (by assumption) ?_
        rotate_left
        · intro w hSw; (try dsimp only [cellsA] at hSw); go_simp; (try with_reducible rfl)
        (try simp only [Act.put, List.setIfInBounds_toArray, List.set_cons_zero, List.set_cons_succ])
        refine wpAnyH_take (i := 33) (v := ?_) (by simp only [List.getElem?_toArray, List.getElem?_cons_zero, List.getElem?_cons_succ]; rfl) (by kernel_rfl) (by kernel_rfl) (by kernel_rfl) (by intro _ _ _ h; exact h) (Or.inl ⟨by rfl, ?_⟩) (by assumption) ?_
        rotate_left
        · intro w hSw; (try dsimp only [cellsA] at hSw); go_simp; (try with_reducible rfl)
        (try simp only [Act.put, List.setIfInBounds_toArray, List.set_cons_zero, List.set_cons_succ])
        refine wpAnyH_take (i := 34) (v := ?_) (by simp only [List.getElem?_toArray, List.getElem?_cons_zero, List.getElem?_cons_succ]; rfl) (by kernel_rfl) (by kernel_rfl) (by kernel_rfl) (by intro _ _ _ h; exact h) (Or.inl ⟨by rfl, ?_⟩) (by assumption) ?_
        rotate_left
        · intro w hSw; (try dsimp only [cellsA] at hSw); go_simp; (try with_reducible rfl)
        (try simp only [Act.put, List.setIfInBounds_toArray, List.set_cons_zero, List.set_cons_succ])
        refine wpAnyH_take (i := 35) (v := ?_) (by simp only [List.getElem?_toArray, List.getElem?_cons_zero, List.getElem?_cons_succ]; rfl) (by kernel_rfl) (by kernel_rfl) (by kernel_rfl) (by intro _ _ _ h; exact h) (Or.inl ⟨by rfl, ?_⟩) (by assumption) ?_
        rotate_left
        · intro w hSw; (try dsimp only [cellsA] at hSw); go_simp; (try with_reducible rfl)
        (try simp only [Act.put, List.setIfInBounds_toArray, List.set_cons_zero, List.set_cons_succ])
        refine wpAnyH_take (i := 36) (v := ?_) (by simp only [List.getElem?_toArray, List.getElem?_cons_zero, List.getElem?_cons_succ]; rfl) (by kernel_rfl) (by kernel_rfl) (by kernel_rfl) (by intro _ _ _ h; exact h) (Or.inl ⟨by rfl, ?_⟩) (by assumption) ?_
        rotate_left
        · intro w hSw; (try dsimp only [cellsA] at hSw); go_simp; (try with_reducible rfl)
        (try simp only [Act.put, List.setIfInBounds_toArray, List.set_cons_zero, List.set_cons_succ])
        refine wpAnyH_take (i := 37) (v := ?_) (by simp only [List.getElem?_toArray, List.getElem?_cons_zero, List.getElem?_cons_succ]; rfl) (by kernel_rfl) (by kernel_rfl) (by kernel_rfl) (by intro _ _ _ h; exact h) (Or.inl ⟨by rfl, ?_⟩) (by assumption) ?_
        rotate_left
        · intro w hSw; (try dsimp only [cellsA] at hSw); go_simp; (try with_reducible rfl)
        (try simp only [Act.put, List.setIfInBounds_toArray, List.set_cons_zero, List.set_cons_succ])
        refine wpAnyH_take (i := 38) (v := ?_) (by simp only [List.getElem?_toArray, List.getElem?_cons_zero, List.getElem?_cons_succ]; rfl) (by kernel_rfl) (by kernel_rfl) (by kernel_rfl) (by intro _ _ _ h; exact h) (Or.inl ⟨by rfl, ?_⟩) (by assumption) ?_
        rotate_left
        · intro w hSw; (try dsimp only [cellsA] at hSw); go_simp; (try with_reducible rfl)
        (try simp only [Act.put, List.setIfInBounds_toArray, List.set_cons_zero, List.set_cons_succ])
        refine wpAnyH_take (i := 39) (v := ?_) (by simp only [List.getElem?_toArray, List.getElem?_cons_zero, List.getElem?_cons_succ]; rfl) (by kernel_rfl) (by kernel_rfl) (by kernel_rfl) (by intro _ _ _ h; exact h) (Or.inl ⟨by rfl, ?_⟩) (by assumption) ?_
        rotate_left
        · intro w hSw; (try dsimp only [cellsA] at hSw); go_simp; (try with_reducible rfl)
        (try simp only [Act.put, List.setIfInBounds_toArray, List.set_cons_zero, List.set_cons_succ])
        refine wpAnyH_take (i := 40) (v := ?_) (by simp only [List.getElem?_toArray, List.getElem?_cons_zero, List.getElem?_cons_succ]; rfl) (by kernel_rfl) (by kernel_rfl) (by kernel_rfl) (by intro _ _ _ h; exact h) (Or.inl ⟨by rfl, ?_⟩) (by assumption) ?_
        rotate_left
        · intro w hSw; (try dsimp only [cellsA] at hSw); go_simp; (try with_reducible rfl)
        (try simp only [Act.put, List.setIfInBounds_toArray, List.set_cons_zero, List.set_cons_succ])
        refine wpAnyH_take (i := 41) (v := ?_) (by simp only [List.getElem?_toArray, List.getElem?_cons_zero, List.getElem?_cons_succ]; rfl) (by kernel_rfl) (by kernel_rfl) (by kernel_rfl) (by intro _ _ _ h; exact h) (Or.inl ⟨by rfl, ?_⟩) (by assumption) ?_
        rotate_left
        · intro w hSw; (try dsimp only [cellsA] at hSw); go_simp; (try with_reducible rfl)
        (try simp only [Act.put, List.setIfInBounds_toArray, List.set_cons_zero, List.set_cons_succ])
        refine wpAnyH_take (i := 43) (v := ?_) (by simp only [List.getElem?_toArray, List.getElem?_cons_zero, List.getElem?_cons_succ]; rfl) (by kernel_rfl) (by kernel_rfl) (by kernel_rfl) (by intro _ _ _ h; exact h) (Or.inl ⟨by rfl, ?_⟩) (by assumption) ?_
        rotate_left
        · intro w hSw; (try dsimp only [cellsA] at hSw); go_simp; (try with_reducible rfl)
        (try simp only [Act.put, List.setIfInBounds_toArray, List.set_cons_zero, List.set_cons_succ])
        refine wpAnyH_take (i := 44) (v := ?_) (by simp only [List.getElem?_toArray, List.getElem?_cons_zero, List.getElem?_cons_succ]; rfl) (by kernel_rfl) (by kernel_rfl) (by kernel_rfl) (by intro _ _ _ h; exact h) (Or.inl ⟨by rfl, ?_⟩) (by assumption) ?_
        rotate_left
        · intro w hSw; (try dsimp only [cellsA] at hSw); go_simp; (try with_reducible rfl)
        (try simp only [Act.put, List.setIfInBounds_toArray, List.set_cons_zero, List.set_cons_succ])
        refine wpAnyH_take (i := 45) (v := ?_) (by simp only [List.getElem?_toArray, List.getElem?_cons_zero, List.getElem?_cons_succ]; rfl) (by kernel_rfl) (by kernel_rfl) (by kernel_rfl) (by intro _ _ _ h; exact h) (Or.inl ⟨by rfl, ?_⟩) (by assumption) ?_
        rotate_left
        · intro w hSw; (try dsimp only [cellsA] at hSw); go_simp; (try with_reducible rfl)
        (try simp only [Act.put, List.setIfInBounds_toArray, List.set_cons_zero, List.set_cons_succ])
        refine wpAnyH_take (i := 46) (v := ?_) (by simp only [List.getElem?_toArray, List.getElem?_cons_zero, List.getElem?_cons_succ]; rfl) (by kernel_rfl) (by kernel_rfl) (by kernel_rfl) (by intro _ _ _ h; exact h) (Or.inl ⟨by rfl, ?_⟩) (by assumption) ?_
        rotate_left
        · intro w hSw; (try dsimp only [cellsA] at hSw); go_simp; (try with_reducible rfl)
        (try simp only [Act.put, List.setIfInBounds_toArray, List.set_cons_zero, List.set_cons_succ])
        refine wpAnyH_take (i := 47) (v := ?_) (by simp only [List.getElem?_toArray, List.getElem?_cons_zero, List.getElem?_cons_succ]; rfl) (by kernel_rfl) (by kernel_rfl) (by kernel_rfl) (by intro _ _ _ h; exact h) (Or.inl ⟨by rfl, ?_⟩) (by assumption) ?_
        rotate_left
        · intro w hSw; (try dsimp only [cellsA] at hSw); go_simp; (try with_reducible rfl)
        (try simp only [Act.put, List.setIfInBounds_toArray, List.set_cons_zero, List.set_cons_succ])
        refine wpAnyH_take (i := 48) (v := ?_) (by simp only [List.getElem?_toArray, List.getElem?_cons_zero, List.getElem?_cons_succ]; rfl) (by kernel_rfl) (by kernel_rfl) (by kernel_rfl) (by intro _ _ _ h; exact h) (Or.inl ⟨by rfl, ?_⟩) (by assumption) ?_
        rotate_left
        · intro w hSw; (try dsimp only [cellsA] at hSw); go_simp; (try with_reducible rfl)
        (try simp only [Act.put, List.setIfInBounds_toArray, List.set_cons_zero, List.set_cons_succ])
        refine wpAnyH_take (i := 49) (v := ?_) (by simp only [List.getElem?_toArray, List.getElem?_cons_zero, List.getElem?_cons_succ]; rfl) (by kernel_rfl) (by kernel_rfl) (by kernel_rfl) (by intro _ _ _ h; exact h) (Or.inl ⟨by rfl, ?_⟩) (by assumption) ?_
        rotate_left
        · intro w hSw; (try dsimp only [cellsA] at hSw); go_simp; (try with_reducible rfl)
        (try simp only [Act.put, List.setIfInBounds_toArray, List.set_cons_zero, List.set_cons_succ])
        refine wpAnyH_take (i := 50) (v := ?_) (by simp only [List.getElem?_toArray, List.getElem?_cons_zero, List.getElem?_cons_succ]; rfl) (by kernel_rfl) (by kernel_rfl) (by kernel_rfl) (by intro _ _ _ h; exact h) (Or.inl ⟨by rfl, ?_⟩) (by assumption) ?_
        rotate_left
        · intro w hSw; (try dsimp only [cellsA] at hSw); go_simp; (try with_reducible rfl)
        (try simp only [Act.put, List.setIfInBounds_toArray, List.set_cons_zero, List.set_cons_succ])
        refine wpAnyH_take (i := 51) (v := ?_) (by simp only [List.getElem?_toArray, List.getElem?_cons_zero, List.getElem?_cons_succ]; rfl) (by kernel_rfl) (by kernel_rfl) (by kernel_rfl) (by intro _ _ _ h; exact h) (Or.inl ⟨by rfl, ?_⟩) (by assumption) ?_
        rotate_left
        · intro w hSw; (try dsimp only [cellsA] at hSw); go_simp; (try with_reducible rfl)
        (try simp only [Act.put, List.setIfInBounds_toArray, List.set_cons_zero, List.set_cons_succ])
        refine wpAnyH_take (i := 52) (v := ?_) (by simp only [List.getElem?_toArray, List.getElem?_cons_zero, List.getElem?_cons_succ]; rfl) (by kernel_rfl) (by kernel_rfl) (by kernel_rfl) (by intro _ _ _ h; exact h) (Or.inl ⟨by rfl, ?_⟩) (by assumption) ?_
        rotate_left
        · intro w hSw; (try dsimp only [cellsA] at hSw); go_simp; (try with_reducible rfl)
        (try simp only [Act.put, List.setIfInBounds_toArray, List.set_cons_zero, List.set_cons_succ])
        refine wpAnyH_ready (rs := [42]) (by kernel_rfl) (by simp) ?_
        refine AllReadyH.cons rfl (fun K hK => ?_) AllReadyH.nil
        refine step_callG 22 _ _ _ (HR.out.wh _ (HP.out _ HC.out).2.1) (by rfl) (by rfl) (by rfl) (by rfl) en22 ?_
        rintro e w10 ⟨rfl, r2⟩
        refine ⟨_, rfl, ?_⟩
        replace HC : Hid (Below W1.heap.size W1 w10) := HC.out.trans (r2.mono HC.out.size)
        refine hK.out _ _ (HP.out _ HC.out).2.2 (fun hHeld => ?_)
        clear hK K r2
        (try simp only [Act.put, List.setIfInBounds_toArray, List.set_cons_zero, List.set_cons_succ])
        refine wpAnyH_ready (rs := [53]) (by kernel_rfl) (by simp) ?_
        refine AllReadyH.cons rfl (fun K hK => ?_) AllReadyH.nil
        refine step_callG 23 _ _ _ (HR.out.wr _ (HP.out _ HC.out).2.1) (by rfl) (by rfl) (by rfl) (by rfl) en23 ?_
        rintro e w11 ⟨rfl, r2⟩
        refine ⟨_, rfl, ?_⟩
        replace HC : Hid (Below W1.heap.size W1 w11) := HC.out.trans (r2.mono HC.out.size)
        refine hK.out _ _ (HP.out _ HC.out).2.2 (fun hHeld => ?_)
        clear hK K r2
        (try simp only [Act.put, List.setIfInBounds_toArray, List.set_cons_zero, List.set_cons_succ])
        refine wpAnyH_take (i := 54) (v := ?_) (by simp only [List.getElem?_toArray, List.getElem?_cons_zero, List.getElem?_cons_succ]; rfl) (by kernel_rfl) (by kernel_rfl) (by kernel_rfl) (by intro _ _ _ h; exact h) (Or.inl ⟨by rfl, ?_⟩) (by assumption) ?_
        rotate_left
        · intro w hSw; (try dsimp only [cellsA] at hSw); go_simp; (try with_reducible rfl)
        (try simp only [Act.put, List.setIfInBounds_toArray, List.set_cons_zero, List.set_cons_succ])
        refine wpAnyH_take (i := 55) (v := ?_) (by simp only [List.getElem?_toArray, List.getElem?_cons_zero, List.getElem?_cons_succ]; rfl) (by kernel_rfl) (by kernel_rfl) (by kernel_rfl) (by intro _ _ _ h; exact h) (Or.inl ⟨by rfl, ?_⟩) (by assumption) ?_
        rotate_left
        · intro w hSw; (try dsimp only [cellsA] at hSw); go_simp; (try with_reducible rfl)
        (try simp only [Act.put, List.setIfInBounds_toArray, List.set_cons_zero, List.set_cons_succ])
        refine wpAnyH_take (i := 56) (v := ?_) (by simp only [List.getElem?_toArray, List.getElem?_cons_zero, List.getElem?_cons_succ]; rfl) (by kernel_rfl) (by kernel_rfl) (by kernel_rfl) (by intro _ _ _ h; exact h) (Or.inl ⟨by rfl, ?_⟩) (by assumption) ?_
        rotate_left
        · intro w hSw; (try dsimp only [cellsA] at hSw); go_simp; (try with_reducible rfl)
        (try simp only [Act.put, List.setIfInBounds_toArray, List.set_cons_zero, List.set_cons_succ])
        refine wpAnyH_take (i := 57) (v := ?_) (by simp only [List.getElem?_toArray, List.getElem?_cons_zero, List.getElem?_cons_succ]; rfl) (by kernel_rfl) (by kernel_rfl) (by kernel_rfl) (by intro _ _ _ h; exact h) (Or.inl ⟨by rfl, ?_⟩) (by assumption) ?_
        rotate_left
        · intro w hSw; (try dsimp only [cellsA] at hSw); go_simp; (try with_reducible rfl)
        (try simp only [Act.put, List.setIfInBounds_toArray, List.set_cons_zero, List.set_cons_succ])
        refine wpAnyH_take (i := 58) (v := ?_) (by simp only [List.getElem?_toArray, List.getElem?_cons_zero, List.getElem?_cons_succ]; rfl) (by kernel_rfl) (by kernel_rfl) (by kernel_rfl) (by intro _ _ _ h; exact h) (Or.inl ⟨by rfl, ?_⟩) (by assumption) ?_
        rotate_left
        · intro w hSw; (try dsimp only [cellsA] at hSw); go_simp; (try with_reducible rfl)
        (try simp only [Act.put, List.setIfInBounds_toArray, List.set_cons_zero, List.set_cons_succ])
        refine wpAnyH_take (i := 59) (v := ?_) (by simp only [List.getElem?_toArray, List.getElem?_cons_zero, List.getElem?_cons_succ]; rfl) (by kernel_rfl) (by kernel_rfl) (by kernel_rfl) (by intro _ _ _ h; exact h) (Or.inl ⟨by rfl, ?_⟩) (by assumption) ?_
        rotate_left
        · intro w hSw; (try dsimp only [cellsA] at hSw); go_simp; (try with_reducible rfl)
        (try simp only [Act.put, List.setIfInBounds_toArray, List.set_cons_zero, List.set_cons_succ])
        refine wpAnyH_take (i := 60) (v := ?_) (by simp only [List.getElem?_toArray, List.getElem?_cons_zero, List.getElem?_cons_succ]; rfl) (by kernel_rfl) (by kernel_rfl) (by kernel_rfl) (by intro _ _ _ h; exact h) (Or.inl ⟨by rfl, ?_⟩) (by assumption) ?_
        rotate_left
        · intro w hSw; (try dsimp only [cellsA] at hSw); go_simp; (try with_reducible rfl)
        (try simp only [Act.put, List.setIfInBounds_toArray, List.set_cons_zero, List.set_cons_succ])
        refine wpAnyH_take (i := 61) (v := ?_) (by simp only [List.getElem?_toArray, List.getElem?_cons_zero, List.getElem?_cons_succ]; rfl) (by kernel_rfl) (by kernel_rfl) (by kernel_rfl) (by intro _ _ _ h; exact h) (Or.inl ⟨by rfl, ?_⟩) (by assumption) ?_
        rotate_left
        · intro w hSw; (try dsimp only [cellsA] at hSw); go_simp; (try with_reducible rfl)
        (try simp only [Act.put, List.setIfInBounds_toArray, List.set_cons_zero, List.set_cons_succ])
        refine wpAnyH_take (i := 62) (v := ?_) (by simp only [List.getElem?_toArray, List.getElem?_cons_zero, List.getElem?_cons_succ]; rfl) (by kernel_rfl) (by kernel_rfl) (by kernel_rfl) (by intro _ _ _ h; exact h) (Or.inl ⟨by rfl, ?_⟩) (by assumption) ?_
        rotate_left
        · intro w hSw; (try dsimp only [cellsA] at hSw); go_simp; (try with_reducible rfl)
        (try simp only [Act.put, List.setIfInBounds_toArray, List.set_cons_zero, List.set_cons_succ])
        refine wpAnyH_take (i := 63) (v := ?_) (by simp only [List.getElem?_toArray, List.getElem?_cons_zero, List.getElem?_cons_succ]; rfl) (by kernel_rfl) (by kernel_rfl) (by kernel_rfl) (by intro _ _ _ h; exact h) (Or.inl ⟨by rfl, ?_⟩) (by assumption) ?_
        rotate_left
        · intro w hSw; (try dsimp only [cellsA] at hSw); go_simp; (try with_reducible rfl)
        (try simp only [Act.put, List.setIfInBounds_toArray, List.set_cons_zero, List.set_cons_succ])
        refine wpAnyH_take (i := 64) (v := ?_) (by simp only [List.getElem?_toArray, List.getElem?_cons_zero, List.getElem?_cons_succ]; rfl) (by kernel_rfl) (by kernel_rfl) (by kernel_rfl) (by intro _ _ _ h; exact h) (Or.inl ⟨by rfl, ?_⟩) (by assumption) ?_
        rotate_left
        · intro w hSw; (try dsimp only [cellsA] at hSw); go_simp; (try with_reducible rfl)
        (try simp only [Act.put, List.setIfInBounds_toArray, List.set_cons_zero, List.set_cons_succ])
        refine wpAnyH_take (i := 65) (v := ?_) (by simp only [List.getElem?_toArray, List.getElem?_cons_zero, List.getElem?_cons_succ]; rfl) (by kernel_rfl) (by kernel_rfl) (by kernel_rfl) (by intro _ _ _ h; exact h) (Or.inl ⟨by rfl, ?_⟩) (by assumption) ?_
        rotate_left
        · intro w hSw; (try dsimp only [cellsA] at hSw); go_simp; (try with_reducible rfl)
        (try simp only [Act.put, List.setIfInBounds_toArray, List.set_cons_zero, List.set_cons_succ])
        refine wpAnyH_done (by kernel_rfl) ?_ _
        clear hHeld
        obtain ⟨q0, q1, q2, q3, q4, q5, q6⟩ := (HP.out _ HC.out).2.2
        go_upto_region 15 with fail
        have HC11 : Hid (Below W1.heap.size W1 w11) := HC.out
        go_upto_region 16 with (first
          | (go_at_call 24; refine (HR.out.ct _ (HP.out _ HC.out).2.1).mono ?_; rintro e w12 ⟨v12, rfl, r1, r2⟩
             obtain ⟨va, vc, hv⟩ := row_slice r1
             rw [HR.out.len] at hv
             subst hv
             have HV : Hid (RowT w12 w11.heap.size (.slice va NC vc) CT) := r1
             clear r1
             replace HC : Hid (Below W1.heap.size W1 w12) := HC.out.trans (r2.mono HC.out.size)
             clear r2 q0 q1 q2 q3 q4 q5 q6
             obtain ⟨q0, q1, q2, q3, q4, q5, q6⟩ := (HP.out _ HC.out).2.2))
        have HV0 : Hid (∀ W, Below w12.heap.size w12 W → RdT W va CT ∧ RowT W w11.heap.size (.slice va NC vc) CT) := fun W hb => by
          obtain ⟨a9, c9, e9, _, hrd, _⟩ := row_rd tm_k HV.out
          injection e9 with e1 _ _
          rw [e1]
          rw [e1] at HV
          exact ⟨hrd.below hb, rowt_below HV.out hb⟩
        have HCv : Hid (Below w12.heap.size w12 w12) := Below.refl _ _
        clear HV
        go_upto_region 18 with (first
          | (go_at_call 25; refine (HR.out.cc _ (HP.out _ HC.out).2.1).mono ?_; rintro e w13 ⟨a13, c13, rfl, r1, r2⟩
             have HT13 := HR.out.ts w13 va a13 vc c13 (HV0.out _ (HCv.out.trans (r2.mono HCv.out.size))).1 r1
             replace HCv : Hid (Below w12.heap.size w12 w13) := HCv.out.trans (r2.mono HCv.out.size)
             clear r1
             replace HC : Hid (Below W1.heap.size W1 w13) := HC.out.trans (r2.mono HC.out.size)
             clear r2 q0 q1 q2 q3 q4 q5 q6
             obtain ⟨q0, q1, q2, q3, q4, q5, q6⟩ := (HP.out _ HC.out).2.2)
          | (go_at_call 13; refine HT13.mono ?_; rintro e w14 ⟨rfl, r2⟩
             replace HCv : Hid (Below w12.heap.size w12 w14) := HCv.out.trans (r2.mono HCv.out.size)
             replace HC : Hid (Below W1.heap.size W1 w14) := HC.out.trans (r2.mono HC.out.size)
             clear r2 HT13 q0 q1 q2 q3 q4 q5 q6
             obtain ⟨q0, q1, q2, q3, q4, q5, q6⟩ := (HP.out _ HC.out).2.2))
        have HG : Hid ((NC = 0 ∨ ∃ g', va = some ⟨g', 0, none⟩) ∧ ∀ g', va = some ⟨g', 0, none⟩ → W0.heap.size ≤ g' ∧ ∀ W, Below w12.heap.size w12 W → ∃ cs, Blk W g' 56 cs ∧ NC * 3 ≤ cs.length) := by
          have hV := (HV0.out w12 (Below.refl _ _)).2
          refine ⟨?_, fun g' e => ?_⟩
          · rcases hV.2 with ⟨_, e⟩ | ⟨g', cap, cur, e, _⟩
            · exact .inl (HR.out.len ▸ e)
            · injection e with e1 _ _; exact .inr ⟨g', e1⟩
          · subst e
            refine ⟨?_, fun W hb => ?_⟩
            · have h1 := (row_blk hV g' rfl).1
              have h2 := HC11.out.size
              have h3 := HBx.out.size
              omega
            · have hV' := (HV0.out W hb).2
              obtain ⟨cs, h1, h2⟩ := row_is_blk hV'
              exact ⟨cs, h1, by rw [← HR.out.len]; exact h2⟩
        have HMc : Hid (Calls Try.prog 19 #[.int .i64 how, .slice va NC vc, .string x.u, .int .u64 x.n] w14 fun e w' => e = .returned (.int .u64 (if kle how x.b x.u = true ∧ kl how x.u x.e = true then MM else 0)) ∧ Below w14.heap.size w14 w') := HR.out.mc w14 va vc (HV0.out _ HCv.out).1
        obtain ⟨B1, hB1⟩ : ∃ B1, kle how x.b x.u = B1 := ⟨_, rfl⟩
        obtain ⟨B2, hB2⟩ : ∃ B2, kl how x.u x.e = B2 := ⟨_, rfl⟩
        rw [hB1, hB2] at HMc
        have hd1 : decide (cmpH how x.b x.u ≤ 0) = B1 := by rw [← hB1, Bool.eq_iff_iff, decide_eq_true_eq, kle_iff]
        have hd2 : decide (cmpH how x.u x.e < 0) = B2 := hB2
        have h00 : ((0 : Int) != 0) = false := by simp
        clear hB1 hB2
        cases B1 <;> cases B2
        all_goals
          simp only [Bool.false_eq_true, and_false, false_and, and_true, true_and, if_false, if_true, and_self] at HMc
          go_upto_region 19 with (go_at_call 26; refine (rcmp_any _ _ _ _).mono ?_; rintro r w2 ⟨rfl, hw2⟩; have hw3 := hw2.symm; subst hw3)
          go_upto_region 20 with (first
            | (go_at_call 19; refine HMc.out.mono ?_; rintro e w15 ⟨rfl, r2⟩
               replace HCv : Hid (Below w12.heap.size w12 w15) := HCv.out.trans (r2.mono HCv.out.size)
               replace HC : Hid (Below W1.heap.size W1 w15) := HC.out.trans (r2.mono HC.out.size)
               clear r2 q0 q1 q2 q3 q4 q5 q6
               obtain ⟨q0, q1, q2, q3, q4, q5, q6⟩ := (HP.out _ HC.out).2.2))
          clear hd1 hd2
          go_upto_region 22 with (first
            | (go_at_call 18; refine (HR.out.mo _ (HP.out _ HC.out).2.1).mono ?_; rintro e w16 ⟨rfl, r2⟩
               replace HCv : Hid (Below w12.heap.size w12 w16) := HCv.out.trans (r2.mono HCv.out.size)
               replace HC : Hid (Below W1.heap.size W1 w16) := HC.out.trans (r2.mono HC.out.size)
               clear r2 q0 q1 q2 q3 q4 q5 q6
               obtain ⟨q0, q1, q2, q3, q4, q5, q6⟩ := (HP.out _ HC.out).2.2))
        all_goals
          have HZ : Hid (Below W0.heap.size W0 _ ∧ ∀ g', va = some ⟨g', 0, none⟩ → ∃ cs, Blk _ g' 56 cs ∧ NC * 3 ≤ cs.length) := ⟨HBx.out.trans (HC.out.mono HBx.out.size), fun g' e => (HG.out.2 g' e).2 _ HCv.out⟩
          clear q0 q1 q2 q3 q4 q5 q6 HMc HCv HC HV0 HP HX HC11
          go_wp2_with fail
          go_loopw [20] (fun s20 wr => ∃ m : Nat, m ≤ NC ∧ s20 = .int .i64 m ∧ Hid (Below W0.heap.size W0 wr ∧ ∀ g', va = some ⟨g', 0, none⟩ → ∃ cs, Blk wr g' 56 cs ∧ NC * 3 ≤ cs.length)) (fun s20 _ => ((NC : Int) - intOf s20).toNat)
          case atStart => exact ⟨0, Nat.zero_le _, rfl, HZ.out⟩
          case round =>
            clear HZ
            obtain ⟨m, hm, rfl, HM⟩ := hrel
            rcases Nat.lt_or_ge m NC with hmN | hmN
            · have hmz : (m : Int) < NC := by omega
              obtain ⟨g', rfl⟩ : ∃ g', va = some ⟨g', 0, none⟩ := by
                rcases HG.out.1 with e | e
                · omega
                · exact e
              obtain ⟨cs, hb, hl⟩ := HM.out.2 g' rfl
              obtain ⟨y0, e0⟩ : ∃ y, cs[m * 3]? = some y := ⟨_, List.getElem?_eq_getElem (by omega)⟩
              obtain ⟨y1, e1⟩ : ∃ y, cs[m * 3 + 1]? = some y := ⟨_, List.getElem?_eq_getElem (by omega)⟩
              obtain ⟨y2, e2⟩ : ∃ y, cs[m * 3 + 2]? = some y := ⟨_, List.getElem?_eq_getElem (by omega)⟩
              have k0 := hb.cell1 (m * 3) y0 e0
              have k1 := hb.cell1 (m * 3 + 1) y1 e1
              have k2 := hb.cell1 (m * 3 + 2) y2 e2
              have f0 := hb.frozen (m * 3)
              have f1 := hb.frozen (m * 3 + 1)
              have f2 := hb.frozen (m * 3 + 2)
              have HZ : Hid (∀ W, W = ((wr.setCell ⟨g', m * 3, none⟩ (.string ⟨#[]⟩)).setCell ⟨g', m * 3 + 1, none⟩ (.string ⟨#[]⟩)).setCell ⟨g', m * 3 + 2, none⟩ (.int .u64 0) → Below W0.heap.size W0 W ∧ ∀ g'', some (⟨g', 0, none⟩ : Addr) = some ⟨g'', 0, none⟩ → ∃ cs, Blk W g'' 56 cs ∧ NC * 3 ≤ cs.length) := by
                rintro W rfl
                have hge := (HG.out.2 g' rfl).1
                have U : Upd (fun j => j = g') wr (((wr.setCell ⟨g', m * 3, none⟩ (.string ⟨#[]⟩)).setCell ⟨g', m * 3 + 1, none⟩ (.string ⟨#[]⟩)).setCell ⟨g', m * 3 + 2, none⟩ (.int .u64 0)) := (((Upd.refl (fun j => j = g') wr).setCell (p := ⟨g', m * 3, none⟩) (fun _ => rfl) _).setCell (p := ⟨g', m * 3 + 1, none⟩) (fun _ => rfl) _).setCell (p := ⟨g', m * 3 + 2, none⟩) (fun _ => rfl) _
                refine ⟨HM.out.1.trans (U.below (fun j hj => Nat.lt_of_lt_of_le hj HM.out.1.size) (fun j hj => by rw [hj]; exact hge)), fun g'' e => ?_⟩
                cases e
                exact ⟨_, ((hb.set (m * 3) _).set (m * 3 + 1) _).set (m * 3 + 2) _, by simpa using hl⟩
              clear hb e0 e1 e2
              go_wp2_with fail
              go_roundw
              case rel => exact ⟨m + 1, by omega, by go_num, HZ.out _ rfl⟩
              case measure => simp [intOf]; omega
            · obtain rfl : m = NC := by omega
              have hz : ¬ ((m : Int) < m) := by omega
              have HE : Hid (Below w.heap.size w wr ∧ Below w3.heap.size w3 wr) := ⟨HK.out.1.trans (HM.out.1.mono HK.out.1.size), HK.out.2.trans (HM.out.1.mono HK.out.2.size)⟩
              go_wp2_with fail
              go_roundw
              case rel => exact ⟨k + 1, by omega, by go_num, HE.out⟩
              case measure => simp [intOf]; omega
      · obtain rfl : k = N := by omega
        have hz : ¬ ((k : Int) < k) := by omega
        have HE1 := (HEn.out wr HK.out.2).1
        go_wp2_with (first
          | (go_at_call 27; refine HE1.mono ?_; rintro e w20 ⟨b20, k20, rfl, r1, r2⟩
             have HE2 := (HEn.out w20 (HK.out.2.trans (r2.mono HK.out.2.size))).2 b20 k20 r1
             have HB20 : Hid (Below w.heap.size w w20) := HK.out.1.trans (r2.mono HK.out.1.size)
             clear r1 r2)
          | (go_at_call 12; refine HE2.mono ?_; rintro e w21 ⟨rfl, r2⟩
             have HB21 : Hid (Below w.heap.size w w21) := HB20.out.trans (r2.mono HB20.out.size)
             clear r2)
          | (go_at_call 14; refine (HLi.out w21).mono ?_; rintro e w22 ⟨rfl, r2⟩
             have HB22 : Hid (Below w.heap.size w w22) := HB21.out.trans (r2.mono HB21.out.size)
             clear r2))
        go_ret
        exact ⟨rfl, HB22.out⟩
  · have hp := HP2.out.1 h0
    subst hp
    have hE0 : (E != 0) = true := by simpa using h0
    clear HP2 HRn HEnd HNw HRs HA
    go_wp2_with (first
      | (go_at_call 14; refine (HLi.out w3).mono ?_; rintro e w22 ⟨rfl, r2⟩
         have HB22 : Hid (Below w.heap.size w w22) := HB3.out.1.trans (r2.mono HB3.out.1.size)
         clear r2))
    go_ret
    exact ⟨rfl, HB22.out⟩
end Go.Proofs.Ytagnnocecfoggaa
