/-
  Whole.
-/
import Derived.Test.YtagnnocecfoggaaQb
namespace Go.Proofs.Ytagnnocecfoggaa
open Go.RowKit
set_option linter.unusedVariables false
set_option linter.unusedSimpArgs false
def cut3 (a : Option Addr) (cap m : Nat) : Option Addr := if cap = m then a else a.map (·.add (m * 3))
theorem elem23 : Try.prog.elem 23 = 63 := by kernel_rfl
theorem slc23 : Try.prog.underlying 23 = some (.slice (Try.prog.elem 23)) := by rw [elem23]; exact Try.underlying23
theorem fcut_lo (a : Option Addr) (n cap m : Nat) (h : m ≤ n) (W : World) : (Instr.sliceAt 23 (.slice a n cap) (some (.int .i64 m)) none none).run Try.prog W = .ok (.slice (cut3 a cap m) (n - m) (cap - m)) W := by
  have hs : (sizeOf 63).run Try.prog W = .ok 3 W := by kernel_rfl
  have hr := run_slice_l (P := Try.prog) W 23 a n cap slc23 .i64 (m : Int) (by omega) (by omega)
  rw [elem23, hs] at hr
  simp only [Result.andThen, sliced, Int.toNat_natCast] at hr
  rw [run_sliceAt_slice _ _ _ _ _ _ slc23, hr]
  unfold cut3
  cases a <;> split <;> simp
theorem ge_of {how : Int} {a b : ByteArray} : decide (0 ≤ cmpH how a b) = kle how b a := by
  rw [Bool.eq_iff_iff, decide_eq_true_eq, kle_iff]
  have := cmpH_neg how a b
  omega
theorem keep4 {w w' : World} (hb : Below w.heap.size w w') {a b c d a' b' c' d' : Nat} {v0 v1 v2 v3 : Value} (h : w.cell? ⟨a, a', none⟩ = some v0 ∧ w.cell? ⟨b, b', none⟩ = some v1 ∧ w.cell? ⟨c, c', none⟩ = some v2 ∧ w.cell? ⟨d, d', none⟩ = some v3) : w'.cell? ⟨a, a', none⟩ = some v0 ∧ w'.cell? ⟨b, b', none⟩ = some v1 ∧ w'.cell? ⟨c, c', none⟩ = some v2 ∧ w'.cell? ⟨d, d', none⟩ = some v3 := ⟨cell_below hb h.1, cell_below hb h.2.1, cell_below hb h.2.2.1, cell_below hb h.2.2.2⟩
set_option maxRecDepth 100000 in
set_option maxHeartbeats 2000000 in
theorem Whole_any {w : World} {S : Nat} {how : Int} {a : Option Addr} {c : Nat} {L : List Fg} (h : St w S how a c L) (hg : FrG how L) (b e : ByteArray) (below n : Int) :
    Calls Try.prog 22 #[ptr S, .string b, .string e, .int .u64 below, .int .u64 n] w fun r w' => r = .returned (.bool (wholeF how e below n (L.drop (rch how L b)) b)) ∧ Below w.heap.size w w' := by
  have HR : Hid (∀ W, Below w.heap.size w W → Calls Try.prog 41 #[ptr S, .string b] W fun e w' => e = .returned (.int .i64 (rch how L b)) ∧ Below W.heap.size W w') := fun W hb => reach_any (h.below hb) hg.o b hg.len
  have HSt : Hid (∀ w', Below w.heap.size w w' → St w' S how a c L) := fun w' hb => h.below hb
  have s1 := h.blk.cell1 1 _ rfl
  have hil : rch how L b ≤ L.length := List.findIdx_le_length
  obtain ⟨i, hi⟩ : ∃ i, Hid (rch how L b = i) := ⟨_, rfl⟩
  rw [hi.out] at HR hil ⊢
  obtain ⟨R, hR⟩ : ∃ R, Hid (wholeF how e below n (L.drop i) b = R) := ⟨_, rfl⟩
  rw [hR.out]
  obtain ⟨N, hN⟩ : ∃ N, Hid (N = L.length) := ⟨_, rfl⟩
  have hl := hg.len
  have hcap := h.cap
  rw [← hN.out] at hil hl s1 hcap
  have hcut := fcut_lo a N c i hil
  have HG : Hid (FrG how L) := hg
  obtain ⟨A, hA⟩ : ∃ A, Hid (cut3 a c i = A) := ⟨_, rfl⟩
  rw [hA.out] at hcut
  have hiz : (i : Int) ≤ N := by omega
  obtain ⟨D, hD⟩ : ∃ D, N - i = D := ⟨_, rfl⟩
  have HD : Hid (i + D = N) := by show _ = _; omega
  rw [hD] at hcut
  have hDl : D ≤ 10000 := by omega
  clear h hg hD
  go_enter Try.func22, Try.ntmps22
  go_wp2_with fail
  go_region_held_law (fun w' => w'.cell? ⟨S, 1, none⟩ = some (.slice a N c))
    (first | (go_keep; done) | exact cell_below hb1 ‹_›)
    ((go_at_call 41; refine (HR.out _ (Below.refl _ _).drew).mono ?_; rintro e w1 ⟨rfl, hb1⟩))
  have HB1 : Hid (Below w.heap.size w w1) := (Below.refl _ _).drew.trans hb1
  clear hb1 s1 hcut HR
  go_wp2_with fail
  go_loopw [1, 22] (fun s1 s22 wr => ∃ (j : Nat) (b' : ByteArray), j ≤ D ∧ s1 = .string b' ∧ s22 = .int .i64 j ∧ Hid (Below w.heap.size w wr ∧ wholeF how e below n (L.drop (i + j)) b' = R)) (fun _ s22 _ => ((D : Int) - intOf s22).toNat)
  case atStart => exact ⟨0, b, Nat.zero_le _, rfl, rfl, HB1.out, hR.out⟩
  case round =>
    obtain ⟨j, b', hjD, rfl, rfl, HJ⟩ := hrel
    obtain ⟨hb, hw⟩ := HJ.out
    have hSt := HSt.out wr hb
    have c0 := hSt.blk.cell1 0 _ rfl
    rcases Nat.lt_or_ge j D with hjD' | hjD'
    · have hjz : (j : Int) < D := by omega
      have hij : i + j < L.length := by have := HD.out; have := hN.out; omega
      obtain ⟨f, hf⟩ : ∃ f, L[i + j]? = some f := ⟨_, List.getElem?_eq_getElem hij⟩
      obtain ⟨g, o, pa, pk, rfl, t0, t1, t2, t3⟩ := hSt.rd.at_ hf
      have hA' : A = some ⟨g, o + i * 3, none⟩ := by
        rw [← hA.out]; unfold cut3
        rw [if_neg (by have := HD.out; omega)]
        simp [add_at]
      subst hA'
      rw [show o + (i + j) * 3 = o + i * 3 + j * 3 by omega] at t0 t1 t2
      have hdrop : L.drop (i + j) = f :: L.drop (i + (j + 1)) := by
        obtain ⟨h1, rfl⟩ := List.getElem?_eq_some_iff.1 hf
        rw [List.drop_eq_getElem_cons h1]; rfl
      have HW : Hid ((if kle how e b' = true then true else if kl how b' f.b = true ∨ mostQ f.q n ≤ below then false else wholeF how e below n (L.drop (i + (j + 1))) f.e) = R) := by
        show _ = _
        rw [← hw, hdrop]; rfl
      have HF : Hid (Str gt f.q ∧ f.q.length ≤ 10000) := ⟨HG.out.fall f (List.mem_of_getElem? hf), HG.out.qlen f (List.mem_of_getElem? hf)⟩
      have hbx : Below wr.heap.size wr (wr.alloc (.cells #[.string f.b, .string f.e, .slice pa f.q.length pk] 63)) := (Below.refl _ _).alloc (Nat.le_refl _) _
      have HB2 : Hid (Below w.heap.size w (wr.alloc (.cells #[.string f.b, .string f.e, .slice pa f.q.length pk] 63)) ∧ Rd uc 1 (wr.alloc (.cells #[.string f.b, .string f.e, .slice pa f.q.length pk] 63)) pa f.q) := ⟨hb.trans (hbx.mono hb.size), t3.below hbx⟩
      have d0 := cell_below hbx c0
      have hX : Blk (wr.alloc (.cells #[.string f.b, .string f.e, .slice pa f.q.length pk] 63)) wr.heap.size 63 [.string f.b, .string f.e, .slice pa f.q.length pk] := Blk.new wr 63 [.string f.b, .string f.e, .slice pa f.q.length pk]
      have x0 := hX.cell1 0 _ rfl
      have x1 := hX.cell1 1 _ rfl
      have x2 := hX.cell1 2 _ rfl
      have HX : Hid (Blk (wr.alloc (.cells #[.string f.b, .string f.e, .slice pa f.q.length pk] 63)) wr.heap.size 63 [.string f.b, .string f.e, .slice pa f.q.length pk]) := hX
      obtain ⟨QN, hQN⟩ : ∃ QN, Hid (f.q.length = QN) := ⟨_, rfl⟩
      rw [hQN.out] at t2 HB2 d0 x0 x1 x2 HX
      clear hb hw hSt hf t3 hdrop hbx hX hij HG
      cases hke : kle how e b'
      · have hc1 : ¬ 0 ≤ cmpH how b' e := by have := ge_of (how := how) (a := b') (b := e); rw [hke] at this; simpa using this
        cases hkb : kl how b' f.b
        · have hc2 : decide (0 < cmpH how f.b b') = false := by rw [gt_of]; exact hkb
          go_upto_region 6 with (go_at_call 42; refine (ccmp_any _ _ _ _).mono ?_; rintro r w2 ⟨rfl, hw2⟩; have hw3 := hw2.symm; subst hw3)
          obtain ⟨xb, hxb⟩ : ∃ xb, Hid (wr.heap.size = xb) := ⟨_, rfl⟩
          rw [hxb.out] at x0 x1 x2 ⊢
          clear c0 t0 t1 t2 HX
          generalize wr.alloc (.cells #[.string f.b, .string f.e, .slice pa QN pk] 63) = W2 at *
          have HMo : Hid (Calls Try.prog 43 #[.slice pa QN pk, .int .u64 n] W2.drew fun e w' => e = .returned (.int .u64 (mostQ f.q n)) ∧ Below W2.drew.heap.size W2.drew w') := by
            have := most_any (c := pk) (HB2.out.2.below (Below.refl _ _).drew) HF.out.1 n HF.out.2
            rw [hQN.out] at this; exact this
          go_region_held_law (fun w' => w'.cell? ⟨S, 0, none⟩ = some (.int .i64 how) ∧ w'.cell? ⟨xb, 0, none⟩ = some (.string f.b) ∧ w'.cell? ⟨xb, 1, none⟩ = some (.string f.e) ∧ w'.cell? ⟨xb, 2, none⟩ = some (.slice pa QN pk))
            (first | (go_keep; done) | exact keep4 hb3 ‹_›)
            (first
              | (go_at_call 42; refine (ccmp_any _ _ _ _).mono ?_; rintro r w3 ⟨rfl, hw2⟩; have hw3 := hw2.symm; subst hw3)
              | (go_at_call 43; refine HMo.out.mono ?_; rintro r w3 ⟨rfl, hb3⟩))
          have HB3 : Hid (Below w.heap.size w w3) := HB2.out.1.drew.trans (hb3.mono HB2.out.1.drew.size)
          clear hb3
          by_cases hm : mostQ f.q n ≤ below
          · go_wp2_with fail
            go_ret
            refine ⟨?_, HB3.out⟩
            rw [← HW.out, hke, hkb]
            simp [hm]
          · have hm' : ¬ (mostQ f.q n ≤ below) := hm
            go_wp2_with fail
            go_roundw
            case rel => 
              refine ⟨j + 1, f.e, by omega, rfl, by go_num, HB3.out, ?_⟩
              rw [← HW.out, hke, hkb]
              simp only [Bool.false_eq_true, if_false, false_or]
              rw [if_neg (by omega)]
            case measure => simp [intOf]; omega
        · have hc2 : decide (0 < cmpH how f.b b') = true := by rw [gt_of]; exact hkb
          go_upto_region 6 with (go_at_call 42; refine (ccmp_any _ _ _ _).mono ?_; rintro r w2 ⟨rfl, hw2⟩; have hw3 := hw2.symm; subst hw3)
          go_quiet ((go_at_call 42; exact Calls.quiet_of_same (ccmp_any _ _ _ _)))
          go_wp2_with fail
          go_ret
          refine ⟨?_, belN HB2.out.1 _⟩
          rw [← HW.out, hke, hkb]
          rfl
      · have hc1 : 0 ≤ cmpH how b' e := by have := ge_of (how := how) (a := b') (b := e); rw [hke] at this; simpa using this
        go_wp2_with (go_at_call 42; refine (ccmp_any _ _ _ _).mono ?_; rintro r w2 ⟨rfl, hw2⟩; have hw3 := hw2.symm; subst hw3)
        go_ret
        refine ⟨?_, HB2.out.1⟩
        rw [← HW.out, hke]
        rfl
    · obtain rfl : j = D := by omega
      have hz : ¬ ((j : Int) < j) := by omega
      have hwR : kle how e b' = R := by
        rw [← hw, List.drop_eq_nil_of_le (by have := HD.out; have := hN.out; omega)]; rfl
      have hd := ge_of (how := how) (a := b') (b := e)
      have HE : Hid (decide (0 ≤ cmpH how b' e) = R ∧ Below w.heap.size w wr) := ⟨hd.trans hwR, hb⟩
      clear hb hw hSt hwR hd
      go_wp2_with (go_at_call 42; refine (ccmp_any _ _ _ _).mono ?_; rintro r w2 ⟨rfl, hw2⟩; have hw3 := hw2.symm; subst hw3)
      go_ret
      exact ⟨by rw [← HE.out.1]; rfl, HE.out.2⟩
end Go.Proofs.Ytagnnocecfoggaa
