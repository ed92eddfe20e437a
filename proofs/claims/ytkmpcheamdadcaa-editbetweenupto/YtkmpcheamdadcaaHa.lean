/-
  For EditBetween: the reference's Size f27, has f62.
-/
import Derived.Test.YtkmpcheamdadcaaWb
import Derived.Test.YtkmpcheamdadcaaDc
import Derived.Test.YtkmpcheamdadcaaYc
import Derived.BigQuiet
namespace Go.Proofs.Ytkmpcheamdadcaa
open Go.RowKit
set_option linter.unusedVariables false
set_option linter.unusedSimpArgs false
set_option maxRecDepth 100000 in
set_option maxHeartbeats 2000000 in
theorem rsize_any {w : World} {V : Vn} {L : Nat → List Fi} (h : RdV w V L) (lv : Int) : Calls Try.prog 27 #[.agg (verA V L), .int .i64 lv] w fun e w' => e = .returned (.int .u64 (sizV L lv)) ∧ Below w.heap.size w w' := by
  unfold sizV
  cases hv : isLvB lv
  · have hlv : lv < 0 ∨ (0 ≤ lv ∧ 7 ≤ lv) := by
      have : ¬ (0 ≤ lv ∧ lv < 7) := by rw [← isLvB_iff, hv]; simp
      omega
    rw [if_neg (by decide)]
    rcases hlv with hlv | ⟨hl0, hl7⟩
    · have p1 : decide (0 ≤ lv) = false := decide_eq_false (by omega)
      have p2 : ¬ 0 ≤ lv := by omega
      go_enter Try.func27, Try.ntmps27
      go_wp2
      go_loopw [5, 6] (fun n' i wr => n' = .int .u64 0 ∧ i = .int .i64 0 ∧ Hid (Below w.heap.size w wr)) (fun _ _ _ => 0)
      case atStart => exact ⟨rfl, rfl, al1 _ _⟩
      case round =>
        obtain ⟨rfl, rfl, HB⟩ := hrel
        go_wp2
        go_ret
        exact ⟨rfl, HB.out⟩
    · have p1 : decide (lv < 7) = false := decide_eq_false (by omega)
      have p2 : ¬ lv < 7 := by omega
      go_enter Try.func27, Try.ntmps27
      go_wp2
      go_loopw [5, 6] (fun n' i wr => n' = .int .u64 0 ∧ i = .int .i64 0 ∧ Hid (Below w.heap.size w wr)) (fun _ _ _ => 0)
      case atStart => exact ⟨rfl, rfl, al1 _ _⟩
      case round =>
        obtain ⟨rfl, rfl, HB⟩ := hrel
        go_wp2
        go_ret
        exact ⟨rfl, HB.out⟩
  · obtain ⟨n, rfl, hn⟩ := isLv_nat hv
    have HV : Hid (RdF w (V.a n) (L n)) := h.rd n hn
    have HOk : Hid (∀ f ∈ L n, FOk f) := h.ok n hn
    have hl := h.len n hn
    have hnz : (n : Int) < 7 := by omega
    have hn0 : (0 : Int) ≤ (n : Int) := by omega
    have HX : Hid (∀ W, Below (w.alloc (.cells (verA V L) 41)).heap.size (w.alloc (.cells (verA V L) 41)) W → W.cell? ⟨w.heap.size, n, none⟩ = some (.slice (V.a n) (L n).length (V.c n))) := fun W hb => verK hb n hn
    obtain ⟨l, hl'⟩ : ∃ l, Hid (L n = l) := ⟨_, rfl⟩
    rw [if_pos rfl, Int.toNat_natCast]
    rw [hl'.out] at HV HOk hl HX ⊢
    obtain ⟨N, hN⟩ : ∃ N, Hid (l.length = N) := ⟨_, rfl⟩
    rw [hN.out] at hl HX
    obtain ⟨R, hR⟩ : ∃ R, Hid (szs l = R) := ⟨_, rfl⟩
    rw [hR.out]
    clear h
    go_enter Try.func27, Try.ntmps27
    go_wp2
    go_loopw [5, 6] (fun n' i wr => ∃ k : Nat, k ≤ N ∧ i = .int .i64 k ∧ n' = .int .u64 (szs (l.take k)) ∧ Hid (Below (w.alloc (.cells (verA V L) 41)).heap.size (w.alloc (.cells (verA V L) 41)) wr)) (fun _ i _ => (N : Int).toNat - (intOf i).toNat)
    case atStart => exact ⟨0, Nat.zero_le _, rfl, rfl, Below.refl _ _⟩
    case round =>
      obtain ⟨k, hk, rfl, rfl, HB⟩ := hrel
      have HBw : Hid (Below w.heap.size w wr) := bstep (al1 _ _) HB.out
      have cx := HX.out wr HB.out
      have lx := cell_lt cx
      dsimp only at lx
      by_cases hlt : k < N
      · have hkz : (k : Int) < (N : Int) := by omega
        obtain ⟨f, hf⟩ : ∃ f, l[k]? = some f := ⟨_, List.getElem?_eq_getElem (by rw [hN.out]; exact hlt)⟩
        obtain ⟨g, o, e', hat⟩ := (HV.out.below HBw.out).at_ hf
        rw [e'] at cx
        obtain ⟨y0, y1, y2, y3, y4, y5, y6, y7, y8, y9⟩ := hat.f
        have hs := szs_bd (l.take k)
        have hfb := (HOk.out f (List.mem_of_getElem? hf)).size
        have HSn : Hid (szs (l.take (k + 1)) = (szs (l.take k) + f.size) % 18446744073709551616) := by show _ = _; rw [take_snoc' hf, szs_snoc]
        clear hf hat e'
        generalize szs (l.take k) = S at *
        obtain ⟨hs0, hs1⟩ := hs
        obtain ⟨hf0, hf1⟩ := hfb
        have hw : IntKind.u64.wrap (S + f.size) = (S + f.size) % 18446744073709551616 := by rw [IntKind.wrap_u64]
        go_wp2
        go_roundw
        case rel => exact ⟨k + 1, by omega, by go_num, by rw [HSn.out], HB.out⟩
        case measure => simp [intOf]; omega
      · obtain rfl : k = N := by omega
        have hz : ¬ ((k : Int) < k) := by omega
        have HRr : Hid (szs (l.take k) = R) := by show _ = _; rw [List.take_of_length_le (by rw [hN.out]; exact Nat.le_refl _)]; exact hR.out
        generalize szs (l.take k) = S at *
        go_wp2
        go_ret
        exact ⟨ret_ii HRr.out, HBw.out⟩
/-- Whether a list has a table. -/
def hasB (l : List Fi) (f : Fi) : Bool := l.any fun g => feq g f
theorem hasB_iff {l : List Fi} {f : Fi} : hasB l f = true ↔ f ∈ l := by
  unfold hasB
  rw [List.any_eq_true]
  constructor
  · rintro ⟨g, hg, he⟩
    rw [feq_iff] at he
    subst he; exact hg
  · intro h
    exact ⟨f, h, feq_iff.2 rfl⟩
set_option maxRecDepth 100000 in
set_option maxHeartbeats 2000000 in
theorem rhas_any {w : World} {a : Option Addr} {cap : Nat} {l : List Fi} (h : RdF w a l) (hl : l.length * 96 ≤ 140737488355328) (f : Fi) :
    Calls Try.prog 62 #[.slice a l.length cap, f.v] w fun e w' => e = .returned (.bool (hasB l f)) ∧ Below w.heap.size w w' := by
  obtain ⟨R, hR⟩ : ∃ R, Hid (hasB l f = R) := ⟨_, rfl⟩
  rw [hR.out]
  obtain ⟨N, hN⟩ : ∃ N, Hid (l.length = N) := ⟨_, rfl⟩
  have HRd : Hid (RdF w a l) := h
  rw [hN.out] at hl ⊢
  clear h
  have HXf : Hid (∀ W, Below (w.alloc (.cells f.v.cells 50)).heap.size (w.alloc (.cells f.v.cells 50)) W → Blk W w.heap.size 50 f.c) := fun W hb => (Blk.new w 50 f.c).upd (S := Non) (Upd.ofBelow hb) (fun h => h)
  go_enter Try.func62, Try.ntmps62
  go_wp2
  go_loopw [5] (fun i wr => ∃ k : Nat, k ≤ N ∧ i = .int .i64 k ∧ Hid ((l.drop k).any (fun g => feq g f) = R) ∧ Hid (Below (w.alloc (.cells f.v.cells 50)).heap.size (w.alloc (.cells f.v.cells 50)) wr)) (fun i _ => ((N : Int) - intOf i).toNat)
  case atStart => exact ⟨0, Nat.zero_le _, rfl, hR.out, Below.refl _ _⟩
  case round =>
    clear hR
    obtain ⟨k, hk, rfl, HC, HB⟩ := hrel
    have HBw : Hid (Below w.heap.size w wr) := bstep (al1 _ _) HB.out
    have X := HXf.out wr HB.out
    have x0 := X.cell1 0 _ rfl
    have x1 := X.cell1 1 _ rfl
    have x2 := X.cell1 2 _ rfl
    have x3 := X.cell1 3 _ rfl
    have x4 := X.cell1 4 _ rfl
    have x5 := X.cell1 5 _ rfl
    have x6 := X.cell1 6 _ rfl
    have x7 := X.cell1 7 _ rfl
    have x8 := X.cell1 8 _ rfl
    have x9 := X.cell1 9 _ rfl
    have lx := X.lt
    clear X
    rcases Nat.lt_or_ge k N with hkN | hkN
    · have hkz : (k : Int) < (N : Int) := by omega
      obtain ⟨g, hg⟩ : ∃ g, l[k]? = some g := ⟨_, List.getElem?_eq_getElem (by rw [hN.out]; exact hkN)⟩
      obtain ⟨ga, oa, e1, hat1⟩ := (HRd.out.below HBw.out).at_ hg
      obtain ⟨y0, y1, y2, y3, y4, y5, y6, y7, y8, y9⟩ := hat1.f
      have HC' : Hid ((g :: l.drop (k + 1)).any (fun g => feq g f) = R) := by
        show _ = _
        rw [← drop_get hg]; exact HC.out
      have hq : ∀ W, (binOp .eql 50 g.v f.v).run Try.prog W = .ok (.bool (feq g f)) W := fun W => eqf_any g f W
      subst e1
      clear hg hat1 HC
      cases hfg : feq g f
      · have HN : Hid ((l.drop (k + 1)).any (fun g => feq g f) = R) := by
          have := HC'.out
          simp only [List.any_cons, hfg, Bool.false_or] at this
          exact this
        rw [hfg] at hq
        have hq' := hq
        clear HC' hfg
        go_wp2_with (first | go_quiet (fail) | go_big_quiet (fail))
        go_roundw
        case rel => exact ⟨k + 1, by omega, by go_num, HN.out, belN HB.out _⟩
        case measure => simp [intOf]; omega
      · have hres : Hid (R = true) := by
          have := HC'.out
          simp only [List.any_cons, hfg, Bool.true_or] at this
          exact this.symm
        rw [hfg] at hq
        have hq' := hq
        clear HC' hfg
        go_wp2_with (first | go_quiet (fail) | go_big_quiet (fail))
        go_ret
        exact ⟨by rw [hres.out]; rfl, belN HBw.out _⟩
    · obtain rfl : k = N := by omega
      have hz : ¬ ((k : Int) < k) := by omega
      have hres : Hid (R = false) := by
        have := HC.out
        rw [List.drop_of_length_le (by rw [hN.out]; exact Nat.le_refl _)] at this
        exact this.symm
      go_wp2
      go_ret
      exact ⟨by rw [hres.out]; rfl, HBw.out⟩
end Go.Proofs.Ytkmpcheamdadcaa
