/-
  The program's Files f28, walked: the numbers of all tables, in order, each once.
-/
import Derived.Test.YtkmpcheamdadcaaJt
import Derived.Test.YtkmpcheamdadcaaYd
import Derived.Test.YtkmpcheamdadcaaHa
namespace Go.Proofs.Ytkmpcheamdadcaa.Srt
open Go.RowKit Go.Sort Go.Lib
set_option linter.unusedVariables false
set_option linter.unusedSimpArgs false
/-- The numbers of the tables of the first levels, as they stand there. -/
def nmL (L : Nat → List Fi) : Nat → List Int
  | 0 => []
  | n + 1 => nmL L n ++ (L n).map (·.num)
theorem nmL_len {L : Nat → List Fi} (hL : ∀ i, i < 7 → (L i).length ≤ 1048576) : ∀ n, n ≤ 7 → (nmL L n).length ≤ n * 1048576
  | 0, _ => by simp [nmL]
  | n + 1, hn => by
    have := nmL_len hL n (by omega)
    have := hL n (by omega)
    simp only [nmL, List.length_append, List.length_map]
    omega
set_option maxRecDepth 100000 in
set_option maxHeartbeats 4000000 in
theorem files_any {w : World} {V : Vn} {L : Nat → List Fi} (h : RdV w V L) (hL : ∀ i, i < 7 → (L i).length ≤ 1048576) :
    Calls Try.prog 28 #[.agg (verA V L)] w fun e w' => ∃ fv, e = .returned fv ∧ w'.ownsRow w.heap.size 23 1 fv (famI (nmL L 7)).length (uc (famI (nmL L 7))) ∧ Go.RowKit.Below w.heap.size w w' := by
  have HV : Hid (RdV w V L) := h
  have HL : Hid (∀ i, i < 7 → (L i).length ≤ 1048576) := hL
  have HX : Hid (∀ k : Nat, k < 7 → ∀ w, (Instr.index 39 (.agg (verA V L)) (.int .i64 k)).run Try.prog w = .ok (vsl V L k) w) := fun k hk w => ver_index V L k hk w
  have HB1 : Hid (Go.RowKit.Below w.heap.size w (w.alloc (.cells (verA V L) 41))) := al1 _ _
  clear h hL
  go_enter Try.func28, Try.ntmps28
  go_wp2
  generalize HW : w.alloc (.cells _ 41) = W1 at *
  clear HW
  go_loopw [3, 10] (fun v i wr => ∃ k : Nat, k ≤ 7 ∧ i = .int .i64 k ∧ Hid (wr.ownsRow w.heap.size 23 1 v (nmL L k).length (uc (nmL L k)) ∧ Go.RowKit.Below w.heap.size w wr)) (fun _ i _ => (7 - intOf i).toNat)
  case atStart => exact ⟨0, by decide, rfl, World.ownsRow_nil _ _ _ _, HB1.out⟩
  case round =>
    clear HB1
    obtain ⟨k, hk, rfl, HR⟩ := hrel
    rcases Nat.lt_or_ge k 7 with hk7 | hk7
    · have hkz : (k : Int) < 7 := by omega
      have hx : ∀ w, (Instr.index 39 (.agg #[.slice (V.a 0) (L 0).length (V.c 0), .slice (V.a 1) (L 1).length (V.c 1), .slice (V.a 2) (L 2).length (V.c 2), .slice (V.a 3) (L 3).length (V.c 3), .slice (V.a 4) (L 4).length (V.c 4), .slice (V.a 5) (L 5).length (V.c 5), .slice (V.a 6) (L 6).length (V.c 6)]) (.int .i64 k)).run Try.prog w = .ok (.slice (V.a k) (L k).length (V.c k)) w := HX.out k hk7
      obtain ⟨N, hN⟩ : ∃ N, Hid ((L k).length = N) := ⟨_, rfl⟩
      have HRk : Hid (RdF w (V.a k) (L k)) := HV.out.rd k hk7
      have HNl : Hid (N ≤ 1048576 ∧ (nmL L k).length ≤ 6 * 1048576) := ⟨by rw [← hN.out]; exact HL.out k hk7, Nat.le_trans (nmL_len HL.out k (by omega)) (by omega)⟩
      have hNz : (N : Int) ≤ 1048576 := by have := HNl.out.1; omega
      have HS : Hid (nmL L (k + 1) = nmL L k ++ (L k).map (·.num)) := rfl
      have HR1 := HR.out
      rw [show nmL L k = nmL L k ++ ((L k).take 0).map (·.num) by simp] at HR1
      have HR' : Hid _ := HR1
      clear HR1
      clear HR
      rw [hN.out] at hx
      obtain ⟨l, hl⟩ : ∃ l, Hid (L k = l) := ⟨_, rfl⟩
      rw [hl.out] at HRk HS HR' hN
      obtain ⟨T, hT⟩ : ∃ T, Hid (nmL L k = T) := ⟨_, rfl⟩
      rw [hT.out] at HS HR' HNl
      go_wp2
      go_loopw [3, 15] (fun v i wr => ∃ j : Nat, j ≤ N ∧ i = .int .i64 j ∧ Hid (wr.ownsRow w.heap.size 23 1 v (T ++ (l.take j).map (·.num)).length (uc (T ++ (l.take j).map (·.num))) ∧ Go.RowKit.Below w.heap.size w wr)) (fun _ i _ => ((N : Int) - intOf i).toNat)
      case atStart => exact ⟨0, Nat.zero_le _, rfl, HR'.out⟩
      case round =>
        clear HR'
        obtain ⟨j, hj, rfl, HR⟩ := hrel
        rcases Nat.lt_or_ge j N with hjN | hjN
        · have hjz : (j : Int) < (N : Int) := by omega
          obtain ⟨g, hg⟩ : ∃ g, l[j]? = some g := ⟨_, List.getElem?_eq_getElem (by rw [hN.out]; exact hjN)⟩
          obtain ⟨ga, oa, e1, hat1⟩ := (HRk.out.below HR.out.2).at_ hg
          obtain ⟨y0, y1, y2, y3, y4, y5, y6, y7, y8, y9⟩ := hat1.f
          rw [e1]
          have HT : Hid (T ++ (l.take (j + 1)).map (·.num) = (T ++ (l.take j).map (·.num)) ++ [g.num]) := by show _ = _; rw [take_snoc' hg, List.map_append, ← List.append_assoc]; rfl
          have HTl : Hid ((T ++ (l.take j).map (·.num)).length ≤ 8 * 1048576) := by
            have := HNl.out
            show _ ≤ _
            simp only [List.length_append, List.length_map, List.length_take]; omega
          generalize T ++ (l.take j).map (·.num) = T2 at *
          obtain ⟨hrow, hbel⟩ := HR.out
          obtain ⟨la, lc, rfl, _⟩ := urow_form hrow
          have HR2 : Hid (wr.ownsRow w.heap.size 23 1 (.slice la T2.length lc) T2.length (uc T2) ∧ Go.RowKit.Below w.heap.size w wr) := ⟨hrow, hbel⟩
          clear hrow hbel HR hat1 e1 hg
          go_wp2_with
            (at_builtin
             refine upush rfl _ _ rfl rfl rfl g.num ((HR2.out.1.alloc _).alloc _) (by simp) (by have := HTl.out; omega) (by have := HR2.out.2.size; simp; omega) ?_
             intro oa oc w2 ho' hg
             have hB3 : Go.RowKit.Below w.heap.size w w2 := ((HR2.out.2.alloc HR2.out.2.size _).alloc (by have := HR2.out.2.size; simp; omega) _).grown hg (by have := HR2.out.2.size; simp; omega) (fun k hk => (HR2.out.1.lt k hk).1))
          go_roundw
          case rel => exact ⟨j + 1, by omega, by go_num, by rw [HT.out]; exact ⟨by simpa using ho', hB3⟩⟩
          case measure => simp [intOf]; omega
        · obtain rfl : j = N := by omega
          have HR1 := HR.out
          rw [List.take_of_length_le (by rw [hN.out]; exact Nat.le_refl _), ← HS.out] at HR1
          have HR3 : Hid _ := HR1
          clear HR1
          clear HR
          go_wp2
          go_roundw
          case rel => exact ⟨k + 1, by omega, by go_num, HR3.out⟩
          case measure => simp [intOf]; omega
    · obtain rfl : k = 7 := by omega
      have HU := ufam HR.out.1 (Nat.le_trans (nmL_len HL.out 7 (by decide)) (by omega))
      obtain ⟨la, lc, rfl, _⟩ := urow_form HR.out.1
      have HB : Hid (Go.RowKit.Below w.heap.size w wr) := HR.out.2
      clear HR HV HL HX
      generalize (nmL L 7).length = n at HU ⊢
      go_wp2_with (first
        | (go_at_call 66; refine hc66.mono ?_; rintro e w2 ⟨fv, rfl, ho2, row2, hg2, hr2⟩)
        | (go_at_call 65; refine HU.mono ?_; rintro e w1 ⟨rfl, ⟨row1, hg1, hr1⟩, hc66⟩))
      go_ret
      have hB1 := HB.out.grown hg1 HB.out.size hr1
      exact ⟨fv, rfl, ho2, hB1.grown hg2 hB1.size hr2⟩
end Go.Proofs.Ytkmpcheamdadcaa.Srt
