/-
  The program's Families, walked.
-/
import Derived.Test.YtkpijoogaicodaaHt
import Derived.Test.YtkpijoogaicodaaEb
namespace Go.Proofs.Ytkpijoogaicodaa
open Go.RowKit Go.Sort Go.Lib
set_option linter.unusedVariables false
set_option linter.unusedSimpArgs false
theorem below_grown {B : Nat} {w w1 w2 : World} {row : Option Nat} (h : Go.RowKit.Below B w w1) (g : w1.grownBy w2 row) (hB : B ≤ w1.heap.size) (hr : ∀ k, row = some k → B ≤ k) : Go.RowKit.Below B w w2 := h.grown g hB hr
set_option maxRecDepth 100000 in
set_option maxHeartbeats 2000000 in
theorem fam_any {w : World} {b : Nat} {rv mv : Value} {rs : List Rec} {ms : List Nat} (h : Bt w b rv mv rs ms) (hl : rs.length ≤ 5000) :
    Calls Try.prog 50 #[ptr b] w fun e w' => ∃ fv, e = .returned fv ∧ w'.ownsRow w.heap.size 29 1 fv (famI rs).length (uc (famI rs)) ∧ Go.RowKit.Below w.heap.size w w' := by
  have c0 := h.blk.cell1 0 _ rfl
  have hrd := row_rd h.row
  obtain ⟨ra, rc, rfl⟩ := hrd.len
  go_enter Try.func50, Try.ntmps50
  go_wp2
  go_loopw [3, 11] (fun l i wr => ∃ k : Nat, k ≤ rs.length ∧ i = .int .i64 k ∧ wr.ownsRow w.heap.size 29 1 l ((rs.take k).map (·.fam)).length (uc ((rs.take k).map (·.fam))) ∧ Go.RowKit.Below w.heap.size w wr) (fun _ i _ => rs.length - (intOf i).toNat)
  case atStart => exact ⟨0, Nat.zero_le _, rfl, World.ownsRow_nil _ _ _ _, Go.RowKit.Below.refl _ _⟩
  case round =>
    obtain ⟨k, hk, rfl, hrow, hbel⟩ := hrel
    by_cases hlt : k < rs.length
    · obtain ⟨b2, off, cap, hv, hb, q0, q1, q2, q3⟩ := (hrd.below hbel).at hlt
      cases hv
      have HT : Hid ((rs.take (k + 1)).map (·.fam) = (rs.take k).map (·.fam) ++ [rs[k].fam]) := by show _ = _; rw [List.take_succ_eq_append_getElem hlt, List.map_append]; rfl
      generalize rs[k] = r at *
      obtain ⟨f, kd, key, val⟩ := r
      dsimp only at *
      have hTl : ((rs.take k).map (·.fam)).length ≤ 5000 := by simp; omega
      generalize (rs.take k).map (·.fam) = T at *
      obtain ⟨la, lc, rfl, _⟩ := urow_form hrow
      go_wp2_with
        (at_builtin
         refine upush rfl _ _ rfl rfl rfl f ((hrow.alloc _).alloc _) (by simp) (by omega) (by have := hbel.size; simp; omega) ?_
         intro oa oc w2 ho' hg
         have hB3 : Go.RowKit.Below w.heap.size w w2 := ((hbel.alloc hbel.size _).alloc (by have := hbel.size; simp; omega) _).grown hg (by have := hbel.size; simp; omega) (fun k hk => (hrow.lt k hk).1))
      go_roundw
      case rel => exact ⟨k + 1, by omega, by go_num, by rw [HT.out]; simpa using ho', hB3⟩
      case measure => simp [intOf]; omega
    · obtain rfl : k = rs.length := by omega
      rw [List.take_length] at hrow
      have HU := ufam hrow hl
      obtain ⟨la, lc, rfl, _⟩ := urow_form hrow
      have HB : Hid (Go.RowKit.Below w.heap.size w wr) := hbel
      generalize (rs.map (·.fam)).length = n at HU ⊢
      clear hrow hbel hrd c0 h
      go_wp2_with (first
        | (go_at_call 68; refine hc68.mono ?_; rintro e w2 ⟨fv, rfl, ho2, row2, hg2, hr2⟩)
        | (go_at_call 67; refine HU.mono ?_; rintro e w1 ⟨rfl, ⟨row1, hg1, hr1⟩, hc68⟩))
      go_ret
      have hB1 := HB.out.grown hg1 HB.out.size hr1
      exact ⟨fv, rfl, ho2, hB1.grown hg2 hB1.size hr2⟩
end Go.Proofs.Ytkpijoogaicodaa
