import Derived.Test.YtkdjahgndkdnhaaWd
namespace Go.Proofs.Ytkdjahgndkdnhaa
open Go.RowKit Go.Maps Go.Shelf
set_option linter.unusedVariables false
set_option linter.unusedSimpArgs false
theorem cell_upd {S : Nat → Prop} {w w' : World} (u : Upd S w w') {p : Addr} {v : Value} (h : w.cell? p = some v) (hl : p.block < w.heap.size) (hS : ¬ S p.block) : w'.cell? p = some v :=
  (World.cell?_of_block (a := p) (u.block p.block hl hS)).trans h
set_option maxRecDepth 100000 in
set_option maxHeartbeats 800000 in
/-- Two slices of ints that read the same, of which the first lies in a block of its own. -/
theorem ints_yes {w : World} {g : Nat} {va ua : Option Addr} {vc uc : Nat} {l : List Int} {t : TypeId} (hv : l = [] ∨ ∃ cs : List Value, va = some ⟨g, 0, none⟩ ∧ Blk w g t cs ∧ ∀ (j : Nat) (x : Int), l[j]? = some x → cs[j]? = some (.int .i64 x))
    (hu : ∀ (j : Nat) (x : Int), l[j]? = some x → ∃ g' o', ua = some ⟨g', o', none⟩ ∧ g' ≠ g ∧ g' < w.heap.size ∧ w.cell? ⟨g', o' + j, none⟩ = some (.int .i64 x)) (hl : l.length ≤ 140737488351232) :
    Calls Try.prog 18 #[.slice va l.length vc, .slice ua l.length uc] w fun e w' => e = .returned (.bool true) ∧ Upd (fun k => k = g) w w' := by
  go_enter Try.func18, Try.ntmps18
  go_wp2
  go_loopw [5] (fun i wr => ∃ (k : Nat), k ≤ l.length ∧ i = .int .i64 k ∧ Upd (fun k => k = g) w wr ∧ (l = [] ∨ ∃ cs : List Value, va = some ⟨g, 0, none⟩ ∧ Blk wr g t cs ∧ ∀ (j : Nat) (x : Int), k ≤ j → l[j]? = some x → cs[j]? = some (.int .i64 x))) (fun i _ => l.length - (intOf i).toNat)
  case atStart =>
    refine ⟨0, Nat.zero_le _, rfl, Upd.refl _ _, ?_⟩
    rcases hv with h | ⟨cs, h1, h2, h3⟩
    · exact .inl h
    · exact .inr ⟨cs, h1, h2, fun j x _ hj => h3 j x hj⟩
  case round =>
    obtain ⟨k, hk, rfl, hU, hc⟩ := hrel
    by_cases hlt : k < l.length
    · have h1 : (k : Int) < (l.length : Int) := by omega
      have h0 : (0 : Int) ≤ (k : Int) := by omega
      have hx := List.getElem?_eq_getElem (l := l) (i := k) (by omega)
      generalize l[k]'(by omega) = x at hx
      rcases hc with rfl | ⟨cs, rfl, hB, hcs⟩
      · simp at hlt
      obtain ⟨g', o', rfl, hne, hg', hcu0⟩ := hu k x hx
      have cv := hB.cell1 k _ (hcs k x (Nat.le_refl _) hx)
      have fv := hB.frozen k
      have cu := cell_upd hU hcu0 hg' hne
      have hB2 := hB.set k (.int .i64 77)
      have hU2 : Upd (fun k => k = g) w (wr.setCell ⟨g, k, none⟩ (.int .i64 77)) := hU.setCell (p := ⟨g, k, none⟩) (fun _ => rfl) _
      have hcs2 : ∀ (j : Nat) (x : Int), k + 1 ≤ j → l[j]? = some x → (cs.set k (.int .i64 77))[j]? = some (.int .i64 x) := fun j y hj hy => by
        rw [List.getElem?_set_ne (by omega)]
        exact hcs j y (by omega) hy
      have hcs' : Hid _ := hcs2
      clear hx hv hu hcs hcu0 hU hB hcs2
      go_wp2
      go_region
      go_wp2
      go_roundw
      case rel => exact ⟨k + 1, by omega, by go_num, hU2.drew, Or.inr ⟨_, by trivial, hB2.drew, hcs'.out⟩⟩
      case measure => simp [intOf]; omega
    · obtain rfl : k = l.length := by omega
      clear hc
      go_wp2
      go_ret
      exact ⟨rfl, hU⟩
end Go.Proofs.Ytkdjahgndkdnhaa
