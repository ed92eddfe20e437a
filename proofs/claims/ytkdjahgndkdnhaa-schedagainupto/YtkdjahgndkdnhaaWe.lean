import Derived.Test.YtkdjahgndkdnhaaWd
namespace Go.Proofs.Ytkdjahgndkdnhaa
open Go.RowKit Go.Maps Go.Shelf
set_option linter.unusedVariables false
set_option linter.unusedSimpArgs false
section
variable {w W : World} {b : Nat} {rv : Value} {m : Nat} {ps : List Nat} {xb : Nat} {dv tv : Value} {M : Nat} {q : Nat → Nat} {lv : Nat → Value} {ls : Nat → List (Int × Int)} {n tot : Nat} {s : MS}
theorem take_succ_get {l : List Nat} {k j : Nat} (h : l[k]? = some j) : l.take (k + 1) = l.take k ++ [j] := by
  rw [List.take_add_one, h]; rfl
theorem pickAt_nat (l : List Nat) {k j : Nat} (h : l[k]? = some j) : pickAt (l.map fun (j : Nat) => (j : Int)) k = (j : Int) := by
  have hk := (List.getElem?_eq_some_iff.1 h).1
  unfold pickAt
  simp [Nat.mod_eq_of_lt hk, h]
/-- A run is the machine's. -/
theorem am_run (h : Am w W b rv m ps xb dv tv M q lv ls n tot s) (hn : n ≤ 64) (htot : tot ≤ 900000) (l : List Nat) (hl : ∀ j ∈ l, j ≤ 255) (hll0 : l.length ≤ 1100000) (hst : s.st + l.length < 3000000) (hls : ∀ i, i < n → ∀ y ∈ ls i, I64 y.1 ∧ I64 y.2) (hll : ∀ i, i < n → (ls i).length ≤ 10000000) {most : Nat} (hm : most ≤ l.length) {a : Option Addr} {cap : Nat}
    (hc : ∀ W' tv', Tr b rv m ps xb q n tv W tv' W' → ∀ j x, l[j]? = some x → ∃ g o, a = some ⟨g, o, none⟩ ∧ W'.cell? ⟨g, o + j, none⟩ = some (.int .i64 (x : Nat))) :
    Calls Try.prog 17 #[ptr b, .slice a l.length cap, .int .i64 most] W fun e w' => ∃ r : Value, e = .returned r ∧ ∃ tv', Am w w' b rv m ps xb dv tv' M q lv ls n tot (mgo ls s (l.take most)) ∧ (mgo ls s (l.take most)).st ≤ s.st + most ∧ Tr b rv m ps xb q n tv W tv' w' := by
  have e := run_any (w := W) (b := b) (l.map fun (j : Nat) => (j : Int)) a cap most (by omega) (by simp; omega)
    (fun k W' => ∃ tv', Am w W' b rv m ps xb dv tv' M q lv ls n tot (mgo ls s (l.take k)) ∧ (mgo ls s (l.take k)).st ≤ s.st + k ∧ Tr b rv m ps xb q n tv W tv' W')
    (fun k W' => ∃ tv', Am w W' b rv m ps xb dv tv' M q lv ls n tot (mgo ls s (l.take most)) ∧ (mgo ls s (l.take most)).st ≤ s.st + most ∧ Tr b rv m ps xb q n tv W tv' W')
    (h.ps.sc.blk.cell1 3 _ rfl) ⟨tv, h, by simp [mgo], Tr.refl ..⟩
    (by
      rintro k W' ⟨tv', hA, _, hT⟩ j x hx
      rw [List.getElem?_map] at hx
      cases hj : l[j]? with
      | none => rw [hj] at hx; cases hx
      | some y =>
        rw [hj] at hx
        cases hx
        exact hc W' tv' hT j y hj)
    (by
      rintro k W' hk ⟨tv', hA, hs, hT⟩
      have hj := List.getElem?_eq_getElem (l := l) (i := k) (by omega)
      generalize l[k]'(by omega) = j at hj
      have hj255 := hl j (List.mem_of_getElem? hj)
      rw [pickAt_nat l hj]
      cases hp : mpick ls (mgo ls s (l.take k)) j with
      | none =>
        obtain ⟨hL, hcall⟩ := am_none hA hn (by omega) hp (j : Int)
        refine hcall.mono ?_
        rintro e w' ⟨he, hB⟩
        have e2 : mgo ls s (l.take most) = mgo ls s (l.take k) := by
          have : l.take most = l.take k ++ (l.take most).drop k := by
            have e3 := List.take_append_drop k (l.take most)
            rw [List.take_take, Nat.min_eq_left (by omega)] at e3
            exact e3.symm
          rw [this, mgo_append, mgo_stuck hL]
        refine .inr ⟨he, tv', ?_, ?_, hT.below hB⟩
        · rw [e2]; exact Ap.below hA hB
        · rw [e2]; omega
      | some r =>
        obtain ⟨x, er, s'⟩ := r
        obtain ⟨her, hst', hcall⟩ := am_pick hA hn htot (by omega) hls hll (j := j) (by omega) hp
        refine hcall.mono ?_
        rintro e w' ⟨he, tv2, hA2, hT2⟩
        have e2 : mgo ls s (l.take (k + 1)) = s' := by rw [take_succ_get hj, mgo_append, mgo_one, hp]
        refine .inl ⟨x, er, he, by rcases her with h | h <;> omega, tv2, ?_, ?_, hT.trans hT2⟩
        · rw [e2]; exact hA2
        · rw [e2]; omega)
  rw [List.length_map] at e
  refine e.mono ?_
  rintro e w' ⟨k, he, ⟨rfl, tv', g1, g2, g3⟩ | ⟨_, tv', g1, g2, g3⟩⟩
  · exact ⟨_, he, tv', g1, g2, g3⟩
  · exact ⟨_, he, tv', g1, g2, g3⟩
end
end Go.Proofs.Ytkdjahgndkdnhaa
