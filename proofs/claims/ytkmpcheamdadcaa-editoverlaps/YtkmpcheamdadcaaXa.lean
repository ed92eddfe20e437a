/-
  Queues of numbers: slices that may begin inside their block; what spread reckons.
-/
import Derived.Test.YtkmpcheamdadcaaVk
namespace Go.Proofs.Ytkmpcheamdadcaa
open Go.RowKit
set_option linter.unusedVariables false
set_option linter.unusedSimpArgs false
abbrev ints (l : List Nat) : List Value := l.map fun (n : Nat) => Value.int .i64 (n : Int)
theorem info3 : (Try.prog.info? 3).map (fun i => (i.zero, i.size, i.bytes)) = some (some (.int .i64 0), 1, 8) := by kernel_rfl
/-- The numbers l stand in cur from o on. -/
def InAt (cur : List Value) (o : Nat) (l : List Nat) : Prop := ∀ (j x : Nat), l[j]? = some x → cur[o + j]? = some (.int .i64 (x : Int))
/-- A slice of numbers somewhere in a block of the call's own. -/
def Qi (w : World) (base : Nat) (v : Value) (l : List Nat) : Prop :=
  (v = .slice none 0 0 ∧ l = []) ∨ ∃ g o cap cur, v = .slice (some ⟨g, o, none⟩) l.length cap ∧ base ≤ g ∧ Blk w g 3 cur ∧ l.length ≤ cap ∧ cap ≤ maxLen ∧ o + cap ≤ cur.length ∧ InAt cur o l
theorem Qi.nil (w : World) (base : Nat) : Qi w base (.slice none 0 0) [] := .inl ⟨rfl, rfl⟩
theorem Qi.upd {S : Nat → Prop} {w w' : World} {base : Nat} {v : Value} {l : List Nat} (h : Qi w base v l) (u : Upd S w w') (hS : ∀ k, v.ownBlock = some k → ¬ S k) : Qi w' base v l := by
  rcases h with h | ⟨g, o, cap, cur, rfl, h1, h2, h3⟩
  · exact .inl h
  · exact .inr ⟨g, o, cap, cur, rfl, h1, h2.upd u (hS g rfl), h3⟩
theorem Qi.below {w w' : World} {base : Nat} {v : Value} {l : List Nat} (h : Qi w base v l) (u : Below w.heap.size w w') : Qi w' base v l := h.upd (S := Non) (Upd.ofBelow u) (fun _ _ h => h)
theorem Qi.blk {w : World} {base : Nat} {v : Value} {l : List Nat} (h : Qi w base v l) : ∀ k, v.ownBlock = some k → base ≤ k ∧ k < w.heap.size := by
  intro k hk
  rcases h with ⟨rfl, _⟩ | ⟨g, o, cap, cur, rfl, h1, h2, h3⟩
  · cases hk
  · cases hk; exact ⟨h1, h2.lt⟩
theorem Qi.slice {w : World} {base : Nat} {v : Value} {l : List Nat} (h : Qi w base v l) : ∃ a c, v = .slice a l.length c := by
  rcases h with ⟨rfl, rfl⟩ | ⟨g, o, cap, cur, rfl, h1, h2, h3⟩
  · exact ⟨none, 0, rfl⟩
  · exact ⟨_, _, rfl⟩
/-- What stands at the head. -/
theorem Qi.head {w : World} {base : Nat} {v : Value} {x : Nat} {l : List Nat} (h : Qi w base v (x :: l)) : ∃ g o cap, v = .slice (some ⟨g, o, none⟩) (l.length + 1) cap ∧ l.length + 1 ≤ cap ∧ cap ≤ maxLen ∧ w.cell? ⟨g, o, none⟩ = some (.int .i64 (x : Int)) ∧
    Qi w base (.slice (if cap = 1 then some ⟨g, o, none⟩ else some ⟨g, o + 1, none⟩) l.length (cap - 1)) l := by
  rcases h with ⟨_, h⟩ | ⟨g, o, cap, cur, rfl, h1, h2, h3, h4, h5, h6⟩
  · cases h
  · have h3' : l.length + 1 ≤ cap := h3
    refine ⟨g, o, cap, rfl, h3', h4, ?_, ?_⟩
    · rw [h2.cell]; exact h6 0 x rfl
    · by_cases hc : cap = 1
      · obtain rfl : l = [] := List.eq_nil_of_length_eq_zero (by omega)
        rw [if_pos hc]
        exact .inr ⟨g, o, cap - 1, cur, rfl, h1, h2, by simp, by omega, by omega, fun j x h => by simp at h⟩
      · rw [if_neg hc]
        refine .inr ⟨g, o + 1, cap - 1, cur, rfl, h1, h2, by omega, by omega, by omega, fun j y h => ?_⟩
        have := h6 (j + 1) y (by simpa using h)
        rw [← this]; congr 1; omega
theorem InAt.set {cur : List Value} {o : Nat} {l : List Nat} (h : InAt cur o l) (hn : o + l.length < cur.length) (x : Nat) : InAt (cur.set (o + l.length) (.int .i64 (x : Int))) o (l ++ [x]) := by
  intro j y hj
  rcases Nat.lt_or_ge j l.length with h1 | h1
  · rw [List.getElem?_append_left h1] at hj
    rw [List.getElem?_set_ne (by omega)]
    exact h j y hj
  · rw [List.getElem?_append_right h1] at hj
    have : j = l.length := by
      have := (List.getElem?_eq_some_iff.1 hj).1
      simp at this; omega
    subst this
    simp at hj
    subst hj
    rw [List.getElem?_set_self hn]
theorem ints_one (l : List Nat) : ∀ u ∈ ints l, u.oneCell' = true := by
  intro u hu
  obtain ⟨_, _, rfl⟩ := List.mem_map.1 hu
  rfl
/-- There is room: one cell is written. -/
theorem run_push_room {w : World} {g o n cap : Nat} {cur : List Value} (hg : Blk w g 3 cur) (hr : n + 1 ≤ cap) (hs : o + cap ≤ cur.length) {vb x : Nat} (hv : Blk w vb 3 [.int .i64 (x : Int)]) (ty : TypeId) :
    (Builtin.append_ #[135, 135] ty #[.slice (some ⟨g, o, none⟩) n cap, .slice (some ⟨vb, 0, none⟩) 1 1]).run Try.prog w = .ok (.slice (some ⟨g, o, none⟩) (n + 1) cap) (w.setCell ⟨g, o + n, none⟩ (.int .i64 (x : Int))) := by
  obtain ⟨i0, hi, hz0, hz1, hz2⟩ := info_parts info3
  have hsrc : Src Try.prog i0.size 135 (.slice (some ⟨vb, 0, none⟩) 1 1) 1 [.int .i64 (x : Int)] w := Src.ofSlice w Try.underlying135 ⟨vb, 0, none⟩ 1 1 _ (by rw [hz1]; rfl) (fun j u hu => by rw [add_at, Nat.zero_add]; exact hv.cell1 j u hu) (ints_one [x])
  have h := run_append_room_src (P := Try.prog) w 135 135 ty 3 i0 Try.underlying135 hi g o n cap _ 1 _ hsrc hr (fun j hj => by
    obtain rfl : j = 0 := by simpa using hj
    rw [hg.cell, hz1, List.getElem?_eq_getElem (by omega)]; rfl) (fun j _ => hg.frozen _)
  rw [h, hz1, Nat.mul_one]
  rfl
theorem run_push {w : World} {base : Nat} {v : Value} {l : List Nat} (h : Qi w base v l) (hb : base ≤ w.heap.size) {vb x : Nat} (hv : Blk w vb 3 [.int .i64 (x : Int)]) (ty : TypeId) (hl : (l.length + 1) * 8 ≤ 140737488355328) :
    ∃ v' w', (Builtin.append_ #[135, 135] ty #[v, .slice (some ⟨vb, 0, none⟩) 1 1]).run Try.prog w = .ok v' w' ∧ Qi w' base v' (l ++ [x]) ∧ Upd (fun k => v.ownBlock = some k) w w' ∧ (v'.ownBlock = v.ownBlock ∨ v'.ownBlock = some w.heap.size) := by
  obtain ⟨i0, hi, hz0, hz1, hz2⟩ := info_parts info3
  have hm : l.length + 1 ≤ maxLen := by unfold maxLen; omega
  have hsrc : ∀ j u, ([.int .i64 (x : Int)] : List Value)[j]? = some u → w.cell? ((⟨vb, 0, none⟩ : Addr).add j) = some u := fun j u hu => by rw [add_at, Nat.zero_add]; exact hv.cell1 j u hu
  -- what the growing arm leaves
  have hgrow : ∀ (cap : Nat), cap < l.length + 1 → ∀ r : Nat → Prop, (w.drew.alloc (.cells ((ints l).toArray ++ [Value.int .i64 (x : Int)].toArray ++ Builtin.zeroCells (Value.int .i64 0).cells (grownCap w (l.length + 1) cap 3 - (l.length + 1))) 3)).heap.size = w.heap.size + 1 ∧
      Qi (w.drew.alloc (.cells ((ints l).toArray ++ [Value.int .i64 (x : Int)].toArray ++ Builtin.zeroCells (Value.int .i64 0).cells (grownCap w (l.length + 1) cap 3 - (l.length + 1))) 3)) base (.slice (some ⟨w.heap.size, 0, none⟩) (l.length + 1) (grownCap w (l.length + 1) cap 3)) (l ++ [x]) ∧
      Upd r w (w.drew.alloc (.cells ((ints l).toArray ++ [Value.int .i64 (x : Int)].toArray ++ Builtin.zeroCells (Value.int .i64 0).cells (grownCap w (l.length + 1) cap 3 - (l.length + 1))) 3)) := by
    intro cap hc r
    have hge := grownCap_ge w (l.length + 1) cap 3
    have hcm := grownCap_le_maxLen w (l.length + 1) cap 3 hm
    refine ⟨by simp, ?_, (Upd.refl r w).drew.alloc _⟩
    refine .inr ⟨w.heap.size, 0, grownCap w (l.length + 1) cap 3, ints l ++ [Value.int .i64 (x : Int)] ++ (Builtin.zeroCells (Value.int .i64 0).cells (grownCap w (l.length + 1) cap 3 - (l.length + 1))).toList, by simp, hb, ?_, by simpa using hge, hcm, ?_, ?_⟩
    · have := Blk.new w.drew 3 (ints l ++ [Value.int .i64 (x : Int)] ++ (Builtin.zeroCells (Value.int .i64 0).cells (grownCap w (l.length + 1) cap 3 - (l.length + 1))).toList)
      have e : (ints l ++ [Value.int .i64 (x : Int)] ++ (Builtin.zeroCells (Value.int .i64 0).cells (grownCap w (l.length + 1) cap 3 - (l.length + 1))).toList).toArray = (ints l).toArray ++ [Value.int .i64 (x : Int)].toArray ++ Builtin.zeroCells (Value.int .i64 0).cells (grownCap w (l.length + 1) cap 3 - (l.length + 1)) := by
        apply Array.ext'; simp
      rw [e] at this
      exact this
    · simp only [List.length_append, List.length_map, List.length_cons, List.length_nil, Array.length_toList, size_zeroCells]
      simp [Value.cells]
      omega
    · intro j y hj
      rw [Nat.zero_add, List.getElem?_append_left (by have := (List.getElem?_eq_some_iff.1 hj).1; simpa using this)]
      have e : ints l ++ [Value.int .i64 (x : Int)] = ints (l ++ [x]) := by simp
      rw [e, List.getElem?_map, hj]
      rfl
  rcases h with ⟨rfl, rfl⟩ | ⟨g, o, cap, cur, rfl, h1, h2, h3, h4, h5, h6⟩
  · have hr := run_append_nil (P := Try.prog) w 135 ty 3 i0 _ Try.underlying135 hi hz0 ⟨vb, 0, none⟩ 1 1 [.int .i64 (x : Int)] (by rw [hz1]; rfl) hsrc (by omega) (by omega) (by rw [hz2]; omega)
    have hg := hgrow 0 (by simp) (fun k => (Value.slice none 0 0).ownBlock = some k)
    exact ⟨_, _, by simpa using hr, by simpa using hg.2.1, by simpa using hg.2.2, .inr rfl⟩
  · by_cases hroom : l.length + 1 ≤ cap
    · refine ⟨_, _, run_push_room h2 hroom h5 hv ty, .inr ⟨g, o, cap, _, by simp, h1, h2.set _ _, by simpa using hroom, h4, by simpa using h5, h6.set (by omega) x⟩, (Upd.refl (fun k => (Value.slice (some ⟨g, o, none⟩) l.length cap).ownBlock = some k) w).setCell (p := ⟨g, o + l.length, none⟩) (fun _ => rfl) _, .inl rfl⟩
    · have hr := run_append_grow (P := Try.prog) w 135 ty 3 i0 _ Try.underlying135 hi hz0 ⟨g, o, none⟩ l.length cap (ints l) (by rw [hz1]; simp) (fun j v hj => by
        rw [add_at, h2.cell]
        rw [List.getElem?_map] at hj
        obtain ⟨y, hy, rfl⟩ := Option.map_eq_some_iff.1 hj
        exact h6 j y hy) ⟨vb, 0, none⟩ 1 1 [.int .i64 (x : Int)] (by rw [hz1]; rfl) hsrc (by omega) (by unfold maxLen at hm; omega) (growslice_fits (by omega) (by rw [hz2]; exact hl))
      have hg := hgrow cap (by omega) (fun k => (Value.slice (some ⟨g, o, none⟩) l.length cap).ownBlock = some k)
      exact ⟨_, _, hr, hg.2.1, hg.2.2, .inr rfl⟩
end Go.Proofs.Ytkmpcheamdadcaa
