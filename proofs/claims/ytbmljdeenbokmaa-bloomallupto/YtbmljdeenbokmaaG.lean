/-
  Slices of strings: 'append([]string{}, keys...)'.
-/
import Derived.Test.YtbmljdeenbokmaaF
import Derived.Maps.AppendAt
namespace Go.Proofs.Ytbmljdeenbokmaa
open Go.RowKit Go.Maps
set_option linter.unusedVariables false
set_option linter.unusedSimpArgs false

theorem info_parts {t : TypeId} {z : Value} {n k : Nat} (h : (Try.prog.info? t).map (fun i => (i.zero, i.size, i.bytes)) = some (some z, n, k)) : ∃ i, Try.prog.info? t = some i ∧ i.zero = some z ∧ i.size = n ∧ i.bytes = k := by
  cases hi : Try.prog.info? t with
  | none => rw [hi] at h; cases h
  | some i => rw [hi] at h; simp at h; exact ⟨i, rfl, h.1, h.2.1, h.2.2⟩
theorem info9 : (Try.prog.info? 9).map (fun i => (i.zero, i.size, i.bytes)) = some (some (.string ByteArray.empty), 1, 16) := by kernel_rfl
/-- The cells of strings. -/
def sc (l : List ByteArray) : List Value := l.map Value.string
theorem sc_get (l : List ByteArray) (j : Nat) (u : Value) (h : (sc l)[j]? = some u) : ∃ h' : j < l.length, u = .string l[j] := by
  unfold sc at h
  rw [List.getElem?_map] at h
  by_cases hj : j < l.length
  · rw [List.getElem?_eq_getElem hj] at h; cases h; exact ⟨hj, rfl⟩
  · rw [List.getElem?_eq_none (by omega)] at h; cases h
theorem add_at (b off j : Nat) : (⟨b, off, none⟩ : Addr).add j = ⟨b, off + j, none⟩ := by unfold Addr.add; split <;> simp_all
theorem row_form {w : World} {base : Nat} {e : TypeId} {size : Nat} {v : Value} {n : Nat} {xs : List Value} (h : w.ownsRow base e size v n xs) : ∃ a c, v = .slice a n c := by
  rcases h.2 with ⟨rfl, rfl⟩ | ⟨g, cap, cur, rfl, _⟩
  · exact ⟨_, _, rfl⟩
  · exact ⟨_, _, rfl⟩
/-- A row of strings reads as them. -/
theorem strs_of_row {w : World} {base n cap : Nat} {a : Option Addr} {ks : List ByteArray} (h : w.ownsRow base 9 1 (.slice a n cap) n (sc ks)) (hk : ∀ k ∈ ks, k.size ≤ maxLen) : Strs w a ks := by
  refine ⟨hk, ?_⟩
  have hl : ks.length = n := by have := h.1; simpa [sc] using this
  rcases h.2 with ⟨he, rfl⟩ | ⟨g, cap', cur, he, hb, hg, hle, hm, hcz, hct⟩
  · exact .inl (List.length_eq_zero_iff.1 hl)
  · cases he
    refine .inr ⟨g, 0, rfl, (Array.getElem?_eq_some_iff.1 hg).1, fun j hj => ?_⟩
    have h1 : (cur.toList.take (n * 1))[j]? = (sc ks)[j]? := by rw [hct]
    rw [List.getElem?_take, if_pos (by omega)] at h1
    simp only [World.cell?, hg, Nat.zero_add]
    rw [← Array.getElem?_toList, h1]
    simp [sc, hj]
theorem Strs.below {w w' : World} {a : Option Addr} {ks : List ByteArray} (h : Strs w a ks) (hb : Below w.heap.size w w') : Strs w' a ks := by
  refine ⟨h.1, ?_⟩
  rcases h.2 with rfl | ⟨b, off, ha, hlt, hc⟩
  · exact .inl rfl
  · exact .inr ⟨b, off, ha, Nat.lt_of_lt_of_le hlt hb.size, fun j hj => (hb.cell (p := ⟨b, off + j, none⟩) hlt).trans (hc j hj)⟩
/-- A copy of strings. -/
theorem strs_copy {w : World} {a : Option Addr} {cap : Nat} {ks : List ByteArray} (ty : TypeId) (h : Strs w a ks) (hl : ks.length * 16 ≤ 140737488355328) :
    ∃ av cv w', (Builtin.append_ #[22, 22] ty #[.slice (some ⟨w.heap.size, 0, none⟩) 0 0, .slice a ks.length cap]).run Try.prog (w.alloc (.cells #[] 9)) = .ok (.slice av ks.length cv) w' ∧ Strs w' av ks ∧ Below w.heap.size w w' := by
  obtain ⟨i0, hi, hz0, hz1, hz2⟩ := info_parts info9
  have hB0 : Below w.heap.size w (w.alloc (.cells #[] 9)) := (Below.refl _ w).alloc (Nat.le_refl _) _
  have hS := h.below hB0
  rcases h.2 with rfl | ⟨b, off, rfl, hlt, hc⟩
  · have hsrc : Src Try.prog i0.size 22 (.slice a 0 cap) 0 [] (w.alloc (.cells #[] 9)) := by
      cases a with
      | none => exact Src.ofNil _ Try.underlying22 cap
      | some x => exact Src.ofSlice _ Try.underlying22 x 0 cap [] (by simp) (by simp) (by simp)
    have := run_append_room_src (P := Try.prog) (w.alloc (.cells #[] 9)) 22 22 ty 9 i0 Try.underlying22 hi w.heap.size 0 0 0 _ 0 [] hsrc (Nat.le_refl _) (by simp) (by simp)
    exact ⟨_, _, _, this, ⟨by simp, .inl rfl⟩, by simpa [World.setCells] using hB0⟩
  · have hown : (w.alloc (.cells #[] 9)).ownsRow w.heap.size 9 1 (.slice (some ⟨w.heap.size, 0, none⟩) 0 0) 0 [] := ⟨rfl, .inr ⟨w.heap.size, 0, #[], rfl, Nat.le_refl _, heap_alloc_new w _, Nat.le_refl _, by unfold maxLen; omega, rfl, rfl⟩⟩
    obtain ⟨v', w', hr, h2, h3, h4, h5⟩ := run_append_own_at (P := Try.prog) (w.alloc (.cells #[] 9)) w.heap.size 22 ty 9 i0 (.string ByteArray.empty) 1 16 Try.underlying22 hi hz0 hz1 hz2 rfl (by decide) _ 0 [] hown ⟨b, off, none⟩ ks.length cap (sc ks) (by simp [sc]) (by
      intro j u hu
      obtain ⟨hj, rfl⟩ := sc_get ks j u hu
      rw [add_at]; exact (hB0.cell (p := ⟨b, off + j, none⟩) hlt).trans (hc j hj)) (by
      intro u hu
      obtain ⟨k, _, rfl⟩ := List.mem_map.1 hu
      rfl) (by unfold maxLen; omega) (by omega) (by simp)
    rw [Nat.zero_add, List.nil_append] at h2
    obtain ⟨av, cv, rfl⟩ := row_form h2
    refine ⟨av, cv, w', hr, strs_of_row h2 h.1, hB0.grown h3 (by simp) (by intro k hk; cases hk; exact Nat.le_refl _)⟩
/-- .. at a step of a walk. -/
theorem wpl_copy {ops : Array Oper} {rest : List Oper} {o : Oper} {a : Act} {Q : Exit → Act → World → Prop} {w : World} (hgd : o.guard = none) {d : Nat} (hd : o.dst = some d) (s x : Operand)
    (ho : o.op = .call { callee := .builtin .append, args := #[s, x], argTypes := #[22, 22] }) {aa : Option Addr} {cap : Nat} {ks : List ByteArray} (hs : a.eval s = .slice (some ⟨w.heap.size, 0, none⟩) 0 0) (hx : a.eval x = .slice aa ks.length cap) (hS : Strs w aa ks) (hl : ks.length * 16 ≤ 140737488355328)
    (h : ∀ av cv w', Strs w' av ks → Below w.heap.size w w' → wpList Try.prog ops Q rest (a.put (some d) (.slice av ks.length cv)) w') : wpList Try.prog ops Q (o :: rest) a (w.alloc (.cells #[] 9)) := by
  refine wpList_plain hgd fun K hK => ?_
  obtain ⟨av, cv, w', hr, h2, h3⟩ := strs_copy o.type hS hl (cap := cap)
  unfold Oper.wp execOp
  simp only [ho, resolve, invoke, builtin, Sem.run_bind, Sem.run_pure, Result.andThen_ok, List.map_toArray, List.map_cons, List.map_nil, hs, hx, hr]
  refine hK _ _ ?_
  rw [hd]
  exact h av cv w' h2 h3
end Go.Proofs.Ytbmljdeenbokmaa
