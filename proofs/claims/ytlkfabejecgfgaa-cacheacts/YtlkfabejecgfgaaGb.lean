import Derived.Test.YtlkfabejecgfgaaGa
namespace Go.Proofs.Ytlkfabejecgfgaa
open Go.RowKit Go.Maps
set_option linter.unusedVariables false
set_option linter.unusedSimpArgs false
/-- An act. -/
structure Ac where
  ak : Int
  pn : Int
  key : ByteArray
  v : Int
  n : Nat
structure AcOk (x : Ac) : Prop where
  k : I64 x.ak
  p : I64 x.pn
  ks : x.key.size ≤ maxLen
  v0 : 0 ≤ x.v
  v1 : x.v < 18446744073709551616
  n1 : x.n < 18446744073709551616
def Ac.c (x : Ac) : List Value := [.int .i64 x.ak, .int .i64 x.pn, .string x.key, .int .u64 x.v, .int .u64 x.n]
def AAt (w : World) (b o : Nat) (x : Ac) : Prop := w.cell? ⟨b, o, none⟩ = some (.int .i64 x.ak) ∧ w.cell? ⟨b, o + 1, none⟩ = some (.int .i64 x.pn) ∧ w.cell? ⟨b, o + 2, none⟩ = some (.string x.key) ∧ w.cell? ⟨b, o + 3, none⟩ = some (.int .u64 x.v) ∧ w.cell? ⟨b, o + 4, none⟩ = some (.int .u64 x.n)
/-- A slice that reads as acts. -/
def RdA (w : World) (v : Value) (xs : List Ac) : Prop :=
  (∃ a c, v = .slice a 0 c ∧ xs = []) ∨ ∃ b off cap, v = .slice (some ⟨b, off, none⟩) xs.length cap ∧ b < w.heap.size ∧ ∀ j, (h : j < xs.length) → AAt w b (off + j * 5) xs[j]
theorem RdA.len {w : World} {v : Value} {xs : List Ac} (h : RdA w v xs) : ∃ a c, v = .slice a xs.length c := by
  rcases h with ⟨a, c, rfl, rfl⟩ | ⟨b, off, cap, rfl, _⟩
  · exact ⟨_, _, rfl⟩
  · exact ⟨_, _, rfl⟩
theorem RdA.at {w : World} {v : Value} {xs : List Ac} (h : RdA w v xs) {k : Nat} (hk : k < xs.length) : ∃ b off cap, v = .slice (some ⟨b, off, none⟩) xs.length cap ∧ b < w.heap.size ∧ AAt w b (off + k * 5) xs[k] := by
  rcases h with ⟨a, c, rfl, rfl⟩ | ⟨b, off, cap, rfl, hb, hc⟩
  · simp at hk
  · exact ⟨b, off, cap, rfl, hb, hc k hk⟩
theorem AAt.below {w w' : World} {b o : Nat} {x : Ac} (h : AAt w b o x) (hb : b < w.heap.size) (hB : Below w.heap.size w w') : AAt w' b o x := by
  obtain ⟨h0, h1, h2, h3, h4⟩ := h
  exact ⟨(hB.cell (p := ⟨b, o, none⟩) hb).trans h0, (hB.cell (p := ⟨b, o + 1, none⟩) hb).trans h1, (hB.cell (p := ⟨b, o + 2, none⟩) hb).trans h2, (hB.cell (p := ⟨b, o + 3, none⟩) hb).trans h3, (hB.cell (p := ⟨b, o + 4, none⟩) hb).trans h4⟩
/-- The pin that is held. -/
structure Pd (s : Cs) (ij : Nat × Nat) (v : Value) : Prop where
  p : s.P[0]? = some (some ij)
  v : vat s ij = some v
theorem Pd.pin {s : Cs} {ij : Nat × Nat} {v : Value} (h : Pd s ij v) : s.pin 1 = some ij := by
  unfold Cs.pin
  rw [if_pos (by omega), List.getD_eq_getElem?_getD]
  rw [show ((1 : Int) - 1).toNat = 0 from rfl, h.p]; rfl
theorem app0 {P : List (Option (Nat × Nat))} {a b : Option (Nat × Nat)} (h : P[0]? = some a) : (P ++ [b])[0]? = some a := by
  rw [List.getElem?_append_left (List.getElem?_eq_some_iff.1 h).1]; exact h
theorem Pd.put {s : Cs} {ij : Nat × Nat} {v : Value} (h : Pd s ij v) (c : Ci s) (k : ByteArray) (z : Value) (ch : Nat) : Pd (putC s k z ch).2.2 ij v := by
  refine ⟨?_, vat_put c k z ch h.v⟩
  unfold putC
  split
  · exact h.p
  · split
    · exact h.p
    · exact app0 h.p
theorem Pd.get {s : Cs} {ij : Nat × Nat} {v : Value} (h : Pd s ij v) (c : Ci s) (k : List UInt8) : Pd (getC s k).2.2.2 ij v := by
  refine ⟨?_, vat_get c k h.v⟩
  unfold getC
  cases hf : (s.x (s.ix k)).f k with
  | none => exact h.p
  | some j => exact app0 h.p
theorem Pd.drop {s : Cs} {ij : Nat × Nat} {v : Value} (h : Pd s ij v) (c : Ci s) (k : List UInt8) : Pd (dropC s k).2 ij v := by
  refine ⟨?_, vat_drop c k h.v⟩
  unfold dropC
  cases hf : (s.x (s.ix k)).f k with
  | none => exact h.p
  | some j => exact h.p
theorem Pd.free {s : Cs} {ij : Nat × Nat} {v : Value} (h : Pd s ij v) (c : Ci s) {p : Int} (hp : 2 ≤ p) : Pd (freeC s p).2 ij v := by
  refine ⟨?_, vat_free c p h.v⟩
  unfold freeC
  cases hp' : s.pin p with
  | none => exact h.p
  | some ab =>
    show (s.P.set (p - 1).toNat none)[0]? = _
    rw [List.getElem?_set_ne (by omega)]; exact h.p
theorem Pd.room {s : Cs} {ij : Nat × Nat} {v : Value} (h : Pd s ij v) (c : Ci s) (r : Nat) : Pd (roomC s r) ij v := ⟨h.p, vat_room c r h.v⟩
/-- What Put tells. -/
theorem put_ways (s : Cs) (k : ByteArray) (z : Value) (ch : Nat) : (putC s k z ch).2.1 = 2 ∧ 1024 < k.size ∧ (putC s k z ch).2.2 = s ∨ (putC s k z ch).2.1 = 110 ∧ ¬ 1024 < k.size ∧ s.st = true ∧ excX (s.rm (s.ix k.data.toList) ch) ch s.r = true ∧ (putC s k z ch).2.2.P = s.P ∨
    (putC s k z ch).2.1 = 0 ∧ ¬ 1024 < k.size ∧ (putC s k z ch).1 = (s.P.length : Int) + 1 ∧ (putC s k z ch).2.2.P.length = s.P.length + 1 := by
  unfold putC
  split
  · rename_i h; exact .inl ⟨rfl, h, rfl⟩
  · rename_i h
    split
    · rename_i h2
      simp only [Bool.and_eq_true] at h2
      exact .inr (.inl ⟨rfl, h, h2.1, h2.2, rfl⟩)
    · refine .inr (.inr ⟨rfl, h, rfl, ?_⟩)
      simp [Cs.give, Cs.setx]
theorem get_P (s : Cs) (k : List UInt8) : (getC s k).2.2.2.P.length ≤ s.P.length + 1 := by
  unfold getC
  cases hf : (s.x (s.ix k)).f k with
  | none => simp
  | some j => simp [Cs.give, Cs.setx]
theorem drop_P (s : Cs) (k : List UInt8) : (dropC s k).2.P = s.P := by
  unfold dropC
  cases hf : (s.x (s.ix k)).f k with
  | none => rfl
  | some j => rfl
theorem free_P (s : Cs) (p : Int) : (freeC s p).2.P.length = s.P.length := by
  unfold freeC
  cases hp : s.pin p with
  | none => rfl
  | some j => simp [Cs.unp, Cs.setx]
end Go.Proofs.Ytlkfabejecgfgaa
