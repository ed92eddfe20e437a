import Derived.Test.YtedmfabonnpblaaMd
import Derived.Test.YtedmfabonnpblaaSums
namespace Go.Proofs.Ytedmfabonnpblaa
open Go.RowKit
set_option linter.unusedVariables false
set_option linter.unusedSimpArgs false

theorem crcBit_nat (n : Nat) (h : n < 4294967296) : crcBit (n : Int) = (tN n : Int) := by
  have e1 : bits .and .u32 (n : Int) 1 = ((n &&& 1 : Nat) : Int) := u32_and_nat n 1 h (by decide)
  have e2 : bits .xor .u32 ((n : Int) / 2) 2197175160 = (((n / 2) ^^^ 2197175160 : Nat) : Int) := by
    have := u32_xor_nat (n / 2) 2197175160 (by omega) (by decide)
    rw [← this]; rfl
  unfold crcBit tN
  rw [e1, e2, Nat.and_one_is_mod, Nat.shiftRight_eq_div_pow]
  have hb := Nat.mod_two_eq_zero_or_one n
  rcases hb with hb | hb
  · rw [hb]; simp
  · rw [hb]; simp
theorem crcN_nat (k n : Nat) (h : n < 4294967296) : crcN k (n : Int) = (tI k n : Int) := by
  induction k with
  | zero => rfl
  | succ k ih => simp only [crcN, tI, ih]; exact crcBit_nat _ (tI_lt k n h)
theorem crcByte_nat (r c : Nat) (hr : r < 4294967296) (hc : c < 256) : crcByte (r : Int) (c : Int) = (tI 8 (r ^^^ c) : Int) := by
  unfold crcByte
  rw [u32_xor_nat r c hr (by omega)]
  exact crcN_nat 8 _ (Nat.xor_lt_two_pow (n := 32) hr (by omega))
/-- Numbers as bytes. -/
def ups (l : List Nat) : List Int := l.map fun (n : Nat) => (n : Int)
theorem ups_len (l : List Nat) : (ups l).length = l.length := by simp [ups]
theorem crcReg_nat (l : List Nat) (h : ∀ c ∈ l, c < 256) : crcReg (ups l) = (regN 4294967295 l : Int) := by
  unfold crcReg regN ups
  suffices H : ∀ (l : List Nat) (r : Nat), (∀ c ∈ l, c < 256) → r < 4294967296 → (l.map fun (n : Nat) => (n : Int)).foldl crcByte (r : Int) = ((l.foldl (fun r c => tI 8 (r ^^^ c)) r : Nat) : Int) from H l 4294967295 h (by decide)
  intro l
  induction l with
  | nil => intro r _ _; rfl
  | cons c l ih =>
    intro r hl hr
    simp only [List.map_cons, List.foldl_cons]
    rw [crcByte_nat r c hr (hl c (by simp))]
    refine ih _ (fun c hc => hl c (by simp [hc])) (tI_lt 8 _ (Nat.xor_lt_two_pow (n := 32) hr ?_))
    have := hl c (by simp)
    omega
theorem regN_lt (l : List Nat) (r : Nat) (hl : ∀ c ∈ l, c < 256) (hr : r < 4294967296) : regN r l < 4294967296 := by
  unfold regN
  induction l generalizing r with
  | nil => exact hr
  | cons c l ih =>
    simp only [List.foldl_cons]
    refine ih _ (fun c hc => hl c (by simp [hc])) (tI_lt 8 _ (Nat.xor_lt_two_pow (n := 32) hr ?_))
    have := hl c (by simp)
    omega
theorem crcSum_nat (l : List Nat) (h : ∀ c ∈ l, c < 256) : crcSum (ups l) = ((4294967295 ^^^ regN 4294967295 l : Nat) : Int) := by
  unfold crcSum
  rw [crcReg_nat l h]
  exact u32_xor_nat 4294967295 _ (by decide) (regN_lt l _ h (by decide))
/-- P1.9 of lists. -/
theorem sum_burst (l : List Nat) (h : ∀ c ∈ l, c < 256) (from' e : Nat) (he : e < 4294967296) (hm : e * 2 ^ from' < 2 ^ (8 * l.length)) (hf : from' ≤ 8 * l.length) (hne : xorM l (e * 2 ^ from') ≠ l) :
    crcSum (ups (xorM l (e * 2 ^ from'))) ≠ crcSum (ups l) := by
  rw [crcSum_nat l h, crcSum_nat _ (xorM_lt l _ h)]
  intro hh
  have h1 : 4294967295 ^^^ regN 4294967295 (xorM l (e * 2 ^ from')) = 4294967295 ^^^ regN 4294967295 l := by exact_mod_cast hh
  refine burst l from' e 4294967295 he hm hf hne ?_
  have h2 := congrArg (4294967295 ^^^ ·) h1
  simpa only [← Nat.xor_assoc, Nat.xor_self, Nat.zero_xor] using h2

/-- A row of cells: bytes and a rest. -/
def rowA (l : List Int) (rest : List Value) : Array Value := (bc l ++ rest).toArray
theorem rowA_get (l : List Int) (rest : List Value) (k : Nat) (h : k < l.length) : (rowA l rest)[k]? = some (.int .u8 l[k]) := by
  unfold rowA
  rw [List.getElem?_toArray, List.getElem?_append_left (by rw [bc_len]; exact h)]
  simp [bc, h]
theorem rowA_set (l : List Int) (rest : List Value) (k : Nat) (x : Int) (h : k < l.length) : (rowA l rest).setIfInBounds k (.int .u8 x) = rowA (l.set k x) rest := by
  unfold rowA
  rw [List.setIfInBounds_toArray, List.set_append_left _ _ (by rw [bc_len]; exact h)]
  simp [bc, List.map_set]
section
variable {P : Program}
/-- 'append' of something onto an empty slice without room: a new row. -/
theorem wpList_append_new {w : World} {ops : Array Oper} {rest : List Oper} {o : Oper} {a : Act} {Q : Exit → Act → World → Prop} (hgd : o.guard = none) (s x : Operand) (t tx : TypeId)
    (ho : o.op = .call { callee := .builtin .append, args := #[s, x], argTypes := #[t, tx] }) (ad : Addr) (hs : a.eval s = .slice (some ad) 0 0) (i : TypeInfo) (ht : P.underlying t = some (.slice 5)) (hi : P.info? 5 = some i)
    (hz : i.zero = some (.int .u8 0)) (hsize : i.size = 1) (hby : i.bytes = 1) (xv : Value) (hx : a.eval x = xv) (m : List Int) (hsrc : Src P 1 tx xv m.length (bc m) w)
    (h0 : 0 < m.length) (hb : m.length ≤ 140737488355328)
    (hK : ∀ (cap : Nat) (zs : List Value), cap = m.length + zs.length → wpList P ops Q rest (a.put o.dst (.slice (some ⟨w.heap.size, 0, none⟩) m.length cap)) (w.drew.alloc (.cells (rowA m zs) 5))) : wpList P ops Q (o :: rest) a w := by
  refine wpList_plain hgd fun K hKK => ?_
  rw [← hsize] at hsrc
  have hr := run_append_grow_src (P := P) w t tx o.type 5 i (.int .u8 0) ht hi hz (some ad) 0 0 [] (by
    refine run_firstCells_some (P := P) w.drew i.size 0 ad 0 0 [] (by simp) (by simp)) xv m.length (bc m) hsrc (by omega) (by omega) (growslice_fits (by omega) (by rw [hby]; omega))
  simp only [Nat.zero_add, List.nil_append] at hr
  have hge := grownCap_ge w m.length 0 5
  have hzl : (Builtin.zeroCells (Value.int .u8 0).cells (grownCap w m.length 0 5 - m.length)).toList.length = grownCap w m.length 0 5 - m.length := by
    rw [Array.length_toList (xs := Builtin.zeroCells (Value.int .u8 0).cells (grownCap w m.length 0 5 - m.length)), size_zeroCells]
    exact Nat.mul_one _
  have hrow : (bc m).toArray ++ Builtin.zeroCells (Value.int .u8 0).cells (grownCap w m.length 0 5 - m.length) = rowA m (Builtin.zeroCells (Value.int .u8 0).cells (grownCap w m.length 0 5 - m.length)).toList := by
    unfold rowA; apply Array.ext'; simp
  rw [hrow] at hr
  have hk := hKK _ _ (hK (grownCap w m.length 0 5) (Builtin.zeroCells (Value.int .u8 0).cells (grownCap w m.length 0 5 - m.length)).toList (by rw [hzl]; omega))
  unfold Oper.wp execOp
  simp only [ho, resolve, invoke, builtin, Sem.run_bind, Sem.run_pure, Result.andThen_ok, List.map_toArray, List.map_cons, List.map_nil, hs, hx, hr]
  exact hk
end
end Go.Proofs.Ytedmfabonnpblaa
