import Derived.Test.YtkdjahgndkdnhaaL
import Derived.Test.YtkdjahgndkdnhaaV
namespace Go.Proofs.Ytkdjahgndkdnhaa
open Go.RowKit Go.Maps Go.Shelf
set_option linter.unusedVariables false
set_option linter.unusedSimpArgs false
/-- A slice of bytes that came in, as long as one may be. -/
def ArgW (w : World) (a : Option Addr) (len cap : Nat) (l : List Int) : Prop :=
  l.length = len ∧ (∀ n ∈ l, 0 ≤ n ∧ n < 256) ∧ len ≤ 9223372036854775807 ∧
  (l = [] ∨ ∃ b off, a = some ⟨b, off, none⟩ ∧ b < w.heap.size ∧ ∀ j, (h : j < l.length) → w.cell? ⟨b, off + j, none⟩ = some (.int .u8 l[j]))
theorem ArgW.below {w w' : World} {a : Option Addr} {len cap : Nat} {l : List Int} (h : ArgW w a len cap l) (hb : Below w.heap.size w w') : ArgW w' a len cap l := by
  obtain ⟨h1, h2, h3, h4⟩ := h
  refine ⟨h1, h2, h3, ?_⟩
  rcases h4 with h4 | ⟨b, off, ha, hlt, hc⟩
  · exact .inl h4
  · refine .inr ⟨b, off, ha, Nat.lt_of_lt_of_le hlt hb.size, fun j hj => ?_⟩
    rw [hb.cell (p := ⟨b, off + j, none⟩) hlt]; exact hc j hj
theorem ArgW.at {w : World} {a : Option Addr} {len cap : Nat} {l : List Int} (h : ArgW w a len cap l) {j : Nat} (hj : j < len) : ∃ b off x, a = some ⟨b, off, none⟩ ∧ b < w.heap.size ∧ l[j]? = some (x : Int) ∧ 0 ≤ x ∧ x < 256 ∧ w.cell? ⟨b, off + j, none⟩ = some (.int .u8 x) := by
  obtain ⟨rfl, h2, h3, h4⟩ := h
  rcases h4 with rfl | ⟨b, off, rfl, hlt, hc⟩
  · simp at hj
  · exact ⟨b, off, l[j], rfl, hlt, List.getElem?_eq_getElem hj, (h2 _ (List.getElem_mem hj)).1, (h2 _ (List.getElem_mem hj)).2, hc j hj⟩
def hasB (l : List Int) (k : Nat) : Bool := l.any (fun x => x % 8 == (k : Int))
set_option maxRecDepth 100000 in
set_option maxHeartbeats 800000 in
theorem has_any {w : World} {a : Option Addr} {len cap : Nat} {l : List Int} (h : ArgW w a len cap l) {k : Nat} (hk : k < 8) :
    Calls Try.prog 23 #[.slice a len cap, .int .u8 k] w fun e w' => e = .returned (.bool (hasB l k)) ∧ w' = w := by
  have h3 := h.2.2.1
  have hlen := h.1
  go_enter Try.func23, Try.ntmps23
  go_wp2
  go_loopw [5] (fun i wr => ∃ (j : Nat), j ≤ len ∧ i = .int .i64 j ∧ wr = w ∧ hasB (l.take j) k = false) (fun i _ => len - (intOf i).toNat)
  case atStart => exact ⟨0, Nat.zero_le _, rfl, rfl, rfl⟩
  case round =>
    obtain ⟨j, hj, rfl, rfl, hno⟩ := hrel
    by_cases hlt : j < len
    · have hlt' : (j : Int) < (len : Int) := by omega
      have hj0 : (0 : Int) ≤ (j : Int) := by omega
      obtain ⟨B, off, x, rfl, hBl, hx, x0, x1, hcell⟩ := h.at hlt
      have HT : hasB (l.take (j + 1)) k = (x % 8 == (k : Int)) := by
        unfold hasB at hno ⊢
        rw [List.take_add_one, hx, List.any_append, hno]
        simp
      by_cases hc : x % 8 = (k : Int)
      · have HR : Hid (hasB l k = true) := by
          unfold Hid hasB
          exact List.any_eq_true.2 ⟨x, List.mem_of_getElem? hx, by simpa using hc⟩
        have hc' : (x % 8 == (k : Int)) = true := by simpa using hc
        clear HT hno hx
        go_wp2
        go_ret
        exact ⟨by rw [HR.out]; rfl, rfl⟩
      · have hc' : (x % 8 == (k : Int)) = false := by simpa using hc
        rw [hc'] at HT
        have HT' : Hid _ := HT
        clear HT hno hx
        go_wp2
        go_roundw
        case rel => exact ⟨j + 1, by omega, by go_num, trivial, HT'.out⟩
        case measure => simp [intOf]; omega
    · obtain rfl : j = len := by omega
      rw [← hlen, List.take_length] at hno
      have HR : Hid (hasB l k = false) := hno
      clear hno
      go_wp2
      go_ret
      exact ⟨by rw [HR.out]; rfl, rfl⟩
def dcs : List (Int × Int) → List Value
  | [] => []
  | x :: l => .int .i64 x.1 :: .int .i64 x.2 :: dcs l
theorem dcs_len (l : List (Int × Int)) : (dcs l).length = l.length * 2 := by
  induction l with
  | nil => rfl
  | cons x l ih => simp [dcs, ih]; omega
theorem dcs_app (l k : List (Int × Int)) : dcs (l ++ k) = dcs l ++ dcs k := by
  induction l with
  | nil => rfl
  | cons x l ih => simp [dcs, ih]
theorem dcs_get {l : List (Int × Int)} {j : Nat} {x : Int × Int} (h : l[j]? = some x) : (dcs l)[j * 2]? = some (.int .i64 x.1) ∧ (dcs l)[j * 2 + 1]? = some (.int .i64 x.2) := by
  induction l generalizing j with
  | nil => simp at h
  | cons y l ih =>
    cases j with
    | zero => simp at h; subst h; simp [dcs]
    | succ j =>
      have := ih (j := j) (by simpa using h)
      have e : (j + 1) * 2 = j * 2 + 2 := by omega
      rw [e]
      simpa [dcs] using this
/-- A row of what a task does, one's own. -/
abbrev OwD (w : World) (base : Nat) (v : Value) (l : List (Int × Int)) : Prop := w.ownsRow base 64 2 v l.length (dcs l)
theorem OwD.rd {w : World} {base : Nat} {v : Value} {l : List (Int × Int)} (h : OwD w base v l) : RdD w v l w.heap.size := by
  have hl := h.lt
  rcases h.2 with ⟨rfl, h0⟩ | ⟨g, cap, cur, rfl, _⟩
  · exact .inl ⟨none, 0, rfl, List.eq_nil_of_length_eq_zero h0⟩
  · refine .inr ⟨g, 0, cap, rfl, (hl g rfl).2, fun j x hx => ?_⟩
    have hc := h.cells (g := g) rfl
    obtain ⟨h1, h2⟩ := dcs_get hx
    have e1 := hc _ _ h1
    have e2 := hc _ _ h2
    rw [add_at] at e1 e2
    exact ⟨by simpa using e1, by simpa [Nat.add_assoc] using e2⟩
theorem info64 : (Try.prog.info? 64).map (fun i => (i.zero, i.size, i.bytes)) = some (some (.agg #[.int .i64 0, .int .i64 0]), 2, 16) := by kernel_rfl
theorem info36 : (Try.prog.info? 36).map (fun i => (i.zero, i.size, i.bytes)) = some (some (.slice none 0 0), 1, 24) := by kernel_rfl
/-- append of acts that lie in a block of their own. -/
theorem pushD {w : World} {ops : Array Oper} {rest : List Oper} {o : Oper} {a : Act} {Q : Exit → Act → World → Prop} (hgd : o.guard = none) (s x : Operand) (ho : o.op = .call { callee := .builtin .append, args := #[s, x], argTypes := #[36, 36] }) {base : Nat} {v : Value} {l : List (Int × Int)} (hs : a.eval s = v) {B : Nat} (k : List (Int × Int)) (m : Nat) (hm : k.length = m) (hx : a.eval x = .slice (some ⟨B, 0, none⟩) m m) (hown : OwD w base v l) (hB : Blk w B 64 (dcs k)) (hl : l.length + m ≤ 1000000) (hbase : base ≤ w.heap.size)
    (h : ∀ av cv w', OwD w' base (.slice av (l.length + m) cv) (l ++ k) → w.grownBy w' v.ownBlock → (Value.ownBlock (.slice av (l.length + m) cv) = v.ownBlock ∨ Value.ownBlock (.slice av (l.length + m) cv) = some w.heap.size) → wpList Try.prog ops Q rest (a.put o.dst (.slice av (l.length + m) cv)) w') :
    wpList Try.prog ops Q (o :: rest) a w := by
  obtain ⟨i0, hi, hz0, hz1, hz2⟩ := info_parts info64
  refine wpList_append_own_at _ hgd _ _ 36 ho base 64 i0 (.agg #[.int .i64 0, .int .i64 0]) 2 16 Try.underlying36 hi hz0 hz1 hz2 rfl (by decide) v l.length (dcs l) hs hown ⟨B, 0, none⟩ m m (dcs k) hx (by rw [dcs_len, hm]) ?_ ?_ (by unfold maxLen; omega) (by omega) hbase ?_
  · intro j u hj
    rw [add_at, hB.cell]
    simpa using hj
  · intro u hu
    clear hB hx h
    induction k generalizing m with
    | nil => simp [dcs] at hu
    | cons y k ih =>
      simp only [dcs, List.mem_cons] at hu
      rcases hu with rfl | rfl | hu
      · rfl
      · rfl
      · exact ih k.length rfl (by simp at hm; omega) hu
  · intro v' w' h1 h2 _ h4
    rw [← dcs_app] at h1
    have e : l.length + m = (l ++ k).length := by simp [hm]
    obtain ⟨av, cv, rfl⟩ := row_form h1
    refine h av cv w' ?_ h2 h4
    unfold OwD
    rw [← e]
    exact h1
/-- append of one slice of acts. -/
theorem pushS {w : World} {ops : Array Oper} {rest : List Oper} {o : Oper} {a : Act} {Q : Exit → Act → World → Prop} (hgd : o.guard = none) (s x : Operand) (ho : o.op = .call { callee := .builtin .append, args := #[s, x], argTypes := #[22, 22] }) {base : Nat} {v : Value} {n : Nat} {xs : List Value} (hs : a.eval s = v) {B : Nat} (u : Value) (hu : u.oneCell' = true) (hx : a.eval x = .slice (some ⟨B, 0, none⟩) 1 1) (hown : w.ownsRow base 36 1 v n xs) (hB : w.cell? ⟨B, 0, none⟩ = some u) (hl : n ≤ 1000000) (hbase : base ≤ w.heap.size)
    (h : ∀ av cv w', w'.ownsRow base 36 1 (.slice av (n + 1) cv) (n + 1) (xs ++ [u]) → w.grownBy w' v.ownBlock → (Value.ownBlock (.slice av (n + 1) cv) = v.ownBlock ∨ Value.ownBlock (.slice av (n + 1) cv) = some w.heap.size) → wpList Try.prog ops Q rest (a.put o.dst (.slice av (n + 1) cv)) w') :
    wpList Try.prog ops Q (o :: rest) a w := by
  obtain ⟨i0, hi, hz0, hz1, hz2⟩ := info_parts info36
  refine wpList_append_own_at _ hgd _ _ 22 ho base 36 i0 (.slice none 0 0) 1 24 Try.underlying22 hi hz0 hz1 hz2 rfl (by decide) v n xs hs hown ⟨B, 0, none⟩ 1 1 [u] hx rfl ?_ (by simp [hu]) (by unfold maxLen; omega) (by omega) hbase ?_
  · intro j y hj
    match j, hj with
    | 0, hj =>
      simp at hj
      subst hj
      simpa [Addr.add] using hB
  · intro v' w' h1 h2 _ h4
    obtain ⟨av, cv, rfl⟩ := row_form h1
    exact h av cv w' h1 h2 h4
/-! The locks of a task. -/
def lk (ks : List Nat) : List (Int × Int) := ks.map (fun (k : Nat) => ((-2 : Int), (k : Int)))
def ksTo (l : List Int) (j : Nat) : List Nat := (List.range j).filter (hasB l)
def ksFrom (l : List Int) (j : Nat) : List Nat := ((List.range' j (8 - j)).filter (hasB l)).reverse
theorem ksTo_succ (l : List Int) (j : Nat) : ksTo l (j + 1) = ksTo l j ++ (if hasB l j then [j] else []) := by
  unfold ksTo
  rw [List.range_succ, List.filter_append]
  congr 1
  simp only [List.filter_cons, List.filter_nil]
theorem ksFrom_pred (l : List Int) {j : Nat} (h : j < 8) : ksFrom l j = ksFrom l (j + 1) ++ (if hasB l j then [j] else []) := by
  unfold ksFrom
  have e : 8 - j = (8 - (j + 1)) + 1 := by omega
  rw [e, List.range'_succ, List.filter_cons]
  split <;> simp
theorem ksFrom_8 (l : List Int) : ksFrom l 8 = [] := rfl
theorem ksFrom_0 (l : List Int) : ksFrom l 0 = (ksTo l 8).reverse := by
  unfold ksFrom ksTo
  rw [List.range_eq_range']
theorem unl_app (a b : List Nat) : unl (a ++ b) = unl a ++ unl b := by
  induction a with
  | nil => rfl
  | cons x a ih => simp [unl, ih]
theorem unl_len (a : List Nat) : (unl a).length = 2 * a.length := by
  induction a with
  | nil => rfl
  | cons x a ih => simp [unl, ih]; omega
theorem prog_ks (l : List Int) : lk (ksTo l 8) ++ unl (ksFrom l 0) = prog [] (ksTo l 8) := by
  rw [ksFrom_0]
  simp [prog, lk]
theorem ks_len (l : List Int) (j : Nat) : (ksTo l j).length ≤ j := by
  unfold ksTo
  have := List.length_filter_le (hasB l) (List.range j)
  simpa using this
theorem kf_len (l : List Int) (j : Nat) : (ksFrom l j).length ≤ 8 := by
  unfold ksFrom
  have := List.length_filter_le (hasB l) (List.range' j (8 - j))
  simp at this ⊢
  omega
theorem prog_len (l : List Int) : (prog [] (ksTo l 8)).length ≤ 24 := by
  have := ks_len l 8
  rw [← prog_ks, List.length_append, unl_len, ksFrom_0]
  simp [lk]
  omega
theorem ks_falls (l : List Int) : Falls ((ksTo l 8).reverse ++ []) := by
  unfold Falls ksTo
  rw [List.append_nil, List.pairwise_reverse]
  exact List.Pairwise.filter _ List.pairwise_lt_range
theorem ks_lt (l : List Int) : ∀ x ∈ ksTo l 8, x < 8 := by
  intro x hx
  have := (List.mem_filter.1 hx).1
  simpa using this
theorem unl_acts (a : List Nat) (h : ∀ x ∈ a, x < 8) : ∀ y ∈ unl a, y.1 ≤ 0 ∧ -100 ≤ y.1 ∧ I64 y.2 := by
  induction a with
  | nil => simp [unl]
  | cons x a ih =>
    intro y hy
    simp only [unl, List.mem_cons] at hy
    have hx := h x (by simp)
    rcases hy with rfl | rfl | hy
    · refine ⟨by simp, by simp, ?_⟩; unfold I64; dsimp only; omega
    · refine ⟨by simp, by simp, ?_⟩; unfold I64; dsimp only; omega
    · exact ih (fun z hz => h z (List.mem_cons_of_mem _ hz)) y hy
theorem prog_acts (l : List Int) : ∀ y ∈ prog [] (ksTo l 8), y.1 ≤ 0 ∧ -100 ≤ y.1 ∧ I64 y.2 := by
  intro y hy
  unfold prog at hy
  rcases List.mem_append.1 hy with hy | hy
  · obtain ⟨x, hx, rfl⟩ := List.mem_map.1 hy
    have := ks_lt l x hx
    refine ⟨by simp, by simp, ?_⟩; unfold I64; dsimp only; omega
  · exact unl_acts _ (fun z hz => ks_lt l z (by simpa using hz)) y hy
end Go.Proofs.Ytkdjahgndkdnhaa
