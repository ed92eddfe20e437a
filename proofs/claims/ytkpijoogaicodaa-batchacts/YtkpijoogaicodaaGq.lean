import Derived.Test.YtkpijoogaicodaaFb
import Derived.Deep.RegionLaw
import Derived.BigQuiet
namespace Go.Proofs.Ytkpijoogaicodaa
open Go.RowKit
set_option linter.unusedVariables false
set_option linter.unusedSimpArgs false
/-- A row of families. -/
def uc (l : List Int) : List Value := l.map fun (n : Int) => .int .u32 n
theorem uc_len (l : List Int) : (uc l).length = l.length := by simp [uc]
theorem info29 : (Try.prog.info? 29).map (fun i => (i.zero, i.size, i.bytes)) = some (some (.int .u32 0), 1, 4) := by kernel_rfl
theorem urow_form {w : World} {base : Nat} {e : TypeId} {size : Nat} {v : Value} {n : Nat} {xs : List Value} (h : w.ownsRow base e size v n xs) : ∃ a c, v = .slice a n c ∧ n ≤ c := by
  rcases h.2 with ⟨rfl, rfl⟩ | ⟨g, cap, cur, rfl, _, _, hle, _⟩
  · exact ⟨_, _, rfl, Nat.le_refl _⟩
  · exact ⟨_, _, rfl, hle⟩
theorem umany_run {w : World} {N : Nat} {v : Value} {T : List Int} (ty : TypeId) (hown : w.ownsRow N 29 1 v T.length (uc T)) {p : Addr} {cap : Nat} {ys : List Int} (hc : ∀ (j : Nat) (y : Int), ys[j]? = some y → w.cell? (p.add j) = some (.int .u32 y)) (hl : T.length + ys.length ≤ 1000000000000) (hN : N ≤ w.heap.size) :
    ∃ av cv w', (Builtin.append_ #[77, 77] ty #[v, .slice (some p) ys.length cap]).run Try.prog w = .ok (.slice av (T.length + ys.length) cv) w' ∧ w'.ownsRow N 29 1 (.slice av (T.length + ys.length) cv) (T.length + ys.length) (uc (T ++ ys)) ∧ w.grownBy w' v.ownBlock ∧ (Value.ownBlock (.slice av (T.length + ys.length) cv) = v.ownBlock ∨ Value.ownBlock (.slice av (T.length + ys.length) cv) = some w.heap.size) := by
  obtain ⟨i0, hi, hz0, hz1, hz2⟩ := info_parts info29
  have e := run_append_own_at (P := Try.prog) w N 77 ty 29 i0 (.int .u32 0) 1 4 Try.underlying77 hi hz0 hz1 hz2 rfl (by decide) v T.length (uc T) hown p ys.length cap (uc ys) (by simp [uc]) (by
    intro j u hj
    unfold uc at hj
    rw [List.getElem?_map] at hj
    cases hy : ys[j]? with
    | none => rw [hy] at hj; cases hj
    | some y =>
      rw [hy] at hj
      cases hj
      exact hc j y hy) (by simp [uc, Value.oneCell']) (by unfold maxLen; omega) (by omega) hN
  obtain ⟨v', w', hr, h2, h3, h4, h5⟩ := e
  have e1 : uc T ++ uc ys = uc (T ++ ys) := by simp [uc]
  rw [e1] at h2
  obtain ⟨av, cv, rfl, _⟩ := urow_form h2
  exact ⟨av, cv, w', hr, h2, h3, h5⟩
/-- append of families, at a step of a region that draws its order. -/
theorem step_umany {ops : Array Oper} {o : Oper} {a : Act} {w : World} {K : Act → World → Prop} {Q : Exit → Act → World → Prop} {Ex : Prop} (hgd : o.guard = none) {d : Nat} (hd : o.dst = some d) (s x : Operand)
    (ho : o.op = .call { callee := .builtin .append, args := #[s, x], argTypes := #[77, 77] }) {N : Nat} {v : Value} {T : List Int} (hs : a.eval s = v) (hown : w.ownsRow N 29 1 v T.length (uc T)) {p : Addr} {cap : Nat} {ys : List Int} (hx : a.eval x = .slice (some p) ys.length cap) (hc : ∀ (j : Nat) (y : Int), ys[j]? = some y → w.cell? (p.add j) = some (.int .u32 y)) (hl : T.length + ys.length ≤ 1000000000000) (hN : N ≤ w.heap.size)
    (h : ∀ av cv w', w'.ownsRow N 29 1 (.slice av (T.length + ys.length) cv) (T.length + ys.length) (uc (T ++ ys)) → w.grownBy w' v.ownBlock → (Value.ownBlock (.slice av (T.length + ys.length) cv) = v.ownBlock ∨ Value.ownBlock (.slice av (T.length + ys.length) cv) = some w.heap.size) → K (a.put (some d) (.slice av (T.length + ys.length) cv)) w') :
    if Region.wanted o (yielded ops a.tmps) = true then Oper.wp Try.prog o a w K Q else Ex := by
  have hw : Region.wanted o (yielded ops a.tmps) = true := by simp [Region.wanted, hgd]
  rw [if_pos hw]
  obtain ⟨av, cv, w', hr, h2, h3, h5⟩ := umany_run o.type hown hc hl hN (cap := cap)
  unfold Oper.wp execOp
  simp only [ho, resolve, invoke, builtin, Sem.run_bind, Sem.run_pure, Result.andThen_ok, List.map_toArray, List.map_cons, List.map_nil, hs, hx, hr]
  show K (a.put o.dst _) w'
  rw [hd]
  exact h av cv w' h2 h3 h5
/-- A family goes to its place, if it is not there. -/
def plc (o : List Int) (x : Int) : Nat := (o.takeWhile fun y => decide (y < x)).length
def insU (o : List Int) (x : Int) : List Int := if o[plc o x]? = some x then o else o.take (plc o x) ++ [x] ++ o.drop (plc o x)
def famI (l : List Rec) : List Int := l.foldl (fun o r => insU o r.fam) []
theorem famI_succ (l : List Rec) (k : Nat) (h : k < l.length) : famI (l.take (k + 1)) = insU (famI (l.take k)) l[k].fam := by
  unfold famI
  rw [List.take_succ_eq_append_getElem h, List.foldl_append]
  rfl
theorem plc_le (o : List Int) (x : Int) : plc o x ≤ o.length := (List.takeWhile_prefix _).length_le
theorem insU_len (o : List Int) (x : Int) : (insU o x).length ≤ o.length + 1 := by
  unfold insU
  have := plc_le o x
  split
  · omega
  · simp; omega
theorem famI_len (l : List Rec) : (famI l).length ≤ l.length := by
  have H : ∀ (l : List Rec) (o : List Int), (l.foldl (fun o r => insU o r.fam) o).length ≤ o.length + l.length := by
    intro l
    induction l with
    | nil => intro o; simp
    | cons r l ih =>
      intro o
      have h1 := ih (insU o r.fam)
      have h2 := insU_len o r.fam
      simp only [List.foldl_cons, List.length_cons]
      omega
  simpa [famI] using H l []
/-- How far one has come. -/
theorem plc_go {o : List Int} {x : Int} {k : Nat} (h : (o.take k).all (fun y => decide (y < x)) = true) (hk : k < o.length) (hx : o[k] < x) : (o.take (k + 1)).all (fun y => decide (y < x)) = true := by
  rw [List.take_succ_eq_append_getElem hk, List.all_append, h]
  simp [hx]
theorem plc_end {o : List Int} {x : Int} {k : Nat} (h : (o.take k).all (fun y => decide (y < x)) = true) (hk : k ≤ o.length) (hx : ∀ h : k < o.length, ¬ o[k] < x) : plc o x = k := by
  unfold plc
  induction o generalizing k with
  | nil => simp at hk; simp [hk]
  | cons y o ih =>
    cases k with
    | zero =>
      have := hx (by simp)
      simp at this
      rw [List.takeWhile_cons, if_neg (by simpa using this)]
      rfl
    | succ k =>
      simp only [List.take_succ_cons, List.all_cons, Bool.and_eq_true] at h
      rw [List.takeWhile_cons, if_pos h.1]
      simp only [List.length_cons]
      have := ih h.2 (by simpa using hk) (fun h' => by have := hx (by simpa using h'); simpa using this)
      omega
end Go.Proofs.Ytkpijoogaicodaa
