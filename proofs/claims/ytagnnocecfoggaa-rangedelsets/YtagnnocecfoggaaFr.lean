/-
  Tombstones as the form reads them.
-/
import Derived.Test.YtagnnocecfoggaaRows
import Derived.Test.YtagnnocecfoggaaLv
import Derived.ProofKit
import Derived.OpenShut
import Derived.ShutString
import Derived.ChangeOld
import Derived.SizedLaws
import Derived.JoinedOf
import Derived.MakeChecks
import Derived.Deep.Slices
import Derived.Deep.Strs
import Derived.Lib.SmallJoins
import Derived.ChangeSame
namespace Go.Proofs.Ytagnnocecfoggaa
open Go.RowKit Go.ChangeShapes Go.WideShapes Go.ChangeAt
set_option linter.unusedVariables false
set_option linter.unusedSimpArgs false
theorem cells56 : Try.prog.cellsOf 56 = 3 := by kernel_rfl
theorem cells38 : Try.prog.cellsOf 38 = 1 := by kernel_rfl
theorem cells9 : Try.prog.cellsOf 9 = 1 := by kernel_rfl
theorem list3 {cs : List Value} (h : cs.length = 3) : ∃ c0 c1 c2, cs = [c0, c1, c2] := by
  match cs, h with
  | [c0, c1, c2], _ => exact ⟨c0, c1, c2, rfl⟩
theorem tomb_open {H : Type} {enc : TypeId × Value → H} {W : World} {base : Nat} {spare : Nat → Bool} {held : Bool} {n : Nat} {cs : List Value} {y : DataW H × List MemPlace} (h : DataW.trod enc Try.prog W base spare held n 56 cs = some y) :
    ∃ t : Tm, cs = t.c ∧ 0 ≤ t.s := by
  obtain ⟨y0, y1, y2, m, _, hl, h0, h1, h2⟩ := Go.Deep.trod_struct3 Try.underlying56 h
  rw [cells56] at hl
  obtain ⟨c0, c1, c2, rfl⟩ := list3 hl
  simp only [cells9, cells38, List.drop_zero, List.drop_succ_cons, List.take_succ_cons, List.take_zero] at h0 h1 h2
  obtain ⟨b, e0, _, _⟩ := DataW.trod_string Try.underlying9 h0
  obtain ⟨e, e1, _, _⟩ := DataW.trod_string Try.underlying9 h1
  obtain ⟨s, e2, _, ws⟩ := DataW.trod_int Try.underlying38 h2
  simp at e0 e1 e2
  subst e0 e1 e2
  exact ⟨⟨b, e, s⟩, rfl, (bounds_u64 ws).1⟩
/-- A slice whose elements can be opened, as the form reads it. -/
theorem slice_open {α : Type} [Inhabited α] {ec : α → List Value} {k : Nat} (hk : ∀ x, (ec x).length = k) (hk0 : 0 < k) {t e : TypeId} (ht : Try.prog.underlying t = some (.slice e)) (hce : Try.prog.cellsOf e = k) {H : Type} {enc : TypeId × Value → H} {W : World} {held : Bool} {n : Nat} {a : Option Addr} {len cap : Nat} {x : DataW H × List MemPlace} {Ok : α → DataW H → Prop}
    (hel : ∀ (m : Nat) (cs : List Value) (y : DataW H × List MemPlace), DataW.trod enc Try.prog W 0 (fun _ => true) held m e cs = some y → ∃ r : α, cs = ec r ∧ Ok r y.1)
    (h : DataW.trod enc Try.prog W 0 (fun _ => true) held n t [.slice a len cap] = some x) :
    ∃ l : List α, l.length = len ∧ Rd ec k W a l ∧ (a = none → cap = 0) ∧ (l = [] ∨ ∃ es sp, x.1 = .slice es sp ∧ es.length = l.length ∧ ∀ (i : Nat) (r : α) (d : DataW H), l[i]? = some r → es[i]? = some d → Ok r d) := by
  rcases Go.Deep.open_slice ht h with ⟨h0, _⟩ | ⟨a', len', cap', m, n', D, Pl, hcs, hb, hl, hm, hmm, hx, hcell⟩
  · simp only [List.cons.injEq, Value.slice.injEq, and_true] at h0
    obtain ⟨rfl, rfl, rfl⟩ := h0
    exact ⟨[], rfl, .inl rfl, fun _ => rfl, .inl rfl⟩
  · simp only [List.cons.injEq, Value.slice.injEq, and_true] at hcs
    obtain ⟨rfl, rfl, rfl⟩ := hcs
    simp only [if_true] at hmm
    subst hmm
    rw [hce] at hcell
    obtain ⟨R, hR⟩ := Go.Deep.choose_lt (α := α) (n := len) (p := fun i r => (∀ j, j < k → W.cell? (a'.add (i * k + j)) = (ec r)[j]?) ∧ Ok r (D i)) (fun i hi => by
      obtain ⟨cs', h1, h2⟩ := hcell i (by omega)
      obtain ⟨_, _, hc⟩ := World.cells?_some h1
      obtain ⟨r, rfl, f0⟩ := hel _ _ _ h2
      refine ⟨r, fun j hj => ?_, f0⟩
      have := hc j hj
      rw [Go.Deep.add_add] at this
      exact this)
    refine ⟨(List.range len).map R, by simp, ?_, fun e => (by cases e), .inr ⟨_, _, by rw [hx], by simp, fun i r d hr hd => ?_⟩⟩
    · by_cases hz : len = 0
      · subst hz
        exact .inl rfl
      · right
        obtain ⟨b, off, spot⟩ := a'
        have hc0 := (hR 0 (by omega)).1 0 hk0
        have hspot : spot = none := by
          obtain ⟨v, hv⟩ : ∃ v, (ec (R 0))[0]? = some v := ⟨_, List.getElem?_eq_getElem (by rw [hk]; exact hk0)⟩
          rw [hv] at hc0
          simpa [Addr.add] using World.cell?_spot hc0
        subst hspot
        refine ⟨b, off, rfl, fun j r hj i v hv => ?_⟩
        have hj' : j < len := by have := (List.getElem?_eq_some_iff.1 hj).1; simpa using this
        rw [List.getElem?_map, List.getElem?_range hj'] at hj
        simp at hj
        subst hj
        have hi : i < k := by rw [← hk (R j)]; exact (List.getElem?_eq_some_iff.1 hv).1
        have hc := (hR j hj').1 i hi
        rw [add_at, hv, ← Nat.add_assoc] at hc
        exact hc
    · have hi : i < len := by have := (List.getElem?_eq_some_iff.1 hr).1; simpa using this
      rw [List.getElem?_map, List.getElem?_range hi] at hr hd
      simp at hr hd
      subst hr hd
      exact (hR i hi).2
theorem tombs_open {H : Type} {enc : TypeId × Value → H} {W : World} {held : Bool} {n : Nat} {a : Option Addr} {len cap : Nat} {x : DataW H × List MemPlace} (h : DataW.trod enc Try.prog W 0 (fun _ => true) held n 22 [.slice a len cap] = some x) :
    ∃ l : List Tm, l.length = len ∧ RdT W a l ∧ (a = none → cap = 0) ∧ (∀ t ∈ l, 0 ≤ t.s) ∧ (l = [] ∨ ∃ es sp, x.1 = .slice es sp ∧ es.length = l.length) := by
  obtain ⟨l, h1, h2, h3, h4⟩ := slice_open tm_k (by decide) Try.underlying22 cells56 (Ok := fun t _ => 0 ≤ t.s) (fun m cs y hy => tomb_open hy) h
  refine ⟨l, h1, h2, h3, fun t ht => ?_, ?_⟩
  · rcases h4 with rfl | ⟨es, sp, _, e, hh⟩
    · simp at ht
    · obtain ⟨i, hi, rfl⟩ := List.getElem_of_mem ht
      exact hh i _ _ (List.getElem?_eq_getElem hi) (List.getElem?_eq_getElem (by omega))
  · rcases h4 with rfl | ⟨es, sp, e1, e, _⟩
    · exact .inl rfl
    · exact .inr ⟨es, sp, e1, e⟩
theorem bulk_pos {H : Type} (d : DataW H) : 1 ≤ Rows.uptoBulk d := by
  cases d with
  | lit l => cases l <;> simp [Rows.uptoBulk]
  | nil => simp [Rows.uptoBulk]
  | ptr d => simp [Rows.uptoBulk]
  | slice a b => simp [Rows.uptoBulk]
  | agg l => simp [Rows.uptoBulk]
  | iface s d => simp [Rows.uptoBulk]
  | map l => simp [Rows.uptoBulk]
  | held h => simp [Rows.uptoBulk]
theorem bulk_ge {H : Type} (l : List (DataW H)) : l.length ≤ Rows.uptoBulkAll l := by
  induction l with
  | nil => simp
  | cons x l ih =>
    have h1 := bulk_pos x
    simp only [Rows.uptoBulkAll, List.length_cons]
    omega
theorem bulk_slice {H : Type} (es sp : List (DataW H)) : es.length ≤ Rows.uptoBulk (DataW.slice es sp) := by
  have := bulk_ge es
  simp only [Rows.uptoBulk]
  omega
end Go.Proofs.Ytagnnocecfoggaa
