import Derived.Test.YtkmpcheamdadcaaEnc
import Derived.WalkKit
import Derived.WalkSpells
import Derived.WalkLawsBesides
namespace Go.Proofs.Ytkmpcheamdadcaa
open Go.RowKit
set_option linter.unusedVariables false

theorem ret_i {k : IntKind} {a b : Int} (h : a = b) : Ending.returned (.int k a) = .returned (.int k b) := by rw [h]
theorem val_i {k : IntKind} {a b : Int} (h : a = b) : Value.int k a = .int k b := by rw [h]
/-- A slice of bytes that came in and reads as l. -/
def Arg (w : World) (a : Option Addr) (len cap : Nat) (l : List Int) : Prop :=
  l.length = len ∧ (∀ n ∈ l, 0 ≤ n ∧ n < 256) ∧ len ≤ 140737488351232 ∧
  (l = [] ∨ ∃ b off, a = some ⟨b, off, none⟩ ∧ b < w.heap.size ∧ ∀ j, (h : j < l.length) → w.cell? ⟨b, off + j, none⟩ = some (.int .u8 l[j]))

theorem Arg.below {w w' : World} {a : Option Addr} {len cap : Nat} {l : List Int} (h : Arg w a len cap l) (hb : Below w.heap.size w w') : Arg w' a len cap l := by
  obtain ⟨h1, h2, h3, h4⟩ := h
  refine ⟨h1, h2, h3, ?_⟩
  rcases h4 with h4 | ⟨b, off, ha, hlt, hc⟩
  · exact .inl h4
  · refine .inr ⟨b, off, ha, Nat.lt_of_lt_of_le hlt hb.size, fun j hj => ?_⟩
    rw [hb.cell (p := ⟨b, off + j, none⟩) hlt]; exact hc j hj
theorem Arg.src {w : World} {a : Option Addr} {len cap : Nat} {l : List Int} (h : Arg w a len cap l) : Src Try.prog 1 28 (.slice a len cap) l.length (bc l) w := by
  obtain ⟨rfl, h2, h3, h4⟩ := h
  rcases h4 with rfl | ⟨b, off, rfl, hlt, hc⟩
  · cases a with
    | none => exact Src.ofNil w Try.underlying28 cap
    | some x => exact Src.ofSlice w Try.underlying28 x 0 cap [] rfl (by simp) (by simp)
  · refine Src.ofSlice w Try.underlying28 ⟨b, off, none⟩ l.length cap (bc l) (by rw [bc_len]; omega) ?_ (bc_one l)
    intro j u hu
    obtain ⟨hj, rfl⟩ := bc_get l j u hu
    have e : (⟨b, off, none⟩ : Addr).add j = ⟨b, off + j, none⟩ := by unfold Addr.add; split <;> simp_all
    rw [e]; exact hc j hj
theorem OwnB.arg {w : World} {base : Nat} {v : Value} {l : List Int} (h : OwnB w base v l) (hb : ∀ n ∈ l, 0 ≤ n ∧ n < 256) (hl : l.length ≤ 140737488351232) :
    ∃ a cap, v = .slice a l.length cap ∧ Arg w a l.length cap l := by
  rcases h with ⟨rfl, rfl⟩ | ⟨b, off, cap, rfl, h1, h2, h3, h4, h5, h6⟩
  · exact ⟨none, 0, rfl, rfl, hb, hl, .inl rfl⟩
  · exact ⟨_, cap, rfl, rfl, hb, hl, .inr ⟨b, off, rfl, h2, h5⟩⟩
theorem own_empty (w : World) : OwnB (w.alloc (.cells #[] 5)) w.heap.size (.slice (some ⟨w.heap.size, 0, none⟩) 0 0) [] :=
  OwnB.ofBlock w w.heap.size [] [] #[] (0, 0) rfl (Nat.le_refl _) (.inl rfl) (by simp) 0 rfl
/-- 'append([]byte{}, b...)': what comes of it. -/
theorem copy_arg {w w1 : World} {v' : Value} {a : Option Addr} {len cap : Nat} {l : List Int} (h : Arg w a len cap l) (hown : OwnB w1 w.heap.size v' ([] ++ l)) (hgrow : (w.alloc (.cells #[] 5)).grownBy w1 (some w.heap.size)) :
    ∃ a' cap', v' = .slice a' len cap' ∧ OwnB w1 w.heap.size (.slice a' len cap') l ∧ Arg w1 a' len cap' l ∧ Arg w1 a len cap l ∧ Below w.heap.size w w1 := by
  have hb : Below w.heap.size w w1 := ((Below.refl w.heap.size w).alloc (Nat.le_refl _) (.cells #[] 5)).grown hgrow (by simp) (by intro k hk; cases hk; exact Nat.le_refl _)
  have hown' : OwnB w1 w.heap.size v' l := hown
  obtain ⟨a', cap', rfl, ha⟩ := hown'.arg h.2.1 (by rw [h.1]; exact h.2.2.1)
  rw [h.1] at ha hown' ⊢
  exact ⟨a', cap', rfl, hown', ha, h.below hb, hb⟩

end Go.Proofs.Ytkmpcheamdadcaa
