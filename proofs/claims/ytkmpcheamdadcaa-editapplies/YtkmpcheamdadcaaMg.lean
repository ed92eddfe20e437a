import Derived.Test.YtkmpcheamdadcaaBack
import Derived.Test.YtkmpcheamdadcaaFix
import Derived.Lib.EndianBits
import Derived.Laws.BitsAllLaws
namespace Go.Proofs.Ytkmpcheamdadcaa
set_option linter.unusedVariables false
set_option linter.unusedSimpArgs false

/-- The number of bytes, the lowest first. -/
def leV : List Int → Int
  | [] => 0
  | c :: l => c + 256 * leV l
theorem leV_bd : ∀ (l : List Int), (∀ n ∈ l, 0 ≤ n ∧ n < 256) → 0 ≤ leV l ∧ leV l < 256 ^ l.length
  | [], _ => by simp [leV]
  | c :: l, h => by
    have ih := leV_bd l (fun n hn => h n (by simp [hn]))
    have hc := h c (by simp)
    simp only [leV, List.length_cons, Int.pow_succ]
    omega
/-- One byte below what has come. -/
theorem or_byte (n c : Int) (h0 : 0 ≤ n) (h1 : n < 72057594037927936) (c0 : 0 ≤ c) (c1 : c < 256) : bits .or .u64 (IntKind.u64.wrap (n * 256)) (IntKind.u64.wrap c) = c + 256 * n := by
  have e1 : IntKind.u64.wrap (n * 256) = n * 256 := by rw [IntKind.wrap_u64]; omega
  have e2 : IntKind.u64.wrap c = c := by rw [IntKind.wrap_u64]; omega
  rw [e1, e2, bits_join .u64 64 (by decide) wraps_u64 8 _ _ (by omega) (by omega) (by omega) (by omega) (by omega) (by omega)]
  omega
/-- The fold over bytes as they come. -/
def rdL : List Int → Int := List.foldl (fun n x => bits .or .u64 (IntKind.u64.wrap (n * 256)) (IntKind.u64.wrap x)) 0
theorem rdP_rdL (p : List (Int × Int)) : rdP p = rdL (p.map (·.2)) := by
  unfold rdP rdL
  rw [List.foldl_map]
theorem back_rev (zs : List Int) : (cameTo (backAt zs) zs.length).map (·.2) = zs.reverse := by
  apply List.ext_getElem
  · simp [cameTo]
  · intro i h1 h2
    have hi : i < zs.length := by simpa [cameTo] using h1
    have hj : zs.length - 1 - i < zs.length := by omega
    simp [cameTo, backAt, hj]
theorem pow256 (k : Nat) (h : k ≤ 7) : (256 : Int) ^ k ≤ 72057594037927936 := by
  have : k = 0 ∨ k = 1 ∨ k = 2 ∨ k = 3 ∨ k = 4 ∨ k = 5 ∨ k = 6 ∨ k = 7 := by omega
  rcases this with h | h | h | h | h | h | h | h <;> subst h <;> decide
theorem rdL_rev : ∀ (l : List Int), l.length ≤ 8 → (∀ n ∈ l, 0 ≤ n ∧ n < 256) → rdL l.reverse = leV l
  | [], _, _ => rfl
  | c :: l, hl, h => by
    have hb := fun n hn => h n (List.mem_cons_of_mem c hn)
    have ih := rdL_rev l (by simp at hl; omega) hb
    have bd := leV_bd l hb
    have hc := h c (by simp)
    have hp := pow256 l.length (by simp at hl; omega)
    rw [List.reverse_cons]
    unfold rdL
    rw [List.foldl_append]
    show bits .or .u64 (IntKind.u64.wrap (rdL l.reverse * 256)) (IntKind.u64.wrap c) = _
    rw [ih, or_byte _ _ bd.1 (by omega) hc.1 hc.2]
    rfl
theorem rd_le (zs : List Int) (h : zs.length ≤ 8) (hb : ∀ n ∈ zs, 0 ≤ n ∧ n < 256) : rdP (cameTo (backAt zs) zs.length) = leV zs := by
  rw [rdP_rdL, back_rev, rdL_rev zs h hb]
/-- The bytes of a number. -/
def byts (s : Nat) (n : Int) : List Int := (List.range s).map (byteAt n)
theorem byts_len (s : Nat) (n : Int) : (byts s n).length = s := by simp [byts]
theorem byts_bd (s : Nat) (n : Int) : ∀ c ∈ byts s n, 0 ≤ c ∧ c < 256 := by
  intro c hc
  obtain ⟨i, _, rfl⟩ := List.mem_map.1 hc
  unfold byteAt; omega
theorem byts_succ (s : Nat) (n : Int) : byts (s + 1) n = (n % 256) :: byts s (n / 256) := by
  unfold byts
  rw [List.range_succ_eq_map, List.map_cons, List.map_map]
  congr 1
  · simp [byteAt]
  · apply List.map_congr_left
    intro i _
    simp only [Function.comp, byteAt]
    rw [Nat.succ_eq_add_one, Nat.mul_add, Int.pow_add, Int.mul_comm]
    have e : n / 256 / 2 ^ (8 * i) = n / (256 * 2 ^ (8 * i)) := by
      rw [Int.ediv_ediv, if_neg (by intro h; exact absurd h.1 (by decide)), Int.sub_zero]
    rw [e]
    rfl
theorem leV_byts : ∀ (s : Nat) (n : Int), 0 ≤ n → n < 256 ^ s → leV (byts s n) = n
  | 0, n, h0, h1 => by simp at h1; simp [byts, leV]; omega
  | s + 1, n, h0, h1 => by
    rw [byts_succ]
    simp only [leV]
    rw [leV_byts s (n / 256) (by omega) (by rw [Int.pow_succ] at h1; omega)]
    omega
end Go.Proofs.Ytkmpcheamdadcaa
