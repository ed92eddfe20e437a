import Derived.Lib.EndianBits
import Derived.Laws.BitsAllLaws
import Derived.Laws.Closers25b
namespace Go.Proofs.YtjnlolibfcpbkaaDoor

/-- One bit of the register: as the walk spells it. -/
def crcBit (r : Int) : Int := if (bits .and .u32 r 1 == 1) = true then bits .xor .u32 (r / 2) 2197175160 else r / 2
def crcN : Nat → Int → Int
  | 0, r => r
  | k + 1, r => crcBit (crcN k r)
def crcByte (r c : Int) : Int := crcN 8 (bits .xor .u32 r c)
def crcReg (l : List Int) : Int := l.foldl crcByte 4294967295
theorem crcReg_snoc (l : List Int) (c : Int) : crcReg (l ++ [c]) = crcByte (crcReg l) c := by simp [crcReg]
theorem crcBit_bd (r : Int) (h0 : 0 ≤ r) (h1 : r < 4294967296) : 0 ≤ crcBit r ∧ crcBit r < 4294967296 := by
  unfold crcBit
  have a := bits_lo_u32 .xor (r / 2) 2197175160
  have b := bits_hi_u32 .xor (r / 2) 2197175160
  split <;> omega
theorem crcN_bd (k : Nat) (r : Int) (h0 : 0 ≤ r) (h1 : r < 4294967296) : 0 ≤ crcN k r ∧ crcN k r < 4294967296 := by
  induction k with
  | zero => exact ⟨h0, h1⟩
  | succ k ih => exact crcBit_bd _ ih.1 ih.2
theorem crcByte_bd (r c : Int) : 0 ≤ crcByte r c ∧ crcByte r c < 4294967296 := by
  have a := bits_lo_u32 .xor r c
  have b := bits_hi_u32 .xor r c
  exact crcN_bd 8 _ a (by omega)
theorem crcReg_bd (l : List Int) : 0 ≤ crcReg l ∧ crcReg l < 4294967296 := by
  unfold crcReg
  suffices h : ∀ (l : List Int) (r : Int), 0 ≤ r → r < 4294967296 → 0 ≤ l.foldl crcByte r ∧ l.foldl crcByte r < 4294967296 from h l _ (by decide) (by decide)
  intro l
  induction l with
  | nil => intro r h0 h1; exact ⟨h0, h1⟩
  | cons c l ih => intro r h0 h1; exact ih _ (crcByte_bd r c).1 (crcByte_bd r c).2
def crcSum (l : List Int) : Int := bits .xor .u32 IntKind.u32.max (crcReg l)
theorem crcBit_one {r : Int} (h : (bits .and .u32 r 1 == 1) = true) : bits .xor .u32 (r / 2) 2197175160 = crcBit r := by unfold crcBit; rw [if_pos h]
theorem crcBit_nil {r : Int} (h : (bits .and .u32 r 1 == 1) = false) : r / 2 = crcBit r := by unfold crcBit; rw [if_neg (by simp [h])]
theorem take_snoc' (l : List Int) (k : Nat) (h : k < l.length) : l.take (k + 1) = l.take k ++ [l[k]] := by
  rw [List.take_succ_eq_append_getElem h]
theorem crcReg_take (l : List Int) (k : Nat) (h : k < l.length) : crcReg (l.take (k + 1)) = crcN 8 (bits .xor .u32 (crcReg (l.take k)) l[k]) := by
  rw [take_snoc' l k h, crcReg_snoc]; rfl
end Go.Proofs.YtjnlolibfcpbkaaDoor
