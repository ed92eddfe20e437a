/-
  Plain mathematics of the filters: hashes, probes, bits of bytes.
-/
import Derived.WalkKit
import Derived.Laws.BitsAllLaws
namespace Go.Proofs.Ytbmljdeenbokmaa
open Go.RowKit
set_option linter.unusedVariables false
set_option linter.unusedSimpArgs false

def hstep (h x : Int) : Int := IntKind.u64.wrap (bits .xor .u64 h (IntKind.u64.wrap x) * 1099511628211)
def hfold (l : List UInt8) : Int := l.foldl (fun h x => hstep h x.toNat) 14695981039346656037
theorem take_snoc (s : ByteArray) (k : Nat) (h : k < s.size) : s.data.toList.take (k + 1) = s.data.toList.take k ++ [s[k]] := by
  rw [List.take_succ_eq_append_getElem (by simpa using h)]; rfl
theorem hfold_snoc (l : List UInt8) (c : UInt8) : hfold (l ++ [c]) = hstep (hfold l) c.toNat := by simp [hfold]
def hmid (h : Int) : Int := IntKind.u64.wrap (bits .xor .u64 h (h / 4294967296) * 11400714819323198485)
/-- A key's number. -/
def hsh (s : ByteArray) : Int := bits .xor .u64 (hmid (hfold s.data.toList)) (hmid (hfold s.data.toList) / 536870912)
theorem wrap_u64_bd (x : Int) : 0 ≤ IntKind.u64.wrap x ∧ IntKind.u64.wrap x < 18446744073709551616 := by
  rw [IntKind.wrap_u64]; omega
theorem wrap_u32_bd (x : Int) : 0 ≤ IntKind.u32.wrap x ∧ IntKind.u32.wrap x < 4294967296 := by
  rw [IntKind.wrap_u32']; omega
theorem bits_u64_bd (op : BinOp) (x y : Int) : 0 ≤ bits op .u64 x y ∧ bits op .u64 x y < 18446744073709551616 := ⟨bits_lo_u64 op x y, by have := bits_hi_u64 op x y; omega⟩
theorem bits_u32_bd (op : BinOp) (x y : Int) : 0 ≤ bits op .u32 x y ∧ bits op .u32 x y < 4294967296 := ⟨bits_lo_u32 op x y, by have := bits_hi_u32 op x y; omega⟩
theorem bits_u8_bd (op : BinOp) (x y : Int) : 0 ≤ bits op .u8 x y ∧ bits op .u8 x y < 256 := ⟨bits_lo_u8 op x y, by have := bits_hi_u8 op x y; omega⟩
theorem hsh_bd (s : ByteArray) : 0 ≤ hsh s ∧ hsh s < 18446744073709551616 := bits_u64_bd _ _ _
theorem hfold_bd (l : List UInt8) : 0 ≤ hfold l ∧ hfold l < 18446744073709551616 := by
  rcases List.eq_nil_or_concat l with rfl | ⟨a, b, rfl⟩
  · simp [hfold]
  · rw [List.concat_eq_append, hfold_snoc]; exact wrap_u64_bd _

/-- How far a probe is from the one ahead. -/
def stp (h : Int) : Int := bits .or .u32 (h / 4294967296) 1
/-- The k-th number. -/
def atK (h : Int) : Nat → Int
  | 0 => h % 4294967296
  | k + 1 => (atK h k + stp h) % 4294967296
theorem atK_bd (h : Int) (k : Nat) : 0 ≤ atK h k ∧ atK h k < 4294967296 := by cases k <;> simp only [atK] <;> omega
theorem stp_bd (h : Int) : 0 ≤ stp h ∧ stp h < 4294967296 := bits_u32_bd _ _ _
/-- The k-th probe, in m bits. -/
def prb (h m : Int) (k : Nat) : Int := atK h k % m
/-- The first n probes. -/
def prbs (h m : Int) (n : Nat) : List Int := (List.range n).map (prb h m)
theorem prbs_succ (h m : Int) (n : Nat) : prbs h m (n + 1) = prbs h m n ++ [prb h m n] := by simp [prbs, List.range_succ]
theorem prbs_length (h m : Int) (n : Nat) : (prbs h m n).length = n := by simp [prbs]
theorem prb_bd (h : Int) {m : Int} (hm : 0 < m) (k : Nat) : 0 ≤ prb h m k ∧ prb h m k < m := ⟨Int.emod_nonneg _ (by omega), Int.emod_lt_of_pos _ hm⟩
/-- A bit in its byte. -/
def mk (p : Int) : Int := 2 ^ (p % 8).toNat % 256
theorem mk_eq (p : Int) : mk p = ((2 ^ (p % 8).toNat : Nat) : Int) ∧ (2 ^ (p % 8).toNat : Nat) < 256 := by
  have h : (p % 8).toNat < 8 := by omega
  have h2 : (2 ^ (p % 8).toNat : Nat) < 256 := by
    calc 2 ^ (p % 8).toNat < 2 ^ 8 := Nat.pow_lt_pow_right (by omega) h
      _ = 256 := rfl
  refine ⟨?_, h2⟩
  unfold mk
  have e : (2 : Int) ^ (p % 8).toNat = ((2 ^ (p % 8).toNat : Nat) : Int) := by simp
  rw [e]
  generalize (2 ^ (p % 8).toNat : Nat) = x at h2 ⊢
  omega
theorem mk_bd (p : Int) : 0 ≤ mk p ∧ mk p < 256 := by
  unfold mk; omega
/-- Bytes. -/
def Byt (f : List Int) : Prop := ∀ x ∈ f, 0 ≤ x ∧ x < 256
/-- A bit is set. -/
def setb (f : List Int) (p : Int) : List Int := f.set (p / 8).toNat (bits .or .u8 (f.getD (p / 8).toNat 0) (mk p))
/-- Is it? -/
def hasb (f : List Int) (p : Int) : Bool := bits .and .u8 (f.getD (p / 8).toNat 0) (mk p) != 0
theorem setb_length (f : List Int) (p : Int) : (setb f p).length = f.length := by simp [setb]
theorem setb_byt {f : List Int} (h : Byt f) (p : Int) : Byt (setb f p) := by
  intro x hx
  rcases List.mem_or_eq_of_mem_set hx with hx | rfl
  · exact h x hx
  · exact bits_u8_bd _ _ _
theorem byt_get {f : List Int} (h : Byt f) (i : Nat) : 0 ≤ f.getD i 0 ∧ f.getD i 0 < 256 := by
  by_cases hi : i < f.length
  · rw [List.getD_eq_getElem?_getD, List.getElem?_eq_getElem hi]; exact h _ (List.getElem_mem hi)
  · rw [List.getD_eq_getElem?_getD, List.getElem?_eq_none (by omega)]; simp
/-- As bits of numbers. -/
theorem hasb_test {f : List Int} (h : Byt f) (p : Int) : hasb f p = (f.getD (p / 8).toNat 0).toNat.testBit (p % 8).toNat := by
  obtain ⟨h1, h2⟩ := byt_get h (p / 8).toNat
  obtain ⟨e, hlt⟩ := mk_eq p
  unfold hasb
  rw [u8_and _ _ h1 h2 (mk_bd p).1 (mk_bd p).2, e, Int.toNat_natCast, nat_bit, Nat.testBit_eq_decide_div_mod_eq]
  have hp : 0 < 2 ^ (p % 8).toNat := Nat.two_pow_pos _
  generalize hy : 2 ^ (p % 8).toNat = y at *
  generalize hx : (f.getD (p / 8).toNat 0).toNat / y % 2 = x
  have : x = 0 ∨ x = 1 := by omega
  rcases this with rfl | rfl
  · simp
  · simp; omega
theorem setb_get (f : List Int) (p : Int) (i : Nat) (hi : i < f.length) : (setb f p).getD i 0 = if i = (p / 8).toNat then bits .or .u8 (f.getD i 0) (mk p) else f.getD i 0 := by
  unfold setb
  by_cases h : i = (p / 8).toNat
  · subst h; simp [List.getD_eq_getElem?_getD, List.getElem?_set, hi]
  · rw [if_neg h]; simp [List.getD_eq_getElem?_getD, List.getElem?_set, Ne.symm h]
theorem hasb_setb {f : List Int} (h : Byt f) {p q : Int} (hp : 0 ≤ p) (hq : 0 ≤ q) (hq2 : (q / 8).toNat < f.length) : hasb (setb f p) q = (hasb f q || decide (p = q)) := by
  rw [hasb_test (setb_byt h p), hasb_test h, setb_get f p _ hq2]
  split
  · rename_i e
    obtain ⟨h1, h2⟩ := byt_get h (q / 8).toNat
    rw [u8_or _ _ h1 h2 (mk_bd p).1 (mk_bd p).2, Int.toNat_natCast, Nat.testBit_or, (mk_eq p).1, Int.toNat_natCast, Nat.testBit_two_pow]
    congr 1
    rw [decide_eq_decide]
    omega
  · rename_i e
    have : ¬ p = q := by rintro rfl; exact e rfl
    simp [this]
/-- Two bytes are the same if their bits are. -/
theorem byte_ext {a b : Int} (ha : 0 ≤ a ∧ a < 256) (hb : 0 ≤ b ∧ b < 256) (h : ∀ i, i < 8 → a.toNat.testBit i = b.toNat.testBit i) : a = b := by
  have : a.toNat = b.toNat := by
    refine Nat.eq_of_testBit_eq fun i => ?_
    by_cases hi : i < 8
    · exact h i hi
    · have : 256 ≤ 2 ^ i := by
        calc 256 = 2 ^ 8 := rfl
          _ ≤ 2 ^ i := Nat.pow_le_pow_right (by omega) (by omega)
      rw [Nat.testBit_lt_two_pow (by omega), Nat.testBit_lt_two_pow (by omega)]
  omega
/-- Filters of one length are the same if their bits are. -/
theorem filt_ext {f g : List Int} (hf : Byt f) (hg : Byt g) (hl : f.length = g.length) (h : ∀ p : Int, 0 ≤ p → (p / 8).toNat < f.length → hasb f p = hasb g p) : f = g := by
  refine List.ext_getElem hl fun i h1 h2 => ?_
  refine byte_ext (hf _ (List.getElem_mem h1)) (hg _ (List.getElem_mem h2)) fun j hj => ?_
  have e1 : (((8 * i + j : Nat) : Int) / 8).toNat = i := by omega
  have e2 : (((8 * i + j : Nat) : Int) % 8).toNat = j := by omega
  have := h ((8 * i + j : Nat) : Int) (by omega) (by rw [e1]; exact h1)
  rw [hasb_test hf, hasb_test hg, e1, e2, List.getD_eq_getElem?_getD, List.getD_eq_getElem?_getD, List.getElem?_eq_getElem h1, List.getElem?_eq_getElem h2] at this
  simpa using this
/-- All bits of a list are set. -/
def sets (f : List Int) (ps : List Int) : List Int := ps.foldl setb f
theorem sets_snoc (f : List Int) (ps : List Int) (p : Int) : sets f (ps ++ [p]) = setb (sets f ps) p := by simp [sets]
theorem sets_length (f ps : List Int) : (sets f ps).length = f.length := by
  induction ps generalizing f with
  | nil => rfl
  | cons p ps ih => exact (ih (setb f p)).trans (setb_length f p)
theorem sets_byt {f : List Int} (h : Byt f) (ps : List Int) : Byt (sets f ps) := by
  induction ps generalizing f with
  | nil => exact h
  | cons p ps ih => exact ih (setb_byt h p)
theorem hasb_sets {f : List Int} (h : Byt f) {ps : List Int} (hps : ∀ p ∈ ps, 0 ≤ p) {q : Int} (hq : 0 ≤ q) (hq2 : (q / 8).toNat < f.length) : hasb (sets f ps) q = (hasb f q || decide (q ∈ ps)) := by
  induction ps generalizing f with
  | nil => simp [sets]
  | cons p ps ih =>
    have hp := hps p (by simp)
    show hasb (sets (setb f p) ps) q = _
    rw [ih (setb_byt h p) (fun x hx => hps x (by simp [hx])) (by rw [setb_length]; exact hq2), hasb_setb h hp hq hq2, Bool.or_assoc]
    congr 1
    by_cases h1 : p = q
    · subst h1; simp
    · have h2 : ¬ q = p := fun e => h1 e.symm
      simp [h1, h2]
end Go.Proofs.Ytbmljdeenbokmaa
