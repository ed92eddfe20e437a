import Derived.Test.YtbnllobofndckaaCt
namespace Go.Proofs.Ytbnllobofndckaa
open Go.RowKit
set_option linter.unusedVariables false
set_option linter.unusedSimpArgs false
/-- An entry. -/
structure Ent where
  u : ByteArray
  s : Int
  k : Int
  v : ByteArray
/-- A key's bytes. -/
def Ent.kb (e : Ent) : List Int := sb e.u ++ byts 8 (e.s * 256 + e.k)
abbrev ev (e : Ent) : Value := .agg #[.string e.u, .int .u64 e.s, .int .i64 e.k, .string e.v]
/-- An entry lies there. -/
def EAt (W : World) (b off : Nat) (e : Ent) : Prop := W.cell? ⟨b, off, none⟩ = some (.string e.u) ∧ W.cell? ⟨b, off + 1, none⟩ = some (.int .u64 e.s) ∧ W.cell? ⟨b, off + 2, none⟩ = some (.int .i64 e.k) ∧ W.cell? ⟨b, off + 3, none⟩ = some (.string e.v)
/-- A slice that reads as entries. -/
def RdE (w : World) (a : Option Addr) (l : List Ent) : Prop := l = [] ∨ ∃ b off, a = some ⟨b, off, none⟩ ∧ b < w.heap.size ∧ ∀ (j : Nat) (e : Ent), l[j]? = some e → EAt w b (off + j * 4) e
theorem RdE.upd {S : Nat → Prop} {W W' : World} {a : Option Addr} {l : List Ent} (h : RdE W a l) (u : Upd S W W') (hS : ∀ b off, a = some ⟨b, off, none⟩ → ¬ S b) : RdE W' a l := by
  rcases h with h | ⟨b, off, e, hlt, h⟩
  · exact .inl h
  · refine .inr ⟨b, off, e, Nat.lt_of_lt_of_le hlt u.size, fun j x hx => ?_⟩
    obtain ⟨e0, e1, e2, e3⟩ := h j x hx
    have hs := hS b off e
    exact ⟨(upd_cell u (p := ⟨b, _, none⟩) hlt hs).trans e0, (upd_cell u (p := ⟨b, _, none⟩) hlt hs).trans e1, (upd_cell u (p := ⟨b, _, none⟩) hlt hs).trans e2, (upd_cell u (p := ⟨b, _, none⟩) hlt hs).trans e3⟩
theorem RdE.below {W W' : World} {a : Option Addr} {l : List Ent} (h : RdE W a l) (hb : Below W.heap.size W W') : RdE W' a l := h.upd (S := Non) (Upd.ofBelow hb) (fun _ _ _ => id)
/-- Entries that can be written. -/
def Fit (l : List Ent) : Prop := ∀ e ∈ l, checkV e.u e.s e.k = 0 ∧ 0 ≤ e.s ∧ e.v.size ≤ 16384
theorem kb_len {e : Ent} (h : checkV e.u e.s e.k = 0) : e.kb.length ≤ 1032 ∧ 8 ≤ e.kb.length := by
  unfold checkV at h
  split at h
  · omega
  · unfold Ent.kb byts
    rw [List.length_append, sb_len, List.length_map, List.length_range]
    omega
/-- The key at a place, and the one ahead of it. -/
def kA (l : List Ent) (i : Nat) : List Int := match l[i]? with
  | some e => e.kb
  | none => []
def kP (l : List Ent) : Nat → List Int
  | 0 => []
  | i + 1 => kA l i
def vA (l : List Ent) (i : Nat) : ByteArray := match l[i]? with
  | some e => e.v
  | none => ⟨#[]⟩
/-- How many bytes of it are common. -/
def cA (r : Nat) (l : List Ent) (i : Nat) : Nat := if i % r = 0 then 0 else com (kP l i) (kA l i)
theorem cA_le (r : Nat) (l : List Ent) (i : Nat) : cA r l i ≤ (kA l i).length := by
  unfold cA
  split
  · omega
  · exact (com_le _ _).2
/-- What is written of an entry. -/
def wA (r : Nat) (l : List Ent) (i : Nat) : List Int := pcB (cA r l i) ((kA l i).drop (cA r l i)) (vA l i)
/-- The first entries' bytes. -/
def bt (r : Nat) (l : List Ent) : Nat → List Int
  | 0 => []
  | i + 1 => bt r l i ++ wA r l i
/-- The places of the first whole ones, and how many. -/
def pl (r : Nat) (l : List Ent) : Nat → List Int
  | 0 => []
  | i + 1 => pl r l i ++ (if i % r = 0 then byts 4 (bt r l i).length else [])
def wn (r : Nat) : Nat → Nat
  | 0 => 0
  | i + 1 => wn r i + (if i % r = 0 then 1 else 0)
theorem pl_len (r : Nat) (l : List Ent) : ∀ i, (pl r l i).length = 4 * wn r i
  | 0 => rfl
  | i + 1 => by
    unfold pl wn
    rw [List.length_append, pl_len r l i]
    split
    · rw [byts_len]; omega
    · simp
theorem wn_div (r : Nat) (hr : 1 ≤ r) : ∀ n, wn r n = (n + r - 1) / r
  | 0 => by
    show 0 = _
    rw [Nat.zero_add, Nat.div_eq_of_lt (by omega)]
  | n + 1 => by
    unfold wn
    rw [wn_div r hr n]
    have e : n + 1 + r - 1 = n + r := by omega
    rw [e, Nat.add_div_right _ (by omega)]
    by_cases h : n % r = 0
    · rw [if_pos h]
      obtain ⟨q, rfl⟩ : ∃ q, n = r * q := ⟨n / r, by have := Nat.div_add_mod n r; omega⟩
      rw [Nat.mul_div_cancel_left _ (by omega)]
      have : r * q + r - 1 = r * q + (r - 1) := by omega
      rw [this, Nat.mul_add_div (by omega), Nat.div_eq_of_lt (by omega)]
    · rw [if_neg h]
      have h1 := Nat.div_add_mod n r
      have h2 := Nat.mod_lt n (show r > 0 by omega)
      obtain ⟨q, hq⟩ : ∃ q, n / r = q := ⟨_, rfl⟩
      obtain ⟨t, ht⟩ : ∃ t, n % r = t + 1 := ⟨n % r - 1, by omega⟩
      rw [hq, ht] at h1
      rw [ht] at h2
      rw [hq]
      have : n + r - 1 = r * (q + 1) + t := by
        rw [Nat.mul_add, Nat.mul_one]; omega
      rw [this, Nat.mul_add_div (by omega), Nat.div_eq_of_lt (by omega)]
theorem wn_pos (r n : Nat) (h : 0 < n) : 0 < wn r n := by
  induction n with
  | zero => omega
  | succ n ih =>
    unfold wn
    by_cases h0 : n = 0
    · subst h0; simp
    · have := ih (by omega); omega
theorem wn_le (r n : Nat) : wn r n ≤ n := by
  induction n with
  | zero => exact Nat.le_refl _
  | succ n ih => unfold wn; split <;> omega
/-- The whole block. -/
def wr8 (r : Nat) (l : List Ent) : List Int := bt r l l.length ++ (if l.length = 0 then byts 4 0 else pl r l l.length) ++ byts 4 (if l.length = 0 then 1 else (wn r l.length : Int))
/-- How many bytes. -/
def zA (r : Nat) (l : List Ent) (i : Nat) : Nat := pcZ (cA r l i) ((kA l i).length - cA r l i) (vA l i).size
def bz (r : Nat) (l : List Ent) : Nat → Nat
  | 0 => 0
  | i + 1 => bz r l i + zA r l i
theorem bt_len (r : Nat) (l : List Ent) : ∀ i, (bt r l i).length = bz r l i
  | 0 => rfl
  | i + 1 => by
    unfold bt bz
    rw [List.length_append, bt_len r l i]
    unfold wA zA
    rw [pcB_len, List.length_drop]
theorem zA_le {r : Nat} {l : List Ent} (h : Fit l) (i : Nat) : zA r l i ≤ 17500 := by
  have hk : (kA l i).length ≤ 1032 := by
    unfold kA
    split
    · next e he => exact (kb_len (h e (List.mem_of_getElem? he)).1).1
    · simp
  have hv : (vA l i).size ≤ 16384 := by
    unfold vA
    split
    · next e he => exact (h e (List.mem_of_getElem? he)).2.2
    · show (0 : Nat) ≤ _; omega
  unfold zA pcZ
  have h1 := vz_le (cA r l i)
  have h2 := vz_le ((kA l i).length - cA r l i)
  have h3 := vz_le (vA l i).size
  omega
theorem bz_le {r : Nat} {l : List Ent} (h : Fit l) : ∀ i, bz r l i ≤ i * 17500
  | 0 => Nat.le_refl _
  | i + 1 => by
    have := bz_le (r := r) h i
    have := zA_le (r := r) h i
    unfold bz
    omega
theorem wr8_len (r : Nat) (hr : 1 ≤ r) (l : List Ent) : (wr8 r l).length = 4 * max ((l.length + r - 1) / r) 1 + 4 + bz r l l.length := by
  unfold wr8
  rw [List.length_append, List.length_append, byts_len, bt_len]
  by_cases h : l.length = 0
  · rw [if_pos h, byts_len, h, Nat.zero_add, Nat.div_eq_of_lt (by omega)]
    show bz r l 0 + 4 + 4 = 4 * 1 + 4 + bz r l 0
    omega
  · rw [if_neg h, pl_len, ← wn_div r hr]
    have := wn_pos r l.length (by omega)
    rw [Nat.max_eq_left this]
    omega
end Go.Proofs.Ytbnllobofndckaa
