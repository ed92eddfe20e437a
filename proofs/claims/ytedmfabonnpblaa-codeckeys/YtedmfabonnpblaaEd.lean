import Derived.Test.YtedmfabonnpblaaRdec
import Derived.Test.YtedmfabonnpblaaRenc
import Derived.WalkKit
namespace Go.Proofs.Ytedmfabonnpblaa
open Go.RowKit
set_option linter.unusedVariables false
set_option linter.unusedSimpArgs false

/-- Decode's answer: user, number, kind, error. -/
def decT (l : List Int) : ByteArray × Int × Int × Int :=
  if l.length < 8 then (⟨#[]⟩, 0, 0, 4)
  else if checkV (decU (l.length - 8) l) (decN (l.length - 8) l / 256) (decN (l.length - 8) l % 256) = 0 then (decU (l.length - 8) l, decN (l.length - 8) l / 256, decN (l.length - 8) l % 256, 0)
  else (⟨#[]⟩, 0, 0, 3)
/-- .. as a value. -/
def decR (r : ByteArray × Int × Int × Int) : Value := .tuple #[.agg #[.string r.1, .int .u64 r.2.1, .int .i64 r.2.2.1], .int .i64 r.2.2.2]
theorem decT_short {l : List Int} (h : l.length < 8) : decR (decT l) = .tuple #[.agg #[.string ⟨#[]⟩, .int .u64 0, .int .i64 0], .int .i64 4] := by
  unfold decT; rw [if_pos h]; rfl
theorem decT_long {l : List Int} {m : Nat} (h : l.length = m + 8) : decR (decT l) = (if checkV (decU m l) (decN m l / 256) (decN m l % 256) = 0 then .tuple #[.agg #[.string (decU m l), .int .u64 (decN m l / 256), .int .i64 (decN m l % 256)], .int .i64 0] else .tuple #[.agg #[.string ⟨#[]⟩, .int .u64 0, .int .i64 0], .int .i64 3]) := by
  unfold decT
  rw [if_neg (by omega), show l.length - 8 = m by omega]
  split <;> rfl
theorem cdecode_any (a : Option Addr) (len cap : Nat) (l : List Int) (w : World) (h : Arg w a len cap l) (hcap : len ≤ cap) :
    Calls Try.prog 28 #[.slice a len cap] w fun e w' => e = .returned (decR (decT l)) ∧ Below w.heap.size w w' := by
  obtain ⟨hl, h2, h3, h4⟩ := h
  by_cases h8 : len < 8
  · rw [decT_short (by omega)]; exact cdecode_short a len cap w h8
  · obtain ⟨m, rfl⟩ : ∃ m, len = m + 8 := ⟨len - 8, by omega⟩
    rcases h4 with rfl | ⟨b, off, rfl, hlt, hc⟩
    · simp at hl
    · rw [decT_long hl]; exact cdecode_long b off m cap l w hl h2 h3 hcap hlt hc
theorem rdecode_any (a : Option Addr) (len cap : Nat) (l : List Int) (w : World) (h : Arg w a len cap l) (hcap : len ≤ cap) :
    Calls Try.prog 29 #[.slice a len cap] w fun e w' => e = .returned (decR (decT l)) ∧ Below w.heap.size w w' := by
  obtain ⟨hl, h2, h3, h4⟩ := h
  by_cases h8 : len < 8
  · rw [decT_short (by omega)]; exact rdecode_short a len cap w h8
  · obtain ⟨m, rfl⟩ : ∃ m, len = m + 8 := ⟨len - 8, by omega⟩
    rcases h4 with rfl | ⟨b, off, rfl, hlt, hc⟩
    · simp at hl
    · rw [decT_long hl]; exact rdecode_long b off m cap l w hl h2 h3 hcap hlt hc

/-- Encode's bytes. -/
def encL (u : ByteArray) (s k : Int) : List Int := if checkV u s k = 0 then sb u ++ byts 8 (s * 256 + k) else []
theorem cencode_any (u : ByteArray) (s k : Int) (w : World) (hs : 0 ≤ s) :
    Calls Try.prog 26 #[.agg #[.string u, .int .u64 s, .int .i64 k]] w fun e w' => ∃ v, e = .returned (.tuple #[v, .int .i64 (checkV u s k)]) ∧ OwnB w' w.heap.size v (encL u s k) ∧ Below w.heap.size w w' := by
  by_cases h : checkV u s k = 0
  · have e : encL u s k = sb u ++ byts 8 (s * 256 + k) := by unfold encL; rw [if_pos h]
    rw [e, h]; exact cencode_yes u s k w h hs
  · have e : encL u s k = [] := by unfold encL; rw [if_neg h]
    rw [e]
    refine (cencode_no u s k w h).mono ?_
    rintro e w' ⟨rfl, hb⟩
    exact ⟨_, rfl, OwnB.nil _ _, hb⟩
theorem rencode_any (u : ByteArray) (s k : Int) (w : World) (hs : 0 ≤ s) :
    Calls Try.prog 27 #[.agg #[.string u, .int .u64 s, .int .i64 k]] w fun e w' => ∃ v, e = .returned (.tuple #[v, .int .i64 (checkV u s k)]) ∧ OwnB w' w.heap.size v (encL u s k) ∧ Below w.heap.size w w' := by
  by_cases h : checkV u s k = 0
  · have e : encL u s k = sb u ++ byts 8 (s * 256 + k) := by unfold encL; rw [if_pos h]
    rw [e, h]; exact rencode_yes u s k w h hs
  · have e : encL u s k = [] := by unfold encL; rw [if_neg h]
    rw [e]
    refine (rencode_no u s k w h).mono ?_
    rintro e w' ⟨rfl, hb⟩
    exact ⟨_, rfl, OwnB.nil _ _, hb⟩
theorem bstr_sb (u : ByteArray) : bstr (sb u) = u := by
  have h := foldl_push_byteCells u.data.toList ByteArray.empty
  have e0 : ByteArray.empty.data = #[] := rfl
  rw [e0] at h
  simp at h
  exact h
theorem sb_bd (u : ByteArray) : ∀ n ∈ sb u, 0 ≤ n ∧ n < 256 := by
  intro n hn
  obtain ⟨c, _, rfl⟩ := List.mem_map.1 hn
  have := c.toNat_lt
  omega
theorem check_parts {u : ByteArray} {s k : Int} (h : checkV u s k = 0) : 0 ≤ k ∧ k ≤ 2 ∧ s ≤ 72057594037927935 ∧ u.size ≤ 1024 := by
  unfold checkV at h
  split at h
  · cases h
  · split at h
    · cases h
    · omega
theorem encL_yes {u : ByteArray} {s k : Int} (h : checkV u s k = 0) : encL u s k = sb u ++ byts 8 (s * 256 + k) := by unfold encL; rw [if_pos h]
theorem encL_bd (u : ByteArray) (s k : Int) : ∀ n ∈ encL u s k, 0 ≤ n ∧ n < 256 := by
  unfold encL
  split
  · intro n hn
    rcases List.mem_append.1 hn with h | h
    · exact sb_bd u n h
    · exact byts_bd 8 _ n h
  · intro n hn; simp at hn
/-- There and back. -/
theorem dec_enc {u : ByteArray} {s k : Int} (h : checkV u s k = 0) (hs : 0 ≤ s) : decT (encL u s k) = (u, s, k, 0) := by
  obtain ⟨k0, k1, s1, hu⟩ := check_parts h
  rw [encL_yes h]
  have hl : (sb u ++ byts 8 (s * 256 + k)).length = u.size + 8 := by rw [List.length_append, sb_len, byts_len]
  have e1 : decU u.size (sb u ++ byts 8 (s * 256 + k)) = u := by
    unfold decU; rw [List.take_left' (sb_len u), bstr_sb]
  have e2 : decN u.size (sb u ++ byts 8 (s * 256 + k)) = s * 256 + k := by
    unfold decN; rw [List.drop_left' (sb_len u)]
    exact leV_byts 8 _ (by omega) (by show s * 256 + k < 256 ^ 8; omega)
  unfold decT
  rw [if_neg (by omega), hl, show u.size + 8 - 8 = u.size by omega, e1, e2, show (s * 256 + k) / 256 = s by omega, show (s * 256 + k) % 256 = k by omega, if_pos h]
end Go.Proofs.Ytedmfabonnpblaa
