import Derived.Test.YtkpijoogaicodaaBb
namespace Go.Proofs.Ytkpijoogaicodaa
open Go.RowKit
set_option linter.unusedVariables false
set_option linter.unusedSimpArgs false

/-- What a record's numbers and texts may be where it is written. -/
structure Fine (r : Rec) : Prop where
  f0 : 0 ≤ r.fam
  f1 : r.fam < 4294967296
  key : r.key.size ≤ 100000
  val : ¬ r.kind = 0 → r.val.size ≤ 100000
theorem fine_sz {r : Rec} (h : Fine r) : rsz r.fam r.kind r.key r.val ≤ 300000 := by
  have b1 := vs_bd r.fam
  have b2 := vs_bd r.key.size
  have b3 := vs_bd r.val.size
  have := h.key
  have hv := h.val
  unfold rsz ts
  split
  · omega
  · rename_i hk; have := hv hk; omega
theorem fine_szs {l : List Rec} (h : ∀ r ∈ l, Fine r) : szs l ≤ l.length * 300000 := by
  induction l with
  | nil => simp [szs]
  | cons r l ih =>
    have h1 := fine_sz (h r (by simp))
    have h2 := ih (fun x hx => h x (by simp [hx]))
    simp [szs]; omega
theorem szs_take (l : List Rec) (k : Nat) (h : k < l.length) : szs (l.take (k + 1)) = szs (l.take k) + rsz l[k].fam l[k].kind l[k].key l[k].val := by
  rw [List.take_succ_eq_append_getElem h, szs_app]; simp [szs]
theorem szs_take_le (l : List Rec) (k : Nat) : szs (l.take k) ≤ szs l := by
  have := szs_app (l.take k) (l.drop k)
  rw [List.take_append_drop] at this; omega
/-- The k-th record of a slice. -/
theorem RdR.at {w : World} {v : Value} {l : List Rec} (h : RdR w v l) {k : Nat} (hk : k < l.length) : ∃ b off cap, v = .slice (some ⟨b, off, none⟩) l.length cap ∧ b < w.heap.size ∧ RAt w b (off + k * 4) l[k] := by
  rcases h with ⟨a, c, rfl, rfl⟩ | ⟨b, off, cap, rfl, hb, hc⟩
  · simp at hk
  · exact ⟨b, off, cap, rfl, hb, hc k hk⟩

set_option maxRecDepth 100000 in
set_option maxHeartbeats 1000000 in
theorem recordsSize_any {w : World} {v : Value} {l : List Rec} (h : RdR w v l) (hl : l.length ≤ 5000) (hf : ∀ r ∈ l, Fine r) :
    Calls Try.prog 27 #[v] w fun e w' => e = .returned (.int .i64 (szs l)) ∧ Below w.heap.size w w' := by
  have hS := fine_szs hf
  obtain ⟨a, c, rfl⟩ := h.len
  have HL : Hid (szs l ≤ l.length * 300000) := hS
  clear hS
  go_enter Try.func27, Try.ntmps27
  go_wp2
  go_loopw [3, 8] (fun n i wr => ∃ k : Nat, k ≤ l.length ∧ i = .int .i64 k ∧ n = .int .i64 (szs (l.take k)) ∧ Below w.heap.size w wr) (fun _ i _ => l.length - (intOf i).toNat)
  case atStart => exact ⟨0, Nat.zero_le _, rfl, rfl, Below.refl _ _⟩
  case round =>
    obtain ⟨k, hk, rfl, rfl, hbel⟩ := hrel
    by_cases hlt : k < l.length
    · obtain ⟨b, off, cap, hv, hb, c0, c1, c2, c3⟩ := (h.below hbel).at hlt
      cases hv
      have HT := szs_take l k hlt
      have HF := hf _ (List.getElem_mem hlt)
      have HB := szs_take_le l (k + 1)
      generalize l[k] = r at *
      obtain ⟨f, kd, key, val⟩ := r
      dsimp only at *
      have HC := fun w => recordSize_any f kd key val w HF.f0 HF.f1 HF.key HF.val
      generalize szs (l.take k) = n at *
      have HT' : Hid (szs (l.take (k + 1)) = n + rsz f kd key val) := HT
      have hn1 : ((n : Int) + (rsz f kd key val : Int)) ≤ 2000000000 := by have := HL.out; omega
      clear HT HB
      generalize rsz f kd key val = m at *
      go_wp2_with (go_at_call 54; refine (HC _).mono ?_; rintro e w1 ⟨rfl, hb1⟩)
      go_roundw
      case rel => exact ⟨k + 1, by omega, by go_num, val_i (by rw [HT'.out]; omega), bstep (hbel.alloc hbel.size _) hb1⟩
      case measure => simp [intOf]; omega
    · obtain rfl : k = l.length := by omega
      go_wp2
      go_ret
      exact ⟨ret_ii (by rw [List.take_length]), hbel⟩

def numb (seq many : Int) : Bool := decide (seq ≤ 72057594037927935 ∧ (many = 0 ∨ many - 1 ≤ 72057594037927935 - seq))
set_option maxRecDepth 100000 in
set_option maxHeartbeats 1000000 in
theorem numbered_any (seq many : Int) (w : World) (s0 : 0 ≤ seq) (s1 : seq < 18446744073709551616) (m0 : 0 ≤ many) (m1 : many < 18446744073709551616) :
    Calls Try.prog 26 #[.int .u64 seq, .int .u64 many] w fun e w' => e = .returned (.bool (numb seq many)) ∧ w' = w := by
  by_cases h1 : seq ≤ 72057594037927935
  · by_cases h2 : many = 0
    · have e : numb seq many = true := by unfold numb; simp; omega
      rw [e]
      have t2 : (many == 0) = true := by simpa using h2
      clear e h2
      go_enter Try.func26, Try.ntmps26
      go_wp2
      go_ret
      exact ⟨rfl, rfl⟩
    · have t2 : (many == 0) = false := by simpa using h2
      by_cases h3 : many - 1 ≤ 72057594037927935 - seq
      · have e : numb seq many = true := by unfold numb; simp; omega
        rw [e]
        have q0 : 1 ≤ many := by omega
        clear e h2
        go_enter Try.func26, Try.ntmps26
        go_wp2
        go_ret
        exact ⟨rfl, rfl⟩
      · have e : numb seq many = false := by unfold numb; simp; omega
        rw [e]
        have q0 : 1 ≤ many := by omega
        clear e h2
        go_enter Try.func26, Try.ntmps26
        go_wp2
        go_ret
        exact ⟨rfl, rfl⟩
  · have e : numb seq many = false := by unfold numb; simp; omega
    rw [e]
    clear e
    go_enter Try.func26, Try.ntmps26
    go_wp2
    go_ret
    exact ⟨rfl, rfl⟩
end Go.Proofs.Ytkpijoogaicodaa
