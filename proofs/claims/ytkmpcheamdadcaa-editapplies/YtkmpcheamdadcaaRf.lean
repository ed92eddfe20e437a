import Derived.Test.YtkmpcheamdadcaaMg
import Derived.Test.YtkmpcheamdadcaaAr
import Derived.WalkKit
import Derived.WalkSpells
import Derived.WalkLawsBesides
namespace Go.Proofs.Ytkmpcheamdadcaa
open Go.RowKit
set_option linter.unusedVariables false
set_option linter.unusedSimpArgs false

def rfV (s : Nat) (l : List Int) : Int := if l.length < s then 0 else leV (l.take s)
def rfE (s : Nat) (l : List Int) : Int := if l.length < s then 4 else 0
theorem take_bd {l : List Int} (h : ∀ n ∈ l, 0 ≤ n ∧ n < 256) (s : Nat) : ∀ n ∈ l.take s, 0 ≤ n ∧ n < 256 := fun n hn => h n (List.mem_of_mem_take hn)
theorem ret_2 {k k' : IntKind} {a b c d : Int} (h : a = b) (h' : c = d) : Ending.returned (.tuple #[.int k a, .int k' c]) = .returned (.tuple #[.int k b, .int k' d]) := by rw [h, h']

/-- readFixed of the first bytes of a slice. -/
theorem readFixed_at (b off cap : Nat) (l : List Int) (s : Nat) (hs : s ≤ 8) (hsl : s ≤ l.length) (hbd : ∀ n ∈ l, 0 ≤ n ∧ n < 256) (w : World) (hb : b < w.heap.size) (hI : ∀ j, (h : j < l.length) → w.cell? ⟨b, off + j, none⟩ = some (.int .u8 l[j])) :
    Calls Try.prog 137 #[.slice (some ⟨b, off, none⟩) s cap] w fun e W' => e = .returned (.int .u64 (leV (l.take s))) ∧ Below w.heap.size w W' := by
  have hl : (l.take s).length = s := by simp; omega
  have h := readFixed_calls b off cap (l.take s) (by omega) w hb (by
    intro j hj
    have hj' : j < l.length := by omega
    rw [hI j hj', List.getElem?_eq_getElem hj]
    simp)
  rw [rd_le _ (by omega) (take_bd hbd s), hl] at h
  exact h

theorem leV4_bd {l : List Int} (h : ∀ n ∈ l, 0 ≤ n ∧ n < 256) (h4 : 4 ≤ l.length) : 0 ≤ leV (l.take 4) ∧ leV (l.take 4) < 4294967296 := by
  have := leV_bd (l.take 4) (take_bd h 4)
  have e : (l.take 4).length = 4 := by simp; omega
  rw [e] at this
  exact ⟨this.1, by have h2 := this.2; simpa using h2⟩
theorem rdL_next (l : List Int) (s k m : Nat) (x : Int) (hs : s ≤ l.length) (hm : s = m + k + 1) (hx : l[m]? = some x) (x0 : 0 ≤ x) (x1 : x < 256) :
    rdL ((l.take s).reverse.take (k + 1)) = bits .or .u64 (IntKind.u64.wrap (rdL ((l.take s).reverse.take k) * 256)) x := by
  have hk : k < (l.take s).reverse.length := by simp; omega
  have e : (l.take s).reverse[k] = x := by
    obtain ⟨h1, h2⟩ := List.getElem?_eq_some_iff.1 hx
    rw [List.getElem_reverse]
    simp only [List.getElem_take, List.length_take]
    rw [← h2]
    congr 1
    omega
  rw [List.take_succ_eq_append_getElem hk, e]
  have e2 : IntKind.u64.wrap x = x := by rw [IntKind.wrap_u64]; omega
  unfold rdL
  rw [List.foldl_append]
  show bits .or .u64 (IntKind.u64.wrap (_ * 256)) (IntKind.u64.wrap x) = _
  rw [e2]
set_option maxHeartbeats 1000000 in
theorem rrf_any (s : Nat) (hs : s ≤ 8) (a : Option Addr) (len cap : Nat) (l : List Int) (w : World) (h : Arg w a len cap l) :
    Calls Try.prog 125 #[.slice a len cap, .int .i64 s] w fun e w' => e = .returned (.tuple #[.int .u64 (rfV s l), .int .i64 (rfE s l)]) ∧ w' = w := by
  obtain ⟨hl, h2, h3, h4⟩ := h
  by_cases h8 : len < s
  · have e1 : rfV s l = 0 := by unfold rfV; rw [if_pos (by omega)]
    have e2 : rfE s l = 4 := by unfold rfE; rw [if_pos (by omega)]
    rw [e1, e2]
    clear e1 e2 hl h2 h4
    have h8' : (len : Int) < (s : Int) := by omega
    go_enter Try.func125, Try.ntmps125
    go_wp2
    go_ret2
    exact ⟨rfl, rfl⟩
  · have e1 : rfV s l = leV (l.take s) := by unfold rfV; rw [if_neg (by omega)]
    have e2 : rfE s l = 0 := by unfold rfE; rw [if_neg (by omega)]
    rw [e1, e2]
    clear e1 e2
    have hls : s ≤ l.length := by omega
    have HL : Hid (l.length = len) := hl
    have h8' : (s : Int) ≤ (len : Int) := by omega
    clear hl
    go_enter Try.func125, Try.ntmps125
    go_wp2
    go_loop [6, 7] (fun n i => ∃ k : Nat, k ≤ s ∧ i = .int .i64 ((s : Int) - 1 - (k : Int)) ∧ n = .int .u64 (rdL ((l.take s).reverse.take k))) (fun _ i => (intOf i + 1).toNat)
    case atStart => exact ⟨0, Nat.zero_le _, by simp, rfl⟩
    case round =>
      obtain ⟨k, hk, rfl, rfl⟩ := hrel
      by_cases hlt : k < s
      · rcases h4 with rfl | ⟨b, off, rfl, hbl, hc⟩
        · simp at hls; omega
        · obtain ⟨m, hm⟩ : ∃ m : Nat, s = m + k + 1 := ⟨s - 1 - k, by omega⟩
          have e3 : (s : Int) - 1 - (k : Int) = (m : Int) := by omega
          have hml : m < l.length := by omega
          have hm2 : (m : Int) < (len : Int) := by omega
          have hcx := hc m hml
          obtain ⟨x0, x1⟩ := h2 _ (List.getElem_mem hml)
          have hxx : l[m]? = some l[m] := List.getElem?_eq_getElem hml
          generalize l[m] = x at *
          have HN : Hid (rdL ((l.take s).reverse.take (k + 1)) = bits .or .u64 (IntKind.u64.wrap (rdL ((l.take s).reverse.take k) * 256)) x) := rdL_next l s k m x hls hm hxx x0 x1
          have HM : Hid (s = m + k + 1) := hm
          clear hc hm hxx
          go_wp2
          go_round
          case rel => exact ⟨k + 1, by omega, val_i (by have := HM.out; omega), val_i HN.out.symm⟩
          case measure => simp [intOf]; omega
      · obtain rfl : k = s := by omega
        go_wp2
        go_ret2
        exact ⟨ret_2 (by rw [List.take_of_length_le (by rw [List.length_reverse, List.length_take]; omega), rdL_rev _ (by simp; omega) (take_bd h2 _)]) rfl, rfl⟩
end Go.Proofs.Ytkmpcheamdadcaa
