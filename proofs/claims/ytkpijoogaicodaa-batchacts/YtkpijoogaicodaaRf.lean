import Derived.Test.YtkpijoogaicodaaRe
namespace Go.Proofs.Ytkpijoogaicodaa
open Go.RowKit
set_option linter.unusedVariables false
set_option linter.unusedSimpArgs false

def pAll (l : List Int) : Except Int (Int × List Rec) := if 4194304 < l.length then .error 2 else pBody l
/-- What Decode answers. -/
def DecPost (w : World) (l : List Int) : Ending → World → Prop := fun e w' => Below w.heap.size w w' ∧ ((∃ c, pAll l = .error c ∧ e = .returned (.tuple #[.int .u64 0, .slice none 0 0, .int .i64 c])) ∨ (∃ s rs lv, pAll l = .ok (s, rs) ∧ e = .returned (.tuple #[.int .u64 s, lv, .int .i64 0]) ∧ w'.ownsRow 0 31 4 lv rs.length (rcs rs) ∧ ∀ k, lv.ownBlock = some k → w.heap.size ≤ k))
theorem arg_lt {w : World} {a : Option Addr} {len cap : Nat} {l : List Int} (h : Arg w a len cap l) (hl : l ≠ []) : ∀ k, Value.ownBlock (.slice a len cap) = some k → k < w.heap.size := by
  obtain ⟨_, _, _, h4⟩ := h
  rcases h4 with h4 | ⟨b, off, rfl, hlt, _⟩
  · exact absurd h4 hl
  · intro k hk; simp [Value.ownBlock] at hk; omega
set_option maxRecDepth 100000 in
set_option maxHeartbeats 1000000 in
theorem decode_any {w : World} {a : Option Addr} {cap : Nat} {l : List Int} (hA : Arg w a l.length cap l) (hcap : l.length ≤ cap) (hlt : ∀ k, Value.ownBlock (.slice a l.length cap) = some k → k < w.heap.size) :
    Calls Try.prog 13 #[.slice a l.length cap] w (DecPost w l) := by
  by_cases hl : 4194304 < l.length
  · have hp : pAll l = .error 2 := by unfold pAll; rw [if_pos hl]
    have hl' : (4194304 : Int) < (l.length : Int) := by omega
    go_enter Try.func13, Try.ntmps13
    go_wp2
    go_ret3
    exact ⟨Below.refl _ _, .inl ⟨2, hp, rfl⟩⟩
  · have hp : pAll l = pBody l := by unfold pAll; rw [if_neg hl]
    have hl' : ¬ (4194304 : Int) < (l.length : Int) := by omega
    unfold DecPost
    rw [hp]
    clear hp hl
    cases hb : pBody l with
    | error c =>
      have HC : Calls Try.prog 40 #[.slice a l.length cap] w fun e w' => e = .returned (.tuple #[.int .u64 0, .slice none 0 0, .int .i64 c]) ∧ Below w.heap.size w w' := by
        refine (whole_any hA hcap hlt).mono ?_
        rintro e w' ⟨h1, ⟨c', h2, rfl⟩ | ⟨s, rs, lv, h2, _⟩⟩
        · rw [hb] at h2; cases h2; exact ⟨rfl, h1⟩
        · rw [hb] at h2; cases h2
      clear hb
      go_enter Try.func13, Try.ntmps13
      go_wp2_with (go_at_call 40; refine HC.mono ?_; rintro e w1 ⟨rfl, h1⟩)
      go_ret3
      exact ⟨h1, .inl ⟨c, rfl, rfl⟩⟩
    | ok x =>
      obtain ⟨s, rs⟩ := x
      have HC : Calls Try.prog 40 #[.slice a l.length cap] w fun e w' => ∃ lv, e = .returned (.tuple #[.int .u64 s, lv, .int .i64 0]) ∧ Below w.heap.size w w' ∧ w'.ownsRow 0 31 4 lv rs.length (rcs rs) ∧ ∀ k, lv.ownBlock = some k → w.heap.size ≤ k := by
        refine (whole_any hA hcap hlt).mono ?_
        rintro e w' ⟨h1, ⟨c', h2, rfl⟩ | ⟨s', rs', lv, h2, rfl, h3, h4⟩⟩
        · rw [hb] at h2; cases h2
        · rw [hb] at h2; cases h2; exact ⟨lv, rfl, h1, h3, h4⟩
      clear hb
      go_enter Try.func13, Try.ntmps13
      go_wp2_with (go_at_call 40; refine HC.mono ?_; rintro e w1 ⟨lv, rfl, h1, h3, h4⟩)
      go_ret3
      exact ⟨h1, .inr ⟨s, rs, lv, rfl, rfl, h3, h4⟩⟩
end Go.Proofs.Ytkpijoogaicodaa
