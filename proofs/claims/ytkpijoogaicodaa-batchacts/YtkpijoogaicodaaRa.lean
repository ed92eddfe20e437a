import Derived.Test.YtkpijoogaicodaaBa
import Derived.Test.YtkpijoogaicodaaEb
import Derived.Test.YtkpijoogaicodaaCb
namespace Go.Proofs.Ytkpijoogaicodaa
open Go.RowKit
set_option linter.unusedVariables false
set_option linter.unusedSimpArgs false

def cutBA (a : Option Addr) (cap n : Nat) : Option Addr := if cap = n then a else a.map (·.add (n * 1))
theorem elem24 : Try.prog.elem 24 = 5 := by kernel_rfl
theorem slc24 : Try.prog.underlying 24 = some (.slice (Try.prog.elem 24)) := by rw [elem24]; exact Try.underlying24
theorem bcut_lo (a : Option Addr) (len cap n : Nat) (h : n ≤ len) (W : World) : (Instr.sliceAt 24 (.slice a len cap) (some (.int .i64 n)) none none).run Try.prog W = .ok (.slice (cutBA a cap n) (len - n) (cap - n)) W := by
  have hs : (sizeOf 5).run Try.prog W = .ok 1 W := by kernel_rfl
  have hr := run_slice_l (P := Try.prog) W 24 a len cap slc24 .i64 (n : Int) (by omega) (by omega)
  rw [elem24, hs] at hr
  simp only [Result.andThen, sliced, Int.toNat_natCast] at hr
  rw [run_sliceAt_slice _ _ _ _ _ _ slc24, hr]
  rfl
theorem bcut_hi (a : Option Addr) (len cap n : Nat) (h : n ≤ cap) (W : World) : (Instr.sliceAt 24 (.slice a len cap) none (some (.int .i64 n)) none).run Try.prog W = .ok (.slice a n cap) W := by
  have hs : (sizeOf 5).run Try.prog W = .ok 1 W := by kernel_rfl
  have hr := run_slice_h (P := Try.prog) W 24 a len cap slc24 .i64 (n : Int) (by omega) (by omega)
  rw [elem24, hs] at hr
  simp only [Result.andThen, sliced, Int.toNat_natCast] at hr
  rw [run_sliceAt_slice _ _ _ _ _ _ slc24, hr]
  cases a <;> simp [Addr.add]
theorem Arg.take {w : World} {a : Option Addr} {len cap : Nat} {l : List Int} (h : Arg w a len cap l) (n : Nat) (hn : n ≤ len) : Arg w a n cap (l.take n) := by
  obtain ⟨h1, h2, h3, h4⟩ := h
  refine ⟨by rw [List.length_take]; omega, fun x hx => h2 x (List.mem_of_mem_take hx), by omega, ?_⟩
  rcases h4 with rfl | ⟨b, off, rfl, hb, hc⟩
  · exact .inl (by simp)
  · refine .inr ⟨b, off, rfl, hb, fun j hj => ?_⟩
    rw [List.length_take] at hj
    rw [List.getElem_take]
    exact hc j (by omega)
theorem Arg.drop {w : World} {a : Option Addr} {len cap : Nat} {l : List Int} (h : Arg w a len cap l) (n : Nat) (hn : n ≤ len) (hcap : len ≤ cap) : Arg w (cutBA a cap n) (len - n) (cap - n) (l.drop n) := by
  obtain ⟨h1, h2, h3, h4⟩ := h
  refine ⟨by rw [List.length_drop]; omega, fun x hx => h2 x (List.mem_of_mem_drop hx), by omega, ?_⟩
  by_cases hz : l.drop n = []
  · exact .inl hz
  · have hlt : n < len := by
      rcases Nat.lt_or_ge n len with h | h
      · exact h
      · exact absurd (List.drop_eq_nil_of_le (by omega)) hz
    rcases h4 with rfl | ⟨b, off, rfl, hb, hc⟩
    · simp at hz
    · refine .inr ⟨b, off + n, ?_, hb, fun j hj => ?_⟩
      · unfold cutBA
        rw [if_neg (by omega)]
        simp [add_at]
      · rw [List.length_drop] at hj
        rw [List.getElem_drop, Nat.add_assoc]
        exact hc (n + j) (by omega)
theorem cutBA_own (a : Option Addr) (cap n x y z t : Nat) : Value.ownBlock (.slice (cutBA a cap n) x y) = Value.ownBlock (.slice a z t) := by
  unfold cutBA
  split
  · cases a <;> rfl
  · cases a with
    | none => rfl
    | some p => simp only [Option.map_some, Value.ownBlock]; congr 1; unfold Addr.add; split <;> rfl
theorem Arg.upd {S : Nat → Prop} {w w' : World} {a : Option Addr} {len cap : Nat} {l : List Int} (h : Arg w a len cap l) (u : Upd S w w') (hS : ∀ k, Value.ownBlock (.slice a len cap) = some k → ¬ S k) : Arg w' a len cap l := by
  obtain ⟨h1, h2, h3, h4⟩ := h
  refine ⟨h1, h2, h3, ?_⟩
  rcases h4 with h4 | ⟨b, off, rfl, hlt, hc⟩
  · exact .inl h4
  · refine .inr ⟨b, off, rfl, Nat.lt_of_lt_of_le hlt u.size, fun j hj => ?_⟩
    rw [World.cell?_of_block (a := ⟨b, off + j, none⟩) (u.block b hlt (hS b rfl))]; exact hc j hj

/-- Block rb is a reader of these bytes. -/
def Rdr (w : World) (rb : Nat) (l : List Int) : Prop := ∃ a cap, Blk w rb 85 [.slice a l.length cap] ∧ Arg w a l.length cap l ∧ l.length ≤ cap ∧ ∀ k, Value.ownBlock (.slice a l.length cap) = some k → k + 3 < rb
def At (rb : Nat) : Nat → Prop := fun k => k = rb
theorem Rdr.below {w w' : World} {rb : Nat} {l : List Int} (h : Rdr w rb l) (hb : Below w.heap.size w w') : Rdr w' rb l := by
  obtain ⟨a, cap, h1, h2, h3, h4⟩ := h
  exact ⟨a, cap, h1.upd (S := Non) (Upd.ofBelow hb) (fun hh => hh), h2.below hb, h3, h4⟩
/-- An ending by a panic with an error. -/
abbrev pnk (c : Int) : Ending := .panicked [{ v := .iface 25 (.int .i64 c), recovered := false }]

set_option maxRecDepth 100000 in
set_option maxHeartbeats 1000000 in
theorem must_yes (w : World) : Calls Try.prog 73 #[.bool true] w fun e w' => e = .returned (.tuple #[]) ∧ w' = w := by
  go_enter Try.func73, Try.ntmps73
  go_wp2
  go_end0
  exact ⟨rfl, rfl⟩
set_option maxRecDepth 100000 in
set_option maxHeartbeats 1000000 in
theorem must_no (w : World) : Calls Try.prog 73 #[.bool false] w fun e w' => e = pnk 3 ∧ w' = w := by
  go_enter Try.func73, Try.ntmps73
  go_wp2
  exact ⟨rfl, rfl, rfl⟩
set_option maxRecDepth 100000 in
set_option maxHeartbeats 1000000 in
theorem take_no {w : World} {rb : Nat} {l : List Int} (h : Rdr w rb l) (n : Nat) (hn : l.length < n) :
    Calls Try.prog 72 #[ptr rb, .int .i64 n] w fun e w' => e = pnk 4 ∧ w' = w := by
  obtain ⟨a, cap, hB, hA, hcap, hlt⟩ := h
  have c0 := hB.cell1 0 _ rfl
  have hn' : (l.length : Int) < (n : Int) := by omega
  go_enter Try.func72, Try.ntmps72
  go_wp2
  exact ⟨rfl, rfl, rfl⟩
set_option maxRecDepth 100000 in
set_option maxHeartbeats 1000000 in
theorem take_yes {w : World} {rb : Nat} {l : List Int} (h : Rdr w rb l) (n : Nat) (hn : n ≤ l.length) :
    Calls Try.prog 72 #[ptr rb, .int .i64 n] w fun e w' => ∃ a cap, e = .returned (.slice a n cap) ∧ Arg w' a n cap (l.take n) ∧ n ≤ cap ∧ Rdr w' rb (l.drop n) ∧ Upd (At rb) w w' := by
  obtain ⟨a, cap, hB, hA, hcap, hlt⟩ := h
  have c0 := hB.cell1 0 _ rfl
  have f0 := hB.frozen 0
  have hn' : (n : Int) ≤ (l.length : Int) := by omega
  have h1 := bcut_lo a l.length cap n hn
  have h2 := bcut_hi a l.length cap n (by omega)
  go_enter Try.func72, Try.ntmps72
  go_wp2
  go_ret
  have U : Upd (At rb) w (w.setCell ⟨rb, 0, none⟩ (.slice (cutBA a cap n) (l.length - n) (cap - n))) := Upd.setCell (p := ⟨rb, 0, none⟩) (Upd.refl (At rb) w) (fun _ => rfl) _
  have hS : ∀ k, Value.ownBlock (.slice a l.length cap) = some k → ¬ At rb k := fun k hk e => by have := hlt k hk; unfold At at e; omega
  refine ⟨a, cap, rfl, (hA.take n hn).upd U (fun k hk => hS k (by cases a <;> exact hk)), by omega, ⟨cutBA a cap n, cap - n, ?_, ?_, by rw [List.length_drop]; omega, ?_⟩, U⟩
  · rw [List.length_drop]; exact hB.set 0 _
  · rw [List.length_drop]; exact (hA.drop n hn hcap).upd U (fun k hk => hS k (by rw [cutBA_own _ _ _ _ _ l.length cap] at hk; exact hk))
  · intro k hk
    rw [cutBA_own _ _ _ _ _ l.length cap] at hk
    exact hlt k hk
end Go.Proofs.Ytkpijoogaicodaa
