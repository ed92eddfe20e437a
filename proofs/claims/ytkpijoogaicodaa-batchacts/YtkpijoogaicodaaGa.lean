import Derived.Test.YtkpijoogaicodaaFb
import Derived.Test.YtkpijoogaicodaaBl
namespace Go.Proofs.Ytkpijoogaicodaa
open Go.RowKit
set_option linter.unusedVariables false
set_option linter.unusedSimpArgs false

set_option maxRecDepth 100000 in
set_option maxHeartbeats 400000 in
theorem delete_any {w : World} {b : Nat} {rv mv : Value} {rs : List Rec} {ms : List Nat} (h : Bt w b rv mv rs ms) (hg : Good rs) (f : Int) (key : ByteArray) (f0 : 0 ≤ f) (f1 : f < 4294967296) :
    Calls Try.prog 65 #[ptr b, .int .u32 f, .string key] w (AddPost w b rv mv rs ms ⟨f, 0, key, ⟨#[]⟩⟩) := by
  have HA := add_any h hg ⟨f, 0, key, ⟨#[]⟩⟩ f0 f1
  dsimp only at HA
  go_enter Try.func65, Try.ntmps65
  go_wp2_with (go_at_call 19; refine HA.mono ?_; rintro e w' ⟨rv', rfl, h1, h2, h3⟩)
  go_ret
  exact ⟨rv', rfl, h1, h2, h3⟩
set_option maxRecDepth 100000 in
set_option maxHeartbeats 400000 in
theorem deleteRange_any {w : World} {b : Nat} {rv mv : Value} {rs : List Rec} {ms : List Nat} (h : Bt w b rv mv rs ms) (hg : Good rs) (f : Int) (key val : ByteArray) (f0 : 0 ≤ f) (f1 : f < 4294967296) :
    Calls Try.prog 66 #[ptr b, .int .u32 f, .string key, .string val] w (AddPost w b rv mv rs ms ⟨f, 2, key, val⟩) := by
  have HA := add_any h hg ⟨f, 2, key, val⟩ f0 f1
  dsimp only at HA
  go_enter Try.func66, Try.ntmps66
  go_wp2_with (go_at_call 19; refine HA.mono ?_; rintro e w' ⟨rv', rfl, h1, h2, h3⟩)
  go_ret
  exact ⟨rv', rfl, h1, h2, h3⟩
set_option maxRecDepth 100000 in
set_option maxHeartbeats 400000 in
theorem len_any {w : World} {b : Nat} {rv mv : Value} {rs : List Rec} {ms : List Nat} (h : Bt w b rv mv rs ms) :
    Calls Try.prog 52 #[ptr b] w fun e w' => e = .returned (.int .i64 rs.length) ∧ w' = w := by
  obtain ⟨a, c, rfl⟩ := row_len h.row
  have c0 := h.blk.cell1 0 _ rfl
  go_enter Try.func52, Try.ntmps52
  go_wp2
  go_ret
  exact ⟨rfl, rfl⟩
set_option maxRecDepth 100000 in
set_option maxHeartbeats 400000 in
theorem clear_any {w : World} {b : Nat} {rv mv : Value} {rs : List Rec} {ms : List Nat} (h : Bt w b rv mv rs ms) :
    Calls Try.prog 46 #[ptr b] w fun e w' => (∃ v, e = .returned v) ∧ Bt w' b nilv nilv [] [] ∧ Upd (fun k => k = b) w w' := by
  have c0 := h.blk.cell1 0 _ rfl
  have c1 := h.blk.cell1 1 _ rfl
  have c2 := h.blk.cell1 2 _ rfl
  have f0 := h.blk.frozen 0
  have f1 := h.blk.frozen 1
  have f2 := h.blk.frozen 2
  go_enter Try.func46, Try.ntmps46
  go_wp2
  go_end0
  refine ⟨⟨_, rfl⟩, ⟨((h.blk.set 0 _).set 1 _).set 2 _, World.ownsRow_nil _ _ _ _, World.ownsRow_nil _ _ _ _⟩, ?_⟩
  exact Upd.setCell (p := ⟨b, 2, none⟩) (Upd.setCell (p := ⟨b, 1, none⟩) (Upd.setCell (p := ⟨b, 0, none⟩) (Upd.refl (fun k => k = b) w) (fun _ => rfl) _) (fun _ => rfl) _) (fun _ => rfl) _
/-- The reference's Batch. -/
structure Qt (w : World) (q : Nat) (rv mv : Value) (rs : List Rec) (ms : List Nat) : Prop where
  blk : Blk w q 46 [rv, mv]
  row : RdR w rv rs
  marks : w.ownsRow 0 3 1 mv ms.length (imc ms)
  ne : rv.ownBlock ≠ some q
  cap : ∀ a n c, rv = .slice a n c → n ≤ c
  lt : ∀ k, rv.ownBlock = some k → k < w.heap.size
theorem Qt.upd {S : Nat → Prop} {w w' : World} {b : Nat} {rv mv : Value} {rs : List Rec} {ms : List Nat} (h : Qt w b rv mv rs ms) (u : Upd S w w') (hb : ¬ S b) (h1 : ∀ k, rv.ownBlock = some k → ¬ S k) (h2 : ∀ k, mv.ownBlock = some k → ¬ S k) : Qt w' b rv mv rs ms :=
  ⟨h.blk.upd u hb, h.row.upd u h1, row_upd h.marks u h2, h.ne, h.cap, fun k hk => Nat.lt_of_lt_of_le (h.lt k hk) u.size⟩
theorem Qt.below {w w' : World} {b : Nat} {rv mv : Value} {rs : List Rec} {ms : List Nat} (h : Qt w b rv mv rs ms) (u : Below w.heap.size w w') : Qt w' b rv mv rs ms :=
  h.upd (S := Non) (Upd.ofBelow u) (fun hh => hh) (fun _ _ hh => hh) (fun _ _ hh => hh)
theorem Qt.new (w : World) : Qt (w.alloc (.cells #[.slice none 0 0, .slice none 0 0] 46)) w.heap.size (.slice none 0 0) (.slice none 0 0) [] [] :=
  ⟨Blk.new w 46 _, .inl ⟨_, _, rfl, rfl⟩, World.ownsRow_nil _ _ _ _, by simp [Value.ownBlock], fun a n c e => by cases e; exact Nat.le_refl _, fun k hk => by simp [Value.ownBlock] at hk⟩
set_option maxRecDepth 100000 in
set_option maxHeartbeats 400000 in
theorem qpop_none {w : World} {q : Nat} {rv mv : Value} {rs : List Rec} (h : Qt w q rv mv rs []) (all : Bool) :
    Calls Try.prog 48 #[ptr q, .bool all] w fun e w' => e = .returned (.int .i64 6) ∧ w' = w := by
  obtain ⟨a, c, rfl⟩ := row_len h.marks
  have c1 := h.blk.cell1 1 _ rfl
  go_enter Try.func48, Try.ntmps48
  go_wp2
  go_ret
  exact ⟨rfl, rfl⟩
end Go.Proofs.Ytkpijoogaicodaa
