/-
  saidBy.
-/
import Derived.Test.YtkmpcheamdadcaaYi
namespace Go.Proofs.Ytkmpcheamdadcaa
open Go.RowKit
set_option linter.unusedVariables false
set_option linter.unusedSimpArgs false
/-- What an edit says of other things than tables. -/
abbrev saiA (p : Ed) : Array Value := #[.int .u32 p.fam, .bool p.ma, .bool p.dr, .string p.name, .int .i64 p.how, .bool p.hl, .bool p.hn, .bool p.hs, .int .u64 p.log, .int .u64 p.next, .int .u64 p.seq]
set_option maxRecDepth 100000 in
set_option maxHeartbeats 2000000 in
theorem said_ff (fam : Int) (dr : Bool) (name : ByteArray) (how : Int) (hn hs : Bool) (log next seq : Int) (ga : Option Addr) (G gc : Nat) (aa : Option Addr) (A ac : Nat) (w : World) :
    Calls Try.prog 39 #[.agg #[.int .u32 fam, .bool false, .bool dr, .string name, .int .i64 how, .bool false, .bool hn, .bool hs, .int .u64 log, .int .u64 next, .int .u64 seq, .slice ga G gc, .slice aa A ac]] w
      fun en w' => en = .returned (.agg #[.int .u32 fam, .bool false, .bool dr, .string ⟨#[]⟩, .int .i64 0, .bool false, .bool hn, .bool hs, .int .u64 0, .int .u64 (if hn then next else 0), .int .u64 (if hs then seq else 0)]) ∧ Below w.heap.size w w' := by
  cases hn <;> cases hs
  all_goals
    simp only [if_true, if_false, Bool.false_eq_true]
    go_enter Try.func39, Try.ntmps39
    go_wp2
    refine bodyPost_ret (v := .agg _) (by simp [results, Try.results39, go_sem]) rfl ⟨rfl, ?_⟩
    first
      | exact bstep (bstep (al1 _ _) (al1 _ _)) (al1 _ _)
      | exact (bstep (bstep (al1 _ _) (al1 _ _)) (al1 _ _)).drew
set_option maxRecDepth 100000 in
set_option maxHeartbeats 2000000 in
theorem said_ft (fam : Int) (dr : Bool) (name : ByteArray) (how : Int) (hn hs : Bool) (log next seq : Int) (ga : Option Addr) (G gc : Nat) (aa : Option Addr) (A ac : Nat) (w : World) :
    Calls Try.prog 39 #[.agg #[.int .u32 fam, .bool false, .bool dr, .string name, .int .i64 how, .bool true, .bool hn, .bool hs, .int .u64 log, .int .u64 next, .int .u64 seq, .slice ga G gc, .slice aa A ac]] w
      fun en w' => en = .returned (.agg #[.int .u32 fam, .bool false, .bool dr, .string ⟨#[]⟩, .int .i64 0, .bool true, .bool hn, .bool hs, .int .u64 log, .int .u64 (if hn then next else 0), .int .u64 (if hs then seq else 0)]) ∧ Below w.heap.size w w' := by
  cases hn <;> cases hs
  all_goals
    simp only [if_true, if_false, Bool.false_eq_true]
    go_enter Try.func39, Try.ntmps39
    go_wp2
    refine bodyPost_ret (v := .agg _) (by simp [results, Try.results39, go_sem]) rfl ⟨rfl, ?_⟩
    first
      | exact bstep (bstep (al1 _ _) (al1 _ _)) (al1 _ _)
      | exact (bstep (bstep (al1 _ _) (al1 _ _)) (al1 _ _)).drew
set_option maxRecDepth 100000 in
set_option maxHeartbeats 2000000 in
theorem said_tf (fam : Int) (dr : Bool) (name : ByteArray) (how : Int) (hn hs : Bool) (log next seq : Int) (ga : Option Addr) (G gc : Nat) (aa : Option Addr) (A ac : Nat) (w : World) :
    Calls Try.prog 39 #[.agg #[.int .u32 fam, .bool true, .bool dr, .string name, .int .i64 how, .bool false, .bool hn, .bool hs, .int .u64 log, .int .u64 next, .int .u64 seq, .slice ga G gc, .slice aa A ac]] w
      fun en w' => en = .returned (.agg #[.int .u32 fam, .bool true, .bool dr, .string name, .int .i64 how, .bool false, .bool hn, .bool hs, .int .u64 0, .int .u64 (if hn then next else 0), .int .u64 (if hs then seq else 0)]) ∧ Below w.heap.size w w' := by
  cases hn <;> cases hs
  all_goals
    simp only [if_true, if_false, Bool.false_eq_true]
    go_enter Try.func39, Try.ntmps39
    go_wp2
    go_region
    all_goals
      go_wp2
      refine bodyPost_ret (v := .agg _) (by simp [results, Try.results39, go_sem]) rfl ⟨rfl, ?_⟩
      first
        | exact bstep (bstep (al1 _ _) (al1 _ _)) (al1 _ _)
        | exact (bstep (bstep (al1 _ _) (al1 _ _)) (al1 _ _)).drew
set_option maxRecDepth 100000 in
set_option maxHeartbeats 2000000 in
theorem said_tt (fam : Int) (dr : Bool) (name : ByteArray) (how : Int) (hn hs : Bool) (log next seq : Int) (ga : Option Addr) (G gc : Nat) (aa : Option Addr) (A ac : Nat) (w : World) :
    Calls Try.prog 39 #[.agg #[.int .u32 fam, .bool true, .bool dr, .string name, .int .i64 how, .bool true, .bool hn, .bool hs, .int .u64 log, .int .u64 next, .int .u64 seq, .slice ga G gc, .slice aa A ac]] w
      fun en w' => en = .returned (.agg #[.int .u32 fam, .bool true, .bool dr, .string name, .int .i64 how, .bool true, .bool hn, .bool hs, .int .u64 log, .int .u64 (if hn then next else 0), .int .u64 (if hs then seq else 0)]) ∧ Below w.heap.size w w' := by
  cases hn <;> cases hs
  all_goals
    simp only [if_true, if_false, Bool.false_eq_true]
    go_enter Try.func39, Try.ntmps39
    go_wp2
    go_region
    all_goals
      go_wp2
      refine bodyPost_ret (v := .agg _) (by simp [results, Try.results39, go_sem]) rfl ⟨rfl, ?_⟩
      first
        | exact bstep (bstep (al1 _ _) (al1 _ _)) (al1 _ _)
        | exact (bstep (bstep (al1 _ _) (al1 _ _)) (al1 _ _)).drew
theorem said_any (P : En) (e : Ed) (w : World) : Calls Try.prog 39 #[.agg (edA P e)] w fun en w' => en = .returned (.agg (saiA (plainE e))) ∧ Below w.heap.size w w' := by
  obtain ⟨fam, ma, dr, name, how, hl, hn, hs, log, next, seq, gone, added⟩ := e
  obtain ⟨ga, gc, aa, ac⟩ := P
  cases ma <;> cases hl
  · exact said_ff fam dr name how hn hs log next seq ga gone.length gc aa added.length ac w
  · exact said_ft fam dr name how hn hs log next seq ga gone.length gc aa added.length ac w
  · exact said_tf fam dr name how hn hs log next seq ga gone.length gc aa added.length ac w
  · exact said_tt fam dr name how hn hs log next seq ga gone.length gc aa added.length ac w
end Go.Proofs.Ytkmpcheamdadcaa
