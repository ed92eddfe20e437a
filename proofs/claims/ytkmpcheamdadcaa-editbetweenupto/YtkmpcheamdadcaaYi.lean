/-
  The reference's Plain.
-/
import Derived.Test.YtkmpcheamdadcaaZc
namespace Go.Proofs.Ytkmpcheamdadcaa
open Go.RowKit
set_option linter.unusedVariables false
set_option linter.unusedSimpArgs false
/-- An edit without what plays no part. -/
def plainE (e : Ed) : Ed := { e with name := if e.ma then e.name else ⟨#[]⟩, how := if e.ma then e.how else 0, log := if e.hl then e.log else 0, next := if e.hn then e.next else 0, seq := if e.hs then e.seq else 0 }
set_option maxRecDepth 100000 in
set_option maxHeartbeats 2000000 in
theorem plain_tt (fam : Int) (dr : Bool) (name : ByteArray) (how : Int) (hn hs : Bool) (log next seq : Int) (ga : Option Addr) (G gc : Nat) (aa : Option Addr) (A ac : Nat) (w : World) :
    Calls Try.prog 42 #[.agg #[.int .u32 fam, .bool true, .bool dr, .string name, .int .i64 how, .bool true, .bool hn, .bool hs, .int .u64 log, .int .u64 next, .int .u64 seq, .slice ga G gc, .slice aa A ac]] w
      fun en w' => en = .returned (.agg #[.int .u32 fam, .bool true, .bool dr, .string name, .int .i64 how, .bool true, .bool hn, .bool hs, .int .u64 log, .int .u64 (if hn then next else 0), .int .u64 (if hs then seq else 0), .slice ga G gc, .slice aa A ac]) ∧ Below w.heap.size w w' := by
  cases hn <;> cases hs
  all_goals
    simp only [if_true, if_false, Bool.false_eq_true]
    go_enter Try.func42, Try.ntmps42
    go_wp2
    refine bodyPost_ret (v := .agg _) (by simp [results, Try.results42, go_sem]) rfl ⟨rfl, bstep (al1 _ _) (al1 _ _)⟩
set_option maxRecDepth 100000 in
set_option maxHeartbeats 2000000 in
theorem plain_tf (fam : Int) (dr : Bool) (name : ByteArray) (how : Int) (hn hs : Bool) (log next seq : Int) (ga : Option Addr) (G gc : Nat) (aa : Option Addr) (A ac : Nat) (w : World) :
    Calls Try.prog 42 #[.agg #[.int .u32 fam, .bool true, .bool dr, .string name, .int .i64 how, .bool false, .bool hn, .bool hs, .int .u64 log, .int .u64 next, .int .u64 seq, .slice ga G gc, .slice aa A ac]] w
      fun en w' => en = .returned (.agg #[.int .u32 fam, .bool true, .bool dr, .string name, .int .i64 how, .bool false, .bool hn, .bool hs, .int .u64 0, .int .u64 (if hn then next else 0), .int .u64 (if hs then seq else 0), .slice ga G gc, .slice aa A ac]) ∧ Below w.heap.size w w' := by
  cases hn <;> cases hs
  all_goals
    simp only [if_true, if_false, Bool.false_eq_true]
    go_enter Try.func42, Try.ntmps42
    go_wp2
    refine bodyPost_ret (v := .agg _) (by simp [results, Try.results42, go_sem]) rfl ⟨rfl, bstep (al1 _ _) (al1 _ _)⟩
set_option maxRecDepth 100000 in
set_option maxHeartbeats 2000000 in
theorem plain_ft (fam : Int) (dr : Bool) (name : ByteArray) (how : Int) (hn hs : Bool) (log next seq : Int) (ga : Option Addr) (G gc : Nat) (aa : Option Addr) (A ac : Nat) (w : World) :
    Calls Try.prog 42 #[.agg #[.int .u32 fam, .bool false, .bool dr, .string name, .int .i64 how, .bool true, .bool hn, .bool hs, .int .u64 log, .int .u64 next, .int .u64 seq, .slice ga G gc, .slice aa A ac]] w
      fun en w' => en = .returned (.agg #[.int .u32 fam, .bool false, .bool dr, .string ⟨#[]⟩, .int .i64 0, .bool true, .bool hn, .bool hs, .int .u64 log, .int .u64 (if hn then next else 0), .int .u64 (if hs then seq else 0), .slice ga G gc, .slice aa A ac]) ∧ Below w.heap.size w w' := by
  cases hn <;> cases hs
  all_goals
    simp only [if_true, if_false, Bool.false_eq_true]
    go_enter Try.func42, Try.ntmps42
    go_wp2
    refine bodyPost_ret (v := .agg _) (by simp [results, Try.results42, go_sem]) rfl ⟨rfl, bstep (al1 _ _) (al1 _ _)⟩
set_option maxRecDepth 100000 in
set_option maxHeartbeats 2000000 in
theorem plain_ff (fam : Int) (dr : Bool) (name : ByteArray) (how : Int) (hn hs : Bool) (log next seq : Int) (ga : Option Addr) (G gc : Nat) (aa : Option Addr) (A ac : Nat) (w : World) :
    Calls Try.prog 42 #[.agg #[.int .u32 fam, .bool false, .bool dr, .string name, .int .i64 how, .bool false, .bool hn, .bool hs, .int .u64 log, .int .u64 next, .int .u64 seq, .slice ga G gc, .slice aa A ac]] w
      fun en w' => en = .returned (.agg #[.int .u32 fam, .bool false, .bool dr, .string ⟨#[]⟩, .int .i64 0, .bool false, .bool hn, .bool hs, .int .u64 0, .int .u64 (if hn then next else 0), .int .u64 (if hs then seq else 0), .slice ga G gc, .slice aa A ac]) ∧ Below w.heap.size w w' := by
  cases hn <;> cases hs
  all_goals
    simp only [if_true, if_false, Bool.false_eq_true]
    go_enter Try.func42, Try.ntmps42
    go_wp2
    refine bodyPost_ret (v := .agg _) (by simp [results, Try.results42, go_sem]) rfl ⟨rfl, bstep (al1 _ _) (al1 _ _)⟩
theorem plain_any (P : En) (e : Ed) (w : World) : Calls Try.prog 42 #[.agg (edA P e)] w fun en w' => en = .returned (.agg (edA P (plainE e))) ∧ Below w.heap.size w w' := by
  obtain ⟨fam, ma, dr, name, how, hl, hn, hs, log, next, seq, gone, added⟩ := e
  obtain ⟨ga, gc, aa, ac⟩ := P
  cases ma <;> cases hl
  · exact plain_ff fam dr name how hn hs log next seq ga gone.length gc aa added.length ac w
  · exact plain_ft fam dr name how hn hs log next seq ga gone.length gc aa added.length ac w
  · exact plain_tf fam dr name how hn hs log next seq ga gone.length gc aa added.length ac w
  · exact plain_tt fam dr name how hn hs log next seq ga gone.length gc aa added.length ac w
end Go.Proofs.Ytkmpcheamdadcaa
