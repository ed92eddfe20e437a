import Derived.Test.YtkpijoogaicodaaGi
import Derived.Test.YtkpijoogaicodaaGn
import Derived.Test.YtkpijoogaicodaaGo
namespace Go.Proofs.Ytkpijoogaicodaa
open Go.RowKit
set_option linter.unusedVariables false
set_option linter.unusedSimpArgs false

set_option maxRecDepth 100000 in
set_option maxHeartbeats 600000 in
theorem does_none {w0 w : World} {b q : Nat} {rv mv rv2 mv2 : Value} {rs : List Rec} (h : Bq w0 w b q rv mv rv2 mv2 rs []) (all : Bool) (nm : Bool) (f kd : Int) (key val : ByteArray) (sv : Value) :
    Calls Try.prog 17 #[.agg #[ptr b, ptr q], actV (if all = true then 5 else 6) nm f kd key val sv] w (PairPost w0 w b q rv mv rs []) := by
  have lb := h.p.blk.lt
  have lq := h.r.blk.lt
  cases all with
  | true =>
    have V0 : Below w.heap.size w ((w.alloc (.cells #[ptr b, ptr q] 48)).alloc (.cells #[.int .i64 5, .bool nm, .int .u32 f, .int .i64 kd, .string key, .string val, sv] 51)).drew := (((Below.refl w.heap.size w).alloc (Nat.le_refl _) _).alloc (by simp) _).drew
    have S0 := h.step V0
    have B1 : Blk ((w.alloc (.cells #[ptr b, ptr q] 48)).alloc (.cells #[.int .i64 5, .bool nm, .int .u32 f, .int .i64 kd, .string key, .string val, sv] 51)).drew w.heap.size 48 [ptr b, ptr q] := ((Blk.new w 48 [ptr b, ptr q]).alloc _).drew
    show Calls Try.prog 17 #[.agg #[ptr b, ptr q], actV 5 nm f kd key val sv] w _
    go_enter Try.func17, Try.ntmps17
    go_wp2
    go_region_held_law (fun w' => w'.cell? ⟨w.heap.size, 0, none⟩ = some (ptr b) ∧ w'.cell? ⟨w.heap.size, 1, none⟩ = some (ptr q))
      (first
        | (go_keep; done)
        | exact ⟨B1.cell1 0 _ rfl, B1.cell1 1 _ rfl⟩)
      (first
        | (go_at_call 48; refine (qpop_none S0.r true).mono ?_; rintro e w2 ⟨rfl, rfl⟩)
        | (go_at_call 23; refine (back_none S0.p).mono ?_; rintro e w1 ⟨rfl, rfl⟩))
    go_wp2
    go_ret
    exact ⟨rv, mv, rv2, mv2, rfl, S0, Upd.ofBelow V0⟩
  | false =>
    have V0 : Below w.heap.size w ((w.alloc (.cells #[ptr b, ptr q] 48)).alloc (.cells #[.int .i64 6, .bool nm, .int .u32 f, .int .i64 kd, .string key, .string val, sv] 51)).drew := (((Below.refl w.heap.size w).alloc (Nat.le_refl _) _).alloc (by simp) _).drew
    have S0 := h.step V0
    have B1 : Blk ((w.alloc (.cells #[ptr b, ptr q] 48)).alloc (.cells #[.int .i64 6, .bool nm, .int .u32 f, .int .i64 kd, .string key, .string val, sv] 51)).drew w.heap.size 48 [ptr b, ptr q] := ((Blk.new w 48 [ptr b, ptr q]).alloc _).drew
    show Calls Try.prog 17 #[.agg #[ptr b, ptr q], actV 6 nm f kd key val sv] w _
    go_enter Try.func17, Try.ntmps17
    go_wp2
    go_region_held_law (fun w' => w'.cell? ⟨w.heap.size, 0, none⟩ = some (ptr b) ∧ w'.cell? ⟨w.heap.size, 1, none⟩ = some (ptr q))
      (first
        | (go_keep; done)
        | exact ⟨B1.cell1 0 _ rfl, B1.cell1 1 _ rfl⟩)
      (first
        | (go_at_call 48; refine (qpop_none S0.r false).mono ?_; rintro e w2 ⟨rfl, rfl⟩)
        | (go_at_call 49; refine (pop_none S0.p).mono ?_; rintro e w1 ⟨rfl, rfl⟩))
    go_wp2
    go_ret
    exact ⟨rv, mv, rv2, mv2, rfl, S0, Upd.ofBelow V0⟩
end Go.Proofs.Ytkpijoogaicodaa
namespace Go.Proofs.Ytkpijoogaicodaa
open Go.RowKit
set_option linter.unusedVariables false
set_option linter.unusedSimpArgs false
/-- What any act comes to: both tell the same again. -/
def DoesPost (w0 w : World) (b q : Nat) (rv mv : Value) (n : Nat) : Ending → World → Prop := fun e w' => ∃ rv' mv' rv2' mv2' rs' ms', e = .returned (.bool true) ∧ Bq w0 w' b q rv' mv' rv2' mv2' rs' ms' ∧ ms'.length ≤ n + 1 ∧ Upd (Sb b q rv mv) w w'
theorem PairPost.does {w0 w w' : World} {b q n : Nat} {rv mv : Value} {rs : List Rec} {ms : List Nat} {e : Ending} (h : PairPost w0 w b q rv mv rs ms e w') (hn : ms.length ≤ n + 1) : DoesPost w0 w b q rv mv n e w' := by
  obtain ⟨rv', mv', rv2', mv2', rfl, hb, hu⟩ := h
  exact ⟨rv', mv', rv2', mv2', rs, ms, rfl, hb, hn, hu⟩
theorem does_any {w0 w : World} {b q : Nat} {rv mv rv2 mv2 : Value} {rs : List Rec} {ms : List Nat} (h : Bq w0 w b q rv mv rv2 mv2 rs ms) (hm : ms.length ≤ 10000000000000) (ak : Int) (nm : Bool) (f kd : Int) (key val : ByteArray) (sv : Value) (f0 : 0 ≤ f) (f1 : f < 4294967296) (hv : (val.size : Int) ≤ 9223372036854775807)
    (l : List Rec) (hl : RdR w sv l) (hc : ∀ a n c, sv = .slice a n c → n ≤ c) (hF : Fam l) (hV : ∀ r ∈ l, (r.val.size : Int) ≤ 9223372036854775807) (hln : l.length ≤ 3000000000000) :
    Calls Try.prog 17 #[.agg #[ptr b, ptr q], actV ak nm f kd key val sv] w (DoesPost w0 w b q rv mv ms.length) := by
  by_cases h0 : ak = 0
  · subst h0
    exact (does_add h nm f kd key val sv f0 f1 hv).mono fun e w' hp => hp.does (by omega)
  by_cases h1 : ak = 1
  · subst h1
    exact (does_many h nm f kd key val sv l hl hc hF hV hln).mono fun e w' hp => hp.does (by omega)
  by_cases h2 : ak = 2
  · subst h2
    exact (does_self h nm f kd key val sv).mono fun e w' hp => hp.does (by omega)
  by_cases h3 : ak = 3
  · subst h3
    exact (does_clear h nm f kd key val sv).mono fun e w' hp => hp.does (by simp)
  by_cases h4 : ak = 4
  · subst h4
    exact (does_save h hm nm f kd key val sv).mono fun e w' hp => hp.does (by simp)
  by_cases h5 : ak = 5
  · subst h5
    rcases List.eq_nil_or_concat ms with rfl | ⟨ms', m, rfl⟩
    · exact (does_none h true nm f kd key val sv).mono fun e w' hp => hp.does (by simp)
    · rw [List.concat_eq_append] at h ⊢
      exact (does_back h nm f kd key val sv).mono fun e w' hp => hp.does (by simp; omega)
  by_cases h6 : ak = 6
  · subst h6
    rcases List.eq_nil_or_concat ms with rfl | ⟨ms', m, rfl⟩
    · exact (does_none h false nm f kd key val sv).mono fun e w' hp => hp.does (by simp)
    · rw [List.concat_eq_append] at h ⊢
      exact (does_drop h nm f kd key val sv).mono fun e w' hp => hp.does (by simp; omega)
  exact (does_other h ak (by omega) nm f kd key val sv).mono fun e w' hp => hp.does (by omega)
end Go.Proofs.Ytkpijoogaicodaa
