/-
  counted, of bytes that were written: how many entries there are.
-/
import Derived.Test.YtbnllobofndckaaCd
namespace Go.Proofs.Ytbnllobofndckaa
open Go.RowKit
set_option linter.unusedVariables false
set_option linter.unusedSimpArgs false
theorem Ct.begin {w : World} {how : Int} {r : Nat} {l : List Ent} {a : Option Addr} {LB cap : Nat} {pv : Value} (hA : Arg w a LB cap (bt r l l.length)) (hcap : LB ≤ cap) :
    Ct w ((((w.alloc (.cells #[.int .i64 how, .slice a LB cap, pv, .int .i64 0] 76)).alloc (.cells #[.int .i64 0] 3)).alloc (.cells #[.int .i64 0] 24)).alloc (.cells #[.slice a LB cap, .slice none 0 0, .string ⟨#[]⟩, .int .u64 0, .int .i64 0, .slice none 0 0] 88)) how r l 0 (.slice a LB cap) pv a cap (.slice none 0 0) ⟨#[]⟩ 0 0 (.slice none 0 0) := by
  have hlen : (bt r l l.length).length = LB := hA.1
  subst hlen
  have B1 := Blk.new w 76 [.int .i64 how, .slice a (bt r l l.length).length cap, pv, .int .i64 0]
  have B2 := Blk.new (w.alloc (.cells #[.int .i64 how, .slice a (bt r l l.length).length cap, pv, .int .i64 0] 76)) 3 [.int .i64 0]
  have B3 := Blk.new ((w.alloc (.cells #[.int .i64 how, .slice a (bt r l l.length).length cap, pv, .int .i64 0] 76)).alloc (.cells #[.int .i64 0] 3)) 24 [.int .i64 0]
  have hb : Below w.heap.size w (((w.alloc (.cells #[.int .i64 how, .slice a (bt r l l.length).length cap, pv, .int .i64 0] 76)).alloc (.cells #[.int .i64 0] 3)).alloc (.cells #[.int .i64 0] 24)) := (((Below.refl _ _).alloc (Nat.le_refl _) _).alloc (by simp) _).alloc (by simp; omega) _
  have hA' := hA.below hb
  have hR := rst_new (bs := w.heap.size) hb.size hA' hcap (fun hne b o e => by
    rcases hA.2.2.2 with h | ⟨b2, o2, e2, hlt, _⟩
    · exact absurd h hne
    · rw [e] at e2; cases e2; exact hlt)
  refine ⟨by rw [rs_zero]; have h1 : kP l 0 = [] := rfl; rw [h1]; simpa using hR, ((B1.alloc _).alloc _).alloc _, (by simpa using (B2.alloc _).alloc _), (by simpa using B3.alloc _), fun p h0 => by omega, hb.alloc hb.size _⟩
theorem rdn_at {w : World} {a : Option Addr} {x : Nat} {t : List Nat} (h : RdN w a (x :: t)) : ∃ g o, a = some ⟨g, o, none⟩ ∧ g < w.heap.size ∧ w.cell? ⟨g, o, none⟩ = some (.int .u32 x) := by
  rcases h with h | ⟨g, o, rfl, h⟩
  · cases h
  · have := (h 0 x rfl).n
    rw [show o + 0 * 1 = o by omega] at this
    exact ⟨g, o, rfl, G.cell_lt this, this⟩
end Go.Proofs.Ytbnllobofndckaa
