import Derived.Test.YtkpijoogaicodaaHe
namespace Go.Proofs.Ytkpijoogaicodaa
open Go.RowKit Go.Sort
set_option linter.unusedVariables false
set_option linter.unusedSimpArgs false
set_option maxRecDepth 100000 in
set_option maxHeartbeats 4000000 in
theorem order_any (blk off cap a b s n : Nat) (d : Array Int) (w : World) (h : Holds (Value.int .u32) w blk off d) (ha : a < d.size) (hb : b < d.size) (hsz : d.size < 2305843009213693952) (hs : w.cell? ⟨s, 0, none⟩ = some (.int .i64 n)) (hfz : w.frozen? ⟨s, 0, none⟩ = false) (hn : n < 100) :
    Calls Try.prog 101 #[.slice (some ⟨blk, off, none⟩) d.size cap, .int .i64 a, .int .i64 b, .pointer (some ⟨s, 0, none⟩)] w fun e w' =>
      e = .returned (.tuple #[.int .i64 (Sort.order2 ltInt d a b n).1, .int .i64 (Sort.order2 ltInt d a b n).2.1]) ∧ ∃ q, w' = if ltInt d[b]! d[a]! then (w.drewN q).setCell ⟨s, 0, none⟩ (.int .i64 ((n : Int) + 1)) else w.drewN q := by
  obtain ⟨N, hN⟩ : ∃ N, Hid (N = d.size) := ⟨_, rfl⟩
  obtain ⟨G, hG⟩ : ∃ G : Nat → Int, Hid (∀ t, G t = d[t]!) := ⟨fun t => d[t]!, fun _ => rfl⟩
  rw [← hN.out] at ha hb hsz ⊢
  have hc : ∀ t, t < N → w.cell? ⟨blk, off + t, none⟩ = some (.int .u32 (G t)) := fun t ht => by rw [hG.out]; exact (h t (hN.out ▸ ht)).1
  have hf : ∀ t, t < N → w.frozen? ⟨blk, off + t, none⟩ = false := fun t ht => (h t (hN.out ▸ ht)).2
  have hO : Sort.order2 ltInt d a b n = if ltInt (G b) (G a) then (b, a, n + 1) else (a, b, n) := by rw [hG.out, hG.out]; rfl
  rw [hO, ← hG.out, ← hG.out]
  clear hO h
  go_enter Try.func101, Try.ntmps101
  go_wp2
  go_quiet (first | (go_at_call 88; refine Calls.quiet_of_same (less_any _ _ _)))
  go_wp2
  all_goals
    go_ret2
    exact ⟨rfl, nq, rfl⟩
end Go.Proofs.Ytkpijoogaicodaa
