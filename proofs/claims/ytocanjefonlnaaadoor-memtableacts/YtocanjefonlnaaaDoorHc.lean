import Derived.Test.YtocanjefonlnaaaDoorHb
namespace Go.Proofs.YtocanjefonlnaaaDoor
open Go.RowKit Go.Shelf
set_option linter.unusedVariables false
set_option linter.unusedSimpArgs false
theorem Below.grow0 {W W' : World} (h : Below W.heap.size W W') : W.grownBy W' none := ⟨h.os, h.tape, h.output, h.size, fun k hk _ => h.block k hk⟩
theorem abide_nil {β : Type} {B : Nat} {J : List β → World → Prop} (h : AbidesFrom B J) (W W' : World) (h0 : J [] W) (hb : Below W.heap.size W W') : J [] W' :=
  h [] W W' none h0 (Below.grow0 hb) (fun r e => by cases e)
/-- All goes through the entries from p on. W0: the world in which it is ranged over. -/
theorem all_stops (n : Nat) (hn : 1 ≤ n) (W0 : World) (B1 B2 T : Nat) (C : Tc) (L : List Nd) (U : ByteArray) (S K : Int) (p : Nat) (hc : Cut C.how L U S K p) (B : Nat → Prop) (hB : ∀ k, SkB T L k → B k)
    (hS : Sk W0 T C L (lnF L) (atq L)) (c1 : W0.cell? ⟨B1, 0, none⟩ = some (ptr T)) (c2 : Blk W0 B2 38 [.string U, .int .u64 S, .int .i64 K]) :
    SeqStopsK Fence.wide n Tryd.prog 52 #[.pointer (some ⟨B1, 0, none⟩), .pointer (some ⟨B2, 0, none⟩)] (fun x : Ent => #[ev x]) (Kq B)
      (fun ys => ys = (L.drop p).map (·.e)) (fun pre => ∃ k, k ≤ L.length - p ∧ pre = ((L.drop p).map (·.e)).take k) (L.length - p) W0 := fun l J Jx W hW hA _ hY h0 =>
  all1_in Fence.wide n trivial trivial rfl hn l B1 B2 T C L U S K p hc B hB (fun W hS => callsIn_wide.2 (from_any hS U S K p hc)) J Jx (fun W1 W2 h1 hb => abide_nil hA W1 W2 h1 hb) hY W (hS.below hW) (keepc hW c1) (c2.upd (S := Non) (Upd.ofBelow hW) (fun x => x)) h0
theorem bhd_le {how : Int} {L : List Nd} {U : ByteArray} {S K : Int} {p : Nat} (h : Cut how L U S K p) : bhd L p U S K ≤ L.length := by
  have := h.le
  unfold bhd
  split
  · next hk =>
    unfold isK at hk
    cases e : L[p]? with
    | none => rw [e] at hk; cases hk
    | some n => have := (List.getElem?_eq_some_iff.1 e).1; omega
  · exact this
/-- Back goes through the entries up to p, from the last one on. -/
theorem back_stops (n : Nat) (hn : 1 ≤ n) (W0 : World) (B1 B2 T : Nat) (C : Tc) (L : List Nd) (U : ByteArray) (S K : Int) (p : Nat) (hc : Cut C.how L U S K p) (B : Nat → Prop) (hB : ∀ k, SkB T L k → B k)
    (hS : Sk W0 T C L (lnF L) (atq L)) (c1 : W0.cell? ⟨B1, 0, none⟩ = some (ptr T)) (c2 : Blk W0 B2 38 [.string U, .int .u64 S, .int .i64 K]) :
    SeqStopsK Fence.wide n Tryd.prog 53 #[.pointer (some ⟨B1, 0, none⟩), .pointer (some ⟨B2, 0, none⟩)] (fun x : Ent => #[ev x]) (Kq B)
      (fun ys => ys = (L.take (bhd L p U S K)).reverse.map (·.e)) (fun pre => ∃ k, k ≤ bhd L p U S K ∧ pre = ((L.take (bhd L p U S K)).reverse.map (·.e)).take k) (bhd L p U S K) W0 := fun l J Jx W hW hA _ hY h0 =>
  turned1_in Fence.wide n trivial trivial rfl hn l B1 B2 T C L U S K (bhd L p U S K) (bhd_le hc) B hB (fun W hS => callsIn_wide.2 (upto_any hS U S K p hc)) J Jx (fun W1 W2 h1 hb => abide_nil hA W1 W2 h1 hb) hY W (hS.below hW) (keepc hW c1) (c2.upd (S := Non) (Upd.ofBelow hW) (fun x => x)) h0
/-- What All and Back hand back: the closure over two boxes. -/
def Made (g : Nat) (T : Nat) (U : ByteArray) (S K : Int) (w : World) (e : Ending) (w' : World) : Prop :=
  ∃ B1 B2, e = .returned (.func (.func g) #[] #[.pointer (some ⟨B1, 0, none⟩), .pointer (some ⟨B2, 0, none⟩)]) ∧ w'.cell? ⟨B1, 0, none⟩ = some (ptr T) ∧ Blk w' B2 38 [.string U, .int .u64 S, .int .i64 K] ∧ w.heap.size ≤ B1 ∧ w.heap.size ≤ B2 ∧ Below w.heap.size w w'
set_option maxRecDepth 100000 in
set_option maxHeartbeats 400000 in
theorem lall_made {w : World} (T : Nat) (U : ByteArray) (S K : Int) : Calls Tryd.prog 36 #[ptr T, .agg #[.string U, .int .u64 S, .int .i64 K]] w (Made 52 T U S K w) := by
  have HM : Hid (Made 52 T U S K w (.returned (.func (.func 52) #[] #[.pointer (some ⟨w.heap.size, 0, none⟩), .pointer (some ⟨w.heap.size + 1, 0, none⟩)])) ((w.alloc (.cells #[ptr T] 101)).alloc (.cells #[.string U, .int .u64 S, .int .i64 K] 38))) := by
    refine ⟨_, _, rfl, ((Blk.new w 101 [ptr T]).alloc _).cell1 0 _ rfl, ?_, Nat.le_refl _, by omega, ((Below.refl _ _).alloc (Nat.le_refl _) _).alloc (by simp) _⟩
    have := Blk.new (w.alloc (.cells #[ptr T] 101)) 38 [.string U, .int .u64 S, .int .i64 K]
    rw [World.size_alloc] at this
    exact this
  go_enter Tryd.func36, Tryd.ntmps36
  go_wp2_with fail
  go_ret
  exact HM.out
set_option maxRecDepth 100000 in
set_option maxHeartbeats 400000 in
theorem lturned_made {w : World} (T : Nat) (U : ByteArray) (S K : Int) : Calls Tryd.prog 37 #[ptr T, .agg #[.string U, .int .u64 S, .int .i64 K]] w (Made 53 T U S K w) := by
  have HM : Hid (Made 53 T U S K w (.returned (.func (.func 53) #[] #[.pointer (some ⟨w.heap.size, 0, none⟩), .pointer (some ⟨w.heap.size + 1, 0, none⟩)])) ((w.alloc (.cells #[ptr T] 101)).alloc (.cells #[.string U, .int .u64 S, .int .i64 K] 38))) := by
    refine ⟨_, _, rfl, ((Blk.new w 101 [ptr T]).alloc _).cell1 0 _ rfl, ?_, Nat.le_refl _, by omega, ((Below.refl _ _).alloc (Nat.le_refl _) _).alloc (by simp) _⟩
    have := Blk.new (w.alloc (.cells #[ptr T] 101)) 38 [.string U, .int .u64 S, .int .i64 K]
    rw [World.size_alloc] at this
    exact this
  go_enter Tryd.func37, Tryd.ntmps37
  go_wp2_with fail
  go_ret
  exact HM.out
theorem keepU3 {w w1 : World} (h : Below w.heap.size w w1) {b1 b2 b3 o1 o2 o3 : Nat} {v1 v2 v3 : Value}
    (hc : w.cell? ⟨b1, o1, none⟩ = some v1 ∧ w.cell? ⟨b2, o2, none⟩ = some v2 ∧ w.cell? ⟨b3, o3, none⟩ = some v3) :
    w1.cell? ⟨b1, o1, none⟩ = some v1 ∧ w1.cell? ⟨b2, o2, none⟩ = some v2 ∧ w1.cell? ⟨b3, o3, none⟩ = some v3 := ⟨keepc h hc.1, keepc h hc.2.1, keepc h hc.2.2⟩
set_option maxRecDepth 100000 in
set_option maxHeartbeats 400000 in
theorem all_made {w : World} {T : Nat} (hT : T < w.heap.size) (U : ByteArray) (S K : Int) : Calls Tryd.prog 15 #[ptr T, .agg #[.string U, .int .u64 S, .int .i64 K]] w (Made 52 T U S K w) := by
  have hb0 : Below w.heap.size w (w.alloc (.cells #[.string U, .int .u64 S, .int .i64 K] 38)) := (Below.refl _ _).alloc (Nat.le_refl _) _
  have B0 : Blk (w.alloc (.cells #[.string U, .int .u64 S, .int .i64 K] 38)) w.heap.size 38 [.string U, .int .u64 S, .int .i64 K] := Blk.new w 38 _
  go_enter Tryd.func15, Tryd.ntmps15
  go_upto_region 1 with fail
  obtain ⟨W0, hW0⟩ : ∃ W0, W0 = w.alloc (.cells #[.string U, .int .u64 S, .int .i64 K] 38) := ⟨_, rfl⟩
  rw [← hW0] at hb0 B0 ⊢
  clear hW0
  have c0 := B0.cell1 0 _ rfl
  have c1 := B0.cell1 1 _ rfl
  have c2 := B0.cell1 2 _ rfl
  have HB0 : Hid (Below w.heap.size w W0) := hb0
  clear hb0 B0
  go_region_held_law (fun w' => w'.cell? ⟨w.heap.size, 0, none⟩ = some (.string U) ∧ w'.cell? ⟨w.heap.size, 1, none⟩ = some (.int .u64 S) ∧ w'.cell? ⟨w.heap.size, 2, none⟩ = some (.int .i64 K))
    (first | (go_keep; done) | (refine keepU3 hb1 ?_ <;> assumption))
    ((go_at_call 36; refine (lall_made T U S K).mono ?_; rintro e w1 ⟨B1, B2, rfl, m1, m2, l1, l2, hb1⟩))
  go_wp2_with fail
  go_ret
  exact ⟨B1, B2, rfl, m1, m2, Nat.le_trans HB0.out.drew.size l1, Nat.le_trans HB0.out.drew.size l2, HB0.out.drew.trans (hb1.mono HB0.out.drew.size)⟩
set_option maxRecDepth 100000 in
set_option maxHeartbeats 400000 in
theorem back_made {w : World} {T : Nat} (hT : T < w.heap.size) (U : ByteArray) (S K : Int) : Calls Tryd.prog 16 #[ptr T, .agg #[.string U, .int .u64 S, .int .i64 K]] w (Made 53 T U S K w) := by
  have hb0 : Below w.heap.size w (w.alloc (.cells #[.string U, .int .u64 S, .int .i64 K] 38)) := (Below.refl _ _).alloc (Nat.le_refl _) _
  have B0 : Blk (w.alloc (.cells #[.string U, .int .u64 S, .int .i64 K] 38)) w.heap.size 38 [.string U, .int .u64 S, .int .i64 K] := Blk.new w 38 _
  go_enter Tryd.func16, Tryd.ntmps16
  go_upto_region 1 with fail
  obtain ⟨W0, hW0⟩ : ∃ W0, W0 = w.alloc (.cells #[.string U, .int .u64 S, .int .i64 K] 38) := ⟨_, rfl⟩
  rw [← hW0] at hb0 B0 ⊢
  clear hW0
  have c0 := B0.cell1 0 _ rfl
  have c1 := B0.cell1 1 _ rfl
  have c2 := B0.cell1 2 _ rfl
  have HB0 : Hid (Below w.heap.size w W0) := hb0
  clear hb0 B0
  go_region_held_law (fun w' => w'.cell? ⟨w.heap.size, 0, none⟩ = some (.string U) ∧ w'.cell? ⟨w.heap.size, 1, none⟩ = some (.int .u64 S) ∧ w'.cell? ⟨w.heap.size, 2, none⟩ = some (.int .i64 K))
    (first | (go_keep; done) | (refine keepU3 hb1 ?_ <;> assumption))
    ((go_at_call 37; refine (lturned_made T U S K).mono ?_; rintro e w1 ⟨B1, B2, rfl, m1, m2, l1, l2, hb1⟩))
  go_wp2_with fail
  go_ret
  exact ⟨B1, B2, rfl, m1, m2, Nat.le_trans HB0.out.drew.size l1, Nat.le_trans HB0.out.drew.size l2, HB0.out.drew.trans (hb1.mono HB0.out.drew.size)⟩
end Go.Proofs.YtocanjefonlnaaaDoor
