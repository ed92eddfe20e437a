/-
  All as a value; Seek.
  Goes: what All tells, twice, held against entries.
  Get, at a key that is there.
-/
import Derived.Test.YtbnllobofndckaaZs
import Derived.RangeFuncLeaves
import Derived.Test.YtbnllobofndckaaSm
import Derived.Test.YtbnllobofndckaaRd
namespace Go.Proofs.Ytbnllobofndckaa
open Go.RowKit Go.Shelf
set_option linter.unusedVariables false
set_option linter.unusedSimpArgs false
attribute [local go_sem] Oper.semAt_some
/-- What All hands back: the closure over two boxes. -/
def Mde (xb : Nat) (K : Ent) (w : World) (e : Ending) (w' : World) : Prop :=
  ∃ B1 B2, e = .returned (.func (.func 51) #[] #[ptr B1, ptr B2]) ∧ w'.cell? ⟨B1, 0, none⟩ = some (ptr xb) ∧ Blk w' B2 33 [.string K.u, .int .u64 K.s, .int .i64 K.k] ∧ Below w.heap.size w w'
set_option maxRecDepth 100000 in
set_option maxHeartbeats 400000 in
theorem all_made {w : World} (xb : Nat) (K : Ent) : Calls Try.prog 24 #[ptr xb, .agg #[.string K.u, .int .u64 K.s, .int .i64 K.k]] w (Mde xb K w) := by
  have hmf : ∀ (fn : Fn) (first cap : Array Value) (w : World), (Instr.makeFunc fn first cap).run Try.prog w = .ok (.func fn first cap) w := fun _ _ _ _ => rfl
  have HM : Hid (Mde xb K w (.returned (.func (.func 51) #[] #[ptr w.heap.size, ptr (w.heap.size + 1)])) ((w.alloc (.cells #[ptr xb] 38)).alloc (.cells #[.string K.u, .int .u64 K.s, .int .i64 K.k] 33))) := by
    refine ⟨_, _, rfl, ((Blk.new w 38 [ptr xb]).alloc _).cell1 0 _ rfl, ?_, ((Below.refl _ _).alloc (Nat.le_refl _) _).alloc (by simp) _⟩
    have := Blk.new (w.alloc (.cells #[ptr xb] 38)) 33 [.string K.u, .int .u64 K.s, .int .i64 K.k]
    rw [World.size_alloc] at this
    exact this
  go_enter Try.func24, Try.ntmps24
  go_wp2_with fail
  go_ret
  exact HM.out
/-- What bookkeeping does passes by. -/
theorem blk_own {W W' : World} {b : Nat} {t : TypeId} {cs : List Value} (h : Blk W b t cs) {row : Option Nat} (hg : W.grownBy W' row) (hr : ∀ r, row = some r → ∃ o : Obj, W.heap[r]? = some o ∧ o.isCells = false) : Blk W' b t cs := by
  have hb := h.lt
  unfold Blk at *
  rw [hg.block b hb (fun e => ?_)]
  · exact h
  · obtain ⟨o, ho, hc⟩ := hr b e.symm
    rw [h] at ho
    cases ho
    cases hc
theorem upd_own {B : Nat} {W W' : World} {row : Option Nat} (hg : W.grownBy W' row) (hr : ∀ r, row = some r → B ≤ r) : Upd (fun k => B ≤ k) W W' := (Upd.refl _ W).grown hg (fun k e _ => hr k e)
theorem upd_below {B n : Nat} (hn : B ≤ n) {W W' : World} (hb : Below n W W') : Upd (fun k => B ≤ k) W W' :=
  ⟨hb.os, hb.tape, hb.output, hb.size, fun k hk hs => hb.block k (by omega)⟩
/-- What Seek finds. -/
def skE (how : Int) (l : List Ent) (K : Ent) : Ent := match l[ahd how l K]? with
  | some x => x
  | none => ⟨⟨#[]⟩, 0, 0, ⟨#[]⟩⟩
def skB (how : Int) (l : List Ent) (K : Ent) : Bool := decide (ahd how l K < l.length)
/-- Seek's boxes. -/
structure Sb (w W : World) (x : Ent) (b : Bool) : Prop where
  r : Blk W (w.heap.size + 1) 48 x.c
  t : Blk W (w.heap.size + 1 + 1) 4 [.bool b]
  bel : Below w.heap.size w W
theorem Sb.upd {w W W' : World} {x : Ent} {b : Bool} (h : Sb w W x b) {B : Nat} (hB : w.heap.size + 1 + 1 < B) (u : Upd (fun k => B ≤ k) W W') : Sb w W' x b :=
  ⟨h.r.upd u (by omega), h.t.upd u (by omega), h.bel.trans (u.below (fun k hk => Nat.lt_of_lt_of_le hk h.bel.size) (fun k hk => by omega))⟩
theorem Sb.below {w W W' : World} {x : Ent} {b : Bool} (h : Sb w W x b) (hb : Below W.heap.size W W') : Sb w W' x b :=
  ⟨h.r.upd (S := Non) (Upd.ofBelow hb) id, h.t.upd (S := Non) (Upd.ofBelow hb) id, h.bel.trans (hb.mono h.bel.size)⟩
/-- The result is written. -/
theorem Sb.put {w W : World} {y : Ent} {c : Bool} (h : Sb w W y c) (x : Ent) (b : Bool) : Sb w (((((W.setCell ⟨w.heap.size + 1, 0, none⟩ (.string x.u)).setCell ⟨w.heap.size + 1, 1, none⟩ (.int .u64 x.s)).setCell ⟨w.heap.size + 1, 2, none⟩ (.int .i64 x.k)).setCell ⟨w.heap.size + 1, 3, none⟩ (.string x.v)).setCell ⟨w.heap.size + 1 + 1, 0, none⟩ (.bool b)) x b := by
  refine ⟨Blk.other (((((h.r.set 0 (.string x.u)).set 1 (.int .u64 x.s)).set 2 (.int .i64 x.k)).set 3 (.string x.v))) (by show w.heap.size + 1 ≠ w.heap.size + 1 + 1; omega) _, Blk.set (cs := [.bool c]) (((((h.t.other (a := ⟨w.heap.size + 1, 0, none⟩) (by show w.heap.size + 1 + 1 ≠ w.heap.size + 1; omega) (.string x.u)).other (a := ⟨w.heap.size + 1, 1, none⟩) (by show w.heap.size + 1 + 1 ≠ w.heap.size + 1; omega) (.int .u64 x.s)).other (a := ⟨w.heap.size + 1, 2, none⟩) (by show w.heap.size + 1 + 1 ≠ w.heap.size + 1; omega) (.int .i64 x.k)).other (a := ⟨w.heap.size + 1, 3, none⟩) (by show w.heap.size + 1 + 1 ≠ w.heap.size + 1; omega) (.string x.v))) 0 (.bool b), ?_⟩
  exact ((((h.bel.setCell (p := ⟨w.heap.size + 1, 0, none⟩) (by show w.heap.size ≤ w.heap.size + 1; omega) _).setCell (p := ⟨w.heap.size + 1, 1, none⟩) (by show w.heap.size ≤ w.heap.size + 1; omega) _).setCell (p := ⟨w.heap.size + 1, 2, none⟩) (by show w.heap.size ≤ w.heap.size + 1; omega) _).setCell (p := ⟨w.heap.size + 1, 3, none⟩) (by show w.heap.size ≤ w.heap.size + 1; omega) _).setCell (p := ⟨w.heap.size + 1 + 1, 0, none⟩) (by show w.heap.size ≤ w.heap.size + 1 + 1; omega) _
abbrev noE : Ent := ⟨⟨#[]⟩, 0, 0, ⟨#[]⟩⟩
theorem keep5 (W : World) (a1 a2 a3 a4 a5 : Addr) (v1 v2 v3 v4 v5 : Value) : KeepsOthers W (((((W.setCell a1 v1).setCell a2 v2).setCell a3 v3).setCell a4 v4).setCell a5 v5) :=
  ((((KeepsOthers.setCell _ _ _).trans (KeepsOthers.setCell _ _ _)).trans (KeepsOthers.setCell _ _ _)).trans (KeepsOthers.setCell _ _ _)).trans (KeepsOthers.setCell _ _ _)
theorem seek_end {w W9 : World} {x : Ent} {b : Bool} (h : Sb w W9 x b) {Dd : Nat} (hK : W9.heap[Dd]? = some (.deferred (some []))) (hD : w.heap.size + 1 + 1 < Dd) (T : Array Value) (h4 : T[4]? = some (ptr (w.heap.size + 1))) (h5 : T[5]? = some (ptr (w.heap.size + 1 + 1))) {R : Ending → World → Prop}
    (hR : ∀ w', Below w.heap.size w w' → R (.returned (.tuple #[ev x, .bool b])) w') : bodyPostM Fence.wide 5 Try.prog Try.f20 R .ret { tmps := T, defers := [{ target := .collected Dd, args := #[] }] } W9 := by
  refine ⟨by simp, .inl ⟨_, _, rfl, run_takeDeferred hK, ?_⟩⟩
  have hS := h.upd hD (upd_own (grownBy_putObj' W9 Dd (.deferred none)) (fun r e => by cases e; exact Nat.le_refl _))
  have c0 := hS.r.cell1 0 _ rfl
  have c1 := hS.r.cell1 1 _ rfl
  have c2 := hS.r.cell1 2 _ rfl
  have c3 := hS.r.cell1 3 _ rfl
  have t0 := hS.t.cell1 0 _ rfl
  refine ⟨.tuple #[ev x, .bool b], ?_, hR _ hS.bel⟩
  simp [results, Try.f20, go_sem, h4, h5, c0, c1, c2, c3, t0]
set_option maxRecDepth 100000 in
set_option maxHeartbeats 2000000 in
theorem seek_in {w : World} {xb : Nat} {how : Int} {r : Nat} {l : List Ent} {ba : Option Addr} {LB bcap : Nat} {pa : Option Addr} {PN pc N : Nat} (h : Bl w xb how r l ba LB bcap pa PN pc N) (hS : Srt how l) (hr : 1 ≤ r) (hP : PN ≤ 100000) (K : Ent) :
    CallsIn Fence.wide 5 Try.prog 20 #[ptr xb, .agg #[.string K.u, .int .u64 K.s, .int .i64 K.k]] w fun e w' => e = .returned (.tuple #[ev (skE how l K), .bool (skB how l K)]) ∧ Below w.heap.size w w' := by
  have h24 : Fence.wide.fn 24 := trivial
  have HA : Hid (∀ W, CallsIn Fence.wide 4 Try.prog 24 #[ptr xb, .agg #[.string K.u, .int .u64 K.s, .int .i64 K.k]] W (Mde xb K W)) := fun W => callsIn_wide.2 (all_made xb K)
  have HBl : Hid (Bl w xb how r l ba LB bcap pa PN pc N ∧ Srt how l ∧ 1 ≤ r ∧ PN ≤ 100000) := ⟨h, hS, hr, hP⟩
  have S0 : Sb w (((w.alloc (.cells #[.string K.u, .int .u64 K.s, .int .i64 K.k] 33)).alloc (.cells #[.string ⟨#[]⟩, .int .u64 0, .int .i64 0, .string ⟨#[]⟩] 48)).alloc (.cells #[.bool false] 4)) noE false := by
    have b1 := Blk.new (w.alloc (.cells #[.string K.u, .int .u64 K.s, .int .i64 K.k] 33)) 48 noE.c
    have b2 := Blk.new ((w.alloc (.cells #[.string K.u, .int .u64 K.s, .int .i64 K.k] 33)).alloc (.cells #[.string ⟨#[]⟩, .int .u64 0, .int .i64 0, .string ⟨#[]⟩] 48)) 4 [.bool false]
    rw [World.size_alloc] at b1
    rw [World.size_alloc, World.size_alloc] at b2
    exact ⟨b1.alloc _, b2, (((Below.refl _ _).alloc (Nat.le_refl _) _).alloc (by simp) _).alloc (by simp; omega) _⟩
  have HS0 : Hid _ := S0
  clear h hS hr hP S0
  refine callsIn_of_wp_marks Try.func20 rfl trivial ?_ rfl
  simp only [Try.ntmps20, List.size_toArray, List.length_cons, List.length_nil, Nat.reduceAdd, Nat.reduceSub, Array.replicate_succ, Array.replicate_zero, List.push_toArray, List.append_toArray, List.nil_append, List.cons_append]
  gi_wp2_with (gi_at_call 24; refine (HA.out _).mono ?_; rintro e W0 ⟨B1, B2, rfl, m1, m2, hb0⟩)
  have S1 := HS0.out.below hb0
  have hz := S1.t.lt
  have hbw : Below w.heap.size w W0 := S1.bel
  have HSq := all_seq 4 (by omega) (HBl.out.1.below hbw) HBl.out.2.1 HBl.out.2.2.1 HBl.out.2.2.2 K m1 m2
  clear hb0 HS0
  refine wpIn_range_Z (L := l.drop (ahd how l K)) (w0 := W0) rfl (by omega) (gf := 51) (lb := #[ptr B1, ptr B2]) rfl trivial (enters_of Try.func51 (by kernel_rfl) rfl) HSq (Below.refl _ _) (fun _ => rfl)
    (fun pre W => pre = [] ∧ Sb w W noE false)
    (fun cd pre W => cd = .ret ∧ ∃ x, pre = [x] ∧ Sb w W x true)
    (fun s A B row hs hg hr => ⟨hs.1, hs.2.upd hz (upd_own hg (fun r e => (hr r e).1))⟩)
    (fun cd s A B row hs hg hr => by
      obtain ⟨h1, x, h2, h3⟩ := hs
      exact ⟨h1, x, h2, h3.upd hz (upd_own hg (fun r e => (hr r e).1))⟩)
    (fun s A B hs hb => ⟨hs.1, hs.2.upd hz (upd_below (by omega) hb)⟩)
    (fun cd s A B hs hb => by
      obtain ⟨h1, x, h2, h3⟩ := hs
      exact ⟨h1, x, h2, h3.upd hz (upd_below (by omega) hb)⟩)
    ⟨rfl, S1⟩
    (fun pre x a' W => pre = [] ∧ ∃ bx, a' = { tmps := #[ptr xb, Value.agg #[Value.string K.u, Value.int IntKind.u64 K.s, Value.int IntKind.i64 K.k], undef, Value.pointer (some ⟨w.heap.size, 0, none⟩), Value.pointer (some ⟨w.heap.size + 1, 0, none⟩), Value.pointer (some ⟨w.heap.size + 1 + 1, 0, none⟩), Value.pointer (some ⟨bx, 0, none⟩), ptr xb, Value.agg #[Value.string K.u, Value.int IntKind.u64 K.s, Value.int IntKind.i64 K.k], Value.func (Fn.func 51) #[] #[ptr B1, ptr B2], ev x, undef, undef], defers := [] } ∧ Sb w W noE false ∧ Blk W bx 48 x.c)
    (fun pre x a' s A B row hs hg hr => by
      obtain ⟨h1, bx, h2, h3, h4⟩ := hs
      exact ⟨h1, bx, h2, h3.upd hz (upd_own hg (fun r e => (hr r e).1)), blk_own h4 hg (fun r e => (hr r e).2)⟩)
    ?assign ?body ?done ?stop
  case assign =>
    rintro l' pre x W K' hpre ⟨rfl, hs⟩ hsz hK
    have HK : Hid _ := hK
    have HS : Hid (Sb w (W.alloc (.cells #[.string x.u, .int .u64 x.s, .int .i64 x.k, .string x.v] 48)) noE false ∧ Blk (W.alloc (.cells #[.string x.u, .int .u64 x.s, .int .i64 x.k, .string x.v] 48)) W.heap.size 48 x.c) := ⟨hs.below ((Below.refl _ _).alloc (Nat.le_refl _) _), Blk.new W 48 x.c⟩
    clear hK hs
    unfold ev
    gi_wp2
    exact HK.out _ _ ((KeepsOthers.alloc _ _).from _) ((Upd.refl _ _).alloc _) ⟨by first | rfl | trivial, W.heap.size, rfl, HS.out.1, HS.out.2⟩
  case body =>
    rintro l' pre x a' W hl hloop hpre ⟨rfl, bx, rfl, hs, hx⟩
    have x0 := hx.cell1 0 _ rfl
    have x1 := hx.cell1 1 _ rfl
    have x2 := hx.cell1 2 _ rfl
    have x3 := hx.cell1 3 _ rfl
    have g0 := hs.r.cell1 0 _ rfl
    have g1 := hs.r.cell1 1 _ rfl
    have g2 := hs.r.cell1 2 _ rfl
    have g3 := hs.r.cell1 3 _ rfl
    have f0 := hs.r.frozen 0
    have f1 := hs.r.frozen 1
    have f2 := hs.r.frozen 2
    have f3 := hs.r.frozen 3
    have t0 := hs.t.cell1 0 _ rfl
    have tf := hs.t.frozen 0
    have HP : Hid _ := hs.put x true
    clear hs hx hloop
    gi_wp2
    refine ⟨?_, rfl, x, rfl, HP.out⟩
    exact ((((KeepsOthers.setCell _ _ _).trans (KeepsOthers.setCell _ _ _)).trans (KeepsOthers.setCell _ _ _)).trans (KeepsOthers.setCell _ _ _)).trans (KeepsOthers.setCell _ _ _) |>.from _
  case done =>
    rintro Dd W hD ⟨hnil, hs⟩ hK
    have hlen : ¬ ahd how l K < l.length := fun hh => by
      have := congrArg List.length hnil
      rw [List.length_drop] at this
      simp at this
      omega
    have e1 : skE how l K = noE := by unfold skE; rw [List.getElem?_eq_none (by omega)]
    have e2 : skB how l K = false := decide_eq_false hlen
    have HE12 : Hid (skE how l K = noE ∧ skB how l K = false) := ⟨e1, e2⟩
    have g0 := hs.r.cell1 0 _ rfl
    have g1 := hs.r.cell1 1 _ rfl
    have g2 := hs.r.cell1 2 _ rfl
    have g3 := hs.r.cell1 3 _ rfl
    have f0 := hs.r.frozen 0
    have f1 := hs.r.frozen 1
    have f2 := hs.r.frozen 2
    have f3 := hs.r.frozen 3
    have t0 := hs.t.cell1 0 _ rfl
    have tf := hs.t.frozen 0
    have HP : Hid _ := hs.put noE false
    have HKK : Hid _ := hK
    clear hs hnil hlen e1 e2 hK
    gi_wp2
    refine seek_end HP.out ((keep5 W _ _ _ _ _ _ _ _ _ _).same Dd _ HKK.out rfl) (by omega) _ rfl rfl (fun w' hb => ?_)
    rw [HE12.out.1, HE12.out.2]
    exact ⟨rfl, hb⟩
  case stop =>
    rintro Dd cd pre W hD hpre hne ⟨rfl, x, rfl, hs⟩ hK
    have hx : l[ahd how l K]? = some x := by
      obtain ⟨t, ht⟩ := hpre
      have h1 : (l.drop (ahd how l K))[0]? = some x := by rw [← ht]; rfl
      rw [List.getElem?_drop] at h1
      simpa using h1
    have e1 : skE how l K = x := by unfold skE; rw [hx]
    have e2 : skB how l K = true := decide_eq_true (List.getElem?_eq_some_iff.1 hx).1
    have HE12 : Hid (skE how l K = x ∧ skB how l K = true) := ⟨e1, e2⟩
    have HS9 : Hid _ := hs
    have HKK : Hid _ := hK
    clear hs hK e1 e2 hx hpre hne
    gi_wp2
    refine seek_end HS9.out HKK.out (by omega) _ rfl rfl (fun w' hb => ?_)
    rw [HE12.out.1, HE12.out.2]
    exact ⟨rfl, hb⟩
/-- Seek. -/
theorem seek_any {w : World} {xb : Nat} {how : Int} {r : Nat} {l : List Ent} {ba : Option Addr} {LB bcap : Nat} {pa : Option Addr} {PN pc N : Nat} (h : Bl w xb how r l ba LB bcap pa PN pc N) (hS : Srt how l) (hr : 1 ≤ r) (hP : PN ≤ 100000) (K : Ent) :
    Calls Try.prog 20 #[ptr xb, .agg #[.string K.u, .int .u64 K.s, .int .i64 K.k]] w fun e w' => e = .returned (.tuple #[ev (skE how l K), .bool (skB how l K)]) ∧ Below w.heap.size w w' :=
  (callsIn_wide (n := 5)).1 (seek_in h hS hr hP K)
end Go.Proofs.Ytbnllobofndckaa
namespace Go.Proofs.Ytbnllobofndckaa
open Go.RowKit Go.Shelf
set_option linter.unusedVariables false
set_option linter.unusedSimpArgs false
attribute [local go_sem] Oper.semAt_some
def mrk (D : Nat) : Deferred := { target := .collected D, args := #[] }
/-- Marks are left behind, one by one. -/
theorem leaves_marks {F : Fence} {n : Nat} {P : Program} {fn : Func} {tmps : Array Value} {R : Ending → World → Prop} : ∀ (Ds : List Nat) (W : World), Ds.Nodup → (∀ D ∈ Ds, W.heap[D]? = some (.deferred (some []))) →
    (∀ W', W'.os = W.os → W'.tape = W.tape → W'.output = W.output → W'.heap.size = W.heap.size → (∀ k, k ∉ Ds → W'.heap[k]? = W.heap[k]?) → LeavesIn F n P fn tmps R [] .returning W') → LeavesInM F n P fn tmps R (Ds.map mrk) .returning W
  | [], W, _, _, h => h W rfl rfl rfl rfl (fun _ _ => rfl)
  | D :: Ds, W, hnd, hm, h => by
    refine ⟨by simp, .inl ⟨D, _, rfl, run_takeDeferred (hm D (by simp)), ?_⟩⟩
    have hlt : D < W.heap.size := (Array.getElem?_eq_some_iff.1 (hm D (by simp))).1
    obtain ⟨hn1, hn2⟩ := List.nodup_cons.1 hnd
    refine leaves_marks Ds _ hn2 (fun E hE => ?_) (fun W' h1 h2 h3 h4 h5 => h W' h1 h2 h3 (by rw [h4]; simp [World.putObj]) (fun k hk => ?_))
    · rw [World.putObj_heap_other (by rintro rfl; exact hn1 hE)]; exact hm E (by simp [hE])
    · rw [h5 k (fun h => hk (by simp [h])), World.putObj_heap_other (by rintro rfl; exact hk (by simp))]
/-- Goes' boxes, but for the counter. -/
structure Gr (w W : World) (a : Option Addr) (N c : Nat) (Ds : List Nat) : Prop where
  s0 : Blk W w.heap.size 22 [.slice a N c]
  s1 : Blk W (w.heap.size + 1) 3 [.int .i64 0]
  s2 : Blk W (w.heap.size + 1 + 1) 4 [.bool false]
  bel : Below w.heap.size w W
  ms : ∀ D ∈ Ds, W.heap[D]? = some (.deferred (some [])) ∧ w.heap.size + 1 + 1 < D
theorem Gr.upd {w W W' : World} {a : Option Addr} {N c : Nat} {Ds : List Nat} (h : Gr w W a N c Ds) {S : Nat → Prop} (u : Upd S W W') (hS : ∀ k, k ≤ w.heap.size + 1 + 1 → ¬ S k) (hD : ∀ D ∈ Ds, ¬ S D) : Gr w W' a N c Ds :=
  ⟨h.s0.upd u (hS _ (by omega)), h.s1.upd u (hS _ (by omega)), h.s2.upd u (hS _ (by omega)), h.bel.trans (u.below (fun k hk => Nat.lt_of_lt_of_le hk h.bel.size) (fun k hk => by
    rcases Nat.lt_or_ge k w.heap.size with h1 | h1
    · exact absurd hk (hS k (by omega))
    · exact h1)), fun D hm => ⟨(u.block D (Array.getElem?_eq_some_iff.1 (h.ms D hm).1).1 (hD D hm)).trans (h.ms D hm).1, (h.ms D hm).2⟩⟩
theorem Gr.below {w W W' : World} {a : Option Addr} {N c : Nat} {Ds : List Nat} (h : Gr w W a N c Ds) (hb : Below W.heap.size W W') : Gr w W' a N c Ds := h.upd (S := Non) (Upd.ofBelow hb) (fun _ _ => id) (fun _ _ => id)
theorem Gr.lt {w W : World} {a : Option Addr} {N c : Nat} {Ds : List Nat} (h : Gr w W a N c Ds) : w.heap.size + 1 + 1 < W.heap.size := h.s2.lt
set_option maxRecDepth 100000 in
set_option maxHeartbeats 2000000 in
theorem goes_in {w : World} {B1 B2 : Nat} (D : List Ent) (hseq : SeqZ Fence.wide 4 Try.prog 51 #[ptr B1, ptr B2] (fun x : Ent => #[ev x]) D w) {a : Option Addr} (hr : RdE w a D) (c : Nat) (hl : D.length ≤ 281474976710656) :
    CallsIn Fence.wide 5 Try.prog 23 #[.func (.func 51) #[] #[ptr B1, ptr B2], .slice a D.length c, .int .i64 0] w fun e w' => e = .returned (.bool true) ∧ Below w.heap.size w w' := by
  have hnf : ∀ W : World, (binOp .eql 56 (.func (.func 51) #[] #[ptr B1, ptr B2]) .nilFunc).run Try.prog W = .ok (.bool false) W := fun W => by kernel_rfl
  obtain ⟨N, hN⟩ : ∃ N, Hid (D.length = N) := ⟨_, rfl⟩
  have HR : Hid (RdE w a D) := hr
  rw [hN.out] at hl ⊢
  have G0 : Gr w (((w.alloc (.cells #[.slice a N c] 22)).alloc (.cells #[.int .i64 0] 3)).alloc (.cells #[.bool false] 4)) a N c [] := by
    have b0 := Blk.new w 22 [.slice a N c]
    have b1 := Blk.new (w.alloc (.cells #[.slice a N c] 22)) 3 [.int .i64 0]
    have b2 := Blk.new ((w.alloc (.cells #[.slice a N c] 22)).alloc (.cells #[.int .i64 0] 3)) 4 [.bool false]
    rw [World.size_alloc] at b1
    rw [World.size_alloc, World.size_alloc] at b2
    exact ⟨(b0.alloc _).alloc _, b1.alloc _, b2, (((Below.refl _ _).alloc (Nat.le_refl _) _).alloc (by simp) _).alloc (by simp; omega) _, by simp⟩
  clear hr
  refine callsIn_of_wp_marks Try.func23 rfl trivial ?_ rfl
  simp only [Try.ntmps23, List.size_toArray, List.length_cons, List.length_nil, Nat.reduceAdd, Nat.reduceSub, Array.replicate_succ, Array.replicate_zero, List.push_toArray, List.append_toArray, List.nil_append, List.cons_append]
  gi_wp2
  obtain ⟨W0, hW0⟩ : ∃ W0, ((w.alloc (Obj.cells #[Value.slice a N c] 22)).alloc (Obj.cells #[Value.int IntKind.i64 0] 3)).alloc (Obj.cells #[Value.bool false] 4) = W0 := ⟨_, rfl⟩
  rw [hW0] at G0 ⊢
  clear hW0
  refine wpIn_loop (fun a' W => ∃ (k : Nat) (Ds : List Nat) (u7 u8 u12 u13 u14 u15 u16 u35 u36 u37 u38 u39 u40 u41 u42 u43 u44 u45 u46 u47 : Value), (k ≤ 2 ∧ Ds.Nodup ∧ Gr w W a N c Ds ∧ u7 = .int .i64 k) ∧ a' = Act.mk #[Value.func (Fn.func 51) #[] #[ptr B1, ptr B2], Value.slice a N c, Value.int IntKind.i64 0, undef, Value.pointer (some ⟨w.heap.size, 0, none⟩), Value.pointer (some ⟨w.heap.size + 1, 0, none⟩), Value.pointer (some ⟨w.heap.size + 1 + 1, 0, none⟩), u7, u8, undef, Value.func (Fn.func 51) #[] #[ptr B1, ptr B2], Value.bool false, u12, u13, u14, u15, u16, undef, undef, undef, undef, undef, undef, undef, undef, undef, undef, undef, undef, undef, undef, undef, undef, undef, undef, u35, u36, u37, u38, u39, u40, u41, u42, u43, u44, u45, u46, u47] (Ds.map mrk))
    (fun a' _ => (2 - intOf (a'.tmps.getD 7 undef)).toNat) ?_ ?_
  · exact ⟨0, [], _, _, _, _, _, _, _, _, _, _, _, _, _, _, _, _, _, _, _, _, ⟨Nat.zero_le _, List.nodup_nil, G0, rfl⟩, rfl⟩
  · rintro _ W ⟨k, Ds, u7, u8, u12, u13, u14, u15, u16, u35, u36, u37, u38, u39, u40, u41, u42, u43, u44, u45, u46, u47, ⟨hk2, hnd, hG, rfl⟩, rfl⟩
    clear G0
    by_cases hlk : k < 2
    · have hkz : (k : Int) < 2 := by omega
      gi_wp2
      obtain ⟨W1, hW1⟩ : ∃ W1, W.alloc (Obj.cells #[Value.int IntKind.i64 0] 3) = W1 := ⟨_, rfl⟩
      have hbW : Below W.heap.size W W1 := by rw [← hW1]; exact (Below.refl _ _).alloc (Nat.le_refl _) _
      have hz1 : W1.heap.size = W.heap.size + 1 := by rw [← hW1]; simp
      have hC1 : Blk W1 W.heap.size 3 [.int .i64 (0 : Nat)] := by rw [← hW1]; exact Blk.new W 3 [.int .i64 0]
      have hG1 := hG.below hbW
      have hcb := hG.lt
      have hDs : ∀ E ∈ Ds, E < W.heap.size := fun E hE => (Array.getElem?_eq_some_iff.1 (hG.ms E hE).1).1
      rw [hW1]
      clear hW1 hG
      have HDs : Hid (∀ E ∈ Ds, E < W.heap.size) := hDs
      have hst : ∀ (p : List Ent) (A B : World), (Gr w A a N c Ds ∧ Blk A W.heap.size 3 [.int .i64 (p.length : Nat)]) → Upd (fun j => W1.heap.size ≤ j) A B → Gr w B a N c Ds ∧ Blk B W.heap.size 3 [.int .i64 (p.length : Nat)] := fun p A B h u =>
        ⟨h.1.upd u (fun j hj => by omega) (fun E hE => by have := hDs E hE; omega), h.2.upd u (by omega)⟩
      have HST : Hid _ := hst
      refine wpIn_range_Z (L := D) (w0 := w) rfl (by omega) (gf := 51) (lb := #[ptr B1, ptr B2]) rfl trivial (enters_of Try.func51 (by kernel_rfl) rfl) hseq hG1.bel (fun _ => rfl)
        (fun pre V => Gr w V a N c Ds ∧ Blk V W.heap.size 3 [.int .i64 (pre.length : Nat)])
        (fun _ _ _ => False)
        (fun s A B row hs hg hr => hst s A B hs (upd_own hg (fun r e => (hr r e).1)))
        (fun _ _ _ _ _ hs _ _ => hs)
        (fun s A B hs hb => hst s A B hs (upd_below (by omega) hb))
        (fun _ _ _ _ hs _ => hs)
        ⟨hG1, hC1⟩
        (fun pre x a' V => ∃ bx, a' = { tmps := #[Value.func (Fn.func 51) #[] #[ptr B1, ptr B2], Value.slice a N c, Value.int IntKind.i64 0, undef, Value.pointer (some ⟨w.heap.size, 0, none⟩), Value.pointer (some ⟨w.heap.size + 1, 0, none⟩), Value.pointer (some ⟨w.heap.size + 1 + 1, 0, none⟩), Value.int IntKind.i64 k, Value.pointer (some ⟨W.heap.size, 0, none⟩), Value.pointer (some ⟨bx, 0, none⟩), Value.func (Fn.func 51) #[] #[ptr B1, ptr B2], Value.bool false, Value.int IntKind.i64 k, Value.bool true, u14, u15, Value.func (Fn.func 51) #[] #[ptr B1, ptr B2], ev x, undef, undef, undef, undef, undef, undef, undef, undef, undef, undef, undef, undef, undef, undef, undef, undef, undef, u35, u36, u37, u38, u39, u40, u41, u42, u43, u44, u45, u46, u47], defers := [] } ∧ (Gr w V a N c Ds ∧ Blk V W.heap.size 3 [.int .i64 (pre.length : Nat)]) ∧ Blk V bx 48 x.c)
        (fun pre x a' s A B row hs hg hr => by
          obtain ⟨bx, h2, h3, h4⟩ := hs
          exact ⟨bx, h2, hst pre A B h3 (upd_own hg (fun r e => (hr r e).1)), blk_own h4 hg (fun r e => (hr r e).2)⟩)
        ?assign ?body ?done ?stop
      case assign =>
        rintro l' pre x V K' hpre hs hsz hK
        have HK : Hid _ := hK
        have hal : Below V.heap.size V (V.alloc (.cells #[.string x.u, .int .u64 x.s, .int .i64 x.k, .string x.v] 48)) := (Below.refl _ _).alloc (Nat.le_refl _) _
        have HS : Hid ((Gr w (V.alloc (.cells #[.string x.u, .int .u64 x.s, .int .i64 x.k, .string x.v] 48)) a N c Ds ∧ Blk (V.alloc (.cells #[.string x.u, .int .u64 x.s, .int .i64 x.k, .string x.v] 48)) W.heap.size 3 [.int .i64 (pre.length : Nat)]) ∧ Blk (V.alloc (.cells #[.string x.u, .int .u64 x.s, .int .i64 x.k, .string x.v] 48)) V.heap.size 48 x.c) := ⟨⟨hs.1.below hal, hs.2.alloc _⟩, Blk.new V 48 x.c⟩
        clear hK hs hst hDs hal
        unfold ev
        gi_wp2
        exact HK.out _ _ ((KeepsOthers.alloc _ _).from _) ((Upd.refl _ _).alloc _) ⟨V.heap.size, rfl, HS.out.1, HS.out.2⟩
      case body =>
        rintro l' pre x a' V hlV hloop hpre ⟨bx, rfl, ⟨hGV, hC⟩, hX⟩
        have hx : D[pre.length]? = some x := by
          obtain ⟨t, ht⟩ := hpre
          rw [← ht, List.append_assoc, List.getElem?_append_right (Nat.le_refl _), Nat.sub_self]; rfl
        have hlt := (List.getElem?_eq_some_iff.1 hx).1
        obtain ⟨b, off, rfl, hbl, hat⟩ := HR.out.get hGV.bel hx
        obtain ⟨y0, y1, y2, y3⟩ := hat pre.length x hx
        have e0 := hX.cell1 0 _ rfl
        have e1 := hX.cell1 1 _ rfl
        have e2 := hX.cell1 2 _ rfl
        have e3 := hX.cell1 3 _ rfl
        have g0 := hGV.s0.cell1 0 _ rfl
        have g1 := hGV.s1.cell1 0 _ rfl
        have g3 := hC.cell1 0 _ rfl
        have gf3 := hC.frozen 0
        have hne : ∀ W : World, (binOp .neq 48 (.agg #[.string x.u, .int .u64 x.s, .int .i64 x.k, .string x.v]) (.agg #[.string x.u, .int .u64 x.s, .int .i64 x.k, .string x.v])).run Try.prog W = .ok (.bool false) W := fun W => by
          have := eq_ent W x x; rw [decide_eq_true ⟨rfl, rfl, rfl, rfl⟩] at this; exact this
        have HV : Hid (Gr w V (some ⟨b, off, none⟩) N c Ds ∧ Blk V W.heap.size 3 [.int .i64 (pre.length : Nat)]) := ⟨hGV, hC⟩
        obtain ⟨m, hm⟩ : ∃ m, Hid (pre.length = m) := ⟨_, rfl⟩
        have HL2 : Hid ((pre ++ [x]).length = m + 1) := by show _ = _; rw [List.length_append, hm.out]; rfl
        rw [hm.out] at y0 y1 y2 y3 g3 HV hlt
        have hmN : m < N := by rw [← hN.out]; exact hlt
        have hltN : (m : Int) < (N : Int) := by omega
        have hmb : m ≤ 281474976710656 := by omega
        clear hGV hC hX hx hlt hat hloop hst hDs hpre hG1 hC1
        gi_wp2
        refine wpIn_region_quiet_round rfl (by kernel_rfl) (by kernel_rfl) (by kernel_rfl) ?_
        have hdec : ((N : Int) ≤ (m : Int)) = False := eq_false (by omega)
        have hdec2 : decide ((N : Int) ≤ (m : Int)) = false := decide_eq_false (by omega)
        repeat (gi_big_quiet_step (fail))
        refine wpQuietIn_nil ?_
        intro _ hw'
        obtain ⟨nq, hw''⟩ := hw'
        subst hw''
        have hbD : Below V.heap.size V (V.drewN nq) := ⟨rfl, rfl, rfl, Nat.le_refl _, fun _ _ => rfl⟩
        have g1' : (V.drewN nq).cell? ⟨w.heap.size + 1, 0, none⟩ = some (.int .i64 0) := g1
        have g3' : (V.drewN nq).cell? ⟨W.heap.size, 0, none⟩ = some (.int .i64 m) := g3
        have gf3' : (V.drewN nq).frozen? ⟨W.heap.size, 0, none⟩ = false := gf3
        have hsb : (((m : Int) + 1) == 0) = false := by simp; omega
        have HEnd : Hid (KeepsFrom W1.heap.size V ((V.drewN nq).setCell ⟨W.heap.size, 0, none⟩ (.int .i64 ((m : Int) + 1))) ∧ Kz w.heap.size (W1.heap.size + 1 + 1) V ((V.drewN nq).setCell ⟨W.heap.size, 0, none⟩ (.int .i64 ((m : Int) + 1))) ∧ Gr w ((V.drewN nq).setCell ⟨W.heap.size, 0, none⟩ (.int .i64 ((m : Int) + 1))) (some ⟨b, off, none⟩) N c Ds ∧ Blk ((V.drewN nq).setCell ⟨W.heap.size, 0, none⟩ (.int .i64 ((m : Int) + 1))) W.heap.size 3 [.int .i64 ((pre ++ [x]).length : Nat)]) := by
          have hdh : (V.drewN nq).heap = V.heap := rfl
          have hKD : KeepsOthers V (V.drewN nq) := ⟨by rw [hdh]; exact Nat.le_refl _, fun k o hk _ => by rw [hdh]; exact hk⟩
          have uS : ∀ S : Nat → Prop, S W.heap.size → Upd S V ((V.drewN nq).setCell ⟨W.heap.size, 0, none⟩ (.int .i64 ((m : Int) + 1))) := fun S hS => (Upd.ofBelow (S := S) hbD).setCell (p := ⟨W.heap.size, 0, none⟩) (fun _ => hS) _
          have q1 := HV.out.1.upd (uS (fun j => j = W.heap.size) rfl) (fun j hj e => by omega) (fun E hE e => by have := HDs.out E hE; omega)
          have q2 : Blk ((V.drewN nq).setCell ⟨W.heap.size, 0, none⟩ (.int .i64 ((m : Int) + 1))) W.heap.size 3 [.int .i64 ((pre ++ [x]).length : Nat)] := by
            have h9 : (((pre ++ [x]).length : Nat) : Int) = (m : Int) + 1 := by rw [HL2.out]; omega
            rw [h9]
            exact (HV.out.2.upd (S := Non) (Upd.ofBelow hbD) id).set 0 (.int .i64 ((m : Int) + 1))
          exact ⟨(hKD.trans (KeepsOthers.setCell _ _ _)).from _, uS _ ⟨by omega, by omega⟩, q1, q2⟩
        clear hbD
        gi_wp2
        exact HEnd.out
      case done =>
        rintro Dd V hD ⟨hGV, hC⟩ hK
        rw [hN.out] at hC
        have g0 := hGV.s0.cell1 0 _ rfl
        have g1 := hGV.s1.cell1 0 _ rfl
        have g3 := hC.cell1 0 _ rfl
        have HG9 : Hid (Gr w V a N c (Dd :: Ds)) := ⟨hGV.s0, hGV.s1, hGV.s2, hGV.bel, fun E hE => by
          rcases List.mem_cons.1 hE with h9 | h9
          · rw [h9]; exact ⟨hK, by omega⟩
          · exact hGV.ms E h9⟩
        have HND : Hid ((Dd :: Ds).Nodup) := List.nodup_cons.2 ⟨fun h9 => by have := hDs Dd h9; omega, hnd⟩
        clear hGV hC hK hst hDs hG1 hC1
        gi_wp2
        refine ⟨⟨k + 1, Dd :: Ds, _, _, _, _, _, _, _, _, _, _, _, _, _, _, _, _, _, _, _, _, ⟨by omega, HND.out, HG9.out, ?_⟩, rfl⟩, ?_⟩
        · go_num
        · simp [intOf]; omega
      case stop =>
        rintro Dd cd pre V _ _ _ hF _
        exact hF.elim
    · obtain rfl : k = 2 := by omega
      have t2 := hG.s2.cell1 0 _ rfl
      have f2 := hG.s2.frozen 0
      gi_wp2
      refine leaves_marks Ds _ hnd (fun E hE => (KeepsOthers.setCell W ⟨w.heap.size + 1 + 1, 0, none⟩ (.bool true)).same E _ (hG.ms E hE).1 rfl) (fun W' h1 h2 h3 h4 h5 => ?_)
      have hX2 : w.heap.size + 1 + 1 ∉ Ds := fun hh => by have := (hG.ms _ hh).2; omega
      have b2 : Blk W' (w.heap.size + 1 + 1) 4 [.bool true] := by
        have h6 := hG.s2.set 0 (.bool true)
        unfold Blk at *
        rw [h5 _ hX2]; exact h6
      have c9 := b2.cell1 0 _ rfl
      have hbS : Below w.heap.size w (W.setCell ⟨w.heap.size + 1 + 1, 0, none⟩ (.bool true)) := hG.bel.setCell (p := ⟨w.heap.size + 1 + 1, 0, none⟩) (by show w.heap.size ≤ w.heap.size + 1 + 1; omega) _
      refine ⟨.bool true, by simp [results, Try.f23, go_sem, c9], rfl, ⟨h1.trans hbS.os, h2.trans hbS.tape, h3.trans hbS.output, by rw [h4]; exact hbS.size, fun j hj => (h5 j (fun hh => by have := (hG.ms _ hh).2; omega)).trans (hbS.block j hj)⟩⟩
/-- Goes, where what is gone through is what the slice reads. -/
theorem goes_any {w : World} {B1 B2 : Nat} (D : List Ent) (hseq : SeqZ Fence.wide 4 Try.prog 51 #[ptr B1, ptr B2] (fun x : Ent => #[ev x]) D w) {a : Option Addr} (hr : RdE w a D) (c : Nat) (hl : D.length ≤ 281474976710656) :
    Calls Try.prog 23 #[.func (.func 51) #[] #[ptr B1, ptr B2], .slice a D.length c, .int .i64 0] w fun e w' => e = .returned (.bool true) ∧ Below w.heap.size w w' :=
  (callsIn_wide (n := 5)).1 (goes_in D hseq hr c hl)
end Go.Proofs.Ytbnllobofndckaa
namespace Go.Proofs.Ytbnllobofndckaa
open Go.RowKit
set_option linter.unusedVariables false
set_option linter.unusedSimpArgs false
set_option maxRecDepth 100000 in
theorem key_same (W : World) (u : ByteArray) (s k : Int) : (binOp .neq 33 (.agg #[.string u, .int .u64 s, .int .i64 k]) (.agg #[.string u, .int .u64 s, .int .i64 k])).run Try.prog W = .ok (.bool false) W := by
  have hf33 : Try.prog.underlying 33 = some (.struct (Try.prog.fieldsOf 33)) := by kernel_rfl
  have h1 : ∀ w, (part 9 #[.string u, .int .u64 s, .int .i64 k] 0).run Try.prog w = .ok (.string u) w := fun w => by kernel_rfl
  have h2 : ∀ w, (part 31 #[.string u, .int .u64 s, .int .i64 k] 1).run Try.prog w = .ok (.int .u64 s) w := fun w => by kernel_rfl
  have h3 : ∀ w, (part 3 #[.string u, .int .u64 s, .int .i64 k] 2).run Try.prog w = .ok (.int .i64 k) w := fun w => by kernel_rfl
  have e9 : ∀ w a b, (Op.equalIn 9999 9 (.string a) (.string b)).run Try.prog w = .ok (a.toList == b.toList) w := fun w a b => run_equalIn_string w 9998 9 a b Try.underlying9
  have e31 : ∀ w a b, (Op.equalIn 9999 31 (.int .u64 a) (.int .u64 b)).run Try.prog w = .ok (a == b) w := fun w a b => run_equalIn_int w 9998 31 .u64 .u64 a b Try.underlying31
  have e3 : ∀ w a b, (Op.equalIn 9999 3 (.int .i64 a) (.int .i64 b)).run Try.prog w = .ok (a == b) w := fun w a b => run_equalIn_int w 9998 3 .i64 .i64 a b Try.underlying3
  rw [run_neq_struct, run_equalIn_agg W 9999 33 _ _ hf33 (by kernel_rfl)]
  simp only [Program.fieldsOf, Try.underlying33, Op.eqFields, Sem.run_bind, Sem.run_ite, Sem.run_pure, h1, h2, h3, e9, e31, e3, Result.andThen_ok, bytes_beq]
  simp [Result.andThen]
theorem ordE_self (how : Int) (x : Ent) : ordE how x x = 0 := (ordK_zero how x.u x.s x.k x.u x.s x.k).2 ⟨rfl, rfl, rfl⟩
theorem ahd_self {how : Int} {l : List Ent} (h : Srt how l) {i : Nat} {e : Ent} (he : l[i]? = some e) : ahd how l e = i := by
  have h1 := ahd_spec h e he
  rw [ordE_self, decide_eq_true (Int.le_refl 0)] at h1
  have h2 : ahd how l e ≤ i := by simpa using h1.symm
  have hi := (List.getElem?_eq_some_iff.1 he).1
  rcases Nat.lt_or_ge (ahd how l e) i with h3 | h3
  · exfalso
    have h4 := ahd_spec h e (List.getElem?_eq_getElem (show ahd how l e < l.length by omega))
    rw [decide_eq_true (Nat.le_refl _), decide_eq_true_eq] at h4
    have h5 := srt_lt h h3 (List.getElem?_eq_getElem (show ahd how l e < l.length by omega)) he
    omega
  · omega
set_option maxRecDepth 100000 in
set_option maxHeartbeats 1000000 in
theorem get_any {w : World} {xb : Nat} {how : Int} {r : Nat} {l : List Ent} {ba : Option Addr} {LB bcap : Nat} {pa : Option Addr} {PN pc N : Nat} (h : Bl w xb how r l ba LB bcap pa PN pc N) (hS : Srt how l) (hr : 1 ≤ r) (hP : PN ≤ 100000) {i : Nat} {e : Ent} (he : l[i]? = some e) :
    Calls Try.prog 21 #[ptr xb, .agg #[.string e.u, .int .u64 e.s, .int .i64 e.k]] w fun x w' => x = .returned (.tuple #[.string e.v, .bool true]) ∧ Below w.heap.size w w' := by
  have hb0 : Below w.heap.size w (w.alloc (.cells #[.string e.u, .int .u64 e.s, .int .i64 e.k] 33)) := (Below.refl _ _).alloc (Nat.le_refl _) _
  have HSk := seek_any (h.below hb0) hS hr hP e
  have e1 : skE how l e = e := by unfold skE; rw [ahd_self hS he, he]
  have e2 : skB how l e = true := by unfold skB; rw [ahd_self hS he]; exact decide_eq_true (List.getElem?_eq_some_iff.1 he).1
  rw [e1, e2] at HSk
  have hB : Blk (w.alloc (.cells #[.string e.u, .int .u64 e.s, .int .i64 e.k] 33)) w.heap.size 33 [.string e.u, .int .u64 e.s, .int .i64 e.k] := Blk.new w 33 _
  have HB : Hid _ := hB
  have HB0 : Hid _ := hb0
  have hks := fun W => key_same W e.u e.s e.k
  clear h hS hr hP he e1 e2 hb0 hB
  go_enter Try.func21, Try.ntmps21
  go_wp2_with (go_at_call 20; refine HSk.mono ?_; rintro x w1 ⟨rfl, hb1⟩
               have hX : Below w1.heap.size w1 (w1.alloc (.cells #[.string e.u, .int .u64 e.s, .int .i64 e.k, .string e.v] 48)) := (Below.refl _ _).alloc (Nat.le_refl _) _
               have hk := (Blk.upd (S := Non) (Blk.upd (S := Non) HB.out (Upd.ofBelow hb1) id) (Upd.ofBelow hX) id)
               have k0 := hk.cell1 0 _ rfl
               have k1 := hk.cell1 1 _ rfl
               have k2 := hk.cell1 2 _ rfl
               have HE : Hid (Below w.heap.size w (w1.alloc (.cells #[.string e.u, .int .u64 e.s, .int .i64 e.k, .string e.v] 48))) := HB0.out.trans ((hb1.trans (hX.mono hb1.size)).mono HB0.out.size)
               clear hk hX hb1)
  go_ret2
  exact ⟨rfl, HE.out⟩
end Go.Proofs.Ytbnllobofndckaa
