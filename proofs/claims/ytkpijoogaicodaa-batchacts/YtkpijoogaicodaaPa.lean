import Derived.Test.YtkpijoogaicodaaLi
import Derived.BigRegion
import Derived.Test.YtkpijoogaicodaaFa
import Derived.Deep.RegionLaw
namespace Go.Proofs.Ytkpijoogaicodaa
open Go.RowKit
set_option linter.unusedVariables false
set_option linter.unusedSimpArgs false

set_option maxRecDepth 100000 in
set_option maxHeartbeats 1000000 in
theorem same_yes {w : World} {va vb : Value} {l : List Rec} (ha : RdR w va l) (hb : RdR w vb l) (hl : l.length ≤ 1000000) :
    Calls Try.prog 14 #[va, vb] w fun e w' => e = .returned (.bool true) ∧ Below w.heap.size w w' := by
  obtain ⟨a, c, rfl⟩ := ha.len
  obtain ⟨a', c', rfl⟩ := hb.len
  have t0 : ((l.length : Int) != (l.length : Int)) = false := by simp
  go_enter Try.func14, Try.ntmps14
  go_wp2
  go_loopw [5] (fun i wr => ∃ k : Nat, k ≤ l.length ∧ i = .int .i64 k ∧ Below w.heap.size w wr) (fun i _ => l.length - (intOf i).toNat)
  case atStart => exact ⟨0, Nat.zero_le _, rfl, Below.refl _ _⟩
  case round =>
    obtain ⟨k, hk, rfl, hbel⟩ := hrel
    by_cases hlt : k < l.length
    · obtain ⟨b, off, cap, hv, hb1, c0, c1, c2, c3⟩ := (ha.below hbel).at hlt
      obtain ⟨b', off', cap', hv', hb1', d0, d1, d2, d3⟩ := (hb.below hbel).at hlt
      cases hv
      cases hv'
      generalize l[k] = r at *
      obtain ⟨f, kd, key, val⟩ := r
      dsimp only at *
      go_wp2
      go_quiet (fail)
      go_wp2
      go_roundw
      case rel => exact ⟨k + 1, by omega, by go_num, belN hbel _⟩
      case measure => simp [intOf]; omega
    · obtain rfl : k = l.length := by omega
      go_wp2
      go_ret
      exact ⟨rfl, hbel⟩
end Go.Proofs.Ytkpijoogaicodaa
namespace Go.Proofs.Ytkpijoogaicodaa
open Go.RowKit
set_option linter.unusedVariables false
set_option linter.unusedSimpArgs false

def apE (rs os : List Rec) : Int := if 4096 < rs.length + os.length ∨ 4194304 < 12 + szs rs + szs os then 2 else 0
def apL (rs os : List Rec) : List Rec := if apE rs os = 0 then rs ++ os else rs
theorem Good.append {rs : List Rec} (h : Good rs) (os : List Rec) : Good (apL rs os) := by
  unfold apL
  split
  · rename_i he
    unfold apE at he
    split at he
    · simp at he
    · refine ⟨by simp; omega, ?_⟩
      rw [szs_app]; omega
  · exact h
def ApPost (w : World) (b : Nat) (rv mv : Value) (rs os : List Rec) (ms : List Nat) : Ending → World → Prop := fun e w' => ∃ rv', e = .returned (.int .i64 (apE rs os)) ∧ Bt w' b rv' mv (apL rs os) ms ∧ Upd (Of b rv) w w' ∧ (rv'.ownBlock = rv.ownBlock ∨ ∀ j, rv'.ownBlock = some j → w.heap.size ≤ j)
theorem join_any {w W : World} {b : Nat} {rv mv sv : Value} {rs l : List Rec} {ms : List Nat} (h : Bt w b rv mv rs ms) (hg : Good rs) (hg2 : Good l) (hb : Below w.heap.size w W) (hs : RdR W sv l) :
    Calls Try.prog 53 #[ptr b, .int .i64 (szs l), sv] W (ApPost w b rv mv rs l ms) := by
  have h1 := hg.len
  have h2 := hg.size
  have h3 := hg2.len
  have h4 := hg2.size
  by_cases hc : 4096 < rs.length + l.length ∨ 4194304 < 12 + szs rs + szs l
  · have he : apE rs l = 2 := by unfold apE; rw [if_pos hc]
    have hl : apL rs l = rs := by unfold apL; rw [if_neg (by rw [he]; decide)]
    refine (join_full h hb hs (szs l) rfl (by omega) (by omega) (by omega) (by omega) hc).mono ?_
    rintro e w' ⟨rfl, rfl⟩
    exact ⟨rv, by rw [he], by rw [hl]; exact h.below hb, Upd.ofBelow hb, .inl rfl⟩
  · have he : apE rs l = 0 := by unfold apE; rw [if_neg hc]
    have hl : apL rs l = rs ++ l := by unfold apL; rw [if_pos he]
    refine (join_behind h hb hs (szs l) rfl (by omega) (by omega)).mono ?_
    rintro e w' ⟨rv', rfl, g1, g2, _, g3⟩
    exact ⟨rv', by rw [he], by rw [hl]; exact g1, g2, g3⟩

set_option maxRecDepth 100000 in
set_option maxHeartbeats 1000000 in
theorem append_any {w : World} {b o : Nat} {rv mv rv2 mv2 : Value} {rs os : List Rec} {ms ns : List Nat} (h : Bt w b rv mv rs ms) (h2 : Bt w o rv2 mv2 os ns) (hg : Good rs) (hg2 : Good os) :
    Calls Try.prog 25 #[ptr b, ptr o] w (ApPost w b rv mv rs os ms) := by
  have c0 := h2.blk.cell1 0 _ rfl
  have c1 := h2.blk.cell1 1 _ rfl
  have hrd := row_rd h2.row
  have HJ := fun W (hb : Below w.heap.size w W) => join_any h hg hg2 hb (hrd.below hb)
  obtain ⟨a, c, rfl⟩ := hrd.len
  go_enter Try.func25, Try.ntmps25
  go_wp2
  go_region_with ((go_at_call 53; refine (HJ _ ((Below.refl _ _).drew)).mono ?_; rintro e w' ⟨rv', rfl, g1, g2, g3⟩))
  all_goals
    go_wp2
    go_ret
    exact ⟨rv', rfl, g1, g2, g3⟩
set_option maxRecDepth 100000 in
set_option maxHeartbeats 1000000 in
theorem append_nil (b : Nat) (w : World) : Calls Try.prog 25 #[ptr b, .pointer none] w fun e w' => e = .returned (.int .i64 1) ∧ w' = w := by
  go_enter Try.func25, Try.ntmps25
  go_wp2
  go_ret
  exact ⟨rfl, rfl⟩
end Go.Proofs.Ytkpijoogaicodaa
namespace Go.Proofs.Ytkpijoogaicodaa
open Go.RowKit
set_option linter.unusedVariables false
set_option linter.unusedSimpArgs false

/-- Two values lie in two blocks. -/
def Dj (v v' : Value) : Prop := ∀ k, v.ownBlock = some k → v'.ownBlock ≠ some k
theorem Dj.symm {v v' : Value} (h : Dj v v') : Dj v' v := fun k hk hk' => h k hk' hk
theorem Dj.nil (v : Value) : Dj (.slice none 0 0) v := fun k hk => by cases hk
/-- Another batch is as it was. -/
theorem Bt.other {w w' : World} {b b2 : Nat} {rv mv rv2 mv2 : Value} {rs rs2 : List Rec} {ms ms2 : List Nat} (h1 : Bt w b rv mv rs ms) (h2 : Bt w b2 rv2 mv2 rs2 ms2) (hbb : b ≠ b2) (dj : Dj rv rv2) (u : Upd (Of b rv) w w') : Bt w' b2 rv2 mv2 rs2 ms2 := by
  refine h2.upd u ?_ ?_ ?_
  · rintro (e | e)
    · exact hbb e.symm
    · exact row_ne h1.row h2.blk (by decide) b2 e rfl
  · rintro k hk (rfl | e)
    · exact row_ne h2.row h1.blk (by decide) k hk rfl
    · exact dj k e hk
  · rintro k hk (rfl | e)
    · exact row_ne h2.marks h1.blk (by decide) k hk rfl
    · exact row_row_ne h2.marks h1.row (by decide) k hk e
theorem Dj.step {w : World} {rv rv' rv2 : Value} (dj : Dj rv rv2) (loc : rv'.ownBlock = rv.ownBlock ∨ ∀ j, rv'.ownBlock = some j → w.heap.size ≤ j) {base : Nat} {e : TypeId} {size n : Nat} {xs : List Value} (h2 : w.ownsRow base e size rv2 n xs) : Dj rv' rv2 := by
  intro k hk hk'
  rcases loc with e | e
  · rw [e] at hk; exact dj k hk hk'
  · have := e k hk
    have := (h2.lt k hk').2
    omega
/-- The rows of a batch are the call's own. -/
def New (N : Nat) (v : Value) : Prop := ∀ k, v.ownBlock = some k → N ≤ k
theorem New.step {N : Nat} {w : World} {rv rv' : Value} (h : New N rv) (hN : N ≤ w.heap.size) (loc : rv'.ownBlock = rv.ownBlock ∨ ∀ j, rv'.ownBlock = some j → w.heap.size ≤ j) : New N rv' := by
  intro k hk
  rcases loc with e | e
  · rw [e] at hk; exact h k hk
  · have := e k hk; omega
theorem New.nil (N : Nat) : New N (.slice none 0 0) := fun k hk => by cases hk
theorem of_new {N b : Nat} {rv : Value} (hb : N ≤ b) (h : New N rv) : ∀ k, Of b rv k → N ≤ k := by
  rintro k (rfl | e)
  · exact hb
  · exact h k e
/-- What a list of records makes of an empty batch. -/
def addAll (rs l : List Rec) : List Rec := l.foldl addL rs
theorem addAll_take (rs l : List Rec) (k : Nat) (h : k < l.length) : addAll rs (l.take (k + 1)) = addL (addAll rs (l.take k)) l[k] := by
  unfold addAll
  rw [List.take_succ_eq_append_getElem h, List.foldl_append]; rfl
theorem addAll_good {rs : List Rec} (h : Good rs) (l : List Rec) : Good (addAll rs l) := by
  induction l generalizing rs with
  | nil => exact h
  | cons r l ih => exact ih (h.add r)
abbrev nilv : Value := .slice none 0 0
/-- The three batches of BatchParts. -/
structure Tri (w : World) (W : World) (rx ry ra : Value) (xs ys al : List Rec) : Prop where
  bel : Below w.heap.size w W
  x : Bt W w.heap.size rx nilv xs []
  y : Bt W (w.heap.size + 1) ry nilv ys []
  a : Bt W (w.heap.size + 1 + 1) ra nilv al []
  nx : New w.heap.size rx
  ny : New w.heap.size ry
  na : New w.heap.size ra
  xy : Dj rx ry
  xa : Dj rx ra
  ya : Dj ry ra
theorem Tri.behind {w W W' : World} {rx ry ra : Value} {xs ys al : List Rec} (h : Tri w W rx ry ra xs ys al) (hb : Below W.heap.size W W') : Tri w W' rx ry ra xs ys al :=
  ⟨bstep h.bel hb, h.x.below hb, h.y.below hb, h.a.below hb, h.nx, h.ny, h.na, h.xy, h.xa, h.ya⟩
theorem Tri.onx {w W W' : World} {rx ry ra rx' : Value} {xs ys al xs' : List Rec} (h : Tri w W rx ry ra xs ys al) (hB : Bt W' w.heap.size rx' nilv xs' []) (u : Upd (Of w.heap.size rx) W W') (loc : rx'.ownBlock = rx.ownBlock ∨ ∀ j, rx'.ownBlock = some j → W.heap.size ≤ j) : Tri w W' rx' ry ra xs' ys al :=
  ⟨Upd.bel h.bel u (of_new (Nat.le_refl _) h.nx), hB, h.x.other h.y (by omega) h.xy u, h.x.other h.a (by omega) h.xa u, h.nx.step h.bel.size loc, h.ny, h.na, h.xy.step loc h.y.row, h.xa.step loc h.a.row, h.ya⟩
theorem Tri.ony {w W W' : World} {rx ry ra ry' : Value} {xs ys al ys' : List Rec} (h : Tri w W rx ry ra xs ys al) (hB : Bt W' (w.heap.size + 1) ry' nilv ys' []) (u : Upd (Of (w.heap.size + 1) ry) W W') (loc : ry'.ownBlock = ry.ownBlock ∨ ∀ j, ry'.ownBlock = some j → W.heap.size ≤ j) : Tri w W' rx ry' ra xs ys' al :=
  ⟨Upd.bel h.bel u (of_new (by omega) h.ny), h.y.other h.x (by omega) h.xy.symm u, hB, h.y.other h.a (by omega) h.ya u, h.nx, h.ny.step h.bel.size loc, h.na, (h.xy.symm.step loc h.x.row).symm, h.xa, h.ya.step loc h.a.row⟩
theorem Tri.ona {w W W' : World} {rx ry ra ra' : Value} {xs ys al al' : List Rec} (h : Tri w W rx ry ra xs ys al) (hB : Bt W' (w.heap.size + 1 + 1) ra' nilv al' []) (u : Upd (Of (w.heap.size + 1 + 1) ra) W W') (loc : ra'.ownBlock = ra.ownBlock ∨ ∀ j, ra'.ownBlock = some j → W.heap.size ≤ j) : Tri w W' rx ry ra' xs ys al' :=
  ⟨Upd.bel h.bel u (of_new (by omega) h.na), h.a.other h.x (by omega) h.xa.symm u, h.a.other h.y (by omega) h.ya.symm u, hB, h.nx, h.ny, h.na.step h.bel.size loc, h.xy, (h.xa.symm.step loc h.x.row).symm, (h.ya.symm.step loc h.y.row).symm⟩
def btZ : Array Value := #[.slice none 0 0, .int .i64 0, .slice none 0 0]
theorem Tri.new (w : World) : Tri w (((w.alloc (.cells #[.slice none 0 0, .int .i64 0, .slice none 0 0] 43)).alloc (.cells #[.slice none 0 0, .int .i64 0, .slice none 0 0] 43)).alloc (.cells #[.slice none 0 0, .int .i64 0, .slice none 0 0] 43)) nilv nilv nilv [] [] [] := by
  have a1 := Bt.new w
  have a2 := Bt.new (w.alloc (.cells #[.slice none 0 0, .int .i64 0, .slice none 0 0] 43))
  have a3 := Bt.new ((w.alloc (.cells #[.slice none 0 0, .int .i64 0, .slice none 0 0] 43)).alloc (.cells #[.slice none 0 0, .int .i64 0, .slice none 0 0] 43))
  simp only [World.size_alloc] at a2 a3
  have al := fun (W : World) (o : Obj) => (Below.refl W.heap.size W).alloc (Nat.le_refl _) o
  exact ⟨bstep (bstep (al w _) (al _ _)) (al _ _), (a1.below (al _ _)).below (al _ _), a2.below (al _ _), a3, New.nil _, New.nil _, New.nil _, Dj.nil _, Dj.nil _, Dj.nil _⟩
theorem rkeepT {B : Nat} {w W : World} {rx ry ra : Value} {xs ys al : List Rec} {b o : Nat} {r : Rec} (h : Tri w W rx ry ra xs ys al) (hb : b < w.heap.size) (hr : RAt w b o r) : RAt W b o r := hr.upd (S := fun _ => False) (Upd.ofBelow h.bel) hb (fun hh => hh)
end Go.Proofs.Ytkpijoogaicodaa
