/-
  A range over a function that writes memory of its own between two rounds: a law of our own.
  All: the entries from a key on, gone through.
-/
import Derived.RangeFuncNested
import Derived.RangeFuncCalls
import Derived.Test.YtbnllobofndckaaRr
import Derived.Test.YtbnllobofndckaaBk
import Derived.RangeFuncBound
import Derived.RangeFuncLeaves
import Derived.RangeFuncBox
import Derived.Shelf.Abstract
import Derived.Shelf.RegionOpen
import Derived.OwnWalkIn
import Derived.TacticsInMore
import Derived.LoopNIn
import Derived.LoopIn
import Derived.Sort.QuietIn
import Derived.Sort.CutIn
import Derived.Deep.RegionLaw
import Derived.Sort.LoopGhostIn
import Derived.Test.YtbnllobofndckaaBj
import Derived.Test.YtbnllobofndckaaRd
namespace Go.Proofs.Ytbnllobofndckaa
open Go Go.RowKit
set_option linter.unusedVariables false
/-- What a round keeps: the blocks below a, and those from b on. -/
abbrev Kz (a b : Nat) (W W' : World) : Prop := Upd (fun k => a ≤ k ∧ k < b) W W'
theorem Kz.put {a b l : Nat} (W : World) (o : Obj) (h1 : a ≤ l) (h2 : l < b) : Kz a b W (W.putObj l o) :=
  (Upd.refl _ W).grown (grownBy_putObj' W l o) (fun k e _ => by cases e; exact ⟨h1, h2⟩)
/-- A sequence that yields just D, in order; between rounds it writes only what it has made itself. -/
def SeqZ {α : Type} (F : Fence) (n : Nat) (P : Program) (g : Nat) (lb : Array Value) (encs : α → Array Value) (D : List α) (w : World) : Prop :=
  ∀ (l : Nat) (J Jx : List α → World → Prop) (W : World), Below w.heap.size w W → (∀ s A B, J s A → Below W.heap.size A B → J s B) → (∀ s A B, Jx s A → Below W.heap.size A B → Jx s B) →
    (∀ pre x W1, pre ++ [x] <+: D → W.heap.size ≤ W1.heap.size → J pre W1 → YieldAt F (n - 1) P l (encs x) W1 fun e W' => (e = .returned (.bool true) ∧ J (pre ++ [x]) W' ∧ Kz w.heap.size W.heap.size W1 W') ∨ (e = .returned (.bool false) ∧ Jx (pre ++ [x]) W')) →
    J [] W → CallsIn F n P g (#[.func (.yield l) #[] #[]] ++ lb) W fun e W' => (∃ v, e = .returned v) ∧ (J D W' ∨ ∃ pre, pre <+: D ∧ pre ≠ [] ∧ Jx pre W')
/-- How a round's body is left. -/
def postZ {α : Type} (B a b : Nat) (I : List α → World → Prop) (Ix : Code → List α → World → Prop) (xs : List α) (W : World) : Exit → Act → World → Prop
  | .normal, _, W' => KeepsFrom B W W' ∧ Kz a b W W' ∧ I xs W'
  | .ret, _, W' => KeepsFrom B W W' ∧ Ix .ret xs W'
  | .exit id, _, W' => KeepsFrom B W W' ∧ Ix (.exit id) xs W'
  | .goto t, _, W' => KeepsFrom B W W' ∧ Ix (.goto t) xs W'
  | .panic _, _, _ => False
  | .outgrown, _, _ => False
theorem wpIn_range_Z {F : Fence} {n : Nat} {P : Program} {α : Type} {g : Operand} {ps : Array Tmp} {assign body : Code} {Q : Exit → Act → World → Prop} {a : Act} {w : World}
    (hro : F.round = none) (h1 : 1 ≤ n) {gf : Nat} {lb : Array Value} (hg : a.eval g = .func (.func gf) #[] lb) (hFg : F.fn gf) (eg : ∀ args w, (callFunc gf args).run P w = .ok (.enter gf args) w)
    {encs : α → Array Value} {L : List α} {w0 : World} (hseq : SeqZ F (n - 1) P gf lb encs L w0) (hb0 : Below w0.heap.size w0 w) (hps : ∀ x, (encs x).size = ps.size)
    (I : List α → World → Prop) (Ix : Code → List α → World → Prop) (hI : OwnFrom w.heap.size I) (hIx : ∀ c, OwnFrom w.heap.size (Ix c))
    (hIb : ∀ s A B, I s A → Below (w.heap.size + 1 + 1) A B → I s B) (hIxb : ∀ c s A B, Ix c s A → Below (w.heap.size + 1 + 1) A B → Ix c s B) (h0 : I [] w)
    (Ax : List α → α → Act → World → Prop) (hAx : ∀ pre x a', OwnFrom w.heap.size (fun (_ : Unit) W => Ax pre x a' W))
    (hassign : ∀ (l : Nat) (pre : List α) (x : α) (W : World) (K : Act → World → Prop), pre ++ [x] <+: L → I pre W → w.heap.size + 1 + 1 ≤ W.heap.size → (∀ a' W', KeepsFrom w.heap.size W W' → Kz w0.heap.size (w.heap.size + 1 + 1) W W' → Ax pre x a' W' → K a' W') →
      assign.wpIn (F.inRound l) (n - 1 - 1) P (Exit.then K (fun _ _ _ => False)) { tmps := (ps.zip (encs x)).foldl (fun t (p, v) => t.setIfInBounds p v) a.tmps, defers := [] } W)
    (hbody : ∀ (l : Nat) (pre : List α) (x : α) (a' : Act) (W : World), w.heap.size ≤ l → (∃ r, W.heap[l]? = some (.loop r)) → pre ++ [x] <+: L → Ax pre x a' W → body.wpIn (F.inRound l) (n - 1 - 1) P (postZ w.heap.size w0.heap.size (w.heap.size + 1 + 1) I Ix (pre ++ [x]) W) a' W)
    (hdone : ∀ (D : Nat) (W : World), w.heap.size ≤ D → I L W → W.heap[D]? = some (.deferred (some [])) → Q .normal { a with defers := { target := .collected D, args := #[] } :: a.defers } W)
    (hstop : ∀ (D : Nat) (c : Code) (pre : List α) (W : World), w.heap.size ≤ D → pre <+: L → pre ≠ [] → Ix c pre W → W.heap[D]? = some (.deferred (some [])) → c.wpIn F n P Q { a with defers := { target := .collected D, args := #[] } :: a.defers } W) :
    (Code.rangeFunc g ps assign body).wpIn F n P Q a w := by
  refine wpIn_rangeFunc ?_
  intro fn hfn
  rw [hro]
  let rec0 : LoopState → Option Code → Loop := fun st pe => { state := st, pending := pe, fn, tmps := a.tmps, params := ps, assign, body, defers := w.heap.size }
  obtain ⟨W1, hW1⟩ : ∃ W1, (w.alloc (.deferred (some []))).alloc (.loop (rec0 .ready none)) = W1 := ⟨_, rfl⟩
  have hz : W1.heap.size = w.heap.size + 1 + 1 := by rw [← hW1]; simp
  have hL : W1.heap[w.heap.size + 1]? = some (.loop (rec0 .ready none)) := by
    have := World.alloc_heap_new (w.alloc (.deferred (some []))) (.loop (rec0 .ready none))
    rw [World.size_alloc] at this
    rw [← hW1]; exact this
  have hM : W1.heap[w.heap.size]? = some (.deferred (some [])) := by
    rw [← hW1]; exact (Below.heap_alloc _ _ _ (by simp)).trans (World.alloc_heap_new w _)
  have bW : Below w.heap.size w W1 := by rw [← hW1]; exact ((Below.refl _ w).alloc (Nat.le_refl _) _).alloc (by simp) _
  have hI1 : I [] W1 := hI [] w W1 none h0 (grow_of_below bW) (fun r e => by cases e)
  have hw0 := hb0.size
  refine ⟨w.heap.size + 1, [{ target := .collected w.heap.size, args := #[] }], W1, { target := .fn (.func gf) lb, args := #[.func (.yield (w.heap.size + 1)) #[] #[]] }, W1, gf, #[.func (.yield (w.heap.size + 1)) #[] #[]] ++ lb, W1, ?_, ?_, ?_, ?_, fun _ => h1, ?_⟩
  · rw [← hW1]; exact run_enterLoop_outer _ _ _ _ _
  · simp only [resolve, hg]
    simp [go_sem]
  · intro f' hf'; simp [Target.leads] at hf'; subst hf'; exact hFg
  · simp [invoke, go_sem, eg]
  refine (hseq (w.heap.size + 1)
    (fun pre W => I pre W ∧ W.heap[w.heap.size + 1]? = some (.loop (rec0 .ready none)) ∧ W.heap[w.heap.size]? = some (.deferred (some [])))
    (fun pre W => ∃ c, Ix c pre W ∧ W.heap[w.heap.size + 1]? = some (.loop (rec0 .done (some c))) ∧ W.heap[w.heap.size]? = some (.deferred (some [])))
    W1 (hb0.trans (bW.mono hb0.size)) ?_ ?_ ?_ ⟨hI1, hL, hM⟩).mono ?_
  · intro s A B hs hb
    rw [hz] at hb
    exact ⟨hIb s A B hs.1 hb, (hb.block _ (by omega)).trans hs.2.1, (hb.block _ (by omega)).trans hs.2.2⟩
  · rintro s A B ⟨c, hc, hl, hk⟩ hb
    rw [hz] at hb
    exact ⟨c, hIxb c s A B hc hb, (hb.block _ (by omega)).trans hl, (hb.block _ (by omega)).trans hk⟩
  · rintro pre x W hpre hWz ⟨hi, hl, hk⟩
    rw [hz] at hWz ⊢
    refine ⟨fn, _, assign, body, run_yield (P := P) (args := encs x) hl (hps x), roundIn_of_wpIn hfn (hassign _ pre x W _ hpre hi hWz ?_)⟩
    intro a' Wa kf kp ax
    have hl2 := kf.same _ _ (Nat.le_succ _) hl rfl
    have hk2 := kf.same _ _ (Nat.le_refl _) hk rfl
    have hlt : w.heap.size + 1 < Wa.heap.size := (Array.getElem?_eq_some_iff.1 hl2).1
    obtain ⟨Wb, hWb⟩ : ∃ Wb, Wa.putObj (w.heap.size + 1) (.loop { rec0 .ready none with state := .busy }) = Wb := ⟨_, rfl⟩
    have hl3 : Wb.heap[w.heap.size + 1]? = some (.loop { rec0 .ready none with state := .busy }) := by rw [← hWb]; exact World.putObj_heap_same hlt
    have hk3 : Wb.heap[w.heap.size]? = some (.deferred (some [])) := by rw [← hWb]; exact (World.putObj_heap_other (by omega)).trans hk2
    have kb : Kz w0.heap.size (w.heap.size + 1 + 1) Wa Wb := by rw [← hWb]; exact Kz.put _ _ (by omega) (by omega)
    have axb : Ax pre x a' Wb := by rw [← hWb]; exact (hAx pre x a').putObj (s := ()) _ ax (Nat.le_succ _) hl2 rfl
    refine ⟨Wb, by rw [← hWb]; exact run_beginRound hl2 rfl, ?_⟩
    refine wpIn_mono (hbody _ pre x a' Wb (Nat.le_succ _) ⟨_, hl3⟩ hpre axb) ?_
    have fin : ∀ W3 : World, KeepsFrom w.heap.size Wb W3 → W3.heap[w.heap.size + 1]? = some (.loop { rec0 .ready none with state := .busy }) ∧ W3.heap[w.heap.size]? = some (.deferred (some [])) ∧ w.heap.size + 1 < W3.heap.size := fun W3 kf3 => by
      have hl4 := kf3.same _ _ (Nat.le_succ _) hl3 rfl
      exact ⟨hl4, kf3.same _ _ (Nat.le_refl _) hk3 rfl, (Array.getElem?_eq_some_iff.1 hl4).1⟩
    rintro e a3 W3 hp
    cases e with
    | normal =>
      obtain ⟨kf3, kp3, hi3⟩ := hp
      obtain ⟨hl4, hk4, hlt4⟩ := fin W3 kf3
      exact ⟨_, _, run_endRound (P := P) none hl4, .inl ⟨rfl, ⟨hI.putObj _ hi3 (Nat.le_succ _) hl4 rfl, World.putObj_heap_same hlt4, (World.putObj_heap_other (by omega)).trans hk4⟩, Upd.trans kp (Upd.trans kb (Upd.trans kp3 (Kz.put _ _ (by omega) (by omega))))⟩⟩
    | ret =>
      obtain ⟨kf3, hi3⟩ := hp
      obtain ⟨hl4, hk4, hlt4⟩ := fin W3 kf3
      exact ⟨_, _, run_endRound (P := P) (some .ret) hl4, .inr ⟨rfl, .ret, (hIx _).putObj _ hi3 (Nat.le_succ _) hl4 rfl, World.putObj_heap_same hlt4, (World.putObj_heap_other (by omega)).trans hk4⟩⟩
    | exit id =>
      obtain ⟨kf3, hi3⟩ := hp
      obtain ⟨hl4, hk4, hlt4⟩ := fin W3 kf3
      exact ⟨_, _, run_endRound (P := P) (some (.exit id)) hl4, .inr ⟨rfl, .exit id, (hIx _).putObj _ hi3 (Nat.le_succ _) hl4 rfl, World.putObj_heap_same hlt4, (World.putObj_heap_other (by omega)).trans hk4⟩⟩
    | goto t =>
      obtain ⟨kf3, hi3⟩ := hp
      obtain ⟨hl4, hk4, hlt4⟩ := fin W3 kf3
      exact ⟨_, _, run_endRound (P := P) (some (.goto t)) hl4, .inr ⟨rfl, .goto t, (hIx _).putObj _ hi3 (Nat.le_succ _) hl4 rfl, World.putObj_heap_same hlt4, (World.putObj_heap_other (by omega)).trans hk4⟩⟩
    | panic ch => exact hp.elim
    | outgrown => exact hp.elim
  · rintro e W2 ⟨⟨v, rfl⟩, (⟨hi, hl, hk⟩ | ⟨pre, hpre, hne, c, hi, hl, hk⟩)⟩
    · exact ⟨none, _, run_endLoop (P := P) hl (by simp [rec0]), hdone _ _ (Nat.le_refl _) (hI.putObj _ hi (Nat.le_succ _) hl rfl) ((World.putObj_heap_other (by omega)).trans hk)⟩
    · exact ⟨some c, _, run_endLoop (P := P) hl (by simp [rec0]), hstop _ c pre _ (Nat.le_refl _) hpre hne ((hIx c).putObj _ hi (Nat.le_succ _) hl rfl) ((World.putObj_heap_other (by omega)).trans hk)⟩
end Go.Proofs.Ytbnllobofndckaa
namespace Go.Proofs.Ytbnllobofndckaa
open Go.RowKit Go.Shelf
set_option linter.unusedVariables false
set_option linter.unusedSimpArgs false
attribute [local go_sem] Oper.semAt_some
/-- What is so where All's loop stands at the entry i. W: the world it was called in. -/
structure Zt (w W wr : World) (r : Nat) (l : List Ent) (i : Nat) (ky : List Int) (ra : Option Addr) (rc : Nat) (kv : Value) (u : ByteArray) (s k : Int) (vv : Value) : Prop where
  rst : Rst w.heap.size W.heap.size wr W.heap.size (rs r l i) ky ra rc kv u s k vv
  key : ky = kP l i ∨ (ky = [] ∧ i % r = 0)
  bel : Below w.heap.size w wr
theorem Zt.lt {w W wr : World} {r : Nat} {l : List Ent} {i : Nat} {ky : List Int} {ra : Option Addr} {rc : Nat} {kv : Value} {u : ByteArray} {s k : Int} {vv : Value} (h : Zt w W wr r l i ky ra rc kv u s k vv) : W.heap.size < wr.heap.size := h.rst.blk.lt
theorem Zt.below {w W wr wr' : World} {r : Nat} {l : List Ent} {i : Nat} {ky : List Int} {ra : Option Addr} {rc : Nat} {kv : Value} {u : ByteArray} {s k : Int} {vv : Value} (h : Zt w W wr r l i ky ra rc kv u s k vv) (hb : Below wr.heap.size wr wr') : Zt w W wr' r l i ky ra rc kv u s k vv :=
  ⟨h.rst.below hb, h.key, h.bel.trans (hb.mono h.bel.size)⟩
/-- A round's doings pass by. -/
theorem Zt.kz {w W wr wr' : World} {r : Nat} {l : List Ent} {i : Nat} {ky : List Int} {ra : Option Addr} {rc : Nat} {kv : Value} {u : ByteArray} {s k : Int} {vv : Value} (h : Zt w W wr r l i ky ra rc kv u s k vv) (hk : Kz w.heap.size W.heap.size wr wr') : Zt w W wr' r l i ky ra rc kv u s k vv := by
  refine ⟨h.rst.upd hk (fun hs => Nat.lt_irrefl _ hs.2) (fun hne b o e hs => ?_) (fun j hj hs => ?_), h.key, h.bel.trans (hk.below (fun j hj => Nat.lt_of_lt_of_le hj h.bel.size) (fun j hj => hj.1))⟩
  · have := h.rst.old hne b o e
    omega
  · have := (G.row_blk h.rst.row j hj).1
    omega
/-- The next entry is read. -/
theorem Zt.next {w W wr : World} {r : Nat} {l : List Ent} {i : Nat} {ky : List Int} {ra : Option Addr} {rc : Nat} {kv : Value} {u : ByteArray} {s k : Int} {vv : Value} (h : Zt w W wr r l i ky ra rc kv u s k vv) {e : Ent} (he : l[i]? = some e) (hf : Fit l) (hl : (bt r l l.length).length ≤ 1099511627776) :
    Calls Try.prog 54 #[ptr W.heap.size] wr fun x w' => ∃ cm : Nat, x = .returned (.int .i64 cm) ∧ ∃ kv' rx cx ry cy, Zt w W w' r l (i + 1) (kP l (i + 1)) ry cy kv' e.u e.s e.k (.slice rx e.v.size cx) ∧ Arg w' rx e.v.size cx (sb e.v) ∧ Below W.heap.size wr w' := by
  have key : Calls Try.prog 54 #[ptr W.heap.size] wr fun x w' => x = .returned (.int .i64 (cA r l i)) ∧ ∃ kv' rx cx ry cy, Rst w.heap.size W.heap.size w' W.heap.size (rs r l (i + 1)) (kP l (i + 1)) ry cy kv' e.u e.s e.k (.slice rx e.v.size cx) ∧ Arg w' rx e.v.size cx (sb e.v) ∧ Upd (fun j => j = W.heap.size ∨ kv.ownBlock = some j) wr w' := by
    rcases h.key with hk | ⟨hk, hi⟩
    · exact next_wA he hf hl (hk ▸ h.rst)
    · exact next_wh he hi hf hl (hk ▸ h.rst)
  refine key.mono ?_
  rintro x w' ⟨rfl, kv', rx, cx, ry, cy, q1, q2, q3⟩
  have hB : Below W.heap.size wr w' := q3.below (fun j hj => Nat.lt_trans hj h.lt) (fun j hj => by
    rcases hj with hj | hj
    · omega
    · exact (G.row_blk h.rst.row j hj).1)
  have hwW : w.heap.size ≤ W.heap.size := h.rst.osle
  exact ⟨_, rfl, kv', rx, cx, ry, cy, ⟨q1, .inl rfl, h.bel.trans (hB.mono hwW)⟩, q2, hB⟩
theorem drop_take_step {l : List Ent} {p i : Nat} {e : Ent} (he : l[i]? = some e) (hp : p ≤ i) : (l.drop p).take (i + 1 - p) = (l.drop p).take (i - p) ++ [e] := by
  have h1 : (l.drop p)[i - p]? = some e := by rw [List.getElem?_drop, show p + (i - p) = i by omega]; exact he
  obtain ⟨h2, h3⟩ := List.getElem?_eq_some_iff.1 h1
  rw [show i + 1 - p = (i - p) + 1 by omega, List.take_succ_eq_append_getElem h2, h3]
theorem step_call22 {ops : Array Oper} {o : Oper} {a : Act} {w : World} {K : Act → World → Prop} {Q : Exit → Act → World → Prop} {Ex : Prop} (hgd : o.guard = none) {d : Nat} (hd : o.dst = some d) (x y z : Operand) (ts : Array TypeId)
    (ho : o.op = .call { callee := .value (.func 22), args := #[x, y, z], argTypes := ts }) (u v q : Value) (hx : a.eval x = u) (hy : a.eval y = v) (hz : a.eval z = q) {R : Ending → World → Prop} (hc : Calls Try.prog 22 #[u, v, q] w R)
    (h : ∀ e w', R e w' → ∃ r, e = .returned r ∧ K (a.put (some d) r) w') :
    if Region.wanted o (yielded ops a.tmps) = true then Oper.wp Try.prog o a w K Q else Ex := by
  have hw : Region.wanted o (yielded ops a.tmps) = true := by simp [Region.wanted, hgd]
  rw [if_pos hw]
  have he := enters_of (P := Try.prog) Try.func22 (by kernel_rfl) rfl #[u, v, q]
  unfold Oper.wp execOp
  simp only [ho, resolve, invoke, Sem.run_bind, Sem.run_pure, Result.andThen_ok, List.map_toArray, List.map_cons, List.map_nil, hx, hy, hz, go_sem]
  show Oper.upon Try.prog o a K Q (Sem.run Try.prog (callFunc 22 (#[] ++ #[a.eval x, a.eval y, a.eval z] ++ #[])) w)
  rw [show (#[] ++ #[a.eval x, a.eval y, a.eval z] ++ #[] : Array Value) = #[u, v, q] by simp [hx, hy, hz], he, Oper.upon_enter]
  refine hc.mono ?_
  intro e w' hR
  obtain ⟨r, rfl, hk⟩ := h e w' hR
  show K (a.put o.dst r) w'
  rw [hd]
  exact hk
set_option maxRecDepth 100000 in
set_option maxHeartbeats 2000000 in
theorem all_seq (n : Nat) (hn : 1 ≤ n) {w : World} {xb B1 B2 : Nat} {how : Int} {r : Nat} {l : List Ent} {ba : Option Addr} {LB bcap : Nat} {pa : Option Addr} {PN pc N : Nat} (h : Bl w xb how r l ba LB bcap pa PN pc N) (hS : Srt how l) (hr : 1 ≤ r) (hP : PN ≤ 100000) (K : Ent) (c1 : w.cell? ⟨B1, 0, none⟩ = some (ptr xb)) (c2 : Blk w B2 33 [.string K.u, .int .u64 K.s, .int .i64 K.k]) :
    SeqZ Fence.wide n Try.prog 51 #[ptr B1, ptr B2] (fun x : Ent => #[ev x]) (l.drop (ahd how l K)) w := by
  intro lb J Jx W hW hJ hJx hY h0
  have h52 : Fence.wide.fn 52 := trivial
  have h53 : Fence.wide.fn 53 := trivial
  have h54 : Fence.wide.fn 54 := trivial
  have h55 : Fence.wide.fn 55 := trivial
  have h22 : Fence.wide.fn 22 := trivial
  obtain ⟨p, hp⟩ : ∃ p, ahd how l K = p := ⟨_, rfl⟩
  have hAs : ∀ (i : Nat) (x : Ent), l[i]? = some x → decide (0 ≤ ordE how x K) = decide (p ≤ i) := fun i x hx => by rw [← hp]; exact ahd_spec hS K hx
  rw [hp] at hY ⊢
  have hBlW := h.below hW
  have hbb : (bt r l l.length).length = LB := h.arg.1
  have hbig := h.big
  have hNN := h.n
  have HF : Hid (Fit l ∧ (bt r l l.length).length ≤ 1099511627776 ∧ l.length = N) := ⟨hS.fit, by omega, hNN⟩
  -- what stands in every later world
  have HK2 : Hid (∀ X, Below w.heap.size w X → X.cell? ⟨B1, 0, none⟩ = some (ptr xb) ∧ X.cell? ⟨xb, 0, none⟩ = some (.int .i64 how) ∧ X.cell? ⟨B2, 0, none⟩ = some (.string K.u) ∧ X.cell? ⟨B2, 1, none⟩ = some (.int .u64 K.s) ∧ X.cell? ⟨B2, 2, none⟩ = some (.int .i64 K.k)) := fun X hX => by
    have hb2 := c2.lt
    have hb3 := h.blk.lt
    refine ⟨?_, ?_, ?_, ?_, ?_⟩
    · rw [hX.cell (p := ⟨B1, 0, none⟩) (G.cell_lt c1)]; exact c1
    · rw [hX.cell (p := ⟨xb, 0, none⟩) hb3]; exact h.blk.cell1 0 _ rfl
    · rw [hX.cell (p := ⟨B2, 0, none⟩) hb2]; exact c2.cell1 0 _ rfl
    · rw [hX.cell (p := ⟨B2, 1, none⟩) hb2]; exact c2.cell1 1 _ rfl
    · rw [hX.cell (p := ⟨B2, 2, none⟩) hb2]; exact c2.cell1 2 _ rfl
  have HOr : Hid (∀ (e : Ent) X, Calls Try.prog 22 #[.int .i64 how, .agg #[.string e.u, .int .u64 e.s, .int .i64 e.k], .agg #[.string K.u, .int .u64 K.s, .int .i64 K.k]] X fun x w' => x = .returned (.int .i64 (ordE how e K)) ∧ Below X.heap.size X w') := fun e X => cord_bel how e K X
  have HAs : Hid (∀ (i : Nat) (x : Ent), l[i]? = some x → decide (0 ≤ ordE how x K) = decide (p ≤ i)) := hAs
  have HY : Hid _ := hY
  have HJ : Hid (∀ s A B, J s A → Below W.heap.size A B → J s B) := hJ
  have hwW : w.heap.size ≤ W.heap.size := hW.size
  have hwl := h.arg
  -- the reader as it begins
  have hold : bt r l l.length ≠ [] → ∀ b o, ba = some ⟨b, o, none⟩ → b < w.heap.size := fun hne b o e => by
    rcases hwl.2.2.2 with h1 | ⟨b', o', e', hlt, _⟩
    · exact absurd h1 hne
    · rw [e'] at e; cases e; exact hlt
  have hAW := hwl.below hW
  rw [← hbb] at hAW
  have hR0 := rst_new (os := w.heap.size) (bs := W.heap.size) (W := W) hwW (Nat.le_refl _) hAW (by rw [hbb]; exact h.cap) hold
  rw [hbb] at hR0
  obtain ⟨Wa, hWa⟩ : ∃ Wa, W.alloc (.cells #[.slice ba LB bcap, .slice none 0 0, .string ⟨#[]⟩, .int .u64 0, .int .i64 0, .slice none 0 0] 88) = Wa := ⟨_, rfl⟩
  have hBa : Below W.heap.size W Wa := by rw [← hWa]; exact (Below.refl _ _).alloc (Nat.le_refl _) _
  rw [hWa] at hR0
  have hBwa : Below w.heap.size w Wa := hW.trans (hBa.mono hwW)
  have HWa : Hid (W.alloc (.cells #[.slice ba LB bcap, .slice none 0 0, .string ⟨#[]⟩, .int .u64 0, .int .i64 0, .slice none 0 0] 88) = Wa) := hWa
  clear hWa
  have HBe := behind_any (h.below hBwa) hS hr K hP
  obtain ⟨i0, hi0⟩ : ∃ i0 : Nat, (if l.length = 0 then 0 else bhn how r l K : Nat) = i0 := ⟨_, rfl⟩
  rw [hi0] at HBe
  obtain ⟨d1, d2, d3, d4, d5⟩ := HK2.out Wa hBwa
  obtain ⟨a1, a2, a3, a4, a5⟩ := HK2.out W hW
  have a6 := hBlW.blk.cell1 1 _ rfl
  have hZ0 : ∀ X, Below Wa.heap.size Wa X → Zt w W X r l 0 [] ba bcap (.slice none 0 0) ⟨#[]⟩ 0 0 (.slice none 0 0) := fun X hX => ⟨by rw [rs_zero]; exact hR0.below hX, .inr ⟨rfl, Nat.zero_mod r⟩, hBwa.trans (hX.mono hBwa.size)⟩
  have HJ0 : Hid (∀ X, Below Wa.heap.size Wa X → J [] X) := fun X hX => hJ [] W X h0 (hBa.trans (hX.mono hBa.size))
  have HZ0 : Hid (∀ X, Below Wa.heap.size Wa X → Zt w W X r l 0 [] ba bcap (.slice none 0 0) ⟨#[]⟩ 0 0 (.slice none 0 0)) := hZ0
  have HBl : Hid (Bl w xb how r l ba LB bcap pa PN pc N ∧ Below w.heap.size w Wa ∧ Below W.heap.size W Wa ∧ l.length = N ∧ Srt how l ∧ 1 ≤ r ∧ ahd how l K = p) := ⟨h, hBwa, hBa, hNN, hS, hr, hp⟩
  have HI0 : Hid ((if l.length = 0 then 0 else bhn how r l K : Nat) = i0) := hi0
  have hi0b : i0 ≤ 100000 := by
    have := bhn_le how r l K
    have h2 := h.pl
    rw [← hi0]
    split <;> omega
  clear hBlW hR0 hBwa hold hAW hZ0 h c1 c2 hJ hJx hY hAs hi0 hBa hwl hbb hNN hp h0
  refine callsIn_of_wp Try.func51 rfl trivial ?_ rfl
  simp only [Try.ntmps51, List.size_toArray, List.length_cons, List.length_nil, Nat.reduceAdd, Nat.reduceSub, Array.replicate_succ, Array.replicate_zero, List.push_toArray, List.append_toArray, List.nil_append, List.cons_append]
  gi_upto_region 1 with fail
  rw [HWa.out]
  gi_upto_if 15 with (gi_at_call 52; refine (callsIn_wide.2 HBe).mono ?_; rintro e WS ⟨rfl, hbS⟩)
  have HBS : Hid (Below Wa.heap.size Wa WS) := hbS
  clear hbS HBe a1 a2 a3 a4 a5 a6 d1 d2 d3 d4 d5
  gi_cut [] from 16 (fun wc => Hid (∃ q, q ≤ N ∧ q ≤ p ∧ ∃ ra rc kv u s k vv, Zt w W wc r l q [] ra rc kv u s k vv ∧ J [] wc))
  case first =>
    rcases Nat.eq_zero_or_pos i0 with hi | hi
    · subst hi
      gi_wp2
      go_meet
      case rel => exact ⟨0, Nat.zero_le _, Nat.zero_le _, _, _, _, _, _, _, _, HZ0.out _ HBS.out, HJ0.out _ HBS.out⟩
    · obtain ⟨j, rfl⟩ : ∃ j, i0 = j + 1 := ⟨i0 - 1, by omega⟩
      have hl0 : l.length ≠ 0 := fun e => by have := HI0.out; rw [if_pos e] at this; omega
      have hbn : bhn how r l K = j + 1 := by have := HI0.out; rw [if_neg hl0] at this; exact this
      have hjP : j < PN := by have := bhn_le how r l K; rw [HBl.out.1.pl] at this; omega
      have hBS : Below w.heap.size w WS := HBl.out.2.1.trans (HBS.out.mono HBl.out.2.1.size)
      obtain ⟨g, o, m, hpa, hg, hgc, hm, hrl, hA, hmc, hj2, hold⟩ := HBl.out.1.whole HBl.out.2.2.2.2.2.1 hl0 hjP
      have hblk := HBl.out.1.blk
      subst hpa
      have x1 : WS.cell? ⟨xb, 1, none⟩ = some (.slice ba LB bcap) := by rw [hBS.cell (p := ⟨xb, 1, none⟩) hblk.lt]; exact hblk.cell1 1 _ rfl
      have x2 : WS.cell? ⟨xb, 2, none⟩ = some (.slice (some ⟨g, o, none⟩) PN pc) := by rw [hBS.cell (p := ⟨xb, 2, none⟩) hblk.lt]; exact hblk.cell1 2 _ rfl
      have x3 : WS.cell? ⟨g, o + j, none⟩ = some (.int .u32 m) := by rw [hBS.cell (p := ⟨g, o + j, none⟩) hg]; exact hgc
      obtain ⟨k1, k2, k3, k4, k5⟩ := HK2.out WS hBS
      have hz := HZ0.out WS HBS.out
      have r0 := hz.rst.blk.cell1 0 _ rfl
      have f0 := hz.rst.blk.frozen 0
      have hjz : (j : Int) < (PN : Int) := by omega
      have hj1 : ((j : Int) + 1 - 1) = j := by omega
      have hjw : IntKind.i64.wrap (j : Int) = j := by rw [IntKind.wrap_i64]; omega
      have hjw2 : IntKind.i64.wrap ((j : Int) + 1 - 1) = j := by rw [IntKind.wrap_i64]; omega
      have hpos : (0 : Int) < (j : Int) + 1 := by omega
      have hcu := fun X => bcut_lou ba LB bcap m hm X
      have HGo : Hid (∃ q, q ≤ N ∧ q ≤ p ∧ ∃ ra rc kv u s k vv, Zt w W ((WS.setCell ⟨W.heap.size, 0, none⟩ (.slice (cutA ba bcap m) (LB - m) (bcap - m))).drew) r l q [] ra rc kv u s k vv ∧ J [] ((WS.setCell ⟨W.heap.size, 0, none⟩ (.slice (cutA ba bcap m) (LB - m) (bcap - m))).drew)) := by
        have hbg := bgn_ahd HBl.out.2.2.2.2.2.1 HBl.out.2.2.2.2.1 hl0 K
        unfold bgn at hbg
        rw [hbn, Nat.add_sub_cancel] at hbg
        have hbt : (bt r l (j * r)).length = m := by
          have h1 := rs_len (r := r) (l := l) (i := j * r) (by omega)
          have h2 : (bt r l l.length).length = LB := HBl.out.1.arg.1
          omega
        have hadv := hz.rst.adv (n := m) (by rw [rs_zero]; have h2 : (bt r l l.length).length = LB := HBl.out.1.arg.1; omega)
        have hln : (rs r l 0).length = LB := by rw [rs_zero]; exact HBl.out.1.arg.1
        rw [hln] at hadv
        have hdr : (rs r l 0).drop m = rs r l (j * r) := by rw [rs_zero, ← hbt]; rfl
        rw [hdr] at hadv
        have hBX : Below W.heap.size WS (WS.setCell ⟨W.heap.size, 0, none⟩ (.slice (cutA ba bcap m) (LB - m) (bcap - m))) := hadv.2.below (fun k hk => Nat.lt_trans hk hz.lt) (fun k hk => by omega)
        have hjj := HJ.out [] _ _ (HJ0.out WS HBS.out) hBX.drew
        refine ⟨j * r, by rw [← HBl.out.2.2.2.1]; omega, by rw [← HBl.out.2.2.2.2.2.2]; exact hbg.1, _, _, _, _, _, _, _, ⟨hadv.1.below ((Below.refl _ _).drew), .inr ⟨rfl, Nat.mul_mod_left j r⟩, (hBS.trans (hBX.mono hwW)).drew⟩, hjj⟩
      clear hz hblk hA hold hbn hgc HZ0 hrl
      gi_upto_region 3 with fail
      gi_region
      all_goals
        gi_wp2
        gi_meet
        case rel => exact HGo.out
  case rest =>
    obtain ⟨q, hqN, hqp, hZq⟩ := hcut.out
    clear hcut
    have HZ : Hid _ := hZq
    clear hZq
    gi_wp2
    gi_loopg [] (N - q) (fun g wr => ∃ i : Nat, g = N - i ∧ q ≤ i ∧ i ≤ N ∧ Hid (∃ ky ra rc kv u s k vv, Zt w W wr r l i ky ra rc kv u s k vv ∧ J ((l.drop p).take (i - p)) wr))
    case atStart =>
      obtain ⟨ra, rc, kv, u, s, k, vv, hz, hj⟩ := HZ.out
      exact ⟨q, rfl, Nat.le_refl _, hqN, [], ra, rc, kv, u, s, k, vv, hz, by rw [show q - p = 0 by omega]; exact hj⟩
    case round =>
      clear HZ
      obtain ⟨i, rfl, hqi, hiN, HI⟩ := hrel
      obtain ⟨ky, ra, rc, kv, u, s, k, vv, hz, hj⟩ := HI.out
      have HM := callsIn_wide (n := n - 1) |>.2 (more_any hz.rst)
      rcases Nat.lt_or_ge i N with hlt | hge
      · have hil : i < l.length := by rw [HF.out.2.2]; exact hlt
        obtain ⟨e, he⟩ : ∃ e, l[i]? = some e := ⟨_, List.getElem?_eq_getElem hil⟩
        have hd : decide (0 < (rs r l i).length) = true := by simpa using rs_pos (r := r) (l := l) hil
        rw [hd] at HM
        have HN := callsIn_wide (n := n - 1) |>.2 (hz.next he HF.out.1 HF.out.2.1)
        have HAe := HAs.out i e he
        obtain ⟨od, hod⟩ : ∃ od, Hid (ordE how e K = od) := ⟨_, rfl⟩
        rw [hod.out] at HAe
        have HOp : Hid (∀ X, Calls Try.prog 22 #[.int .i64 how, .agg #[.string e.u, .int .u64 e.s, .int .i64 e.k], .agg #[.string K.u, .int .u64 K.s, .int .i64 K.k]] X fun x w' => x = .returned (.int .i64 od) ∧ Below X.heap.size X w') := fun X => by rw [← hod.out]; exact HOr.out e X
        have HO : Hid (∀ X, CallsIn Fence.wide (n - 1) Try.prog 22 #[.int .i64 how, .agg #[.string e.u, .int .u64 e.s, .int .i64 e.k], .agg #[.string K.u, .int .u64 K.s, .int .i64 K.k]] X fun x w' => x = .returned (.int .i64 od) ∧ Below X.heap.size X w') := fun X => callsIn_wide.2 (by rw [← hod.out]; exact HOr.out e X)
        clear hd
        gi_upto_region 6 with (first
          | (gi_at_call 53; refine HM.mono ?_; rintro x w1 ⟨rfl, hw⟩; have hw1 := hw.symm; subst hw1; clear hw)
          | (gi_at_call 54; refine HN.mono ?_; rintro x w2 ⟨cm, rfl, kv', rx, cx, ry, cy, z2, v2, b2⟩))
        obtain ⟨k1, k2, k3, k4, k5⟩ := HK2.out w2 z2.bel
        have r2 := z2.rst.blk.cell1 2 _ rfl
        have r3 := z2.rst.blk.cell1 3 _ rfl
        have r4 := z2.rst.blk.cell1 4 _ rfl
        have HZ2 : Hid (Zt w W w2 r l (i + 1) (kP l (i + 1)) ry cy kv' e.u e.s e.k (.slice rx e.v.size cx) ∧ Arg w2 rx e.v.size cx (sb e.v) ∧ J ((l.drop p).take (i - p)) w2) := ⟨z2, v2, HJ.out _ _ _ hj b2⟩
        have HEi : Hid (i < N ∧ l[i]? = some e) := ⟨hlt, he⟩
        clear z2 v2 b2 hz hj HI HM HN he hil
        rcases Nat.lt_or_ge i p with hip | hip
        · have hd1 : decide (0 ≤ od) = false := by rw [HAe]; exact decide_eq_false (by omega)
          have hd2 : ¬ 0 ≤ od := by simpa using hd1
          clear HAe
          refine wpIn_wide.2 ?_
          first | go_region_law (
            (refine step_call22 (by rfl) (by rfl) _ _ _ _ (by rfl) _ _ _ (by rfl) (by rfl) (by rfl) (HOp.out _) ?_
             rintro x w3 ⟨rfl, hb3⟩
             refine ⟨_, rfl, ?_⟩
             have HB3 : Hid (Below w2.heap.size w2 w3) := ((Below.refl _ _).drew).trans hb3
             clear hb3)) | fail
          all_goals
            gi_wp2
            gi_roundg (N - (i + 1))
            case rel =>
              have hz3 := HZ2.out.1.below HB3.out
              have hsz := HZ2.out.1.lt
              refine ⟨i + 1, rfl, by omega, by have := HEi.out.1; omega, _, _, _, _, _, _, _, _, hz3, ?_⟩
              rw [show i + 1 - p = 0 by omega]
              have hj3 := HJ.out _ _ _ HZ2.out.2.2 (HB3.out.mono (Nat.le_of_lt hsz))
              rw [show i - p = 0 by omega] at hj3
              exact hj3
            case measure => have := HEi.out.1; omega
        · have hd1 : decide (0 ≤ od) = true := by rw [HAe]; exact decide_eq_true hip
          have hd2 : 0 ≤ od := by simpa using hd1
          clear HAe
          have HPre : Hid ((l.drop p).take (i + 1 - p) = (l.drop p).take (i - p) ++ [e]) := drop_take_step HEi.out.2 hip
          gi_region_with (first
            | (gi_at_call 22; refine (HO.out _).mono ?_; rintro x w3 ⟨rfl, hb3⟩
               have HB3 : Hid (Below w2.heap.size w2 w3) := ((Below.refl _ _).drew).trans hb3
               have HE3 := callsIn_wide (n := n - 1) |>.2 (entry55 (HZ2.out.1.below HB3.out).rst (HZ2.out.2.1.below HB3.out))
               clear hb3)
            | (gi_at_call 55; refine HE3.mono ?_; rintro x w4 ⟨rfl, hb4⟩
               have HB4 : Hid (Below w2.heap.size w2 w4) := HB3.out.trans (hb4.mono HB3.out.size)
               have hsz := HZ2.out.1.lt
               have hj4 := HJ.out _ _ _ HZ2.out.2.2 (HB4.out.mono (Nat.le_of_lt hsz))
               obtain ⟨fn, tmps, assign, body, hy, hR⟩ := HY.out _ e w4 (by rw [← HPre.out]; exact List.take_prefix _ _) (Nat.le_trans (Nat.le_of_lt hsz) HB4.out.size) hj4
               have hRb := hR.mono (R' := fun e' W' => ∃ b, e' = .returned (.bool b) ∧ Hid ((b = true → J ((l.drop p).take (i - p) ++ [e]) W' ∧ Kz w.heap.size W.heap.size w4 W') ∧ (b = false → Jx ((l.drop p).take (i - p) ++ [e]) W'))) (fun e' W' hh => by
                 rcases hh with ⟨rfl, h1, h2⟩ | ⟨rfl, h1⟩
                 · exact ⟨true, rfl, fun _ => ⟨h1, h2⟩, fun h => by cases h⟩
                 · exact ⟨false, rfl, fun h => (by cases h), fun _ => h1⟩)
               clear hR hb4 hsz hj4)
            | (refine hRb.mono ?_; rintro x w5 ⟨b, rfl, HB5⟩))
          all_goals
            cases b with
            | true =>
              gi_wp2
              gi_roundg (N - (i + 1))
              case rel =>
                obtain ⟨hj5, hk5⟩ := HB5.out.1 (by first | rfl | trivial)
                refine ⟨i + 1, rfl, by omega, by have := HEi.out.1; omega, _, _, _, _, _, _, _, _, (HZ2.out.1.below HB4.out).kz hk5, ?_⟩
                rw [HPre.out]; exact hj5
              case measure => have := HEi.out.1; omega
            | false =>
              gi_wp2
              refine bodyPost_ret (results_none rfl _ _ _) rfl ?_
              exact ⟨⟨_, rfl⟩, .inr ⟨_, by rw [← HPre.out]; exact List.take_prefix _ _, by simp, HB5.out.2 (by first | rfl | trivial)⟩⟩
      · obtain rfl : i = N := by omega
        have hnil : rs r l i = [] := by rw [← HF.out.2.2]; exact rs_end r l
        have hd : decide (0 < (rs r l i).length) = false := by rw [hnil]; rfl
        rw [hd] at HM
        have HD : Hid (J (l.drop p) wr) := by
          have := hj
          rw [List.take_of_length_le (by rw [List.length_drop, HF.out.2.2]; omega)] at this
          exact this
        clear hz hj HI hd hnil
        gi_wp2_with (gi_at_call 53; refine HM.mono ?_; rintro x w1 ⟨rfl, hw⟩; have hw1 := hw.symm; subst hw1; clear hw)
        go_end0
        exact ⟨⟨_, rfl⟩, .inl HD.out⟩
end Go.Proofs.Ytbnllobofndckaa
