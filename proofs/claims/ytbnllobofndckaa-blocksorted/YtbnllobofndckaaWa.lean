import Derived.Test.YtbnllobofndckaaPy
namespace Go.Proofs.Ytbnllobofndckaa
open Go.RowKit
set_option linter.unusedVariables false
set_option linter.unusedSimpArgs false
/-- An append whose run is known, in a region of a fenced walk. -/
theorem operIn_append {F : Fence} {n : Nat} {P : Program} {w : World} {o : Oper} {a : Act} {K : Act → World → Prop} {Q : Exit → Act → World → Prop} (s x : Operand) (t tx : TypeId)
    (ho : o.op = .call { callee := .builtin .append, args := #[s, x], argTypes := #[t, tx] }) {v u : Value} (hs : a.eval s = v) (hx : a.eval x = u) {v' : Value} {w' : World}
    (hr : (Builtin.append_ #[t, tx] o.type #[v, u]).run P w = .ok v' w') (h : K (a.put o.dst v') w') : o.wpIn F n P a w K Q := by
  unfold Oper.wpIn
  refine ⟨by simp [Oper.about, ho, resolve, Target.leads, Sem.run_pure], ?_⟩
  rw [Oper.semAt_plain F _ _ (by rw [ho]; intro c hc'; cases hc')]
  simp [execOp, ho, resolve, invoke, builtin, hs, hx, hr, Result.andThen]
  exact h
theorem wpListIn_append_run {F : Fence} {n : Nat} {P : Program} {w : World} {ops : Array Oper} {rest : List Oper} {o : Oper} {a : Act} {Q : Exit → Act → World → Prop} (hgd : o.guard = none) (s x : Operand) (t tx : TypeId)
    (ho : o.op = .call { callee := .builtin .append, args := #[s, x], argTypes := #[t, tx] }) {v u : Value} (hs : a.eval s = v) (hx : a.eval x = u) {v' : Value} {w' : World}
    (hr : (Builtin.append_ #[t, tx] o.type #[v, u]).run P w = .ok v' w') (h : wpListIn F n P ops Q rest (a.put o.dst v') w') : wpListIn F n P ops Q (o :: rest) a w :=
  wpListIn_plain hgd fun K hK => operIn_append s x t tx ho hs hx hr (hK _ _ h)
theorem cfixed32_own (n : Int) (w : World) (h0 : 0 ≤ n) (h1 : n < 4294967296) :
    Calls Try.prog 59 #[.int .u32 n] w fun e w' => ∃ v, e = .returned v ∧ OwnB w' w.heap.size v (byts 4 n) ∧ Below w.heap.size w w' := by
  refine (cfixed32_any n w h0 h1).mono ?_
  rintro e w' ⟨rfl, rfl⟩
  exact ⟨_, rfl, OwnB.ofBlock w w.heap.size (byts 4 n) [] (fxA 4 n 4) (0, 0) (by rw [fxA_bc, List.append_nil]; rfl) (Nat.le_refl _) (.inl rfl) (by rw [byts_len]; simp [maxLen]) 4 (by rw [byts_len]; rfl), (Below.refl _ _).alloc (Nat.le_refl _) _⟩
/-- The bytes and the places of pieces. -/
def stp (p : List Int × List Int) (x : Px) : List Int × List Int := (p.1 ++ pcB x.cm x.lf x.v, p.2 ++ (if x.wh = true then byts 4 p.1.length else []))
def stx (l : List Px) : List Int × List Int := l.foldl stp ([], [])
theorem stx_snoc (l : List Px) (x : Px) : stx (l ++ [x]) = stp (stx l) x := by simp [stx]
theorem stx_bt (r : Nat) (l : List Ent) : ∀ (i : Nat) (xs : List Px), xs.map Px.dat = (List.range i).map (dat r l) → stx xs = (bt r l i, pl r l i)
  | 0, xs, h => by
    have : xs = [] := by simpa using h
    subst this; rfl
  | i + 1, xs, h => by
    rw [List.range_succ, List.map_append] at h
    obtain ⟨ys, zs, rfl, h1, h2⟩ := List.map_eq_append_iff.1 h
    obtain ⟨z, rfl, hz⟩ : ∃ z, zs = [z] ∧ Px.dat z = dat r l i := by
      cases zs with
      | nil => simp at h2
      | cons z zs =>
        cases zs with
        | nil => simp at h2; exact ⟨z, rfl, h2⟩
        | cons y ys => simp at h2
    rw [stx_snoc, stx_bt r l i ys h1]
    unfold Px.dat dat at hz
    simp only [Prod.mk.injEq] at hz
    obtain ⟨e1, e2, e3, e4⟩ := hz
    unfold stp
    rw [e1, e2, e3, e4]
    simp only [decide_eq_true_eq]
    rfl
/-- The two boxes and their rows while a block is written. -/
structure Wq (W0 : World) (bx px rb base : Nat) (B P : List Int) (bv pv : Value) (W : World) : Prop where
  b1 : Blk W bx 23 [bv]
  p1 : Blk W px 23 [pv]
  ob : OwnB W base bv B
  op : OwnB W base pv P
  lb : ∀ k, bv.ownBlock = some k → k = rb ∨ W0.heap.size ≤ k
  lp : ∀ k, pv.ownBlock = some k → W0.heap.size ≤ k
  ne : ∀ k, bv.ownBlock = some k → pv.ownBlock ≠ some k
  upd : Upd (fun k => k = bx ∨ k = px ∨ k = rb) W0 W
  cb : ∀ k, bv.ownBlock = some k → ∃ c t f, W.heap[k]? = some (.cells c t f)
  cp : ∀ k, pv.ownBlock = some k → ∃ c t f, W.heap[k]? = some (.cells c t f)
theorem own_cells {w : World} {base : Nat} {v : Value} {l : List Int} (h : OwnB w base v l) (hl : 0 < l.length) {k : Nat} (hk : v.ownBlock = some k) : ∃ c t f, w.heap[k]? = some (.cells c t f) := by
  rcases h with ⟨rfl, rfl⟩ | ⟨b, off, cap, rfl, _, _, _, _, h5, _⟩
  · simp at hl
  · cases hk
    exact cell_block (h5 0 hl)
/-- In a world that is the same where they lie. -/
theorem Wq.same {W0 : World} {bx px rb base : Nat} {B P : List Int} {bv pv : Value} {W W' : World} (h : Wq W0 bx px rb base B P bv pv W) {S : Nat → Prop} (u : Upd S W W') (hS : ∀ k, k < W0.heap.size → ¬ S k) (h1 : ¬ S bx) (h2 : ¬ S px) (h3 : ∀ k, bv.ownBlock = some k → ¬ S k) (h4 : ∀ k, pv.ownBlock = some k → ¬ S k) : Wq W0 bx px rb base B P bv pv W' :=
  ⟨h.b1.upd u h1, h.p1.upd u h2, h.ob.upd u h3, h.op.upd u h4, h.lb, h.lp, h.ne, h.upd.then u (fun i hi hs => absurd hs (hS i hi)), fun k hk => by rw [u.block k (h.ob.lt k hk).2 (h3 k hk)]; exact h.cb k hk, fun k hk => by rw [u.block k (h.op.lt k hk).2 (h4 k hk)]; exact h.cp k hk⟩
theorem Wq.below {W0 : World} {bx px rb base : Nat} {B P : List Int} {bv pv : Value} {W W' : World} (h : Wq W0 bx px rb base B P bv pv W) (hb : Below W.heap.size W W') : Wq W0 bx px rb base B P bv pv W' :=
  h.same (S := Non) (Upd.ofBelow hb) (fun _ _ => id) id id (fun _ _ => id) (fun _ _ => id)
/-- A place more. -/
theorem Wq.place {W0 : World} {bx px rb base : Nat} {B P P' : List Int} {bv pv v' : Value} {W w6 : World} (h : Wq W0 bx px rb base B P bv pv W) (hx : bx ≠ px) (hb : bx < W0.heap.size) (hp : px < W0.heap.size) (hr : rb < W0.heap.size) (hrb : rb ≠ bx) (hrp : rb ≠ px) (ha : AppB W w6 base pv v' P') (hP : 0 < P'.length) :
    Wq W0 bx px rb base B P' bv v' (w6.setCell ⟨px, 0, none⟩ v') ∧ Upd (fun k => k = bx ∨ k = px ∨ bv.ownBlock = some k ∨ pv.ownBlock = some k) W (w6.setCell ⟨px, 0, none⟩ v') := by
  have hpo : ∀ k, pv.ownBlock = some k → W0.heap.size ≤ k := h.lp
  have hv' : ∀ k, v'.ownBlock = some k → W0.heap.size ≤ k := fun k hk => by
    rcases ha.loc with e | e
    · exact hpo k (by rw [← e]; exact hk)
    · exact Nat.le_trans h.upd.size (e k hk)
  have u2 : Upd (fun k => k = px) w6 (w6.setCell ⟨px, 0, none⟩ v') := (Upd.refl (fun k => k = px) w6).setCell (p := ⟨px, 0, none⟩) (fun _ => rfl) _
  refine ⟨⟨(h.b1.upd ha.upd (fun e => by have := hpo _ e; omega)).upd u2 hx, (h.p1.upd ha.upd (fun e => by have := hpo _ e; omega)).set 0 v', (h.ob.upd ha.upd (fun k hk => fun e => h.ne k hk e)).upd u2 (fun k hk e => ?_), ha.own.upd u2 (fun k hk e => by have := hv' k hk; omega), h.lb, hv', fun k hk e => ?_, ?_, fun k hk => ?_, fun k hk => ?_⟩, ?_⟩
  · subst e
    rcases h.lb _ hk with e | e <;> omega
  · rcases ha.loc with e' | e'
    · rw [e'] at e; exact h.ne k hk e
    · have := e' k e
      have := (h.ob.lt k hk).2
      omega
  · exact (h.upd.then ha.upd (fun i hi hs => by have := hpo i hs; omega)).then u2 (fun i _ hi => .inr (.inl hi))
  · rw [u2.block k (Nat.lt_of_lt_of_le (h.ob.lt k hk).2 ha.upd.size) (fun e => by have := h.lb k hk; omega), ha.upd.block k (h.ob.lt k hk).2 (fun e => h.ne k hk e)]
    exact h.cb k hk
  · rw [u2.block k (ha.own.lt k hk).2 (fun e => by have := hv' k hk; omega)]
    exact own_cells ha.own hP hk
  · exact (ha.upd.mono (fun k _ hk => .inr (.inr (.inr hk)))).then u2 (fun i _ hi => .inr (.inl hi))
/-- Bytes more. -/
theorem Wq.bytes {W0 : World} {bx px rb base : Nat} {B P B' : List Int} {bv pv v' : Value} {W w6 : World} (h : Wq W0 bx px rb base B P bv pv W) (hx : bx ≠ px) (hb : bx < W0.heap.size) (hp : px < W0.heap.size) (hr : rb < W0.heap.size) (hrb : rb ≠ bx) (hrp : rb ≠ px) (ha : AppB W w6 base bv v' B') (hP : 0 < B'.length) :
    Wq W0 bx px rb base B' P v' pv (w6.setCell ⟨bx, 0, none⟩ v') ∧ Upd (fun k => k = bx ∨ k = px ∨ bv.ownBlock = some k ∨ pv.ownBlock = some k) W (w6.setCell ⟨bx, 0, none⟩ v') := by
  have hbo : ∀ k, bv.ownBlock = some k → k = rb ∨ W0.heap.size ≤ k := h.lb
  have hv' : ∀ k, v'.ownBlock = some k → k = rb ∨ W0.heap.size ≤ k := fun k hk => by
    rcases ha.loc with e | e
    · exact hbo k (by rw [← e]; exact hk)
    · exact .inr (Nat.le_trans h.upd.size (e k hk))
  have u2 : Upd (fun k => k = bx) w6 (w6.setCell ⟨bx, 0, none⟩ v') := (Upd.refl (fun k => k = bx) w6).setCell (p := ⟨bx, 0, none⟩) (fun _ => rfl) _
  refine ⟨⟨(h.b1.upd ha.upd (fun e => by have := hbo _ e; omega)).set 0 v', (h.p1.upd ha.upd (fun e => by have := hbo _ e; omega)).upd u2 (Ne.symm hx), ha.own.upd u2 (fun k hk e => by have := hv' k hk; omega), (h.op.upd ha.upd (fun k hk => fun e => h.ne k e hk)).upd u2 (fun k hk e => by have := h.lp k hk; omega), hv', h.lp, fun k hk e => ?_, ?_, fun k hk => ?_, fun k hk => ?_⟩, ?_⟩
  · rcases ha.loc with e' | e'
    · rw [e'] at hk; exact h.ne k hk e
    · have := e' k hk
      have := (h.op.lt k e).2
      omega
  · exact (h.upd.then ha.upd (fun i hi hs => by have := hbo i hs; omega)).then u2 (fun i _ hi => .inl hi)
  · rw [u2.block k (ha.own.lt k hk).2 (fun e => by have := hv' k hk; omega)]
    exact own_cells ha.own hP hk
  · rw [u2.block k (Nat.lt_of_lt_of_le (h.op.lt k hk).2 ha.upd.size) (fun e => by have := h.lp k hk; omega), ha.upd.block k (h.op.lt k hk).2 (fun e => h.ne k e hk)]
    exact h.cp k hk
  · exact (ha.upd.mono (fun k _ hk => .inr (.inr (.inl hk)))).then u2 (fun i _ hi => .inl hi)
/-- What stands while a block is written. -/
structure Wv (W0 : World) (bx px rb base : Nat) (pre : List Px) (W : World) : Prop where
  ex : ∃ bv pv, Wq W0 bx px rb base (stx pre).1 (stx pre).2 bv pv W
  bd : (stx pre).1.length ≤ pre.length * 17500
  bp : (stx pre).2.length ≤ pre.length * 4
theorem some_block {W : World} {b o : Nat} (h : (W.cell? ⟨b, o, none⟩).isSome = true) : ∃ c t f, W.heap[b]? = some (.cells c t f) := by
  obtain ⟨v, hv⟩ := Option.isSome_iff_exists.1 h
  exact cell_block hv
theorem frozen_of_block {W W' : World} {b o : Nat} (h : W'.heap[b]? = W.heap[b]?) : W'.frozen? ⟨b, o, none⟩ = W.frozen? ⟨b, o, none⟩ := by
  unfold World.frozen?; rw [h]
theorem OwnB.kept {X Y : World} {base : Nat} {v : Value} {l : List Int} (h : OwnB X base v l) {row : Option Nat} (hg : X.grownBy Y row) (hr : ∀ r, row = some r → ∃ o : Obj, X.heap[r]? = some o ∧ o.isCells = false) : OwnB Y base v l := by
  rcases h with ⟨rfl, rfl⟩ | ⟨b, off, cap, rfl, h1, h2, h3, h4, h5, h6⟩
  · exact .inl ⟨rfl, rfl⟩
  · have key : (∃ c t f, X.heap[b]? = some (.cells c t f)) → Y.heap[b]? = X.heap[b]? := fun ⟨c, t, f, e⟩ => hg.block b h2 (fun e' => by
      obtain ⟨o, ho, hc⟩ := hr b e'.symm
      rw [e] at ho; cases ho; cases hc)
    refine .inr ⟨b, off, cap, rfl, h1, Nat.lt_of_lt_of_le h2 hg.size, h3, h4, fun j hj => ?_, fun j hj hj' => ?_⟩
    · rw [cell_of_block (key (cell_block (h5 j hj)))]; exact h5 j hj
    · have hk := key (some_block (h6 j hj hj').1)
      rw [cell_of_block hk, frozen_of_block hk]; exact h6 j hj hj'
theorem Wq.kept {W0 : World} {bx px rb base : Nat} {B P : List Int} {bv pv : Value} {X Y : World} (h : Wq W0 bx px rb base B P bv pv X) (hbx : bx < W0.heap.size) (hpx : px < W0.heap.size) {row : Option Nat} (hg : X.grownBy Y row) (hr : ∀ r, row = some r → W0.heap.size ≤ r ∧ ∃ o : Obj, X.heap[r]? = some o ∧ o.isCells = false) : Wq W0 bx px rb base B P bv pv Y := by
  have u : Upd (fun k => row = some k) X Y := (Upd.refl _ _).grown hg (fun k hk _ => hk)
  have hr' : ∀ r, row = some r → ∃ o : Obj, X.heap[r]? = some o ∧ o.isCells = false := fun r e => (hr r e).2
  refine ⟨h.b1.upd u (fun e => by have := (hr _ e).1; omega), h.p1.upd u (fun e => by have := (hr _ e).1; omega), h.ob.kept hg hr', h.op.kept hg hr', h.lb, h.lp, h.ne, h.upd.then u (fun k hk e => by have := (hr k e).1; omega), fun k hk => ?_, fun k hk => ?_⟩
  · obtain ⟨c, t, f, e⟩ := h.cb k hk
    exact ⟨c, t, f, (u.block k (h.ob.lt k hk).2 (fun e' => by obtain ⟨o, ho, hc⟩ := hr' _ e'; rw [e] at ho; cases ho; cases hc)).trans e⟩
  · obtain ⟨c, t, f, e⟩ := h.cp k hk
    exact ⟨c, t, f, (u.block k (h.op.lt k hk).2 (fun e' => by obtain ⟨o, ho, hc⟩ := hr' _ e'; rw [e] at ho; cases ho; cases hc)).trans e⟩
theorem Wv.own {W0 : World} {bx px rb base C : Nat} (hC : W0.heap.size ≤ C) (hbx : bx < W0.heap.size) (hpx : px < W0.heap.size) : OwnFrom C (fun (pre : List Px) W => Wv W0 bx px rb base pre W) := fun s X Y row hs hg hr => by
  obtain ⟨bv, pv, h⟩ := hs.ex
  exact ⟨⟨bv, pv, h.kept hbx hpx hg (fun r e => ⟨Nat.le_trans hC (hr r e).1, (hr r e).2⟩)⟩, hs.bd, hs.bp⟩
theorem Arg.grownK {X Y : World} {a : Option Addr} {n c : Nat} {l : List Int} (h : Arg X a n c l) {row : Option Nat} (hg : X.grownBy Y row) (hr : ∀ r, row = some r → ∃ o : Obj, X.heap[r]? = some o ∧ o.isCells = false) : Arg Y a n c l := by
  obtain ⟨h1, h2, h3, h4⟩ := h
  refine ⟨h1, h2, h3, ?_⟩
  rcases h4 with h4 | ⟨b, off, e, hlt, hc⟩
  · exact .inl h4
  · refine .inr ⟨b, off, e, Nat.lt_of_lt_of_le hlt hg.size, fun j hj => ?_⟩
    obtain ⟨c', t, f, hx⟩ := cell_block (hc j hj)
    rw [cell_of_block (hg.block b hlt (fun e' => by obtain ⟨o, ho, hc⟩ := hr b e'.symm; rw [hx] at ho; cases ho; cases hc))]
    exact hc j hj
theorem Wv.below {W0 : World} {bx px rb base : Nat} {pre : List Px} {W W' : World} (h : Wv W0 bx px rb base pre W) (hb : Below W.heap.size W W') : Wv W0 bx px rb base pre W' := by
  obtain ⟨bv, pv, q⟩ := h.ex
  exact ⟨⟨bv, pv, q.below hb⟩, h.bd, h.bp⟩
/-- What a round of writing keeps. -/
theorem Wq.keeps {W0 : World} {bx px rb base : Nat} {B P : List Int} {bv pv : Value} {W W' : World} (h : Wq W0 bx px rb base B P bv pv W) (hbx : bx < W0.heap.size) (hpx : px < W0.heap.size) (hrx : rb < W0.heap.size) {Bs : Nat → Prop} (hB : ∀ k, Bs k → k < W0.heap.size ∧ k ≠ bx ∧ k ≠ px ∧ k ≠ rb) {x : Px}
    (hxb : ∀ k, bv.ownBlock = some k → k ≠ x.b) (hxp : ∀ k, pv.ownBlock = some k → k ≠ x.b) (hx1 : x.b ≠ bx) (hx2 : x.b ≠ px) (u : Upd (fun k => k = bx ∨ k = px ∨ bv.ownBlock = some k ∨ pv.ownBlock = some k) W W') : Kx Bs x W W' := by
  refine ⟨u.size, fun k hk => u.block k ?_ ?_, fun c t f e => u.block _ (Array.getElem?_eq_some_iff.1 e).1 ?_⟩
  · have := (hB k hk).1; have := h.upd.size; omega
  · obtain ⟨h1, h2, h3, h4⟩ := hB k hk
    rintro (e | e | e | e)
    · exact h2 e
    · exact h3 e
    · have := h.lb k e; omega
    · have := h.lp k e; omega
  · rintro (e | e | e | e)
    · exact hx1 e
    · exact hx2 e
    · exact hxb _ e rfl
    · exact hxp _ e rfl
theorem Wq.keepsF {W0 : World} {bx px rb base : Nat} {B P : List Int} {bv pv : Value} {W W' : World} (h : Wq W0 bx px rb base B P bv pv W) (u : Upd (fun k => k = bx ∨ k = px ∨ bv.ownBlock = some k ∨ pv.ownBlock = some k) W W') (C : Nat) : KeepsFrom C W W' := by
  refine ⟨u.size, fun k o _ hk ho => (u.block k (Array.getElem?_eq_some_iff.1 hk).1 ?_).trans hk⟩
  rintro (e | e | e | e)
  · have := h.b1
    unfold Blk at this
    rw [e, this] at hk; cases hk; cases ho
  · have := h.p1
    unfold Blk at this
    rw [e, this] at hk; cases hk; cases ho
  · obtain ⟨c, t, f, e'⟩ := h.cb k e
    rw [e'] at hk; cases hk; cases ho
  · obtain ⟨c, t, f, e'⟩ := h.cp k e
    rw [e'] at hk; cases hk; cases ho
/-- A round's end: the piece joined. -/
theorem Wq.ends {W0 : World} {bx px rb base : Nat} {B P P' : List Int} {bv pv pv' : Value} {W W6 w7 : World} {v7 : Value} {pre : List Px} {x : Px} (h : Wq W0 bx px rb base B P bv pv W) (h6 : Wq W0 bx px rb base B P' bv pv' W6) (hx : bx ≠ px) (hb : bx < W0.heap.size) (hp : px < W0.heap.size) (hr : rb < W0.heap.size) (hrb : rb ≠ bx) (hrp : rb ≠ px)
    (u6 : Upd (fun k => k = bx ∨ k = px ∨ bv.ownBlock = some k ∨ pv.ownBlock = some k) W W6) (hpv : ∀ k, pv'.ownBlock = some k → pv.ownBlock = some k ∨ W.heap.size ≤ k)
    (hB : (stx pre).1 = B) (hP : (stx (pre ++ [x])).2 = P') (ha : AppB W6 w7 base bv v7 (B ++ pcB x.cm x.lf x.v)) (bd : B.length ≤ pre.length * 17500) (bp : P'.length ≤ (pre.length + 1) * 4) (h1 : x.cm ≤ 1032) (h2 : x.lf.length ≤ 1032) (h3 : x.v.size ≤ 16384)
    {Bs : Nat → Prop} (hBs : ∀ k, Bs k → k < W0.heap.size ∧ k ≠ bx ∧ k ≠ px ∧ k ≠ rb) (hxb : ∀ k, bv.ownBlock = some k → k ≠ x.b) (hxp : ∀ k, pv.ownBlock = some k → k ≠ x.b) (hx1 : x.b ≠ bx) (hx2 : x.b ≠ px) (C : Nat) (aa : Act) :
    goesOn C (Kx Bs x) (Wv W0 bx px rb base (pre ++ [x])) W .normal aa (w7.setCell ⟨bx, 0, none⟩ v7) := by
  have hpl := pcB_len x.cm x.lf x.v
  have hpos : 0 < (B ++ pcB x.cm x.lf x.v).length := by
    rw [List.length_append, hpl]
    have : 0 < vz x.cm := by unfold vz vL; split <;> simp
    unfold pcZ; omega
  obtain ⟨q7, u7⟩ := h6.bytes hx hb hp hr hrb hrp ha hpos
  have u : Upd (fun k => k = bx ∨ k = px ∨ bv.ownBlock = some k ∨ pv.ownBlock = some k) W (w7.setCell ⟨bx, 0, none⟩ v7) := u6.then u7 (fun i hi hs => by
    rcases hs with e | e | e | e
    · exact .inl e
    · exact .inr (.inl e)
    · exact .inr (.inr (.inl e))
    · rcases hpv i e with e' | e'
      · exact .inr (.inr (.inr e'))
      · omega)
  refine ⟨rfl, h.keepsF u C, h.keeps hb hp hr hBs hxb hxp hx1 hx2 u, ⟨v7, pv', ?_⟩, ?_, ?_⟩
  · have e1 : (stx (pre ++ [x])).1 = B ++ pcB x.cm x.lf x.v := by rw [stx_snoc]; show (stx pre).1 ++ _ = _; rw [hB]
    rw [e1, hP]; exact q7
  · have e1 : (stx (pre ++ [x])).1 = B ++ pcB x.cm x.lf x.v := by rw [stx_snoc]; show (stx pre).1 ++ _ = _; rw [hB]
    rw [e1, List.length_append, List.length_append, hpl]
    have a1 := vz_le x.cm
    have a2 := vz_le x.lf.length
    have a3 := vz_le x.v.size
    unfold pcZ
    simp only [List.length_singleton]
    omega
  · rw [hP, List.length_append]; exact bp
end Go.Proofs.Ytbnllobofndckaa
