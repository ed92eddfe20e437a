import Derived.Test.YtkdjahgndkdnhaaE
import Derived.Deep.DeepCutAuto
namespace Go.Proofs.Ytkdjahgndkdnhaa
open Go.RowKit Go.Maps
set_option linter.unusedVariables false
set_option linter.unusedSimpArgs false
section
variable {w : World} {b p : Nat} {rv : Value} {m : Nat} {t : Tk} {st : Nat} {wi : Bool} {ps : List Nat} {ts : List Tk} {H : Int → Option Int} {c : Nat}
/-- The variables of doStep. -/
structure Dv (w : World) (a0 a1 a2 a3 a4 b p : Nat) (n : Nat) (an : Bool) (k o : Int) : Prop where
  v0 : Blk w a0 25 [ptr b]
  v1 : Blk w a1 3 [.int .i64 n]
  v2 : Blk w a2 83 [ptr p]
  v3 : Blk w a3 4 [.bool an]
  v4 : Blk w a4 55 [.int .i64 k, .int .i64 o]
set_option maxRecDepth 100000 in
set_option maxHeartbeats 1000000 in
/-- The deferred closure, where the step has answered. -/
theorem ended_ok {a0 a1 a2 a3 a4 n : Nat} {k o : Int} (hv : Dv w a0 a1 a2 a3 a4 b p n true k o) (hb : Blk w b 71 (scC rv m st wi)) (hst : st < 4000000000000000000) (hp : Blk w p 85 t.c) :
    CallsD Try.prog 62 #[ptr a0, ptr a3, ptr a2, ptr a4, ptr a1] .returning w fun e u' w' => e = .returned (.tuple #[]) ∧ u' = .returning ∧ Blk w' b 71 (scC rv m ((st + 1 : Nat) : Int) false) ∧ Blk w' p 85 (t.wished k o (st + 1)).c ∧ Upd (fun j => j = b ∨ j = p) w w' := by
  have s0 := hv.v0.cell1 0 _ rfl
  have s2 := hv.v2.cell1 0 _ rfl
  have s3 := hv.v3.cell1 0 _ rfl
  have s4 := hv.v4.cell1 0 _ rfl
  have s5 := hv.v4.cell1 1 _ rfl
  have b2 := hb.cell1 2 _ rfl
  have b3 := hb.cell1 3 _ rfl
  have f2 := hb.frozen 2
  have f3 := hb.frozen 3
  have n0 := hv.v0.ne hb (by decide)
  have n2 := hv.v2.ne hb (by decide)
  have n3 := hv.v3.ne hb (by decide)
  have n4 := hv.v4.ne hb (by decide)
  have np := hp.ne hb (by decide)
  have B1 : Blk ((w.setCell ⟨b, 3, none⟩ (.bool false)).setCell ⟨b, 2, none⟩ (.int .i64 ((st : Int) + 1))) b 71 (scC rv m ((st + 1 : Nat) : Int) false) := (hb.set 3 (.bool false)).set 2 (.int .i64 ((st : Int) + 1))
  have P1 : Blk ((w.setCell ⟨b, 3, none⟩ (.bool false)).setCell ⟨b, 2, none⟩ (.int .i64 ((st : Int) + 1))) p 85 t.c := (hp.other (a := ⟨b, 3, none⟩) np _).other (a := ⟨b, 2, none⟩) np _
  have U1 : Upd (fun j => j = b ∨ j = p) w ((w.setCell ⟨b, 3, none⟩ (.bool false)).setCell ⟨b, 2, none⟩ (.int .i64 ((st : Int) + 1))) :=
    ((Upd.refl (fun j => j = b ∨ j = p) w).setCell (p := ⟨b, 3, none⟩) (fun _ => .inl rfl) _).setCell (p := ⟨b, 2, none⟩) (fun _ => .inl rfl) _
  have HW := wishes_any B1 P1 k o
  refine callsD_of_wpS Try.func62 rfl fun c₀ cs hu => ?_
  apply wpS_seq
  apply wpS_region
  simp [wpOpsS, go_sem, recoverD, hu, Try.ntmps62, Exit.thenS]
  refine wpS_of_wp ?_
  simp only [Array.replicate_succ, Array.replicate_zero, List.push_toArray, List.append_toArray, List.nil_append, List.cons_append]
  go_wp2_with (go_at_call 63; refine HW.mono ?_; rintro e w1 ⟨rfl, hP, hU⟩)
  have B2 := B1.upd hU (fun e => np e.symm)
  have U2 := U1.then hU (fun i _ hi => .inr hi)
  cases c₀
  simp_all [bodyPostS, results, Try.results62, Exit.thenS]
/-- The deferred call. -/
def dfr (a0 a1 a2 a3 a4 : Nat) : Deferred := { target := .fn (.func 62) #[ptr a0, ptr a3, ptr a2, ptr a4, ptr a1], args := #[] }
/-- The way out of doStep. -/
theorem door_ok {a0 a1 a2 a3 a4 n : Nat} {k o : Int} (hv : Dv w a0 a1 a2 a3 a4 b p n true k o) (hb : Blk w b 71 (scC rv m st wi)) (hst : st < 4000000000000000000) (hp : Blk w p 85 t.c) (T : Array Value) {R : Ending → World → Prop}
    (hR : ∀ w', Blk w' b 71 (scC rv m ((st + 1 : Nat) : Int) false) → Blk w' p 85 (t.wished k o (st + 1)).c → Upd (fun j => j = b ∨ j = p) w w' → R (.returned (.tuple #[])) w') (x : Exit) (hx : x = .normal ∨ x = .ret) :
    bodyPostD Try.prog Try.f46 R x { tmps := T, defers := [dfr a0 a1 a2 a3 a4] } w := by
  have : Leaves Try.prog Try.f46 T R [dfr a0 a1 a2 a3 a4] .returning w := by
    refine leaves_cons (f := 62) (args := #[ptr a0, ptr a3, ptr a2, ptr a4, ptr a1]) (by simp) (by simp [go_sem, dfr]) ?_
    refine (ended_ok hv hb hst hp).mono ?_
    rintro e u' w'' ⟨rfl, rfl, h1, h2, h3⟩
    exact ⟨.tuple #[], by simp [results, Try.results46, go_sem], hR _ h1 h2 h3⟩
  rcases hx with rfl | rfl <;> exact this
/-- The locks behind a step's beginning. -/
def lockd (H : Int → Option Int) (t : Tk) (n : Nat) : Int → Option Int := if t.kind = 1 then fput H t.on (some n) else H
def Tk.goes (t : Tk) : Tk := { t with kind := 0, on := 0 }
/-- Behind doStep's first region. -/
structure Dc (w wc : World) (b : Nat) (rv : Value) (m : Nat) (ps : List Nat) (ts : List Tk) (H : Int → Option Int) (st c n p : Nat) : Prop where
  sc : Sc wc b rv m ps ts H st false c
  v0 : Blk wc w.heap.size 25 [ptr b]
  v1 : Blk wc (w.heap.size + 1) 3 [.int .i64 n]
  v2 : Blk wc (w.heap.size + 1 + 1) 83 [ptr p]
  size : w.heap.size + 1 + 1 + 1 ≤ wc.heap.size
  upd : Upd (SB b rv m ps) w wc
theorem Dc.begin (h : Sc w b rv m ps ts H st false c) (n : Nat) : Dc w (((w.alloc (.cells #[ptr b] 25)).alloc (.cells #[.int .i64 n] 3)).alloc (.cells #[ptr p] 83)).drew b rv m ps ts H st c n p := by
  have al := fun (W : World) (o : Obj) => (Below.refl W.heap.size W).alloc (Nat.le_refl _) o
  have B0 := Blk.new w 25 [ptr b]
  have B1 := Blk.new (w.alloc (.cells #[ptr b] 25)) 3 [.int .i64 n]
  have B2 := Blk.new ((w.alloc (.cells #[ptr b] 25)).alloc (.cells #[.int .i64 n] 3)) 83 [ptr p]
  simp only [World.size_alloc] at B1 B2
  exact ⟨(((h.below (al _ _)).below (al _ _)).below (al _ _)).below ((Below.refl _ _).drew), (B0.alloc _).alloc _, B1.alloc _, B2, by simp, ((((Upd.refl _ w).alloc _).alloc _).alloc _).drew⟩
/-- The step begins: the world in which it is called. -/
def wgo (wc : World) (b p : Nat) : World := ((((wc.setCell ⟨p, 2, none⟩ (.int .i64 0)).setCell ⟨p, 3, none⟩ (.int .i64 0)).setCell ⟨b, 3, none⟩ (.bool true)).alloc (.cells #[.bool false] 4)).alloc (.cells #[.int .i64 0, .int .i64 0] 55)
theorem Tks.set {w w' : World} (h : Tks w ps ts) (hnd : ps.Nodup) {n : Nat} (hp : ps[n]? = some p) {t' : Tk} (hb : Blk w' p 85 t'.c) (hk : ∀ q, q ∈ ps → q ≠ p → ∀ cs, Blk w q 85 cs → Blk w' q 85 cs) : Tks w' ps (ts.set n t') := by
  intro i q x hq hx
  by_cases hi : i = n
  · subst hi
    rw [hp] at hq
    cases hq
    rw [List.getElem?_set] at hx
    simp only [if_true] at hx
    split at hx
    · cases hx; exact hb
    · cases hx
  · rw [List.getElem?_set_ne (fun e => hi e.symm)] at hx
    refine hk q (List.mem_of_getElem? hq) ?_ _ (h i q x hq hx)
    rintro rfl
    exact hi ((List.getElem?_inj (List.getElem?_eq_some_iff.1 hq).1 hnd).1 (hq.trans hp.symm))
theorem Dv.upd {S : Nat → Prop} {w w' : World} {a0 a1 a2 a3 a4 n : Nat} {an : Bool} {k o : Int} (h : Dv w a0 a1 a2 a3 a4 b p n an k o) (u : Upd S w w') (h0 : ¬ S a0) (h1 : ¬ S a1) (h2 : ¬ S a2) (h3 : ¬ S a3) (h4 : ¬ S a4) : Dv w' a0 a1 a2 a3 a4 b p n an k o :=
  ⟨h.v0.upd u h0, h.v1.upd u h1, h.v2.upd u h2, h.v3.upd u h3, h.v4.upd u h4⟩
theorem Dc.go {wc : World} {n : Nat} (h : Dc w wc b rv m ps ts H st c n p) (ht : ts[n]? = some t) (hp : ps[n]? = some p) :
    Sc (wgo wc b p) b rv m ps (ts.set n t.goes) H st true c ∧ Upd (SB b rv m ps) w (wgo wc b p) ∧ Dv (wgo wc b p) w.heap.size (w.heap.size + 1) (w.heap.size + 1 + 1) wc.heap.size (wc.heap.size + 1) b p n false 0 0 := by
  have P := h.sc.tks n p t hp ht
  have np := P.ne h.sc.blk (by decide)
  have lb := h.sc.blk.lt
  have lp := P.lt
  have hsz := h.size
  have U : Upd (fun k => k = b ∨ k = p) wc (wgo wc b p) := ((((Upd.refl (fun k => k = b ∨ k = p) wc).setCell (p := ⟨p, 2, none⟩) (fun _ => .inr rfl) _).setCell (p := ⟨p, 3, none⟩) (fun _ => .inr rfl) _).setCell (p := ⟨b, 3, none⟩) (fun _ => .inl rfl) _).alloc _ |>.alloc _
  have P' : Blk (wgo wc b p) p 85 t.goes.c := ((((P.set 2 (.int .i64 0)).set 3 (.int .i64 0)).other (a := ⟨b, 3, none⟩) np _).alloc _).alloc _
  have B' : Blk (wgo wc b p) b 71 (scC rv m st true) := ((((h.sc.blk.other (a := ⟨p, 2, none⟩) np.symm _).other (a := ⟨p, 3, none⟩) np.symm _).set 3 (.bool true)).alloc _).alloc _
  obtain ⟨D, hD⟩ := h.sc.map
  have hmb := hD.ne h.sc.blk
  have hmp := hD.ne P
  have hmem : p ∈ ps := List.mem_of_getElem? hp
  refine ⟨⟨B', ?_, h.sc.tks.set h.sc.nd hp P' ?_, by simp [h.sc.len], h.sc.nd, D, ?_⟩, h.upd.then U ?_, ?_⟩
  · refine row_upd h.sc.row U ?_
    rintro k hk (rfl | rfl)
    · exact row_ne h.sc.row h.sc.blk (by decide) _ hk rfl
    · exact row_ne h.sc.row P (by decide) _ hk rfl
  · intro q hq hne cs hB
    refine hB.upd U ?_
    rintro (e | e)
    · exact hB.ne h.sc.blk (by decide) e
    · exact hne e
  · exact hD.upd U (fun hh => hh.elim hmb hmp)
  · rintro i _ (rfl | rfl)
    · exact .inl rfl
    · exact .inr (.inr (.inr hmem))
  · have n0 := h.v0.ne h.sc.blk (by decide)
    have n1 := h.v1.ne h.sc.blk (by decide)
    have n2 := h.v2.ne h.sc.blk (by decide)
    have k0 := h.v0.ne P (by decide)
    have k1 := h.v1.ne P (by decide)
    have k2 := h.v2.ne P (by decide)
    have B3 := Blk.new (((wc.setCell ⟨p, 2, none⟩ (.int .i64 0)).setCell ⟨p, 3, none⟩ (.int .i64 0)).setCell ⟨b, 3, none⟩ (.bool true)) 4 [.bool false]
    have B4 := Blk.new ((((wc.setCell ⟨p, 2, none⟩ (.int .i64 0)).setCell ⟨p, 3, none⟩ (.int .i64 0)).setCell ⟨b, 3, none⟩ (.bool true)).alloc (.cells #[.bool false] 4)) 55 [.int .i64 0, .int .i64 0]
    simp only [World.size_alloc, World.size_setCell] at B3 B4
    exact ⟨h.v0.upd U (fun hh => hh.elim n0 k0), h.v1.upd U (fun hh => hh.elim n1 k1), h.v2.upd U (fun hh => hh.elim n2 k2), B3.alloc _, B4⟩
theorem Dc.lock {wc wm : World} {n : Nat} {H' : Int → Option Int} {D' : DataW Unit} (h : Dc w wc b rv m ps ts H st c n p) (hI : IM wm m H' (c + 1) D') (hg : wc.drew.grownBy wm (some m)) : Dc w wm b rv m ps ts H' st (c + 1) n p := by
  obtain ⟨D, hD⟩ := h.sc.map
  have U : Upd (fun k => k = m) wc wm := ((Upd.refl (fun k => k = m) wc).drew).grown hg (fun k hk _ => by cases hk; rfl)
  refine ⟨⟨h.sc.blk.upd U (fun e => hD.ne h.sc.blk e.symm), row_upd h.sc.row U (fun k hk e => hD.ner h.sc.row k hk e), fun i q x hq hx => (h.sc.tks i q x hq hx).upd U (fun e => hD.ne (h.sc.tks i q x hq hx) e.symm), h.sc.len, h.sc.nd, D', hI⟩, h.v0.upd U (fun e => hD.ne h.v0 e.symm), h.v1.upd U (fun e => hD.ne h.v1 e.symm), h.v2.upd U (fun e => hD.ne h.v2 e.symm), Nat.le_trans h.size hg.size, ?_⟩
  exact h.upd.then U (fun i _ hi => .inr (.inr (.inl hi)))
/-- Rows of other types are kept. -/
def Rws (w2 w3 : World) : Prop := ∀ (base : Nat) (e : TypeId) (size : Nat) (v : Value) (n : Nat) (xs : List Value), e ≠ 4 → e ≠ 55 → e ≠ 71 → e ≠ 85 → w2.ownsRow base e size v n xs → w3.ownsRow base e size v n xs
/-- The end of doStep: what the step has answered is laid, and the deferred call done. -/
theorem door_all {w2 : World} {a0 a1 a2 a3 a4 n N : Nat} {k o : Int} {ts2 : List Tk} {H2 : Int → Option Int} {t2 : Tk} (hv : Dv w2 a0 a1 a2 a3 a4 b p n false 0 0) (hs : Sc w2 b rv m ps ts2 H2 st true c) (hst : st < 4000000000000000000) (hp : ps[n]? = some p) (ht : ts2[n]? = some t2) (hN : ∀ k, SB b rv m ps k → k < N) (h3 : N ≤ a3) (h4 : N ≤ a4)
    (T : Array Value) {R : Ending → World → Prop} (x : Exit) (hx : x = .normal ∨ x = .ret)
    (hR : ∀ w3, Sc w3 b rv m ps (ts2.set n (t2.wished k o (st + 1))) H2 (st + 1) false c → (Upd (fun k => (k = b ∨ k ∈ ps) ∨ N ≤ k) w2 w3 ∧ Rws w2 w3) → R (.returned (.tuple #[])) w3) :
    bodyPostD Try.prog Try.f46 R x { tmps := T, defers := [dfr a0 a1 a2 a3 a4] } (((w2.setCell ⟨a4, 0, none⟩ (.int .i64 k)).setCell ⟨a4, 1, none⟩ (.int .i64 o)).setCell ⟨a3, 0, none⟩ (.bool true)) := by
  have U : Upd (fun k => N ≤ k) w2 (((w2.setCell ⟨a4, 0, none⟩ (.int .i64 k)).setCell ⟨a4, 1, none⟩ (.int .i64 o)).setCell ⟨a3, 0, none⟩ (.bool true)) :=
    (((Upd.refl (fun k => N ≤ k) w2).setCell (p := ⟨a4, 0, none⟩) (fun _ => h4) _).setCell (p := ⟨a4, 1, none⟩) (fun _ => h4) _).setCell (p := ⟨a3, 0, none⟩) (fun _ => h3) _
  have U' : Upd (fun k => k = a3 ∨ k = a4) w2 (((w2.setCell ⟨a4, 0, none⟩ (.int .i64 k)).setCell ⟨a4, 1, none⟩ (.int .i64 o)).setCell ⟨a3, 0, none⟩ (.bool true)) :=
    (((Upd.refl (fun k => k = a3 ∨ k = a4) w2).setCell (p := ⟨a4, 0, none⟩) (fun _ => .inr rfl) _).setCell (p := ⟨a4, 1, none⟩) (fun _ => .inr rfl) _).setCell (p := ⟨a3, 0, none⟩) (fun _ => .inl rfl) _
  have n34 := hv.v3.ne hv.v4 (by decide)
  have n04 := hv.v0.ne hv.v4 (by decide)
  have n14 := hv.v1.ne hv.v4 (by decide)
  have n24 := hv.v2.ne hv.v4 (by decide)
  have n03 := hv.v0.ne hv.v3 (by decide)
  have n13 := hv.v1.ne hv.v3 (by decide)
  have n23 := hv.v2.ne hv.v3 (by decide)
  have V : Dv (((w2.setCell ⟨a4, 0, none⟩ (.int .i64 k)).setCell ⟨a4, 1, none⟩ (.int .i64 o)).setCell ⟨a3, 0, none⟩ (.bool true)) a0 a1 a2 a3 a4 b p n true k o :=
    ⟨((hv.v0.other (a := ⟨a4, 0, none⟩) n04 _).other (a := ⟨a4, 1, none⟩) n04 _).other (a := ⟨a3, 0, none⟩) n03 _, ((hv.v1.other (a := ⟨a4, 0, none⟩) n14 _).other (a := ⟨a4, 1, none⟩) n14 _).other (a := ⟨a3, 0, none⟩) n13 _, ((hv.v2.other (a := ⟨a4, 0, none⟩) n24 _).other (a := ⟨a4, 1, none⟩) n24 _).other (a := ⟨a3, 0, none⟩) n23 _,
     ((hv.v3.other (a := ⟨a4, 0, none⟩) n34 _).other (a := ⟨a4, 1, none⟩) n34 _).set 0 _, ((hv.v4.set 0 (.int .i64 k)).set 1 (.int .i64 o)).other (a := ⟨a3, 0, none⟩) n34.symm _⟩
  have hs' := hs.upd U (fun k hk hh => by have := hN k hk; omega)
  have P := hs'.tks n p t2 hp ht
  have hmem : p ∈ ps := List.mem_of_getElem? hp
  refine door_ok V hs'.blk hst P T ?_ x hx
  intro w3 hB hP hU
  obtain ⟨D, hD⟩ := hs'.map
  refine hR w3 ⟨hB, ?_, hs'.tks.set hs'.nd hp hP ?_, by simp [hs.len], hs.nd, D, ?_⟩ ?_
  · refine row_upd hs'.row hU ?_
    rintro k hk (rfl | rfl)
    · exact row_ne hs'.row hs'.blk (by decide) _ hk rfl
    · exact row_ne hs'.row P (by decide) _ hk rfl
  · intro q hq hne cs hBq
    refine hBq.upd hU ?_
    rintro (e | e)
    · exact hBq.ne hs'.blk (by decide) e
    · exact hne e
  · exact hD.upd hU (fun hh => hh.elim (hD.ne hs'.blk) (hD.ne P))
  · refine ⟨(U.mono (fun k _ hk => .inr hk)).then hU ?_, ?_⟩
    · rintro i _ (rfl | rfl)
      · exact .inl (.inl rfl)
      · exact .inl (.inr hmem)
    · intro base e size v n xs h1 h2 h3 h4 hr
      have r1 := row_upd hr U' (by
        rintro k hk (e' | e')
        · exact row_ne hr hv.v3 h1 k hk e'
        · exact row_ne hr hv.v4 h2 k hk e')
      exact row_upd r1 hU (by
        rintro k hk (e' | e')
        · exact row_ne r1 hs'.blk h3 k hk e'
        · exact row_ne r1 P h4 k hk e')
/-- The call of the step, in words. -/
def Stp (g : Nat) (bd cp : Array Value) (b : Nat) (rv : Value) (m : Nat) (ps : List Nat) (ts : List Tk) (H : Int → Option Int) (st c : Nat) (S : Nat → Prop) (R : World → Int → Int → List Tk → (Int → Option Int) → Prop) (w1 : World) : Prop :=
  Calls Try.prog g (bd ++ cp) w1 fun e w2 => ∃ k o ts2 H2, e = .returned (.agg #[.int .i64 k, .int .i64 o]) ∧ Sc w2 b rv m ps ts2 H2 st true c ∧ Upd S w1 w2 ∧ R w2 k o ts2 H2
set_option maxRecDepth 100000 in
set_option maxHeartbeats 1000000 in
theorem doStep_any (h : Sc w b rv m ps ts H st false c) (hc : c < maxLen) (hl : ps.length ≤ 64) (hst : st < 4000000000000000000) {n : Nat} (ht : ts[n]? = some t) (ho : I64 t.on) (g : Nat) (bd cp : Array Value) (hstep : t.step = .func (.func g) bd cp) (hent : ∀ w, (callFunc g (bd ++ cp)).run Try.prog w = .ok (.enter g (bd ++ cp)) w)
    (S : Nat → Prop) (hS : ∀ k, S k → k < w.heap.size) (R : World → Int → Int → List Tk → (Int → Option Int) → Prop)
    (hg : ∀ w1, Sc w1 b rv m ps (ts.set n t.goes) (lockd H t n) st true (c + 1) → Upd (SB b rv m ps) w w1 →
      Stp g bd cp b rv m ps (ts.set n t.goes) (lockd H t n) st (c + 1) S R w1) :
    Calls Try.prog 46 #[ptr b, .int .i64 n] w fun e w3 => e = .returned (.tuple #[]) ∧ ∃ w2 k o ts2 H2 t2, R w2 k o ts2 H2 ∧ ts2[n]? = some t2 ∧ Sc w3 b rv m ps (ts2.set n (t2.wished k o (st + 1))) H2 (st + 1) false (c + 1) ∧ (Upd (fun k => (k = b ∨ k ∈ ps) ∨ w.heap.size ≤ k) w2 w3 ∧ Rws w2 w3) ∧ Upd (fun k => SB b rv m ps k ∨ S k) w w3 := by
  have hmf : ∀ (fn : Fn) (first cap : Array Value) (w : World), (Instr.makeFunc fn first cap).run Try.prog w = .ok (.func fn first cap) w := fun _ _ _ _ => rfl
  obtain ⟨p, hp, P⟩ := h.task ht
  obtain ⟨gg, cap, hrv, hcell⟩ := h.at_ hp
  have hnl : n < ps.length := (List.getElem?_eq_some_iff.1 hp).1
  have c0 := h.blk.cell1 0 _ rfl
  rw [hrv] at c0
  have lb := h.blk.lt
  have lg : gg < w.heap.size := h.sb_lt gg (.inr (.inl (by rw [hrv]; rfl)))
  have al := fun (W : World) (o : Obj) => (Below.refl W.heap.size W).alloc (Nat.le_refl _) o
  have hcl : ∀ (W : World) (o : Obj) (a : Addr) (v : Value), a.block < W.heap.size → W.cell? a = some v → (W.alloc o).cell? a = some v := fun W o a v hlt hh => ((al W o).cell hlt).trans hh
  have W1c0 := hcl _ (.cells #[.int .i64 n] 3) _ _ (by simp; omega) (hcl _ (.cells #[ptr b] 25) _ _ lb c0)
  have W1cg := hcl _ (.cells #[.int .i64 n] 3) _ _ (by simp; omega) (hcl _ (.cells #[ptr b] 25) _ _ lg hcell)
  have W2c0 := hcl _ (.cells #[.pointer none] 83) _ _ (by simp; omega) W1c0
  have W2cg := hcl _ (.cells #[.pointer none] 83) _ _ (by simp; omega) W1cg
  have HB := Dc.begin (p := p) h n
  go_enter_defers Try.func46, Try.ntmps46
  go_wp2
  go_cut [4] from 7 to 13 (fun t wc => t = ptr (w.heap.size + 1 + 1) ∧ Dc w wc b rv m ps ts H st c n p)
  case first =>
    go_region
    all_goals go_wp2
    all_goals go_meet
    case rel => exact ⟨rfl, HB⟩
  case rest =>
    obtain ⟨rfl, hD⟩ := hcut
    clear W1c0 W1cg W2c0 W2cg HB c0 hcell hcl al
    have P := hD.sc.tks n p t hp ht
    have p1 := P.cell1 1 _ rfl
    have p2 := P.cell1 2 _ rfl
    have p3 := P.cell1 3 _ rfl
    have y2 := P.frozen 2
    have y3 := P.frozen 3
    rw [hstep] at p1
    have b1 := hD.sc.blk.cell1 1 _ rfl
    have b3 := hD.sc.blk.cell1 3 _ rfl
    have z3 := hD.sc.blk.frozen 3
    have s0 := hD.v0.cell1 0 _ rfl
    have s1 := hD.v1.cell1 0 _ rfl
    have s2 := hD.v2.cell1 0 _ rfl
    have hsz : Hid _ := hD.size
    have lb2 := hD.sc.blk.lt
    have lp2 := P.lt
    have np := P.ne hD.sc.blk (by decide)
    have n0 := hD.v0.ne hD.sc.blk (by decide)
    have n2 := hD.v2.ne hD.sc.blk (by decide)
    have k0 := hD.v0.ne P (by decide)
    have k2 := hD.v2.ne P (by decide)
    by_cases hk : t.kind = 1
    · rw [hk] at p2
      obtain ⟨D, hIM⟩ := hD.sc.map
      obtain ⟨wm, D', hrun, hIM', hgr⟩ := IM.store (w := wc.drew) ⟨hIM.own.drew, hIM.at_, hIM.has⟩ hc (k := t.on) (p := n) ho (by unfold I64; omega)
      have HD := hD.lock hIM' hgr
      clear hIM hIM' hgr
      have HL : lockd H t n = fput H t.on (some (n : Int)) := by unfold lockd; rw [if_pos hk]
      rw [HL] at hg
      clear HL hk
      generalize fput H t.on (some (n : Int)) = H' at *
      have hp2 : Hid _ := hp
      have ht2 : Hid _ := ht
      have hst2 : Hid _ := hstep
      have hrv2 : Hid _ := hrv
      clear hp ht hstep hrv
      go_wp2
      go_cut [4] from 20 to 29 (fun t wc => t = ptr (w.heap.size + 1 + 1) ∧ Dc w wc b rv m ps ts H' st (c + 1) n p)
      case first =>
        go_region
        all_goals go_wp2
        all_goals go_meet
        case rel => exact ⟨rfl, HD⟩
      case rest =>
        obtain ⟨rfl, hD2⟩ := hcut
        have hp := hp2.out
        have ht := ht2.out
        have hstep := hst2.out
        clear HD p1 p2 p3 y2 y3 b1 b3 z3 s0 s1 s2 hsz lb2 lp2 np n0 n2 k0 k2 P hrun hp2 ht2 hst2 hrv2 hD
        have hD := hD2
        clear hD2
        have P := hD.sc.tks n p t hp ht
        have p1 := P.cell1 1 _ rfl
        have p2 := P.cell1 2 _ rfl
        have p3 := P.cell1 3 _ rfl
        have y2 := P.frozen 2
        have y3 := P.frozen 3
        rw [hstep] at p1
        have b1 := hD.sc.blk.cell1 1 _ rfl
        have b3 := hD.sc.blk.cell1 3 _ rfl
        have z3 := hD.sc.blk.frozen 3
        have s0 := hD.v0.cell1 0 _ rfl
        have s1 := hD.v1.cell1 0 _ rfl
        have s2 := hD.v2.cell1 0 _ rfl
        have hsz : Hid _ := hD.size
        have lb2 := hD.sc.blk.lt
        have lp2 := P.lt
        have np := P.ne hD.sc.blk (by decide)
        have n0 := hD.v0.ne hD.sc.blk (by decide)
        have n2 := hD.v2.ne hD.sc.blk (by decide)
        have k0 := hD.v0.ne P (by decide)
        have k2 := hD.v2.ne P (by decide)
        have HG := hD.go ht hp
        have HS := hg (wgo wc b p) HG.1 HG.2.1
        have g1 := (HG.1.tks n p t.goes hp (by rw [List.getElem?_set]; simp [hnl, h.len])).cell1 1 _ rfl
        rw [show t.goes.step = t.step from rfl, hstep] at g1
        have g2 := HG.2.2.v2.cell1 0 _ rfl
        have HSB := h.sb_lt
        clear hg hstep
        have hp' : Hid _ := hp
        have ht' : Hid _ := ht
        clear hp ht
        obtain ⟨WG, hWG⟩ : ∃ WG, WG = wgo wc b p := ⟨_, rfl⟩
        have hWG' : Hid (WG = wgo wc b p) := hWG
        unfold wgo at g1 g2
        clear hWG
        go_wp2
        refine Calls.mono HS ?_
        rintro e w2 ⟨k, o, ts2, H2, rfl, hSc2, hU2, hR2⟩
        have hsz' := hsz.out
        have V2 : Dv w2 w.heap.size (w.heap.size + 1) (w.heap.size + 1 + 1) wc.heap.size (wc.heap.size + 1) b p n false 0 0 :=
          HG.2.2.upd hU2 (fun hh => by have := hS _ hh; omega) (fun hh => by have := hS _ hh; omega) (fun hh => by have := hS _ hh; omega) (fun hh => by have := hS _ hh; omega) (fun hh => by have := hS _ hh; omega)
        have HU := HG.2.1
        clear g1 g2 HG HS p1 p2 p3 y2 y3 b1 b3 z3 s0 s1 s2 hsz'
        have e3 := V2.v3.cell1 0 _ rfl
        have e4 := V2.v4.cell1 0 _ rfl
        have e5 := V2.v4.cell1 1 _ rfl
        have d3 := V2.v3.frozen 0
        have d4 := V2.v4.frozen 0
        have d5 := V2.v4.frozen 1
        go_wp2
        have hsz' := hsz.out
        obtain ⟨t2, ht2⟩ : ∃ t2, ts2[n]? = some t2 := ⟨_, List.getElem?_eq_getElem (by rw [hSc2.len]; exact hnl)⟩
        refine door_all (N := w.heap.size) V2 hSc2 hst hp'.out ht2 HSB (by omega) (by omega) _ _ (.inl rfl) ?_
        intro w3 hS3 hU3
        refine ⟨rfl, w2, k, o, ts2, H2, t2, hR2, ht2, hS3, hU3, ?_⟩
        refine ((HU.mono (fun k _ hk => .inl hk)).then hU2 (fun k _ hk => .inr hk)).then hU3.1 ?_
        rintro i hi ((rfl | hm) | hn)
        · exact .inl (.inl rfl)
        · exact .inl (.inr (.inr (.inr hm)))
        · omega
    · have q1 : (t.kind == 1) = false := by simpa using hk
      have HL : lockd H t n = H := by unfold lockd; rw [if_neg hk]
      have HG := hD.go ht hp
      have HS := (HL ▸ hg) (wgo wc b p) (HG.1.mono (Nat.le_succ c)) HG.2.1
      have g1 := (HG.1.tks n p t.goes hp (by rw [List.getElem?_set]; simp [hnl, h.len])).cell1 1 _ rfl
      rw [show t.goes.step = t.step from rfl, hstep] at g1
      have g2 := HG.2.2.v2.cell1 0 _ rfl
      have HSB := h.sb_lt
      clear hg hrv hstep HL
      have hp' : Hid _ := hp
      have ht' : Hid _ := ht
      clear hp ht
      obtain ⟨WG, hWG⟩ : ∃ WG, WG = wgo wc b p := ⟨_, rfl⟩
      have hWG' : Hid (WG = wgo wc b p) := hWG
      unfold wgo at g1 g2
      clear hWG
      go_wp2
      refine Calls.mono HS ?_
      rintro e w2 ⟨k, o, ts2, H2, rfl, hSc2, hU2, hR2⟩
      have hsz' := hsz.out
      have V2 : Dv w2 w.heap.size (w.heap.size + 1) (w.heap.size + 1 + 1) wc.heap.size (wc.heap.size + 1) b p n false 0 0 :=
        HG.2.2.upd hU2 (fun hh => by have := hS _ hh; omega) (fun hh => by have := hS _ hh; omega) (fun hh => by have := hS _ hh; omega) (fun hh => by have := hS _ hh; omega) (fun hh => by have := hS _ hh; omega)
      have HU := HG.2.1
      clear g1 g2 HG HS p1 p2 p3 y2 y3 b1 b3 z3 s0 s1 s2 hsz'
      have e3 := V2.v3.cell1 0 _ rfl
      have e4 := V2.v4.cell1 0 _ rfl
      have e5 := V2.v4.cell1 1 _ rfl
      have d3 := V2.v3.frozen 0
      have d4 := V2.v4.frozen 0
      have d5 := V2.v4.frozen 1
      go_wp2
      have hsz' := hsz.out
      obtain ⟨t2, ht2⟩ : ∃ t2, ts2[n]? = some t2 := ⟨_, List.getElem?_eq_getElem (by rw [hSc2.len]; exact hnl)⟩
      refine door_all (N := w.heap.size) V2 hSc2 hst hp'.out ht2 HSB (by omega) (by omega) _ _ (.inl rfl) ?_
      intro w3 hS3 hU3
      refine ⟨rfl, w2, k, o, ts2, H2, t2, hR2, ht2, hS3, hU3, ?_⟩
      refine ((HU.mono (fun k _ hk => .inl hk)).then hU2 (fun k _ hk => .inr hk)).then hU3.1 ?_
      rintro i hi ((rfl | hm) | hn)
      · exact .inl (.inl rfl)
      · exact .inl (.inr (.inr (.inr hm)))
      · omega
end
end Go.Proofs.Ytkdjahgndkdnhaa
