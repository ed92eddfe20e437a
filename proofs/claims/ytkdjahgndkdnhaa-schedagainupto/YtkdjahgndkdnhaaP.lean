import Derived.Test.YtkdjahgndkdnhaaO
import Derived.BigRegion
import Derived.BigQuiet
namespace Go.Proofs.Ytkdjahgndkdnhaa
open Go.RowKit Go.Maps Go.Shelf
set_option linter.unusedVariables false
set_option linter.unusedSimpArgs false
/-- A slice of what a task does, wherever it lies; its cells lie below N. -/
def RdD (w : World) (v : Value) (l : List (Int × Int)) (N : Nat) : Prop :=
  (∃ a c, v = .slice a 0 c ∧ l = []) ∨ ∃ B off cap, v = .slice (some ⟨B, off, none⟩) l.length cap ∧ B < N ∧ ∀ j (x : Int × Int), l[j]? = some x → w.cell? ⟨B, off + j * 2, none⟩ = some (.int .i64 x.1) ∧ w.cell? ⟨B, off + j * 2 + 1, none⟩ = some (.int .i64 x.2)
theorem RdD.len {w : World} {v : Value} {l : List (Int × Int)} {N : Nat} (h : RdD w v l N) : ∃ a c, v = .slice a l.length c := by
  rcases h with ⟨a, c, rfl, rfl⟩ | ⟨B, off, cap, rfl, _⟩
  · exact ⟨a, c, rfl⟩
  · exact ⟨_, _, rfl⟩
theorem RdD.upd {S : Nat → Prop} {w w' : World} {v : Value} {l : List (Int × Int)} {N : Nat} (h : RdD w v l N) (u : Upd S w w') (hN : N ≤ w.heap.size) (hS : ∀ k, S k → N ≤ k) : RdD w' v l N := by
  rcases h with h | ⟨B, off, cap, rfl, hB, hc⟩
  · exact .inl h
  · refine .inr ⟨B, off, cap, rfl, hB, fun j x hx => ?_⟩
    have e := u.block B (by omega) (fun hh => by have := hS B hh; omega)
    obtain ⟨h1, h2⟩ := hc j x hx
    exact ⟨(World.cell?_of_block (a := ⟨B, off + j * 2, none⟩) e).trans h1, (World.cell?_of_block (a := ⟨B, off + j * 2 + 1, none⟩) e).trans h2⟩
/-- The step of a task that only wishes and lets go of locks: what it wishes, what is left of the locks, what was told, how far it has come. -/
def stepR (n : Nat) : List (Int × Int) → (Int → Option Int) → List Int → Nat → (Int × Int) × (Int → Option Int) × List Int × Nat
  | [], H, T, at_ => ((4, 0), H, T, at_)
  | (a, o) :: l, H, T, at_ => if a < 0 then ((-(a + 1), o), H, T, at_ + 1) else stepR n l (unH H n o) (T ++ [unE H n o]) (at_ + 1)
/-- The variables of a step. -/
structure Bx (w : World) (xB aB lB tB xb : Nat) (at_ : Nat) (lv : Value) (n : Nat) : Prop where
  bx : Blk w xB 24 [ptr xb]
  ba : Blk w aB 3 [.int .i64 at_]
  bl : Blk w lB 36 [lv]
  bt : Blk w tB 3 [.int .i64 n]
section
variable {w : World} {b : Nat} {rv : Value} {m : Nat} {ps : List Nat} {ts : List Tk} {H : Int → Option Int} {st : Nat} {c : Nat} {xb : Nat} {dv tv : Value} {T : List Int} {N : Nat} {xB aB lB tB at_ n : Nat} {lv : Value} {l : List (Int × Int)}
/-- All that a step stands on. -/
structure Sp (w : World) (b : Nat) (rv : Value) (m : Nat) (ps : List Nat) (ts : List Tk) (H : Int → Option Int) (st c xb : Nat) (dv tv : Value) (T : List Int) (N M xB aB lB tB at_ : Nat) (lv : Value) (n : Nat) (l : List (Int × Int)) : Prop where
  sc : Sc w b rv m ps ts H st true c
  pr : Pr w xb b dv tv T M
  bx : Bx w xB aB lB tB xb at_ lv n
  rd : RdD w lv l N
  nm : N ≤ M
  hm : M ≤ w.heap.size
  na : aB ≠ tB
  oa : N ≤ aB
  ma : aB < M
  mt : tB < M
  ox : N ≤ xb
  om : N ≤ m
def StB (m xb aB : Nat) (tv : Value) : Nat → Prop := fun k => k = m ∨ k = xb ∨ k = aB ∨ tv.ownBlock = some k
/-- How far the step has come, off the memory. -/
def atW (w : World) (aB : Nat) : Nat := match w.cell? ⟨aB, 0, none⟩ with
  | some (.int _ n) => n.toNat
  | _ => 0
/-- In mid-step. -/
structure Lp (w wr : World) (b : Nat) (rv : Value) (m : Nat) (ps : List Nat) (ts : List Tk) (H : Int → Option Int) (st c xb : Nat) (dv tv tv1 : Value) (T : List Int) (N M xB aB lB tB at_ : Nat) (lv : Value) (n : Nat) (l : List (Int × Int)) : Prop where
  sp : Sp wr b rv m ps ts H st c xb dv tv1 T N M xB aB lB tB at_ lv n l
  r0 : Blk wr w.heap.size 55 [.int .i64 0, .int .i64 0]
  upd : Upd (StB m xb aB tv) w wr
  loc : tv1.ownBlock = tv.ownBlock ∨ ∀ k, tv1.ownBlock = some k → w.heap.size ≤ k
theorem Sp.below {M : Nat} {w' : World} (h : Sp w b rv m ps ts H st c xb dv tv T N M xB aB lB tB at_ lv n l) (hB : Below w.heap.size w w') : Sp w' b rv m ps ts H st c xb dv tv T N M xB aB lB tB at_ lv n l := by
  have u : Upd Non w w' := Upd.ofBelow hB
  exact ⟨h.sc.below hB, h.pr.upd u (fun h => h) (fun _ _ h => h), ⟨h.bx.bx.upd u (fun h => h), h.bx.ba.upd u (fun h => h), h.bx.bl.upd u (fun h => h), h.bx.bt.upd u (fun h => h)⟩, h.rd.upd u (Nat.le_trans h.nm h.hm) (fun _ h => h.elim), h.nm, Nat.le_trans h.hm hB.size, h.na, h.oa, h.ma, h.mt, h.ox, h.om⟩
/-- 'bad' is laid again, as it was. -/
theorem Sp.bad {M : Nat} (h : Sp w b rv m ps ts H st c xb dv tv T N M xB aB lB tB at_ lv n l) : Sp (w.setCell ⟨xb, 3, none⟩ (.bool false)) b rv m ps ts H st c xb dv tv T N M xB aB lB tB at_ lv n l := by
  have u : Upd (At xb) w (w.setCell ⟨xb, 3, none⟩ (.bool false)) := Upd.setCell (p := ⟨xb, 3, none⟩) (Upd.refl (At xb) w) (fun _ => rfl) _
  have X := h.pr.blk
  refine ⟨h.sc.upd u (fun k hk e => h.sc.not_sb X (by decide) (by decide) (by decide) ((show k = xb from e) ▸ hk)), ⟨X.set 3 _, row_upd h.pr.told u (fun k hk e => row_ne h.pr.told X (by decide) k hk e)⟩, ⟨h.bx.bx.upd u (h.bx.bx.ne X (by decide)), h.bx.ba.upd u (h.bx.ba.ne X (by decide)), h.bx.bl.upd u (h.bx.bl.ne X (by decide)), h.bx.bt.upd u (h.bx.bt.ne X (by decide))⟩, h.rd.upd u (Nat.le_trans h.nm h.hm) (fun k hk => by rw [hk]; exact h.ox), h.nm, by simpa using h.hm, h.na, h.oa, h.ma, h.mt, h.ox, h.om⟩
/-- One further. -/
theorem Sp.next {M : Nat} {k : Nat} (h : Sp w b rv m ps ts H st c xb dv tv T N M xB aB lB tB at_ lv n l) : Sp (w.setCell ⟨aB, 0, none⟩ (.int .i64 k)) b rv m ps ts H st c xb dv tv T N M xB aB lB tB k lv n l := by
  have u : Upd (At aB) w (w.setCell ⟨aB, 0, none⟩ (.int .i64 k)) := Upd.setCell (p := ⟨aB, 0, none⟩) (Upd.refl (At aB) w) (fun _ => rfl) _
  have X := h.bx.ba
  refine ⟨h.sc.upd u (fun j hj e => h.sc.not_sb X (by decide) (by decide) (by decide) ((show j = aB from e) ▸ hj)), h.pr.upd u (h.pr.blk.ne X (by decide)) (fun j hj e => by have h1 := (h.pr.told.lt j hj).1; have h2 := h.ma; rw [show j = aB from e] at h1; omega), ⟨h.bx.bx.upd u (h.bx.bx.ne X (by decide)), X.set 0 _, h.bx.bl.upd u (h.bx.bl.ne X (by decide)), h.bx.bt.upd u (fun e => h.na e.symm)⟩, h.rd.upd u (Nat.le_trans h.nm h.hm) (fun k hk => by rw [hk]; exact h.oa), h.nm, by simpa using h.hm, h.na, h.oa, h.ma, h.mt, h.ox, h.om⟩
/-- The result's cells are laid. -/
theorem Sp.res {M R : Nat} {cs : List Value} {w' : World} (h : Sp w b rv m ps ts H st c xb dv tv T N M xB aB lB tB at_ lv n l) (hR : Blk w R 55 cs) (hN : N ≤ R) (u : Upd (At R) w w') : Sp w' b rv m ps ts H st c xb dv tv T N M xB aB lB tB at_ lv n l :=
  ⟨h.sc.upd u (fun k hk e => h.sc.not_sb hR (by decide) (by decide) (by decide) ((show k = R from e) ▸ hk)), h.pr.upd u (h.pr.blk.ne hR (by decide)) (fun k hk e => row_ne h.pr.told hR (by decide) k hk e), ⟨h.bx.bx.upd u (h.bx.bx.ne hR (by decide)), h.bx.ba.upd u (h.bx.ba.ne hR (by decide)), h.bx.bl.upd u (h.bx.bl.ne hR (by decide)), h.bx.bt.upd u (h.bx.bt.ne hR (by decide))⟩, h.rd.upd u (Nat.le_trans h.nm h.hm) (fun k hk => by rw [hk]; exact hN), h.nm, Nat.le_trans h.hm u.size, h.na, h.oa, h.ma, h.mt, h.ox, h.om⟩
/-- An act is done. -/
theorem Lp.act {M : Nat} {wr w' : World} {H1 H' : Int → Option Int} {T1 T' : List Int} {tv1 tv' : Value} {a1 k : Nat} (L : Lp w wr b rv m ps ts H1 st c xb dv tv tv1 T1 N M xB aB lB tB a1 lv n l) (o : Obj)
    (hs : Sc w' b rv m ps ts H' st true c) (hp : Pr w' xb b dv tv' T' M) (hu : Upd (fun k => k = m ∨ k = xb ∨ tv1.ownBlock = some k) ((wr.setCell ⟨aB, 0, none⟩ (.int .i64 k)).alloc o) w') (hloc : tv'.ownBlock = tv1.ownBlock ∨ ∀ j, tv'.ownBlock = some j → ((wr.setCell ⟨aB, 0, none⟩ (.int .i64 k)).alloc o).heap.size ≤ j) (hw : w.heap.size ≤ wr.heap.size) :
    Lp w w' b rv m ps ts H' st c xb dv tv tv' T' N M xB aB lB tB k lv n l := by
  have S := (L.sp.next (k := k)).below ((Below.refl _ _).alloc (Nat.le_refl _) o)
  obtain ⟨D, hD⟩ := S.sc.map
  have R0 : Blk ((wr.setCell ⟨aB, 0, none⟩ (.int .i64 k)).alloc o) w.heap.size 55 [.int .i64 0, .int .i64 0] := (L.r0.other (a := ⟨aB, 0, none⟩) (L.r0.ne L.sp.bx.ba (by decide)) _).alloc _
  have keep : ∀ (j : Nat) (t : TypeId) (cs : List Value), Blk ((wr.setCell ⟨aB, 0, none⟩ (.int .i64 k)).alloc o) j t cs → t ≠ 34 → (t ≠ 3 ∨ j < M) → Blk w' j t cs := by
    intro j t cs hB h1 h2
    refine hB.upd hu ?_
    rintro (e | e | e)
    · exact hD.ne hB e.symm
    · exact hB.ne S.pr.blk h1 e
    · rcases h2 with h2 | h2
      · exact row_ne S.pr.told hB h2.symm j e rfl
      · have := (S.pr.told.lt j e).1; omega
  have hsz := hu.size
  simp at hsz
  refine ⟨⟨hs, hp, ⟨keep _ _ _ S.bx.bx (by decide) (.inl (by decide)), keep _ _ _ S.bx.ba (by decide) (.inr S.ma), keep _ _ _ S.bx.bl (by decide) (.inl (by decide)), keep _ _ _ S.bx.bt (by decide) (.inr S.mt)⟩, S.rd.upd hu (Nat.le_trans S.nm S.hm) ?_, S.nm, Nat.le_trans S.hm hu.size, S.na, S.oa, S.ma, S.mt, S.ox, S.om⟩, keep _ _ _ R0 (by decide) (.inl (by decide)), ?_, ?_⟩
  · rintro j (e | e | e)
    · rw [e]; exact S.om
    · rw [e]; exact S.ox
    · exact Nat.le_trans S.nm (S.pr.told.lt j e).1
  · refine Upd.then (((L.upd.setCell (p := ⟨aB, 0, none⟩) (fun _ => .inr (.inr (.inl rfl))) _).alloc _)) hu ?_
    rintro j hj (e | e | e)
    · exact .inl e
    · exact .inr (.inl e)
    · rcases L.loc with hl | hl
      · rw [hl] at e; exact .inr (.inr (.inr e))
      · have := hl j e; omega
  · rcases hloc with e | e
    · rw [e]; exact L.loc
    · exact .inr (fun j hj => by have := e j hj; simp at this; omega)
set_option maxRecDepth 100000 in
set_option maxHeartbeats 1600000 in
theorem step1_any {M : Nat} (h : Sp w b rv m ps ts H st c xb dv tv T N M xB aB lB tB at_ lv n l) (hl : ps.length ≤ 64) (hst : st < 4000000000000000000) (ok : ∀ t ∈ ts, TkOk st t) (hn : n < ps.length) (hat : at_ ≤ l.length) (hll : l.length ≤ 1000) (hT : T.length + l.length ≤ 100000) (hact : ∀ x ∈ l, x.1 ≤ 0 ∧ -100 ≤ x.1 ∧ I64 x.2) :
    Calls Try.prog 51 #[ptr xB, ptr aB, ptr lB, ptr tB] w fun e w' => ∃ tv', e = .returned (.agg #[.int .i64 (stepR n (l.drop at_) H T at_).1.1, .int .i64 (stepR n (l.drop at_) H T at_).1.2]) ∧ Sp w' b rv m ps ts (stepR n (l.drop at_) H T at_).2.1 st c xb dv tv' (stepR n (l.drop at_) H T at_).2.2.1 N M xB aB lB tB (stepR n (l.drop at_) H T at_).2.2.2 lv n l ∧ Upd (StB m xb aB tv) w w' ∧ (tv'.ownBlock = tv.ownBlock ∨ ∀ k, tv'.ownBlock = some k → w.heap.size ≤ k) := by
  obtain ⟨RES, hRES⟩ : ∃ R, R = stepR n (l.drop at_) H T at_ := ⟨_, rfl⟩
  rw [← hRES]
  have al := fun (W : World) (o : Obj) => (Below.refl W.heap.size W).alloc (Nat.le_refl _) o
  obtain ⟨la, lc, hlv⟩ := h.rd.len
  have B0 := Blk.new w 55 [.int .i64 0, .int .i64 0]
  have x0 := h.bx.bx.cell1 0 _ rfl
  have p0 := h.pr.blk.cell1 0 _ rfl
  have lx := h.pr.blk.lt
  have lB' := h.bx.bx.lt
  have HP := pick_none (h.sc.below (al w (.cells #[.int .i64 0, .int .i64 0] 55))) hl hst ok (.inl rfl) 0
  have hRES' : Hid _ := hRES
  clear hRES
  go_enter Try.func51, Try.ntmps51
  go_wp2_with (first
    | (go_at_call 17; refine (run_within (hS1.below (al w1 (.cells #[.int .i64 0] 3))) _ _).mono ?_; rintro e w2 ⟨rfl, hw2⟩
       have hBw2 : Below w.heap.size w w2 := by rw [hw2]; exact hBw.alloc hBw.size _
       have P2 := h.below hBw2
       have R2 : Blk w2 w.heap.size 55 [.int .i64 0, .int .i64 0] := by rw [hw2]; exact ((B0.upd (S := Non) (Upd.ofBelow hB1) (fun h => h)).alloc _)
       clear hw2 hS1 y0 q0 x0 p0 X1 u1
       have x0 := P2.bx.bx.cell1 0 _ rfl
       have p3 := P2.pr.blk.cell1 3 _ rfl
       have z3 := P2.pr.blk.frozen 3)
    | (go_at_call 16; refine HP.mono ?_; rintro e w1 ⟨rfl, hB1⟩
       have hS1 := (h.sc.below (al w (.cells #[.int .i64 0, .int .i64 0] 55))).below hB1
       have hBw : Below w.heap.size w w1 := (al w (.cells #[.int .i64 0, .int .i64 0] 55)).trans (hB1.mono (by simp))
       have u1 : Upd Non w w1 := Upd.ofBelow hBw
       have y0 := (h.bx.bx.upd u1 (fun h => h)).cell1 0 _ rfl
       have X1 := h.pr.blk.upd u1 (fun h => h)
       have q0 := X1.cell1 0 _ rfl))
  go_cut [5] from 27 to 45 (fun _ wc => Lp w wc b rv m ps ts H st c xb dv tv tv T N M xB aB lB tB at_ lv n l)
  case first =>
    go_region
    all_goals go_wp2
    all_goals go_meet
    case rel =>
      have U : Upd (StB m xb aB tv) w w2 := Upd.ofBelow hBw2
      exact ⟨P2.bad.below ((Below.refl _ _).drew), (R2.other (a := ⟨xb, 3, none⟩) (by have := P2.pr.blk.ne R2 (by decide); simpa using this.symm) _).drew, (U.setCell (p := ⟨xb, 3, none⟩) (fun _ => .inr (.inl rfl)) _).drew, .inl rfl⟩
  case rest =>
    clear P2 R2 x0 p3 z3 HP B0 hBw2 hBw hB1
    have L0 := hcut
    clear hcut
    have hact' := hact
    clear hact
    go_wp2
    go_loopw [9] (fun _ wr => ∃ (a1 : Nat) (H1 : Int → Option Int) (T1 : List Int) (tv1 : Value), Lp w wr b rv m ps ts H1 st c xb dv tv tv1 T1 N M xB aB lB tB a1 lv n l ∧ a1 ≤ l.length ∧ T1.length + (l.length - a1) ≤ 100000 ∧ Hid (stepR n (l.drop a1) H1 T1 a1 = RES)) (fun _ wr => l.length - atW wr aB)
    case atStart => exact ⟨at_, H, T, tv, L0, hat, by omega, hRES'.out.symm⟩
    case round =>
      clear L0
      obtain ⟨a1, H1, T1, tv1, L, ha1, hT1, hR1⟩ := hrel
      have a0 := L.sp.bx.ba.cell1 0 _ rfl
      have l0 := L.sp.bx.bl.cell1 0 _ rfl
      have r0 := L.r0.cell1 0 _ rfl
      have r1 := L.r0.cell1 1 _ rfl
      have f0 := L.r0.frozen 0
      have f1 := L.r0.frozen 1
      have z0 := L.sp.bx.ba.frozen 0
      rw [hlv] at l0
      have la1 := L.sp.bx.ba.lt
      have lr1 := L.r0.lt
      have lt1 := L.sp.bx.bt.lt
      have lx1 := L.sp.bx.bx.lt
      have e0 := L.sp.bx.bt.cell1 0 _ rfl
      have e1 := L.sp.bx.bx.cell1 0 _ rfl
      have nar : aB ≠ w.heap.size := by have := h.ma; have := h.hm; omega
      have nar' := nar.symm
      have nxa := L.sp.bx.bx.ne L.sp.bx.ba (by decide)
      have nta := h.na.symm
      have hac0 : (a1 : Int) ≤ 100000 := by omega
      by_cases hlt : a1 < l.length
      · have hlt' : (a1 : Int) < (l.length : Int) := by omega
        have hx := List.getElem?_eq_getElem hlt
        have hxm := List.getElem_mem hlt
        have hdr := List.drop_eq_getElem_cons hlt
        generalize l[a1] = x at hx hxm hdr
        obtain ⟨ac, on⟩ := x
        obtain ⟨B, off, hla, hBN, hc0, hc1⟩ : ∃ B off, la = some ⟨B, off, none⟩ ∧ B < N ∧ wr.cell? ⟨B, off + a1 * 2, none⟩ = some (.int .i64 ac) ∧ wr.cell? ⟨B, off + a1 * 2 + 1, none⟩ = some (.int .i64 on) := by
          rcases L.sp.rd with ⟨a', c', hv, hl0⟩ | ⟨B, off, cap, hv, hBN, hc⟩
          · rw [hl0] at hlt; simp at hlt
          · rw [hlv] at hv
            cases hv
            obtain ⟨h1, h2⟩ := hc a1 _ hx
            exact ⟨B, off, rfl, hBN, h1, h2⟩
        subst hla
        obtain ⟨q1, q2, q3⟩ := hact' _ hxm
        dsimp only at q1 q2 q3
        by_cases hac : ac < 0
        · have hr := hR1.out
          rw [hdr, stepR, if_pos hac] at hr
          subst hr
          have Rn := (((L.r0.other (a := ⟨aB, 0, none⟩) nar' (.int .i64 ((a1 : Int) + 1))).set 0 (.int .i64 (-(ac + 1)))).set 1 (.int .i64 on)).alloc (.cells #[.int .i64 ac, .int .i64 on] 64)
          have d0 := Rn.cell1 0 _ rfl
          have d1 := Rn.cell1 1 _ rfl
          have UR : Upd (At w.heap.size) (wr.setCell ⟨aB, 0, none⟩ (.int .i64 ((a1 : Int) + 1))) ((((wr.setCell ⟨aB, 0, none⟩ (.int .i64 ((a1 : Int) + 1))).setCell ⟨w.heap.size, 0, none⟩ (.int .i64 (-(ac + 1)))).setCell ⟨w.heap.size, 1, none⟩ (.int .i64 on)).alloc (.cells #[.int .i64 ac, .int .i64 on] 64)) :=
            (((Upd.refl (At w.heap.size) _).setCell (p := ⟨w.heap.size, 0, none⟩) (fun _ => rfl) _).setCell (p := ⟨w.heap.size, 1, none⟩) (fun _ => rfl) _).alloc _
          have SF := (L.sp.next (k := a1 + 1)).res (L.r0.other (a := ⟨aB, 0, none⟩) nar' _) (Nat.le_trans h.nm h.hm) UR
          have UF : Upd (StB m xb aB tv) w ((((wr.setCell ⟨aB, 0, none⟩ (.int .i64 ((a1 : Int) + 1))).setCell ⟨w.heap.size, 0, none⟩ (.int .i64 (-(ac + 1)))).setCell ⟨w.heap.size, 1, none⟩ (.int .i64 on)).alloc (.cells #[.int .i64 ac, .int .i64 on] 64)) :=
            (((L.upd.setCell (p := ⟨aB, 0, none⟩) (fun _ => .inr (.inr (.inl rfl))) _).setCell (p := ⟨w.heap.size, 0, none⟩) (fun hh => absurd hh (Nat.lt_irrefl _)) _).setCell (p := ⟨w.heap.size, 1, none⟩) (fun hh => absurd hh (Nat.lt_irrefl _)) _).alloc _
          have hloc := L.loc
          clear hdr hR1
          go_wp2
          exact bodyPost_ret (v := .agg #[.int .i64 (-(ac + 1)), .int .i64 on]) (by simp [results, Try.results51, go_sem, d0, d1]) rfl ⟨rfl, tv1, by rw [← hlv]; exact SF, UF, hloc⟩
        · obtain rfl : ac = 0 := by omega
          have hr := hR1.out
          rw [hdr, stepR, if_neg (by omega)] at hr
          have hr' : Hid _ := hr
          have hws := L.upd.size
          have S4 := (L.sp.next (k := a1 + 1)).below (al _ (.cells #[.int .i64 0, .int .i64 on] 64))
          have HA := acts_unlock S4.sc S4.pr S4.hm (by omega) hn q3
          clear hr hdr hR1 S4
          go_wp2_with (go_at_call 52; refine HA.mono ?_; rintro e w5 ⟨rfl, k1, tv5, k2, k3, k4⟩)
          have L5 := L.act _ k1 k2 k3 k4 hws
          go_roundw
          case rel => exact ⟨a1 + 1, _, _, tv5, L5, by omega, by simp; omega, hr'.out⟩
          case measure =>
            have m1 := L.sp.bx.ba.cell1 0 _ rfl
            have m2 := L5.sp.bx.ba.cell1 0 _ rfl
            simp only [atW, m1, m2]
            omega
      · obtain rfl : a1 = l.length := by omega
        have hr := hR1.out
        rw [List.drop_length, stepR] at hr
        subst hr
        have Rn := (L.r0.set 0 (.int .i64 4)).set 1 (.int .i64 0)
        have d0 := Rn.cell1 0 _ rfl
        have d1 := Rn.cell1 1 _ rfl
        have UR : Upd (At w.heap.size) wr ((wr.setCell ⟨w.heap.size, 0, none⟩ (.int .i64 4)).setCell ⟨w.heap.size, 1, none⟩ (.int .i64 0)) :=
          ((Upd.refl (At w.heap.size) _).setCell (p := ⟨w.heap.size, 0, none⟩) (fun _ => rfl) _).setCell (p := ⟨w.heap.size, 1, none⟩) (fun _ => rfl) _
        have SF := L.sp.res L.r0 (Nat.le_trans h.nm h.hm) UR
        have UF := (L.upd.setCell (p := ⟨w.heap.size, 0, none⟩) (fun hh => absurd hh (Nat.lt_irrefl _)) (.int .i64 4)).setCell (p := ⟨w.heap.size, 1, none⟩) (fun hh => absurd hh (Nat.lt_irrefl _)) (.int .i64 0)
        have hloc := L.loc
        clear hR1
        go_wp2
        exact bodyPost_ret (v := .agg #[.int .i64 4, .int .i64 0]) (by simp [results, Try.results51, go_sem, d0, d1]) rfl ⟨rfl, tv1, by rw [← hlv]; exact SF, UF, hloc⟩
end
end Go.Proofs.Ytkdjahgndkdnhaa
