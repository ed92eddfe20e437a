import Derived.Test.YtkdjahgndkdnhaaZh
import Derived.Test.YtkdjahgndkdnhaaP
namespace Go.Proofs.Ytkdjahgndkdnhaa
open Go.RowKit Go.Maps Go.Shelf
set_option linter.unusedVariables false
set_option linter.unusedSimpArgs false
/-- How a step ends. -/
structure GR where
  wish : Option (Int × Int)
  ts : List Tk
  H : Int → Option Int
  T : List Int
  at_ : Nat
/-- A task's step. -/
def stepG (n : Nat) : List (Int × Int) → List Tk → (Int → Option Int) → List Int → Nat → GR
  | [], ts, H, T, k => ⟨some (4, 0), ts, H, T, k⟩
  | (a, o) :: l, ts, H, T, k =>
    if a < 0 then ⟨some (-(a + 1), o), ts, H, T, k + 1⟩
    else if a = 0 then stepG n l ts (unH H n o) (T ++ [unE H n o]) (k + 1)
    else if a = 1 then stepG n l (sigT ts o) H (T ++ [sigE ts o]) (k + 1)
    else if a = 2 then stepG n l (goAll ts (waitL ts o)) H (T ++ [((waitL ts o).length : Int)]) (k + 1)
    else if a = 3 then ⟨none, ts, H, T, k + 1⟩
    else stepG n l ts H T (k + 1)
theorem apt_goAt {ts : List Tk} (h : Apt ts) (n : Nat) : Apt (goAt ts n) := by
  unfold goAt
  split
  · rename_i t ht
    intro i j u v hu hv ku kv e
    have key : ∀ (i : Nat) (u : Tk), (ts.set n t.goes)[i]? = some u → u.kind = 2 → ts[i]? = some u := by
      intro i u hu ku
      by_cases hi : i = n
      · subst hi
        rw [List.getElem?_set] at hu
        simp only [if_true] at hu
        split at hu
        · cases hu; simp [Tk.goes] at ku
        · cases hu
      · rwa [List.getElem?_set_ne (fun h => hi h.symm)] at hu
    exact h i j u v (key i u hu ku) (key j v hv kv) ku kv e
  · exact h
theorem apt_goAll {ts : List Tk} (h : Apt ts) (l : List Nat) : Apt (goAll ts l) := by
  induction l generalizing ts with
  | nil => exact h
  | cons n l ih => unfold goAll at ih ⊢; exact ih (apt_goAt h n)
theorem apt_sig {ts : List Tk} (h : Apt ts) (o : Int) : Apt (sigT ts o) := by
  unfold sigT
  split
  · exact h
  · exact apt_goAt h _
section
variable {w : World} {b : Nat} {rv : Value} {m : Nat} {ps : List Nat} {ts : List Tk} {H : Int → Option Int} {st : Nat} {c : Nat} {xb : Nat} {dv tv : Value} {T : List Int} {N : Nat} {xB aB lB tB at_ n : Nat} {lv : Value} {l : List (Int × Int)}
def StG (m : Nat) (ps : List Nat) (xb aB : Nat) (tv : Value) : Nat → Prop := fun k => k = m ∨ k ∈ ps ∨ k = xb ∨ k = aB ∨ tv.ownBlock = some k
/-- In mid-step. -/
structure LpG (w wr : World) (b : Nat) (rv : Value) (m : Nat) (ps : List Nat) (ts : List Tk) (H : Int → Option Int) (st c xb : Nat) (dv tv tv1 : Value) (T : List Int) (N M xB aB lB tB at_ : Nat) (lv : Value) (n : Nat) (l : List (Int × Int)) : Prop where
  sp : Sp wr b rv m ps ts H st c xb dv tv1 T N M xB aB lB tB at_ lv n l
  r0 : Blk wr w.heap.size 55 [.int .i64 0, .int .i64 0]
  upd : Upd (StG m ps xb aB tv) w wr
  loc : tv1.ownBlock = tv.ownBlock ∨ ∀ k, tv1.ownBlock = some k → w.heap.size ≤ k
/-- An act is done. -/
theorem LpG.act {M : Nat} {wr w' : World} {ts' : List Tk} {H1 H' : Int → Option Int} {T1 T' : List Int} {tv1 tv' : Value} {a1 k : Nat} (L : LpG w wr b rv m ps ts H1 st c xb dv tv tv1 T1 N M xB aB lB tB a1 lv n l) (o : Obj)
    (hs : Sc w' b rv m ps ts' H' st true c) (hp : Pr w' xb b dv tv' T' M) (hu : Upd (fun k => k = m ∨ k ∈ ps ∨ k = xb ∨ tv1.ownBlock = some k) ((wr.setCell ⟨aB, 0, none⟩ (.int .i64 k)).alloc o) w') (hloc : tv'.ownBlock = tv1.ownBlock ∨ ∀ j, tv'.ownBlock = some j → ((wr.setCell ⟨aB, 0, none⟩ (.int .i64 k)).alloc o).heap.size ≤ j) (hw : w.heap.size ≤ wr.heap.size) (hpo : ∀ j ∈ ps, N ≤ j) :
    LpG w w' b rv m ps ts' H' st c xb dv tv tv' T' N M xB aB lB tB k lv n l := by
  have S := (L.sp.next (k := k)).below ((Below.refl _ _).alloc (Nat.le_refl _) o)
  obtain ⟨D, hD⟩ := S.sc.map
  have R0 : Blk ((wr.setCell ⟨aB, 0, none⟩ (.int .i64 k)).alloc o) w.heap.size 55 [.int .i64 0, .int .i64 0] := (L.r0.other (a := ⟨aB, 0, none⟩) (L.r0.ne L.sp.bx.ba (by decide)) _).alloc _
  have keep : ∀ (j : Nat) (t : TypeId) (cs : List Value), Blk ((wr.setCell ⟨aB, 0, none⟩ (.int .i64 k)).alloc o) j t cs → t ≠ 34 → t ≠ 85 → (t ≠ 3 ∨ j < M) → Blk w' j t cs := by
    intro j t cs hB h1 h5 h2
    refine hB.upd hu ?_
    rintro (e | e | e | e)
    · exact hD.ne hB e.symm
    · obtain ⟨i, hi⟩ := List.mem_iff_getElem?.1 e
      have : i < ts.length := by rw [S.sc.len]; exact (List.getElem?_eq_some_iff.1 hi).1
      exact hB.ne (S.sc.tks i j _ hi (List.getElem?_eq_getElem this)) h5 rfl
    · exact hB.ne S.pr.blk h1 e
    · rcases h2 with h2 | h2
      · exact row_ne S.pr.told hB h2.symm j e rfl
      · have := (S.pr.told.lt j e).1; omega
  have hsz := hu.size
  simp at hsz
  refine ⟨⟨hs, hp, ⟨keep _ _ _ S.bx.bx (by decide) (by decide) (.inl (by decide)), keep _ _ _ S.bx.ba (by decide) (by decide) (.inr S.ma), keep _ _ _ S.bx.bl (by decide) (by decide) (.inl (by decide)), keep _ _ _ S.bx.bt (by decide) (by decide) (.inr S.mt)⟩, S.rd.upd hu (Nat.le_trans S.nm S.hm) ?_, S.nm, Nat.le_trans S.hm hu.size, S.na, S.oa, S.ma, S.mt, S.ox, S.om⟩, keep _ _ _ R0 (by decide) (by decide) (.inl (by decide)), ?_, ?_⟩
  · rintro j (e | e | e | e)
    · rw [e]; exact S.om
    · exact hpo j e
    · rw [e]; exact S.ox
    · exact Nat.le_trans S.nm (S.pr.told.lt j e).1
  · refine Upd.then (((L.upd.setCell (p := ⟨aB, 0, none⟩) (fun _ => .inr (.inr (.inr (.inl rfl)))) _).alloc _)) hu ?_
    rintro j hj (e | e | e | e)
    · exact .inl e
    · exact .inr (.inl e)
    · exact .inr (.inr (.inl e))
    · rcases L.loc with hl | hl
      · rw [hl] at e; exact .inr (.inr (.inr (.inr e)))
      · have := hl j e; omega
  · rcases hloc with e | e
    · rw [e]; exact L.loc
    · exact .inr (fun j hj => by have := e j hj; simp at this; omega)
set_option maxRecDepth 100000 in
set_option maxHeartbeats 1600000 in
theorem stepg_any {M : Nat} (h : Sp w b rv m ps ts H st c xb dv tv T N M xB aB lB tB at_ lv n l) (hl : ps.length ≤ 64) (hst : st < 4000000000000000000) (ok : ∀ t ∈ ts, TkOk st t) (hn : n < ps.length) (hat : at_ ≤ l.length) (hll : l.length ≤ 10000000) (hT : T.length + (l.length - at_) ≤ 900000) (hact : ∀ x ∈ l, I64 x.1 ∧ I64 x.2) (hA : Apt ts) (hpo : ∀ j ∈ ps, N ≤ j) {RES : GR} (hRES : RES = stepG n (l.drop at_) ts H T at_) :
    Calls Try.prog 51 #[ptr xB, ptr aB, ptr lB, ptr tB] w fun e w' => ∃ tv', ((∃ k o, RES.wish = some (k, o) ∧ e = .returned (.agg #[.int .i64 k, .int .i64 o])) ∨ (RES.wish = none ∧ ∃ v, e = .panicked [{ v := v, recovered := false }])) ∧ Sp w' b rv m ps RES.ts RES.H st c xb dv tv' RES.T N M xB aB lB tB RES.at_ lv n l ∧ Upd (StG m ps xb aB tv) w w' ∧ (tv'.ownBlock = tv.ownBlock ∨ ∀ k, tv'.ownBlock = some k → w.heap.size ≤ k) := by
  have al := fun (W : World) (o : Obj) => (Below.refl W.heap.size W).alloc (Nat.le_refl _) o
  obtain ⟨la, lc, hlv⟩ := h.rd.len
  have B0 := Blk.new w 55 [.int .i64 0, .int .i64 0]
  have x0 := h.bx.bx.cell1 0 _ rfl
  have p0 := h.pr.blk.cell1 0 _ rfl
  have lx := h.pr.blk.lt
  have lB' := h.bx.bx.lt
  have HP := pick_none (h.sc.below (al w (.cells #[.int .i64 0, .int .i64 0] 55))) hl hst ok (.inl rfl) 0
  have hRES' : Hid _ := hRES
  clear hRES
  go_enter Try.func51, Try.ntmps51
  go_wp2_with (first
    | (go_at_call 17; refine (run_within (hS1.below (al w1 (.cells #[.int .i64 0] 3))) _ _).mono ?_; rintro e w2 ⟨rfl, hw2⟩
       have hBw2 : Below w.heap.size w w2 := by rw [hw2]; exact hBw.alloc hBw.size _
       have P2 := h.below hBw2
       have R2 : Blk w2 w.heap.size 55 [.int .i64 0, .int .i64 0] := by rw [hw2]; exact ((B0.upd (S := Non) (Upd.ofBelow hB1) (fun h => h)).alloc _)
       clear hw2 hS1 y0 q0 x0 p0 X1 u1
       have x0 := P2.bx.bx.cell1 0 _ rfl
       have p3 := P2.pr.blk.cell1 3 _ rfl
       have z3 := P2.pr.blk.frozen 3)
    | (go_at_call 16; refine HP.mono ?_; rintro e w1 ⟨rfl, hB1⟩
       have hS1 := (h.sc.below (al w (.cells #[.int .i64 0, .int .i64 0] 55))).below hB1
       have hBw : Below w.heap.size w w1 := (al w (.cells #[.int .i64 0, .int .i64 0] 55)).trans (hB1.mono (by simp))
       have u1 : Upd Non w w1 := Upd.ofBelow hBw
       have y0 := (h.bx.bx.upd u1 (fun h => h)).cell1 0 _ rfl
       have X1 := h.pr.blk.upd u1 (fun h => h)
       have q0 := X1.cell1 0 _ rfl))
  go_cut [5] from 27 to 45 (fun _ wc => LpG w wc b rv m ps ts H st c xb dv tv tv T N M xB aB lB tB at_ lv n l)
  case first =>
    go_region
    all_goals go_wp2
    all_goals go_meet
    case rel =>
      have U : Upd (StG m ps xb aB tv) w w2 := Upd.ofBelow hBw2
      exact ⟨P2.bad.below ((Below.refl _ _).drew), (R2.other (a := ⟨xb, 3, none⟩) (by have := P2.pr.blk.ne R2 (by decide); simpa using this.symm) _).drew, (U.setCell (p := ⟨xb, 3, none⟩) (fun _ => .inr (.inr (.inl rfl))) _).drew, .inl rfl⟩
  case rest =>
    clear P2 R2 x0 p3 z3 HP B0 hBw2 hBw hB1
    have L0 := hcut
    clear hcut
    have hact' := hact
    clear hact
    go_wp2
    go_loopw [9] (fun _ wr => ∃ (a1 : Nat) (ts1 : List Tk) (H1 : Int → Option Int) (T1 : List Int) (tv1 : Value), LpG w wr b rv m ps ts1 H1 st c xb dv tv tv1 T1 N M xB aB lB tB a1 lv n l ∧ a1 ≤ l.length ∧ T1.length + (l.length - a1) ≤ 900000 ∧ Apt ts1 ∧ Hid (stepG n (l.drop a1) ts1 H1 T1 a1 = RES)) (fun _ wr => l.length - atW wr aB)
    case atStart => exact ⟨at_, ts, H, T, tv, L0, hat, by omega, hA, hRES'.out.symm⟩
    case round =>
      clear L0
      obtain ⟨a1, ts1, H1, T1, tv1, L, ha1, hT1, hA1, hR1⟩ := hrel
      have a0 := L.sp.bx.ba.cell1 0 _ rfl
      have l0 := L.sp.bx.bl.cell1 0 _ rfl
      have r0 := L.r0.cell1 0 _ rfl
      have r1 := L.r0.cell1 1 _ rfl
      have f0 := L.r0.frozen 0
      have f1 := L.r0.frozen 1
      have z0 := L.sp.bx.ba.frozen 0
      rw [hlv] at l0
      have la1 := L.sp.bx.ba.lt
      have lr1 := L.r0.lt
      have lt1 := L.sp.bx.bt.lt
      have lx1 := L.sp.bx.bx.lt
      have e0 := L.sp.bx.bt.cell1 0 _ rfl
      have e1 := L.sp.bx.bx.cell1 0 _ rfl
      have nar : aB ≠ w.heap.size := by have := h.ma; have := h.hm; omega
      have nar' := nar.symm
      have nxa := L.sp.bx.bx.ne L.sp.bx.ba (by decide)
      have nta := h.na.symm
      have hac0 : (a1 : Int) ≤ 10000000 := by omega
      by_cases hlt : a1 < l.length
      · have hlt' : (a1 : Int) < (l.length : Int) := by omega
        have hx := List.getElem?_eq_getElem hlt
        have hxm := List.getElem_mem hlt
        have hdr := List.drop_eq_getElem_cons hlt
        generalize l[a1] = x at hx hxm hdr
        obtain ⟨ac, on⟩ := x
        obtain ⟨B, off, hla, hBN, hc0, hc1⟩ : ∃ B off, la = some ⟨B, off, none⟩ ∧ B < N ∧ wr.cell? ⟨B, off + a1 * 2, none⟩ = some (.int .i64 ac) ∧ wr.cell? ⟨B, off + a1 * 2 + 1, none⟩ = some (.int .i64 on) := by
          rcases L.sp.rd with ⟨a', c', hv, hl0⟩ | ⟨B, off, cap, hv, hBN, hc⟩
          · rw [hl0] at hlt; simp at hlt
          · rw [hlv] at hv
            cases hv
            obtain ⟨h1, h2⟩ := hc a1 _ hx
            exact ⟨B, off, rfl, hBN, h1, h2⟩
        subst hla
        obtain ⟨⟨q1, q2⟩, q3⟩ := hact' _ hxm
        dsimp only at q1 q2 q3
        by_cases hac : ac < 0
        · have hr := hR1.out
          rw [hdr, stepG, if_pos hac] at hr
          subst hr
          have Rn := (((L.r0.other (a := ⟨aB, 0, none⟩) nar' (.int .i64 ((a1 : Int) + 1))).set 0 (.int .i64 (-(ac + 1)))).set 1 (.int .i64 on)).alloc (.cells #[.int .i64 ac, .int .i64 on] 64)
          have d0 := Rn.cell1 0 _ rfl
          have d1 := Rn.cell1 1 _ rfl
          have UR : Upd (At w.heap.size) (wr.setCell ⟨aB, 0, none⟩ (.int .i64 ((a1 : Int) + 1))) ((((wr.setCell ⟨aB, 0, none⟩ (.int .i64 ((a1 : Int) + 1))).setCell ⟨w.heap.size, 0, none⟩ (.int .i64 (-(ac + 1)))).setCell ⟨w.heap.size, 1, none⟩ (.int .i64 on)).alloc (.cells #[.int .i64 ac, .int .i64 on] 64)) :=
            (((Upd.refl (At w.heap.size) _).setCell (p := ⟨w.heap.size, 0, none⟩) (fun _ => rfl) _).setCell (p := ⟨w.heap.size, 1, none⟩) (fun _ => rfl) _).alloc _
          have SF := (L.sp.next (k := a1 + 1)).res (L.r0.other (a := ⟨aB, 0, none⟩) nar' _) (Nat.le_trans h.nm h.hm) UR
          have UF : Upd (StG m ps xb aB tv) w ((((wr.setCell ⟨aB, 0, none⟩ (.int .i64 ((a1 : Int) + 1))).setCell ⟨w.heap.size, 0, none⟩ (.int .i64 (-(ac + 1)))).setCell ⟨w.heap.size, 1, none⟩ (.int .i64 on)).alloc (.cells #[.int .i64 ac, .int .i64 on] 64)) :=
            (((L.upd.setCell (p := ⟨aB, 0, none⟩) (fun _ => .inr (.inr (.inr (.inl rfl)))) _).setCell (p := ⟨w.heap.size, 0, none⟩) (fun hh => absurd hh (Nat.lt_irrefl _)) _).setCell (p := ⟨w.heap.size, 1, none⟩) (fun hh => absurd hh (Nat.lt_irrefl _)) _).alloc _
          have hloc := L.loc
          clear hdr hR1
          go_wp2
          exact bodyPost_ret (v := .agg #[.int .i64 (-(ac + 1)), .int .i64 on]) (by simp [results, Try.results51, go_sem, d0, d1]) rfl ⟨⟨_, _, ⟨rfl, rfl⟩, rfl⟩, tv1, by rw [← hlv]; exact SF, UF, hloc⟩
        · have hr := hR1.out
          rw [hdr, stepG, if_neg hac] at hr
          have hws := L.upd.size
          have S4 := (L.sp.next (k := a1 + 1)).below (al _ (.cells #[.int .i64 ac, .int .i64 on] 64))
          have m1 := L.sp.bx.ba.cell1 0 _ rfl
          by_cases h0 : ac = 0
          · subst h0
            rw [if_pos rfl] at hr
            have hr' : Hid _ := hr
            have HA := acts_unlock S4.sc S4.pr S4.hm (by omega) hn q3
            clear hr hdr hR1 S4
            go_wp2_with (go_at_call 52; refine HA.mono ?_; rintro e w5 ⟨rfl, k1, tv5, k2, k3, k4⟩)
            have L5 := L.act _ k1 k2 (k3.mono (fun k _ hk => by rcases hk with h | h | h; · exact .inl h
                                                                · exact .inr (.inr (.inl h))
                                                                · exact .inr (.inr (.inr h)))) k4 hws hpo
            go_roundw
            case rel => exact ⟨a1 + 1, _, _, _, tv5, L5, by omega, by simp; omega, hA1, hr'.out⟩
            case measure =>
              have m2 := L5.sp.bx.ba.cell1 0 _ rfl
              simp only [atW, m1, m2]
              omega
          · rw [if_neg h0] at hr
            by_cases h1 : ac = 1
            · subst h1
              rw [if_pos rfl] at hr
              have hr' : Hid _ := hr
              have HA := acts_signal S4.sc hl hA1 S4.pr S4.hm (by omega) n on
              clear hr hdr hR1 S4
              go_wp2_with (go_at_call 52; refine HA.mono ?_; rintro e w5 ⟨rfl, k1, tv5, k2, k3, k4⟩)
              have L5 := L.act _ k1 k2 (k3.mono (fun k _ hk => .inr hk)) k4 hws hpo
              go_roundw
              case rel => exact ⟨a1 + 1, _, _, _, tv5, L5, by omega, by simp; omega, apt_sig hA1 _, hr'.out⟩
              case measure =>
                have m2 := L5.sp.bx.ba.cell1 0 _ rfl
                simp only [atW, m1, m2]
                omega
            · rw [if_neg h1] at hr
              by_cases h2 : ac = 2
              · subst h2
                rw [if_pos rfl] at hr
                have hr' : Hid _ := hr
                have HA := acts_broadcast S4.sc hl hA1 S4.pr S4.hm (by omega) n on
                clear hr hdr hR1 S4
                go_wp2_with (go_at_call 52; refine HA.mono ?_; rintro e w5 ⟨rfl, k1, tv5, k2, k3, k4⟩)
                have L5 := L.act _ k1 k2 (k3.mono (fun k _ hk => .inr hk)) k4 hws hpo
                go_roundw
                case rel => exact ⟨a1 + 1, _, _, _, tv5, L5, by omega, by simp; omega, apt_goAll hA1 _, hr'.out⟩
                case measure =>
                  have m2 := L5.sp.bx.ba.cell1 0 _ rfl
                  simp only [atW, m1, m2]
                  omega
              · rw [if_neg h2] at hr
                by_cases h3 : ac = 3
                · subst h3
                  rw [if_pos rfl] at hr
                  have HA := acts_panic S4.pr n on
                  subst hr
                  have UN : Upd (StG m ps xb aB tv) w ((wr.setCell ⟨aB, 0, none⟩ (.int .i64 ((a1 + 1 : Nat) : Int))).alloc (.cells #[.int .i64 3, .int .i64 on] 64)) := (L.upd.setCell (p := ⟨aB, 0, none⟩) (fun _ => .inr (.inr (.inr (.inl rfl)))) _).alloc _
                  have hloc := L.loc
                  clear hdr hR1
                  go_wp2_with (go_at_call 52; refine HA.mono ?_; rintro e w5 ⟨⟨v, rfl⟩, hB5⟩)
                  refine ⟨rfl, ⟨v, rfl⟩, tv1, ?_, UN.trans (Upd.ofBelow hB5), hloc⟩
                  rw [← hlv]
                  exact S4.below hB5
                · rw [if_neg h3] at hr
                  have hr' : Hid _ := hr
                  have HA := acts_none n ac on ((wr.setCell ⟨aB, 0, none⟩ (.int .i64 ((a1 + 1 : Nat) : Int))).alloc (.cells #[.int .i64 ac, .int .i64 on] 64)) xb h0 h1 h2 h3
                  have S5 := S4
                  clear hr hdr hR1 S4
                  go_wp2_with (go_at_call 52; refine HA.mono ?_; rintro e w5 ⟨rfl, hB5⟩)
                  have S6 := S5.below hB5
                  have L5 := L.act _ S6.sc S6.pr (Upd.ofBelow hB5) (.inl rfl) hws hpo
                  go_roundw
                  case rel => exact ⟨a1 + 1, _, _, _, tv1, L5, by omega, by omega, hA1, hr'.out⟩
                  case measure =>
                    have m2 := L5.sp.bx.ba.cell1 0 _ rfl
                    simp only [atW, m1, m2]
                    omega
      · obtain rfl : a1 = l.length := by omega
        have hr := hR1.out
        rw [List.drop_length, stepG] at hr
        subst hr
        have Rn := (L.r0.set 0 (.int .i64 4)).set 1 (.int .i64 0)
        have d0 := Rn.cell1 0 _ rfl
        have d1 := Rn.cell1 1 _ rfl
        have UR : Upd (At w.heap.size) wr ((wr.setCell ⟨w.heap.size, 0, none⟩ (.int .i64 4)).setCell ⟨w.heap.size, 1, none⟩ (.int .i64 0)) :=
          ((Upd.refl (At w.heap.size) _).setCell (p := ⟨w.heap.size, 0, none⟩) (fun _ => rfl) _).setCell (p := ⟨w.heap.size, 1, none⟩) (fun _ => rfl) _
        have SF := L.sp.res L.r0 (Nat.le_trans h.nm h.hm) UR
        have UF := (L.upd.setCell (p := ⟨w.heap.size, 0, none⟩) (fun hh => absurd hh (Nat.lt_irrefl _)) (.int .i64 4)).setCell (p := ⟨w.heap.size, 1, none⟩) (fun hh => absurd hh (Nat.lt_irrefl _)) (.int .i64 0)
        have hloc := L.loc
        clear hR1
        go_wp2
        exact bodyPost_ret (v := .agg #[.int .i64 4, .int .i64 0]) (by simp [results, Try.results51, go_sem, d0, d1]) rfl ⟨⟨_, _, ⟨rfl, rfl⟩, rfl⟩, tv1, by rw [← hlv]; exact SF, UF, hloc⟩
end
end Go.Proofs.Ytkdjahgndkdnhaa
