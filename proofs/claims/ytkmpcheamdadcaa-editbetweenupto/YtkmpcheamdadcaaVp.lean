/-
  Apply.
-/
import Derived.Test.YtkmpcheamdadcaaVo
import Derived.Test.YtkmpcheamdadcaaVe
import Derived.Deep.RegionWith
import Derived.Deep.RegionHeldLaw
namespace Go.Proofs.Ytkmpcheamdadcaa
open Go.RowKit
set_option linter.unusedVariables false
set_option linter.unusedSimpArgs false
theorem blk7 {W : World} {R : Nat} {t : TypeId} {f : Nat → Value} (h : Blk W R t (cells7 f)) :
    W.cell? ⟨R, 0, none⟩ = some (f 0) ∧ W.cell? ⟨R, 1, none⟩ = some (f 1) ∧ W.cell? ⟨R, 2, none⟩ = some (f 2) ∧ W.cell? ⟨R, 3, none⟩ = some (f 3) ∧ W.cell? ⟨R, 4, none⟩ = some (f 4) ∧ W.cell? ⟨R, 5, none⟩ = some (f 5) ∧ W.cell? ⟨R, 6, none⟩ = some (f 6) ∧
    W.frozen? ⟨R, 0, none⟩ = false ∧ W.frozen? ⟨R, 1, none⟩ = false ∧ W.frozen? ⟨R, 2, none⟩ = false ∧ W.frozen? ⟨R, 3, none⟩ = false ∧ W.frozen? ⟨R, 4, none⟩ = false ∧ W.frozen? ⟨R, 5, none⟩ = false ∧ W.frozen? ⟨R, 6, none⟩ = false ∧ R < W.heap.size :=
  ⟨h.cell1 0 _ rfl, h.cell1 1 _ rfl, h.cell1 2 _ rfl, h.cell1 3 _ rfl, h.cell1 4 _ rfl, h.cell1 5 _ rfl, h.cell1 6 _ rfl, h.frozen 0, h.frozen 1, h.frozen 2, h.frozen 3, h.frozen 4, h.frozen 5, h.frozen 6, h.lt⟩
theorem ed13 {W : World} {D : Nat} {P : En} {e : Ed} (h : Blk W D 27 (edA P e).toList) :
    W.cell? ⟨D, 0, none⟩ = some (.int .u32 e.fam) ∧ W.cell? ⟨D, 1, none⟩ = some (.bool e.ma) ∧ W.cell? ⟨D, 2, none⟩ = some (.bool e.dr) ∧ W.cell? ⟨D, 3, none⟩ = some (.string e.name) ∧ W.cell? ⟨D, 4, none⟩ = some (.int .i64 e.how) ∧ W.cell? ⟨D, 5, none⟩ = some (.bool e.hl) ∧ W.cell? ⟨D, 6, none⟩ = some (.bool e.hn) ∧ W.cell? ⟨D, 7, none⟩ = some (.bool e.hs) ∧
    W.cell? ⟨D, 8, none⟩ = some (.int .u64 e.log) ∧ W.cell? ⟨D, 9, none⟩ = some (.int .u64 e.next) ∧ W.cell? ⟨D, 10, none⟩ = some (.int .u64 e.seq) ∧ W.cell? ⟨D, 11, none⟩ = some (.slice P.ga e.gone.length P.gc) ∧ W.cell? ⟨D, 12, none⟩ = some (.slice P.aa e.added.length P.ac) ∧ D < W.heap.size :=
  ⟨h.cell1 0 _ rfl, h.cell1 1 _ rfl, h.cell1 2 _ rfl, h.cell1 3 _ rfl, h.cell1 4 _ rfl, h.cell1 5 _ rfl, h.cell1 6 _ rfl, h.cell1 7 _ rfl, h.cell1 8 _ rfl, h.cell1 9 _ rfl, h.cell1 10 _ rfl, h.cell1 11 _ rfl, h.cell1 12 _ rfl, h.lt⟩
def nilV : Vn := ⟨fun _ => none, fun _ => 0⟩
def nilL : Nat → List Fi := fun _ => []
/-- What Apply leaves. -/
def AppPost (w : World) (r : Int × (Nat → List Fi)) (en : Ending) (w' : World) : Prop :=
  ∃ V', en = .returned (.tuple #[.agg (verA V' r.2), .int .i64 r.1]) ∧ OwnV w' w.heap.size V' r.2 ∧ RdV w' V' r.2 ∧ Below w.heap.size w w'
theorem OwnV.box {W W' : World} {base R : Nat} {t : TypeId} {cs : List Value} {V : Vn} {L : Nat → List Fi} (h : OwnV W base V L) (hR : Blk W R t cs) (ht : (50 : TypeId) ≠ t) (u : Upd (fun k => k = R) W W') : OwnV W' base V L :=
  ⟨fun i hi => row_upd (h.rows i hi) u (fun k hk e => row_ne (h.rows i hi) hR ht k hk e), h.apart⟩
theorem nilV_own (w : World) (b : Nat) : OwnV w b nilV (fun _ => []) := ⟨fun i _ => World.ownsRow_nil _ _ _ _, fun i j _ _ _ b hb => by cases hb⟩
theorem nilV_rd (w : World) : RdV w nilV (fun _ => []) := ⟨fun i _ => .inl rfl, fun i _ _ => rfl, fun i _ => by simp, fun i _ f hf => by simp at hf⟩
def restR (how : Int) (o : Option (Nat → List Fi)) (added : List Ad) : Int × (Nat → List Fi) := match o with
  | none => (6, fun _ => [])
  | some L' => if chkE how (addL how L' added) ≠ 0 then (chkE how (addL how L' added), fun _ => []) else (0, addL how L' added)
theorem appR_rest {how : Int} {L : Nat → List Fi} {e : Ed} (h1 : chkE how L = 0) (h2 : canE e = 0) : appR how L e = restR how (gonL L e.gone) e.added := by
  unfold appR restR
  rw [if_neg (by simp [h1]), if_neg (by simp [h2])]
  cases gonL L e.gone <;> rfl
theorem gonL_cons (L : Nat → List Fi) (n : Nat) (num : Int) (r : List Gn) : gonL L (⟨n, num⟩ :: r) = if (L n).findIdx (numB num) < (L n).length then gonL (updL L n (tdel (L n) ((L n).findIdx (numB num)))) r else none := by
  simp [gonL]
theorem addL_cons (how : Int) (L : Nat → List Fi) (n : Nat) (f : Fi) (r : List Ad) : addL how L (⟨n, f⟩ :: r) = addL how (updL L n (tins (L n) ((L n).findIdx (behB how n f)) f)) r := by
  simp [addL]
theorem row_some {w : World} {b : Nat} {e : TypeId} {k m c n : Nat} {a : Option Addr} {xs : List Value} (h : w.ownsRow b e k (.slice a m c) n xs) (hn : 0 < n) : ∃ g, a = some ⟨g, 0, none⟩ := by
  rcases h.2 with ⟨h, h0⟩ | ⟨g, cap, cur, h, _⟩
  · omega
  · cases h; exact ⟨g, rfl⟩
theorem tdel_mem {l : List Fi} {i : Nat} {f : Fi} (h : f ∈ tdel l i) : f ∈ l := by
  unfold tdel at h
  rcases List.mem_append.1 h with h | h
  · exact List.mem_of_mem_take h
  · exact List.mem_of_mem_drop h
theorem tins_mem {l : List Fi} {i : Nat} {t f : Fi} (h : f ∈ tins l i t) : f = t ∨ f ∈ l := by
  unfold tins at h
  rcases List.mem_append.1 h with h | h
  · exact .inr (List.mem_of_mem_take h)
  · rcases List.mem_cons.1 h with h | h
    · exact .inl h
    · exact .inr (List.mem_of_mem_drop h)
def finR (how : Int) (L : Nat → List Fi) : Int × (Nat → List Fi) := if chkE how L ≠ 0 then (chkE how L, fun _ => []) else (0, L)
theorem step_call51 {ops : Array Oper} {o : Oper} {a : Act} {w : World} {K : Act → World → Prop} {Q : Exit → Act → World → Prop} {Ex : Prop} (hw : Region.wanted o (yielded ops a.tmps) = true) {d : Nat} (hd : o.dst = some d) (x y z : Operand) (ts : Array TypeId)
    (ho : o.op = .call { callee := .value (.func 51), args := #[x, y, z], argTypes := ts }) (u v q : Value) (hx : a.eval x = u) (hy : a.eval y = v) (hz : a.eval z = q) {R : Ending → World → Prop} (hc : Calls Try.prog 51 #[u, v, q] w R)
    (h : ∀ e w', R e w' → ∃ r, e = .returned r ∧ K (a.put (some d) r) w') :
    if Region.wanted o (yielded ops a.tmps) = true then Oper.wp Try.prog o a w K Q else Ex := by
  rw [if_pos hw]
  have he := enters_of (P := Try.prog) Try.func51 (by kernel_rfl) rfl #[u, v, q]
  unfold Oper.wp execOp
  simp only [ho, resolve, invoke, Sem.run_bind, Sem.run_pure, Result.andThen_ok, List.map_toArray, List.map_cons, List.map_nil, hx, hy, hz, go_sem]
  show Oper.upon Try.prog o a K Q (Sem.run Try.prog (callFunc 51 (#[] ++ #[a.eval x, a.eval y, a.eval z] ++ #[])) w)
  rw [show (#[] ++ #[a.eval x, a.eval y, a.eval z] ++ #[] : Array Value) = #[u, v, q] by simp [hx, hy, hz], he, Oper.upon_enter]
  refine hc.mono ?_
  intro e w' hR
  obtain ⟨r, rfl, hk⟩ := h e w' hR
  show K (a.put o.dst r) w'
  rw [hd]; exact hk
/-- An error's end. -/
theorem app_no {w W : World} {R : Nat} (hb : Below w.heap.size w W) (hR : w.heap.size ≤ R) {r : Int × (Nat → List Fi)} {c : Int} (hr : r = (c, fun _ => [])) (a b d e f g h : Value) :
    AppPost w r (.returned (.tuple #[.agg #[.slice none 0 0, .slice none 0 0, .slice none 0 0, .slice none 0 0, .slice none 0 0, .slice none 0 0, .slice none 0 0], .int .i64 c])) (((((((W.setCell ⟨R, 0, none⟩ a).setCell ⟨R, 1, none⟩ b).setCell ⟨R, 2, none⟩ d).setCell ⟨R, 3, none⟩ e).setCell ⟨R, 4, none⟩ f).setCell ⟨R, 5, none⟩ g).setCell ⟨R, 6, none⟩ h) := by
  subst hr
  exact ⟨nilV, rfl, nilV_own _ _, nilV_rd _, Upd.bel hb (upd7 _ _ _ _ _ _ _ _ _) (fun j hj => by omega) hb.size⟩
set_option maxRecDepth 100000 in
set_option maxHeartbeats 1200000 in
theorem apply_any {w : World} {V : Vn} {L : Nat → List Fi} (h : RdV w V L) {P : En} {e : Ed} (he : RdEd w P e) (hao : ∀ a ∈ e.added, FOk a.f) (how : Int) :
    Calls Try.prog 18 #[.int .i64 how, .agg (verA V L), .agg (edA P e)] w (AppPost w (appR how L e)) := by
  have HV : Hid (RdV w V L) := h
  have HE : Hid (RdEd w P e) := he
  have HAo : Hid (∀ a ∈ e.added, FOk a.f) := hao
  have HCk : Hid (∀ W, Below w.heap.size w W → Calls Try.prog 21 #[.int .i64 how, .agg (verA V L)] W fun en w' => en = .returned (.int .i64 (chkE how L)) ∧ Below W.heap.size W w') := fun W hb => check_any (HV.out.below hb) how
  have HCe : Hid (∀ W, Below w.heap.size w W → Calls Try.prog 32 #[.agg (edA P e)] W fun en w' => en = .returned (.int .i64 (canE e)) ∧ Below W.heap.size W w') := fun W hb => cedit_any (HE.out.below hb)
  obtain ⟨RES, hRES⟩ : ∃ RES, Hid (appR how L e = RES) := ⟨_, rfl⟩
  rw [hRES.out]
  obtain ⟨C1, hC1⟩ : ∃ C1, Hid (chkE how L = C1) := ⟨_, rfl⟩
  rw [hC1.out] at HCk
  obtain ⟨C2, hC2⟩ : ∃ C2, Hid (canE e = C2) := ⟨_, rfl⟩
  rw [hC2.out] at HCe
  have hb1 : Below w.heap.size w (((w.alloc (.cells (verA V L) 41)).alloc (edO P e)).alloc (.cells #[.slice none 0 0, .slice none 0 0, .slice none 0 0, .slice none 0 0, .slice none 0 0, .slice none 0 0, .slice none 0 0] 41)) := bstep (bstep (al1 _ _) (al1 _ _)) (al1 _ _)
  have B0 := ((Blk.new w 41 (cells7 (vsl V L))).alloc (edO P e)).alloc (.cells #[.slice none 0 0, .slice none 0 0, .slice none 0 0, .slice none 0 0, .slice none 0 0, .slice none 0 0, .slice none 0 0] 41)
  have B1 := (ed_box (w.alloc (.cells (verA V L) 41)) P e).alloc (.cells #[.slice none 0 0, .slice none 0 0, .slice none 0 0, .slice none 0 0, .slice none 0 0, .slice none 0 0, .slice none 0 0] 41)
  have B2 := Blk.new ((w.alloc (.cells (verA V L) 41)).alloc (edO P e)) 41 (cells7 nil7)
  simp only [World.size_alloc] at B1 B2
  have H21 := HCk.out _ hb1
  have HB1 : Hid (Below w.heap.size w (((w.alloc (.cells (verA V L) 41)).alloc (edO P e)).alloc (.cells #[.slice none 0 0, .slice none 0 0, .slice none 0 0, .slice none 0 0, .slice none 0 0, .slice none 0 0, .slice none 0 0] 41)) ∧
      Blk (((w.alloc (.cells (verA V L) 41)).alloc (edO P e)).alloc (.cells #[.slice none 0 0, .slice none 0 0, .slice none 0 0, .slice none 0 0, .slice none 0 0, .slice none 0 0, .slice none 0 0] 41)) w.heap.size 41 (cells7 (vsl V L)) ∧
      Blk (((w.alloc (.cells (verA V L) 41)).alloc (edO P e)).alloc (.cells #[.slice none 0 0, .slice none 0 0, .slice none 0 0, .slice none 0 0, .slice none 0 0, .slice none 0 0, .slice none 0 0] 41)) (w.heap.size + 1) 27 (edA P e).toList ∧
      Blk (((w.alloc (.cells (verA V L) 41)).alloc (edO P e)).alloc (.cells #[.slice none 0 0, .slice none 0 0, .slice none 0 0, .slice none 0 0, .slice none 0 0, .slice none 0 0, .slice none 0 0] 41)) (w.heap.size + 1 + 1) 41 (cells7 nil7)) := ⟨hb1, B0, B1, B2⟩
  clear h he hao hb1 B0 B1 B2
  by_cases hc1 : C1 = 0
  · have hc1' : (C1 != 0) = false := by simp [hc1]
    by_cases hc2 : C2 = 0
    · have hc2' : (C2 != 0) = false := by simp [hc2]
      have hr : Hid (RES = restR how (gonL L e.gone) e.added) := by
        show _ = _
        rw [← hRES.out]; exact appR_rest (hC1.out.trans hc1) (hC2.out.trans hc2)
      have hz := canE_zero (hC2.out.trans hc2)
      have HGz : Hid (∀ g ∈ e.gone, isLvB g.lv = true) := hz.1
      have HAz : Hid (∀ a ∈ e.added, isLvB a.lv = true) := hz.2.1
      have HLz : Hid (e.gone.length + e.added.length ≤ 1024) := hz.2.2
      have HL0 : Hid (∀ i, i < 7 → (L i).length ≤ 1024) := fun i hi => chk_len (hC1.out.trans hc1) i hi
      clear hRES hz
      go_enter Try.func18, Try.ntmps18
      go_wp2_with (first
        | (go_at_call 21; refine H21.mono ?_; rintro en w2 ⟨rfl, hb2⟩
           have X2 := HB1.out.2.2.1.upd (S := Non) (Upd.ofBelow hb2) (fun h => h)
           obtain ⟨d0, d1, d2, d3, d4, d5, d6, d7, d8, d9, d10, d11, d12, ld⟩ := ed13 X2
           have H32 := HCe.out _ (bstep HB1.out.1 hb2)
           clear X2)
        | (go_at_call 32; refine H32.mono ?_; rintro en w3 ⟨rfl, hb3⟩
           have X0 := HB1.out.2.1.upd (S := Non) (Upd.ofBelow (bstep hb2 hb3)) (fun h => h)
           have HB3 : Hid (Below w.heap.size w w3) := bstep (bstep HB1.out.1 hb2) hb3
           obtain ⟨b0, b1, b2, b3, b4, b5, b6, _, _, _, _, _, _, _, lb⟩ := blk7 X0
           have H46 := cloned_any (HV.out.below HB3.out)
           clear X0)
        | (go_at_call 46; refine H46.mono ?_; rintro en w4 ⟨V1, rfl, ho4, hb4⟩
           have X1 := HB1.out.2.2.1.upd (S := Non) (Upd.ofBelow (bstep (bstep hb2 hb3) hb4)) (fun h => h)
           have X2 := HB1.out.2.2.2.upd (S := Non) (Upd.ofBelow (bstep (bstep hb2 hb3) hb4)) (fun h => h)
           have HS : Hid (Sv w (w4.alloc (.cells (verA V1 L) 39)) (w.heap.size + 1 + 1) (w.heap.size + 1) w4.heap.size P e V1 L 1024) :=
             ⟨bstep (bstep HB3.out hb4) (al1 _ _), Blk.new w4 39 (cells7 (vsl V1 L)), OwnV.below ⟨fun i hi => World.ownsRow.mono (ho4.rows i hi) (by have := HB3.out.size; omega), ho4.apart⟩ (al1 _ _), X2.alloc _, X1.alloc _, (bstep HB3.out hb4).size, HL0.out, HV.out.ok⟩
           have k11 := (X1.alloc (.cells (verA V1 L) 39)).cell1 11 _ rfl
           have k12 := (X1.alloc (.cells (verA V1 L) 39)).lt
           have hx4 : w.heap.size ≤ w4.heap.size := (bstep HB3.out hb4).size
           clear X1 X2 ho4))
      clear hb4
      generalize hX : w4.heap.size = X at *
      generalize hW5 : w4.alloc (.cells (verA V1 L) 39) = W5 at *
      clear hX hW5 k11 k12 b0 b1 b2 b3 b4 b5 b6 d0 d1 d2 d3 d4 d5 d6 d7 d8 d9 d10 d11 d12 hb2 hb3 H32 H46 HB3 ld lb
      obtain ⟨G, hG⟩ : ∃ G, Hid (e.gone.length = G) := ⟨_, rfl⟩
      rw [hG.out]
      have hGz : (G : Int) ≤ 1024 := by have := HLz.out; rw [hG.out] at this; omega
      go_loopw [38] (fun i wr => ∃ (k : Nat) (V' : Vn) (L' : Nat → List Fi), k ≤ G ∧ i = .int .i64 k ∧ Hid (RES = restR how (gonL L' (e.gone.drop k)) e.added) ∧ Hid (Sv w wr (w.heap.size + 1 + 1) (w.heap.size + 1) X P e V' L' 1024)) (fun i _ => (G : Int).toNat - (intOf i).toNat)
      case atStart => exact ⟨0, V1, L, Nat.zero_le _, rfl, hr.out, HS.out⟩
      case round =>
        clear HS hr
        obtain ⟨k, V', L', hk, rfl, HR, HS⟩ := hrel
        by_cases hlt : k < G
        · have hkz : (k : Int) < (G : Int) := by omega
          obtain ⟨x, hx⟩ : ∃ x, e.gone[k]? = some x := ⟨_, List.getElem?_eq_getElem (by rw [hG.out]; exact hlt)⟩
          obtain ⟨g, o, hga, hat⟩ := (HE.out.g.below HS.out.bel).at_ hx
          obtain ⟨n, hn, hn7⟩ := isLv_nat (HGz.out x (List.mem_of_getElem? hx))
          obtain ⟨y0, y1⟩ := hat.g
          have HR1 : Hid (RES = restR how (gonL L' (x :: e.gone.drop (k + 1))) e.added) := by show _ = _; rw [← drop_get hx]; exact HR.out
          obtain ⟨xl, xn⟩ := x
          dsimp only at hn y0 y1
          subst hn
          have HR2 : Hid (RES = restR how (if (L' n).findIdx (numB xn) < (L' n).length then gonL (updL L' n (tdel (L' n) ((L' n).findIdx (numB xn)))) (e.gone.drop (k + 1)) else none) e.added) := by
            show _ = _
            rw [← gonL_cons]; exact HR1.out
          rw [hga]
          have hnz : (n : Int) < 7 := by omega
          have S1 := HS.out.below (al1 wr (.cells #[.int .i64 n, .int .u64 xn] 66))
          have cx : (wr.alloc (.cells #[.int .i64 n, .int .u64 xn] 66)).cell? ⟨X, n, none⟩ = some (.slice (V'.a n) (L' n).length (V'.c n)) := S1.box.cell1 n _ (cells7_get _ n hn7)
          have G1 := Blk.new wr 66 [.int .i64 n, .int .u64 xn]
          have lX := S1.box.lt
          have hli := HS.out.len n hn7
          have HI := findex48 (cap := V'.c n) ((S1.rdv (by omega)).rd n hn7) (by omega) (G := wr.heap.size) (p := numB xn) (fun W hW t => num_any ((G1.upd (S := Non) (Upd.ofBelow hW) (fun h => h)).cell1 1 _ rfl) t)
          have HG1 : Hid (Blk (wr.alloc (.cells #[.int .i64 n, .int .u64 xn] 66)) wr.heap.size 66 [.int .i64 n, .int .u64 xn]) := G1
          have HS1 : Hid (Sv w (wr.alloc (.cells #[.int .i64 n, .int .u64 xn] 66)) (w.heap.size + 1 + 1) (w.heap.size + 1) X P e V' L' 1024) := S1
          clear hx hat hga HR HR1 S1 G1
          unfold idxP at HI
          obtain ⟨I, hI⟩ : ∃ I, Hid ((L' n).findIdx (numB xn) = I) := ⟨_, rfl⟩
          rw [hI.out] at HI HR2
          obtain ⟨N, hN⟩ : ∃ N, Hid ((L' n).length = N) := ⟨_, rfl⟩
          rw [hN.out] at HI HR2 cx hli
          by_cases hIN : I < N
          · rw [if_pos hIN] at HI HR2
            obtain ⟨gr, hgr⟩ := row_some (HS.out.own.rows n hn7) (by rw [hN.out]; omega)
            have HGr : Hid (V'.a n = some ⟨gr, 0, none⟩) := hgr
            rw [hgr] at HI cx
            have hIz : ¬ ((I : Int) < 0) := by omega
            have hIm : (I : Int) ≤ 1024 := by omega
            have hwI : IntKind.i64.wrap ((I : Int) + 1) = (I : Int) + 1 := by rw [IntKind.wrap_i64]; omega
            clear hgr
            go_wp2_with (go_at_call 47; refine HI.mono ?_; rintro en w6 ⟨rfl, hb6⟩)
            have S6 := (HS1.out.below hb6).below (Below.refl _ _).drew
            have G6 := (HG1.out.upd (S := Non) (Upd.ofBelow hb6) (fun h => h)).drew
            have c6 : w6.drew.cell? ⟨X, n, none⟩ = some (.slice (some ⟨gr, 0, none⟩) N (V'.c n)) := by
              have := S6.box.cell1 n _ (cells7_get _ n hn7)
              unfold vsl at this
              rw [hN.out, HGr.out] at this
              exact this
            have f6 := S6.box.frozen n
            have l6 := S6.box.lt
            have g6 := G6.cell1 0 _ rfl
            have lg6 := G6.lt
            have hrow : w6.drew.ownsRow 0 50 10 (.slice (some ⟨gr, 0, none⟩) (L' n).length (V'.c n)) (L' n).length (tcs (L' n)) := by
              have := World.ownsRow.mono (S6.own.rows n hn7) (Nat.zero_le _)
              unfold vsl at this
              rw [HGr.out] at this
              exact this
            have hXg : gr ≠ X := row_ne hrow S6.box (by decide) _ rfl
            have hGg : gr ≠ wr.heap.size := row_ne hrow G6 (by decide) _ rfl
            have HDl := delete_any hrow I (by rw [hN.out]; exact hIN) (by rw [hN.out]; omega)
            rw [hN.out] at HDl
            have HDp : Hid (∀ en w7, DelPost w6.drew gr (V'.c n) (L' n) I en w7 → en = .returned (.slice (some ⟨gr, 0, none⟩) (N - 1) (V'.c n)) ∧ Upd (fun k => k = gr) w6.drew w7 ∧ ∃ V'', Sv w (w7.setCell ⟨X, n, none⟩ (.slice (some ⟨gr, 0, none⟩) (N - 1) (V'.c n))) (w.heap.size + 1 + 1) (w.heap.size + 1) X P e V'' (updL L' n (tdel (L' n) I)) 1024) := fun en w7 ⟨h1, h2, h3⟩ => by
              rw [hN.out] at h1 h2
              have htl := tdel_len (L' n) I (by rw [hN.out]; exact hIN)
              rw [hN.out] at htl
              refine ⟨h1, h3, S6.put hn7 (by rw [htl]; exact h2) (h3.mono (fun k _ hk => by subst hk; unfold vsl; rw [HGr.out]; rfl)) (.inl (by unfold vsl; rw [HGr.out]; rfl)) (Nat.le_refl _) (by rw [htl]; omega) (fun f hf => S6.ok n hn7 f (tdel_mem hf))⟩
            have HX6 : Hid (Blk w6.drew X 39 (cells7 (vsl V' L')) ∧ Blk w6.drew wr.heap.size 66 [.int .i64 n, .int .u64 xn]) := ⟨S6.box, G6⟩
            have HN1 : Hid (RES = restR how (gonL (updL L' n (tdel (L' n) I)) (e.gone.drop (k + 1))) e.added) := HR2
            clear S6 G6 hrow HR2 HI cx
            go_region_with ((go_at_call 49; refine HDl.mono ?_; intro en w7 hp
                             obtain ⟨rfl, hu7, V'', hS7⟩ := HDp.out en w7 hp
                             have HS7 : Hid (Sv w (w7.setCell ⟨X, n, none⟩ (.slice (some ⟨gr, 0, none⟩) (N - 1) (V'.c n))) (w.heap.size + 1 + 1) (w.heap.size + 1) X P e V'' (updL L' n (tdel (L' n) I)) 1024) := hS7
                             have b7 := HX6.out.1.upd hu7 (fun e => hXg e.symm)
                             have g7' := HX6.out.2.upd hu7 (fun e => hGg e.symm)
                             have c7 := b7.cell1 n _ (cells7_get _ n hn7)
                             have f7 := b7.frozen n
                             have l7 := b7.lt
                             have g7 := g7'.cell1 0 _ rfl
                             have lg7 := g7'.lt
                             clear hp hS7 b7 g7' hu7))
            all_goals
              go_wp2
              go_roundw
              case rel => exact ⟨k + 1, V'', _, by omega, by go_num, HN1.out, HS7.out⟩
              case measure => simp [intOf]; omega
          · rw [if_neg hIN] at HI HR2
            have hr : Hid (RES = (6, fun _ => [])) := HR2.out
            clear HR2
            go_wp2_with (go_at_call 47; refine HI.mono ?_; rintro en w6 ⟨rfl, hb6⟩
                         have S6 := HS1.out.below hb6
                         have HB6 : Hid (Below w.heap.size w w6) := S6.bel
                         obtain ⟨r0, r1, r2, r3, r4, r5, r6, f0, f1, f2, f3, f4, f5, f6, lr⟩ := blk7 S6.res
                         clear S6)
            refine bodyPost_ret (v := .tuple #[.agg #[.slice none 0 0, .slice none 0 0, .slice none 0 0, .slice none 0 0, .slice none 0 0, .slice none 0 0, .slice none 0 0], .int .i64 6]) (by simp [results, Try.results18, go_sem, *]) rfl ?_
            exact app_no HB6.out (by omega) hr.out _ _ _ _ _ _ _
        · obtain rfl : k = G := by omega
          have hz : ¬ ((k : Int) < k) := by omega
          have HR0 : Hid (RES = finR how (addL how L' e.added)) := by
            show _ = _
            rw [HR.out, List.drop_of_length_le (by rw [hG.out]; exact Nat.le_refl _)]
            rfl
          have k12 := HS.out.edb.cell1 12 _ rfl
          have l12 := HS.out.edb.lt
          obtain ⟨A, hA⟩ : ∃ A, Hid (e.added.length = A) := ⟨_, rfl⟩
          rw [hA.out] at k12
          have hAz : (A : Int) ≤ 1024 := by have := HLz.out; rw [hA.out] at this; omega
          obtain ⟨W0, rfl⟩ : ∃ W0, W0 = wr := ⟨_, rfl⟩
          go_wp2
          clear k12 l12 hz HR
          go_loopw [66] (fun i wr => ∃ (q : Nat) (V2 : Vn) (L2 : Nat → List Fi), q ≤ A ∧ i = .int .i64 q ∧ Hid (RES = finR how (addL how L2 (e.added.drop q))) ∧ Hid (Sv w wr (w.heap.size + 1 + 1) (w.heap.size + 1) X P e V2 L2 (1024 + q))) (fun i _ => (A : Int).toNat - (intOf i).toNat)
          case atStart => exact ⟨0, V', L', Nat.zero_le _, rfl, HR0.out, HS.out⟩
          case round =>
            clear HS HR0
            obtain ⟨q, V2, L2, hq, rfl, HR, HS⟩ := hrel
            by_cases hlt : q < A
            · have hqz : (q : Int) < (A : Int) := by omega
              have hqa : q ≤ 1024 := by omega
              obtain ⟨x, hx⟩ : ∃ x, e.added[q]? = some x := ⟨_, List.getElem?_eq_getElem (by rw [hA.out]; exact hlt)⟩
              obtain ⟨g, o, hga, hat⟩ := (HE.out.a.below HS.out.bel).at_ hx
              obtain ⟨n, hn, hn7⟩ := isLv_nat (HAz.out x (List.mem_of_getElem? hx))
              obtain ⟨y0, y1, y2, y3, y4, y5, y6, y7, y8, y9, y10⟩ := hat.a
              have HR1 : Hid (RES = finR how (addL how L2 (x :: e.added.drop (q + 1)))) := by show _ = _; rw [← drop_get hx]; exact HR.out
              have HOx : Hid (FOk x.f) := HAo.out x (List.mem_of_getElem? hx)
              obtain ⟨xl, xf⟩ := x
              dsimp only at hn y0 y1 y2 y3 y4 y5 y6 y7 y8 y9 y10 HOx
              subst hn
              have HN1 : Hid (RES = finR how (addL how (updL L2 n (tins (L2 n) ((L2 n).findIdx (behB how n xf)) xf)) (e.added.drop (q + 1)))) := by
                show _ = _
                rw [← addL_cons]; exact HR1.out
              rw [hga]
              have hnz : (n : Int) < 7 := by omega
              have S1 := (HS.out.below (al1 wr (.cells #[.int .i64 n, .int .u64 xf.num, .int .u64 xf.size, .string xf.sm.u, .int .u64 xf.sm.s, .int .i64 xf.sm.k, .string xf.la.u, .int .u64 xf.la.s, .int .i64 xf.la.k, .int .u64 xf.ents, .int .u64 xf.rngs] 64))).below (Below.refl _ _).drew
              have G1 := (Blk.new wr 64 [.int .i64 n, .int .u64 xf.num, .int .u64 xf.size, .string xf.sm.u, .int .u64 xf.sm.s, .int .i64 xf.sm.k, .string xf.la.u, .int .u64 xf.la.s, .int .i64 xf.la.k, .int .u64 xf.ents, .int .u64 xf.rngs]).drew
              have cx : (wr.alloc (.cells #[.int .i64 n, .int .u64 xf.num, .int .u64 xf.size, .string xf.sm.u, .int .u64 xf.sm.s, .int .i64 xf.sm.k, .string xf.la.u, .int .u64 xf.la.s, .int .i64 xf.la.k, .int .u64 xf.ents, .int .u64 xf.rngs] 64)).drew.cell? ⟨X, n, none⟩ = some (.slice (V2.a n) (L2 n).length (V2.c n)) := S1.box.cell1 n _ (cells7_get _ n hn7)
              have lX := S1.box.lt
              have hli := HS.out.len n hn7
              have HPl := place_any (cap := V2.c n) ((S1.rdv (by omega)).rd n hn7) (by omega) how n xf
              have HG1 : Hid (Blk (wr.alloc (.cells #[.int .i64 n, .int .u64 xf.num, .int .u64 xf.size, .string xf.sm.u, .int .u64 xf.sm.s, .int .i64 xf.sm.k, .string xf.la.u, .int .u64 xf.la.s, .int .i64 xf.la.k, .int .u64 xf.ents, .int .u64 xf.rngs] 64)).drew wr.heap.size 64 [.int .i64 n, .int .u64 xf.num, .int .u64 xf.size, .string xf.sm.u, .int .u64 xf.sm.s, .int .i64 xf.sm.k, .string xf.la.u, .int .u64 xf.la.s, .int .i64 xf.la.k, .int .u64 xf.ents, .int .u64 xf.rngs]) := G1
              have HS1 : Hid (Sv w (wr.alloc (.cells #[.int .i64 n, .int .u64 xf.num, .int .u64 xf.size, .string xf.sm.u, .int .u64 xf.sm.s, .int .i64 xf.sm.k, .string xf.la.u, .int .u64 xf.la.s, .int .i64 xf.la.k, .int .u64 xf.ents, .int .u64 xf.rngs] 64)).drew (w.heap.size + 1 + 1) (w.heap.size + 1) X P e V2 L2 (1024 + q)) := S1
              have p0 := G1.cell1 0 _ rfl
              have p1 := G1.cell1 1 _ rfl
              have p2 := G1.cell1 2 _ rfl
              have p3 := G1.cell1 3 _ rfl
              have p4 := G1.cell1 4 _ rfl
              have p5 := G1.cell1 5 _ rfl
              have p6 := G1.cell1 6 _ rfl
              have p7 := G1.cell1 7 _ rfl
              have p8 := G1.cell1 8 _ rfl
              have p9 := G1.cell1 9 _ rfl
              have p10 := G1.cell1 10 _ rfl
              clear hx hat hga HR HR1 S1 G1
              obtain ⟨I, hI⟩ : ∃ I, Hid ((L2 n).findIdx (behB how n xf) = I) := ⟨_, rfl⟩
              have hIl : Hid (I ≤ (L2 n).length) := by show I ≤ _; rw [← hI.out]; exact List.findIdx_le_length
              rw [hI.out] at HPl HN1
              obtain ⟨N, hN⟩ : ∃ N, Hid ((L2 n).length = N) := ⟨_, rfl⟩
              rw [hN.out] at HPl cx hli
              go_wp2
              go_region_held_law (fun w' => w'.cell? ⟨wr.heap.size, 0, none⟩ = some (.int .i64 n) ∧ w'.cell? ⟨wr.heap.size, 1, none⟩ = some (.int .u64 xf.num) ∧ w'.cell? ⟨wr.heap.size, 2, none⟩ = some (.int .u64 xf.size) ∧ w'.cell? ⟨wr.heap.size, 3, none⟩ = some (.string xf.sm.u) ∧ w'.cell? ⟨wr.heap.size, 4, none⟩ = some (.int .u64 xf.sm.s) ∧ w'.cell? ⟨wr.heap.size, 5, none⟩ = some (.int .i64 xf.sm.k) ∧ w'.cell? ⟨wr.heap.size, 6, none⟩ = some (.string xf.la.u) ∧ w'.cell? ⟨wr.heap.size, 7, none⟩ = some (.int .u64 xf.la.s) ∧ w'.cell? ⟨wr.heap.size, 8, none⟩ = some (.int .i64 xf.la.k) ∧ w'.cell? ⟨wr.heap.size, 9, none⟩ = some (.int .u64 xf.ents) ∧ w'.cell? ⟨wr.heap.size, 10, none⟩ = some (.int .u64 xf.rngs) ∧ w'.cell? ⟨X, n, none⟩ = some (.slice (V2.a n) N (V2.c n)))
                (first
                  | (go_keep; done)
                  | (have S6 := HS1.out.below hb6
                     have G6 := HG1.out.upd (S := Non) (Upd.ofBelow hb6) (fun h => h)
                     have cc := S6.box.cell1 n _ (cells7_get _ n hn7)
                     unfold vsl at cc
                     rw [hN.out] at cc
                     exact ⟨G6.cell1 0 _ rfl, G6.cell1 1 _ rfl, G6.cell1 2 _ rfl, G6.cell1 3 _ rfl, G6.cell1 4 _ rfl, G6.cell1 5 _ rfl, G6.cell1 6 _ rfl, G6.cell1 7 _ rfl, G6.cell1 8 _ rfl, G6.cell1 9 _ rfl, G6.cell1 10 _ rfl, cc⟩))
                ((go_at_call 50; refine HPl.mono ?_; rintro en w6 ⟨rfl, hb6⟩))
              have HB6 : Hid (Below (wr.alloc (.cells #[.int .i64 n, .int .u64 xf.num, .int .u64 xf.size, .string xf.sm.u, .int .u64 xf.sm.s, .int .i64 xf.sm.k, .string xf.la.u, .int .u64 xf.la.s, .int .i64 xf.la.k, .int .u64 xf.ents, .int .u64 xf.rngs] 64)).drew.heap.size (wr.alloc (.cells #[.int .i64 n, .int .u64 xf.num, .int .u64 xf.size, .string xf.sm.u, .int .u64 xf.sm.s, .int .i64 xf.sm.k, .string xf.la.u, .int .u64 xf.la.s, .int .i64 xf.la.k, .int .u64 xf.ents, .int .u64 xf.rngs] 64)).drew w6) := hb6
              have S6 := HS1.out.below hb6
              have G6 := HG1.out.upd (S := Non) (Upd.ofBelow hb6) (fun h => h)
              have S8 := (S6.below (al1 w6 xf.o)).below (Below.refl _ _).drew
              have G8 := (G6.alloc xf.o).drew
              have c6 : w6.drew.cell? ⟨X, n, none⟩ = some (.slice (V2.a n) N (V2.c n)) := by
                have := S6.box.drew.cell1 n _ (cells7_get _ n hn7)
                unfold vsl at this
                rw [hN.out] at this
                exact this
              have l6 := S6.box.lt
              have lg6 := G6.lt
              have G6d := G6.drew
              have u0 := G6d.cell1 0 _ rfl
              have u1 := G6d.cell1 1 _ rfl
              have u2 := G6d.cell1 2 _ rfl
              have u3 := G6d.cell1 3 _ rfl
              have u4 := G6d.cell1 4 _ rfl
              have u5 := G6d.cell1 5 _ rfl
              have u6 := G6d.cell1 6 _ rfl
              have u7 := G6d.cell1 7 _ rfl
              have u8 := G6d.cell1 8 _ rfl
              have u9 := G6d.cell1 9 _ rfl
              have u10 := G6d.cell1 10 _ rfl
              have hrow : (w6.alloc xf.o).drew.ownsRow 0 50 10 (.slice (V2.a n) (L2 n).length (V2.c n)) (L2 n).length (tcs (L2 n)) := World.ownsRow.mono (S8.own.rows n hn7) (Nat.zero_le _)
              have hbl : ∀ k, Value.ownBlock (.slice (V2.a n) (L2 n).length (V2.c n)) = some k → k < w6.heap.size := fun k hk => (row_blk (S6.own.rows n hn7) k hk).2
              have hXg : ∀ k, Value.ownBlock (.slice (V2.a n) (L2 n).length (V2.c n)) = some k → k ≠ X := row_ne hrow S8.box (by decide)
              have hGg : ∀ k, Value.ownBlock (.slice (V2.a n) (L2 n).length (V2.c n)) = some k → k ≠ wr.heap.size := row_ne hrow G8 (by decide)
              have HIn := insert_any hrow I hIl.out xf (vb := w6.heap.size) (box_new w6 xf).drew (fun e => by have := hbl _ e; omega) (by rw [hN.out]; omega)
              rw [hN.out] at HIn hXg hGg
              have HIp : Hid (∀ en w9, InsPost (w6.alloc xf.o).drew (.slice (V2.a n) N (V2.c n)) (L2 n) I xf en w9 → ∃ va vc, en = .returned (.slice va (N + 1) vc) ∧ Upd (fun k => Value.ownBlock (.slice (V2.a n) N (V2.c n)) = some k) (w6.alloc xf.o).drew w9 ∧ ∃ V'', Sv w (w9.setCell ⟨X, n, none⟩ (.slice va (N + 1) vc)) (w.heap.size + 1 + 1) (w.heap.size + 1) X P e V'' (updL L2 n (tins (L2 n) I xf)) (1024 + (q + 1))) := fun en w9 ⟨v9, h1, h2, h3, h4⟩ => by
                have htl := tins_len (L2 n) I xf hIl.out
                obtain ⟨va, vc, hv9⟩ := row_slice h2
                rw [hN.out] at hv9 h2 htl
                subst hv9
                refine ⟨va, vc, h1, h3, S8.put hn7 (by rw [htl]; exact h2) (h3.mono (fun k _ hk => by unfold vsl; rw [hN.out]; exact hk)) (by unfold vsl; rw [hN.out]; exact h4) (by omega) (by rw [htl]; omega) (fun f hf => by
                  rcases tins_mem hf with rfl | hf
                  · exact HOx.out
                  · exact S8.ok n hn7 f hf)⟩
              have hBX : wr.heap.size ≠ X := G8.ne S8.box (by decide)
              have c8 : (w6.alloc xf.o).drew.cell? ⟨X, n, none⟩ = some (.slice (V2.a n) N (V2.c n)) := by
                have := S8.box.cell1 n _ (cells7_get _ n hn7)
                unfold vsl at this
                rw [hN.out] at this
                exact this
              have HX8 : Hid (Blk (w6.alloc xf.o).drew X 39 (cells7 (vsl V2 L2)) ∧ Blk (w6.alloc xf.o).drew wr.heap.size 64 [.int .i64 n, .int .u64 xf.num, .int .u64 xf.size, .string xf.sm.u, .int .u64 xf.sm.s, .int .i64 xf.sm.k, .string xf.la.u, .int .u64 xf.la.s, .int .i64 xf.la.k, .int .u64 xf.ents, .int .u64 xf.rngs]) := ⟨S8.box, G8⟩
              clear S6 G6 G6d S8 G8 hrow hbl HPl cx hb6 p0 p1 p2 p3 p4 p5 p6 p7 p8 p9 p10 y0 y1 y2 y3 y4 y5 y6 y7 y8 y9 y10
              go_wp2
              refine wp_region_held_drew (S := fun w' => w'.cell? ⟨wr.heap.size, 0, none⟩ = some (.int .i64 n) ∧ w'.cell? ⟨wr.heap.size, 1, none⟩ = some (.int .u64 xf.num) ∧ w'.cell? ⟨wr.heap.size, 2, none⟩ = some (.int .u64 xf.size) ∧ w'.cell? ⟨wr.heap.size, 3, none⟩ = some (.string xf.sm.u) ∧ w'.cell? ⟨wr.heap.size, 4, none⟩ = some (.int .u64 xf.sm.s) ∧ w'.cell? ⟨wr.heap.size, 5, none⟩ = some (.int .i64 xf.sm.k) ∧ w'.cell? ⟨wr.heap.size, 6, none⟩ = some (.string xf.la.u) ∧ w'.cell? ⟨wr.heap.size, 7, none⟩ = some (.int .u64 xf.la.s) ∧ w'.cell? ⟨wr.heap.size, 8, none⟩ = some (.int .i64 xf.la.k) ∧ w'.cell? ⟨wr.heap.size, 9, none⟩ = some (.int .u64 xf.ents) ∧ w'.cell? ⟨wr.heap.size, 10, none⟩ = some (.int .u64 xf.rngs)) (by kernel_rfl) ?_ (fun hHeld => ?_)
              · (try dsimp only); exact ⟨u0, u1, u2, u3, u4, u5, u6, u7, u8, u9, u10⟩
              refine wpAnyH_take (i := 0) (v := ?_) (by simp only [List.getElem?_toArray, List.getElem?_cons_zero, List.getElem?_cons_succ]; rfl) (by kernel_rfl) (by kernel_rfl) (by kernel_rfl) (by intro _ _ _ h; exact h) (Or.inl ⟨by rfl, ?_⟩) (by assumption) ?_
              rotate_left
              · intro w hSw; (try dsimp only at hSw); go_simp; (try with_reducible rfl)
              (try simp only [Act.put, List.setIfInBounds_toArray, List.set_cons_zero, List.set_cons_succ])
              refine wpAnyH_take (i := 1) (v := ?_) (by simp only [List.getElem?_toArray, List.getElem?_cons_zero, List.getElem?_cons_succ]; rfl) (by kernel_rfl) (by kernel_rfl) (by kernel_rfl) (by intro _ _ _ h; exact h) (Or.inl ⟨by rfl, ?_⟩) (by assumption) ?_
              rotate_left
              · intro w hSw; (try dsimp only at hSw); go_simp; (try with_reducible rfl)
              (try simp only [Act.put, List.setIfInBounds_toArray, List.set_cons_zero, List.set_cons_succ])
              refine wpAnyH_take (i := 2) (v := ?_) (by simp only [List.getElem?_toArray, List.getElem?_cons_zero, List.getElem?_cons_succ]; rfl) (by kernel_rfl) (by kernel_rfl) (by kernel_rfl) (by intro _ _ _ h; exact h) (Or.inl ⟨by rfl, ?_⟩) (by assumption) ?_
              rotate_left
              · intro w hSw; (try dsimp only at hSw); go_simp; (try with_reducible rfl)
              (try simp only [Act.put, List.setIfInBounds_toArray, List.set_cons_zero, List.set_cons_succ])
              refine wpAnyH_take (i := 3) (v := ?_) (by simp only [List.getElem?_toArray, List.getElem?_cons_zero, List.getElem?_cons_succ]; rfl) (by kernel_rfl) (by kernel_rfl) (by kernel_rfl) (by intro _ _ _ h; exact h) (Or.inl ⟨by rfl, ?_⟩) (by assumption) ?_
              rotate_left
              · intro w hSw; (try dsimp only at hSw); go_simp; (try with_reducible rfl)
              (try simp only [Act.put, List.setIfInBounds_toArray, List.set_cons_zero, List.set_cons_succ])
              refine wpAnyH_take (i := 4) (v := ?_) (by simp only [List.getElem?_toArray, List.getElem?_cons_zero, List.getElem?_cons_succ]; rfl) (by kernel_rfl) (by kernel_rfl) (by kernel_rfl) (by intro _ _ _ h; exact h) (Or.inl ⟨by rfl, ?_⟩) (by assumption) ?_
              rotate_left
              · intro w hSw; (try dsimp only at hSw); go_simp; (try with_reducible rfl)
              (try simp only [Act.put, List.setIfInBounds_toArray, List.set_cons_zero, List.set_cons_succ])
              refine wpAnyH_take (i := 6) (v := ?_) (by simp only [List.getElem?_toArray, List.getElem?_cons_zero, List.getElem?_cons_succ]; rfl) (by kernel_rfl) (by kernel_rfl) (by kernel_rfl) (by intro _ _ _ h; exact h) (Or.inl ⟨by rfl, ?_⟩) (by assumption) ?_
              rotate_left
              · intro w hSw; (try dsimp only at hSw); go_simp; (try with_reducible rfl)
              (try simp only [Act.put, List.setIfInBounds_toArray, List.set_cons_zero, List.set_cons_succ])
              refine wpAnyH_take (i := 7) (v := ?_) (by simp only [List.getElem?_toArray, List.getElem?_cons_zero, List.getElem?_cons_succ]; rfl) (by kernel_rfl) (by kernel_rfl) (by kernel_rfl) (by intro _ _ _ h; exact h) (Or.inl ⟨by rfl, ?_⟩) (by assumption) ?_
              rotate_left
              · intro w hSw; (try dsimp only at hSw); go_simp; (try with_reducible rfl)
              (try simp only [Act.put, List.setIfInBounds_toArray, List.set_cons_zero, List.set_cons_succ])
              refine wpAnyH_take (i := 8) (v := ?_) (by simp only [List.getElem?_toArray, List.getElem?_cons_zero, List.getElem?_cons_succ]; rfl) (by kernel_rfl) (by kernel_rfl) (by kernel_rfl) (by intro _ _ _ h; exact h) (Or.inl ⟨by rfl, ?_⟩) (by assumption) ?_
              rotate_left
              · intro w hSw; (try dsimp only at hSw); go_simp; (try with_reducible rfl)
              (try simp only [Act.put, List.setIfInBounds_toArray, List.set_cons_zero, List.set_cons_succ])
              refine wpAnyH_ready (rs := [5, 9]) (by kernel_rfl) (by simp) ?_
              refine AllReadyH.cons rfl (fun K hK => ?_) ?_
              · go_simp
                refine hK.out _ _ (by assumption) (fun hHeld => ?_)
                clear hK K
                (try simp only [Act.put, List.setIfInBounds_toArray, List.set_cons_zero, List.set_cons_succ])
                refine wpAnyH_ready (rs := [9]) (by kernel_rfl) (by simp) ?_
                refine AllReadyH.cons rfl (fun K hK => ?_) AllReadyH.nil
                go_simp
                have X8 := HX8.out.2
                refine hK.out _ _ ⟨X8.cell1 0 _ rfl, X8.cell1 1 _ rfl, X8.cell1 2 _ rfl, X8.cell1 3 _ rfl, X8.cell1 4 _ rfl, X8.cell1 5 _ rfl, X8.cell1 6 _ rfl, X8.cell1 7 _ rfl, X8.cell1 8 _ rfl, X8.cell1 9 _ rfl, X8.cell1 10 _ rfl⟩ (fun hHeld => ?_)
                clear X8
                clear hK K
                (try simp only [Act.put, List.setIfInBounds_toArray, List.set_cons_zero, List.set_cons_succ])
                refine wpAnyH_ready (rs := [10]) (by kernel_rfl) (by simp) ?_
                refine AllReadyH.cons rfl (fun K hK => ?_) AllReadyH.nil
                refine step_call51 (by rfl) (by rfl) _ _ _ _ (by rfl) _ _ _ (by rfl) (by rfl) (by rfl) HIn ?_
                intro en w9 hp
                obtain ⟨va, vc, rfl, hu9, V'', hS9⟩ := HIp.out en w9 hp
                have HS9 : Hid (Sv w (w9.setCell ⟨X, n, none⟩ (.slice va (N + 1) vc)) (w.heap.size + 1 + 1) (w.heap.size + 1) X P e V'' (updL L2 n (tins (L2 n) I xf)) (1024 + (q + 1))) := hS9
                have b9 := HX8.out.1.upd hu9 (fun e => hXg _ e rfl)
                have g9' := HX8.out.2.upd hu9 (fun e => hGg _ e rfl)
                have HG9 : Hid (Blk w9 wr.heap.size 64 _) := g9'
                have c9 := b9.cell1 n _ (cells7_get _ n hn7)
                have f9 := b9.frozen n
                have l9 := b9.lt
                refine ⟨_, rfl, ?_⟩
                refine hK.out _ _ ⟨g9'.cell1 0 _ rfl, g9'.cell1 1 _ rfl, g9'.cell1 2 _ rfl, g9'.cell1 3 _ rfl, g9'.cell1 4 _ rfl, g9'.cell1 5 _ rfl, g9'.cell1 6 _ rfl, g9'.cell1 7 _ rfl, g9'.cell1 8 _ rfl, g9'.cell1 9 _ rfl, g9'.cell1 10 _ rfl⟩ (fun hHeld => ?_)
                clear hp hS9 b9 g9' hu9
                clear hK K
                (try simp only [Act.put, List.setIfInBounds_toArray, List.set_cons_zero, List.set_cons_succ])
                refine wpAnyH_take (i := 11) (v := ?_) (by simp only [List.getElem?_toArray, List.getElem?_cons_zero, List.getElem?_cons_succ]; rfl) (by kernel_rfl) (by kernel_rfl) (by kernel_rfl) (by intro _ _ _ h; exact h) (Or.inl ⟨by rfl, ?_⟩) (by assumption) ?_
                rotate_left
                · intro w hSw; (try dsimp only at hSw); go_simp; (try with_reducible rfl)
                (try simp only [Act.put, List.setIfInBounds_toArray, List.set_cons_zero, List.set_cons_succ])
                refine wpAnyH_ready (rs := [12]) (by kernel_rfl) (by simp) ?_
                refine AllReadyH.cons rfl (fun K hK => ?_) AllReadyH.nil
                go_simp
                have X9 := HG9.out.other (a := ⟨X, n, none⟩) hBX (.slice va (N + 1) vc)
                refine hK.out _ _ ⟨X9.cell1 0 _ rfl, X9.cell1 1 _ rfl, X9.cell1 2 _ rfl, X9.cell1 3 _ rfl, X9.cell1 4 _ rfl, X9.cell1 5 _ rfl, X9.cell1 6 _ rfl, X9.cell1 7 _ rfl, X9.cell1 8 _ rfl, X9.cell1 9 _ rfl, X9.cell1 10 _ rfl⟩ (fun hHeld => ?_)
                clear X9
                clear hK K
                (try simp only [Act.put, List.setIfInBounds_toArray, List.set_cons_zero, List.set_cons_succ])
                refine wpAnyH_done (by kernel_rfl) ?_ _
                clear hHeld
                go_wp2
                go_roundw
                case rel => exact ⟨q + 1, V'', _, by omega, by go_num, HN1.out, HS9.out⟩
                case measure => simp [intOf]; omega
              refine AllReadyH.cons rfl (fun K hK => ?_) ?_
              · go_simp
                have X8 := HX8.out.2
                refine hK.out _ _ ⟨X8.cell1 0 _ rfl, X8.cell1 1 _ rfl, X8.cell1 2 _ rfl, X8.cell1 3 _ rfl, X8.cell1 4 _ rfl, X8.cell1 5 _ rfl, X8.cell1 6 _ rfl, X8.cell1 7 _ rfl, X8.cell1 8 _ rfl, X8.cell1 9 _ rfl, X8.cell1 10 _ rfl⟩ (fun hHeld => ?_)
                clear X8
                clear hK K
                (try simp only [Act.put, List.setIfInBounds_toArray, List.set_cons_zero, List.set_cons_succ])
                refine wpAnyH_ready (rs := [5]) (by kernel_rfl) (by simp) ?_
                refine AllReadyH.cons rfl (fun K hK => ?_) AllReadyH.nil
                go_simp
                refine hK.out _ _ (by assumption) (fun hHeld => ?_)
                clear hK K
                (try simp only [Act.put, List.setIfInBounds_toArray, List.set_cons_zero, List.set_cons_succ])
                refine wpAnyH_ready (rs := [10]) (by kernel_rfl) (by simp) ?_
                refine AllReadyH.cons rfl (fun K hK => ?_) AllReadyH.nil
                refine step_call51 (by rfl) (by rfl) _ _ _ _ (by rfl) _ _ _ (by rfl) (by rfl) (by rfl) HIn ?_
                intro en w9 hp
                obtain ⟨va, vc, rfl, hu9, V'', hS9⟩ := HIp.out en w9 hp
                have HS9 : Hid (Sv w (w9.setCell ⟨X, n, none⟩ (.slice va (N + 1) vc)) (w.heap.size + 1 + 1) (w.heap.size + 1) X P e V'' (updL L2 n (tins (L2 n) I xf)) (1024 + (q + 1))) := hS9
                have b9 := HX8.out.1.upd hu9 (fun e => hXg _ e rfl)
                have g9' := HX8.out.2.upd hu9 (fun e => hGg _ e rfl)
                have HG9 : Hid (Blk w9 wr.heap.size 64 _) := g9'
                have c9 := b9.cell1 n _ (cells7_get _ n hn7)
                have f9 := b9.frozen n
                have l9 := b9.lt
                refine ⟨_, rfl, ?_⟩
                refine hK.out _ _ ⟨g9'.cell1 0 _ rfl, g9'.cell1 1 _ rfl, g9'.cell1 2 _ rfl, g9'.cell1 3 _ rfl, g9'.cell1 4 _ rfl, g9'.cell1 5 _ rfl, g9'.cell1 6 _ rfl, g9'.cell1 7 _ rfl, g9'.cell1 8 _ rfl, g9'.cell1 9 _ rfl, g9'.cell1 10 _ rfl⟩ (fun hHeld => ?_)
                clear hp hS9 b9 g9' hu9
                clear hK K
                (try simp only [Act.put, List.setIfInBounds_toArray, List.set_cons_zero, List.set_cons_succ])
                refine wpAnyH_take (i := 11) (v := ?_) (by simp only [List.getElem?_toArray, List.getElem?_cons_zero, List.getElem?_cons_succ]; rfl) (by kernel_rfl) (by kernel_rfl) (by kernel_rfl) (by intro _ _ _ h; exact h) (Or.inl ⟨by rfl, ?_⟩) (by assumption) ?_
                rotate_left
                · intro w hSw; (try dsimp only at hSw); go_simp; (try with_reducible rfl)
                (try simp only [Act.put, List.setIfInBounds_toArray, List.set_cons_zero, List.set_cons_succ])
                refine wpAnyH_ready (rs := [12]) (by kernel_rfl) (by simp) ?_
                refine AllReadyH.cons rfl (fun K hK => ?_) AllReadyH.nil
                go_simp
                have X9 := HG9.out.other (a := ⟨X, n, none⟩) hBX (.slice va (N + 1) vc)
                refine hK.out _ _ ⟨X9.cell1 0 _ rfl, X9.cell1 1 _ rfl, X9.cell1 2 _ rfl, X9.cell1 3 _ rfl, X9.cell1 4 _ rfl, X9.cell1 5 _ rfl, X9.cell1 6 _ rfl, X9.cell1 7 _ rfl, X9.cell1 8 _ rfl, X9.cell1 9 _ rfl, X9.cell1 10 _ rfl⟩ (fun hHeld => ?_)
                clear X9
                clear hK K
                (try simp only [Act.put, List.setIfInBounds_toArray, List.set_cons_zero, List.set_cons_succ])
                refine wpAnyH_done (by kernel_rfl) ?_ _
                clear hHeld
                go_wp2
                go_roundw
                case rel => exact ⟨q + 1, V'', _, by omega, by go_num, HN1.out, HS9.out⟩
                case measure => simp [intOf]; omega
              exact AllReadyH.nil
            · obtain rfl : q = A := by omega
              have hz : ¬ ((q : Int) < q) := by omega
              have HF : Hid (RES = finR how L2) := by
                show _ = _
                rw [HR.out, List.drop_of_length_le (by rw [hA.out]; exact Nat.le_refl _)]
                rfl
              clear HR
              obtain ⟨x0, x1, x2, x3, x4, x5, x6, _, _, _, _, _, _, _, lx⟩ := blk7 HS.out.box
              have S9 := HS.out.below (al1 wr (.cells (verA V2 L2) 41))
              have B9 := Blk.new wr 41 (cells7 (vsl V2 L2))
              have HRv : Hid (RdV (wr.alloc (.cells (verA V2 L2) 41)) V2 L2) := S9.rdv (by omega)
              have HS9 : Hid (Sv w (wr.alloc (.cells (verA V2 L2) 41)) (w.heap.size + 1 + 1) (w.heap.size + 1) X P e V2 L2 (1024 + q)) := S9
              have HB9 : Hid (Blk (wr.alloc (.cells (verA V2 L2) 41)) wr.heap.size 41 (cells7 (vsl V2 L2))) := B9
              have H21' := check_any HRv.out how
              clear S9 B9
              obtain ⟨C3, hC3⟩ : ∃ C3, Hid (chkE how L2 = C3) := ⟨_, rfl⟩
              rw [hC3.out] at H21'
              by_cases hc3 : C3 = 0
              · have hc3' : (C3 != 0) = false := by simp [hc3]
                have hr : Hid (RES = (0, L2)) := by show _ = _; rw [HF.out]; unfold finR; rw [hC3.out, if_neg (by simp [hc3])]
                clear HF
                go_wp2_with (go_at_call 21; refine H21'.mono ?_; rintro en w9 ⟨rfl, hb9⟩
                             have S10 := HS9.out.below hb9
                             have HS10 : Hid (Sv w w9 (w.heap.size + 1 + 1) (w.heap.size + 1) X P e V2 L2 (1024 + q)) := S10
                             have B10 := HB9.out.upd (S := Non) (Upd.ofBelow hb9) (fun h => h)
                             obtain ⟨r0, r1, r2, r3, r4, r5, r6, f0, f1, f2, f3, f4, f5, f6, lr⟩ := blk7 S10.res
                             obtain ⟨s0, s1, s2, s3, s4, s5, s6, _, _, _, _, _, _, _, ls⟩ := blk7 B10
                             have hne : w.heap.size + 1 + 1 < wr.heap.size := HS.out.res.lt
                             clear S10 B10)
                refine bodyPost_ret (v := .tuple #[.agg (verA V2 L2), .int .i64 0]) (by simp [results, Try.results18, go_sem, *]) rfl ?_
                have U := upd7 w9 (w.heap.size + 1 + 1) (vsl V2 L2 0) (vsl V2 L2 1) (vsl V2 L2 2) (vsl V2 L2 3) (vsl V2 L2 4) (vsl V2 L2 5) (vsl V2 L2 6)
                have hO := HS10.out.own.box HS10.out.res (by decide) U
                have hbl := Upd.bel HS10.out.bel U (fun j hj => by omega) HS10.out.bel.size
                have hrd := hO.rdv (fun i hi => by have := HS10.out.len i hi; omega) HS10.out.ok
                unfold AppPost
                rw [hr.out]
                exact ⟨V2, rfl, hO, hrd, hbl⟩
              · have hc3' : (C3 != 0) = true := by simp [hc3]
                have hr : Hid (RES = (C3, fun _ => [])) := by show _ = _; rw [HF.out]; unfold finR; rw [hC3.out, if_pos hc3]
                clear HF
                go_wp2_with (go_at_call 21; refine H21'.mono ?_; rintro en w9 ⟨rfl, hb9⟩
                             have S10 := HS9.out.below hb9
                             have HB10 : Hid (Below w.heap.size w w9) := S10.bel
                             obtain ⟨r0, r1, r2, r3, r4, r5, r6, f0, f1, f2, f3, f4, f5, f6, lr⟩ := blk7 S10.res
                             clear S10)
                refine bodyPost_ret (v := .tuple #[.agg #[.slice none 0 0, .slice none 0 0, .slice none 0 0, .slice none 0 0, .slice none 0 0, .slice none 0 0, .slice none 0 0], .int .i64 C3]) (by simp [results, Try.results18, go_sem, *]) rfl ?_
                exact app_no HB10.out (by omega) hr.out _ _ _ _ _ _ _
    · have hc2' : (C2 != 0) = true := by simp [hc2]
      have hr : Hid (RES = (C2, fun _ => [])) := by show _ = _; rw [← hRES.out]; unfold appR; rw [hC1.out, if_neg (by simp [hc1]), hC2.out, if_pos hc2]
      clear hRES
      go_enter Try.func18, Try.ntmps18
      go_wp2_with (first
        | (go_at_call 21; refine H21.mono ?_; rintro en w2 ⟨rfl, hb2⟩
           have X2 := HB1.out.2.2.1.upd (S := Non) (Upd.ofBelow hb2) (fun h => h)
           obtain ⟨d0, d1, d2, d3, d4, d5, d6, d7, d8, d9, d10, d11, d12, ld⟩ := ed13 X2
           have H32 := HCe.out _ (bstep HB1.out.1 hb2)
           clear X2)
        | (go_at_call 32; refine H32.mono ?_; rintro en w3 ⟨rfl, hb3⟩
           have X2 := HB1.out.2.2.2.upd (S := Non) (Upd.ofBelow (bstep hb2 hb3)) (fun h => h)
           obtain ⟨r0, r1, r2, r3, r4, r5, r6, f0, f1, f2, f3, f4, f5, f6, lr⟩ := blk7 X2
           clear X2))
      refine bodyPost_ret (v := .tuple #[.agg #[.slice none 0 0, .slice none 0 0, .slice none 0 0, .slice none 0 0, .slice none 0 0, .slice none 0 0, .slice none 0 0], .int .i64 C2]) (by simp [results, Try.results18, go_sem, *]) rfl ?_
      exact app_no (bstep (bstep HB1.out.1 hb2) hb3) (by omega) hr.out _ _ _ _ _ _ _
  · have hc1' : (C1 != 0) = true := by simp [hc1]
    have hr : Hid (RES = (C1, fun _ => [])) := by show _ = _; rw [← hRES.out]; unfold appR; rw [hC1.out, if_pos hc1]
    clear hRES
    go_enter Try.func18, Try.ntmps18
    go_wp2_with (go_at_call 21; refine H21.mono ?_; rintro e w2 ⟨rfl, hb2⟩
                 have X2 := HB1.out.2.2.2.upd (S := Non) (Upd.ofBelow hb2) (fun h => h)
                 obtain ⟨r0, r1, r2, r3, r4, r5, r6, f0, f1, f2, f3, f4, f5, f6, lr⟩ := blk7 X2
                 clear X2)
    refine bodyPost_ret (v := .tuple #[.agg #[.slice none 0 0, .slice none 0 0, .slice none 0 0, .slice none 0 0, .slice none 0 0, .slice none 0 0, .slice none 0 0], .int .i64 C1]) (by simp [results, Try.results18, go_sem, *]) rfl ?_
    exact app_no (bstep HB1.out.1 hb2) (by omega) hr.out _ _ _ _ _ _ _
end Go.Proofs.Ytkmpcheamdadcaa
