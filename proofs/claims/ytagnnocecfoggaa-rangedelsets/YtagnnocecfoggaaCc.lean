/-
  Cut.
-/
import Derived.Test.YtagnnocecfoggaaCn
import Derived.Test.YtagnnocecfoggaaJc
import Derived.Test.YtagnnocecfoggaaRw
import Derived.Test.YtagnnocecfoggaaQc
import Derived.Deep.RegionHeldLaw
namespace Go.Proofs.Ytagnnocecfoggaa
open Go.RowKit
set_option linter.unusedVariables false
set_option linter.unusedSimpArgs false
/-- A row of pieces whose numbers lie in w. -/
structure Rk (w wr : World) (ov : Value) (ps : List Pc) (M : List Fg) : Prop where
  row : RowP wr w.heap.size ov ps
  len : ps.length = M.length
  at_ : ∀ (i : Nat) (p : Pc) (f : Fg), ps[i]? = some p → M[i]? = some f → p.b = f.b ∧ p.e = f.e ∧ p.n = f.q.length ∧ Rd uc 1 w p.a f.q
  bl : Below w.heap.size w wr
theorem Rk.below {w wr wr' : World} {ov : Value} {ps : List Pc} {M : List Fg} (h : Rk w wr ov ps M) (hb : Below wr.heap.size wr wr') : Rk w wr' ov ps M :=
  ⟨row_upd h.row (S := Non) (Upd.ofBelow hb) (fun _ _ h => h), h.len, h.at_, h.bl.trans (hb.mono h.bl.size)⟩
theorem Rk.rdf {w wr : World} {ov : Value} {ps : List Pc} {M : List Fg} (h : Rk w wr ov ps M) : ∃ a c, ov = .slice a M.length c ∧ RdF wr a M := by
  obtain ⟨a, c, e, _, hrd, _⟩ := row_rd pc_k h.row
  refine ⟨a, c, by rw [e, h.len], ps, h.len, hrd, fun i p f hp hf => ?_⟩
  obtain ⟨a1, a2, a3, a4⟩ := h.at_ i p f hp hf
  exact ⟨a1, a2, a3, a4.below h.bl⟩
/-- And a box with one more. -/
structure Rb (w wr : World) (ov : Value) (ps : List Pc) (M : List Fg) (xb : Nat) (x : Pc) : Prop where
  rk : Rk w wr ov ps M
  bx : Blk wr xb 63 x.c
  ne : ov.ownBlock ≠ some xb
  ge : w.heap.size ≤ xb
theorem Rb.set {w wr : World} {ov : Value} {ps : List Pc} {M : List Fg} {xb : Nat} {x y : Pc} (h : Rb w wr ov ps M xb x) {i : Nat} {v : Value} (hy : x.c.set i v = y.c) : Rb w (wr.setCell ⟨xb, i, none⟩ v) ov ps M xb y := by
  have U : Upd (fun k => k = xb) wr (wr.setCell ⟨xb, i, none⟩ v) := Upd.setCell (p := ⟨xb, i, none⟩) (Upd.refl (fun k => k = xb) _) (fun _ => rfl) _
  exact ⟨⟨row_upd h.rk.row U (fun k hk e => h.ne (by rw [← e]; exact hk)), h.rk.len, h.rk.at_, h.rk.bl.trans (U.below (fun j hj => Nat.lt_of_lt_of_le hj h.rk.bl.size) (fun j hj => by rw [hj]; exact h.ge))⟩, hy ▸ h.bx.set i v, h.ne, h.ge⟩
theorem Rb.below {w wr wr' : World} {ov : Value} {ps : List Pc} {M : List Fg} {xb : Nat} {x : Pc} (h : Rb w wr ov ps M xb x) (hb : Below wr.heap.size wr wr') : Rb w wr' ov ps M xb x :=
  ⟨h.rk.below hb, h.bx.upd (S := Non) (Upd.ofBelow hb) (fun h => h), h.ne, h.ge⟩
theorem Rb.push {w wr : World} {ov : Value} {ps : List Pc} {M : List Fg} {xb : Nat} {x : Pc} {f : Fg} (h : Rb w wr ov ps M xb x) (hf : x.b = f.b ∧ x.e = f.e ∧ x.n = f.q.length ∧ Rd uc 1 w x.a f.q) (hl : M.length ≤ 10000) :
    ∃ a n c w', (Builtin.append_ #[23, 23] 23 #[ov, .slice (some ⟨wr.heap.size, 0, none⟩) 1 1]).run Try.prog (wr.alloc (.cells #[.string x.b, .string x.e, .slice x.a x.n x.k] 63)) = .ok (.slice a n c) w' ∧ Rk w w' (.slice a n c) (ps ++ [x]) (M ++ [f]) := by
  have hbx : Below wr.heap.size wr (wr.alloc (.cells #[.string x.b, .string x.e, .slice x.a x.n x.k] 63)) := (Below.refl _ _).alloc (Nat.le_refl _) _
  have h1 := h.below hbx
  obtain ⟨v9, w9, hr9, g1, g2, g3, _⟩ := push_g (P := Try.prog) pc_k pc_1 Try.underlying23 info63 rfl (by decide) h1.rk.row h1.rk.bl.size (Blk.new wr 63 x.c) 23 (by rw [h.rk.len]; omega) (by rw [h.rk.len]; unfold maxLen; omega)
  obtain ⟨a, c, hv⟩ := row_slice g1
  subst hv
  refine ⟨a, _, c, w9, hr9, g1, by simp [h.rk.len], fun i p f' hp hf' => ?_, h1.rk.bl.trans (g2.below (fun k hk => Nat.lt_of_lt_of_le hk h1.rk.bl.size) (fun j hj => (row_blk h1.rk.row j hj).1))⟩
  rcases Nat.lt_or_ge i ps.length with hi | hi
  · rw [List.getElem?_append_left hi] at hp
    rw [List.getElem?_append_left (by rw [← h.rk.len]; exact hi)] at hf'
    exact h.rk.at_ i p f' hp hf'
  · rw [List.getElem?_append_right hi] at hp
    rw [List.getElem?_append_right (by rw [← h.rk.len]; exact hi), ← h.rk.len] at hf'
    cases e : i - ps.length with
    | zero =>
      rw [e] at hp hf'
      simp at hp hf'
      subst hp hf'
      exact hf
    | succ j =>
      rw [e] at hp
      simp at hp
theorem lt_of_kl' {how : Int} {a b : ByteArray} : decide (cmpH how a b < 0) = kl how a b := rfl
theorem cut_kinds' {how : Int} {b e : ByteArray} {f : Fg} : (cutF how b e f).b = (if kl how f.b b = true then b else f.b) ∧ (cutF how b e f).e = (if kl how e f.e = true then e else f.e) := ⟨rfl, rfl⟩
theorem tw_step {how : Int} {b e : ByteArray} {L : List Fg} {i : Nat} {f : Fg} (h : L[i]? = some f) : ((L.drop i).map (cutF how b e)).takeWhile (onF how) = if onF how (cutF how b e f) = true then cutF how b e f :: ((L.drop (i + 1)).map (cutF how b e)).takeWhile (onF how) else [] := by
  obtain ⟨hi, rfl⟩ := List.getElem?_eq_some_iff.1 h
  rw [List.drop_eq_getElem_cons hi, List.map_cons, List.takeWhile_cons]
set_option maxRecDepth 100000 in
set_option maxHeartbeats 2000000 in
theorem Cut_any {w : World} {S : Nat} {how : Int} {a : Option Addr} {c : Nat} {L : List Fg} (h : St w S how a c L) (hg : FrG how L) (b e : ByteArray) (h2 : L.length ≤ 2048) (h3 : ∀ f ∈ L, f.q.length ≤ 1024) :
    Calls Try.prog 24 #[ptr S, .string b, .string e] w fun r w' => ∃ v, r = .returned v ∧ RowT w' w.heap.size v (cutT how b e L) ∧ Below w.heap.size w w' := by
  have HR : Hid (∀ W, Below w.heap.size w W → Calls Try.prog 41 #[ptr S, .string b] W fun e w' => e = .returned (.int .i64 (rch how L b)) ∧ Below W.heap.size W w') := fun W hb => reach_any (h.below hb) hg.o b hg.len
  have HSt : Hid (∀ w', Below w.heap.size w w' → St w' S how a c L) := fun w' hb => h.below hb
  have HRd : Hid (RdF w a L) := h.rd
  have s1 := h.blk.cell1 1 _ rfl
  have hil : rch how L b ≤ L.length := List.findIdx_le_length
  obtain ⟨TL, hTL⟩ : ∃ TL, Hid (((L.drop (rch how L b)).map (cutF how b e)).takeWhile (onF how) = TL) := ⟨_, rfl⟩
  have HC : Hid (cutT how b e L = jnT TL) := by show _ = _; unfold cutT; rw [← cut_eq hg.o, hTL.out]
  have HEnd : Hid (∀ W a' n' c' ps, Rk w W (.slice a' n' c') ps TL → Calls Try.prog 38 #[.slice a' n' c'] W fun r w' => ∃ v, r = .returned v ∧ RowT w' w.heap.size v (cutT how b e L) ∧ Below w.heap.size w w') := fun W a' n' c' ps hk => by
    have hsub : ∀ f ∈ TL, f.q.length ≤ 1024 := fun f hf => by
      rw [← hTL.out] at hf
      have := List.takeWhile_subset _ hf
      obtain ⟨f0, h0, rfl⟩ := List.mem_map.1 this
      exact h3 f0 (List.drop_subset _ _ h0)
    have hlen : TL.length ≤ 2048 := by
      rw [← hTL.out]
      refine Nat.le_trans (List.takeWhile_sublist _).length_le ?_
      rw [List.length_map, List.length_drop]; omega
    have hcq := cntQ_le hsub
    obtain ⟨a1, c1, e1, hrd⟩ := hk.rdf
    injection e1 with e1 e2 e3
    subst e1 e2 e3
    refine (tombstones_any (c := c') hrd (by omega) (Nat.le_trans hcq (Nat.le_trans (Nat.mul_le_mul_right 1024 hlen) (by decide)))).mono ?_
    rintro r w' ⟨v, rfl, r1, r2⟩
    refine ⟨v, rfl, ?_, hk.bl.trans (r2.mono hk.bl.size)⟩
    rw [HC.out]
    exact row_base r1 hk.bl.size
  obtain ⟨i, hi⟩ : ∃ i, Hid (rch how L b = i) := ⟨_, rfl⟩
  rw [hi.out] at HR hil hTL
  obtain ⟨CL, hCL⟩ : ∃ CL, cutT how b e L = CL := ⟨_, rfl⟩
  rw [hCL] at HEnd ⊢
  obtain ⟨N, hN⟩ : ∃ N, Hid (N = L.length) := ⟨_, rfl⟩
  have hl := hg.len
  have hcap := h.cap
  rw [← hN.out] at hil hl s1 hcap
  have hcut := fcut_lo a N c i hil
  obtain ⟨A, hA⟩ : ∃ A, Hid (cut3 a c i = A) := ⟨_, rfl⟩
  rw [hA.out] at hcut
  have hiz : (i : Int) ≤ N := by omega
  obtain ⟨D, hD⟩ : ∃ D, N - i = D := ⟨_, rfl⟩
  have HD : Hid (i + D = N) := by show _ = _; omega
  rw [hD] at hcut
  have hDl : D ≤ 10000 := by omega
  have HNil : Hid (∀ W, Below w.heap.size w W → Rk w W (.slice none 0 0) [] []) := fun W hb => ⟨World.ownsRow_nil _ _ _ _, rfl, fun i p f hp => by simp at hp, hb⟩
  clear h hg hD hCL HC h2 h3
  go_enter Try.func24, Try.ntmps24
  go_wp2_with fail
  go_region_held_law (fun w' => w'.cell? ⟨S, 1, none⟩ = some (.slice a N c))
    (first | (go_keep; done) | exact cell_below hb1 ‹_›)
    ((go_at_call 41; refine (HR.out _ (Below.refl _ _).drew).mono ?_; rintro e w1 ⟨rfl, hb1⟩))
  have HB1 : Hid (Below w.heap.size w w1) := (Below.refl _ _).drew.trans hb1
  clear hb1 s1 hcut HR
  go_wp2_with fail
  go_loopw [7, 19] (fun s7 s19 wr => ∃ (j : Nat) (va : Option Addr) (vn vc : Nat), j ≤ D ∧ s7 = .slice va vn vc ∧ s19 = .int .i64 j ∧ Hid (∃ ps M, Rk w wr (.slice va vn vc) ps M ∧ M.length ≤ j ∧ M ++ ((L.drop (i + j)).map (cutF how b e)).takeWhile (onF how) = TL)) (fun _ s19 _ => ((D : Int) - intOf s19).toNat)
  case atStart => exact ⟨0, none, 0, 0, Nat.zero_le _, rfl, rfl, [], [], HNil.out _ HB1.out, Nat.le_refl _, hTL.out⟩
  case round =>
    obtain ⟨j, va, vn, vc, hjD, rfl, rfl, HJ⟩ := hrel
    obtain ⟨ps, M, hk, hml, hM⟩ := HJ.out
    have hSt := HSt.out wr hk.bl
    have c0 := hSt.blk.cell1 0 _ rfl
    rcases Nat.lt_or_ge j D with hjD' | hjD'
    · have hjz : (j : Int) < D := by omega
      have hij : i + j < L.length := by have := HD.out; have := hN.out; omega
      obtain ⟨f, hf⟩ : ∃ f, L[i + j]? = some f := ⟨_, List.getElem?_eq_getElem hij⟩
      obtain ⟨g, o, pa, pk, rfl, t0w, t1w, t2w, t3⟩ := HRd.out.at_ hf
      have t0 := cell_below hk.bl t0w
      have t1 := cell_below hk.bl t1w
      have t2 := cell_below hk.bl t2w
      have hA' : A = some ⟨g, o + i * 3, none⟩ := by
        rw [← hA.out]; unfold cut3
        rw [if_neg (by have := HD.out; omega)]
        simp [add_at]
      subst hA'
      rw [show o + (i + j) * 3 = o + i * 3 + j * 3 by omega] at t0 t1 t2
      have HW : Hid (M ++ (if onF how (cutF how b e f) = true then cutF how b e f :: ((L.drop (i + (j + 1))).map (cutF how b e)).takeWhile (onF how) else []) = TL) := by
        show _ = _
        rw [← hM, tw_step hf]; rfl
      obtain ⟨QN, hQN⟩ : ∃ QN, Hid (f.q.length = QN) := ⟨_, rfl⟩
      rw [hQN.out] at t2
      have hbx : Below wr.heap.size wr (wr.alloc (.cells #[.string f.b, .string f.e, .slice pa QN pk] 63)) := (Below.refl _ _).alloc (Nat.le_refl _) _
      have HX1 : Hid (Rb w (wr.alloc (.cells #[.string f.b, .string f.e, .slice pa QN pk] 63)) (.slice va vn vc) ps M wr.heap.size ⟨f.b, f.e, pa, QN, pk⟩) := by
        refine ⟨hk.below hbx, Blk.new wr 63 [.string f.b, .string f.e, .slice pa QN pk], fun e => ?_, hk.bl.size⟩
        have := (row_blk hk.row _ e).2; omega
      have HF : Hid (Rd uc 1 w pa f.q ∧ M.length ≤ 10000 ∧ M.length ≤ j) := ⟨t3, by omega, hml⟩
      have d0 := cell_below hbx c0
      have x0 := HX1.out.bx.cell1 0 _ rfl
      have x1 := HX1.out.bx.cell1 1 _ rfl
      have x2 := HX1.out.bx.cell1 2 _ rfl
      have HC0 : Hid (∀ W, Below w.heap.size w W → W.cell? ⟨S, 0, none⟩ = some (.int .i64 how)) := fun W hb => (HSt.out W hb).blk.cell1 0 _ rfl
      obtain ⟨CB, hCB⟩ : ∃ CB, Hid ((cutF how b e f).b = CB) := ⟨_, rfl⟩
      obtain ⟨CE, hCE⟩ : ∃ CE, Hid ((cutF how b e f).e = CE) := ⟨_, rfl⟩
      clear hk hM hf hml t0w t1w t2w t3 hbx hij hSt
      go_upto_region 5 with fail
      obtain ⟨xb, hxb⟩ : ∃ xb, Hid (wr.heap.size = xb) := ⟨_, rfl⟩
      rw [hxb.out] at x0 x1 x2 HX1 ⊢
      clear c0 t0 t1 t2
      generalize wr.alloc (.cells #[.string f.b, .string f.e, .slice pa QN pk] 63) = W2 at *
      have hc1 := lt_of_kl' (how := how) (a := f.b) (b := b)
      go_quiet ((go_at_call 42; exact Calls.quiet_of_same (ccmp_any _ _ _ _)))
      have HX2 : Hid (Rb w (W2.drewN nq) (.slice va vn vc) ps M xb ⟨f.b, f.e, pa, QN, pk⟩) := HX1.out.below (belN (Below.refl _ _) _)
      clear HX1 d0 x0 x1 x2
      generalize W2.drewN nq = W3 at *
      have HCu := cut_kinds' (how := how) (b := b) (e := e) (f := f)
      rw [hCB.out, hCE.out] at HCu
      have HCU : Hid _ := HCu
      clear HCu
      cases hkb : kl how f.b b
      · rw [hkb] at hc1
        have HX3 : Hid (Rb w W3 (.slice va vn vc) ps M xb ⟨CB, f.e, pa, QN, pk⟩) := by
          have hB := HCU.out.1
          rw [hkb] at hB
          simp only [Bool.false_eq_true, if_false, if_true] at hB
          rw [hB]; exact HX2.out
        clear HX2
        go_upto_region 7 with fail
        clear hc1
        obtain ⟨W4, rfl⟩ : ∃ W4, W4 = W3 := ⟨_, rfl⟩
        have d0 := HC0.out W4 HX3.out.rk.bl
        have x1 := HX3.out.bx.cell1 1 _ rfl
        have hc2 := gt_of (how := how) (a := f.e) (b := e)
        go_quiet ((go_at_call 42; exact Calls.quiet_of_same (ccmp_any _ _ _ _)))
        have HX4 : Hid (Rb w (W4.drewN nq) (.slice va vn vc) ps M xb ⟨CB, f.e, pa, QN, pk⟩) := HX3.out.below (belN (Below.refl _ _) _)
        clear HX3 d0 x1
        generalize W4.drewN nq = W5 at *
        cases hke : kl how e f.e
        · rw [hke] at hc2
          have HX5 : Hid (Rb w W5 (.slice va vn vc) ps M xb ⟨CB, CE, pa, QN, pk⟩) := by
            have hE := HCU.out.2
            rw [hke] at hE
            simp only [Bool.false_eq_true, if_false, if_true] at hE
            rw [hE]; exact HX4.out
          clear HX4
          go_upto_region 9 with fail
          clear hc2
          obtain ⟨W6, rfl⟩ : ∃ W6, W6 = W5 := ⟨_, rfl⟩
          have d0 := HC0.out W6 HX5.out.rk.bl
          have x0 := HX5.out.bx.cell1 0 _ rfl
          have x1 := HX5.out.bx.cell1 1 _ rfl
          have hon := ge_of (how := how) (a := CB) (b := CE)
          go_quiet ((go_at_call 42; exact Calls.quiet_of_same (ccmp_any _ _ _ _)))
          have HX6 : Hid (Rb w (W6.drewN nq) (.slice va vn vc) ps M xb ⟨CB, CE, pa, QN, pk⟩) := HX5.out.below (belN (Below.refl _ _) _)
          clear HX5 d0 x0 x1
          generalize W6.drewN nq = W7 at *
          cases hv : kle how CE CB
          · rw [hv] at hon
            have x0 := HX6.out.bx.cell1 0 _ rfl
            have x1 := HX6.out.bx.cell1 1 _ rfl
            have x2 := HX6.out.bx.cell1 2 _ rfl
            obtain ⟨a9, n9, c9, w9, hr9, h9⟩ := HX6.out.push (f := cutF how b e f) ⟨hCB.out.symm, hCE.out.symm, hQN.out.symm, HF.out.1⟩ HF.out.2.1
            have HP : Hid (∃ ps M, Rk w w9 (.slice a9 n9 c9) ps M ∧ M.length ≤ j + 1 ∧ M ++ ((L.drop (i + (j + 1))).map (cutF how b e)).takeWhile (onF how) = TL) := by
              refine ⟨_, _, h9, by have := HF.out.2.2; simp; omega, ?_⟩
              have hw := HW.out
              rw [if_pos (by unfold onF; rw [hCB.out, hCE.out]; simpa [kle] using hv)] at hw
              rw [← hw]; simp
            clear h9 HX6
            go_wp2_with (at_builtin; refine Lib.wpList_append_run _ rfl _ _ _ _ rfl _ _ rfl rfl _ _ hr9 ?_)
            go_roundw
            case rel => exact ⟨j + 1, a9, n9, c9, by omega, rfl, by go_num, HP.out⟩
            case measure => simp [intOf]; omega
          · rw [hv] at hon
            have HT : Hid (M = TL) := by
              have hw := HW.out
              rw [if_neg (by unfold onF; rw [hCB.out, hCE.out, kle_nkl hv]; simp)] at hw
              show _ = _
              simpa using hw
            have HE : Hid (Calls Try.prog 38 #[.slice va vn vc] W7 fun r w' => ∃ v, r = .returned v ∧ RowT w' w.heap.size v CL ∧ Below w.heap.size w w') := HEnd.out W7 va vn vc ps (by rw [← HT.out]; exact HX6.out.rk)
            clear HX6
            go_wp2_with (go_at_call 38; refine HE.out.mono ?_; rintro r w8 ⟨v8, rfl, r1, r2⟩; have HR8 : Hid (RowT w8 w.heap.size v8 CL ∧ Below w.heap.size w w8) := ⟨r1, r2⟩; clear r1 r2)
            go_ret
            exact ⟨_, rfl, HR8.out⟩
        · rw [hke] at hc2
          have x1 := HX4.out.bx.cell1 1 _ rfl
          have z1 := HX4.out.bx.frozen 1
          have HX5 : Hid (Rb w (W5.setCell ⟨xb, 1, none⟩ (.string e)) (.slice va vn vc) ps M xb ⟨CB, CE, pa, QN, pk⟩) := by
            have hE := HCU.out.2
            rw [hke] at hE
            simp only [Bool.false_eq_true, if_false, if_true] at hE
            rw [hE]; exact HX4.out.set (i := 1) (v := .string e) rfl
          clear HX4
          go_upto_region 9 with fail
          clear hc2 x1 z1
          generalize W5.setCell ⟨xb, 1, none⟩ (.string e) = W6 at *
          have d0 := HC0.out W6 HX5.out.rk.bl
          have x0 := HX5.out.bx.cell1 0 _ rfl
          have x1 := HX5.out.bx.cell1 1 _ rfl
          have hon := ge_of (how := how) (a := CB) (b := CE)
          go_quiet ((go_at_call 42; exact Calls.quiet_of_same (ccmp_any _ _ _ _)))
          have HX6 : Hid (Rb w (W6.drewN nq) (.slice va vn vc) ps M xb ⟨CB, CE, pa, QN, pk⟩) := HX5.out.below (belN (Below.refl _ _) _)
          clear HX5 d0 x0 x1
          generalize W6.drewN nq = W7 at *
          cases hv : kle how CE CB
          · rw [hv] at hon
            have x0 := HX6.out.bx.cell1 0 _ rfl
            have x1 := HX6.out.bx.cell1 1 _ rfl
            have x2 := HX6.out.bx.cell1 2 _ rfl
            obtain ⟨a9, n9, c9, w9, hr9, h9⟩ := HX6.out.push (f := cutF how b e f) ⟨hCB.out.symm, hCE.out.symm, hQN.out.symm, HF.out.1⟩ HF.out.2.1
            have HP : Hid (∃ ps M, Rk w w9 (.slice a9 n9 c9) ps M ∧ M.length ≤ j + 1 ∧ M ++ ((L.drop (i + (j + 1))).map (cutF how b e)).takeWhile (onF how) = TL) := by
              refine ⟨_, _, h9, by have := HF.out.2.2; simp; omega, ?_⟩
              have hw := HW.out
              rw [if_pos (by unfold onF; rw [hCB.out, hCE.out]; simpa [kle] using hv)] at hw
              rw [← hw]; simp
            clear h9 HX6
            go_wp2_with (at_builtin; refine Lib.wpList_append_run _ rfl _ _ _ _ rfl _ _ rfl rfl _ _ hr9 ?_)
            go_roundw
            case rel => exact ⟨j + 1, a9, n9, c9, by omega, rfl, by go_num, HP.out⟩
            case measure => simp [intOf]; omega
          · rw [hv] at hon
            have HT : Hid (M = TL) := by
              have hw := HW.out
              rw [if_neg (by unfold onF; rw [hCB.out, hCE.out, kle_nkl hv]; simp)] at hw
              show _ = _
              simpa using hw
            have HE : Hid (Calls Try.prog 38 #[.slice va vn vc] W7 fun r w' => ∃ v, r = .returned v ∧ RowT w' w.heap.size v CL ∧ Below w.heap.size w w') := HEnd.out W7 va vn vc ps (by rw [← HT.out]; exact HX6.out.rk)
            clear HX6
            go_wp2_with (go_at_call 38; refine HE.out.mono ?_; rintro r w8 ⟨v8, rfl, r1, r2⟩; have HR8 : Hid (RowT w8 w.heap.size v8 CL ∧ Below w.heap.size w w8) := ⟨r1, r2⟩; clear r1 r2)
            go_ret
            exact ⟨_, rfl, HR8.out⟩
      · rw [hkb] at hc1
        have x0 := HX2.out.bx.cell1 0 _ rfl
        have z0 := HX2.out.bx.frozen 0
        have HX3 : Hid (Rb w (W3.setCell ⟨xb, 0, none⟩ (.string b)) (.slice va vn vc) ps M xb ⟨CB, f.e, pa, QN, pk⟩) := by
          have hB := HCU.out.1
          rw [hkb] at hB
          simp only [Bool.false_eq_true, if_false, if_true] at hB
          rw [hB]; exact HX2.out.set (i := 0) (v := .string b) rfl
        clear HX2
        go_upto_region 7 with fail
        clear hc1 x0 z0
        generalize W3.setCell ⟨xb, 0, none⟩ (.string b) = W4 at *
        have d0 := HC0.out W4 HX3.out.rk.bl
        have x1 := HX3.out.bx.cell1 1 _ rfl
        have hc2 := gt_of (how := how) (a := f.e) (b := e)
        go_quiet ((go_at_call 42; exact Calls.quiet_of_same (ccmp_any _ _ _ _)))
        have HX4 : Hid (Rb w (W4.drewN nq) (.slice va vn vc) ps M xb ⟨CB, f.e, pa, QN, pk⟩) := HX3.out.below (belN (Below.refl _ _) _)
        clear HX3 d0 x1
        generalize W4.drewN nq = W5 at *
        cases hke : kl how e f.e
        · rw [hke] at hc2
          have HX5 : Hid (Rb w W5 (.slice va vn vc) ps M xb ⟨CB, CE, pa, QN, pk⟩) := by
            have hE := HCU.out.2
            rw [hke] at hE
            simp only [Bool.false_eq_true, if_false, if_true] at hE
            rw [hE]; exact HX4.out
          clear HX4
          go_upto_region 9 with fail
          clear hc2
          obtain ⟨W6, rfl⟩ : ∃ W6, W6 = W5 := ⟨_, rfl⟩
          have d0 := HC0.out W6 HX5.out.rk.bl
          have x0 := HX5.out.bx.cell1 0 _ rfl
          have x1 := HX5.out.bx.cell1 1 _ rfl
          have hon := ge_of (how := how) (a := CB) (b := CE)
          go_quiet ((go_at_call 42; exact Calls.quiet_of_same (ccmp_any _ _ _ _)))
          have HX6 : Hid (Rb w (W6.drewN nq) (.slice va vn vc) ps M xb ⟨CB, CE, pa, QN, pk⟩) := HX5.out.below (belN (Below.refl _ _) _)
          clear HX5 d0 x0 x1
          generalize W6.drewN nq = W7 at *
          cases hv : kle how CE CB
          · rw [hv] at hon
            have x0 := HX6.out.bx.cell1 0 _ rfl
            have x1 := HX6.out.bx.cell1 1 _ rfl
            have x2 := HX6.out.bx.cell1 2 _ rfl
            obtain ⟨a9, n9, c9, w9, hr9, h9⟩ := HX6.out.push (f := cutF how b e f) ⟨hCB.out.symm, hCE.out.symm, hQN.out.symm, HF.out.1⟩ HF.out.2.1
            have HP : Hid (∃ ps M, Rk w w9 (.slice a9 n9 c9) ps M ∧ M.length ≤ j + 1 ∧ M ++ ((L.drop (i + (j + 1))).map (cutF how b e)).takeWhile (onF how) = TL) := by
              refine ⟨_, _, h9, by have := HF.out.2.2; simp; omega, ?_⟩
              have hw := HW.out
              rw [if_pos (by unfold onF; rw [hCB.out, hCE.out]; simpa [kle] using hv)] at hw
              rw [← hw]; simp
            clear h9 HX6
            go_wp2_with (at_builtin; refine Lib.wpList_append_run _ rfl _ _ _ _ rfl _ _ rfl rfl _ _ hr9 ?_)
            go_roundw
            case rel => exact ⟨j + 1, a9, n9, c9, by omega, rfl, by go_num, HP.out⟩
            case measure => simp [intOf]; omega
          · rw [hv] at hon
            have HT : Hid (M = TL) := by
              have hw := HW.out
              rw [if_neg (by unfold onF; rw [hCB.out, hCE.out, kle_nkl hv]; simp)] at hw
              show _ = _
              simpa using hw
            have HE : Hid (Calls Try.prog 38 #[.slice va vn vc] W7 fun r w' => ∃ v, r = .returned v ∧ RowT w' w.heap.size v CL ∧ Below w.heap.size w w') := HEnd.out W7 va vn vc ps (by rw [← HT.out]; exact HX6.out.rk)
            clear HX6
            go_wp2_with (go_at_call 38; refine HE.out.mono ?_; rintro r w8 ⟨v8, rfl, r1, r2⟩; have HR8 : Hid (RowT w8 w.heap.size v8 CL ∧ Below w.heap.size w w8) := ⟨r1, r2⟩; clear r1 r2)
            go_ret
            exact ⟨_, rfl, HR8.out⟩
        · rw [hke] at hc2
          have x1 := HX4.out.bx.cell1 1 _ rfl
          have z1 := HX4.out.bx.frozen 1
          have HX5 : Hid (Rb w (W5.setCell ⟨xb, 1, none⟩ (.string e)) (.slice va vn vc) ps M xb ⟨CB, CE, pa, QN, pk⟩) := by
            have hE := HCU.out.2
            rw [hke] at hE
            simp only [Bool.false_eq_true, if_false, if_true] at hE
            rw [hE]; exact HX4.out.set (i := 1) (v := .string e) rfl
          clear HX4
          go_upto_region 9 with fail
          clear hc2 x1 z1
          generalize W5.setCell ⟨xb, 1, none⟩ (.string e) = W6 at *
          have d0 := HC0.out W6 HX5.out.rk.bl
          have x0 := HX5.out.bx.cell1 0 _ rfl
          have x1 := HX5.out.bx.cell1 1 _ rfl
          have hon := ge_of (how := how) (a := CB) (b := CE)
          go_quiet ((go_at_call 42; exact Calls.quiet_of_same (ccmp_any _ _ _ _)))
          have HX6 : Hid (Rb w (W6.drewN nq) (.slice va vn vc) ps M xb ⟨CB, CE, pa, QN, pk⟩) := HX5.out.below (belN (Below.refl _ _) _)
          clear HX5 d0 x0 x1
          generalize W6.drewN nq = W7 at *
          cases hv : kle how CE CB
          · rw [hv] at hon
            have x0 := HX6.out.bx.cell1 0 _ rfl
            have x1 := HX6.out.bx.cell1 1 _ rfl
            have x2 := HX6.out.bx.cell1 2 _ rfl
            obtain ⟨a9, n9, c9, w9, hr9, h9⟩ := HX6.out.push (f := cutF how b e f) ⟨hCB.out.symm, hCE.out.symm, hQN.out.symm, HF.out.1⟩ HF.out.2.1
            have HP : Hid (∃ ps M, Rk w w9 (.slice a9 n9 c9) ps M ∧ M.length ≤ j + 1 ∧ M ++ ((L.drop (i + (j + 1))).map (cutF how b e)).takeWhile (onF how) = TL) := by
              refine ⟨_, _, h9, by have := HF.out.2.2; simp; omega, ?_⟩
              have hw := HW.out
              rw [if_pos (by unfold onF; rw [hCB.out, hCE.out]; simpa [kle] using hv)] at hw
              rw [← hw]; simp
            clear h9 HX6
            go_wp2_with (at_builtin; refine Lib.wpList_append_run _ rfl _ _ _ _ rfl _ _ rfl rfl _ _ hr9 ?_)
            go_roundw
            case rel => exact ⟨j + 1, a9, n9, c9, by omega, rfl, by go_num, HP.out⟩
            case measure => simp [intOf]; omega
          · rw [hv] at hon
            have HT : Hid (M = TL) := by
              have hw := HW.out
              rw [if_neg (by unfold onF; rw [hCB.out, hCE.out, kle_nkl hv]; simp)] at hw
              show _ = _
              simpa using hw
            have HE : Hid (Calls Try.prog 38 #[.slice va vn vc] W7 fun r w' => ∃ v, r = .returned v ∧ RowT w' w.heap.size v CL ∧ Below w.heap.size w w') := HEnd.out W7 va vn vc ps (by rw [← HT.out]; exact HX6.out.rk)
            clear HX6
            go_wp2_with (go_at_call 38; refine HE.out.mono ?_; rintro r w8 ⟨v8, rfl, r1, r2⟩; have HR8 : Hid (RowT w8 w.heap.size v8 CL ∧ Below w.heap.size w w8) := ⟨r1, r2⟩; clear r1 r2)
            go_ret
            exact ⟨_, rfl, HR8.out⟩
    · obtain rfl : j = D := by omega
      have hz : ¬ ((j : Int) < j) := by omega
      have HT : Hid (M = TL) := by
        show _ = _
        rw [← hM, List.drop_eq_nil_of_le (by have := HD.out; have := hN.out; omega)]; simp
      have HE : Hid (Calls Try.prog 38 #[.slice va vn vc] wr fun r w' => ∃ v, r = .returned v ∧ RowT w' w.heap.size v CL ∧ Below w.heap.size w w') := HEnd.out wr va vn vc ps (by rw [← HT.out]; exact hk)
      clear hk hM hSt c0
      go_wp2_with (go_at_call 38; refine HE.out.mono ?_; rintro r w8 ⟨v8, rfl, r1, r2⟩; have HR8 : Hid (RowT w8 w.heap.size v8 CL ∧ Below w.heap.size w w8) := ⟨r1, r2⟩; clear r1 r2)
      go_ret
      exact ⟨_, rfl, HR8.out⟩
end Go.Proofs.Ytagnnocecfoggaa
