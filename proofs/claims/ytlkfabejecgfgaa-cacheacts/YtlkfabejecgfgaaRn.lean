/-
  The reference's Put (printed by genput.py).
-/
import Derived.Test.YtlkfabejecgfgaaRm
import Derived.Deep.RegionHeldLaw
import Derived.BigQuiet
namespace Go.Proofs.Ytlkfabejecgfgaa
open Go.RowKit Go.Maps
set_option linter.unusedVariables false
set_option linter.unusedSimpArgs false
section
variable {w : World} {R : Lr} {room : Nat} {vs : List Vw} {pv : Value} {s : Cs}
set_option maxRecDepth 100000 in
set_option maxHeartbeats 8000000 in
theorem rput_any (h : Rx w R room vs pv s) (c : Ci s) {k : ByteArray} (hk : k.size ≤ maxLen) {z : Int} {ch : Nat} (hc : ch < 18446744073709551616) (hP : s.P.length + 1 ≤ 4000000000000) :
    Calls Try.prog 30 #[.pointer (some ⟨R.cb, 0, none⟩), .string k, .int .u64 z, .int .u64 ch] w fun r w' => r = .returned (.tuple #[.int .i64 (putC s k (.int .u64 z) ch).1, .int .i64 (putC s k (.int .u64 z) ch).2.1]) ∧ Ro w R vs pv w' room (putC s k (.int .u64 z) ch).2.2 := by
  by_cases hl : 1024 < k.size
  · have e1 : putC s k (.int .u64 z) ch = (0, 2, s) := by unfold putC; rw [if_pos hl]
    rw [e1]
    have hl' : (1024 : Int) < k.size := by omega
    have h' : Hid _ := h
    clear h e1
    go_enter Try.func30, Try.ntmps30
    go_wp2_with fail
    refine bodyPost_ret (v := .tuple #[.int .i64 0, .int .i64 2]) (by simp [results, Try.results30, go_sem]) rfl ⟨rfl, ?_⟩
    exact ⟨R, vs, pv, rfl, h'.out, Upd.refl _ _, fun k hk => .inl hk⟩
  · have hl' : ¬ (1024 : Int) < k.size := by omega
    have hx := c.ix k.data.toList
    obtain ⟨v, hv, V, hl1, hl2⟩ := h.get c hx
    have n1 := c.n1
    have n2 := c.n2
    have HS := rshard_any h.rf c.n1 c.n2 k hk
    have I := c.iv _ _ hx
    have S := h.su _ _ hx
    have HM := makes_any h.rf hv c.n1 c.n2 hl1 hl2 (by rw [V.e]; exact S.c) hc h.rm
    have V1 := V.room ch (room / s.xs.length) v.wl.length I S
    have I1 := (I.room ch (room / s.xs.length) v.wl.length).1
    have E1 := (I.room ch (room / s.xs.length) v.wl.length).2
    have S1 := S.room ch (room / s.xs.length) v.wl.length _ I
    have ex1 : s.rm (s.ix k.data.toList) ch = roomX ch (room / s.xs.length) v.wl.length (s.x (s.ix k.data.toList)) := by unfold Cs.rm; rw [h.rr, V.q]
    have hel := c.el _ _ hx
    have hpl := h.pl
    have hrm := h.rm
    have hrr := h.rr
    have vE1 := vroom_ent ch (room / s.xs.length) v.wl.length v
    have eP : putC s k (.int .u64 z) ch = if s.st && excX (s.rm (s.ix k.data.toList) ch) ch s.r then (0, 110, s.setx (s.ix k.data.toList) (s.rm (s.ix k.data.toList) ch)) else ((s.P.length : Int) + 1, 0, (s.setx (s.ix k.data.toList) (putX (s.rm (s.ix k.data.toList) ch) k (.int .u64 z) ch)).give (s.ix k.data.toList, (s.rm (s.ix k.data.toList) ch).ent.length)) := by
      unfold putC; rw [if_neg hl]
    rw [ex1, hrr] at eP
    clear ex1
    have hix : s.ix k.data.toList = shd s.xs.length k.data.toList := rfl
    have hi := shd_lt c.n1 k.data.toList
    rw [hix] at hx hv V I S V1 I1 E1 S1 hel eP HM
    clear hix
    obtain ⟨i, hi0⟩ : ∃ i, shd s.xs.length k.data.toList = i := ⟨_, rfl⟩
    rw [hi0] at HS hv hx eP hi hel I S HM V I1 E1 S1 V1
    obtain ⟨x1, hx1⟩ : ∃ x1, roomX ch (room / s.xs.length) v.wl.length (s.x i) = x1 := ⟨_, rfl⟩
    obtain ⟨v1, hv1⟩ : ∃ v1, vroom ch (room / s.xs.length) v.wl.length v = v1 := ⟨_, rfl⟩
    rw [hx1] at V1 I1 E1 S1 eP
    rw [hv1] at V1 HM vE1
    clear hx1 hv1
    have hexc := exc_same V1 S1 ch (room / s.xs.length)
    have hb1 : v1.ll.length ≤ 4000000000000 := by
      rw [V1.l]
      have h1 : (LL x1).length ≤ x1.ent.length := by unfold LL; exact Nat.le_trans (List.length_filter_le _ _) (by simp)
      rw [E1] at h1
      omega
    have hb2 : v1.wl.length ≤ 4000000000000 := by
      rw [V1.q]
      have := I1.qle
      rw [E1] at this
      omega
    have hch1 : ∀ (j : Nat) (e : En), v1.ent[j]? = some e → e.chg < 18446744073709551616 := by rw [V1.e]; exact S1.c
    have hv1 : (vs.set i v1)[i]? = some v1 := by rw [vset_get hv, if_pos rfl]
    have hff := find_f V1 I1 k
    -- a refusal
    have FINA : Hid (∀ w', Rf w' R s.xs.length room s.st (vs.set i v1) pv s.P → Upd (Rb R vs pv) w w' → Ro w R vs pv w' room (s.setx i x1)) := fun w' F U => ⟨R, _, pv, rfl, h.setx hx hv F V1 S1 h.pl, U, fun a ha => .inl (Rb.set hv (by rw [vE1]) ha)⟩
    -- a new item
    have SP := (S1.put I1 k (.int .u64 z) hc (by rw [E1]; omega)).1
    have TL : Hid (∀ (y : Xs) (vy : Vw) (w3 wm : World), (y = match x1.f k.data.toList with | some j => takeX x1 j | none => x1) → Vx vy y → y.ent = x1.ent → vy.ll.length ≤ 4000000000000 → Rf w3 R s.xs.length room s.st (vs.set i vy) pv s.P → Upd (Rb R vs pv) w w3 → wm = w3.alloc (.cells #[.string k, .int .u64 z, .int .u64 ch, .bool true, .int .i64 0] 84) → _) := fun y vy w3 wm hy Vy hye hb F3 U3 hwm => by
      obtain ⟨p1, p2, p3, p4⟩ := put_parts I1 k (.int .u64 z) ch hy
      exact put_tail h c hx hv F3 U3 (hye.trans E1) Vy p1 p2 p3 p4 SP hP hb hwm
    have eN : Hid (∀ y : Xs, y.ent = x1.ent → (s.setx i (putX x1 k (.int .u64 z) ch)).give (i, x1.ent.length) = { s with xs := s.xs.set i (putX x1 k (.int .u64 z) ch), P := s.P ++ [some (i, y.ent.length)] }) := fun y hy => by rw [hy]; rfl
    obtain ⟨n, hn⟩ : ∃ n, s.xs.length = n := ⟨_, rfl⟩
    have hU0 : ∀ m (W : World), Upd (Rb R vs pv) W (W.drewN m) := fun m W => ⟨rfl, rfl, rfl, Nat.le_refl _, fun _ _ _ => rfl⟩
    obtain ⟨r', hr'⟩ : ∃ r', room / n = r' := ⟨_, rfl⟩
    have hn0 : ¬ (n : Int) = 0 := by omega
    have hdv : ((room : Nat) : Int).tdiv (n : Nat) = (r' : Nat) := by rw [← hr']; rfl
    have hrl : r' < 18446744073709551616 := by rw [← hr']; exact Nat.lt_of_le_of_lt (Nat.div_le_self _ _) hrm
    rw [hn] at HM hexc eP FINA TL n1 n2 hi
    rw [hr'] at hexc eP
    have hi' : (i : Int) < n := by omega
    rw [hn] at hi0
    have hi0' : Hid _ := hi0
    clear hi0
    have hOV : ∀ (j : Nat) (e : En), x1.f k.data.toList = some j → x1.ent[j]? = some e → e.key.data.toList = k.data.toList → Vx (outV v1 j) (takeX x1 j) := fun j e a1 a2 a3 => V1.outv I1 a2 (by rw [a3]; exact a1)
    have hOE : ∀ j, x1.f k.data.toList = some j → ∃ e, x1.ent[j]? = some e ∧ e.key.data.toList = k.data.toList := fun j hj => I1.fe _ _ hj
    have hVe := V1.e
    have hexc0 : excV v1 ch r' = decide (r' < plusT (satS v1.ent v1.ll) ch) := rfl
    rw [hexc] at hexc0
    have V1' : Hid _ := V1
    have hse := outv_ent v1
    clear h c hx V I S SP S1 I1 hel hpl hrr hexc V1
    cases hst : s.st with
    | false =>
      have hnot : ¬ (s.st && excX x1 ch r') = true := by rw [hst]; simp
      rw [if_neg hnot] at eP
      rw [eP]
      clear eP hnot
      cases hf : x1.f k.data.toList with
      | none =>
        go_enter Try.func30, Try.ntmps30
        go_wp2_with (first | (go_at_call 12; refine HS.mono ?_; rintro e' w0 ⟨rfl, hw⟩; have hw' := hw.symm; subst hw') | (go_at_call 56; refine HM.mono ?_; rintro e' w1 ⟨rfl, F1, U1⟩))
        have c2 := F1.blk.cell1 2 _ rfl
        have c1 := F1.blk.cell1 1 _ rfl
        have c0 := F1.blk.cell1 0 _ rfl
        rw [hst] at c2
        have F1' : Hid _ := F1
        have U1' : Hid _ := U1
        clear F1 U1 hexc0
        first | go_quiet (fail) | go_big_quiet (fail)
        clear c0 c1 c2
        rw [hf] at hff
        have HFm := find_any (F1'.out.drewN nq) n1 n2 hk (v := v1) (by rw [hi0'.out]; exact hv1) hb1
        rw [hi0'.out, hff] at HFm
        go_wp2_with (go_at_call 59; refine HFm.mono ?_; rintro e' w3 ⟨rfl, mm, hw3⟩; have F2 : Rf w3 R n room s.st (vs.set i v1) pv s.P := (by rw [hw3]; exact (F1'.out.drewN _).drewN _); have U2 : Upd (Rb R vs pv) w w3 := (by rw [hw3]; exact (U1'.out.trans (hU0 _ _)).trans (hU0 _ _)); clear hw3 F1' U1'; have F2' : Hid _ := F2; have U2' : Hid _ := U2; clear F2 U2)
        have F3 := F2'.out
        have U3 := U2'.out
        clear F2' U2'
        have eN' := eN.out (x1) rfl
        obtain ⟨wm, hwm⟩ : ∃ W, W = w3.alloc (.cells #[.string k, .int .u64 z, .int .u64 ch, .bool true, .int .i64 0] 84) := ⟨_, rfl⟩
        obtain ⟨lc, la, nL, lcp, L0, hu, KB0, hL0, hLn, FIN0⟩ := TL.out (x1) (v1) w3 wm (by rw [hf]) V1'.out rfl hb1 F3 U3 hwm
        (try rw [hn] at KB0)
        have KB : Hid _ := KB0
        have FIN9 : Hid _ := FIN0
        have HR : Hid _ := hL0
        have hBND : ([] : List (Option Nat)).length + L0.length ≤ 8000000000001 ∧ ([] ++ L0).length + [some w3.heap.size].length ≤ 8000000000001 := by simp; omega
        clear KB0 FIN0 hL0 F3 U3 TL eN FINA
        rw [← hwm]
        clear hwm
        have HU0 : Upd Non wm wm.drew := (Upd.refl Non wm).drew
        refine wp_region_held_drew (S := fun W => W.cell? ⟨R.cb, 3, none⟩ = some (.slice (some ⟨R.lb, 0, none⟩) n n)) (by kernel_rfl) ?_ (fun hHeld => ?_)
        · (try dsimp only); exact (KB.out _ (Upd.refl Non wm)).2.cell1 3 _ rfl
        generalize wm.drew = wd at *
        refine wpAnyH_take (i := 0) (v := ?_) (by simp only [List.getElem?_toArray, List.getElem?_cons_zero, List.getElem?_cons_succ]; rfl) (by kernel_rfl) (by kernel_rfl) (by kernel_rfl) (by intro _ _ _ h; exact h) (Or.inl ⟨by rfl, ?_⟩) (by assumption) ?_
        rotate_left
        · intro w hSw; (try dsimp only at hSw); go_simp; (try with_reducible rfl)
        (try simp only [Act.put, List.setIfInBounds_toArray, List.set_cons_zero, List.set_cons_succ])
        refine wpAnyH_take (i := 1) (v := ?_) (by simp only [List.getElem?_toArray, List.getElem?_cons_zero, List.getElem?_cons_succ]; rfl) (by kernel_rfl) (by kernel_rfl) (by kernel_rfl) (by intro _ _ _ h; exact h) (Or.inl ⟨by rfl, ?_⟩) (by assumption) ?_
        rotate_left
        · intro w hSw; (try dsimp only at hSw); go_simp; (try with_reducible rfl)
        (try simp only [Act.put, List.setIfInBounds_toArray, List.set_cons_zero, List.set_cons_succ])
        refine wpAnyH_take (i := 2) (v := ?_) (by simp only [List.getElem?_toArray, List.getElem?_cons_zero, List.getElem?_cons_succ]; rfl) (by kernel_rfl) (by kernel_rfl) (by kernel_rfl) (by intro _ _ _ h; exact h) (Or.inl ⟨by rfl, ?_⟩) (by assumption) ?_
        rotate_left
        · intro w hSw; (try dsimp only at hSw); go_simp; (try with_reducible rfl)
        (try simp only [Act.put, List.setIfInBounds_toArray, List.set_cons_zero, List.set_cons_succ])
        refine wpAnyH_take (i := 3) (v := ?_) (by simp only [List.getElem?_toArray, List.getElem?_cons_zero, List.getElem?_cons_succ]; rfl) (by kernel_rfl) (by kernel_rfl) (by kernel_rfl) (by intro _ _ _ h; exact h) (Or.inl ⟨by rfl, ?_⟩) (by assumption) ?_
        rotate_left
        · intro w hSw; (try dsimp only at hSw); go_simp; (try with_reducible rfl)
        (try simp only [Act.put, List.setIfInBounds_toArray, List.set_cons_zero, List.set_cons_succ])
        refine wpAnyH_take (i := 4) (v := ?_) (by simp only [List.getElem?_toArray, List.getElem?_cons_zero, List.getElem?_cons_succ]; rfl) (by kernel_rfl) (by kernel_rfl) (by kernel_rfl) (by intro _ _ _ h; exact h) (Or.inl ⟨by rfl, ?_⟩) (by assumption) ?_
        rotate_left
        · intro w hSw; (try dsimp only at hSw); go_simp; (try with_reducible rfl)
        (try simp only [Act.put, List.setIfInBounds_toArray, List.set_cons_zero, List.set_cons_succ])
        refine wpAnyH_take (i := 6) (v := ?_) (by simp only [List.getElem?_toArray, List.getElem?_cons_zero, List.getElem?_cons_succ]; rfl) (by kernel_rfl) (by kernel_rfl) (by kernel_rfl) (by intro _ _ _ h; exact h) (Or.inl ⟨by rfl, ?_⟩) (by assumption) ?_
        rotate_left
        · intro w hSw; (try dsimp only at hSw); go_simp; (try with_reducible rfl)
        (try simp only [Act.put, List.setIfInBounds_toArray, List.set_cons_zero, List.set_cons_succ])
        refine wpAnyH_take (i := 7) (v := ?_) (by simp only [List.getElem?_toArray, List.getElem?_cons_zero, List.getElem?_cons_succ]; rfl) (by kernel_rfl) (by kernel_rfl) (by kernel_rfl) (by intro _ _ _ h; exact h) (Or.inl ⟨by rfl, ?_⟩) (by assumption) ?_
        rotate_left
        · intro w hSw; (try dsimp only at hSw); go_simp; (try with_reducible rfl)
        (try simp only [Act.put, List.setIfInBounds_toArray, List.set_cons_zero, List.set_cons_succ])
        refine wpAnyH_take (i := 8) (v := ?_) (by simp only [List.getElem?_toArray, List.getElem?_cons_zero, List.getElem?_cons_succ]; rfl) (by kernel_rfl) (by kernel_rfl) (by kernel_rfl) (by intro _ _ _ h; exact h) (Or.inl ⟨by rfl, ?_⟩) (by assumption) ?_
        rotate_left
        · intro w hSw; (try dsimp only at hSw); go_simp; (try with_reducible rfl)
        (try simp only [Act.put, List.setIfInBounds_toArray, List.set_cons_zero, List.set_cons_succ])
        refine wpAnyH_take (i := 9) (v := ?_) (by simp only [List.getElem?_toArray, List.getElem?_cons_zero, List.getElem?_cons_succ]; rfl) (by kernel_rfl) (by kernel_rfl) (by kernel_rfl) (by intro _ _ _ h; exact h) (Or.inl ⟨by rfl, ?_⟩) (by assumption) ?_
        rotate_left
        · intro w hSw; (try dsimp only at hSw); go_simp; (try with_reducible rfl)
        (try simp only [Act.put, List.setIfInBounds_toArray, List.set_cons_zero, List.set_cons_succ])
        refine wpAnyH_take (i := 10) (v := ?_) (by simp only [List.getElem?_toArray, List.getElem?_cons_zero, List.getElem?_cons_succ]; rfl) (by kernel_rfl) (by kernel_rfl) (by kernel_rfl) (by intro _ _ _ h; exact h) (Or.inl ⟨by rfl, ?_⟩) (by assumption) ?_
        rotate_left
        · intro w hSw; (try dsimp only at hSw); go_simp; (try with_reducible rfl)
        (try simp only [Act.put, List.setIfInBounds_toArray, List.set_cons_zero, List.set_cons_succ])
        refine wpAnyH_take (i := 11) (v := ?_) (by simp only [List.getElem?_toArray, List.getElem?_cons_zero, List.getElem?_cons_succ]; rfl) (by kernel_rfl) (by kernel_rfl) (by kernel_rfl) (by intro _ _ _ h; exact h) (Or.inl ⟨by rfl, ?_⟩) (by assumption) ?_
        rotate_left
        · intro w hSw; (try dsimp only at hSw); go_simp; (try with_reducible rfl)
        (try simp only [Act.put, List.setIfInBounds_toArray, List.set_cons_zero, List.set_cons_succ])
        refine wpAnyH_take (i := 14) (v := ?_) (by simp only [List.getElem?_toArray, List.getElem?_cons_zero, List.getElem?_cons_succ]; rfl) (by kernel_rfl) (by kernel_rfl) (by kernel_rfl) (by intro _ _ _ h; exact h) (Or.inl ⟨by rfl, ?_⟩) (by assumption) ?_
        rotate_left
        · intro w hSw; (try dsimp only at hSw); go_simp; (try with_reducible rfl)
        (try simp only [Act.put, List.setIfInBounds_toArray, List.set_cons_zero, List.set_cons_succ])
        refine wpAnyH_ready (rs := [5, 12, 15]) (by kernel_rfl) (by simp) ?_
        refine AllReadyH.cons rfl (fun K hK => ?_) ?_
        · have hE : RowQ (wd.alloc (.cells #[] 85)) wm.heap.size (.slice (some ⟨wd.heap.size, 0, none⟩) 0 0) [] := by
            have := row0 wd (b := wm.heap.size) HU0.size
            simpa [cls] using this
          go_simp
          refine hK.out _ _ ((KB.out _ (HU0.alloc (.cells #[] 85))).2.cell1 3 _ rfl) (fun hHeld => ?_)
          clear hK K
          (try simp only [Act.put, List.setIfInBounds_toArray, List.set_cons_zero, List.set_cons_succ])
          refine wpAnyH_ready (rs := [12, 15]) (by kernel_rfl) (by simp) ?_
          refine AllReadyH.cons rfl (fun K hK => ?_) ?_
          · have c12 := (KB.out _ (HU0.alloc (.cells #[] 85))).1.cell1 i _ hu
            go_simp
            refine hK.out _ _ ((KB.out _ (HU0.alloc (.cells #[] 85))).2.cell1 3 _ rfl) (fun hHeld => ?_)
            clear c12
            clear hK K
            (try simp only [Act.put, List.setIfInBounds_toArray, List.set_cons_zero, List.set_cons_succ])
            refine wpAnyH_ready (rs := [13, 15]) (by kernel_rfl) (by simp) ?_
            refine AllReadyH.cons rfl (fun K hK => ?_) ?_
            · refine step_append_q (by rfl) _ _ (by rfl) (by rfl) (by rfl) hE (HU0.alloc (.cells #[] 85)).size (row_upd HR.out (HU0.alloc (.cells #[] 85)) (fun _ _ e => e)) hBND.1 ?_
              intro vA wA hA hUA
              have HUA : Upd Non wm wA := Upd.then (HU0.alloc (.cells #[] 85)) hUA (fun a ha hs => absurd (row_blk hE a hs).1 (by omega))
              refine hK.out _ _ ((KB.out _ HUA).2.cell1 3 _ rfl) (fun hHeld => ?_)
              clear hUA hE
              clear hK K
              (try simp only [Act.put, List.setIfInBounds_toArray, List.set_cons_zero, List.set_cons_succ])
              refine wpAnyH_ready (rs := [15]) (by kernel_rfl) (by simp) ?_
              refine AllReadyH.cons rfl (fun K hK => ?_) ?_
              · have hB : RowQ (wA.alloc (.cells #[.pointer (some ⟨w3.heap.size, 0, none⟩)] 85)) wm.heap.size (.slice (some ⟨wA.heap.size, 0, none⟩) 1 1) [some (w3.heap.size)] := by
                  have := row1 wA (b := wm.heap.size) HUA.size (w3.heap.size)
                  simpa [cls, pc, pa] using this
                have hA := row_upd hA ((Upd.refl Non _).alloc (.cells #[.pointer (some ⟨w3.heap.size, 0, none⟩)] 85)) (fun _ _ e => e)
                go_simp
                refine hK.out _ _ ((KB.out _ (HUA.alloc (.cells #[.pointer (some ⟨w3.heap.size, 0, none⟩)] 85))).2.cell1 3 _ rfl) (fun hHeld => ?_)
                clear hK K
                (try simp only [Act.put, List.setIfInBounds_toArray, List.set_cons_zero, List.set_cons_succ])
                refine wpAnyH_ready (rs := [16]) (by kernel_rfl) (by simp) ?_
                refine AllReadyH.cons rfl (fun K hK => ?_) ?_
                · refine step_append_q (by rfl) _ _ (by rfl) (by rfl) (by rfl) hA (HUA.alloc (.cells #[.pointer (some ⟨w3.heap.size, 0, none⟩)] 85)).size hB hBND.2 ?_
                  intro vN wN hN hUN
                  have HUN : Upd Non wm wN := Upd.then (HUA.alloc (.cells #[.pointer (some ⟨w3.heap.size, 0, none⟩)] 85)) hUN (fun a ha hs => absurd (row_blk hA a hs).1 (by omega))
                  obtain ⟨ya, yc, hy9⟩ := rowq_len hN
                  obtain ⟨yn, hyn⟩ : ∃ x, ([] ++ L0 ++ [some w3.heap.size]).length = x := ⟨_, rfl⟩
                  rw [hyn] at hy9
                  subst hy9
                  refine hK.out _ _ ((KB.out _ HUN).2.cell1 3 _ rfl) (fun hHeld => ?_)
                  clear hUN hA hB
                  clear hK K
                  (try simp only [Act.put, List.setIfInBounds_toArray, List.set_cons_zero, List.set_cons_succ])
                  refine wpAnyH_take (i := 17) (v := ?_) (by simp only [List.getElem?_toArray, List.getElem?_cons_zero, List.getElem?_cons_succ]; rfl) (by kernel_rfl) (by kernel_rfl) (by kernel_rfl) (by intro _ _ _ h; exact h) (Or.inl ⟨by rfl, ?_⟩) (by assumption) ?_
                  rotate_left
                  · intro w hSw; (try dsimp only at hSw); go_simp; (try with_reducible rfl)
                  (try simp only [Act.put, List.setIfInBounds_toArray, List.set_cons_zero, List.set_cons_succ])
                  refine wpAnyH_ready (rs := [18]) (by kernel_rfl) (by simp) ?_
                  refine AllReadyH.cons rfl (fun K hK => ?_) ?_
                  · have kr := (KB.out _ HUN).1
                    have kc := (KB.out _ HUN).2
                    have c8 := kr.cell1 i _ hu
                    have z8 := kr.frozen i
                    have ncr := kc.ne kr (by decide)
                    go_simp
                    refine hK.out _ _ ((kc.other (a := ⟨R.lb, i, none⟩) ncr _).cell1 3 _ rfl) (fun hHeld => ?_)
                    clear c8 z8 kr kc ncr
                    clear hK K
                    (try simp only [Act.put, List.setIfInBounds_toArray, List.set_cons_zero, List.set_cons_succ])
                    refine wpAnyH_done (by kernel_rfl) ?_ _
                    have HPm := FIN9.out _ _ HUN hN
                    clear hN HUN hHeld
                    obtain ⟨w5, hw5⟩ : ∃ W, wN.setCell ⟨R.lb, i, none⟩ (.slice ya yn yc) = W := ⟨_, rfl⟩
                    rw [hw5] at HPm
                    (try rw [hw5])
                    clear hw5
                    go_wp2_with (go_at_call 61; refine HPm.mono ?_; rintro e9 w6 ⟨rfl, hRo⟩)
                    refine bodyPost_ret (v := .tuple #[.int .i64 ((s.P.length : Int) + 1), .int .i64 0]) (by simp [results, Try.results30, go_sem]) rfl ⟨rfl, ?_⟩
                    rw [eN']
                    exact hRo
                  exact AllReadyH.nil
                exact AllReadyH.nil
              exact AllReadyH.nil
            refine AllReadyH.cons rfl (fun K hK => ?_) ?_
            · have hB : RowQ ((wd.alloc (.cells #[] 85)).alloc (.cells #[.pointer (some ⟨w3.heap.size, 0, none⟩)] 85)) wm.heap.size (.slice (some ⟨wd.heap.size + 1, 0, none⟩) 1 1) [some (w3.heap.size)] := by
                have := row1 (wd.alloc (.cells #[] 85)) (b := wm.heap.size) (HU0.alloc (.cells #[] 85)).size (w3.heap.size)
                simpa [cls, pc, pa] using this
              have hE := row_upd hE ((Upd.refl Non _).alloc (.cells #[.pointer (some ⟨w3.heap.size, 0, none⟩)] 85)) (fun _ _ e => e)
              go_simp
              refine hK.out _ _ ((KB.out _ ((HU0.alloc (.cells #[] 85)).alloc (.cells #[.pointer (some ⟨w3.heap.size, 0, none⟩)] 85))).2.cell1 3 _ rfl) (fun hHeld => ?_)
              clear hK K
              (try simp only [Act.put, List.setIfInBounds_toArray, List.set_cons_zero, List.set_cons_succ])
              refine wpAnyH_ready (rs := [13]) (by kernel_rfl) (by simp) ?_
              refine AllReadyH.cons rfl (fun K hK => ?_) ?_
              · refine step_append_q (by rfl) _ _ (by rfl) (by rfl) (by rfl) hE ((HU0.alloc (.cells #[] 85)).alloc (.cells #[.pointer (some ⟨w3.heap.size, 0, none⟩)] 85)).size (row_upd HR.out ((HU0.alloc (.cells #[] 85)).alloc (.cells #[.pointer (some ⟨w3.heap.size, 0, none⟩)] 85)) (fun _ _ e => e)) hBND.1 ?_
                intro vA wA hA hUA
                have HUA : Upd Non wm wA := Upd.then ((HU0.alloc (.cells #[] 85)).alloc (.cells #[.pointer (some ⟨w3.heap.size, 0, none⟩)] 85)) hUA (fun a ha hs => absurd (row_blk hE a hs).1 (by omega))
                have hB := row_upd hB hUA (fun a ha ha' => absurd (Option.some.inj (show (some (wd.heap.size + 1) : Option Nat) = some (wd.heap.size) from ha.trans ha'.symm)) (by omega))
                refine hK.out _ _ ((KB.out _ HUA).2.cell1 3 _ rfl) (fun hHeld => ?_)
                clear hUA hE
                clear hK K
                (try simp only [Act.put, List.setIfInBounds_toArray, List.set_cons_zero, List.set_cons_succ])
                refine wpAnyH_ready (rs := [16]) (by kernel_rfl) (by simp) ?_
                refine AllReadyH.cons rfl (fun K hK => ?_) ?_
                · refine step_append_q (by rfl) _ _ (by rfl) (by rfl) (by rfl) hA HUA.size hB hBND.2 ?_
                  intro vN wN hN hUN
                  have HUN : Upd Non wm wN := Upd.then HUA hUN (fun a ha hs => absurd (row_blk hA a hs).1 (by omega))
                  obtain ⟨ya, yc, hy9⟩ := rowq_len hN
                  obtain ⟨yn, hyn⟩ : ∃ x, ([] ++ L0 ++ [some w3.heap.size]).length = x := ⟨_, rfl⟩
                  rw [hyn] at hy9
                  subst hy9
                  refine hK.out _ _ ((KB.out _ HUN).2.cell1 3 _ rfl) (fun hHeld => ?_)
                  clear hUN hA hB
                  clear hK K
                  (try simp only [Act.put, List.setIfInBounds_toArray, List.set_cons_zero, List.set_cons_succ])
                  refine wpAnyH_take (i := 17) (v := ?_) (by simp only [List.getElem?_toArray, List.getElem?_cons_zero, List.getElem?_cons_succ]; rfl) (by kernel_rfl) (by kernel_rfl) (by kernel_rfl) (by intro _ _ _ h; exact h) (Or.inl ⟨by rfl, ?_⟩) (by assumption) ?_
                  rotate_left
                  · intro w hSw; (try dsimp only at hSw); go_simp; (try with_reducible rfl)
                  (try simp only [Act.put, List.setIfInBounds_toArray, List.set_cons_zero, List.set_cons_succ])
                  refine wpAnyH_ready (rs := [18]) (by kernel_rfl) (by simp) ?_
                  refine AllReadyH.cons rfl (fun K hK => ?_) ?_
                  · have kr := (KB.out _ HUN).1
                    have kc := (KB.out _ HUN).2
                    have c8 := kr.cell1 i _ hu
                    have z8 := kr.frozen i
                    have ncr := kc.ne kr (by decide)
                    go_simp
                    refine hK.out _ _ ((kc.other (a := ⟨R.lb, i, none⟩) ncr _).cell1 3 _ rfl) (fun hHeld => ?_)
                    clear c8 z8 kr kc ncr
                    clear hK K
                    (try simp only [Act.put, List.setIfInBounds_toArray, List.set_cons_zero, List.set_cons_succ])
                    refine wpAnyH_done (by kernel_rfl) ?_ _
                    have HPm := FIN9.out _ _ HUN hN
                    clear hN HUN hHeld
                    obtain ⟨w5, hw5⟩ : ∃ W, wN.setCell ⟨R.lb, i, none⟩ (.slice ya yn yc) = W := ⟨_, rfl⟩
                    rw [hw5] at HPm
                    (try rw [hw5])
                    clear hw5
                    go_wp2_with (go_at_call 61; refine HPm.mono ?_; rintro e9 w6 ⟨rfl, hRo⟩)
                    refine bodyPost_ret (v := .tuple #[.int .i64 ((s.P.length : Int) + 1), .int .i64 0]) (by simp [results, Try.results30, go_sem]) rfl ⟨rfl, ?_⟩
                    rw [eN']
                    exact hRo
                  exact AllReadyH.nil
                exact AllReadyH.nil
              exact AllReadyH.nil
            exact AllReadyH.nil
          refine AllReadyH.cons rfl (fun K hK => ?_) ?_
          · have hB : RowQ ((wd.alloc (.cells #[] 85)).alloc (.cells #[.pointer (some ⟨w3.heap.size, 0, none⟩)] 85)) wm.heap.size (.slice (some ⟨wd.heap.size + 1, 0, none⟩) 1 1) [some (w3.heap.size)] := by
              have := row1 (wd.alloc (.cells #[] 85)) (b := wm.heap.size) (HU0.alloc (.cells #[] 85)).size (w3.heap.size)
              simpa [cls, pc, pa] using this
            have hE := row_upd hE ((Upd.refl Non _).alloc (.cells #[.pointer (some ⟨w3.heap.size, 0, none⟩)] 85)) (fun _ _ e => e)
            go_simp
            refine hK.out _ _ ((KB.out _ ((HU0.alloc (.cells #[] 85)).alloc (.cells #[.pointer (some ⟨w3.heap.size, 0, none⟩)] 85))).2.cell1 3 _ rfl) (fun hHeld => ?_)
            clear hK K
            (try simp only [Act.put, List.setIfInBounds_toArray, List.set_cons_zero, List.set_cons_succ])
            refine wpAnyH_ready (rs := [12]) (by kernel_rfl) (by simp) ?_
            refine AllReadyH.cons rfl (fun K hK => ?_) ?_
            · have c12 := (KB.out _ ((HU0.alloc (.cells #[] 85)).alloc (.cells #[.pointer (some ⟨w3.heap.size, 0, none⟩)] 85))).1.cell1 i _ hu
              go_simp
              refine hK.out _ _ ((KB.out _ ((HU0.alloc (.cells #[] 85)).alloc (.cells #[.pointer (some ⟨w3.heap.size, 0, none⟩)] 85))).2.cell1 3 _ rfl) (fun hHeld => ?_)
              clear c12
              clear hK K
              (try simp only [Act.put, List.setIfInBounds_toArray, List.set_cons_zero, List.set_cons_succ])
              refine wpAnyH_ready (rs := [13]) (by kernel_rfl) (by simp) ?_
              refine AllReadyH.cons rfl (fun K hK => ?_) ?_
              · refine step_append_q (by rfl) _ _ (by rfl) (by rfl) (by rfl) hE ((HU0.alloc (.cells #[] 85)).alloc (.cells #[.pointer (some ⟨w3.heap.size, 0, none⟩)] 85)).size (row_upd HR.out ((HU0.alloc (.cells #[] 85)).alloc (.cells #[.pointer (some ⟨w3.heap.size, 0, none⟩)] 85)) (fun _ _ e => e)) hBND.1 ?_
                intro vA wA hA hUA
                have HUA : Upd Non wm wA := Upd.then ((HU0.alloc (.cells #[] 85)).alloc (.cells #[.pointer (some ⟨w3.heap.size, 0, none⟩)] 85)) hUA (fun a ha hs => absurd (row_blk hE a hs).1 (by omega))
                have hB := row_upd hB hUA (fun a ha ha' => absurd (Option.some.inj (show (some (wd.heap.size + 1) : Option Nat) = some (wd.heap.size) from ha.trans ha'.symm)) (by omega))
                refine hK.out _ _ ((KB.out _ HUA).2.cell1 3 _ rfl) (fun hHeld => ?_)
                clear hUA hE
                clear hK K
                (try simp only [Act.put, List.setIfInBounds_toArray, List.set_cons_zero, List.set_cons_succ])
                refine wpAnyH_ready (rs := [16]) (by kernel_rfl) (by simp) ?_
                refine AllReadyH.cons rfl (fun K hK => ?_) ?_
                · refine step_append_q (by rfl) _ _ (by rfl) (by rfl) (by rfl) hA HUA.size hB hBND.2 ?_
                  intro vN wN hN hUN
                  have HUN : Upd Non wm wN := Upd.then HUA hUN (fun a ha hs => absurd (row_blk hA a hs).1 (by omega))
                  obtain ⟨ya, yc, hy9⟩ := rowq_len hN
                  obtain ⟨yn, hyn⟩ : ∃ x, ([] ++ L0 ++ [some w3.heap.size]).length = x := ⟨_, rfl⟩
                  rw [hyn] at hy9
                  subst hy9
                  refine hK.out _ _ ((KB.out _ HUN).2.cell1 3 _ rfl) (fun hHeld => ?_)
                  clear hUN hA hB
                  clear hK K
                  (try simp only [Act.put, List.setIfInBounds_toArray, List.set_cons_zero, List.set_cons_succ])
                  refine wpAnyH_take (i := 17) (v := ?_) (by simp only [List.getElem?_toArray, List.getElem?_cons_zero, List.getElem?_cons_succ]; rfl) (by kernel_rfl) (by kernel_rfl) (by kernel_rfl) (by intro _ _ _ h; exact h) (Or.inl ⟨by rfl, ?_⟩) (by assumption) ?_
                  rotate_left
                  · intro w hSw; (try dsimp only at hSw); go_simp; (try with_reducible rfl)
                  (try simp only [Act.put, List.setIfInBounds_toArray, List.set_cons_zero, List.set_cons_succ])
                  refine wpAnyH_ready (rs := [18]) (by kernel_rfl) (by simp) ?_
                  refine AllReadyH.cons rfl (fun K hK => ?_) ?_
                  · have kr := (KB.out _ HUN).1
                    have kc := (KB.out _ HUN).2
                    have c8 := kr.cell1 i _ hu
                    have z8 := kr.frozen i
                    have ncr := kc.ne kr (by decide)
                    go_simp
                    refine hK.out _ _ ((kc.other (a := ⟨R.lb, i, none⟩) ncr _).cell1 3 _ rfl) (fun hHeld => ?_)
                    clear c8 z8 kr kc ncr
                    clear hK K
                    (try simp only [Act.put, List.setIfInBounds_toArray, List.set_cons_zero, List.set_cons_succ])
                    refine wpAnyH_done (by kernel_rfl) ?_ _
                    have HPm := FIN9.out _ _ HUN hN
                    clear hN HUN hHeld
                    obtain ⟨w5, hw5⟩ : ∃ W, wN.setCell ⟨R.lb, i, none⟩ (.slice ya yn yc) = W := ⟨_, rfl⟩
                    rw [hw5] at HPm
                    (try rw [hw5])
                    clear hw5
                    go_wp2_with (go_at_call 61; refine HPm.mono ?_; rintro e9 w6 ⟨rfl, hRo⟩)
                    refine bodyPost_ret (v := .tuple #[.int .i64 ((s.P.length : Int) + 1), .int .i64 0]) (by simp [results, Try.results30, go_sem]) rfl ⟨rfl, ?_⟩
                    rw [eN']
                    exact hRo
                  exact AllReadyH.nil
                exact AllReadyH.nil
              exact AllReadyH.nil
            exact AllReadyH.nil
          exact AllReadyH.nil
        refine AllReadyH.cons rfl (fun K hK => ?_) ?_
        · have c12 := (KB.out _ HU0).1.cell1 i _ hu
          go_simp
          refine hK.out _ _ ((KB.out _ HU0).2.cell1 3 _ rfl) (fun hHeld => ?_)
          clear c12
          clear hK K
          (try simp only [Act.put, List.setIfInBounds_toArray, List.set_cons_zero, List.set_cons_succ])
          refine wpAnyH_ready (rs := [5, 15]) (by kernel_rfl) (by simp) ?_
          refine AllReadyH.cons rfl (fun K hK => ?_) ?_
          · have hE : RowQ (wd.alloc (.cells #[] 85)) wm.heap.size (.slice (some ⟨wd.heap.size, 0, none⟩) 0 0) [] := by
              have := row0 wd (b := wm.heap.size) HU0.size
              simpa [cls] using this
            go_simp
            refine hK.out _ _ ((KB.out _ (HU0.alloc (.cells #[] 85))).2.cell1 3 _ rfl) (fun hHeld => ?_)
            clear hK K
            (try simp only [Act.put, List.setIfInBounds_toArray, List.set_cons_zero, List.set_cons_succ])
            refine wpAnyH_ready (rs := [13, 15]) (by kernel_rfl) (by simp) ?_
            refine AllReadyH.cons rfl (fun K hK => ?_) ?_
            · refine step_append_q (by rfl) _ _ (by rfl) (by rfl) (by rfl) hE (HU0.alloc (.cells #[] 85)).size (row_upd HR.out (HU0.alloc (.cells #[] 85)) (fun _ _ e => e)) hBND.1 ?_
              intro vA wA hA hUA
              have HUA : Upd Non wm wA := Upd.then (HU0.alloc (.cells #[] 85)) hUA (fun a ha hs => absurd (row_blk hE a hs).1 (by omega))
              refine hK.out _ _ ((KB.out _ HUA).2.cell1 3 _ rfl) (fun hHeld => ?_)
              clear hUA hE
              clear hK K
              (try simp only [Act.put, List.setIfInBounds_toArray, List.set_cons_zero, List.set_cons_succ])
              refine wpAnyH_ready (rs := [15]) (by kernel_rfl) (by simp) ?_
              refine AllReadyH.cons rfl (fun K hK => ?_) ?_
              · have hB : RowQ (wA.alloc (.cells #[.pointer (some ⟨w3.heap.size, 0, none⟩)] 85)) wm.heap.size (.slice (some ⟨wA.heap.size, 0, none⟩) 1 1) [some (w3.heap.size)] := by
                  have := row1 wA (b := wm.heap.size) HUA.size (w3.heap.size)
                  simpa [cls, pc, pa] using this
                have hA := row_upd hA ((Upd.refl Non _).alloc (.cells #[.pointer (some ⟨w3.heap.size, 0, none⟩)] 85)) (fun _ _ e => e)
                go_simp
                refine hK.out _ _ ((KB.out _ (HUA.alloc (.cells #[.pointer (some ⟨w3.heap.size, 0, none⟩)] 85))).2.cell1 3 _ rfl) (fun hHeld => ?_)
                clear hK K
                (try simp only [Act.put, List.setIfInBounds_toArray, List.set_cons_zero, List.set_cons_succ])
                refine wpAnyH_ready (rs := [16]) (by kernel_rfl) (by simp) ?_
                refine AllReadyH.cons rfl (fun K hK => ?_) ?_
                · refine step_append_q (by rfl) _ _ (by rfl) (by rfl) (by rfl) hA (HUA.alloc (.cells #[.pointer (some ⟨w3.heap.size, 0, none⟩)] 85)).size hB hBND.2 ?_
                  intro vN wN hN hUN
                  have HUN : Upd Non wm wN := Upd.then (HUA.alloc (.cells #[.pointer (some ⟨w3.heap.size, 0, none⟩)] 85)) hUN (fun a ha hs => absurd (row_blk hA a hs).1 (by omega))
                  obtain ⟨ya, yc, hy9⟩ := rowq_len hN
                  obtain ⟨yn, hyn⟩ : ∃ x, ([] ++ L0 ++ [some w3.heap.size]).length = x := ⟨_, rfl⟩
                  rw [hyn] at hy9
                  subst hy9
                  refine hK.out _ _ ((KB.out _ HUN).2.cell1 3 _ rfl) (fun hHeld => ?_)
                  clear hUN hA hB
                  clear hK K
                  (try simp only [Act.put, List.setIfInBounds_toArray, List.set_cons_zero, List.set_cons_succ])
                  refine wpAnyH_take (i := 17) (v := ?_) (by simp only [List.getElem?_toArray, List.getElem?_cons_zero, List.getElem?_cons_succ]; rfl) (by kernel_rfl) (by kernel_rfl) (by kernel_rfl) (by intro _ _ _ h; exact h) (Or.inl ⟨by rfl, ?_⟩) (by assumption) ?_
                  rotate_left
                  · intro w hSw; (try dsimp only at hSw); go_simp; (try with_reducible rfl)
                  (try simp only [Act.put, List.setIfInBounds_toArray, List.set_cons_zero, List.set_cons_succ])
                  refine wpAnyH_ready (rs := [18]) (by kernel_rfl) (by simp) ?_
                  refine AllReadyH.cons rfl (fun K hK => ?_) ?_
                  · have kr := (KB.out _ HUN).1
                    have kc := (KB.out _ HUN).2
                    have c8 := kr.cell1 i _ hu
                    have z8 := kr.frozen i
                    have ncr := kc.ne kr (by decide)
                    go_simp
                    refine hK.out _ _ ((kc.other (a := ⟨R.lb, i, none⟩) ncr _).cell1 3 _ rfl) (fun hHeld => ?_)
                    clear c8 z8 kr kc ncr
                    clear hK K
                    (try simp only [Act.put, List.setIfInBounds_toArray, List.set_cons_zero, List.set_cons_succ])
                    refine wpAnyH_done (by kernel_rfl) ?_ _
                    have HPm := FIN9.out _ _ HUN hN
                    clear hN HUN hHeld
                    obtain ⟨w5, hw5⟩ : ∃ W, wN.setCell ⟨R.lb, i, none⟩ (.slice ya yn yc) = W := ⟨_, rfl⟩
                    rw [hw5] at HPm
                    (try rw [hw5])
                    clear hw5
                    go_wp2_with (go_at_call 61; refine HPm.mono ?_; rintro e9 w6 ⟨rfl, hRo⟩)
                    refine bodyPost_ret (v := .tuple #[.int .i64 ((s.P.length : Int) + 1), .int .i64 0]) (by simp [results, Try.results30, go_sem]) rfl ⟨rfl, ?_⟩
                    rw [eN']
                    exact hRo
                  exact AllReadyH.nil
                exact AllReadyH.nil
              exact AllReadyH.nil
            refine AllReadyH.cons rfl (fun K hK => ?_) ?_
            · have hB : RowQ ((wd.alloc (.cells #[] 85)).alloc (.cells #[.pointer (some ⟨w3.heap.size, 0, none⟩)] 85)) wm.heap.size (.slice (some ⟨wd.heap.size + 1, 0, none⟩) 1 1) [some (w3.heap.size)] := by
                have := row1 (wd.alloc (.cells #[] 85)) (b := wm.heap.size) (HU0.alloc (.cells #[] 85)).size (w3.heap.size)
                simpa [cls, pc, pa] using this
              have hE := row_upd hE ((Upd.refl Non _).alloc (.cells #[.pointer (some ⟨w3.heap.size, 0, none⟩)] 85)) (fun _ _ e => e)
              go_simp
              refine hK.out _ _ ((KB.out _ ((HU0.alloc (.cells #[] 85)).alloc (.cells #[.pointer (some ⟨w3.heap.size, 0, none⟩)] 85))).2.cell1 3 _ rfl) (fun hHeld => ?_)
              clear hK K
              (try simp only [Act.put, List.setIfInBounds_toArray, List.set_cons_zero, List.set_cons_succ])
              refine wpAnyH_ready (rs := [13]) (by kernel_rfl) (by simp) ?_
              refine AllReadyH.cons rfl (fun K hK => ?_) ?_
              · refine step_append_q (by rfl) _ _ (by rfl) (by rfl) (by rfl) hE ((HU0.alloc (.cells #[] 85)).alloc (.cells #[.pointer (some ⟨w3.heap.size, 0, none⟩)] 85)).size (row_upd HR.out ((HU0.alloc (.cells #[] 85)).alloc (.cells #[.pointer (some ⟨w3.heap.size, 0, none⟩)] 85)) (fun _ _ e => e)) hBND.1 ?_
                intro vA wA hA hUA
                have HUA : Upd Non wm wA := Upd.then ((HU0.alloc (.cells #[] 85)).alloc (.cells #[.pointer (some ⟨w3.heap.size, 0, none⟩)] 85)) hUA (fun a ha hs => absurd (row_blk hE a hs).1 (by omega))
                have hB := row_upd hB hUA (fun a ha ha' => absurd (Option.some.inj (show (some (wd.heap.size + 1) : Option Nat) = some (wd.heap.size) from ha.trans ha'.symm)) (by omega))
                refine hK.out _ _ ((KB.out _ HUA).2.cell1 3 _ rfl) (fun hHeld => ?_)
                clear hUA hE
                clear hK K
                (try simp only [Act.put, List.setIfInBounds_toArray, List.set_cons_zero, List.set_cons_succ])
                refine wpAnyH_ready (rs := [16]) (by kernel_rfl) (by simp) ?_
                refine AllReadyH.cons rfl (fun K hK => ?_) ?_
                · refine step_append_q (by rfl) _ _ (by rfl) (by rfl) (by rfl) hA HUA.size hB hBND.2 ?_
                  intro vN wN hN hUN
                  have HUN : Upd Non wm wN := Upd.then HUA hUN (fun a ha hs => absurd (row_blk hA a hs).1 (by omega))
                  obtain ⟨ya, yc, hy9⟩ := rowq_len hN
                  obtain ⟨yn, hyn⟩ : ∃ x, ([] ++ L0 ++ [some w3.heap.size]).length = x := ⟨_, rfl⟩
                  rw [hyn] at hy9
                  subst hy9
                  refine hK.out _ _ ((KB.out _ HUN).2.cell1 3 _ rfl) (fun hHeld => ?_)
                  clear hUN hA hB
                  clear hK K
                  (try simp only [Act.put, List.setIfInBounds_toArray, List.set_cons_zero, List.set_cons_succ])
                  refine wpAnyH_take (i := 17) (v := ?_) (by simp only [List.getElem?_toArray, List.getElem?_cons_zero, List.getElem?_cons_succ]; rfl) (by kernel_rfl) (by kernel_rfl) (by kernel_rfl) (by intro _ _ _ h; exact h) (Or.inl ⟨by rfl, ?_⟩) (by assumption) ?_
                  rotate_left
                  · intro w hSw; (try dsimp only at hSw); go_simp; (try with_reducible rfl)
                  (try simp only [Act.put, List.setIfInBounds_toArray, List.set_cons_zero, List.set_cons_succ])
                  refine wpAnyH_ready (rs := [18]) (by kernel_rfl) (by simp) ?_
                  refine AllReadyH.cons rfl (fun K hK => ?_) ?_
                  · have kr := (KB.out _ HUN).1
                    have kc := (KB.out _ HUN).2
                    have c8 := kr.cell1 i _ hu
                    have z8 := kr.frozen i
                    have ncr := kc.ne kr (by decide)
                    go_simp
                    refine hK.out _ _ ((kc.other (a := ⟨R.lb, i, none⟩) ncr _).cell1 3 _ rfl) (fun hHeld => ?_)
                    clear c8 z8 kr kc ncr
                    clear hK K
                    (try simp only [Act.put, List.setIfInBounds_toArray, List.set_cons_zero, List.set_cons_succ])
                    refine wpAnyH_done (by kernel_rfl) ?_ _
                    have HPm := FIN9.out _ _ HUN hN
                    clear hN HUN hHeld
                    obtain ⟨w5, hw5⟩ : ∃ W, wN.setCell ⟨R.lb, i, none⟩ (.slice ya yn yc) = W := ⟨_, rfl⟩
                    rw [hw5] at HPm
                    (try rw [hw5])
                    clear hw5
                    go_wp2_with (go_at_call 61; refine HPm.mono ?_; rintro e9 w6 ⟨rfl, hRo⟩)
                    refine bodyPost_ret (v := .tuple #[.int .i64 ((s.P.length : Int) + 1), .int .i64 0]) (by simp [results, Try.results30, go_sem]) rfl ⟨rfl, ?_⟩
                    rw [eN']
                    exact hRo
                  exact AllReadyH.nil
                exact AllReadyH.nil
              exact AllReadyH.nil
            exact AllReadyH.nil
          refine AllReadyH.cons rfl (fun K hK => ?_) ?_
          · have hB : RowQ (wd.alloc (.cells #[.pointer (some ⟨w3.heap.size, 0, none⟩)] 85)) wm.heap.size (.slice (some ⟨wd.heap.size, 0, none⟩) 1 1) [some (w3.heap.size)] := by
              have := row1 wd (b := wm.heap.size) HU0.size (w3.heap.size)
              simpa [cls, pc, pa] using this
            go_simp
            refine hK.out _ _ ((KB.out _ (HU0.alloc (.cells #[.pointer (some ⟨w3.heap.size, 0, none⟩)] 85))).2.cell1 3 _ rfl) (fun hHeld => ?_)
            clear hK K
            (try simp only [Act.put, List.setIfInBounds_toArray, List.set_cons_zero, List.set_cons_succ])
            refine wpAnyH_ready (rs := [5]) (by kernel_rfl) (by simp) ?_
            refine AllReadyH.cons rfl (fun K hK => ?_) ?_
            · have hE : RowQ ((wd.alloc (.cells #[.pointer (some ⟨w3.heap.size, 0, none⟩)] 85)).alloc (.cells #[] 85)) wm.heap.size (.slice (some ⟨wd.heap.size + 1, 0, none⟩) 0 0) [] := by
                have := row0 (wd.alloc (.cells #[.pointer (some ⟨w3.heap.size, 0, none⟩)] 85)) (b := wm.heap.size) (HU0.alloc (.cells #[.pointer (some ⟨w3.heap.size, 0, none⟩)] 85)).size
                simpa [cls] using this
              have hB := row_upd hB ((Upd.refl Non _).alloc (.cells #[] 85)) (fun _ _ e => e)
              go_simp
              refine hK.out _ _ ((KB.out _ ((HU0.alloc (.cells #[.pointer (some ⟨w3.heap.size, 0, none⟩)] 85)).alloc (.cells #[] 85))).2.cell1 3 _ rfl) (fun hHeld => ?_)
              clear hK K
              (try simp only [Act.put, List.setIfInBounds_toArray, List.set_cons_zero, List.set_cons_succ])
              refine wpAnyH_ready (rs := [13]) (by kernel_rfl) (by simp) ?_
              refine AllReadyH.cons rfl (fun K hK => ?_) ?_
              · refine step_append_q (by rfl) _ _ (by rfl) (by rfl) (by rfl) hE ((HU0.alloc (.cells #[.pointer (some ⟨w3.heap.size, 0, none⟩)] 85)).alloc (.cells #[] 85)).size (row_upd HR.out ((HU0.alloc (.cells #[.pointer (some ⟨w3.heap.size, 0, none⟩)] 85)).alloc (.cells #[] 85)) (fun _ _ e => e)) hBND.1 ?_
                intro vA wA hA hUA
                have HUA : Upd Non wm wA := Upd.then ((HU0.alloc (.cells #[.pointer (some ⟨w3.heap.size, 0, none⟩)] 85)).alloc (.cells #[] 85)) hUA (fun a ha hs => absurd (row_blk hE a hs).1 (by omega))
                have hB := row_upd hB hUA (fun a ha ha' => absurd (Option.some.inj (show (some (wd.heap.size) : Option Nat) = some (wd.heap.size + 1) from ha.trans ha'.symm)) (by omega))
                refine hK.out _ _ ((KB.out _ HUA).2.cell1 3 _ rfl) (fun hHeld => ?_)
                clear hUA hE
                clear hK K
                (try simp only [Act.put, List.setIfInBounds_toArray, List.set_cons_zero, List.set_cons_succ])
                refine wpAnyH_ready (rs := [16]) (by kernel_rfl) (by simp) ?_
                refine AllReadyH.cons rfl (fun K hK => ?_) ?_
                · refine step_append_q (by rfl) _ _ (by rfl) (by rfl) (by rfl) hA HUA.size hB hBND.2 ?_
                  intro vN wN hN hUN
                  have HUN : Upd Non wm wN := Upd.then HUA hUN (fun a ha hs => absurd (row_blk hA a hs).1 (by omega))
                  obtain ⟨ya, yc, hy9⟩ := rowq_len hN
                  obtain ⟨yn, hyn⟩ : ∃ x, ([] ++ L0 ++ [some w3.heap.size]).length = x := ⟨_, rfl⟩
                  rw [hyn] at hy9
                  subst hy9
                  refine hK.out _ _ ((KB.out _ HUN).2.cell1 3 _ rfl) (fun hHeld => ?_)
                  clear hUN hA hB
                  clear hK K
                  (try simp only [Act.put, List.setIfInBounds_toArray, List.set_cons_zero, List.set_cons_succ])
                  refine wpAnyH_take (i := 17) (v := ?_) (by simp only [List.getElem?_toArray, List.getElem?_cons_zero, List.getElem?_cons_succ]; rfl) (by kernel_rfl) (by kernel_rfl) (by kernel_rfl) (by intro _ _ _ h; exact h) (Or.inl ⟨by rfl, ?_⟩) (by assumption) ?_
                  rotate_left
                  · intro w hSw; (try dsimp only at hSw); go_simp; (try with_reducible rfl)
                  (try simp only [Act.put, List.setIfInBounds_toArray, List.set_cons_zero, List.set_cons_succ])
                  refine wpAnyH_ready (rs := [18]) (by kernel_rfl) (by simp) ?_
                  refine AllReadyH.cons rfl (fun K hK => ?_) ?_
                  · have kr := (KB.out _ HUN).1
                    have kc := (KB.out _ HUN).2
                    have c8 := kr.cell1 i _ hu
                    have z8 := kr.frozen i
                    have ncr := kc.ne kr (by decide)
                    go_simp
                    refine hK.out _ _ ((kc.other (a := ⟨R.lb, i, none⟩) ncr _).cell1 3 _ rfl) (fun hHeld => ?_)
                    clear c8 z8 kr kc ncr
                    clear hK K
                    (try simp only [Act.put, List.setIfInBounds_toArray, List.set_cons_zero, List.set_cons_succ])
                    refine wpAnyH_done (by kernel_rfl) ?_ _
                    have HPm := FIN9.out _ _ HUN hN
                    clear hN HUN hHeld
                    obtain ⟨w5, hw5⟩ : ∃ W, wN.setCell ⟨R.lb, i, none⟩ (.slice ya yn yc) = W := ⟨_, rfl⟩
                    rw [hw5] at HPm
                    (try rw [hw5])
                    clear hw5
                    go_wp2_with (go_at_call 61; refine HPm.mono ?_; rintro e9 w6 ⟨rfl, hRo⟩)
                    refine bodyPost_ret (v := .tuple #[.int .i64 ((s.P.length : Int) + 1), .int .i64 0]) (by simp [results, Try.results30, go_sem]) rfl ⟨rfl, ?_⟩
                    rw [eN']
                    exact hRo
                  exact AllReadyH.nil
                exact AllReadyH.nil
              exact AllReadyH.nil
            exact AllReadyH.nil
          exact AllReadyH.nil
        refine AllReadyH.cons rfl (fun K hK => ?_) ?_
        · have hB : RowQ (wd.alloc (.cells #[.pointer (some ⟨w3.heap.size, 0, none⟩)] 85)) wm.heap.size (.slice (some ⟨wd.heap.size, 0, none⟩) 1 1) [some (w3.heap.size)] := by
            have := row1 wd (b := wm.heap.size) HU0.size (w3.heap.size)
            simpa [cls, pc, pa] using this
          go_simp
          refine hK.out _ _ ((KB.out _ (HU0.alloc (.cells #[.pointer (some ⟨w3.heap.size, 0, none⟩)] 85))).2.cell1 3 _ rfl) (fun hHeld => ?_)
          clear hK K
          (try simp only [Act.put, List.setIfInBounds_toArray, List.set_cons_zero, List.set_cons_succ])
          refine wpAnyH_ready (rs := [5, 12]) (by kernel_rfl) (by simp) ?_
          refine AllReadyH.cons rfl (fun K hK => ?_) ?_
          · have hE : RowQ ((wd.alloc (.cells #[.pointer (some ⟨w3.heap.size, 0, none⟩)] 85)).alloc (.cells #[] 85)) wm.heap.size (.slice (some ⟨wd.heap.size + 1, 0, none⟩) 0 0) [] := by
              have := row0 (wd.alloc (.cells #[.pointer (some ⟨w3.heap.size, 0, none⟩)] 85)) (b := wm.heap.size) (HU0.alloc (.cells #[.pointer (some ⟨w3.heap.size, 0, none⟩)] 85)).size
              simpa [cls] using this
            have hB := row_upd hB ((Upd.refl Non _).alloc (.cells #[] 85)) (fun _ _ e => e)
            go_simp
            refine hK.out _ _ ((KB.out _ ((HU0.alloc (.cells #[.pointer (some ⟨w3.heap.size, 0, none⟩)] 85)).alloc (.cells #[] 85))).2.cell1 3 _ rfl) (fun hHeld => ?_)
            clear hK K
            (try simp only [Act.put, List.setIfInBounds_toArray, List.set_cons_zero, List.set_cons_succ])
            refine wpAnyH_ready (rs := [12]) (by kernel_rfl) (by simp) ?_
            refine AllReadyH.cons rfl (fun K hK => ?_) ?_
            · have c12 := (KB.out _ ((HU0.alloc (.cells #[.pointer (some ⟨w3.heap.size, 0, none⟩)] 85)).alloc (.cells #[] 85))).1.cell1 i _ hu
              go_simp
              refine hK.out _ _ ((KB.out _ ((HU0.alloc (.cells #[.pointer (some ⟨w3.heap.size, 0, none⟩)] 85)).alloc (.cells #[] 85))).2.cell1 3 _ rfl) (fun hHeld => ?_)
              clear c12
              clear hK K
              (try simp only [Act.put, List.setIfInBounds_toArray, List.set_cons_zero, List.set_cons_succ])
              refine wpAnyH_ready (rs := [13]) (by kernel_rfl) (by simp) ?_
              refine AllReadyH.cons rfl (fun K hK => ?_) ?_
              · refine step_append_q (by rfl) _ _ (by rfl) (by rfl) (by rfl) hE ((HU0.alloc (.cells #[.pointer (some ⟨w3.heap.size, 0, none⟩)] 85)).alloc (.cells #[] 85)).size (row_upd HR.out ((HU0.alloc (.cells #[.pointer (some ⟨w3.heap.size, 0, none⟩)] 85)).alloc (.cells #[] 85)) (fun _ _ e => e)) hBND.1 ?_
                intro vA wA hA hUA
                have HUA : Upd Non wm wA := Upd.then ((HU0.alloc (.cells #[.pointer (some ⟨w3.heap.size, 0, none⟩)] 85)).alloc (.cells #[] 85)) hUA (fun a ha hs => absurd (row_blk hE a hs).1 (by omega))
                have hB := row_upd hB hUA (fun a ha ha' => absurd (Option.some.inj (show (some (wd.heap.size) : Option Nat) = some (wd.heap.size + 1) from ha.trans ha'.symm)) (by omega))
                refine hK.out _ _ ((KB.out _ HUA).2.cell1 3 _ rfl) (fun hHeld => ?_)
                clear hUA hE
                clear hK K
                (try simp only [Act.put, List.setIfInBounds_toArray, List.set_cons_zero, List.set_cons_succ])
                refine wpAnyH_ready (rs := [16]) (by kernel_rfl) (by simp) ?_
                refine AllReadyH.cons rfl (fun K hK => ?_) ?_
                · refine step_append_q (by rfl) _ _ (by rfl) (by rfl) (by rfl) hA HUA.size hB hBND.2 ?_
                  intro vN wN hN hUN
                  have HUN : Upd Non wm wN := Upd.then HUA hUN (fun a ha hs => absurd (row_blk hA a hs).1 (by omega))
                  obtain ⟨ya, yc, hy9⟩ := rowq_len hN
                  obtain ⟨yn, hyn⟩ : ∃ x, ([] ++ L0 ++ [some w3.heap.size]).length = x := ⟨_, rfl⟩
                  rw [hyn] at hy9
                  subst hy9
                  refine hK.out _ _ ((KB.out _ HUN).2.cell1 3 _ rfl) (fun hHeld => ?_)
                  clear hUN hA hB
                  clear hK K
                  (try simp only [Act.put, List.setIfInBounds_toArray, List.set_cons_zero, List.set_cons_succ])
                  refine wpAnyH_take (i := 17) (v := ?_) (by simp only [List.getElem?_toArray, List.getElem?_cons_zero, List.getElem?_cons_succ]; rfl) (by kernel_rfl) (by kernel_rfl) (by kernel_rfl) (by intro _ _ _ h; exact h) (Or.inl ⟨by rfl, ?_⟩) (by assumption) ?_
                  rotate_left
                  · intro w hSw; (try dsimp only at hSw); go_simp; (try with_reducible rfl)
                  (try simp only [Act.put, List.setIfInBounds_toArray, List.set_cons_zero, List.set_cons_succ])
                  refine wpAnyH_ready (rs := [18]) (by kernel_rfl) (by simp) ?_
                  refine AllReadyH.cons rfl (fun K hK => ?_) ?_
                  · have kr := (KB.out _ HUN).1
                    have kc := (KB.out _ HUN).2
                    have c8 := kr.cell1 i _ hu
                    have z8 := kr.frozen i
                    have ncr := kc.ne kr (by decide)
                    go_simp
                    refine hK.out _ _ ((kc.other (a := ⟨R.lb, i, none⟩) ncr _).cell1 3 _ rfl) (fun hHeld => ?_)
                    clear c8 z8 kr kc ncr
                    clear hK K
                    (try simp only [Act.put, List.setIfInBounds_toArray, List.set_cons_zero, List.set_cons_succ])
                    refine wpAnyH_done (by kernel_rfl) ?_ _
                    have HPm := FIN9.out _ _ HUN hN
                    clear hN HUN hHeld
                    obtain ⟨w5, hw5⟩ : ∃ W, wN.setCell ⟨R.lb, i, none⟩ (.slice ya yn yc) = W := ⟨_, rfl⟩
                    rw [hw5] at HPm
                    (try rw [hw5])
                    clear hw5
                    go_wp2_with (go_at_call 61; refine HPm.mono ?_; rintro e9 w6 ⟨rfl, hRo⟩)
                    refine bodyPost_ret (v := .tuple #[.int .i64 ((s.P.length : Int) + 1), .int .i64 0]) (by simp [results, Try.results30, go_sem]) rfl ⟨rfl, ?_⟩
                    rw [eN']
                    exact hRo
                  exact AllReadyH.nil
                exact AllReadyH.nil
              exact AllReadyH.nil
            exact AllReadyH.nil
          refine AllReadyH.cons rfl (fun K hK => ?_) ?_
          · have c12 := (KB.out _ (HU0.alloc (.cells #[.pointer (some ⟨w3.heap.size, 0, none⟩)] 85))).1.cell1 i _ hu
            go_simp
            refine hK.out _ _ ((KB.out _ (HU0.alloc (.cells #[.pointer (some ⟨w3.heap.size, 0, none⟩)] 85))).2.cell1 3 _ rfl) (fun hHeld => ?_)
            clear c12
            clear hK K
            (try simp only [Act.put, List.setIfInBounds_toArray, List.set_cons_zero, List.set_cons_succ])
            refine wpAnyH_ready (rs := [5]) (by kernel_rfl) (by simp) ?_
            refine AllReadyH.cons rfl (fun K hK => ?_) ?_
            · have hE : RowQ ((wd.alloc (.cells #[.pointer (some ⟨w3.heap.size, 0, none⟩)] 85)).alloc (.cells #[] 85)) wm.heap.size (.slice (some ⟨wd.heap.size + 1, 0, none⟩) 0 0) [] := by
                have := row0 (wd.alloc (.cells #[.pointer (some ⟨w3.heap.size, 0, none⟩)] 85)) (b := wm.heap.size) (HU0.alloc (.cells #[.pointer (some ⟨w3.heap.size, 0, none⟩)] 85)).size
                simpa [cls] using this
              have hB := row_upd hB ((Upd.refl Non _).alloc (.cells #[] 85)) (fun _ _ e => e)
              go_simp
              refine hK.out _ _ ((KB.out _ ((HU0.alloc (.cells #[.pointer (some ⟨w3.heap.size, 0, none⟩)] 85)).alloc (.cells #[] 85))).2.cell1 3 _ rfl) (fun hHeld => ?_)
              clear hK K
              (try simp only [Act.put, List.setIfInBounds_toArray, List.set_cons_zero, List.set_cons_succ])
              refine wpAnyH_ready (rs := [13]) (by kernel_rfl) (by simp) ?_
              refine AllReadyH.cons rfl (fun K hK => ?_) ?_
              · refine step_append_q (by rfl) _ _ (by rfl) (by rfl) (by rfl) hE ((HU0.alloc (.cells #[.pointer (some ⟨w3.heap.size, 0, none⟩)] 85)).alloc (.cells #[] 85)).size (row_upd HR.out ((HU0.alloc (.cells #[.pointer (some ⟨w3.heap.size, 0, none⟩)] 85)).alloc (.cells #[] 85)) (fun _ _ e => e)) hBND.1 ?_
                intro vA wA hA hUA
                have HUA : Upd Non wm wA := Upd.then ((HU0.alloc (.cells #[.pointer (some ⟨w3.heap.size, 0, none⟩)] 85)).alloc (.cells #[] 85)) hUA (fun a ha hs => absurd (row_blk hE a hs).1 (by omega))
                have hB := row_upd hB hUA (fun a ha ha' => absurd (Option.some.inj (show (some (wd.heap.size) : Option Nat) = some (wd.heap.size + 1) from ha.trans ha'.symm)) (by omega))
                refine hK.out _ _ ((KB.out _ HUA).2.cell1 3 _ rfl) (fun hHeld => ?_)
                clear hUA hE
                clear hK K
                (try simp only [Act.put, List.setIfInBounds_toArray, List.set_cons_zero, List.set_cons_succ])
                refine wpAnyH_ready (rs := [16]) (by kernel_rfl) (by simp) ?_
                refine AllReadyH.cons rfl (fun K hK => ?_) ?_
                · refine step_append_q (by rfl) _ _ (by rfl) (by rfl) (by rfl) hA HUA.size hB hBND.2 ?_
                  intro vN wN hN hUN
                  have HUN : Upd Non wm wN := Upd.then HUA hUN (fun a ha hs => absurd (row_blk hA a hs).1 (by omega))
                  obtain ⟨ya, yc, hy9⟩ := rowq_len hN
                  obtain ⟨yn, hyn⟩ : ∃ x, ([] ++ L0 ++ [some w3.heap.size]).length = x := ⟨_, rfl⟩
                  rw [hyn] at hy9
                  subst hy9
                  refine hK.out _ _ ((KB.out _ HUN).2.cell1 3 _ rfl) (fun hHeld => ?_)
                  clear hUN hA hB
                  clear hK K
                  (try simp only [Act.put, List.setIfInBounds_toArray, List.set_cons_zero, List.set_cons_succ])
                  refine wpAnyH_take (i := 17) (v := ?_) (by simp only [List.getElem?_toArray, List.getElem?_cons_zero, List.getElem?_cons_succ]; rfl) (by kernel_rfl) (by kernel_rfl) (by kernel_rfl) (by intro _ _ _ h; exact h) (Or.inl ⟨by rfl, ?_⟩) (by assumption) ?_
                  rotate_left
                  · intro w hSw; (try dsimp only at hSw); go_simp; (try with_reducible rfl)
                  (try simp only [Act.put, List.setIfInBounds_toArray, List.set_cons_zero, List.set_cons_succ])
                  refine wpAnyH_ready (rs := [18]) (by kernel_rfl) (by simp) ?_
                  refine AllReadyH.cons rfl (fun K hK => ?_) ?_
                  · have kr := (KB.out _ HUN).1
                    have kc := (KB.out _ HUN).2
                    have c8 := kr.cell1 i _ hu
                    have z8 := kr.frozen i
                    have ncr := kc.ne kr (by decide)
                    go_simp
                    refine hK.out _ _ ((kc.other (a := ⟨R.lb, i, none⟩) ncr _).cell1 3 _ rfl) (fun hHeld => ?_)
                    clear c8 z8 kr kc ncr
                    clear hK K
                    (try simp only [Act.put, List.setIfInBounds_toArray, List.set_cons_zero, List.set_cons_succ])
                    refine wpAnyH_done (by kernel_rfl) ?_ _
                    have HPm := FIN9.out _ _ HUN hN
                    clear hN HUN hHeld
                    obtain ⟨w5, hw5⟩ : ∃ W, wN.setCell ⟨R.lb, i, none⟩ (.slice ya yn yc) = W := ⟨_, rfl⟩
                    rw [hw5] at HPm
                    (try rw [hw5])
                    clear hw5
                    go_wp2_with (go_at_call 61; refine HPm.mono ?_; rintro e9 w6 ⟨rfl, hRo⟩)
                    refine bodyPost_ret (v := .tuple #[.int .i64 ((s.P.length : Int) + 1), .int .i64 0]) (by simp [results, Try.results30, go_sem]) rfl ⟨rfl, ?_⟩
                    rw [eN']
                    exact hRo
                  exact AllReadyH.nil
                exact AllReadyH.nil
              exact AllReadyH.nil
            exact AllReadyH.nil
          exact AllReadyH.nil
        exact AllReadyH.nil
      | some j =>
        obtain ⟨e, he, hke⟩ := hOE j hf
        have hVo := hOV j e hf he hke
        clear hOV hOE
        go_enter Try.func30, Try.ntmps30
        go_wp2_with (first | (go_at_call 12; refine HS.mono ?_; rintro e' w0 ⟨rfl, hw⟩; have hw' := hw.symm; subst hw') | (go_at_call 56; refine HM.mono ?_; rintro e' w1 ⟨rfl, F1, U1⟩))
        have c2 := F1.blk.cell1 2 _ rfl
        have c1 := F1.blk.cell1 1 _ rfl
        have c0 := F1.blk.cell1 0 _ rfl
        rw [hst] at c2
        have F1' : Hid _ := F1
        have U1' : Hid _ := U1
        clear F1 U1 hexc0
        first | go_quiet (fail) | go_big_quiet (fail)
        clear c0 c1 c2
        rw [hf] at hff
        have HFm := find_any (F1'.out.drewN nq) n1 n2 hk (v := v1) (by rw [hi0'.out]; exact hv1) hb1
        rw [hi0'.out, hff] at HFm
        go_wp2_with (first | (go_at_call 59; refine HFm.mono ?_; rintro e' w2 ⟨rfl, mm, hw2⟩; have F2 : Rf w2 R n room s.st (vs.set i v1) pv s.P := (by rw [hw2]; exact (F1'.out.drewN _).drewN _); have U2 : Upd (Rb R vs pv) w w2 := (by rw [hw2]; exact (U1'.out.trans (hU0 _ _)).trans (hU0 _ _)); clear hw2 F1' U1'; have HOm := out_any F2 hv1 (by rw [hVe]; exact he) n2 hb1 hb2; clear F2) | (go_at_call 60; refine HOm.mono ?_; rintro e' w3 ⟨rfl, F3, U3⟩; have F3' : Hid _ := F3; have U3' : Hid _ := U3; have U2' : Hid _ := U2; clear F3 U3 U2))
        have F3 := F3'.out
        rw [List.set_set] at F3
        have U3 := U2'.out.trans (U3'.out.mono (fun a _ ha => Rb.set hv (by rw [vE1]) ha))
        clear F3' U3' U2'
        have hbo : (outV v1 j).ll.length ≤ 4000000000000 := by
          unfold outV
          split
          · exact Nat.le_trans (List.length_filter_le _ _) hb1
          · exact hb1
        have eN' := eN.out (takeX x1 j) rfl
        obtain ⟨wm, hwm⟩ : ∃ W, W = w3.alloc (.cells #[.string k, .int .u64 z, .int .u64 ch, .bool true, .int .i64 0] 84) := ⟨_, rfl⟩
        obtain ⟨lc, la, nL, lcp, L0, hu, KB0, hL0, hLn, FIN0⟩ := TL.out (takeX x1 j) (outV v1 j) w3 wm (by rw [hf]) hVo rfl hbo F3 U3 hwm
        (try rw [hn] at KB0)
        have KB : Hid _ := KB0
        have FIN9 : Hid _ := FIN0
        have HR : Hid _ := hL0
        have hBND : ([] : List (Option Nat)).length + L0.length ≤ 8000000000001 ∧ ([] ++ L0).length + [some w3.heap.size].length ≤ 8000000000001 := by simp; omega
        clear KB0 FIN0 hL0 F3 U3 TL eN FINA
        rw [← hwm]
        clear hwm
        have HU0 : Upd Non wm wm.drew := (Upd.refl Non wm).drew
        refine wp_region_held_drew (S := fun W => W.cell? ⟨R.cb, 3, none⟩ = some (.slice (some ⟨R.lb, 0, none⟩) n n)) (by kernel_rfl) ?_ (fun hHeld => ?_)
        · (try dsimp only); exact (KB.out _ (Upd.refl Non wm)).2.cell1 3 _ rfl
        generalize wm.drew = wd at *
        refine wpAnyH_take (i := 0) (v := ?_) (by simp only [List.getElem?_toArray, List.getElem?_cons_zero, List.getElem?_cons_succ]; rfl) (by kernel_rfl) (by kernel_rfl) (by kernel_rfl) (by intro _ _ _ h; exact h) (Or.inl ⟨by rfl, ?_⟩) (by assumption) ?_
        rotate_left
        · intro w hSw; (try dsimp only at hSw); go_simp; (try with_reducible rfl)
        (try simp only [Act.put, List.setIfInBounds_toArray, List.set_cons_zero, List.set_cons_succ])
        refine wpAnyH_take (i := 1) (v := ?_) (by simp only [List.getElem?_toArray, List.getElem?_cons_zero, List.getElem?_cons_succ]; rfl) (by kernel_rfl) (by kernel_rfl) (by kernel_rfl) (by intro _ _ _ h; exact h) (Or.inl ⟨by rfl, ?_⟩) (by assumption) ?_
        rotate_left
        · intro w hSw; (try dsimp only at hSw); go_simp; (try with_reducible rfl)
        (try simp only [Act.put, List.setIfInBounds_toArray, List.set_cons_zero, List.set_cons_succ])
        refine wpAnyH_take (i := 2) (v := ?_) (by simp only [List.getElem?_toArray, List.getElem?_cons_zero, List.getElem?_cons_succ]; rfl) (by kernel_rfl) (by kernel_rfl) (by kernel_rfl) (by intro _ _ _ h; exact h) (Or.inl ⟨by rfl, ?_⟩) (by assumption) ?_
        rotate_left
        · intro w hSw; (try dsimp only at hSw); go_simp; (try with_reducible rfl)
        (try simp only [Act.put, List.setIfInBounds_toArray, List.set_cons_zero, List.set_cons_succ])
        refine wpAnyH_take (i := 3) (v := ?_) (by simp only [List.getElem?_toArray, List.getElem?_cons_zero, List.getElem?_cons_succ]; rfl) (by kernel_rfl) (by kernel_rfl) (by kernel_rfl) (by intro _ _ _ h; exact h) (Or.inl ⟨by rfl, ?_⟩) (by assumption) ?_
        rotate_left
        · intro w hSw; (try dsimp only at hSw); go_simp; (try with_reducible rfl)
        (try simp only [Act.put, List.setIfInBounds_toArray, List.set_cons_zero, List.set_cons_succ])
        refine wpAnyH_take (i := 4) (v := ?_) (by simp only [List.getElem?_toArray, List.getElem?_cons_zero, List.getElem?_cons_succ]; rfl) (by kernel_rfl) (by kernel_rfl) (by kernel_rfl) (by intro _ _ _ h; exact h) (Or.inl ⟨by rfl, ?_⟩) (by assumption) ?_
        rotate_left
        · intro w hSw; (try dsimp only at hSw); go_simp; (try with_reducible rfl)
        (try simp only [Act.put, List.setIfInBounds_toArray, List.set_cons_zero, List.set_cons_succ])
        refine wpAnyH_take (i := 6) (v := ?_) (by simp only [List.getElem?_toArray, List.getElem?_cons_zero, List.getElem?_cons_succ]; rfl) (by kernel_rfl) (by kernel_rfl) (by kernel_rfl) (by intro _ _ _ h; exact h) (Or.inl ⟨by rfl, ?_⟩) (by assumption) ?_
        rotate_left
        · intro w hSw; (try dsimp only at hSw); go_simp; (try with_reducible rfl)
        (try simp only [Act.put, List.setIfInBounds_toArray, List.set_cons_zero, List.set_cons_succ])
        refine wpAnyH_take (i := 7) (v := ?_) (by simp only [List.getElem?_toArray, List.getElem?_cons_zero, List.getElem?_cons_succ]; rfl) (by kernel_rfl) (by kernel_rfl) (by kernel_rfl) (by intro _ _ _ h; exact h) (Or.inl ⟨by rfl, ?_⟩) (by assumption) ?_
        rotate_left
        · intro w hSw; (try dsimp only at hSw); go_simp; (try with_reducible rfl)
        (try simp only [Act.put, List.setIfInBounds_toArray, List.set_cons_zero, List.set_cons_succ])
        refine wpAnyH_take (i := 8) (v := ?_) (by simp only [List.getElem?_toArray, List.getElem?_cons_zero, List.getElem?_cons_succ]; rfl) (by kernel_rfl) (by kernel_rfl) (by kernel_rfl) (by intro _ _ _ h; exact h) (Or.inl ⟨by rfl, ?_⟩) (by assumption) ?_
        rotate_left
        · intro w hSw; (try dsimp only at hSw); go_simp; (try with_reducible rfl)
        (try simp only [Act.put, List.setIfInBounds_toArray, List.set_cons_zero, List.set_cons_succ])
        refine wpAnyH_take (i := 9) (v := ?_) (by simp only [List.getElem?_toArray, List.getElem?_cons_zero, List.getElem?_cons_succ]; rfl) (by kernel_rfl) (by kernel_rfl) (by kernel_rfl) (by intro _ _ _ h; exact h) (Or.inl ⟨by rfl, ?_⟩) (by assumption) ?_
        rotate_left
        · intro w hSw; (try dsimp only at hSw); go_simp; (try with_reducible rfl)
        (try simp only [Act.put, List.setIfInBounds_toArray, List.set_cons_zero, List.set_cons_succ])
        refine wpAnyH_take (i := 10) (v := ?_) (by simp only [List.getElem?_toArray, List.getElem?_cons_zero, List.getElem?_cons_succ]; rfl) (by kernel_rfl) (by kernel_rfl) (by kernel_rfl) (by intro _ _ _ h; exact h) (Or.inl ⟨by rfl, ?_⟩) (by assumption) ?_
        rotate_left
        · intro w hSw; (try dsimp only at hSw); go_simp; (try with_reducible rfl)
        (try simp only [Act.put, List.setIfInBounds_toArray, List.set_cons_zero, List.set_cons_succ])
        refine wpAnyH_take (i := 11) (v := ?_) (by simp only [List.getElem?_toArray, List.getElem?_cons_zero, List.getElem?_cons_succ]; rfl) (by kernel_rfl) (by kernel_rfl) (by kernel_rfl) (by intro _ _ _ h; exact h) (Or.inl ⟨by rfl, ?_⟩) (by assumption) ?_
        rotate_left
        · intro w hSw; (try dsimp only at hSw); go_simp; (try with_reducible rfl)
        (try simp only [Act.put, List.setIfInBounds_toArray, List.set_cons_zero, List.set_cons_succ])
        refine wpAnyH_take (i := 14) (v := ?_) (by simp only [List.getElem?_toArray, List.getElem?_cons_zero, List.getElem?_cons_succ]; rfl) (by kernel_rfl) (by kernel_rfl) (by kernel_rfl) (by intro _ _ _ h; exact h) (Or.inl ⟨by rfl, ?_⟩) (by assumption) ?_
        rotate_left
        · intro w hSw; (try dsimp only at hSw); go_simp; (try with_reducible rfl)
        (try simp only [Act.put, List.setIfInBounds_toArray, List.set_cons_zero, List.set_cons_succ])
        refine wpAnyH_ready (rs := [5, 12, 15]) (by kernel_rfl) (by simp) ?_
        refine AllReadyH.cons rfl (fun K hK => ?_) ?_
        · have hE : RowQ (wd.alloc (.cells #[] 85)) wm.heap.size (.slice (some ⟨wd.heap.size, 0, none⟩) 0 0) [] := by
            have := row0 wd (b := wm.heap.size) HU0.size
            simpa [cls] using this
          go_simp
          refine hK.out _ _ ((KB.out _ (HU0.alloc (.cells #[] 85))).2.cell1 3 _ rfl) (fun hHeld => ?_)
          clear hK K
          (try simp only [Act.put, List.setIfInBounds_toArray, List.set_cons_zero, List.set_cons_succ])
          refine wpAnyH_ready (rs := [12, 15]) (by kernel_rfl) (by simp) ?_
          refine AllReadyH.cons rfl (fun K hK => ?_) ?_
          · have c12 := (KB.out _ (HU0.alloc (.cells #[] 85))).1.cell1 i _ hu
            go_simp
            refine hK.out _ _ ((KB.out _ (HU0.alloc (.cells #[] 85))).2.cell1 3 _ rfl) (fun hHeld => ?_)
            clear c12
            clear hK K
            (try simp only [Act.put, List.setIfInBounds_toArray, List.set_cons_zero, List.set_cons_succ])
            refine wpAnyH_ready (rs := [13, 15]) (by kernel_rfl) (by simp) ?_
            refine AllReadyH.cons rfl (fun K hK => ?_) ?_
            · refine step_append_q (by rfl) _ _ (by rfl) (by rfl) (by rfl) hE (HU0.alloc (.cells #[] 85)).size (row_upd HR.out (HU0.alloc (.cells #[] 85)) (fun _ _ e => e)) hBND.1 ?_
              intro vA wA hA hUA
              have HUA : Upd Non wm wA := Upd.then (HU0.alloc (.cells #[] 85)) hUA (fun a ha hs => absurd (row_blk hE a hs).1 (by omega))
              refine hK.out _ _ ((KB.out _ HUA).2.cell1 3 _ rfl) (fun hHeld => ?_)
              clear hUA hE
              clear hK K
              (try simp only [Act.put, List.setIfInBounds_toArray, List.set_cons_zero, List.set_cons_succ])
              refine wpAnyH_ready (rs := [15]) (by kernel_rfl) (by simp) ?_
              refine AllReadyH.cons rfl (fun K hK => ?_) ?_
              · have hB : RowQ (wA.alloc (.cells #[.pointer (some ⟨w3.heap.size, 0, none⟩)] 85)) wm.heap.size (.slice (some ⟨wA.heap.size, 0, none⟩) 1 1) [some (w3.heap.size)] := by
                  have := row1 wA (b := wm.heap.size) HUA.size (w3.heap.size)
                  simpa [cls, pc, pa] using this
                have hA := row_upd hA ((Upd.refl Non _).alloc (.cells #[.pointer (some ⟨w3.heap.size, 0, none⟩)] 85)) (fun _ _ e => e)
                go_simp
                refine hK.out _ _ ((KB.out _ (HUA.alloc (.cells #[.pointer (some ⟨w3.heap.size, 0, none⟩)] 85))).2.cell1 3 _ rfl) (fun hHeld => ?_)
                clear hK K
                (try simp only [Act.put, List.setIfInBounds_toArray, List.set_cons_zero, List.set_cons_succ])
                refine wpAnyH_ready (rs := [16]) (by kernel_rfl) (by simp) ?_
                refine AllReadyH.cons rfl (fun K hK => ?_) ?_
                · refine step_append_q (by rfl) _ _ (by rfl) (by rfl) (by rfl) hA (HUA.alloc (.cells #[.pointer (some ⟨w3.heap.size, 0, none⟩)] 85)).size hB hBND.2 ?_
                  intro vN wN hN hUN
                  have HUN : Upd Non wm wN := Upd.then (HUA.alloc (.cells #[.pointer (some ⟨w3.heap.size, 0, none⟩)] 85)) hUN (fun a ha hs => absurd (row_blk hA a hs).1 (by omega))
                  obtain ⟨ya, yc, hy9⟩ := rowq_len hN
                  obtain ⟨yn, hyn⟩ : ∃ x, ([] ++ L0 ++ [some w3.heap.size]).length = x := ⟨_, rfl⟩
                  rw [hyn] at hy9
                  subst hy9
                  refine hK.out _ _ ((KB.out _ HUN).2.cell1 3 _ rfl) (fun hHeld => ?_)
                  clear hUN hA hB
                  clear hK K
                  (try simp only [Act.put, List.setIfInBounds_toArray, List.set_cons_zero, List.set_cons_succ])
                  refine wpAnyH_take (i := 17) (v := ?_) (by simp only [List.getElem?_toArray, List.getElem?_cons_zero, List.getElem?_cons_succ]; rfl) (by kernel_rfl) (by kernel_rfl) (by kernel_rfl) (by intro _ _ _ h; exact h) (Or.inl ⟨by rfl, ?_⟩) (by assumption) ?_
                  rotate_left
                  · intro w hSw; (try dsimp only at hSw); go_simp; (try with_reducible rfl)
                  (try simp only [Act.put, List.setIfInBounds_toArray, List.set_cons_zero, List.set_cons_succ])
                  refine wpAnyH_ready (rs := [18]) (by kernel_rfl) (by simp) ?_
                  refine AllReadyH.cons rfl (fun K hK => ?_) ?_
                  · have kr := (KB.out _ HUN).1
                    have kc := (KB.out _ HUN).2
                    have c8 := kr.cell1 i _ hu
                    have z8 := kr.frozen i
                    have ncr := kc.ne kr (by decide)
                    go_simp
                    refine hK.out _ _ ((kc.other (a := ⟨R.lb, i, none⟩) ncr _).cell1 3 _ rfl) (fun hHeld => ?_)
                    clear c8 z8 kr kc ncr
                    clear hK K
                    (try simp only [Act.put, List.setIfInBounds_toArray, List.set_cons_zero, List.set_cons_succ])
                    refine wpAnyH_done (by kernel_rfl) ?_ _
                    have HPm := FIN9.out _ _ HUN hN
                    clear hN HUN hHeld
                    obtain ⟨w5, hw5⟩ : ∃ W, wN.setCell ⟨R.lb, i, none⟩ (.slice ya yn yc) = W := ⟨_, rfl⟩
                    rw [hw5] at HPm
                    (try rw [hw5])
                    clear hw5
                    go_wp2_with (go_at_call 61; refine HPm.mono ?_; rintro e9 w6 ⟨rfl, hRo⟩)
                    refine bodyPost_ret (v := .tuple #[.int .i64 ((s.P.length : Int) + 1), .int .i64 0]) (by simp [results, Try.results30, go_sem]) rfl ⟨rfl, ?_⟩
                    rw [eN']
                    exact hRo
                  exact AllReadyH.nil
                exact AllReadyH.nil
              exact AllReadyH.nil
            refine AllReadyH.cons rfl (fun K hK => ?_) ?_
            · have hB : RowQ ((wd.alloc (.cells #[] 85)).alloc (.cells #[.pointer (some ⟨w3.heap.size, 0, none⟩)] 85)) wm.heap.size (.slice (some ⟨wd.heap.size + 1, 0, none⟩) 1 1) [some (w3.heap.size)] := by
                have := row1 (wd.alloc (.cells #[] 85)) (b := wm.heap.size) (HU0.alloc (.cells #[] 85)).size (w3.heap.size)
                simpa [cls, pc, pa] using this
              have hE := row_upd hE ((Upd.refl Non _).alloc (.cells #[.pointer (some ⟨w3.heap.size, 0, none⟩)] 85)) (fun _ _ e => e)
              go_simp
              refine hK.out _ _ ((KB.out _ ((HU0.alloc (.cells #[] 85)).alloc (.cells #[.pointer (some ⟨w3.heap.size, 0, none⟩)] 85))).2.cell1 3 _ rfl) (fun hHeld => ?_)
              clear hK K
              (try simp only [Act.put, List.setIfInBounds_toArray, List.set_cons_zero, List.set_cons_succ])
              refine wpAnyH_ready (rs := [13]) (by kernel_rfl) (by simp) ?_
              refine AllReadyH.cons rfl (fun K hK => ?_) ?_
              · refine step_append_q (by rfl) _ _ (by rfl) (by rfl) (by rfl) hE ((HU0.alloc (.cells #[] 85)).alloc (.cells #[.pointer (some ⟨w3.heap.size, 0, none⟩)] 85)).size (row_upd HR.out ((HU0.alloc (.cells #[] 85)).alloc (.cells #[.pointer (some ⟨w3.heap.size, 0, none⟩)] 85)) (fun _ _ e => e)) hBND.1 ?_
                intro vA wA hA hUA
                have HUA : Upd Non wm wA := Upd.then ((HU0.alloc (.cells #[] 85)).alloc (.cells #[.pointer (some ⟨w3.heap.size, 0, none⟩)] 85)) hUA (fun a ha hs => absurd (row_blk hE a hs).1 (by omega))
                have hB := row_upd hB hUA (fun a ha ha' => absurd (Option.some.inj (show (some (wd.heap.size + 1) : Option Nat) = some (wd.heap.size) from ha.trans ha'.symm)) (by omega))
                refine hK.out _ _ ((KB.out _ HUA).2.cell1 3 _ rfl) (fun hHeld => ?_)
                clear hUA hE
                clear hK K
                (try simp only [Act.put, List.setIfInBounds_toArray, List.set_cons_zero, List.set_cons_succ])
                refine wpAnyH_ready (rs := [16]) (by kernel_rfl) (by simp) ?_
                refine AllReadyH.cons rfl (fun K hK => ?_) ?_
                · refine step_append_q (by rfl) _ _ (by rfl) (by rfl) (by rfl) hA HUA.size hB hBND.2 ?_
                  intro vN wN hN hUN
                  have HUN : Upd Non wm wN := Upd.then HUA hUN (fun a ha hs => absurd (row_blk hA a hs).1 (by omega))
                  obtain ⟨ya, yc, hy9⟩ := rowq_len hN
                  obtain ⟨yn, hyn⟩ : ∃ x, ([] ++ L0 ++ [some w3.heap.size]).length = x := ⟨_, rfl⟩
                  rw [hyn] at hy9
                  subst hy9
                  refine hK.out _ _ ((KB.out _ HUN).2.cell1 3 _ rfl) (fun hHeld => ?_)
                  clear hUN hA hB
                  clear hK K
                  (try simp only [Act.put, List.setIfInBounds_toArray, List.set_cons_zero, List.set_cons_succ])
                  refine wpAnyH_take (i := 17) (v := ?_) (by simp only [List.getElem?_toArray, List.getElem?_cons_zero, List.getElem?_cons_succ]; rfl) (by kernel_rfl) (by kernel_rfl) (by kernel_rfl) (by intro _ _ _ h; exact h) (Or.inl ⟨by rfl, ?_⟩) (by assumption) ?_
                  rotate_left
                  · intro w hSw; (try dsimp only at hSw); go_simp; (try with_reducible rfl)
                  (try simp only [Act.put, List.setIfInBounds_toArray, List.set_cons_zero, List.set_cons_succ])
                  refine wpAnyH_ready (rs := [18]) (by kernel_rfl) (by simp) ?_
                  refine AllReadyH.cons rfl (fun K hK => ?_) ?_
                  · have kr := (KB.out _ HUN).1
                    have kc := (KB.out _ HUN).2
                    have c8 := kr.cell1 i _ hu
                    have z8 := kr.frozen i
                    have ncr := kc.ne kr (by decide)
                    go_simp
                    refine hK.out _ _ ((kc.other (a := ⟨R.lb, i, none⟩) ncr _).cell1 3 _ rfl) (fun hHeld => ?_)
                    clear c8 z8 kr kc ncr
                    clear hK K
                    (try simp only [Act.put, List.setIfInBounds_toArray, List.set_cons_zero, List.set_cons_succ])
                    refine wpAnyH_done (by kernel_rfl) ?_ _
                    have HPm := FIN9.out _ _ HUN hN
                    clear hN HUN hHeld
                    obtain ⟨w5, hw5⟩ : ∃ W, wN.setCell ⟨R.lb, i, none⟩ (.slice ya yn yc) = W := ⟨_, rfl⟩
                    rw [hw5] at HPm
                    (try rw [hw5])
                    clear hw5
                    go_wp2_with (go_at_call 61; refine HPm.mono ?_; rintro e9 w6 ⟨rfl, hRo⟩)
                    refine bodyPost_ret (v := .tuple #[.int .i64 ((s.P.length : Int) + 1), .int .i64 0]) (by simp [results, Try.results30, go_sem]) rfl ⟨rfl, ?_⟩
                    rw [eN']
                    exact hRo
                  exact AllReadyH.nil
                exact AllReadyH.nil
              exact AllReadyH.nil
            exact AllReadyH.nil
          refine AllReadyH.cons rfl (fun K hK => ?_) ?_
          · have hB : RowQ ((wd.alloc (.cells #[] 85)).alloc (.cells #[.pointer (some ⟨w3.heap.size, 0, none⟩)] 85)) wm.heap.size (.slice (some ⟨wd.heap.size + 1, 0, none⟩) 1 1) [some (w3.heap.size)] := by
              have := row1 (wd.alloc (.cells #[] 85)) (b := wm.heap.size) (HU0.alloc (.cells #[] 85)).size (w3.heap.size)
              simpa [cls, pc, pa] using this
            have hE := row_upd hE ((Upd.refl Non _).alloc (.cells #[.pointer (some ⟨w3.heap.size, 0, none⟩)] 85)) (fun _ _ e => e)
            go_simp
            refine hK.out _ _ ((KB.out _ ((HU0.alloc (.cells #[] 85)).alloc (.cells #[.pointer (some ⟨w3.heap.size, 0, none⟩)] 85))).2.cell1 3 _ rfl) (fun hHeld => ?_)
            clear hK K
            (try simp only [Act.put, List.setIfInBounds_toArray, List.set_cons_zero, List.set_cons_succ])
            refine wpAnyH_ready (rs := [12]) (by kernel_rfl) (by simp) ?_
            refine AllReadyH.cons rfl (fun K hK => ?_) ?_
            · have c12 := (KB.out _ ((HU0.alloc (.cells #[] 85)).alloc (.cells #[.pointer (some ⟨w3.heap.size, 0, none⟩)] 85))).1.cell1 i _ hu
              go_simp
              refine hK.out _ _ ((KB.out _ ((HU0.alloc (.cells #[] 85)).alloc (.cells #[.pointer (some ⟨w3.heap.size, 0, none⟩)] 85))).2.cell1 3 _ rfl) (fun hHeld => ?_)
              clear c12
              clear hK K
              (try simp only [Act.put, List.setIfInBounds_toArray, List.set_cons_zero, List.set_cons_succ])
              refine wpAnyH_ready (rs := [13]) (by kernel_rfl) (by simp) ?_
              refine AllReadyH.cons rfl (fun K hK => ?_) ?_
              · refine step_append_q (by rfl) _ _ (by rfl) (by rfl) (by rfl) hE ((HU0.alloc (.cells #[] 85)).alloc (.cells #[.pointer (some ⟨w3.heap.size, 0, none⟩)] 85)).size (row_upd HR.out ((HU0.alloc (.cells #[] 85)).alloc (.cells #[.pointer (some ⟨w3.heap.size, 0, none⟩)] 85)) (fun _ _ e => e)) hBND.1 ?_
                intro vA wA hA hUA
                have HUA : Upd Non wm wA := Upd.then ((HU0.alloc (.cells #[] 85)).alloc (.cells #[.pointer (some ⟨w3.heap.size, 0, none⟩)] 85)) hUA (fun a ha hs => absurd (row_blk hE a hs).1 (by omega))
                have hB := row_upd hB hUA (fun a ha ha' => absurd (Option.some.inj (show (some (wd.heap.size + 1) : Option Nat) = some (wd.heap.size) from ha.trans ha'.symm)) (by omega))
                refine hK.out _ _ ((KB.out _ HUA).2.cell1 3 _ rfl) (fun hHeld => ?_)
                clear hUA hE
                clear hK K
                (try simp only [Act.put, List.setIfInBounds_toArray, List.set_cons_zero, List.set_cons_succ])
                refine wpAnyH_ready (rs := [16]) (by kernel_rfl) (by simp) ?_
                refine AllReadyH.cons rfl (fun K hK => ?_) ?_
                · refine step_append_q (by rfl) _ _ (by rfl) (by rfl) (by rfl) hA HUA.size hB hBND.2 ?_
                  intro vN wN hN hUN
                  have HUN : Upd Non wm wN := Upd.then HUA hUN (fun a ha hs => absurd (row_blk hA a hs).1 (by omega))
                  obtain ⟨ya, yc, hy9⟩ := rowq_len hN
                  obtain ⟨yn, hyn⟩ : ∃ x, ([] ++ L0 ++ [some w3.heap.size]).length = x := ⟨_, rfl⟩
                  rw [hyn] at hy9
                  subst hy9
                  refine hK.out _ _ ((KB.out _ HUN).2.cell1 3 _ rfl) (fun hHeld => ?_)
                  clear hUN hA hB
                  clear hK K
                  (try simp only [Act.put, List.setIfInBounds_toArray, List.set_cons_zero, List.set_cons_succ])
                  refine wpAnyH_take (i := 17) (v := ?_) (by simp only [List.getElem?_toArray, List.getElem?_cons_zero, List.getElem?_cons_succ]; rfl) (by kernel_rfl) (by kernel_rfl) (by kernel_rfl) (by intro _ _ _ h; exact h) (Or.inl ⟨by rfl, ?_⟩) (by assumption) ?_
                  rotate_left
                  · intro w hSw; (try dsimp only at hSw); go_simp; (try with_reducible rfl)
                  (try simp only [Act.put, List.setIfInBounds_toArray, List.set_cons_zero, List.set_cons_succ])
                  refine wpAnyH_ready (rs := [18]) (by kernel_rfl) (by simp) ?_
                  refine AllReadyH.cons rfl (fun K hK => ?_) ?_
                  · have kr := (KB.out _ HUN).1
                    have kc := (KB.out _ HUN).2
                    have c8 := kr.cell1 i _ hu
                    have z8 := kr.frozen i
                    have ncr := kc.ne kr (by decide)
                    go_simp
                    refine hK.out _ _ ((kc.other (a := ⟨R.lb, i, none⟩) ncr _).cell1 3 _ rfl) (fun hHeld => ?_)
                    clear c8 z8 kr kc ncr
                    clear hK K
                    (try simp only [Act.put, List.setIfInBounds_toArray, List.set_cons_zero, List.set_cons_succ])
                    refine wpAnyH_done (by kernel_rfl) ?_ _
                    have HPm := FIN9.out _ _ HUN hN
                    clear hN HUN hHeld
                    obtain ⟨w5, hw5⟩ : ∃ W, wN.setCell ⟨R.lb, i, none⟩ (.slice ya yn yc) = W := ⟨_, rfl⟩
                    rw [hw5] at HPm
                    (try rw [hw5])
                    clear hw5
                    go_wp2_with (go_at_call 61; refine HPm.mono ?_; rintro e9 w6 ⟨rfl, hRo⟩)
                    refine bodyPost_ret (v := .tuple #[.int .i64 ((s.P.length : Int) + 1), .int .i64 0]) (by simp [results, Try.results30, go_sem]) rfl ⟨rfl, ?_⟩
                    rw [eN']
                    exact hRo
                  exact AllReadyH.nil
                exact AllReadyH.nil
              exact AllReadyH.nil
            exact AllReadyH.nil
          exact AllReadyH.nil
        refine AllReadyH.cons rfl (fun K hK => ?_) ?_
        · have c12 := (KB.out _ HU0).1.cell1 i _ hu
          go_simp
          refine hK.out _ _ ((KB.out _ HU0).2.cell1 3 _ rfl) (fun hHeld => ?_)
          clear c12
          clear hK K
          (try simp only [Act.put, List.setIfInBounds_toArray, List.set_cons_zero, List.set_cons_succ])
          refine wpAnyH_ready (rs := [5, 15]) (by kernel_rfl) (by simp) ?_
          refine AllReadyH.cons rfl (fun K hK => ?_) ?_
          · have hE : RowQ (wd.alloc (.cells #[] 85)) wm.heap.size (.slice (some ⟨wd.heap.size, 0, none⟩) 0 0) [] := by
              have := row0 wd (b := wm.heap.size) HU0.size
              simpa [cls] using this
            go_simp
            refine hK.out _ _ ((KB.out _ (HU0.alloc (.cells #[] 85))).2.cell1 3 _ rfl) (fun hHeld => ?_)
            clear hK K
            (try simp only [Act.put, List.setIfInBounds_toArray, List.set_cons_zero, List.set_cons_succ])
            refine wpAnyH_ready (rs := [13, 15]) (by kernel_rfl) (by simp) ?_
            refine AllReadyH.cons rfl (fun K hK => ?_) ?_
            · refine step_append_q (by rfl) _ _ (by rfl) (by rfl) (by rfl) hE (HU0.alloc (.cells #[] 85)).size (row_upd HR.out (HU0.alloc (.cells #[] 85)) (fun _ _ e => e)) hBND.1 ?_
              intro vA wA hA hUA
              have HUA : Upd Non wm wA := Upd.then (HU0.alloc (.cells #[] 85)) hUA (fun a ha hs => absurd (row_blk hE a hs).1 (by omega))
              refine hK.out _ _ ((KB.out _ HUA).2.cell1 3 _ rfl) (fun hHeld => ?_)
              clear hUA hE
              clear hK K
              (try simp only [Act.put, List.setIfInBounds_toArray, List.set_cons_zero, List.set_cons_succ])
              refine wpAnyH_ready (rs := [15]) (by kernel_rfl) (by simp) ?_
              refine AllReadyH.cons rfl (fun K hK => ?_) ?_
              · have hB : RowQ (wA.alloc (.cells #[.pointer (some ⟨w3.heap.size, 0, none⟩)] 85)) wm.heap.size (.slice (some ⟨wA.heap.size, 0, none⟩) 1 1) [some (w3.heap.size)] := by
                  have := row1 wA (b := wm.heap.size) HUA.size (w3.heap.size)
                  simpa [cls, pc, pa] using this
                have hA := row_upd hA ((Upd.refl Non _).alloc (.cells #[.pointer (some ⟨w3.heap.size, 0, none⟩)] 85)) (fun _ _ e => e)
                go_simp
                refine hK.out _ _ ((KB.out _ (HUA.alloc (.cells #[.pointer (some ⟨w3.heap.size, 0, none⟩)] 85))).2.cell1 3 _ rfl) (fun hHeld => ?_)
                clear hK K
                (try simp only [Act.put, List.setIfInBounds_toArray, List.set_cons_zero, List.set_cons_succ])
                refine wpAnyH_ready (rs := [16]) (by kernel_rfl) (by simp) ?_
                refine AllReadyH.cons rfl (fun K hK => ?_) ?_
                · refine step_append_q (by rfl) _ _ (by rfl) (by rfl) (by rfl) hA (HUA.alloc (.cells #[.pointer (some ⟨w3.heap.size, 0, none⟩)] 85)).size hB hBND.2 ?_
                  intro vN wN hN hUN
                  have HUN : Upd Non wm wN := Upd.then (HUA.alloc (.cells #[.pointer (some ⟨w3.heap.size, 0, none⟩)] 85)) hUN (fun a ha hs => absurd (row_blk hA a hs).1 (by omega))
                  obtain ⟨ya, yc, hy9⟩ := rowq_len hN
                  obtain ⟨yn, hyn⟩ : ∃ x, ([] ++ L0 ++ [some w3.heap.size]).length = x := ⟨_, rfl⟩
                  rw [hyn] at hy9
                  subst hy9
                  refine hK.out _ _ ((KB.out _ HUN).2.cell1 3 _ rfl) (fun hHeld => ?_)
                  clear hUN hA hB
                  clear hK K
                  (try simp only [Act.put, List.setIfInBounds_toArray, List.set_cons_zero, List.set_cons_succ])
                  refine wpAnyH_take (i := 17) (v := ?_) (by simp only [List.getElem?_toArray, List.getElem?_cons_zero, List.getElem?_cons_succ]; rfl) (by kernel_rfl) (by kernel_rfl) (by kernel_rfl) (by intro _ _ _ h; exact h) (Or.inl ⟨by rfl, ?_⟩) (by assumption) ?_
                  rotate_left
                  · intro w hSw; (try dsimp only at hSw); go_simp; (try with_reducible rfl)
                  (try simp only [Act.put, List.setIfInBounds_toArray, List.set_cons_zero, List.set_cons_succ])
                  refine wpAnyH_ready (rs := [18]) (by kernel_rfl) (by simp) ?_
                  refine AllReadyH.cons rfl (fun K hK => ?_) ?_
                  · have kr := (KB.out _ HUN).1
                    have kc := (KB.out _ HUN).2
                    have c8 := kr.cell1 i _ hu
                    have z8 := kr.frozen i
                    have ncr := kc.ne kr (by decide)
                    go_simp
                    refine hK.out _ _ ((kc.other (a := ⟨R.lb, i, none⟩) ncr _).cell1 3 _ rfl) (fun hHeld => ?_)
                    clear c8 z8 kr kc ncr
                    clear hK K
                    (try simp only [Act.put, List.setIfInBounds_toArray, List.set_cons_zero, List.set_cons_succ])
                    refine wpAnyH_done (by kernel_rfl) ?_ _
                    have HPm := FIN9.out _ _ HUN hN
                    clear hN HUN hHeld
                    obtain ⟨w5, hw5⟩ : ∃ W, wN.setCell ⟨R.lb, i, none⟩ (.slice ya yn yc) = W := ⟨_, rfl⟩
                    rw [hw5] at HPm
                    (try rw [hw5])
                    clear hw5
                    go_wp2_with (go_at_call 61; refine HPm.mono ?_; rintro e9 w6 ⟨rfl, hRo⟩)
                    refine bodyPost_ret (v := .tuple #[.int .i64 ((s.P.length : Int) + 1), .int .i64 0]) (by simp [results, Try.results30, go_sem]) rfl ⟨rfl, ?_⟩
                    rw [eN']
                    exact hRo
                  exact AllReadyH.nil
                exact AllReadyH.nil
              exact AllReadyH.nil
            refine AllReadyH.cons rfl (fun K hK => ?_) ?_
            · have hB : RowQ ((wd.alloc (.cells #[] 85)).alloc (.cells #[.pointer (some ⟨w3.heap.size, 0, none⟩)] 85)) wm.heap.size (.slice (some ⟨wd.heap.size + 1, 0, none⟩) 1 1) [some (w3.heap.size)] := by
                have := row1 (wd.alloc (.cells #[] 85)) (b := wm.heap.size) (HU0.alloc (.cells #[] 85)).size (w3.heap.size)
                simpa [cls, pc, pa] using this
              have hE := row_upd hE ((Upd.refl Non _).alloc (.cells #[.pointer (some ⟨w3.heap.size, 0, none⟩)] 85)) (fun _ _ e => e)
              go_simp
              refine hK.out _ _ ((KB.out _ ((HU0.alloc (.cells #[] 85)).alloc (.cells #[.pointer (some ⟨w3.heap.size, 0, none⟩)] 85))).2.cell1 3 _ rfl) (fun hHeld => ?_)
              clear hK K
              (try simp only [Act.put, List.setIfInBounds_toArray, List.set_cons_zero, List.set_cons_succ])
              refine wpAnyH_ready (rs := [13]) (by kernel_rfl) (by simp) ?_
              refine AllReadyH.cons rfl (fun K hK => ?_) ?_
              · refine step_append_q (by rfl) _ _ (by rfl) (by rfl) (by rfl) hE ((HU0.alloc (.cells #[] 85)).alloc (.cells #[.pointer (some ⟨w3.heap.size, 0, none⟩)] 85)).size (row_upd HR.out ((HU0.alloc (.cells #[] 85)).alloc (.cells #[.pointer (some ⟨w3.heap.size, 0, none⟩)] 85)) (fun _ _ e => e)) hBND.1 ?_
                intro vA wA hA hUA
                have HUA : Upd Non wm wA := Upd.then ((HU0.alloc (.cells #[] 85)).alloc (.cells #[.pointer (some ⟨w3.heap.size, 0, none⟩)] 85)) hUA (fun a ha hs => absurd (row_blk hE a hs).1 (by omega))
                have hB := row_upd hB hUA (fun a ha ha' => absurd (Option.some.inj (show (some (wd.heap.size + 1) : Option Nat) = some (wd.heap.size) from ha.trans ha'.symm)) (by omega))
                refine hK.out _ _ ((KB.out _ HUA).2.cell1 3 _ rfl) (fun hHeld => ?_)
                clear hUA hE
                clear hK K
                (try simp only [Act.put, List.setIfInBounds_toArray, List.set_cons_zero, List.set_cons_succ])
                refine wpAnyH_ready (rs := [16]) (by kernel_rfl) (by simp) ?_
                refine AllReadyH.cons rfl (fun K hK => ?_) ?_
                · refine step_append_q (by rfl) _ _ (by rfl) (by rfl) (by rfl) hA HUA.size hB hBND.2 ?_
                  intro vN wN hN hUN
                  have HUN : Upd Non wm wN := Upd.then HUA hUN (fun a ha hs => absurd (row_blk hA a hs).1 (by omega))
                  obtain ⟨ya, yc, hy9⟩ := rowq_len hN
                  obtain ⟨yn, hyn⟩ : ∃ x, ([] ++ L0 ++ [some w3.heap.size]).length = x := ⟨_, rfl⟩
                  rw [hyn] at hy9
                  subst hy9
                  refine hK.out _ _ ((KB.out _ HUN).2.cell1 3 _ rfl) (fun hHeld => ?_)
                  clear hUN hA hB
                  clear hK K
                  (try simp only [Act.put, List.setIfInBounds_toArray, List.set_cons_zero, List.set_cons_succ])
                  refine wpAnyH_take (i := 17) (v := ?_) (by simp only [List.getElem?_toArray, List.getElem?_cons_zero, List.getElem?_cons_succ]; rfl) (by kernel_rfl) (by kernel_rfl) (by kernel_rfl) (by intro _ _ _ h; exact h) (Or.inl ⟨by rfl, ?_⟩) (by assumption) ?_
                  rotate_left
                  · intro w hSw; (try dsimp only at hSw); go_simp; (try with_reducible rfl)
                  (try simp only [Act.put, List.setIfInBounds_toArray, List.set_cons_zero, List.set_cons_succ])
                  refine wpAnyH_ready (rs := [18]) (by kernel_rfl) (by simp) ?_
                  refine AllReadyH.cons rfl (fun K hK => ?_) ?_
                  · have kr := (KB.out _ HUN).1
                    have kc := (KB.out _ HUN).2
                    have c8 := kr.cell1 i _ hu
                    have z8 := kr.frozen i
                    have ncr := kc.ne kr (by decide)
                    go_simp
                    refine hK.out _ _ ((kc.other (a := ⟨R.lb, i, none⟩) ncr _).cell1 3 _ rfl) (fun hHeld => ?_)
                    clear c8 z8 kr kc ncr
                    clear hK K
                    (try simp only [Act.put, List.setIfInBounds_toArray, List.set_cons_zero, List.set_cons_succ])
                    refine wpAnyH_done (by kernel_rfl) ?_ _
                    have HPm := FIN9.out _ _ HUN hN
                    clear hN HUN hHeld
                    obtain ⟨w5, hw5⟩ : ∃ W, wN.setCell ⟨R.lb, i, none⟩ (.slice ya yn yc) = W := ⟨_, rfl⟩
                    rw [hw5] at HPm
                    (try rw [hw5])
                    clear hw5
                    go_wp2_with (go_at_call 61; refine HPm.mono ?_; rintro e9 w6 ⟨rfl, hRo⟩)
                    refine bodyPost_ret (v := .tuple #[.int .i64 ((s.P.length : Int) + 1), .int .i64 0]) (by simp [results, Try.results30, go_sem]) rfl ⟨rfl, ?_⟩
                    rw [eN']
                    exact hRo
                  exact AllReadyH.nil
                exact AllReadyH.nil
              exact AllReadyH.nil
            exact AllReadyH.nil
          refine AllReadyH.cons rfl (fun K hK => ?_) ?_
          · have hB : RowQ (wd.alloc (.cells #[.pointer (some ⟨w3.heap.size, 0, none⟩)] 85)) wm.heap.size (.slice (some ⟨wd.heap.size, 0, none⟩) 1 1) [some (w3.heap.size)] := by
              have := row1 wd (b := wm.heap.size) HU0.size (w3.heap.size)
              simpa [cls, pc, pa] using this
            go_simp
            refine hK.out _ _ ((KB.out _ (HU0.alloc (.cells #[.pointer (some ⟨w3.heap.size, 0, none⟩)] 85))).2.cell1 3 _ rfl) (fun hHeld => ?_)
            clear hK K
            (try simp only [Act.put, List.setIfInBounds_toArray, List.set_cons_zero, List.set_cons_succ])
            refine wpAnyH_ready (rs := [5]) (by kernel_rfl) (by simp) ?_
            refine AllReadyH.cons rfl (fun K hK => ?_) ?_
            · have hE : RowQ ((wd.alloc (.cells #[.pointer (some ⟨w3.heap.size, 0, none⟩)] 85)).alloc (.cells #[] 85)) wm.heap.size (.slice (some ⟨wd.heap.size + 1, 0, none⟩) 0 0) [] := by
                have := row0 (wd.alloc (.cells #[.pointer (some ⟨w3.heap.size, 0, none⟩)] 85)) (b := wm.heap.size) (HU0.alloc (.cells #[.pointer (some ⟨w3.heap.size, 0, none⟩)] 85)).size
                simpa [cls] using this
              have hB := row_upd hB ((Upd.refl Non _).alloc (.cells #[] 85)) (fun _ _ e => e)
              go_simp
              refine hK.out _ _ ((KB.out _ ((HU0.alloc (.cells #[.pointer (some ⟨w3.heap.size, 0, none⟩)] 85)).alloc (.cells #[] 85))).2.cell1 3 _ rfl) (fun hHeld => ?_)
              clear hK K
              (try simp only [Act.put, List.setIfInBounds_toArray, List.set_cons_zero, List.set_cons_succ])
              refine wpAnyH_ready (rs := [13]) (by kernel_rfl) (by simp) ?_
              refine AllReadyH.cons rfl (fun K hK => ?_) ?_
              · refine step_append_q (by rfl) _ _ (by rfl) (by rfl) (by rfl) hE ((HU0.alloc (.cells #[.pointer (some ⟨w3.heap.size, 0, none⟩)] 85)).alloc (.cells #[] 85)).size (row_upd HR.out ((HU0.alloc (.cells #[.pointer (some ⟨w3.heap.size, 0, none⟩)] 85)).alloc (.cells #[] 85)) (fun _ _ e => e)) hBND.1 ?_
                intro vA wA hA hUA
                have HUA : Upd Non wm wA := Upd.then ((HU0.alloc (.cells #[.pointer (some ⟨w3.heap.size, 0, none⟩)] 85)).alloc (.cells #[] 85)) hUA (fun a ha hs => absurd (row_blk hE a hs).1 (by omega))
                have hB := row_upd hB hUA (fun a ha ha' => absurd (Option.some.inj (show (some (wd.heap.size) : Option Nat) = some (wd.heap.size + 1) from ha.trans ha'.symm)) (by omega))
                refine hK.out _ _ ((KB.out _ HUA).2.cell1 3 _ rfl) (fun hHeld => ?_)
                clear hUA hE
                clear hK K
                (try simp only [Act.put, List.setIfInBounds_toArray, List.set_cons_zero, List.set_cons_succ])
                refine wpAnyH_ready (rs := [16]) (by kernel_rfl) (by simp) ?_
                refine AllReadyH.cons rfl (fun K hK => ?_) ?_
                · refine step_append_q (by rfl) _ _ (by rfl) (by rfl) (by rfl) hA HUA.size hB hBND.2 ?_
                  intro vN wN hN hUN
                  have HUN : Upd Non wm wN := Upd.then HUA hUN (fun a ha hs => absurd (row_blk hA a hs).1 (by omega))
                  obtain ⟨ya, yc, hy9⟩ := rowq_len hN
                  obtain ⟨yn, hyn⟩ : ∃ x, ([] ++ L0 ++ [some w3.heap.size]).length = x := ⟨_, rfl⟩
                  rw [hyn] at hy9
                  subst hy9
                  refine hK.out _ _ ((KB.out _ HUN).2.cell1 3 _ rfl) (fun hHeld => ?_)
                  clear hUN hA hB
                  clear hK K
                  (try simp only [Act.put, List.setIfInBounds_toArray, List.set_cons_zero, List.set_cons_succ])
                  refine wpAnyH_take (i := 17) (v := ?_) (by simp only [List.getElem?_toArray, List.getElem?_cons_zero, List.getElem?_cons_succ]; rfl) (by kernel_rfl) (by kernel_rfl) (by kernel_rfl) (by intro _ _ _ h; exact h) (Or.inl ⟨by rfl, ?_⟩) (by assumption) ?_
                  rotate_left
                  · intro w hSw; (try dsimp only at hSw); go_simp; (try with_reducible rfl)
                  (try simp only [Act.put, List.setIfInBounds_toArray, List.set_cons_zero, List.set_cons_succ])
                  refine wpAnyH_ready (rs := [18]) (by kernel_rfl) (by simp) ?_
                  refine AllReadyH.cons rfl (fun K hK => ?_) ?_
                  · have kr := (KB.out _ HUN).1
                    have kc := (KB.out _ HUN).2
                    have c8 := kr.cell1 i _ hu
                    have z8 := kr.frozen i
                    have ncr := kc.ne kr (by decide)
                    go_simp
                    refine hK.out _ _ ((kc.other (a := ⟨R.lb, i, none⟩) ncr _).cell1 3 _ rfl) (fun hHeld => ?_)
                    clear c8 z8 kr kc ncr
                    clear hK K
                    (try simp only [Act.put, List.setIfInBounds_toArray, List.set_cons_zero, List.set_cons_succ])
                    refine wpAnyH_done (by kernel_rfl) ?_ _
                    have HPm := FIN9.out _ _ HUN hN
                    clear hN HUN hHeld
                    obtain ⟨w5, hw5⟩ : ∃ W, wN.setCell ⟨R.lb, i, none⟩ (.slice ya yn yc) = W := ⟨_, rfl⟩
                    rw [hw5] at HPm
                    (try rw [hw5])
                    clear hw5
                    go_wp2_with (go_at_call 61; refine HPm.mono ?_; rintro e9 w6 ⟨rfl, hRo⟩)
                    refine bodyPost_ret (v := .tuple #[.int .i64 ((s.P.length : Int) + 1), .int .i64 0]) (by simp [results, Try.results30, go_sem]) rfl ⟨rfl, ?_⟩
                    rw [eN']
                    exact hRo
                  exact AllReadyH.nil
                exact AllReadyH.nil
              exact AllReadyH.nil
            exact AllReadyH.nil
          exact AllReadyH.nil
        refine AllReadyH.cons rfl (fun K hK => ?_) ?_
        · have hB : RowQ (wd.alloc (.cells #[.pointer (some ⟨w3.heap.size, 0, none⟩)] 85)) wm.heap.size (.slice (some ⟨wd.heap.size, 0, none⟩) 1 1) [some (w3.heap.size)] := by
            have := row1 wd (b := wm.heap.size) HU0.size (w3.heap.size)
            simpa [cls, pc, pa] using this
          go_simp
          refine hK.out _ _ ((KB.out _ (HU0.alloc (.cells #[.pointer (some ⟨w3.heap.size, 0, none⟩)] 85))).2.cell1 3 _ rfl) (fun hHeld => ?_)
          clear hK K
          (try simp only [Act.put, List.setIfInBounds_toArray, List.set_cons_zero, List.set_cons_succ])
          refine wpAnyH_ready (rs := [5, 12]) (by kernel_rfl) (by simp) ?_
          refine AllReadyH.cons rfl (fun K hK => ?_) ?_
          · have hE : RowQ ((wd.alloc (.cells #[.pointer (some ⟨w3.heap.size, 0, none⟩)] 85)).alloc (.cells #[] 85)) wm.heap.size (.slice (some ⟨wd.heap.size + 1, 0, none⟩) 0 0) [] := by
              have := row0 (wd.alloc (.cells #[.pointer (some ⟨w3.heap.size, 0, none⟩)] 85)) (b := wm.heap.size) (HU0.alloc (.cells #[.pointer (some ⟨w3.heap.size, 0, none⟩)] 85)).size
              simpa [cls] using this
            have hB := row_upd hB ((Upd.refl Non _).alloc (.cells #[] 85)) (fun _ _ e => e)
            go_simp
            refine hK.out _ _ ((KB.out _ ((HU0.alloc (.cells #[.pointer (some ⟨w3.heap.size, 0, none⟩)] 85)).alloc (.cells #[] 85))).2.cell1 3 _ rfl) (fun hHeld => ?_)
            clear hK K
            (try simp only [Act.put, List.setIfInBounds_toArray, List.set_cons_zero, List.set_cons_succ])
            refine wpAnyH_ready (rs := [12]) (by kernel_rfl) (by simp) ?_
            refine AllReadyH.cons rfl (fun K hK => ?_) ?_
            · have c12 := (KB.out _ ((HU0.alloc (.cells #[.pointer (some ⟨w3.heap.size, 0, none⟩)] 85)).alloc (.cells #[] 85))).1.cell1 i _ hu
              go_simp
              refine hK.out _ _ ((KB.out _ ((HU0.alloc (.cells #[.pointer (some ⟨w3.heap.size, 0, none⟩)] 85)).alloc (.cells #[] 85))).2.cell1 3 _ rfl) (fun hHeld => ?_)
              clear c12
              clear hK K
              (try simp only [Act.put, List.setIfInBounds_toArray, List.set_cons_zero, List.set_cons_succ])
              refine wpAnyH_ready (rs := [13]) (by kernel_rfl) (by simp) ?_
              refine AllReadyH.cons rfl (fun K hK => ?_) ?_
              · refine step_append_q (by rfl) _ _ (by rfl) (by rfl) (by rfl) hE ((HU0.alloc (.cells #[.pointer (some ⟨w3.heap.size, 0, none⟩)] 85)).alloc (.cells #[] 85)).size (row_upd HR.out ((HU0.alloc (.cells #[.pointer (some ⟨w3.heap.size, 0, none⟩)] 85)).alloc (.cells #[] 85)) (fun _ _ e => e)) hBND.1 ?_
                intro vA wA hA hUA
                have HUA : Upd Non wm wA := Upd.then ((HU0.alloc (.cells #[.pointer (some ⟨w3.heap.size, 0, none⟩)] 85)).alloc (.cells #[] 85)) hUA (fun a ha hs => absurd (row_blk hE a hs).1 (by omega))
                have hB := row_upd hB hUA (fun a ha ha' => absurd (Option.some.inj (show (some (wd.heap.size) : Option Nat) = some (wd.heap.size + 1) from ha.trans ha'.symm)) (by omega))
                refine hK.out _ _ ((KB.out _ HUA).2.cell1 3 _ rfl) (fun hHeld => ?_)
                clear hUA hE
                clear hK K
                (try simp only [Act.put, List.setIfInBounds_toArray, List.set_cons_zero, List.set_cons_succ])
                refine wpAnyH_ready (rs := [16]) (by kernel_rfl) (by simp) ?_
                refine AllReadyH.cons rfl (fun K hK => ?_) ?_
                · refine step_append_q (by rfl) _ _ (by rfl) (by rfl) (by rfl) hA HUA.size hB hBND.2 ?_
                  intro vN wN hN hUN
                  have HUN : Upd Non wm wN := Upd.then HUA hUN (fun a ha hs => absurd (row_blk hA a hs).1 (by omega))
                  obtain ⟨ya, yc, hy9⟩ := rowq_len hN
                  obtain ⟨yn, hyn⟩ : ∃ x, ([] ++ L0 ++ [some w3.heap.size]).length = x := ⟨_, rfl⟩
                  rw [hyn] at hy9
                  subst hy9
                  refine hK.out _ _ ((KB.out _ HUN).2.cell1 3 _ rfl) (fun hHeld => ?_)
                  clear hUN hA hB
                  clear hK K
                  (try simp only [Act.put, List.setIfInBounds_toArray, List.set_cons_zero, List.set_cons_succ])
                  refine wpAnyH_take (i := 17) (v := ?_) (by simp only [List.getElem?_toArray, List.getElem?_cons_zero, List.getElem?_cons_succ]; rfl) (by kernel_rfl) (by kernel_rfl) (by kernel_rfl) (by intro _ _ _ h; exact h) (Or.inl ⟨by rfl, ?_⟩) (by assumption) ?_
                  rotate_left
                  · intro w hSw; (try dsimp only at hSw); go_simp; (try with_reducible rfl)
                  (try simp only [Act.put, List.setIfInBounds_toArray, List.set_cons_zero, List.set_cons_succ])
                  refine wpAnyH_ready (rs := [18]) (by kernel_rfl) (by simp) ?_
                  refine AllReadyH.cons rfl (fun K hK => ?_) ?_
                  · have kr := (KB.out _ HUN).1
                    have kc := (KB.out _ HUN).2
                    have c8 := kr.cell1 i _ hu
                    have z8 := kr.frozen i
                    have ncr := kc.ne kr (by decide)
                    go_simp
                    refine hK.out _ _ ((kc.other (a := ⟨R.lb, i, none⟩) ncr _).cell1 3 _ rfl) (fun hHeld => ?_)
                    clear c8 z8 kr kc ncr
                    clear hK K
                    (try simp only [Act.put, List.setIfInBounds_toArray, List.set_cons_zero, List.set_cons_succ])
                    refine wpAnyH_done (by kernel_rfl) ?_ _
                    have HPm := FIN9.out _ _ HUN hN
                    clear hN HUN hHeld
                    obtain ⟨w5, hw5⟩ : ∃ W, wN.setCell ⟨R.lb, i, none⟩ (.slice ya yn yc) = W := ⟨_, rfl⟩
                    rw [hw5] at HPm
                    (try rw [hw5])
                    clear hw5
                    go_wp2_with (go_at_call 61; refine HPm.mono ?_; rintro e9 w6 ⟨rfl, hRo⟩)
                    refine bodyPost_ret (v := .tuple #[.int .i64 ((s.P.length : Int) + 1), .int .i64 0]) (by simp [results, Try.results30, go_sem]) rfl ⟨rfl, ?_⟩
                    rw [eN']
                    exact hRo
                  exact AllReadyH.nil
                exact AllReadyH.nil
              exact AllReadyH.nil
            exact AllReadyH.nil
          refine AllReadyH.cons rfl (fun K hK => ?_) ?_
          · have c12 := (KB.out _ (HU0.alloc (.cells #[.pointer (some ⟨w3.heap.size, 0, none⟩)] 85))).1.cell1 i _ hu
            go_simp
            refine hK.out _ _ ((KB.out _ (HU0.alloc (.cells #[.pointer (some ⟨w3.heap.size, 0, none⟩)] 85))).2.cell1 3 _ rfl) (fun hHeld => ?_)
            clear c12
            clear hK K
            (try simp only [Act.put, List.setIfInBounds_toArray, List.set_cons_zero, List.set_cons_succ])
            refine wpAnyH_ready (rs := [5]) (by kernel_rfl) (by simp) ?_
            refine AllReadyH.cons rfl (fun K hK => ?_) ?_
            · have hE : RowQ ((wd.alloc (.cells #[.pointer (some ⟨w3.heap.size, 0, none⟩)] 85)).alloc (.cells #[] 85)) wm.heap.size (.slice (some ⟨wd.heap.size + 1, 0, none⟩) 0 0) [] := by
                have := row0 (wd.alloc (.cells #[.pointer (some ⟨w3.heap.size, 0, none⟩)] 85)) (b := wm.heap.size) (HU0.alloc (.cells #[.pointer (some ⟨w3.heap.size, 0, none⟩)] 85)).size
                simpa [cls] using this
              have hB := row_upd hB ((Upd.refl Non _).alloc (.cells #[] 85)) (fun _ _ e => e)
              go_simp
              refine hK.out _ _ ((KB.out _ ((HU0.alloc (.cells #[.pointer (some ⟨w3.heap.size, 0, none⟩)] 85)).alloc (.cells #[] 85))).2.cell1 3 _ rfl) (fun hHeld => ?_)
              clear hK K
              (try simp only [Act.put, List.setIfInBounds_toArray, List.set_cons_zero, List.set_cons_succ])
              refine wpAnyH_ready (rs := [13]) (by kernel_rfl) (by simp) ?_
              refine AllReadyH.cons rfl (fun K hK => ?_) ?_
              · refine step_append_q (by rfl) _ _ (by rfl) (by rfl) (by rfl) hE ((HU0.alloc (.cells #[.pointer (some ⟨w3.heap.size, 0, none⟩)] 85)).alloc (.cells #[] 85)).size (row_upd HR.out ((HU0.alloc (.cells #[.pointer (some ⟨w3.heap.size, 0, none⟩)] 85)).alloc (.cells #[] 85)) (fun _ _ e => e)) hBND.1 ?_
                intro vA wA hA hUA
                have HUA : Upd Non wm wA := Upd.then ((HU0.alloc (.cells #[.pointer (some ⟨w3.heap.size, 0, none⟩)] 85)).alloc (.cells #[] 85)) hUA (fun a ha hs => absurd (row_blk hE a hs).1 (by omega))
                have hB := row_upd hB hUA (fun a ha ha' => absurd (Option.some.inj (show (some (wd.heap.size) : Option Nat) = some (wd.heap.size + 1) from ha.trans ha'.symm)) (by omega))
                refine hK.out _ _ ((KB.out _ HUA).2.cell1 3 _ rfl) (fun hHeld => ?_)
                clear hUA hE
                clear hK K
                (try simp only [Act.put, List.setIfInBounds_toArray, List.set_cons_zero, List.set_cons_succ])
                refine wpAnyH_ready (rs := [16]) (by kernel_rfl) (by simp) ?_
                refine AllReadyH.cons rfl (fun K hK => ?_) ?_
                · refine step_append_q (by rfl) _ _ (by rfl) (by rfl) (by rfl) hA HUA.size hB hBND.2 ?_
                  intro vN wN hN hUN
                  have HUN : Upd Non wm wN := Upd.then HUA hUN (fun a ha hs => absurd (row_blk hA a hs).1 (by omega))
                  obtain ⟨ya, yc, hy9⟩ := rowq_len hN
                  obtain ⟨yn, hyn⟩ : ∃ x, ([] ++ L0 ++ [some w3.heap.size]).length = x := ⟨_, rfl⟩
                  rw [hyn] at hy9
                  subst hy9
                  refine hK.out _ _ ((KB.out _ HUN).2.cell1 3 _ rfl) (fun hHeld => ?_)
                  clear hUN hA hB
                  clear hK K
                  (try simp only [Act.put, List.setIfInBounds_toArray, List.set_cons_zero, List.set_cons_succ])
                  refine wpAnyH_take (i := 17) (v := ?_) (by simp only [List.getElem?_toArray, List.getElem?_cons_zero, List.getElem?_cons_succ]; rfl) (by kernel_rfl) (by kernel_rfl) (by kernel_rfl) (by intro _ _ _ h; exact h) (Or.inl ⟨by rfl, ?_⟩) (by assumption) ?_
                  rotate_left
                  · intro w hSw; (try dsimp only at hSw); go_simp; (try with_reducible rfl)
                  (try simp only [Act.put, List.setIfInBounds_toArray, List.set_cons_zero, List.set_cons_succ])
                  refine wpAnyH_ready (rs := [18]) (by kernel_rfl) (by simp) ?_
                  refine AllReadyH.cons rfl (fun K hK => ?_) ?_
                  · have kr := (KB.out _ HUN).1
                    have kc := (KB.out _ HUN).2
                    have c8 := kr.cell1 i _ hu
                    have z8 := kr.frozen i
                    have ncr := kc.ne kr (by decide)
                    go_simp
                    refine hK.out _ _ ((kc.other (a := ⟨R.lb, i, none⟩) ncr _).cell1 3 _ rfl) (fun hHeld => ?_)
                    clear c8 z8 kr kc ncr
                    clear hK K
                    (try simp only [Act.put, List.setIfInBounds_toArray, List.set_cons_zero, List.set_cons_succ])
                    refine wpAnyH_done (by kernel_rfl) ?_ _
                    have HPm := FIN9.out _ _ HUN hN
                    clear hN HUN hHeld
                    obtain ⟨w5, hw5⟩ : ∃ W, wN.setCell ⟨R.lb, i, none⟩ (.slice ya yn yc) = W := ⟨_, rfl⟩
                    rw [hw5] at HPm
                    (try rw [hw5])
                    clear hw5
                    go_wp2_with (go_at_call 61; refine HPm.mono ?_; rintro e9 w6 ⟨rfl, hRo⟩)
                    refine bodyPost_ret (v := .tuple #[.int .i64 ((s.P.length : Int) + 1), .int .i64 0]) (by simp [results, Try.results30, go_sem]) rfl ⟨rfl, ?_⟩
                    rw [eN']
                    exact hRo
                  exact AllReadyH.nil
                exact AllReadyH.nil
              exact AllReadyH.nil
            exact AllReadyH.nil
          exact AllReadyH.nil
        exact AllReadyH.nil
    | true =>
      cases hex : excX x1 ch r' with
      | true =>
        rw [if_pos (by rw [hst, hex]; rfl)] at eP
        rw [eP]
        clear eP
        go_enter Try.func30, Try.ntmps30
        go_wp2_with (first | (go_at_call 12; refine HS.mono ?_; rintro e' w0 ⟨rfl, hw⟩; have hw' := hw.symm; subst hw') | (go_at_call 56; refine HM.mono ?_; rintro e' w1 ⟨rfl, F1, U1⟩))
        have c2 := F1.blk.cell1 2 _ rfl
        have c1 := F1.blk.cell1 1 _ rfl
        have c0 := F1.blk.cell1 0 _ rfl
        rw [hst] at c2
        have F1' : Hid _ := F1
        have U1' : Hid _ := U1
        have HU : ∀ m, Calls Try.prog 58 #[.pointer (some ⟨R.cb, 0, none⟩), .int .i64 i] (w1.drewN m) fun e w' => e = .returned (.int .u64 (satS v1.ent v1.ll)) ∧ w' = w1.drewN m := fun m => used_any (F1.drewN m) hv1 hch1 n2 hb1
        have HPl : ∀ m, Calls Try.prog 57 #[.int .u64 (satS v1.ent v1.ll), .int .u64 ch] (w1.drewN m) fun e w' => e = .returned (.int .u64 (plusT (satS v1.ent v1.ll) ch)) ∧ w' = w1.drewN m := fun m => rplus_any _ _ _ (satS_lt _ _) hc
        generalize satS v1.ent v1.ll = SU at *
        generalize plusT SU ch = PU at *
        have hlt : (r' : Int) < (PU : Int) := by
          rw [hexc0] at hex
          have := of_decide_eq_true hex
          omega
        clear hexc0 hex
        clear F1 U1
        go_quiet ((first | (go_at_call 58; exact Calls.quiet_of_same (HU _)) | (go_at_call 57; exact Calls.quiet_of_same (HPl _))))
        clear c0 c1 c2 HU HPl
        go_wp2_with fail
        refine bodyPost_ret (v := .tuple #[.int .i64 0, .int .i64 110]) (by simp [results, Try.results30, go_sem]) rfl ⟨rfl, ?_⟩
        exact FINA.out _ (F1'.out.drewN _) (U1'.out.trans (hU0 _ _))
      | false =>
        have hnot : ¬ (s.st && excX x1 ch r') = true := by rw [hst, hex]; simp
        rw [if_neg hnot] at eP
        rw [eP]
        clear eP hnot
        cases hf : x1.f k.data.toList with
        | none =>
          go_enter Try.func30, Try.ntmps30
          go_wp2_with (first | (go_at_call 12; refine HS.mono ?_; rintro e' w0 ⟨rfl, hw⟩; have hw' := hw.symm; subst hw') | (go_at_call 56; refine HM.mono ?_; rintro e' w1 ⟨rfl, F1, U1⟩))
          have c2 := F1.blk.cell1 2 _ rfl
          have c1 := F1.blk.cell1 1 _ rfl
          have c0 := F1.blk.cell1 0 _ rfl
          rw [hst] at c2
          have F1' : Hid _ := F1
          have U1' : Hid _ := U1
          have HU : ∀ m, Calls Try.prog 58 #[.pointer (some ⟨R.cb, 0, none⟩), .int .i64 i] (w1.drewN m) fun e w' => e = .returned (.int .u64 (satS v1.ent v1.ll)) ∧ w' = w1.drewN m := fun m => used_any (F1.drewN m) hv1 hch1 n2 hb1
          have HPl : ∀ m, Calls Try.prog 57 #[.int .u64 (satS v1.ent v1.ll), .int .u64 ch] (w1.drewN m) fun e w' => e = .returned (.int .u64 (plusT (satS v1.ent v1.ll) ch)) ∧ w' = w1.drewN m := fun m => rplus_any _ _ _ (satS_lt _ _) hc
          generalize satS v1.ent v1.ll = SU at *
          generalize plusT SU ch = PU at *
          have hlt : ¬ (r' : Int) < (PU : Int) := by
            rw [hexc0] at hex
            have := of_decide_eq_false hex
            omega
          clear hexc0 hex
          clear F1 U1
          go_quiet ((first | (go_at_call 58; exact Calls.quiet_of_same (HU _)) | (go_at_call 57; exact Calls.quiet_of_same (HPl _))))
          clear c0 c1 c2 HU HPl
          rw [hf] at hff
          have HFm := find_any (F1'.out.drewN nq) n1 n2 hk (v := v1) (by rw [hi0'.out]; exact hv1) hb1
          rw [hi0'.out, hff] at HFm
          go_wp2_with (go_at_call 59; refine HFm.mono ?_; rintro e' w3 ⟨rfl, mm, hw3⟩; have F2 : Rf w3 R n room s.st (vs.set i v1) pv s.P := (by rw [hw3]; exact (F1'.out.drewN _).drewN _); have U2 : Upd (Rb R vs pv) w w3 := (by rw [hw3]; exact (U1'.out.trans (hU0 _ _)).trans (hU0 _ _)); clear hw3 F1' U1'; have F2' : Hid _ := F2; have U2' : Hid _ := U2; clear F2 U2)
          have F3 := F2'.out
          have U3 := U2'.out
          clear F2' U2'
          have eN' := eN.out (x1) rfl
          obtain ⟨wm, hwm⟩ : ∃ W, W = w3.alloc (.cells #[.string k, .int .u64 z, .int .u64 ch, .bool true, .int .i64 0] 84) := ⟨_, rfl⟩
          obtain ⟨lc, la, nL, lcp, L0, hu, KB0, hL0, hLn, FIN0⟩ := TL.out (x1) (v1) w3 wm (by rw [hf]) V1'.out rfl hb1 F3 U3 hwm
          (try rw [hn] at KB0)
          have KB : Hid _ := KB0
          have FIN9 : Hid _ := FIN0
          have HR : Hid _ := hL0
          have hBND : ([] : List (Option Nat)).length + L0.length ≤ 8000000000001 ∧ ([] ++ L0).length + [some w3.heap.size].length ≤ 8000000000001 := by simp; omega
          clear KB0 FIN0 hL0 F3 U3 TL eN FINA
          rw [← hwm]
          clear hwm
          have HU0 : Upd Non wm wm.drew := (Upd.refl Non wm).drew
          refine wp_region_held_drew (S := fun W => W.cell? ⟨R.cb, 3, none⟩ = some (.slice (some ⟨R.lb, 0, none⟩) n n)) (by kernel_rfl) ?_ (fun hHeld => ?_)
          · (try dsimp only); exact (KB.out _ (Upd.refl Non wm)).2.cell1 3 _ rfl
          generalize wm.drew = wd at *
          refine wpAnyH_take (i := 0) (v := ?_) (by simp only [List.getElem?_toArray, List.getElem?_cons_zero, List.getElem?_cons_succ]; rfl) (by kernel_rfl) (by kernel_rfl) (by kernel_rfl) (by intro _ _ _ h; exact h) (Or.inl ⟨by rfl, ?_⟩) (by assumption) ?_
          rotate_left
          · intro w hSw; (try dsimp only at hSw); go_simp; (try with_reducible rfl)
          (try simp only [Act.put, List.setIfInBounds_toArray, List.set_cons_zero, List.set_cons_succ])
          refine wpAnyH_take (i := 1) (v := ?_) (by simp only [List.getElem?_toArray, List.getElem?_cons_zero, List.getElem?_cons_succ]; rfl) (by kernel_rfl) (by kernel_rfl) (by kernel_rfl) (by intro _ _ _ h; exact h) (Or.inl ⟨by rfl, ?_⟩) (by assumption) ?_
          rotate_left
          · intro w hSw; (try dsimp only at hSw); go_simp; (try with_reducible rfl)
          (try simp only [Act.put, List.setIfInBounds_toArray, List.set_cons_zero, List.set_cons_succ])
          refine wpAnyH_take (i := 2) (v := ?_) (by simp only [List.getElem?_toArray, List.getElem?_cons_zero, List.getElem?_cons_succ]; rfl) (by kernel_rfl) (by kernel_rfl) (by kernel_rfl) (by intro _ _ _ h; exact h) (Or.inl ⟨by rfl, ?_⟩) (by assumption) ?_
          rotate_left
          · intro w hSw; (try dsimp only at hSw); go_simp; (try with_reducible rfl)
          (try simp only [Act.put, List.setIfInBounds_toArray, List.set_cons_zero, List.set_cons_succ])
          refine wpAnyH_take (i := 3) (v := ?_) (by simp only [List.getElem?_toArray, List.getElem?_cons_zero, List.getElem?_cons_succ]; rfl) (by kernel_rfl) (by kernel_rfl) (by kernel_rfl) (by intro _ _ _ h; exact h) (Or.inl ⟨by rfl, ?_⟩) (by assumption) ?_
          rotate_left
          · intro w hSw; (try dsimp only at hSw); go_simp; (try with_reducible rfl)
          (try simp only [Act.put, List.setIfInBounds_toArray, List.set_cons_zero, List.set_cons_succ])
          refine wpAnyH_take (i := 4) (v := ?_) (by simp only [List.getElem?_toArray, List.getElem?_cons_zero, List.getElem?_cons_succ]; rfl) (by kernel_rfl) (by kernel_rfl) (by kernel_rfl) (by intro _ _ _ h; exact h) (Or.inl ⟨by rfl, ?_⟩) (by assumption) ?_
          rotate_left
          · intro w hSw; (try dsimp only at hSw); go_simp; (try with_reducible rfl)
          (try simp only [Act.put, List.setIfInBounds_toArray, List.set_cons_zero, List.set_cons_succ])
          refine wpAnyH_take (i := 6) (v := ?_) (by simp only [List.getElem?_toArray, List.getElem?_cons_zero, List.getElem?_cons_succ]; rfl) (by kernel_rfl) (by kernel_rfl) (by kernel_rfl) (by intro _ _ _ h; exact h) (Or.inl ⟨by rfl, ?_⟩) (by assumption) ?_
          rotate_left
          · intro w hSw; (try dsimp only at hSw); go_simp; (try with_reducible rfl)
          (try simp only [Act.put, List.setIfInBounds_toArray, List.set_cons_zero, List.set_cons_succ])
          refine wpAnyH_take (i := 7) (v := ?_) (by simp only [List.getElem?_toArray, List.getElem?_cons_zero, List.getElem?_cons_succ]; rfl) (by kernel_rfl) (by kernel_rfl) (by kernel_rfl) (by intro _ _ _ h; exact h) (Or.inl ⟨by rfl, ?_⟩) (by assumption) ?_
          rotate_left
          · intro w hSw; (try dsimp only at hSw); go_simp; (try with_reducible rfl)
          (try simp only [Act.put, List.setIfInBounds_toArray, List.set_cons_zero, List.set_cons_succ])
          refine wpAnyH_take (i := 8) (v := ?_) (by simp only [List.getElem?_toArray, List.getElem?_cons_zero, List.getElem?_cons_succ]; rfl) (by kernel_rfl) (by kernel_rfl) (by kernel_rfl) (by intro _ _ _ h; exact h) (Or.inl ⟨by rfl, ?_⟩) (by assumption) ?_
          rotate_left
          · intro w hSw; (try dsimp only at hSw); go_simp; (try with_reducible rfl)
          (try simp only [Act.put, List.setIfInBounds_toArray, List.set_cons_zero, List.set_cons_succ])
          refine wpAnyH_take (i := 9) (v := ?_) (by simp only [List.getElem?_toArray, List.getElem?_cons_zero, List.getElem?_cons_succ]; rfl) (by kernel_rfl) (by kernel_rfl) (by kernel_rfl) (by intro _ _ _ h; exact h) (Or.inl ⟨by rfl, ?_⟩) (by assumption) ?_
          rotate_left
          · intro w hSw; (try dsimp only at hSw); go_simp; (try with_reducible rfl)
          (try simp only [Act.put, List.setIfInBounds_toArray, List.set_cons_zero, List.set_cons_succ])
          refine wpAnyH_take (i := 10) (v := ?_) (by simp only [List.getElem?_toArray, List.getElem?_cons_zero, List.getElem?_cons_succ]; rfl) (by kernel_rfl) (by kernel_rfl) (by kernel_rfl) (by intro _ _ _ h; exact h) (Or.inl ⟨by rfl, ?_⟩) (by assumption) ?_
          rotate_left
          · intro w hSw; (try dsimp only at hSw); go_simp; (try with_reducible rfl)
          (try simp only [Act.put, List.setIfInBounds_toArray, List.set_cons_zero, List.set_cons_succ])
          refine wpAnyH_take (i := 11) (v := ?_) (by simp only [List.getElem?_toArray, List.getElem?_cons_zero, List.getElem?_cons_succ]; rfl) (by kernel_rfl) (by kernel_rfl) (by kernel_rfl) (by intro _ _ _ h; exact h) (Or.inl ⟨by rfl, ?_⟩) (by assumption) ?_
          rotate_left
          · intro w hSw; (try dsimp only at hSw); go_simp; (try with_reducible rfl)
          (try simp only [Act.put, List.setIfInBounds_toArray, List.set_cons_zero, List.set_cons_succ])
          refine wpAnyH_take (i := 14) (v := ?_) (by simp only [List.getElem?_toArray, List.getElem?_cons_zero, List.getElem?_cons_succ]; rfl) (by kernel_rfl) (by kernel_rfl) (by kernel_rfl) (by intro _ _ _ h; exact h) (Or.inl ⟨by rfl, ?_⟩) (by assumption) ?_
          rotate_left
          · intro w hSw; (try dsimp only at hSw); go_simp; (try with_reducible rfl)
          (try simp only [Act.put, List.setIfInBounds_toArray, List.set_cons_zero, List.set_cons_succ])
          refine wpAnyH_ready (rs := [5, 12, 15]) (by kernel_rfl) (by simp) ?_
          refine AllReadyH.cons rfl (fun K hK => ?_) ?_
          · have hE : RowQ (wd.alloc (.cells #[] 85)) wm.heap.size (.slice (some ⟨wd.heap.size, 0, none⟩) 0 0) [] := by
              have := row0 wd (b := wm.heap.size) HU0.size
              simpa [cls] using this
            go_simp
            refine hK.out _ _ ((KB.out _ (HU0.alloc (.cells #[] 85))).2.cell1 3 _ rfl) (fun hHeld => ?_)
            clear hK K
            (try simp only [Act.put, List.setIfInBounds_toArray, List.set_cons_zero, List.set_cons_succ])
            refine wpAnyH_ready (rs := [12, 15]) (by kernel_rfl) (by simp) ?_
            refine AllReadyH.cons rfl (fun K hK => ?_) ?_
            · have c12 := (KB.out _ (HU0.alloc (.cells #[] 85))).1.cell1 i _ hu
              go_simp
              refine hK.out _ _ ((KB.out _ (HU0.alloc (.cells #[] 85))).2.cell1 3 _ rfl) (fun hHeld => ?_)
              clear c12
              clear hK K
              (try simp only [Act.put, List.setIfInBounds_toArray, List.set_cons_zero, List.set_cons_succ])
              refine wpAnyH_ready (rs := [13, 15]) (by kernel_rfl) (by simp) ?_
              refine AllReadyH.cons rfl (fun K hK => ?_) ?_
              · refine step_append_q (by rfl) _ _ (by rfl) (by rfl) (by rfl) hE (HU0.alloc (.cells #[] 85)).size (row_upd HR.out (HU0.alloc (.cells #[] 85)) (fun _ _ e => e)) hBND.1 ?_
                intro vA wA hA hUA
                have HUA : Upd Non wm wA := Upd.then (HU0.alloc (.cells #[] 85)) hUA (fun a ha hs => absurd (row_blk hE a hs).1 (by omega))
                refine hK.out _ _ ((KB.out _ HUA).2.cell1 3 _ rfl) (fun hHeld => ?_)
                clear hUA hE
                clear hK K
                (try simp only [Act.put, List.setIfInBounds_toArray, List.set_cons_zero, List.set_cons_succ])
                refine wpAnyH_ready (rs := [15]) (by kernel_rfl) (by simp) ?_
                refine AllReadyH.cons rfl (fun K hK => ?_) ?_
                · have hB : RowQ (wA.alloc (.cells #[.pointer (some ⟨w3.heap.size, 0, none⟩)] 85)) wm.heap.size (.slice (some ⟨wA.heap.size, 0, none⟩) 1 1) [some (w3.heap.size)] := by
                    have := row1 wA (b := wm.heap.size) HUA.size (w3.heap.size)
                    simpa [cls, pc, pa] using this
                  have hA := row_upd hA ((Upd.refl Non _).alloc (.cells #[.pointer (some ⟨w3.heap.size, 0, none⟩)] 85)) (fun _ _ e => e)
                  go_simp
                  refine hK.out _ _ ((KB.out _ (HUA.alloc (.cells #[.pointer (some ⟨w3.heap.size, 0, none⟩)] 85))).2.cell1 3 _ rfl) (fun hHeld => ?_)
                  clear hK K
                  (try simp only [Act.put, List.setIfInBounds_toArray, List.set_cons_zero, List.set_cons_succ])
                  refine wpAnyH_ready (rs := [16]) (by kernel_rfl) (by simp) ?_
                  refine AllReadyH.cons rfl (fun K hK => ?_) ?_
                  · refine step_append_q (by rfl) _ _ (by rfl) (by rfl) (by rfl) hA (HUA.alloc (.cells #[.pointer (some ⟨w3.heap.size, 0, none⟩)] 85)).size hB hBND.2 ?_
                    intro vN wN hN hUN
                    have HUN : Upd Non wm wN := Upd.then (HUA.alloc (.cells #[.pointer (some ⟨w3.heap.size, 0, none⟩)] 85)) hUN (fun a ha hs => absurd (row_blk hA a hs).1 (by omega))
                    obtain ⟨ya, yc, hy9⟩ := rowq_len hN
                    obtain ⟨yn, hyn⟩ : ∃ x, ([] ++ L0 ++ [some w3.heap.size]).length = x := ⟨_, rfl⟩
                    rw [hyn] at hy9
                    subst hy9
                    refine hK.out _ _ ((KB.out _ HUN).2.cell1 3 _ rfl) (fun hHeld => ?_)
                    clear hUN hA hB
                    clear hK K
                    (try simp only [Act.put, List.setIfInBounds_toArray, List.set_cons_zero, List.set_cons_succ])
                    refine wpAnyH_take (i := 17) (v := ?_) (by simp only [List.getElem?_toArray, List.getElem?_cons_zero, List.getElem?_cons_succ]; rfl) (by kernel_rfl) (by kernel_rfl) (by kernel_rfl) (by intro _ _ _ h; exact h) (Or.inl ⟨by rfl, ?_⟩) (by assumption) ?_
                    rotate_left
                    · intro w hSw; (try dsimp only at hSw); go_simp; (try with_reducible rfl)
                    (try simp only [Act.put, List.setIfInBounds_toArray, List.set_cons_zero, List.set_cons_succ])
                    refine wpAnyH_ready (rs := [18]) (by kernel_rfl) (by simp) ?_
                    refine AllReadyH.cons rfl (fun K hK => ?_) ?_
                    · have kr := (KB.out _ HUN).1
                      have kc := (KB.out _ HUN).2
                      have c8 := kr.cell1 i _ hu
                      have z8 := kr.frozen i
                      have ncr := kc.ne kr (by decide)
                      go_simp
                      refine hK.out _ _ ((kc.other (a := ⟨R.lb, i, none⟩) ncr _).cell1 3 _ rfl) (fun hHeld => ?_)
                      clear c8 z8 kr kc ncr
                      clear hK K
                      (try simp only [Act.put, List.setIfInBounds_toArray, List.set_cons_zero, List.set_cons_succ])
                      refine wpAnyH_done (by kernel_rfl) ?_ _
                      have HPm := FIN9.out _ _ HUN hN
                      clear hN HUN hHeld
                      obtain ⟨w5, hw5⟩ : ∃ W, wN.setCell ⟨R.lb, i, none⟩ (.slice ya yn yc) = W := ⟨_, rfl⟩
                      rw [hw5] at HPm
                      (try rw [hw5])
                      clear hw5
                      go_wp2_with (go_at_call 61; refine HPm.mono ?_; rintro e9 w6 ⟨rfl, hRo⟩)
                      refine bodyPost_ret (v := .tuple #[.int .i64 ((s.P.length : Int) + 1), .int .i64 0]) (by simp [results, Try.results30, go_sem]) rfl ⟨rfl, ?_⟩
                      rw [eN']
                      exact hRo
                    exact AllReadyH.nil
                  exact AllReadyH.nil
                exact AllReadyH.nil
              refine AllReadyH.cons rfl (fun K hK => ?_) ?_
              · have hB : RowQ ((wd.alloc (.cells #[] 85)).alloc (.cells #[.pointer (some ⟨w3.heap.size, 0, none⟩)] 85)) wm.heap.size (.slice (some ⟨wd.heap.size + 1, 0, none⟩) 1 1) [some (w3.heap.size)] := by
                  have := row1 (wd.alloc (.cells #[] 85)) (b := wm.heap.size) (HU0.alloc (.cells #[] 85)).size (w3.heap.size)
                  simpa [cls, pc, pa] using this
                have hE := row_upd hE ((Upd.refl Non _).alloc (.cells #[.pointer (some ⟨w3.heap.size, 0, none⟩)] 85)) (fun _ _ e => e)
                go_simp
                refine hK.out _ _ ((KB.out _ ((HU0.alloc (.cells #[] 85)).alloc (.cells #[.pointer (some ⟨w3.heap.size, 0, none⟩)] 85))).2.cell1 3 _ rfl) (fun hHeld => ?_)
                clear hK K
                (try simp only [Act.put, List.setIfInBounds_toArray, List.set_cons_zero, List.set_cons_succ])
                refine wpAnyH_ready (rs := [13]) (by kernel_rfl) (by simp) ?_
                refine AllReadyH.cons rfl (fun K hK => ?_) ?_
                · refine step_append_q (by rfl) _ _ (by rfl) (by rfl) (by rfl) hE ((HU0.alloc (.cells #[] 85)).alloc (.cells #[.pointer (some ⟨w3.heap.size, 0, none⟩)] 85)).size (row_upd HR.out ((HU0.alloc (.cells #[] 85)).alloc (.cells #[.pointer (some ⟨w3.heap.size, 0, none⟩)] 85)) (fun _ _ e => e)) hBND.1 ?_
                  intro vA wA hA hUA
                  have HUA : Upd Non wm wA := Upd.then ((HU0.alloc (.cells #[] 85)).alloc (.cells #[.pointer (some ⟨w3.heap.size, 0, none⟩)] 85)) hUA (fun a ha hs => absurd (row_blk hE a hs).1 (by omega))
                  have hB := row_upd hB hUA (fun a ha ha' => absurd (Option.some.inj (show (some (wd.heap.size + 1) : Option Nat) = some (wd.heap.size) from ha.trans ha'.symm)) (by omega))
                  refine hK.out _ _ ((KB.out _ HUA).2.cell1 3 _ rfl) (fun hHeld => ?_)
                  clear hUA hE
                  clear hK K
                  (try simp only [Act.put, List.setIfInBounds_toArray, List.set_cons_zero, List.set_cons_succ])
                  refine wpAnyH_ready (rs := [16]) (by kernel_rfl) (by simp) ?_
                  refine AllReadyH.cons rfl (fun K hK => ?_) ?_
                  · refine step_append_q (by rfl) _ _ (by rfl) (by rfl) (by rfl) hA HUA.size hB hBND.2 ?_
                    intro vN wN hN hUN
                    have HUN : Upd Non wm wN := Upd.then HUA hUN (fun a ha hs => absurd (row_blk hA a hs).1 (by omega))
                    obtain ⟨ya, yc, hy9⟩ := rowq_len hN
                    obtain ⟨yn, hyn⟩ : ∃ x, ([] ++ L0 ++ [some w3.heap.size]).length = x := ⟨_, rfl⟩
                    rw [hyn] at hy9
                    subst hy9
                    refine hK.out _ _ ((KB.out _ HUN).2.cell1 3 _ rfl) (fun hHeld => ?_)
                    clear hUN hA hB
                    clear hK K
                    (try simp only [Act.put, List.setIfInBounds_toArray, List.set_cons_zero, List.set_cons_succ])
                    refine wpAnyH_take (i := 17) (v := ?_) (by simp only [List.getElem?_toArray, List.getElem?_cons_zero, List.getElem?_cons_succ]; rfl) (by kernel_rfl) (by kernel_rfl) (by kernel_rfl) (by intro _ _ _ h; exact h) (Or.inl ⟨by rfl, ?_⟩) (by assumption) ?_
                    rotate_left
                    · intro w hSw; (try dsimp only at hSw); go_simp; (try with_reducible rfl)
                    (try simp only [Act.put, List.setIfInBounds_toArray, List.set_cons_zero, List.set_cons_succ])
                    refine wpAnyH_ready (rs := [18]) (by kernel_rfl) (by simp) ?_
                    refine AllReadyH.cons rfl (fun K hK => ?_) ?_
                    · have kr := (KB.out _ HUN).1
                      have kc := (KB.out _ HUN).2
                      have c8 := kr.cell1 i _ hu
                      have z8 := kr.frozen i
                      have ncr := kc.ne kr (by decide)
                      go_simp
                      refine hK.out _ _ ((kc.other (a := ⟨R.lb, i, none⟩) ncr _).cell1 3 _ rfl) (fun hHeld => ?_)
                      clear c8 z8 kr kc ncr
                      clear hK K
                      (try simp only [Act.put, List.setIfInBounds_toArray, List.set_cons_zero, List.set_cons_succ])
                      refine wpAnyH_done (by kernel_rfl) ?_ _
                      have HPm := FIN9.out _ _ HUN hN
                      clear hN HUN hHeld
                      obtain ⟨w5, hw5⟩ : ∃ W, wN.setCell ⟨R.lb, i, none⟩ (.slice ya yn yc) = W := ⟨_, rfl⟩
                      rw [hw5] at HPm
                      (try rw [hw5])
                      clear hw5
                      go_wp2_with (go_at_call 61; refine HPm.mono ?_; rintro e9 w6 ⟨rfl, hRo⟩)
                      refine bodyPost_ret (v := .tuple #[.int .i64 ((s.P.length : Int) + 1), .int .i64 0]) (by simp [results, Try.results30, go_sem]) rfl ⟨rfl, ?_⟩
                      rw [eN']
                      exact hRo
                    exact AllReadyH.nil
                  exact AllReadyH.nil
                exact AllReadyH.nil
              exact AllReadyH.nil
            refine AllReadyH.cons rfl (fun K hK => ?_) ?_
            · have hB : RowQ ((wd.alloc (.cells #[] 85)).alloc (.cells #[.pointer (some ⟨w3.heap.size, 0, none⟩)] 85)) wm.heap.size (.slice (some ⟨wd.heap.size + 1, 0, none⟩) 1 1) [some (w3.heap.size)] := by
                have := row1 (wd.alloc (.cells #[] 85)) (b := wm.heap.size) (HU0.alloc (.cells #[] 85)).size (w3.heap.size)
                simpa [cls, pc, pa] using this
              have hE := row_upd hE ((Upd.refl Non _).alloc (.cells #[.pointer (some ⟨w3.heap.size, 0, none⟩)] 85)) (fun _ _ e => e)
              go_simp
              refine hK.out _ _ ((KB.out _ ((HU0.alloc (.cells #[] 85)).alloc (.cells #[.pointer (some ⟨w3.heap.size, 0, none⟩)] 85))).2.cell1 3 _ rfl) (fun hHeld => ?_)
              clear hK K
              (try simp only [Act.put, List.setIfInBounds_toArray, List.set_cons_zero, List.set_cons_succ])
              refine wpAnyH_ready (rs := [12]) (by kernel_rfl) (by simp) ?_
              refine AllReadyH.cons rfl (fun K hK => ?_) ?_
              · have c12 := (KB.out _ ((HU0.alloc (.cells #[] 85)).alloc (.cells #[.pointer (some ⟨w3.heap.size, 0, none⟩)] 85))).1.cell1 i _ hu
                go_simp
                refine hK.out _ _ ((KB.out _ ((HU0.alloc (.cells #[] 85)).alloc (.cells #[.pointer (some ⟨w3.heap.size, 0, none⟩)] 85))).2.cell1 3 _ rfl) (fun hHeld => ?_)
                clear c12
                clear hK K
                (try simp only [Act.put, List.setIfInBounds_toArray, List.set_cons_zero, List.set_cons_succ])
                refine wpAnyH_ready (rs := [13]) (by kernel_rfl) (by simp) ?_
                refine AllReadyH.cons rfl (fun K hK => ?_) ?_
                · refine step_append_q (by rfl) _ _ (by rfl) (by rfl) (by rfl) hE ((HU0.alloc (.cells #[] 85)).alloc (.cells #[.pointer (some ⟨w3.heap.size, 0, none⟩)] 85)).size (row_upd HR.out ((HU0.alloc (.cells #[] 85)).alloc (.cells #[.pointer (some ⟨w3.heap.size, 0, none⟩)] 85)) (fun _ _ e => e)) hBND.1 ?_
                  intro vA wA hA hUA
                  have HUA : Upd Non wm wA := Upd.then ((HU0.alloc (.cells #[] 85)).alloc (.cells #[.pointer (some ⟨w3.heap.size, 0, none⟩)] 85)) hUA (fun a ha hs => absurd (row_blk hE a hs).1 (by omega))
                  have hB := row_upd hB hUA (fun a ha ha' => absurd (Option.some.inj (show (some (wd.heap.size + 1) : Option Nat) = some (wd.heap.size) from ha.trans ha'.symm)) (by omega))
                  refine hK.out _ _ ((KB.out _ HUA).2.cell1 3 _ rfl) (fun hHeld => ?_)
                  clear hUA hE
                  clear hK K
                  (try simp only [Act.put, List.setIfInBounds_toArray, List.set_cons_zero, List.set_cons_succ])
                  refine wpAnyH_ready (rs := [16]) (by kernel_rfl) (by simp) ?_
                  refine AllReadyH.cons rfl (fun K hK => ?_) ?_
                  · refine step_append_q (by rfl) _ _ (by rfl) (by rfl) (by rfl) hA HUA.size hB hBND.2 ?_
                    intro vN wN hN hUN
                    have HUN : Upd Non wm wN := Upd.then HUA hUN (fun a ha hs => absurd (row_blk hA a hs).1 (by omega))
                    obtain ⟨ya, yc, hy9⟩ := rowq_len hN
                    obtain ⟨yn, hyn⟩ : ∃ x, ([] ++ L0 ++ [some w3.heap.size]).length = x := ⟨_, rfl⟩
                    rw [hyn] at hy9
                    subst hy9
                    refine hK.out _ _ ((KB.out _ HUN).2.cell1 3 _ rfl) (fun hHeld => ?_)
                    clear hUN hA hB
                    clear hK K
                    (try simp only [Act.put, List.setIfInBounds_toArray, List.set_cons_zero, List.set_cons_succ])
                    refine wpAnyH_take (i := 17) (v := ?_) (by simp only [List.getElem?_toArray, List.getElem?_cons_zero, List.getElem?_cons_succ]; rfl) (by kernel_rfl) (by kernel_rfl) (by kernel_rfl) (by intro _ _ _ h; exact h) (Or.inl ⟨by rfl, ?_⟩) (by assumption) ?_
                    rotate_left
                    · intro w hSw; (try dsimp only at hSw); go_simp; (try with_reducible rfl)
                    (try simp only [Act.put, List.setIfInBounds_toArray, List.set_cons_zero, List.set_cons_succ])
                    refine wpAnyH_ready (rs := [18]) (by kernel_rfl) (by simp) ?_
                    refine AllReadyH.cons rfl (fun K hK => ?_) ?_
                    · have kr := (KB.out _ HUN).1
                      have kc := (KB.out _ HUN).2
                      have c8 := kr.cell1 i _ hu
                      have z8 := kr.frozen i
                      have ncr := kc.ne kr (by decide)
                      go_simp
                      refine hK.out _ _ ((kc.other (a := ⟨R.lb, i, none⟩) ncr _).cell1 3 _ rfl) (fun hHeld => ?_)
                      clear c8 z8 kr kc ncr
                      clear hK K
                      (try simp only [Act.put, List.setIfInBounds_toArray, List.set_cons_zero, List.set_cons_succ])
                      refine wpAnyH_done (by kernel_rfl) ?_ _
                      have HPm := FIN9.out _ _ HUN hN
                      clear hN HUN hHeld
                      obtain ⟨w5, hw5⟩ : ∃ W, wN.setCell ⟨R.lb, i, none⟩ (.slice ya yn yc) = W := ⟨_, rfl⟩
                      rw [hw5] at HPm
                      (try rw [hw5])
                      clear hw5
                      go_wp2_with (go_at_call 61; refine HPm.mono ?_; rintro e9 w6 ⟨rfl, hRo⟩)
                      refine bodyPost_ret (v := .tuple #[.int .i64 ((s.P.length : Int) + 1), .int .i64 0]) (by simp [results, Try.results30, go_sem]) rfl ⟨rfl, ?_⟩
                      rw [eN']
                      exact hRo
                    exact AllReadyH.nil
                  exact AllReadyH.nil
                exact AllReadyH.nil
              exact AllReadyH.nil
            exact AllReadyH.nil
          refine AllReadyH.cons rfl (fun K hK => ?_) ?_
          · have c12 := (KB.out _ HU0).1.cell1 i _ hu
            go_simp
            refine hK.out _ _ ((KB.out _ HU0).2.cell1 3 _ rfl) (fun hHeld => ?_)
            clear c12
            clear hK K
            (try simp only [Act.put, List.setIfInBounds_toArray, List.set_cons_zero, List.set_cons_succ])
            refine wpAnyH_ready (rs := [5, 15]) (by kernel_rfl) (by simp) ?_
            refine AllReadyH.cons rfl (fun K hK => ?_) ?_
            · have hE : RowQ (wd.alloc (.cells #[] 85)) wm.heap.size (.slice (some ⟨wd.heap.size, 0, none⟩) 0 0) [] := by
                have := row0 wd (b := wm.heap.size) HU0.size
                simpa [cls] using this
              go_simp
              refine hK.out _ _ ((KB.out _ (HU0.alloc (.cells #[] 85))).2.cell1 3 _ rfl) (fun hHeld => ?_)
              clear hK K
              (try simp only [Act.put, List.setIfInBounds_toArray, List.set_cons_zero, List.set_cons_succ])
              refine wpAnyH_ready (rs := [13, 15]) (by kernel_rfl) (by simp) ?_
              refine AllReadyH.cons rfl (fun K hK => ?_) ?_
              · refine step_append_q (by rfl) _ _ (by rfl) (by rfl) (by rfl) hE (HU0.alloc (.cells #[] 85)).size (row_upd HR.out (HU0.alloc (.cells #[] 85)) (fun _ _ e => e)) hBND.1 ?_
                intro vA wA hA hUA
                have HUA : Upd Non wm wA := Upd.then (HU0.alloc (.cells #[] 85)) hUA (fun a ha hs => absurd (row_blk hE a hs).1 (by omega))
                refine hK.out _ _ ((KB.out _ HUA).2.cell1 3 _ rfl) (fun hHeld => ?_)
                clear hUA hE
                clear hK K
                (try simp only [Act.put, List.setIfInBounds_toArray, List.set_cons_zero, List.set_cons_succ])
                refine wpAnyH_ready (rs := [15]) (by kernel_rfl) (by simp) ?_
                refine AllReadyH.cons rfl (fun K hK => ?_) ?_
                · have hB : RowQ (wA.alloc (.cells #[.pointer (some ⟨w3.heap.size, 0, none⟩)] 85)) wm.heap.size (.slice (some ⟨wA.heap.size, 0, none⟩) 1 1) [some (w3.heap.size)] := by
                    have := row1 wA (b := wm.heap.size) HUA.size (w3.heap.size)
                    simpa [cls, pc, pa] using this
                  have hA := row_upd hA ((Upd.refl Non _).alloc (.cells #[.pointer (some ⟨w3.heap.size, 0, none⟩)] 85)) (fun _ _ e => e)
                  go_simp
                  refine hK.out _ _ ((KB.out _ (HUA.alloc (.cells #[.pointer (some ⟨w3.heap.size, 0, none⟩)] 85))).2.cell1 3 _ rfl) (fun hHeld => ?_)
                  clear hK K
                  (try simp only [Act.put, List.setIfInBounds_toArray, List.set_cons_zero, List.set_cons_succ])
                  refine wpAnyH_ready (rs := [16]) (by kernel_rfl) (by simp) ?_
                  refine AllReadyH.cons rfl (fun K hK => ?_) ?_
                  · refine step_append_q (by rfl) _ _ (by rfl) (by rfl) (by rfl) hA (HUA.alloc (.cells #[.pointer (some ⟨w3.heap.size, 0, none⟩)] 85)).size hB hBND.2 ?_
                    intro vN wN hN hUN
                    have HUN : Upd Non wm wN := Upd.then (HUA.alloc (.cells #[.pointer (some ⟨w3.heap.size, 0, none⟩)] 85)) hUN (fun a ha hs => absurd (row_blk hA a hs).1 (by omega))
                    obtain ⟨ya, yc, hy9⟩ := rowq_len hN
                    obtain ⟨yn, hyn⟩ : ∃ x, ([] ++ L0 ++ [some w3.heap.size]).length = x := ⟨_, rfl⟩
                    rw [hyn] at hy9
                    subst hy9
                    refine hK.out _ _ ((KB.out _ HUN).2.cell1 3 _ rfl) (fun hHeld => ?_)
                    clear hUN hA hB
                    clear hK K
                    (try simp only [Act.put, List.setIfInBounds_toArray, List.set_cons_zero, List.set_cons_succ])
                    refine wpAnyH_take (i := 17) (v := ?_) (by simp only [List.getElem?_toArray, List.getElem?_cons_zero, List.getElem?_cons_succ]; rfl) (by kernel_rfl) (by kernel_rfl) (by kernel_rfl) (by intro _ _ _ h; exact h) (Or.inl ⟨by rfl, ?_⟩) (by assumption) ?_
                    rotate_left
                    · intro w hSw; (try dsimp only at hSw); go_simp; (try with_reducible rfl)
                    (try simp only [Act.put, List.setIfInBounds_toArray, List.set_cons_zero, List.set_cons_succ])
                    refine wpAnyH_ready (rs := [18]) (by kernel_rfl) (by simp) ?_
                    refine AllReadyH.cons rfl (fun K hK => ?_) ?_
                    · have kr := (KB.out _ HUN).1
                      have kc := (KB.out _ HUN).2
                      have c8 := kr.cell1 i _ hu
                      have z8 := kr.frozen i
                      have ncr := kc.ne kr (by decide)
                      go_simp
                      refine hK.out _ _ ((kc.other (a := ⟨R.lb, i, none⟩) ncr _).cell1 3 _ rfl) (fun hHeld => ?_)
                      clear c8 z8 kr kc ncr
                      clear hK K
                      (try simp only [Act.put, List.setIfInBounds_toArray, List.set_cons_zero, List.set_cons_succ])
                      refine wpAnyH_done (by kernel_rfl) ?_ _
                      have HPm := FIN9.out _ _ HUN hN
                      clear hN HUN hHeld
                      obtain ⟨w5, hw5⟩ : ∃ W, wN.setCell ⟨R.lb, i, none⟩ (.slice ya yn yc) = W := ⟨_, rfl⟩
                      rw [hw5] at HPm
                      (try rw [hw5])
                      clear hw5
                      go_wp2_with (go_at_call 61; refine HPm.mono ?_; rintro e9 w6 ⟨rfl, hRo⟩)
                      refine bodyPost_ret (v := .tuple #[.int .i64 ((s.P.length : Int) + 1), .int .i64 0]) (by simp [results, Try.results30, go_sem]) rfl ⟨rfl, ?_⟩
                      rw [eN']
                      exact hRo
                    exact AllReadyH.nil
                  exact AllReadyH.nil
                exact AllReadyH.nil
              refine AllReadyH.cons rfl (fun K hK => ?_) ?_
              · have hB : RowQ ((wd.alloc (.cells #[] 85)).alloc (.cells #[.pointer (some ⟨w3.heap.size, 0, none⟩)] 85)) wm.heap.size (.slice (some ⟨wd.heap.size + 1, 0, none⟩) 1 1) [some (w3.heap.size)] := by
                  have := row1 (wd.alloc (.cells #[] 85)) (b := wm.heap.size) (HU0.alloc (.cells #[] 85)).size (w3.heap.size)
                  simpa [cls, pc, pa] using this
                have hE := row_upd hE ((Upd.refl Non _).alloc (.cells #[.pointer (some ⟨w3.heap.size, 0, none⟩)] 85)) (fun _ _ e => e)
                go_simp
                refine hK.out _ _ ((KB.out _ ((HU0.alloc (.cells #[] 85)).alloc (.cells #[.pointer (some ⟨w3.heap.size, 0, none⟩)] 85))).2.cell1 3 _ rfl) (fun hHeld => ?_)
                clear hK K
                (try simp only [Act.put, List.setIfInBounds_toArray, List.set_cons_zero, List.set_cons_succ])
                refine wpAnyH_ready (rs := [13]) (by kernel_rfl) (by simp) ?_
                refine AllReadyH.cons rfl (fun K hK => ?_) ?_
                · refine step_append_q (by rfl) _ _ (by rfl) (by rfl) (by rfl) hE ((HU0.alloc (.cells #[] 85)).alloc (.cells #[.pointer (some ⟨w3.heap.size, 0, none⟩)] 85)).size (row_upd HR.out ((HU0.alloc (.cells #[] 85)).alloc (.cells #[.pointer (some ⟨w3.heap.size, 0, none⟩)] 85)) (fun _ _ e => e)) hBND.1 ?_
                  intro vA wA hA hUA
                  have HUA : Upd Non wm wA := Upd.then ((HU0.alloc (.cells #[] 85)).alloc (.cells #[.pointer (some ⟨w3.heap.size, 0, none⟩)] 85)) hUA (fun a ha hs => absurd (row_blk hE a hs).1 (by omega))
                  have hB := row_upd hB hUA (fun a ha ha' => absurd (Option.some.inj (show (some (wd.heap.size + 1) : Option Nat) = some (wd.heap.size) from ha.trans ha'.symm)) (by omega))
                  refine hK.out _ _ ((KB.out _ HUA).2.cell1 3 _ rfl) (fun hHeld => ?_)
                  clear hUA hE
                  clear hK K
                  (try simp only [Act.put, List.setIfInBounds_toArray, List.set_cons_zero, List.set_cons_succ])
                  refine wpAnyH_ready (rs := [16]) (by kernel_rfl) (by simp) ?_
                  refine AllReadyH.cons rfl (fun K hK => ?_) ?_
                  · refine step_append_q (by rfl) _ _ (by rfl) (by rfl) (by rfl) hA HUA.size hB hBND.2 ?_
                    intro vN wN hN hUN
                    have HUN : Upd Non wm wN := Upd.then HUA hUN (fun a ha hs => absurd (row_blk hA a hs).1 (by omega))
                    obtain ⟨ya, yc, hy9⟩ := rowq_len hN
                    obtain ⟨yn, hyn⟩ : ∃ x, ([] ++ L0 ++ [some w3.heap.size]).length = x := ⟨_, rfl⟩
                    rw [hyn] at hy9
                    subst hy9
                    refine hK.out _ _ ((KB.out _ HUN).2.cell1 3 _ rfl) (fun hHeld => ?_)
                    clear hUN hA hB
                    clear hK K
                    (try simp only [Act.put, List.setIfInBounds_toArray, List.set_cons_zero, List.set_cons_succ])
                    refine wpAnyH_take (i := 17) (v := ?_) (by simp only [List.getElem?_toArray, List.getElem?_cons_zero, List.getElem?_cons_succ]; rfl) (by kernel_rfl) (by kernel_rfl) (by kernel_rfl) (by intro _ _ _ h; exact h) (Or.inl ⟨by rfl, ?_⟩) (by assumption) ?_
                    rotate_left
                    · intro w hSw; (try dsimp only at hSw); go_simp; (try with_reducible rfl)
                    (try simp only [Act.put, List.setIfInBounds_toArray, List.set_cons_zero, List.set_cons_succ])
                    refine wpAnyH_ready (rs := [18]) (by kernel_rfl) (by simp) ?_
                    refine AllReadyH.cons rfl (fun K hK => ?_) ?_
                    · have kr := (KB.out _ HUN).1
                      have kc := (KB.out _ HUN).2
                      have c8 := kr.cell1 i _ hu
                      have z8 := kr.frozen i
                      have ncr := kc.ne kr (by decide)
                      go_simp
                      refine hK.out _ _ ((kc.other (a := ⟨R.lb, i, none⟩) ncr _).cell1 3 _ rfl) (fun hHeld => ?_)
                      clear c8 z8 kr kc ncr
                      clear hK K
                      (try simp only [Act.put, List.setIfInBounds_toArray, List.set_cons_zero, List.set_cons_succ])
                      refine wpAnyH_done (by kernel_rfl) ?_ _
                      have HPm := FIN9.out _ _ HUN hN
                      clear hN HUN hHeld
                      obtain ⟨w5, hw5⟩ : ∃ W, wN.setCell ⟨R.lb, i, none⟩ (.slice ya yn yc) = W := ⟨_, rfl⟩
                      rw [hw5] at HPm
                      (try rw [hw5])
                      clear hw5
                      go_wp2_with (go_at_call 61; refine HPm.mono ?_; rintro e9 w6 ⟨rfl, hRo⟩)
                      refine bodyPost_ret (v := .tuple #[.int .i64 ((s.P.length : Int) + 1), .int .i64 0]) (by simp [results, Try.results30, go_sem]) rfl ⟨rfl, ?_⟩
                      rw [eN']
                      exact hRo
                    exact AllReadyH.nil
                  exact AllReadyH.nil
                exact AllReadyH.nil
              exact AllReadyH.nil
            refine AllReadyH.cons rfl (fun K hK => ?_) ?_
            · have hB : RowQ (wd.alloc (.cells #[.pointer (some ⟨w3.heap.size, 0, none⟩)] 85)) wm.heap.size (.slice (some ⟨wd.heap.size, 0, none⟩) 1 1) [some (w3.heap.size)] := by
                have := row1 wd (b := wm.heap.size) HU0.size (w3.heap.size)
                simpa [cls, pc, pa] using this
              go_simp
              refine hK.out _ _ ((KB.out _ (HU0.alloc (.cells #[.pointer (some ⟨w3.heap.size, 0, none⟩)] 85))).2.cell1 3 _ rfl) (fun hHeld => ?_)
              clear hK K
              (try simp only [Act.put, List.setIfInBounds_toArray, List.set_cons_zero, List.set_cons_succ])
              refine wpAnyH_ready (rs := [5]) (by kernel_rfl) (by simp) ?_
              refine AllReadyH.cons rfl (fun K hK => ?_) ?_
              · have hE : RowQ ((wd.alloc (.cells #[.pointer (some ⟨w3.heap.size, 0, none⟩)] 85)).alloc (.cells #[] 85)) wm.heap.size (.slice (some ⟨wd.heap.size + 1, 0, none⟩) 0 0) [] := by
                  have := row0 (wd.alloc (.cells #[.pointer (some ⟨w3.heap.size, 0, none⟩)] 85)) (b := wm.heap.size) (HU0.alloc (.cells #[.pointer (some ⟨w3.heap.size, 0, none⟩)] 85)).size
                  simpa [cls] using this
                have hB := row_upd hB ((Upd.refl Non _).alloc (.cells #[] 85)) (fun _ _ e => e)
                go_simp
                refine hK.out _ _ ((KB.out _ ((HU0.alloc (.cells #[.pointer (some ⟨w3.heap.size, 0, none⟩)] 85)).alloc (.cells #[] 85))).2.cell1 3 _ rfl) (fun hHeld => ?_)
                clear hK K
                (try simp only [Act.put, List.setIfInBounds_toArray, List.set_cons_zero, List.set_cons_succ])
                refine wpAnyH_ready (rs := [13]) (by kernel_rfl) (by simp) ?_
                refine AllReadyH.cons rfl (fun K hK => ?_) ?_
                · refine step_append_q (by rfl) _ _ (by rfl) (by rfl) (by rfl) hE ((HU0.alloc (.cells #[.pointer (some ⟨w3.heap.size, 0, none⟩)] 85)).alloc (.cells #[] 85)).size (row_upd HR.out ((HU0.alloc (.cells #[.pointer (some ⟨w3.heap.size, 0, none⟩)] 85)).alloc (.cells #[] 85)) (fun _ _ e => e)) hBND.1 ?_
                  intro vA wA hA hUA
                  have HUA : Upd Non wm wA := Upd.then ((HU0.alloc (.cells #[.pointer (some ⟨w3.heap.size, 0, none⟩)] 85)).alloc (.cells #[] 85)) hUA (fun a ha hs => absurd (row_blk hE a hs).1 (by omega))
                  have hB := row_upd hB hUA (fun a ha ha' => absurd (Option.some.inj (show (some (wd.heap.size) : Option Nat) = some (wd.heap.size + 1) from ha.trans ha'.symm)) (by omega))
                  refine hK.out _ _ ((KB.out _ HUA).2.cell1 3 _ rfl) (fun hHeld => ?_)
                  clear hUA hE
                  clear hK K
                  (try simp only [Act.put, List.setIfInBounds_toArray, List.set_cons_zero, List.set_cons_succ])
                  refine wpAnyH_ready (rs := [16]) (by kernel_rfl) (by simp) ?_
                  refine AllReadyH.cons rfl (fun K hK => ?_) ?_
                  · refine step_append_q (by rfl) _ _ (by rfl) (by rfl) (by rfl) hA HUA.size hB hBND.2 ?_
                    intro vN wN hN hUN
                    have HUN : Upd Non wm wN := Upd.then HUA hUN (fun a ha hs => absurd (row_blk hA a hs).1 (by omega))
                    obtain ⟨ya, yc, hy9⟩ := rowq_len hN
                    obtain ⟨yn, hyn⟩ : ∃ x, ([] ++ L0 ++ [some w3.heap.size]).length = x := ⟨_, rfl⟩
                    rw [hyn] at hy9
                    subst hy9
                    refine hK.out _ _ ((KB.out _ HUN).2.cell1 3 _ rfl) (fun hHeld => ?_)
                    clear hUN hA hB
                    clear hK K
                    (try simp only [Act.put, List.setIfInBounds_toArray, List.set_cons_zero, List.set_cons_succ])
                    refine wpAnyH_take (i := 17) (v := ?_) (by simp only [List.getElem?_toArray, List.getElem?_cons_zero, List.getElem?_cons_succ]; rfl) (by kernel_rfl) (by kernel_rfl) (by kernel_rfl) (by intro _ _ _ h; exact h) (Or.inl ⟨by rfl, ?_⟩) (by assumption) ?_
                    rotate_left
                    · intro w hSw; (try dsimp only at hSw); go_simp; (try with_reducible rfl)
                    (try simp only [Act.put, List.setIfInBounds_toArray, List.set_cons_zero, List.set_cons_succ])
                    refine wpAnyH_ready (rs := [18]) (by kernel_rfl) (by simp) ?_
                    refine AllReadyH.cons rfl (fun K hK => ?_) ?_
                    · have kr := (KB.out _ HUN).1
                      have kc := (KB.out _ HUN).2
                      have c8 := kr.cell1 i _ hu
                      have z8 := kr.frozen i
                      have ncr := kc.ne kr (by decide)
                      go_simp
                      refine hK.out _ _ ((kc.other (a := ⟨R.lb, i, none⟩) ncr _).cell1 3 _ rfl) (fun hHeld => ?_)
                      clear c8 z8 kr kc ncr
                      clear hK K
                      (try simp only [Act.put, List.setIfInBounds_toArray, List.set_cons_zero, List.set_cons_succ])
                      refine wpAnyH_done (by kernel_rfl) ?_ _
                      have HPm := FIN9.out _ _ HUN hN
                      clear hN HUN hHeld
                      obtain ⟨w5, hw5⟩ : ∃ W, wN.setCell ⟨R.lb, i, none⟩ (.slice ya yn yc) = W := ⟨_, rfl⟩
                      rw [hw5] at HPm
                      (try rw [hw5])
                      clear hw5
                      go_wp2_with (go_at_call 61; refine HPm.mono ?_; rintro e9 w6 ⟨rfl, hRo⟩)
                      refine bodyPost_ret (v := .tuple #[.int .i64 ((s.P.length : Int) + 1), .int .i64 0]) (by simp [results, Try.results30, go_sem]) rfl ⟨rfl, ?_⟩
                      rw [eN']
                      exact hRo
                    exact AllReadyH.nil
                  exact AllReadyH.nil
                exact AllReadyH.nil
              exact AllReadyH.nil
            exact AllReadyH.nil
          refine AllReadyH.cons rfl (fun K hK => ?_) ?_
          · have hB : RowQ (wd.alloc (.cells #[.pointer (some ⟨w3.heap.size, 0, none⟩)] 85)) wm.heap.size (.slice (some ⟨wd.heap.size, 0, none⟩) 1 1) [some (w3.heap.size)] := by
              have := row1 wd (b := wm.heap.size) HU0.size (w3.heap.size)
              simpa [cls, pc, pa] using this
            go_simp
            refine hK.out _ _ ((KB.out _ (HU0.alloc (.cells #[.pointer (some ⟨w3.heap.size, 0, none⟩)] 85))).2.cell1 3 _ rfl) (fun hHeld => ?_)
            clear hK K
            (try simp only [Act.put, List.setIfInBounds_toArray, List.set_cons_zero, List.set_cons_succ])
            refine wpAnyH_ready (rs := [5, 12]) (by kernel_rfl) (by simp) ?_
            refine AllReadyH.cons rfl (fun K hK => ?_) ?_
            · have hE : RowQ ((wd.alloc (.cells #[.pointer (some ⟨w3.heap.size, 0, none⟩)] 85)).alloc (.cells #[] 85)) wm.heap.size (.slice (some ⟨wd.heap.size + 1, 0, none⟩) 0 0) [] := by
                have := row0 (wd.alloc (.cells #[.pointer (some ⟨w3.heap.size, 0, none⟩)] 85)) (b := wm.heap.size) (HU0.alloc (.cells #[.pointer (some ⟨w3.heap.size, 0, none⟩)] 85)).size
                simpa [cls] using this
              have hB := row_upd hB ((Upd.refl Non _).alloc (.cells #[] 85)) (fun _ _ e => e)
              go_simp
              refine hK.out _ _ ((KB.out _ ((HU0.alloc (.cells #[.pointer (some ⟨w3.heap.size, 0, none⟩)] 85)).alloc (.cells #[] 85))).2.cell1 3 _ rfl) (fun hHeld => ?_)
              clear hK K
              (try simp only [Act.put, List.setIfInBounds_toArray, List.set_cons_zero, List.set_cons_succ])
              refine wpAnyH_ready (rs := [12]) (by kernel_rfl) (by simp) ?_
              refine AllReadyH.cons rfl (fun K hK => ?_) ?_
              · have c12 := (KB.out _ ((HU0.alloc (.cells #[.pointer (some ⟨w3.heap.size, 0, none⟩)] 85)).alloc (.cells #[] 85))).1.cell1 i _ hu
                go_simp
                refine hK.out _ _ ((KB.out _ ((HU0.alloc (.cells #[.pointer (some ⟨w3.heap.size, 0, none⟩)] 85)).alloc (.cells #[] 85))).2.cell1 3 _ rfl) (fun hHeld => ?_)
                clear c12
                clear hK K
                (try simp only [Act.put, List.setIfInBounds_toArray, List.set_cons_zero, List.set_cons_succ])
                refine wpAnyH_ready (rs := [13]) (by kernel_rfl) (by simp) ?_
                refine AllReadyH.cons rfl (fun K hK => ?_) ?_
                · refine step_append_q (by rfl) _ _ (by rfl) (by rfl) (by rfl) hE ((HU0.alloc (.cells #[.pointer (some ⟨w3.heap.size, 0, none⟩)] 85)).alloc (.cells #[] 85)).size (row_upd HR.out ((HU0.alloc (.cells #[.pointer (some ⟨w3.heap.size, 0, none⟩)] 85)).alloc (.cells #[] 85)) (fun _ _ e => e)) hBND.1 ?_
                  intro vA wA hA hUA
                  have HUA : Upd Non wm wA := Upd.then ((HU0.alloc (.cells #[.pointer (some ⟨w3.heap.size, 0, none⟩)] 85)).alloc (.cells #[] 85)) hUA (fun a ha hs => absurd (row_blk hE a hs).1 (by omega))
                  have hB := row_upd hB hUA (fun a ha ha' => absurd (Option.some.inj (show (some (wd.heap.size) : Option Nat) = some (wd.heap.size + 1) from ha.trans ha'.symm)) (by omega))
                  refine hK.out _ _ ((KB.out _ HUA).2.cell1 3 _ rfl) (fun hHeld => ?_)
                  clear hUA hE
                  clear hK K
                  (try simp only [Act.put, List.setIfInBounds_toArray, List.set_cons_zero, List.set_cons_succ])
                  refine wpAnyH_ready (rs := [16]) (by kernel_rfl) (by simp) ?_
                  refine AllReadyH.cons rfl (fun K hK => ?_) ?_
                  · refine step_append_q (by rfl) _ _ (by rfl) (by rfl) (by rfl) hA HUA.size hB hBND.2 ?_
                    intro vN wN hN hUN
                    have HUN : Upd Non wm wN := Upd.then HUA hUN (fun a ha hs => absurd (row_blk hA a hs).1 (by omega))
                    obtain ⟨ya, yc, hy9⟩ := rowq_len hN
                    obtain ⟨yn, hyn⟩ : ∃ x, ([] ++ L0 ++ [some w3.heap.size]).length = x := ⟨_, rfl⟩
                    rw [hyn] at hy9
                    subst hy9
                    refine hK.out _ _ ((KB.out _ HUN).2.cell1 3 _ rfl) (fun hHeld => ?_)
                    clear hUN hA hB
                    clear hK K
                    (try simp only [Act.put, List.setIfInBounds_toArray, List.set_cons_zero, List.set_cons_succ])
                    refine wpAnyH_take (i := 17) (v := ?_) (by simp only [List.getElem?_toArray, List.getElem?_cons_zero, List.getElem?_cons_succ]; rfl) (by kernel_rfl) (by kernel_rfl) (by kernel_rfl) (by intro _ _ _ h; exact h) (Or.inl ⟨by rfl, ?_⟩) (by assumption) ?_
                    rotate_left
                    · intro w hSw; (try dsimp only at hSw); go_simp; (try with_reducible rfl)
                    (try simp only [Act.put, List.setIfInBounds_toArray, List.set_cons_zero, List.set_cons_succ])
                    refine wpAnyH_ready (rs := [18]) (by kernel_rfl) (by simp) ?_
                    refine AllReadyH.cons rfl (fun K hK => ?_) ?_
                    · have kr := (KB.out _ HUN).1
                      have kc := (KB.out _ HUN).2
                      have c8 := kr.cell1 i _ hu
                      have z8 := kr.frozen i
                      have ncr := kc.ne kr (by decide)
                      go_simp
                      refine hK.out _ _ ((kc.other (a := ⟨R.lb, i, none⟩) ncr _).cell1 3 _ rfl) (fun hHeld => ?_)
                      clear c8 z8 kr kc ncr
                      clear hK K
                      (try simp only [Act.put, List.setIfInBounds_toArray, List.set_cons_zero, List.set_cons_succ])
                      refine wpAnyH_done (by kernel_rfl) ?_ _
                      have HPm := FIN9.out _ _ HUN hN
                      clear hN HUN hHeld
                      obtain ⟨w5, hw5⟩ : ∃ W, wN.setCell ⟨R.lb, i, none⟩ (.slice ya yn yc) = W := ⟨_, rfl⟩
                      rw [hw5] at HPm
                      (try rw [hw5])
                      clear hw5
                      go_wp2_with (go_at_call 61; refine HPm.mono ?_; rintro e9 w6 ⟨rfl, hRo⟩)
                      refine bodyPost_ret (v := .tuple #[.int .i64 ((s.P.length : Int) + 1), .int .i64 0]) (by simp [results, Try.results30, go_sem]) rfl ⟨rfl, ?_⟩
                      rw [eN']
                      exact hRo
                    exact AllReadyH.nil
                  exact AllReadyH.nil
                exact AllReadyH.nil
              exact AllReadyH.nil
            refine AllReadyH.cons rfl (fun K hK => ?_) ?_
            · have c12 := (KB.out _ (HU0.alloc (.cells #[.pointer (some ⟨w3.heap.size, 0, none⟩)] 85))).1.cell1 i _ hu
              go_simp
              refine hK.out _ _ ((KB.out _ (HU0.alloc (.cells #[.pointer (some ⟨w3.heap.size, 0, none⟩)] 85))).2.cell1 3 _ rfl) (fun hHeld => ?_)
              clear c12
              clear hK K
              (try simp only [Act.put, List.setIfInBounds_toArray, List.set_cons_zero, List.set_cons_succ])
              refine wpAnyH_ready (rs := [5]) (by kernel_rfl) (by simp) ?_
              refine AllReadyH.cons rfl (fun K hK => ?_) ?_
              · have hE : RowQ ((wd.alloc (.cells #[.pointer (some ⟨w3.heap.size, 0, none⟩)] 85)).alloc (.cells #[] 85)) wm.heap.size (.slice (some ⟨wd.heap.size + 1, 0, none⟩) 0 0) [] := by
                  have := row0 (wd.alloc (.cells #[.pointer (some ⟨w3.heap.size, 0, none⟩)] 85)) (b := wm.heap.size) (HU0.alloc (.cells #[.pointer (some ⟨w3.heap.size, 0, none⟩)] 85)).size
                  simpa [cls] using this
                have hB := row_upd hB ((Upd.refl Non _).alloc (.cells #[] 85)) (fun _ _ e => e)
                go_simp
                refine hK.out _ _ ((KB.out _ ((HU0.alloc (.cells #[.pointer (some ⟨w3.heap.size, 0, none⟩)] 85)).alloc (.cells #[] 85))).2.cell1 3 _ rfl) (fun hHeld => ?_)
                clear hK K
                (try simp only [Act.put, List.setIfInBounds_toArray, List.set_cons_zero, List.set_cons_succ])
                refine wpAnyH_ready (rs := [13]) (by kernel_rfl) (by simp) ?_
                refine AllReadyH.cons rfl (fun K hK => ?_) ?_
                · refine step_append_q (by rfl) _ _ (by rfl) (by rfl) (by rfl) hE ((HU0.alloc (.cells #[.pointer (some ⟨w3.heap.size, 0, none⟩)] 85)).alloc (.cells #[] 85)).size (row_upd HR.out ((HU0.alloc (.cells #[.pointer (some ⟨w3.heap.size, 0, none⟩)] 85)).alloc (.cells #[] 85)) (fun _ _ e => e)) hBND.1 ?_
                  intro vA wA hA hUA
                  have HUA : Upd Non wm wA := Upd.then ((HU0.alloc (.cells #[.pointer (some ⟨w3.heap.size, 0, none⟩)] 85)).alloc (.cells #[] 85)) hUA (fun a ha hs => absurd (row_blk hE a hs).1 (by omega))
                  have hB := row_upd hB hUA (fun a ha ha' => absurd (Option.some.inj (show (some (wd.heap.size) : Option Nat) = some (wd.heap.size + 1) from ha.trans ha'.symm)) (by omega))
                  refine hK.out _ _ ((KB.out _ HUA).2.cell1 3 _ rfl) (fun hHeld => ?_)
                  clear hUA hE
                  clear hK K
                  (try simp only [Act.put, List.setIfInBounds_toArray, List.set_cons_zero, List.set_cons_succ])
                  refine wpAnyH_ready (rs := [16]) (by kernel_rfl) (by simp) ?_
                  refine AllReadyH.cons rfl (fun K hK => ?_) ?_
                  · refine step_append_q (by rfl) _ _ (by rfl) (by rfl) (by rfl) hA HUA.size hB hBND.2 ?_
                    intro vN wN hN hUN
                    have HUN : Upd Non wm wN := Upd.then HUA hUN (fun a ha hs => absurd (row_blk hA a hs).1 (by omega))
                    obtain ⟨ya, yc, hy9⟩ := rowq_len hN
                    obtain ⟨yn, hyn⟩ : ∃ x, ([] ++ L0 ++ [some w3.heap.size]).length = x := ⟨_, rfl⟩
                    rw [hyn] at hy9
                    subst hy9
                    refine hK.out _ _ ((KB.out _ HUN).2.cell1 3 _ rfl) (fun hHeld => ?_)
                    clear hUN hA hB
                    clear hK K
                    (try simp only [Act.put, List.setIfInBounds_toArray, List.set_cons_zero, List.set_cons_succ])
                    refine wpAnyH_take (i := 17) (v := ?_) (by simp only [List.getElem?_toArray, List.getElem?_cons_zero, List.getElem?_cons_succ]; rfl) (by kernel_rfl) (by kernel_rfl) (by kernel_rfl) (by intro _ _ _ h; exact h) (Or.inl ⟨by rfl, ?_⟩) (by assumption) ?_
                    rotate_left
                    · intro w hSw; (try dsimp only at hSw); go_simp; (try with_reducible rfl)
                    (try simp only [Act.put, List.setIfInBounds_toArray, List.set_cons_zero, List.set_cons_succ])
                    refine wpAnyH_ready (rs := [18]) (by kernel_rfl) (by simp) ?_
                    refine AllReadyH.cons rfl (fun K hK => ?_) ?_
                    · have kr := (KB.out _ HUN).1
                      have kc := (KB.out _ HUN).2
                      have c8 := kr.cell1 i _ hu
                      have z8 := kr.frozen i
                      have ncr := kc.ne kr (by decide)
                      go_simp
                      refine hK.out _ _ ((kc.other (a := ⟨R.lb, i, none⟩) ncr _).cell1 3 _ rfl) (fun hHeld => ?_)
                      clear c8 z8 kr kc ncr
                      clear hK K
                      (try simp only [Act.put, List.setIfInBounds_toArray, List.set_cons_zero, List.set_cons_succ])
                      refine wpAnyH_done (by kernel_rfl) ?_ _
                      have HPm := FIN9.out _ _ HUN hN
                      clear hN HUN hHeld
                      obtain ⟨w5, hw5⟩ : ∃ W, wN.setCell ⟨R.lb, i, none⟩ (.slice ya yn yc) = W := ⟨_, rfl⟩
                      rw [hw5] at HPm
                      (try rw [hw5])
                      clear hw5
                      go_wp2_with (go_at_call 61; refine HPm.mono ?_; rintro e9 w6 ⟨rfl, hRo⟩)
                      refine bodyPost_ret (v := .tuple #[.int .i64 ((s.P.length : Int) + 1), .int .i64 0]) (by simp [results, Try.results30, go_sem]) rfl ⟨rfl, ?_⟩
                      rw [eN']
                      exact hRo
                    exact AllReadyH.nil
                  exact AllReadyH.nil
                exact AllReadyH.nil
              exact AllReadyH.nil
            exact AllReadyH.nil
          exact AllReadyH.nil
        | some j =>
          obtain ⟨e, he, hke⟩ := hOE j hf
          have hVo := hOV j e hf he hke
          clear hOV hOE
          go_enter Try.func30, Try.ntmps30
          go_wp2_with (first | (go_at_call 12; refine HS.mono ?_; rintro e' w0 ⟨rfl, hw⟩; have hw' := hw.symm; subst hw') | (go_at_call 56; refine HM.mono ?_; rintro e' w1 ⟨rfl, F1, U1⟩))
          have c2 := F1.blk.cell1 2 _ rfl
          have c1 := F1.blk.cell1 1 _ rfl
          have c0 := F1.blk.cell1 0 _ rfl
          rw [hst] at c2
          have F1' : Hid _ := F1
          have U1' : Hid _ := U1
          have HU : ∀ m, Calls Try.prog 58 #[.pointer (some ⟨R.cb, 0, none⟩), .int .i64 i] (w1.drewN m) fun e w' => e = .returned (.int .u64 (satS v1.ent v1.ll)) ∧ w' = w1.drewN m := fun m => used_any (F1.drewN m) hv1 hch1 n2 hb1
          have HPl : ∀ m, Calls Try.prog 57 #[.int .u64 (satS v1.ent v1.ll), .int .u64 ch] (w1.drewN m) fun e w' => e = .returned (.int .u64 (plusT (satS v1.ent v1.ll) ch)) ∧ w' = w1.drewN m := fun m => rplus_any _ _ _ (satS_lt _ _) hc
          generalize satS v1.ent v1.ll = SU at *
          generalize plusT SU ch = PU at *
          have hlt : ¬ (r' : Int) < (PU : Int) := by
            rw [hexc0] at hex
            have := of_decide_eq_false hex
            omega
          clear hexc0 hex
          clear F1 U1
          go_quiet ((first | (go_at_call 58; exact Calls.quiet_of_same (HU _)) | (go_at_call 57; exact Calls.quiet_of_same (HPl _))))
          clear c0 c1 c2 HU HPl
          rw [hf] at hff
          have HFm := find_any (F1'.out.drewN nq) n1 n2 hk (v := v1) (by rw [hi0'.out]; exact hv1) hb1
          rw [hi0'.out, hff] at HFm
          go_wp2_with (first | (go_at_call 59; refine HFm.mono ?_; rintro e' w2 ⟨rfl, mm, hw2⟩; have F2 : Rf w2 R n room s.st (vs.set i v1) pv s.P := (by rw [hw2]; exact (F1'.out.drewN _).drewN _); have U2 : Upd (Rb R vs pv) w w2 := (by rw [hw2]; exact (U1'.out.trans (hU0 _ _)).trans (hU0 _ _)); clear hw2 F1' U1'; have HOm := out_any F2 hv1 (by rw [hVe]; exact he) n2 hb1 hb2; clear F2) | (go_at_call 60; refine HOm.mono ?_; rintro e' w3 ⟨rfl, F3, U3⟩; have F3' : Hid _ := F3; have U3' : Hid _ := U3; have U2' : Hid _ := U2; clear F3 U3 U2))
          have F3 := F3'.out
          rw [List.set_set] at F3
          have U3 := U2'.out.trans (U3'.out.mono (fun a _ ha => Rb.set hv (by rw [vE1]) ha))
          clear F3' U3' U2'
          have hbo : (outV v1 j).ll.length ≤ 4000000000000 := by
            unfold outV
            split
            · exact Nat.le_trans (List.length_filter_le _ _) hb1
            · exact hb1
          have eN' := eN.out (takeX x1 j) rfl
          obtain ⟨wm, hwm⟩ : ∃ W, W = w3.alloc (.cells #[.string k, .int .u64 z, .int .u64 ch, .bool true, .int .i64 0] 84) := ⟨_, rfl⟩
          obtain ⟨lc, la, nL, lcp, L0, hu, KB0, hL0, hLn, FIN0⟩ := TL.out (takeX x1 j) (outV v1 j) w3 wm (by rw [hf]) hVo rfl hbo F3 U3 hwm
          (try rw [hn] at KB0)
          have KB : Hid _ := KB0
          have FIN9 : Hid _ := FIN0
          have HR : Hid _ := hL0
          have hBND : ([] : List (Option Nat)).length + L0.length ≤ 8000000000001 ∧ ([] ++ L0).length + [some w3.heap.size].length ≤ 8000000000001 := by simp; omega
          clear KB0 FIN0 hL0 F3 U3 TL eN FINA
          rw [← hwm]
          clear hwm
          have HU0 : Upd Non wm wm.drew := (Upd.refl Non wm).drew
          refine wp_region_held_drew (S := fun W => W.cell? ⟨R.cb, 3, none⟩ = some (.slice (some ⟨R.lb, 0, none⟩) n n)) (by kernel_rfl) ?_ (fun hHeld => ?_)
          · (try dsimp only); exact (KB.out _ (Upd.refl Non wm)).2.cell1 3 _ rfl
          generalize wm.drew = wd at *
          refine wpAnyH_take (i := 0) (v := ?_) (by simp only [List.getElem?_toArray, List.getElem?_cons_zero, List.getElem?_cons_succ]; rfl) (by kernel_rfl) (by kernel_rfl) (by kernel_rfl) (by intro _ _ _ h; exact h) (Or.inl ⟨by rfl, ?_⟩) (by assumption) ?_
          rotate_left
          · intro w hSw; (try dsimp only at hSw); go_simp; (try with_reducible rfl)
          (try simp only [Act.put, List.setIfInBounds_toArray, List.set_cons_zero, List.set_cons_succ])
          refine wpAnyH_take (i := 1) (v := ?_) (by simp only [List.getElem?_toArray, List.getElem?_cons_zero, List.getElem?_cons_succ]; rfl) (by kernel_rfl) (by kernel_rfl) (by kernel_rfl) (by intro _ _ _ h; exact h) (Or.inl ⟨by rfl, ?_⟩) (by assumption) ?_
          rotate_left
          · intro w hSw; (try dsimp only at hSw); go_simp; (try with_reducible rfl)
          (try simp only [Act.put, List.setIfInBounds_toArray, List.set_cons_zero, List.set_cons_succ])
          refine wpAnyH_take (i := 2) (v := ?_) (by simp only [List.getElem?_toArray, List.getElem?_cons_zero, List.getElem?_cons_succ]; rfl) (by kernel_rfl) (by kernel_rfl) (by kernel_rfl) (by intro _ _ _ h; exact h) (Or.inl ⟨by rfl, ?_⟩) (by assumption) ?_
          rotate_left
          · intro w hSw; (try dsimp only at hSw); go_simp; (try with_reducible rfl)
          (try simp only [Act.put, List.setIfInBounds_toArray, List.set_cons_zero, List.set_cons_succ])
          refine wpAnyH_take (i := 3) (v := ?_) (by simp only [List.getElem?_toArray, List.getElem?_cons_zero, List.getElem?_cons_succ]; rfl) (by kernel_rfl) (by kernel_rfl) (by kernel_rfl) (by intro _ _ _ h; exact h) (Or.inl ⟨by rfl, ?_⟩) (by assumption) ?_
          rotate_left
          · intro w hSw; (try dsimp only at hSw); go_simp; (try with_reducible rfl)
          (try simp only [Act.put, List.setIfInBounds_toArray, List.set_cons_zero, List.set_cons_succ])
          refine wpAnyH_take (i := 4) (v := ?_) (by simp only [List.getElem?_toArray, List.getElem?_cons_zero, List.getElem?_cons_succ]; rfl) (by kernel_rfl) (by kernel_rfl) (by kernel_rfl) (by intro _ _ _ h; exact h) (Or.inl ⟨by rfl, ?_⟩) (by assumption) ?_
          rotate_left
          · intro w hSw; (try dsimp only at hSw); go_simp; (try with_reducible rfl)
          (try simp only [Act.put, List.setIfInBounds_toArray, List.set_cons_zero, List.set_cons_succ])
          refine wpAnyH_take (i := 6) (v := ?_) (by simp only [List.getElem?_toArray, List.getElem?_cons_zero, List.getElem?_cons_succ]; rfl) (by kernel_rfl) (by kernel_rfl) (by kernel_rfl) (by intro _ _ _ h; exact h) (Or.inl ⟨by rfl, ?_⟩) (by assumption) ?_
          rotate_left
          · intro w hSw; (try dsimp only at hSw); go_simp; (try with_reducible rfl)
          (try simp only [Act.put, List.setIfInBounds_toArray, List.set_cons_zero, List.set_cons_succ])
          refine wpAnyH_take (i := 7) (v := ?_) (by simp only [List.getElem?_toArray, List.getElem?_cons_zero, List.getElem?_cons_succ]; rfl) (by kernel_rfl) (by kernel_rfl) (by kernel_rfl) (by intro _ _ _ h; exact h) (Or.inl ⟨by rfl, ?_⟩) (by assumption) ?_
          rotate_left
          · intro w hSw; (try dsimp only at hSw); go_simp; (try with_reducible rfl)
          (try simp only [Act.put, List.setIfInBounds_toArray, List.set_cons_zero, List.set_cons_succ])
          refine wpAnyH_take (i := 8) (v := ?_) (by simp only [List.getElem?_toArray, List.getElem?_cons_zero, List.getElem?_cons_succ]; rfl) (by kernel_rfl) (by kernel_rfl) (by kernel_rfl) (by intro _ _ _ h; exact h) (Or.inl ⟨by rfl, ?_⟩) (by assumption) ?_
          rotate_left
          · intro w hSw; (try dsimp only at hSw); go_simp; (try with_reducible rfl)
          (try simp only [Act.put, List.setIfInBounds_toArray, List.set_cons_zero, List.set_cons_succ])
          refine wpAnyH_take (i := 9) (v := ?_) (by simp only [List.getElem?_toArray, List.getElem?_cons_zero, List.getElem?_cons_succ]; rfl) (by kernel_rfl) (by kernel_rfl) (by kernel_rfl) (by intro _ _ _ h; exact h) (Or.inl ⟨by rfl, ?_⟩) (by assumption) ?_
          rotate_left
          · intro w hSw; (try dsimp only at hSw); go_simp; (try with_reducible rfl)
          (try simp only [Act.put, List.setIfInBounds_toArray, List.set_cons_zero, List.set_cons_succ])
          refine wpAnyH_take (i := 10) (v := ?_) (by simp only [List.getElem?_toArray, List.getElem?_cons_zero, List.getElem?_cons_succ]; rfl) (by kernel_rfl) (by kernel_rfl) (by kernel_rfl) (by intro _ _ _ h; exact h) (Or.inl ⟨by rfl, ?_⟩) (by assumption) ?_
          rotate_left
          · intro w hSw; (try dsimp only at hSw); go_simp; (try with_reducible rfl)
          (try simp only [Act.put, List.setIfInBounds_toArray, List.set_cons_zero, List.set_cons_succ])
          refine wpAnyH_take (i := 11) (v := ?_) (by simp only [List.getElem?_toArray, List.getElem?_cons_zero, List.getElem?_cons_succ]; rfl) (by kernel_rfl) (by kernel_rfl) (by kernel_rfl) (by intro _ _ _ h; exact h) (Or.inl ⟨by rfl, ?_⟩) (by assumption) ?_
          rotate_left
          · intro w hSw; (try dsimp only at hSw); go_simp; (try with_reducible rfl)
          (try simp only [Act.put, List.setIfInBounds_toArray, List.set_cons_zero, List.set_cons_succ])
          refine wpAnyH_take (i := 14) (v := ?_) (by simp only [List.getElem?_toArray, List.getElem?_cons_zero, List.getElem?_cons_succ]; rfl) (by kernel_rfl) (by kernel_rfl) (by kernel_rfl) (by intro _ _ _ h; exact h) (Or.inl ⟨by rfl, ?_⟩) (by assumption) ?_
          rotate_left
          · intro w hSw; (try dsimp only at hSw); go_simp; (try with_reducible rfl)
          (try simp only [Act.put, List.setIfInBounds_toArray, List.set_cons_zero, List.set_cons_succ])
          refine wpAnyH_ready (rs := [5, 12, 15]) (by kernel_rfl) (by simp) ?_
          refine AllReadyH.cons rfl (fun K hK => ?_) ?_
          · have hE : RowQ (wd.alloc (.cells #[] 85)) wm.heap.size (.slice (some ⟨wd.heap.size, 0, none⟩) 0 0) [] := by
              have := row0 wd (b := wm.heap.size) HU0.size
              simpa [cls] using this
            go_simp
            refine hK.out _ _ ((KB.out _ (HU0.alloc (.cells #[] 85))).2.cell1 3 _ rfl) (fun hHeld => ?_)
            clear hK K
            (try simp only [Act.put, List.setIfInBounds_toArray, List.set_cons_zero, List.set_cons_succ])
            refine wpAnyH_ready (rs := [12, 15]) (by kernel_rfl) (by simp) ?_
            refine AllReadyH.cons rfl (fun K hK => ?_) ?_
            · have c12 := (KB.out _ (HU0.alloc (.cells #[] 85))).1.cell1 i _ hu
              go_simp
              refine hK.out _ _ ((KB.out _ (HU0.alloc (.cells #[] 85))).2.cell1 3 _ rfl) (fun hHeld => ?_)
              clear c12
              clear hK K
              (try simp only [Act.put, List.setIfInBounds_toArray, List.set_cons_zero, List.set_cons_succ])
              refine wpAnyH_ready (rs := [13, 15]) (by kernel_rfl) (by simp) ?_
              refine AllReadyH.cons rfl (fun K hK => ?_) ?_
              · refine step_append_q (by rfl) _ _ (by rfl) (by rfl) (by rfl) hE (HU0.alloc (.cells #[] 85)).size (row_upd HR.out (HU0.alloc (.cells #[] 85)) (fun _ _ e => e)) hBND.1 ?_
                intro vA wA hA hUA
                have HUA : Upd Non wm wA := Upd.then (HU0.alloc (.cells #[] 85)) hUA (fun a ha hs => absurd (row_blk hE a hs).1 (by omega))
                refine hK.out _ _ ((KB.out _ HUA).2.cell1 3 _ rfl) (fun hHeld => ?_)
                clear hUA hE
                clear hK K
                (try simp only [Act.put, List.setIfInBounds_toArray, List.set_cons_zero, List.set_cons_succ])
                refine wpAnyH_ready (rs := [15]) (by kernel_rfl) (by simp) ?_
                refine AllReadyH.cons rfl (fun K hK => ?_) ?_
                · have hB : RowQ (wA.alloc (.cells #[.pointer (some ⟨w3.heap.size, 0, none⟩)] 85)) wm.heap.size (.slice (some ⟨wA.heap.size, 0, none⟩) 1 1) [some (w3.heap.size)] := by
                    have := row1 wA (b := wm.heap.size) HUA.size (w3.heap.size)
                    simpa [cls, pc, pa] using this
                  have hA := row_upd hA ((Upd.refl Non _).alloc (.cells #[.pointer (some ⟨w3.heap.size, 0, none⟩)] 85)) (fun _ _ e => e)
                  go_simp
                  refine hK.out _ _ ((KB.out _ (HUA.alloc (.cells #[.pointer (some ⟨w3.heap.size, 0, none⟩)] 85))).2.cell1 3 _ rfl) (fun hHeld => ?_)
                  clear hK K
                  (try simp only [Act.put, List.setIfInBounds_toArray, List.set_cons_zero, List.set_cons_succ])
                  refine wpAnyH_ready (rs := [16]) (by kernel_rfl) (by simp) ?_
                  refine AllReadyH.cons rfl (fun K hK => ?_) ?_
                  · refine step_append_q (by rfl) _ _ (by rfl) (by rfl) (by rfl) hA (HUA.alloc (.cells #[.pointer (some ⟨w3.heap.size, 0, none⟩)] 85)).size hB hBND.2 ?_
                    intro vN wN hN hUN
                    have HUN : Upd Non wm wN := Upd.then (HUA.alloc (.cells #[.pointer (some ⟨w3.heap.size, 0, none⟩)] 85)) hUN (fun a ha hs => absurd (row_blk hA a hs).1 (by omega))
                    obtain ⟨ya, yc, hy9⟩ := rowq_len hN
                    obtain ⟨yn, hyn⟩ : ∃ x, ([] ++ L0 ++ [some w3.heap.size]).length = x := ⟨_, rfl⟩
                    rw [hyn] at hy9
                    subst hy9
                    refine hK.out _ _ ((KB.out _ HUN).2.cell1 3 _ rfl) (fun hHeld => ?_)
                    clear hUN hA hB
                    clear hK K
                    (try simp only [Act.put, List.setIfInBounds_toArray, List.set_cons_zero, List.set_cons_succ])
                    refine wpAnyH_take (i := 17) (v := ?_) (by simp only [List.getElem?_toArray, List.getElem?_cons_zero, List.getElem?_cons_succ]; rfl) (by kernel_rfl) (by kernel_rfl) (by kernel_rfl) (by intro _ _ _ h; exact h) (Or.inl ⟨by rfl, ?_⟩) (by assumption) ?_
                    rotate_left
                    · intro w hSw; (try dsimp only at hSw); go_simp; (try with_reducible rfl)
                    (try simp only [Act.put, List.setIfInBounds_toArray, List.set_cons_zero, List.set_cons_succ])
                    refine wpAnyH_ready (rs := [18]) (by kernel_rfl) (by simp) ?_
                    refine AllReadyH.cons rfl (fun K hK => ?_) ?_
                    · have kr := (KB.out _ HUN).1
                      have kc := (KB.out _ HUN).2
                      have c8 := kr.cell1 i _ hu
                      have z8 := kr.frozen i
                      have ncr := kc.ne kr (by decide)
                      go_simp
                      refine hK.out _ _ ((kc.other (a := ⟨R.lb, i, none⟩) ncr _).cell1 3 _ rfl) (fun hHeld => ?_)
                      clear c8 z8 kr kc ncr
                      clear hK K
                      (try simp only [Act.put, List.setIfInBounds_toArray, List.set_cons_zero, List.set_cons_succ])
                      refine wpAnyH_done (by kernel_rfl) ?_ _
                      have HPm := FIN9.out _ _ HUN hN
                      clear hN HUN hHeld
                      obtain ⟨w5, hw5⟩ : ∃ W, wN.setCell ⟨R.lb, i, none⟩ (.slice ya yn yc) = W := ⟨_, rfl⟩
                      rw [hw5] at HPm
                      (try rw [hw5])
                      clear hw5
                      go_wp2_with (go_at_call 61; refine HPm.mono ?_; rintro e9 w6 ⟨rfl, hRo⟩)
                      refine bodyPost_ret (v := .tuple #[.int .i64 ((s.P.length : Int) + 1), .int .i64 0]) (by simp [results, Try.results30, go_sem]) rfl ⟨rfl, ?_⟩
                      rw [eN']
                      exact hRo
                    exact AllReadyH.nil
                  exact AllReadyH.nil
                exact AllReadyH.nil
              refine AllReadyH.cons rfl (fun K hK => ?_) ?_
              · have hB : RowQ ((wd.alloc (.cells #[] 85)).alloc (.cells #[.pointer (some ⟨w3.heap.size, 0, none⟩)] 85)) wm.heap.size (.slice (some ⟨wd.heap.size + 1, 0, none⟩) 1 1) [some (w3.heap.size)] := by
                  have := row1 (wd.alloc (.cells #[] 85)) (b := wm.heap.size) (HU0.alloc (.cells #[] 85)).size (w3.heap.size)
                  simpa [cls, pc, pa] using this
                have hE := row_upd hE ((Upd.refl Non _).alloc (.cells #[.pointer (some ⟨w3.heap.size, 0, none⟩)] 85)) (fun _ _ e => e)
                go_simp
                refine hK.out _ _ ((KB.out _ ((HU0.alloc (.cells #[] 85)).alloc (.cells #[.pointer (some ⟨w3.heap.size, 0, none⟩)] 85))).2.cell1 3 _ rfl) (fun hHeld => ?_)
                clear hK K
                (try simp only [Act.put, List.setIfInBounds_toArray, List.set_cons_zero, List.set_cons_succ])
                refine wpAnyH_ready (rs := [13]) (by kernel_rfl) (by simp) ?_
                refine AllReadyH.cons rfl (fun K hK => ?_) ?_
                · refine step_append_q (by rfl) _ _ (by rfl) (by rfl) (by rfl) hE ((HU0.alloc (.cells #[] 85)).alloc (.cells #[.pointer (some ⟨w3.heap.size, 0, none⟩)] 85)).size (row_upd HR.out ((HU0.alloc (.cells #[] 85)).alloc (.cells #[.pointer (some ⟨w3.heap.size, 0, none⟩)] 85)) (fun _ _ e => e)) hBND.1 ?_
                  intro vA wA hA hUA
                  have HUA : Upd Non wm wA := Upd.then ((HU0.alloc (.cells #[] 85)).alloc (.cells #[.pointer (some ⟨w3.heap.size, 0, none⟩)] 85)) hUA (fun a ha hs => absurd (row_blk hE a hs).1 (by omega))
                  have hB := row_upd hB hUA (fun a ha ha' => absurd (Option.some.inj (show (some (wd.heap.size + 1) : Option Nat) = some (wd.heap.size) from ha.trans ha'.symm)) (by omega))
                  refine hK.out _ _ ((KB.out _ HUA).2.cell1 3 _ rfl) (fun hHeld => ?_)
                  clear hUA hE
                  clear hK K
                  (try simp only [Act.put, List.setIfInBounds_toArray, List.set_cons_zero, List.set_cons_succ])
                  refine wpAnyH_ready (rs := [16]) (by kernel_rfl) (by simp) ?_
                  refine AllReadyH.cons rfl (fun K hK => ?_) ?_
                  · refine step_append_q (by rfl) _ _ (by rfl) (by rfl) (by rfl) hA HUA.size hB hBND.2 ?_
                    intro vN wN hN hUN
                    have HUN : Upd Non wm wN := Upd.then HUA hUN (fun a ha hs => absurd (row_blk hA a hs).1 (by omega))
                    obtain ⟨ya, yc, hy9⟩ := rowq_len hN
                    obtain ⟨yn, hyn⟩ : ∃ x, ([] ++ L0 ++ [some w3.heap.size]).length = x := ⟨_, rfl⟩
                    rw [hyn] at hy9
                    subst hy9
                    refine hK.out _ _ ((KB.out _ HUN).2.cell1 3 _ rfl) (fun hHeld => ?_)
                    clear hUN hA hB
                    clear hK K
                    (try simp only [Act.put, List.setIfInBounds_toArray, List.set_cons_zero, List.set_cons_succ])
                    refine wpAnyH_take (i := 17) (v := ?_) (by simp only [List.getElem?_toArray, List.getElem?_cons_zero, List.getElem?_cons_succ]; rfl) (by kernel_rfl) (by kernel_rfl) (by kernel_rfl) (by intro _ _ _ h; exact h) (Or.inl ⟨by rfl, ?_⟩) (by assumption) ?_
                    rotate_left
                    · intro w hSw; (try dsimp only at hSw); go_simp; (try with_reducible rfl)
                    (try simp only [Act.put, List.setIfInBounds_toArray, List.set_cons_zero, List.set_cons_succ])
                    refine wpAnyH_ready (rs := [18]) (by kernel_rfl) (by simp) ?_
                    refine AllReadyH.cons rfl (fun K hK => ?_) ?_
                    · have kr := (KB.out _ HUN).1
                      have kc := (KB.out _ HUN).2
                      have c8 := kr.cell1 i _ hu
                      have z8 := kr.frozen i
                      have ncr := kc.ne kr (by decide)
                      go_simp
                      refine hK.out _ _ ((kc.other (a := ⟨R.lb, i, none⟩) ncr _).cell1 3 _ rfl) (fun hHeld => ?_)
                      clear c8 z8 kr kc ncr
                      clear hK K
                      (try simp only [Act.put, List.setIfInBounds_toArray, List.set_cons_zero, List.set_cons_succ])
                      refine wpAnyH_done (by kernel_rfl) ?_ _
                      have HPm := FIN9.out _ _ HUN hN
                      clear hN HUN hHeld
                      obtain ⟨w5, hw5⟩ : ∃ W, wN.setCell ⟨R.lb, i, none⟩ (.slice ya yn yc) = W := ⟨_, rfl⟩
                      rw [hw5] at HPm
                      (try rw [hw5])
                      clear hw5
                      go_wp2_with (go_at_call 61; refine HPm.mono ?_; rintro e9 w6 ⟨rfl, hRo⟩)
                      refine bodyPost_ret (v := .tuple #[.int .i64 ((s.P.length : Int) + 1), .int .i64 0]) (by simp [results, Try.results30, go_sem]) rfl ⟨rfl, ?_⟩
                      rw [eN']
                      exact hRo
                    exact AllReadyH.nil
                  exact AllReadyH.nil
                exact AllReadyH.nil
              exact AllReadyH.nil
            refine AllReadyH.cons rfl (fun K hK => ?_) ?_
            · have hB : RowQ ((wd.alloc (.cells #[] 85)).alloc (.cells #[.pointer (some ⟨w3.heap.size, 0, none⟩)] 85)) wm.heap.size (.slice (some ⟨wd.heap.size + 1, 0, none⟩) 1 1) [some (w3.heap.size)] := by
                have := row1 (wd.alloc (.cells #[] 85)) (b := wm.heap.size) (HU0.alloc (.cells #[] 85)).size (w3.heap.size)
                simpa [cls, pc, pa] using this
              have hE := row_upd hE ((Upd.refl Non _).alloc (.cells #[.pointer (some ⟨w3.heap.size, 0, none⟩)] 85)) (fun _ _ e => e)
              go_simp
              refine hK.out _ _ ((KB.out _ ((HU0.alloc (.cells #[] 85)).alloc (.cells #[.pointer (some ⟨w3.heap.size, 0, none⟩)] 85))).2.cell1 3 _ rfl) (fun hHeld => ?_)
              clear hK K
              (try simp only [Act.put, List.setIfInBounds_toArray, List.set_cons_zero, List.set_cons_succ])
              refine wpAnyH_ready (rs := [12]) (by kernel_rfl) (by simp) ?_
              refine AllReadyH.cons rfl (fun K hK => ?_) ?_
              · have c12 := (KB.out _ ((HU0.alloc (.cells #[] 85)).alloc (.cells #[.pointer (some ⟨w3.heap.size, 0, none⟩)] 85))).1.cell1 i _ hu
                go_simp
                refine hK.out _ _ ((KB.out _ ((HU0.alloc (.cells #[] 85)).alloc (.cells #[.pointer (some ⟨w3.heap.size, 0, none⟩)] 85))).2.cell1 3 _ rfl) (fun hHeld => ?_)
                clear c12
                clear hK K
                (try simp only [Act.put, List.setIfInBounds_toArray, List.set_cons_zero, List.set_cons_succ])
                refine wpAnyH_ready (rs := [13]) (by kernel_rfl) (by simp) ?_
                refine AllReadyH.cons rfl (fun K hK => ?_) ?_
                · refine step_append_q (by rfl) _ _ (by rfl) (by rfl) (by rfl) hE ((HU0.alloc (.cells #[] 85)).alloc (.cells #[.pointer (some ⟨w3.heap.size, 0, none⟩)] 85)).size (row_upd HR.out ((HU0.alloc (.cells #[] 85)).alloc (.cells #[.pointer (some ⟨w3.heap.size, 0, none⟩)] 85)) (fun _ _ e => e)) hBND.1 ?_
                  intro vA wA hA hUA
                  have HUA : Upd Non wm wA := Upd.then ((HU0.alloc (.cells #[] 85)).alloc (.cells #[.pointer (some ⟨w3.heap.size, 0, none⟩)] 85)) hUA (fun a ha hs => absurd (row_blk hE a hs).1 (by omega))
                  have hB := row_upd hB hUA (fun a ha ha' => absurd (Option.some.inj (show (some (wd.heap.size + 1) : Option Nat) = some (wd.heap.size) from ha.trans ha'.symm)) (by omega))
                  refine hK.out _ _ ((KB.out _ HUA).2.cell1 3 _ rfl) (fun hHeld => ?_)
                  clear hUA hE
                  clear hK K
                  (try simp only [Act.put, List.setIfInBounds_toArray, List.set_cons_zero, List.set_cons_succ])
                  refine wpAnyH_ready (rs := [16]) (by kernel_rfl) (by simp) ?_
                  refine AllReadyH.cons rfl (fun K hK => ?_) ?_
                  · refine step_append_q (by rfl) _ _ (by rfl) (by rfl) (by rfl) hA HUA.size hB hBND.2 ?_
                    intro vN wN hN hUN
                    have HUN : Upd Non wm wN := Upd.then HUA hUN (fun a ha hs => absurd (row_blk hA a hs).1 (by omega))
                    obtain ⟨ya, yc, hy9⟩ := rowq_len hN
                    obtain ⟨yn, hyn⟩ : ∃ x, ([] ++ L0 ++ [some w3.heap.size]).length = x := ⟨_, rfl⟩
                    rw [hyn] at hy9
                    subst hy9
                    refine hK.out _ _ ((KB.out _ HUN).2.cell1 3 _ rfl) (fun hHeld => ?_)
                    clear hUN hA hB
                    clear hK K
                    (try simp only [Act.put, List.setIfInBounds_toArray, List.set_cons_zero, List.set_cons_succ])
                    refine wpAnyH_take (i := 17) (v := ?_) (by simp only [List.getElem?_toArray, List.getElem?_cons_zero, List.getElem?_cons_succ]; rfl) (by kernel_rfl) (by kernel_rfl) (by kernel_rfl) (by intro _ _ _ h; exact h) (Or.inl ⟨by rfl, ?_⟩) (by assumption) ?_
                    rotate_left
                    · intro w hSw; (try dsimp only at hSw); go_simp; (try with_reducible rfl)
                    (try simp only [Act.put, List.setIfInBounds_toArray, List.set_cons_zero, List.set_cons_succ])
                    refine wpAnyH_ready (rs := [18]) (by kernel_rfl) (by simp) ?_
                    refine AllReadyH.cons rfl (fun K hK => ?_) ?_
                    · have kr := (KB.out _ HUN).1
                      have kc := (KB.out _ HUN).2
                      have c8 := kr.cell1 i _ hu
                      have z8 := kr.frozen i
                      have ncr := kc.ne kr (by decide)
                      go_simp
                      refine hK.out _ _ ((kc.other (a := ⟨R.lb, i, none⟩) ncr _).cell1 3 _ rfl) (fun hHeld => ?_)
                      clear c8 z8 kr kc ncr
                      clear hK K
                      (try simp only [Act.put, List.setIfInBounds_toArray, List.set_cons_zero, List.set_cons_succ])
                      refine wpAnyH_done (by kernel_rfl) ?_ _
                      have HPm := FIN9.out _ _ HUN hN
                      clear hN HUN hHeld
                      obtain ⟨w5, hw5⟩ : ∃ W, wN.setCell ⟨R.lb, i, none⟩ (.slice ya yn yc) = W := ⟨_, rfl⟩
                      rw [hw5] at HPm
                      (try rw [hw5])
                      clear hw5
                      go_wp2_with (go_at_call 61; refine HPm.mono ?_; rintro e9 w6 ⟨rfl, hRo⟩)
                      refine bodyPost_ret (v := .tuple #[.int .i64 ((s.P.length : Int) + 1), .int .i64 0]) (by simp [results, Try.results30, go_sem]) rfl ⟨rfl, ?_⟩
                      rw [eN']
                      exact hRo
                    exact AllReadyH.nil
                  exact AllReadyH.nil
                exact AllReadyH.nil
              exact AllReadyH.nil
            exact AllReadyH.nil
          refine AllReadyH.cons rfl (fun K hK => ?_) ?_
          · have c12 := (KB.out _ HU0).1.cell1 i _ hu
            go_simp
            refine hK.out _ _ ((KB.out _ HU0).2.cell1 3 _ rfl) (fun hHeld => ?_)
            clear c12
            clear hK K
            (try simp only [Act.put, List.setIfInBounds_toArray, List.set_cons_zero, List.set_cons_succ])
            refine wpAnyH_ready (rs := [5, 15]) (by kernel_rfl) (by simp) ?_
            refine AllReadyH.cons rfl (fun K hK => ?_) ?_
            · have hE : RowQ (wd.alloc (.cells #[] 85)) wm.heap.size (.slice (some ⟨wd.heap.size, 0, none⟩) 0 0) [] := by
                have := row0 wd (b := wm.heap.size) HU0.size
                simpa [cls] using this
              go_simp
              refine hK.out _ _ ((KB.out _ (HU0.alloc (.cells #[] 85))).2.cell1 3 _ rfl) (fun hHeld => ?_)
              clear hK K
              (try simp only [Act.put, List.setIfInBounds_toArray, List.set_cons_zero, List.set_cons_succ])
              refine wpAnyH_ready (rs := [13, 15]) (by kernel_rfl) (by simp) ?_
              refine AllReadyH.cons rfl (fun K hK => ?_) ?_
              · refine step_append_q (by rfl) _ _ (by rfl) (by rfl) (by rfl) hE (HU0.alloc (.cells #[] 85)).size (row_upd HR.out (HU0.alloc (.cells #[] 85)) (fun _ _ e => e)) hBND.1 ?_
                intro vA wA hA hUA
                have HUA : Upd Non wm wA := Upd.then (HU0.alloc (.cells #[] 85)) hUA (fun a ha hs => absurd (row_blk hE a hs).1 (by omega))
                refine hK.out _ _ ((KB.out _ HUA).2.cell1 3 _ rfl) (fun hHeld => ?_)
                clear hUA hE
                clear hK K
                (try simp only [Act.put, List.setIfInBounds_toArray, List.set_cons_zero, List.set_cons_succ])
                refine wpAnyH_ready (rs := [15]) (by kernel_rfl) (by simp) ?_
                refine AllReadyH.cons rfl (fun K hK => ?_) ?_
                · have hB : RowQ (wA.alloc (.cells #[.pointer (some ⟨w3.heap.size, 0, none⟩)] 85)) wm.heap.size (.slice (some ⟨wA.heap.size, 0, none⟩) 1 1) [some (w3.heap.size)] := by
                    have := row1 wA (b := wm.heap.size) HUA.size (w3.heap.size)
                    simpa [cls, pc, pa] using this
                  have hA := row_upd hA ((Upd.refl Non _).alloc (.cells #[.pointer (some ⟨w3.heap.size, 0, none⟩)] 85)) (fun _ _ e => e)
                  go_simp
                  refine hK.out _ _ ((KB.out _ (HUA.alloc (.cells #[.pointer (some ⟨w3.heap.size, 0, none⟩)] 85))).2.cell1 3 _ rfl) (fun hHeld => ?_)
                  clear hK K
                  (try simp only [Act.put, List.setIfInBounds_toArray, List.set_cons_zero, List.set_cons_succ])
                  refine wpAnyH_ready (rs := [16]) (by kernel_rfl) (by simp) ?_
                  refine AllReadyH.cons rfl (fun K hK => ?_) ?_
                  · refine step_append_q (by rfl) _ _ (by rfl) (by rfl) (by rfl) hA (HUA.alloc (.cells #[.pointer (some ⟨w3.heap.size, 0, none⟩)] 85)).size hB hBND.2 ?_
                    intro vN wN hN hUN
                    have HUN : Upd Non wm wN := Upd.then (HUA.alloc (.cells #[.pointer (some ⟨w3.heap.size, 0, none⟩)] 85)) hUN (fun a ha hs => absurd (row_blk hA a hs).1 (by omega))
                    obtain ⟨ya, yc, hy9⟩ := rowq_len hN
                    obtain ⟨yn, hyn⟩ : ∃ x, ([] ++ L0 ++ [some w3.heap.size]).length = x := ⟨_, rfl⟩
                    rw [hyn] at hy9
                    subst hy9
                    refine hK.out _ _ ((KB.out _ HUN).2.cell1 3 _ rfl) (fun hHeld => ?_)
                    clear hUN hA hB
                    clear hK K
                    (try simp only [Act.put, List.setIfInBounds_toArray, List.set_cons_zero, List.set_cons_succ])
                    refine wpAnyH_take (i := 17) (v := ?_) (by simp only [List.getElem?_toArray, List.getElem?_cons_zero, List.getElem?_cons_succ]; rfl) (by kernel_rfl) (by kernel_rfl) (by kernel_rfl) (by intro _ _ _ h; exact h) (Or.inl ⟨by rfl, ?_⟩) (by assumption) ?_
                    rotate_left
                    · intro w hSw; (try dsimp only at hSw); go_simp; (try with_reducible rfl)
                    (try simp only [Act.put, List.setIfInBounds_toArray, List.set_cons_zero, List.set_cons_succ])
                    refine wpAnyH_ready (rs := [18]) (by kernel_rfl) (by simp) ?_
                    refine AllReadyH.cons rfl (fun K hK => ?_) ?_
                    · have kr := (KB.out _ HUN).1
                      have kc := (KB.out _ HUN).2
                      have c8 := kr.cell1 i _ hu
                      have z8 := kr.frozen i
                      have ncr := kc.ne kr (by decide)
                      go_simp
                      refine hK.out _ _ ((kc.other (a := ⟨R.lb, i, none⟩) ncr _).cell1 3 _ rfl) (fun hHeld => ?_)
                      clear c8 z8 kr kc ncr
                      clear hK K
                      (try simp only [Act.put, List.setIfInBounds_toArray, List.set_cons_zero, List.set_cons_succ])
                      refine wpAnyH_done (by kernel_rfl) ?_ _
                      have HPm := FIN9.out _ _ HUN hN
                      clear hN HUN hHeld
                      obtain ⟨w5, hw5⟩ : ∃ W, wN.setCell ⟨R.lb, i, none⟩ (.slice ya yn yc) = W := ⟨_, rfl⟩
                      rw [hw5] at HPm
                      (try rw [hw5])
                      clear hw5
                      go_wp2_with (go_at_call 61; refine HPm.mono ?_; rintro e9 w6 ⟨rfl, hRo⟩)
                      refine bodyPost_ret (v := .tuple #[.int .i64 ((s.P.length : Int) + 1), .int .i64 0]) (by simp [results, Try.results30, go_sem]) rfl ⟨rfl, ?_⟩
                      rw [eN']
                      exact hRo
                    exact AllReadyH.nil
                  exact AllReadyH.nil
                exact AllReadyH.nil
              refine AllReadyH.cons rfl (fun K hK => ?_) ?_
              · have hB : RowQ ((wd.alloc (.cells #[] 85)).alloc (.cells #[.pointer (some ⟨w3.heap.size, 0, none⟩)] 85)) wm.heap.size (.slice (some ⟨wd.heap.size + 1, 0, none⟩) 1 1) [some (w3.heap.size)] := by
                  have := row1 (wd.alloc (.cells #[] 85)) (b := wm.heap.size) (HU0.alloc (.cells #[] 85)).size (w3.heap.size)
                  simpa [cls, pc, pa] using this
                have hE := row_upd hE ((Upd.refl Non _).alloc (.cells #[.pointer (some ⟨w3.heap.size, 0, none⟩)] 85)) (fun _ _ e => e)
                go_simp
                refine hK.out _ _ ((KB.out _ ((HU0.alloc (.cells #[] 85)).alloc (.cells #[.pointer (some ⟨w3.heap.size, 0, none⟩)] 85))).2.cell1 3 _ rfl) (fun hHeld => ?_)
                clear hK K
                (try simp only [Act.put, List.setIfInBounds_toArray, List.set_cons_zero, List.set_cons_succ])
                refine wpAnyH_ready (rs := [13]) (by kernel_rfl) (by simp) ?_
                refine AllReadyH.cons rfl (fun K hK => ?_) ?_
                · refine step_append_q (by rfl) _ _ (by rfl) (by rfl) (by rfl) hE ((HU0.alloc (.cells #[] 85)).alloc (.cells #[.pointer (some ⟨w3.heap.size, 0, none⟩)] 85)).size (row_upd HR.out ((HU0.alloc (.cells #[] 85)).alloc (.cells #[.pointer (some ⟨w3.heap.size, 0, none⟩)] 85)) (fun _ _ e => e)) hBND.1 ?_
                  intro vA wA hA hUA
                  have HUA : Upd Non wm wA := Upd.then ((HU0.alloc (.cells #[] 85)).alloc (.cells #[.pointer (some ⟨w3.heap.size, 0, none⟩)] 85)) hUA (fun a ha hs => absurd (row_blk hE a hs).1 (by omega))
                  have hB := row_upd hB hUA (fun a ha ha' => absurd (Option.some.inj (show (some (wd.heap.size + 1) : Option Nat) = some (wd.heap.size) from ha.trans ha'.symm)) (by omega))
                  refine hK.out _ _ ((KB.out _ HUA).2.cell1 3 _ rfl) (fun hHeld => ?_)
                  clear hUA hE
                  clear hK K
                  (try simp only [Act.put, List.setIfInBounds_toArray, List.set_cons_zero, List.set_cons_succ])
                  refine wpAnyH_ready (rs := [16]) (by kernel_rfl) (by simp) ?_
                  refine AllReadyH.cons rfl (fun K hK => ?_) ?_
                  · refine step_append_q (by rfl) _ _ (by rfl) (by rfl) (by rfl) hA HUA.size hB hBND.2 ?_
                    intro vN wN hN hUN
                    have HUN : Upd Non wm wN := Upd.then HUA hUN (fun a ha hs => absurd (row_blk hA a hs).1 (by omega))
                    obtain ⟨ya, yc, hy9⟩ := rowq_len hN
                    obtain ⟨yn, hyn⟩ : ∃ x, ([] ++ L0 ++ [some w3.heap.size]).length = x := ⟨_, rfl⟩
                    rw [hyn] at hy9
                    subst hy9
                    refine hK.out _ _ ((KB.out _ HUN).2.cell1 3 _ rfl) (fun hHeld => ?_)
                    clear hUN hA hB
                    clear hK K
                    (try simp only [Act.put, List.setIfInBounds_toArray, List.set_cons_zero, List.set_cons_succ])
                    refine wpAnyH_take (i := 17) (v := ?_) (by simp only [List.getElem?_toArray, List.getElem?_cons_zero, List.getElem?_cons_succ]; rfl) (by kernel_rfl) (by kernel_rfl) (by kernel_rfl) (by intro _ _ _ h; exact h) (Or.inl ⟨by rfl, ?_⟩) (by assumption) ?_
                    rotate_left
                    · intro w hSw; (try dsimp only at hSw); go_simp; (try with_reducible rfl)
                    (try simp only [Act.put, List.setIfInBounds_toArray, List.set_cons_zero, List.set_cons_succ])
                    refine wpAnyH_ready (rs := [18]) (by kernel_rfl) (by simp) ?_
                    refine AllReadyH.cons rfl (fun K hK => ?_) ?_
                    · have kr := (KB.out _ HUN).1
                      have kc := (KB.out _ HUN).2
                      have c8 := kr.cell1 i _ hu
                      have z8 := kr.frozen i
                      have ncr := kc.ne kr (by decide)
                      go_simp
                      refine hK.out _ _ ((kc.other (a := ⟨R.lb, i, none⟩) ncr _).cell1 3 _ rfl) (fun hHeld => ?_)
                      clear c8 z8 kr kc ncr
                      clear hK K
                      (try simp only [Act.put, List.setIfInBounds_toArray, List.set_cons_zero, List.set_cons_succ])
                      refine wpAnyH_done (by kernel_rfl) ?_ _
                      have HPm := FIN9.out _ _ HUN hN
                      clear hN HUN hHeld
                      obtain ⟨w5, hw5⟩ : ∃ W, wN.setCell ⟨R.lb, i, none⟩ (.slice ya yn yc) = W := ⟨_, rfl⟩
                      rw [hw5] at HPm
                      (try rw [hw5])
                      clear hw5
                      go_wp2_with (go_at_call 61; refine HPm.mono ?_; rintro e9 w6 ⟨rfl, hRo⟩)
                      refine bodyPost_ret (v := .tuple #[.int .i64 ((s.P.length : Int) + 1), .int .i64 0]) (by simp [results, Try.results30, go_sem]) rfl ⟨rfl, ?_⟩
                      rw [eN']
                      exact hRo
                    exact AllReadyH.nil
                  exact AllReadyH.nil
                exact AllReadyH.nil
              exact AllReadyH.nil
            refine AllReadyH.cons rfl (fun K hK => ?_) ?_
            · have hB : RowQ (wd.alloc (.cells #[.pointer (some ⟨w3.heap.size, 0, none⟩)] 85)) wm.heap.size (.slice (some ⟨wd.heap.size, 0, none⟩) 1 1) [some (w3.heap.size)] := by
                have := row1 wd (b := wm.heap.size) HU0.size (w3.heap.size)
                simpa [cls, pc, pa] using this
              go_simp
              refine hK.out _ _ ((KB.out _ (HU0.alloc (.cells #[.pointer (some ⟨w3.heap.size, 0, none⟩)] 85))).2.cell1 3 _ rfl) (fun hHeld => ?_)
              clear hK K
              (try simp only [Act.put, List.setIfInBounds_toArray, List.set_cons_zero, List.set_cons_succ])
              refine wpAnyH_ready (rs := [5]) (by kernel_rfl) (by simp) ?_
              refine AllReadyH.cons rfl (fun K hK => ?_) ?_
              · have hE : RowQ ((wd.alloc (.cells #[.pointer (some ⟨w3.heap.size, 0, none⟩)] 85)).alloc (.cells #[] 85)) wm.heap.size (.slice (some ⟨wd.heap.size + 1, 0, none⟩) 0 0) [] := by
                  have := row0 (wd.alloc (.cells #[.pointer (some ⟨w3.heap.size, 0, none⟩)] 85)) (b := wm.heap.size) (HU0.alloc (.cells #[.pointer (some ⟨w3.heap.size, 0, none⟩)] 85)).size
                  simpa [cls] using this
                have hB := row_upd hB ((Upd.refl Non _).alloc (.cells #[] 85)) (fun _ _ e => e)
                go_simp
                refine hK.out _ _ ((KB.out _ ((HU0.alloc (.cells #[.pointer (some ⟨w3.heap.size, 0, none⟩)] 85)).alloc (.cells #[] 85))).2.cell1 3 _ rfl) (fun hHeld => ?_)
                clear hK K
                (try simp only [Act.put, List.setIfInBounds_toArray, List.set_cons_zero, List.set_cons_succ])
                refine wpAnyH_ready (rs := [13]) (by kernel_rfl) (by simp) ?_
                refine AllReadyH.cons rfl (fun K hK => ?_) ?_
                · refine step_append_q (by rfl) _ _ (by rfl) (by rfl) (by rfl) hE ((HU0.alloc (.cells #[.pointer (some ⟨w3.heap.size, 0, none⟩)] 85)).alloc (.cells #[] 85)).size (row_upd HR.out ((HU0.alloc (.cells #[.pointer (some ⟨w3.heap.size, 0, none⟩)] 85)).alloc (.cells #[] 85)) (fun _ _ e => e)) hBND.1 ?_
                  intro vA wA hA hUA
                  have HUA : Upd Non wm wA := Upd.then ((HU0.alloc (.cells #[.pointer (some ⟨w3.heap.size, 0, none⟩)] 85)).alloc (.cells #[] 85)) hUA (fun a ha hs => absurd (row_blk hE a hs).1 (by omega))
                  have hB := row_upd hB hUA (fun a ha ha' => absurd (Option.some.inj (show (some (wd.heap.size) : Option Nat) = some (wd.heap.size + 1) from ha.trans ha'.symm)) (by omega))
                  refine hK.out _ _ ((KB.out _ HUA).2.cell1 3 _ rfl) (fun hHeld => ?_)
                  clear hUA hE
                  clear hK K
                  (try simp only [Act.put, List.setIfInBounds_toArray, List.set_cons_zero, List.set_cons_succ])
                  refine wpAnyH_ready (rs := [16]) (by kernel_rfl) (by simp) ?_
                  refine AllReadyH.cons rfl (fun K hK => ?_) ?_
                  · refine step_append_q (by rfl) _ _ (by rfl) (by rfl) (by rfl) hA HUA.size hB hBND.2 ?_
                    intro vN wN hN hUN
                    have HUN : Upd Non wm wN := Upd.then HUA hUN (fun a ha hs => absurd (row_blk hA a hs).1 (by omega))
                    obtain ⟨ya, yc, hy9⟩ := rowq_len hN
                    obtain ⟨yn, hyn⟩ : ∃ x, ([] ++ L0 ++ [some w3.heap.size]).length = x := ⟨_, rfl⟩
                    rw [hyn] at hy9
                    subst hy9
                    refine hK.out _ _ ((KB.out _ HUN).2.cell1 3 _ rfl) (fun hHeld => ?_)
                    clear hUN hA hB
                    clear hK K
                    (try simp only [Act.put, List.setIfInBounds_toArray, List.set_cons_zero, List.set_cons_succ])
                    refine wpAnyH_take (i := 17) (v := ?_) (by simp only [List.getElem?_toArray, List.getElem?_cons_zero, List.getElem?_cons_succ]; rfl) (by kernel_rfl) (by kernel_rfl) (by kernel_rfl) (by intro _ _ _ h; exact h) (Or.inl ⟨by rfl, ?_⟩) (by assumption) ?_
                    rotate_left
                    · intro w hSw; (try dsimp only at hSw); go_simp; (try with_reducible rfl)
                    (try simp only [Act.put, List.setIfInBounds_toArray, List.set_cons_zero, List.set_cons_succ])
                    refine wpAnyH_ready (rs := [18]) (by kernel_rfl) (by simp) ?_
                    refine AllReadyH.cons rfl (fun K hK => ?_) ?_
                    · have kr := (KB.out _ HUN).1
                      have kc := (KB.out _ HUN).2
                      have c8 := kr.cell1 i _ hu
                      have z8 := kr.frozen i
                      have ncr := kc.ne kr (by decide)
                      go_simp
                      refine hK.out _ _ ((kc.other (a := ⟨R.lb, i, none⟩) ncr _).cell1 3 _ rfl) (fun hHeld => ?_)
                      clear c8 z8 kr kc ncr
                      clear hK K
                      (try simp only [Act.put, List.setIfInBounds_toArray, List.set_cons_zero, List.set_cons_succ])
                      refine wpAnyH_done (by kernel_rfl) ?_ _
                      have HPm := FIN9.out _ _ HUN hN
                      clear hN HUN hHeld
                      obtain ⟨w5, hw5⟩ : ∃ W, wN.setCell ⟨R.lb, i, none⟩ (.slice ya yn yc) = W := ⟨_, rfl⟩
                      rw [hw5] at HPm
                      (try rw [hw5])
                      clear hw5
                      go_wp2_with (go_at_call 61; refine HPm.mono ?_; rintro e9 w6 ⟨rfl, hRo⟩)
                      refine bodyPost_ret (v := .tuple #[.int .i64 ((s.P.length : Int) + 1), .int .i64 0]) (by simp [results, Try.results30, go_sem]) rfl ⟨rfl, ?_⟩
                      rw [eN']
                      exact hRo
                    exact AllReadyH.nil
                  exact AllReadyH.nil
                exact AllReadyH.nil
              exact AllReadyH.nil
            exact AllReadyH.nil
          refine AllReadyH.cons rfl (fun K hK => ?_) ?_
          · have hB : RowQ (wd.alloc (.cells #[.pointer (some ⟨w3.heap.size, 0, none⟩)] 85)) wm.heap.size (.slice (some ⟨wd.heap.size, 0, none⟩) 1 1) [some (w3.heap.size)] := by
              have := row1 wd (b := wm.heap.size) HU0.size (w3.heap.size)
              simpa [cls, pc, pa] using this
            go_simp
            refine hK.out _ _ ((KB.out _ (HU0.alloc (.cells #[.pointer (some ⟨w3.heap.size, 0, none⟩)] 85))).2.cell1 3 _ rfl) (fun hHeld => ?_)
            clear hK K
            (try simp only [Act.put, List.setIfInBounds_toArray, List.set_cons_zero, List.set_cons_succ])
            refine wpAnyH_ready (rs := [5, 12]) (by kernel_rfl) (by simp) ?_
            refine AllReadyH.cons rfl (fun K hK => ?_) ?_
            · have hE : RowQ ((wd.alloc (.cells #[.pointer (some ⟨w3.heap.size, 0, none⟩)] 85)).alloc (.cells #[] 85)) wm.heap.size (.slice (some ⟨wd.heap.size + 1, 0, none⟩) 0 0) [] := by
                have := row0 (wd.alloc (.cells #[.pointer (some ⟨w3.heap.size, 0, none⟩)] 85)) (b := wm.heap.size) (HU0.alloc (.cells #[.pointer (some ⟨w3.heap.size, 0, none⟩)] 85)).size
                simpa [cls] using this
              have hB := row_upd hB ((Upd.refl Non _).alloc (.cells #[] 85)) (fun _ _ e => e)
              go_simp
              refine hK.out _ _ ((KB.out _ ((HU0.alloc (.cells #[.pointer (some ⟨w3.heap.size, 0, none⟩)] 85)).alloc (.cells #[] 85))).2.cell1 3 _ rfl) (fun hHeld => ?_)
              clear hK K
              (try simp only [Act.put, List.setIfInBounds_toArray, List.set_cons_zero, List.set_cons_succ])
              refine wpAnyH_ready (rs := [12]) (by kernel_rfl) (by simp) ?_
              refine AllReadyH.cons rfl (fun K hK => ?_) ?_
              · have c12 := (KB.out _ ((HU0.alloc (.cells #[.pointer (some ⟨w3.heap.size, 0, none⟩)] 85)).alloc (.cells #[] 85))).1.cell1 i _ hu
                go_simp
                refine hK.out _ _ ((KB.out _ ((HU0.alloc (.cells #[.pointer (some ⟨w3.heap.size, 0, none⟩)] 85)).alloc (.cells #[] 85))).2.cell1 3 _ rfl) (fun hHeld => ?_)
                clear c12
                clear hK K
                (try simp only [Act.put, List.setIfInBounds_toArray, List.set_cons_zero, List.set_cons_succ])
                refine wpAnyH_ready (rs := [13]) (by kernel_rfl) (by simp) ?_
                refine AllReadyH.cons rfl (fun K hK => ?_) ?_
                · refine step_append_q (by rfl) _ _ (by rfl) (by rfl) (by rfl) hE ((HU0.alloc (.cells #[.pointer (some ⟨w3.heap.size, 0, none⟩)] 85)).alloc (.cells #[] 85)).size (row_upd HR.out ((HU0.alloc (.cells #[.pointer (some ⟨w3.heap.size, 0, none⟩)] 85)).alloc (.cells #[] 85)) (fun _ _ e => e)) hBND.1 ?_
                  intro vA wA hA hUA
                  have HUA : Upd Non wm wA := Upd.then ((HU0.alloc (.cells #[.pointer (some ⟨w3.heap.size, 0, none⟩)] 85)).alloc (.cells #[] 85)) hUA (fun a ha hs => absurd (row_blk hE a hs).1 (by omega))
                  have hB := row_upd hB hUA (fun a ha ha' => absurd (Option.some.inj (show (some (wd.heap.size) : Option Nat) = some (wd.heap.size + 1) from ha.trans ha'.symm)) (by omega))
                  refine hK.out _ _ ((KB.out _ HUA).2.cell1 3 _ rfl) (fun hHeld => ?_)
                  clear hUA hE
                  clear hK K
                  (try simp only [Act.put, List.setIfInBounds_toArray, List.set_cons_zero, List.set_cons_succ])
                  refine wpAnyH_ready (rs := [16]) (by kernel_rfl) (by simp) ?_
                  refine AllReadyH.cons rfl (fun K hK => ?_) ?_
                  · refine step_append_q (by rfl) _ _ (by rfl) (by rfl) (by rfl) hA HUA.size hB hBND.2 ?_
                    intro vN wN hN hUN
                    have HUN : Upd Non wm wN := Upd.then HUA hUN (fun a ha hs => absurd (row_blk hA a hs).1 (by omega))
                    obtain ⟨ya, yc, hy9⟩ := rowq_len hN
                    obtain ⟨yn, hyn⟩ : ∃ x, ([] ++ L0 ++ [some w3.heap.size]).length = x := ⟨_, rfl⟩
                    rw [hyn] at hy9
                    subst hy9
                    refine hK.out _ _ ((KB.out _ HUN).2.cell1 3 _ rfl) (fun hHeld => ?_)
                    clear hUN hA hB
                    clear hK K
                    (try simp only [Act.put, List.setIfInBounds_toArray, List.set_cons_zero, List.set_cons_succ])
                    refine wpAnyH_take (i := 17) (v := ?_) (by simp only [List.getElem?_toArray, List.getElem?_cons_zero, List.getElem?_cons_succ]; rfl) (by kernel_rfl) (by kernel_rfl) (by kernel_rfl) (by intro _ _ _ h; exact h) (Or.inl ⟨by rfl, ?_⟩) (by assumption) ?_
                    rotate_left
                    · intro w hSw; (try dsimp only at hSw); go_simp; (try with_reducible rfl)
                    (try simp only [Act.put, List.setIfInBounds_toArray, List.set_cons_zero, List.set_cons_succ])
                    refine wpAnyH_ready (rs := [18]) (by kernel_rfl) (by simp) ?_
                    refine AllReadyH.cons rfl (fun K hK => ?_) ?_
                    · have kr := (KB.out _ HUN).1
                      have kc := (KB.out _ HUN).2
                      have c8 := kr.cell1 i _ hu
                      have z8 := kr.frozen i
                      have ncr := kc.ne kr (by decide)
                      go_simp
                      refine hK.out _ _ ((kc.other (a := ⟨R.lb, i, none⟩) ncr _).cell1 3 _ rfl) (fun hHeld => ?_)
                      clear c8 z8 kr kc ncr
                      clear hK K
                      (try simp only [Act.put, List.setIfInBounds_toArray, List.set_cons_zero, List.set_cons_succ])
                      refine wpAnyH_done (by kernel_rfl) ?_ _
                      have HPm := FIN9.out _ _ HUN hN
                      clear hN HUN hHeld
                      obtain ⟨w5, hw5⟩ : ∃ W, wN.setCell ⟨R.lb, i, none⟩ (.slice ya yn yc) = W := ⟨_, rfl⟩
                      rw [hw5] at HPm
                      (try rw [hw5])
                      clear hw5
                      go_wp2_with (go_at_call 61; refine HPm.mono ?_; rintro e9 w6 ⟨rfl, hRo⟩)
                      refine bodyPost_ret (v := .tuple #[.int .i64 ((s.P.length : Int) + 1), .int .i64 0]) (by simp [results, Try.results30, go_sem]) rfl ⟨rfl, ?_⟩
                      rw [eN']
                      exact hRo
                    exact AllReadyH.nil
                  exact AllReadyH.nil
                exact AllReadyH.nil
              exact AllReadyH.nil
            refine AllReadyH.cons rfl (fun K hK => ?_) ?_
            · have c12 := (KB.out _ (HU0.alloc (.cells #[.pointer (some ⟨w3.heap.size, 0, none⟩)] 85))).1.cell1 i _ hu
              go_simp
              refine hK.out _ _ ((KB.out _ (HU0.alloc (.cells #[.pointer (some ⟨w3.heap.size, 0, none⟩)] 85))).2.cell1 3 _ rfl) (fun hHeld => ?_)
              clear c12
              clear hK K
              (try simp only [Act.put, List.setIfInBounds_toArray, List.set_cons_zero, List.set_cons_succ])
              refine wpAnyH_ready (rs := [5]) (by kernel_rfl) (by simp) ?_
              refine AllReadyH.cons rfl (fun K hK => ?_) ?_
              · have hE : RowQ ((wd.alloc (.cells #[.pointer (some ⟨w3.heap.size, 0, none⟩)] 85)).alloc (.cells #[] 85)) wm.heap.size (.slice (some ⟨wd.heap.size + 1, 0, none⟩) 0 0) [] := by
                  have := row0 (wd.alloc (.cells #[.pointer (some ⟨w3.heap.size, 0, none⟩)] 85)) (b := wm.heap.size) (HU0.alloc (.cells #[.pointer (some ⟨w3.heap.size, 0, none⟩)] 85)).size
                  simpa [cls] using this
                have hB := row_upd hB ((Upd.refl Non _).alloc (.cells #[] 85)) (fun _ _ e => e)
                go_simp
                refine hK.out _ _ ((KB.out _ ((HU0.alloc (.cells #[.pointer (some ⟨w3.heap.size, 0, none⟩)] 85)).alloc (.cells #[] 85))).2.cell1 3 _ rfl) (fun hHeld => ?_)
                clear hK K
                (try simp only [Act.put, List.setIfInBounds_toArray, List.set_cons_zero, List.set_cons_succ])
                refine wpAnyH_ready (rs := [13]) (by kernel_rfl) (by simp) ?_
                refine AllReadyH.cons rfl (fun K hK => ?_) ?_
                · refine step_append_q (by rfl) _ _ (by rfl) (by rfl) (by rfl) hE ((HU0.alloc (.cells #[.pointer (some ⟨w3.heap.size, 0, none⟩)] 85)).alloc (.cells #[] 85)).size (row_upd HR.out ((HU0.alloc (.cells #[.pointer (some ⟨w3.heap.size, 0, none⟩)] 85)).alloc (.cells #[] 85)) (fun _ _ e => e)) hBND.1 ?_
                  intro vA wA hA hUA
                  have HUA : Upd Non wm wA := Upd.then ((HU0.alloc (.cells #[.pointer (some ⟨w3.heap.size, 0, none⟩)] 85)).alloc (.cells #[] 85)) hUA (fun a ha hs => absurd (row_blk hE a hs).1 (by omega))
                  have hB := row_upd hB hUA (fun a ha ha' => absurd (Option.some.inj (show (some (wd.heap.size) : Option Nat) = some (wd.heap.size + 1) from ha.trans ha'.symm)) (by omega))
                  refine hK.out _ _ ((KB.out _ HUA).2.cell1 3 _ rfl) (fun hHeld => ?_)
                  clear hUA hE
                  clear hK K
                  (try simp only [Act.put, List.setIfInBounds_toArray, List.set_cons_zero, List.set_cons_succ])
                  refine wpAnyH_ready (rs := [16]) (by kernel_rfl) (by simp) ?_
                  refine AllReadyH.cons rfl (fun K hK => ?_) ?_
                  · refine step_append_q (by rfl) _ _ (by rfl) (by rfl) (by rfl) hA HUA.size hB hBND.2 ?_
                    intro vN wN hN hUN
                    have HUN : Upd Non wm wN := Upd.then HUA hUN (fun a ha hs => absurd (row_blk hA a hs).1 (by omega))
                    obtain ⟨ya, yc, hy9⟩ := rowq_len hN
                    obtain ⟨yn, hyn⟩ : ∃ x, ([] ++ L0 ++ [some w3.heap.size]).length = x := ⟨_, rfl⟩
                    rw [hyn] at hy9
                    subst hy9
                    refine hK.out _ _ ((KB.out _ HUN).2.cell1 3 _ rfl) (fun hHeld => ?_)
                    clear hUN hA hB
                    clear hK K
                    (try simp only [Act.put, List.setIfInBounds_toArray, List.set_cons_zero, List.set_cons_succ])
                    refine wpAnyH_take (i := 17) (v := ?_) (by simp only [List.getElem?_toArray, List.getElem?_cons_zero, List.getElem?_cons_succ]; rfl) (by kernel_rfl) (by kernel_rfl) (by kernel_rfl) (by intro _ _ _ h; exact h) (Or.inl ⟨by rfl, ?_⟩) (by assumption) ?_
                    rotate_left
                    · intro w hSw; (try dsimp only at hSw); go_simp; (try with_reducible rfl)
                    (try simp only [Act.put, List.setIfInBounds_toArray, List.set_cons_zero, List.set_cons_succ])
                    refine wpAnyH_ready (rs := [18]) (by kernel_rfl) (by simp) ?_
                    refine AllReadyH.cons rfl (fun K hK => ?_) ?_
                    · have kr := (KB.out _ HUN).1
                      have kc := (KB.out _ HUN).2
                      have c8 := kr.cell1 i _ hu
                      have z8 := kr.frozen i
                      have ncr := kc.ne kr (by decide)
                      go_simp
                      refine hK.out _ _ ((kc.other (a := ⟨R.lb, i, none⟩) ncr _).cell1 3 _ rfl) (fun hHeld => ?_)
                      clear c8 z8 kr kc ncr
                      clear hK K
                      (try simp only [Act.put, List.setIfInBounds_toArray, List.set_cons_zero, List.set_cons_succ])
                      refine wpAnyH_done (by kernel_rfl) ?_ _
                      have HPm := FIN9.out _ _ HUN hN
                      clear hN HUN hHeld
                      obtain ⟨w5, hw5⟩ : ∃ W, wN.setCell ⟨R.lb, i, none⟩ (.slice ya yn yc) = W := ⟨_, rfl⟩
                      rw [hw5] at HPm
                      (try rw [hw5])
                      clear hw5
                      go_wp2_with (go_at_call 61; refine HPm.mono ?_; rintro e9 w6 ⟨rfl, hRo⟩)
                      refine bodyPost_ret (v := .tuple #[.int .i64 ((s.P.length : Int) + 1), .int .i64 0]) (by simp [results, Try.results30, go_sem]) rfl ⟨rfl, ?_⟩
                      rw [eN']
                      exact hRo
                    exact AllReadyH.nil
                  exact AllReadyH.nil
                exact AllReadyH.nil
              exact AllReadyH.nil
            exact AllReadyH.nil
          exact AllReadyH.nil
end
end Go.Proofs.Ytlkfabejecgfgaa
