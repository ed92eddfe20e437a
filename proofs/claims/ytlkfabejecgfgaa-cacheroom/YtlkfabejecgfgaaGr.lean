import Derived.Test.YtlkfabejecgfgaaPd
import Derived.Test.YtlkfabejecgfgaaGb
import Derived.Deep.DeepCutAuto
import Derived.Deep.RegionHeldLaw
import Derived.BigQuiet
import Derived.Deep.LoopGhost
import Derived.Lib.AppendZeros
namespace Go.Proofs.Ytlkfabejecgfgaa
open Go.RowKit Go.Maps
set_option linter.unusedVariables false
set_option linter.unusedSimpArgs false
def ic (z : Int) : List Value := [.int .i64 z]
theorem ic_k : ∀ x, (ic x).length = 1 := fun _ => rfl
theorem ic_1 : ∀ x, ∀ u ∈ ic x, u.oneCell' = true := by
  intro x u hu
  simp [ic] at hu
  subst hu
  rfl
theorem info3 : (Try.prog.info? 3).map (fun i => (i.zero, i.size, i.bytes)) = some (some (.int .i64 0), 1, 8) := by kernel_rfl
abbrev RowI (w : World) (base : Nat) (v : Value) (l : List Int) : Prop := w.ownsRow base 3 1 v l.length (cls ic l)
/-- The pins that are there. -/
def pinL (a n : Nat) : List Int := (List.range (n - a)).map (fun j : Nat => (a : Int) + 1 + (j : Int))
theorem pinL_len (a n : Nat) : (pinL a n).length = n - a := by simp [pinL]
theorem pinL_get {a n j : Nat} (h : j < n - a) : (pinL a n)[j]? = some ((a : Int) + 1 + j) := by
  unfold pinL; rw [List.getElem?_map, List.getElem?_range h]; rfl
theorem pinL_snoc {a n : Nat} (h : a ≤ n) : pinL a n ++ [(n : Int) + 1] = pinL a (n + 1) := by
  unfold pinL
  rw [show n + 1 - a = n - a + 1 by omega, List.range_succ, List.map_append]
  congr 1
  simp only [List.map_cons, List.map_nil, List.cons.injEq, and_true]
  omega
theorem cb_row {w : World} {L : Lo} {s : Cs} (h : Ca w L s) {base : Nat} {v : Value} {n : Nat} {xs : List Value} (hR : w.ownsRow base 3 1 v n xs) {k : Nat} (hk : Cb L s k) : v.ownBlock ≠ some k := by
  intro hv
  have hm : ∀ {kt : TypeId} {α : Type} {kl : α → Lit} {b : Nat} {f : α → Option Nat} {D : DataW Unit}, KM kt kl w b f D → k ≠ b := by
    rintro kt α kl b f D hD rfl
    obtain ⟨n', es, clock, hb, _⟩ := hD.own
    rcases hR.2 with ⟨rfl, _⟩ | ⟨g, cap, cur, rfl, _, hgg, _⟩
    · cases hv
    · simp [Value.ownBlock] at hv
      subst hv
      rw [hgg] at hb
      cases hb
  rcases hk with e | e | ⟨i, x, hx, hb⟩
  · exact row_ne hR h.blk (by decide) k hv e
  · obtain ⟨D, hD, _⟩ := h.pin
    exact hm hD e
  · obtain ⟨rc, _, hS⟩ := h.row
    have S := hS i x hx
    rcases hb with e | e | ⟨j, hj, e⟩
    · obtain ⟨D, hD, _⟩ := S.map
      exact hm hD e
    · exact row_ne hR S.row (by decide) k hv e
    · exact row_ne hR (S.ent j _ (List.getElem?_eq_getElem hj)) (by decide) k hv e
theorem put_keep (s : Cs) (k : ByteArray) (v : Value) (ch : Nat) : (putC s k v ch).2.2.r = s.r ∧ (putC s k v ch).2.2.st = s.st ∧ (putC s k v ch).2.2.xs.length = s.xs.length := by
  unfold putC
  split
  · exact ⟨rfl, rfl, rfl⟩
  · split
    · exact ⟨rfl, rfl, by simp [Cs.setx]⟩
    · exact ⟨rfl, rfl, by simp [Cs.give, Cs.setx]⟩
theorem free_keep (s : Cs) (p : Int) : (freeC s p).2.r = s.r ∧ (freeC s p).2.st = s.st ∧ (freeC s p).2.xs.length = s.xs.length := by
  unfold freeC
  cases hp : s.pin p with
  | none => exact ⟨rfl, rfl, rfl⟩
  | some j => exact ⟨rfl, rfl, by simp [Cs.unp, Cs.setx]⟩
/-- What is kept of the form. -/
structure Fm (s : Cs) (m room : Nat) (st : Bool) : Prop where
  r : s.r = room / m
  t : s.st = st
  n : s.xs.length = m
theorem Fm.put {s : Cs} {m room : Nat} {st : Bool} (h : Fm s m room st) (k : ByteArray) (v : Value) (ch : Nat) : Fm (putC s k v ch).2.2 m room st := by
  obtain ⟨a, b, c⟩ := put_keep s k v ch
  exact ⟨a.trans h.r, b.trans h.t, c.trans h.n⟩
theorem Fm.free {s : Cs} {m room : Nat} {st : Bool} (h : Fm s m room st) (p : Int) : Fm (freeC s p).2 m room st := by
  obtain ⟨a, b, c⟩ := free_keep s p
  exact ⟨a.trans h.r, b.trans h.t, c.trans h.n⟩
theorem Ca.drewN {w : World} {L : Lo} {s : Cs} (h : Ca w L s) (n : Nat) : Ca (w.drewN n) L s :=
  h.upd (S := Non) ⟨rfl, rfl, rfl, Nat.le_refl _, fun _ _ _ => rfl⟩ (fun _ _ e => e)
theorem upd_drewN (w : World) (n : Nat) : Upd Non w (w.drewN n) := ⟨rfl, rfl, rfl, Nat.le_refl _, fun _ _ _ => rfl⟩
set_option maxRecDepth 100000 in
set_option maxHeartbeats 16000000 in
theorem room_walk (HLv : ∀ w, Calls Try.prog 9 #[] w fun e w' => e = .returned (.bool true) ∧ Below w.heap.size w w') (w : World) {n : Int} {room : Nat} (hr : room < 18446744073709551616) {st : Bool} (hn : I64 n) (v : Value) (xs : List Ac) (h : RdA w v xs) (hok : ∀ x ∈ xs, AcOk x) (hln : xs.length ≤ 3000000000000) :
    Calls Try.prog 4 #[.agg #[.int .i64 n, .int .u64 room, .bool st], v] w fun e w' => e = .returned (.bool true) ∧ Below w.heap.size w w' := by
  obtain ⟨a, c, rfl⟩ := h.len
  obtain ⟨W1, hW1⟩ : ∃ W, w.alloc (.cells #[.int .i64 n, .int .u64 room, .bool st] 24) = W := ⟨_, rfl⟩
  have B1 : Below w.heap.size w W1 := by rw [← hW1]; exact (Below.refl _ w).alloc (Nat.le_refl _) _
  have F1 : Blk W1 w.heap.size 24 [.int .i64 n, .int .u64 room, .bool st] := by rw [← hW1]; exact Blk.new w 24 _
  have g0 := F1.cell1 0 _ rfl
  have g1 := F1.cell1 1 _ rfl
  have g2 := F1.cell1 2 _ rfl
  by_cases hv : n < 1 ∨ 64 < n
  · have HN := new_no W1 hv (room := room) (st := st)
    clear hln hok h
    by_cases hv1 : n < 1
    · clear hv
      go_enter Try.func4, Try.ntmps4
      go_wp2_with (first
        | (go_at_call 7; refine HN.mono ?_; rintro e w2 ⟨rfl, hw⟩; have hw' := hw.symm; subst hw')
        | (go_at_call 9; refine (HLv _).mono ?_; rintro e w3 ⟨rfl, hb3⟩))
      go_ret
      exact ⟨rfl, B1.trans (hb3.mono B1.size)⟩
    · have hv2 : 64 < n := by omega
      clear hv
      go_enter Try.func4, Try.ntmps4
      go_wp2_with (first
        | (go_at_call 7; refine HN.mono ?_; rintro e w2 ⟨rfl, hw⟩; have hw' := hw.symm; subst hw')
        | (go_at_call 9; refine (HLv _).mono ?_; rintro e w3 ⟨rfl, hb3⟩))
      go_ret
      exact ⟨rfl, B1.trans (hb3.mono B1.size)⟩
  · obtain ⟨m, rfl⟩ : ∃ m : Nat, n = m := ⟨n.toNat, by omega⟩
    have h1 : 1 ≤ m := by omega
    have h2 : m ≤ 64 := by omega
    have HN := k_new W1 h1 h2 hr (st := st)
    go_enter Try.func4, Try.ntmps4
    go_wp2_with (go_at_call 7; refine HN.mono ?_; rintro e w2 ⟨L0, rfl, K2⟩; clear HN)
    have R0 : RowI (w2.alloc (.cells #[] 3)) W1.heap.size (.slice (some ⟨w2.heap.size, 0, none⟩) 0 0) (pinL 0 0) := World.ownsRow_made (base := W1.heap.size) (e := 3) (size := 1) w2 #[] 0 K2.bel.size (by unfold maxLen; omega) rfl
    have K3 : K0 W1 (w2.alloc (.cells #[] 3)) L0 (newC m room st) := K2.upd ((Upd.refl Non _).alloc _) (fun _ _ e => e) (fun _ e => e.elim)
    have M0 : Rm (newC m room st) 0 := Rm.new
    have E0 : Fm (newC m room st) m room st := ⟨rfl, rfl, by simp [newC]⟩
    have hP0 : (newC m room st).P.length = 0 := rfl
    obtain ⟨cb, hcb0⟩ : ∃ cb, L0.cb = cb := ⟨_, rfl⟩
    rw [hcb0]
    generalize newC m room st = s0 at *
    clear g0 g1 g2 hW1 K2
    go_loopg [7, 8] xs.length (fun gh vv ii wr => ∃ (k : Nat) (L : Lo) (s : Cs) (b : Nat), gh = xs.length - k ∧ ii = .int .i64 k ∧ k ≤ xs.length ∧ L.cb = cb ∧ K0 W1 wr L s ∧ Rm s b ∧ Fm s m room st ∧ RowI wr W1.heap.size vv (pinL b s.P.length) ∧ s.P.length ≤ k)
    case atStart => exact ⟨0, L0, s0, 0, rfl, rfl, Nat.zero_le _, hcb0, K3, M0, E0, by rw [hP0]; exact R0, by omega⟩
    case round =>
      clear R0 K3 M0 E0 hP0 hcb0
      obtain ⟨k, L, s, b, hgk, rfl, hkl, hcb, K, M, E, hR, hP⟩ := hrel
      obtain ⟨va, vc, hvv⟩ := row_slice hR
      rw [pinL_len] at hvv
      subst hvv
      by_cases hlt : k < xs.length
      · have hlt' : (k : Int) < (xs.length : Int) := by omega
        obtain ⟨bb, off, cap, e, hbl, hat⟩ := h.at hlt
        cases e
        have hx := hok _ (List.getElem_mem hlt)
        have KEEP : Hid (∀ W, Below W1.heap.size W1 W → AAt W bb (off + k * 5) xs[k]) := fun W hW => hat.below hbl (B1.trans (hW.mono B1.size))
        clear hat
        generalize xs[k] = x at *
        obtain ⟨ak, pn, ky, zv', nn⟩ := x
        obtain ⟨o1, o2, o3, o4, o5, o6⟩ := hx
        obtain ⟨a0, a1, a2, a3, a4⟩ := KEEP.out _ K.bel
        dsimp only at *
        by_cases hak : 1 < ak
        · go_wp2_with fail
          go_roundg (xs.length - (k + 1))
          case measure => omega
          case rel => exact ⟨k + 1, L, s, b, rfl, by go_num, hlt, hcb, K, M, E, hR, by omega⟩
        · have HP := k_put (K.upd (Upd.drew (Upd.refl Non wr)) (fun _ _ e => e) (fun _ e => e.elim)) (k := ky) (z := zv') (ch := nn) o6 o3 (by omega)
          rw [hcb] at HP
          have M2 := M.put K.ci ky (.int .u64 zv') o6 (by omega)
          have E2 := E.put ky (.int .u64 zv') nn
          have hW2 := put_ways s ky (.int .u64 zv') nn
          generalize putC s ky (.int .u64 zv') nn = pr at *
          obtain ⟨p1, p2, s2⟩ := pr
          dsimp only at *
          go_upto_region 9 with fail
          go_region_held_law (fun w' => w'.cell? ⟨bb, off + k * 5 + 2, none⟩ = some (.string ky) ∧ w'.cell? ⟨bb, off + k * 5 + 3, none⟩ = some (.int .u64 zv') ∧ w'.cell? ⟨bb, off + k * 5 + 4, none⟩ = some (.int .u64 nn))
            (first
              | (go_keep; done)
              | exact ⟨(KEEP.out _ K3.bel).2.2.1, (KEEP.out _ K3.bel).2.2.2.1, (KEEP.out _ K3.bel).2.2.2.2⟩)
            ((go_at_call 14; refine HP.mono ?_; rintro e w3 ⟨rfl, L3, K3, hcb3, U3, X3⟩))
          have hR3 : RowI w3 W1.heap.size (.slice va (s.P.length - b) vc) (pinL b s.P.length) := row_upd hR ((Upd.drew (Upd.refl (Cb L s) wr)).trans U3) (fun j hj hc => cb_row K.ca hR hc hj)
          have hbP := M.al
          clear HP a0 a1 a2 a3 a4 hR
          go_upto_if 73 with fail
          go_cut [7] (fun vv wc => ∃ va' vc', vv = .slice va' (s2.P.length - b) vc' ∧ Hid (K0 W1 wc L3 s2 ∧ RowI wc W1.heap.size (.slice va' (s2.P.length - b) vc') (pinL b s2.P.length) ∧ s2.P.length ≤ k + 1))
          case first =>
            rcases hW2 with ⟨q1, _, q3⟩ | ⟨q1, _, _, _, q3⟩ | ⟨q1, _, q2, q3⟩
            · have q4 : Hid (s2.P.length = s.P.length) := by show s2.P.length = s.P.length; rw [q3]
              clear q3
              subst q1
              go_wp2_with fail
              go_meet
              case rel => exact ⟨va, vc, by rw [q4.out], K3, by rw [q4.out]; exact hR3, by rw [q4.out]; omega⟩
            · have q4 : Hid (s2.P.length = s.P.length) := by show s2.P.length = s.P.length; rw [q3]
              clear q3
              subst q1
              go_wp2_with fail
              go_meet
              case rel => exact ⟨va, vc, by rw [q4.out], K3, by rw [q4.out]; exact hR3, by rw [q4.out]; omega⟩
            · subst q1
              have BB : Blk (w3.alloc (.cells (ic p1).toArray 3)) w3.heap.size 3 (ic p1) := Blk.new w3 3 _
              obtain ⟨v', w9, hr9, hR9, hU9, ho9, _⟩ := push_g (P := Try.prog) ic_k ic_1 Try.underlying40 info3 rfl (by decide) (row_upd hR3 ((Upd.refl Non w3).alloc (.cells (ic p1).toArray 3)) (fun _ _ h => h)) (by have := K3.bel.size; simp; omega) BB 40 (by rw [pinL_len]; omega) (by rw [pinL_len]; unfold maxLen; omega)
              rw [q2, pinL_snoc hbP, ← q3] at hR9
              have K9 : K0 W1 w9 L3 s2 := by
                refine (K3.upd ((Upd.refl Non w3).alloc (.cells (ic p1).toArray 3)) (fun _ _ e => e) (fun _ e => e.elim)).upd hU9 (fun j hj hv => ?_) (fun j hv => ?_)
                · exact cb_row K3.ca hR3 hj hv
                · exact (row_blk hR3 j hv).1
              obtain ⟨va', vc', hv'⟩ := row_slice hR9
              rw [pinL_len] at hv'
              subst hv'
              have hr8 : (Builtin.append_ #[40, 40] 40 #[.slice va (s.P.length - b) vc, .slice (some ⟨w3.heap.size, 0, none⟩) 1 1]).run Try.prog (w3.alloc (.cells #[.int .i64 p1] 3)) = .ok (.slice va' (s2.P.length - b) vc') w9 := hr9
              have q3' : Hid (s2.P.length = s.P.length + 1) := q3
              clear hr9 q3 q2 hU9 ho9 BB
              go_wp2_with (at_builtin; refine Lib.wpList_append_run _ rfl _ _ _ _ rfl _ _ rfl rfl _ _ hr8 ?_)
              go_meet
              case rel => exact ⟨va', vc', rfl, K9, hR9, by rw [q3'.out]; omega⟩
          case rest =>
            obtain ⟨va', vc', rfl, hcut'⟩ := hcut
            clear hR3 K3 U3 X3 hW2
            obtain ⟨K4, hR4, hP4⟩ := hcut'.out
            have F4 := F1.upd (S := Non) (Upd.ofBelow K4.bel) (fun e => e)
            have f1 := F4.cell1 1 _ rfl
            have f2 := F4.cell1 2 _ rfl
            have hCU : sumU s2.xs ≤ room ∨ st = false := by
              cases hst : st with
              | false => exact .inr rfl
              | true => exact .inl (M2.strict (E2.t.trans hst) (by rw [E2.n]; exact E2.r))
            have HC : ∀ n, Calls Try.prog 15 #[.pointer (some ⟨cb, 0, none⟩)] (wc.drewN n) fun e w' => e = .returned (.int .u64 (sumU s2.xs)) ∧ w' = wc.drewN n := fun n => by
              have := charge_any (K4.ca.drewN n) K4.ci.n2
              rw [hcb3] at this; exact this
            have K4' : Hid _ := K4
            have hR4' : Hid _ := hR4
            clear K4 hR4 hcut'
            go_upto_region 12 with fail
            go_cut [86] (fun t wd => t = .bool false ∧ Hid (K0 W1 wd L3 s2 ∧ RowI wd W1.heap.size (.slice va' (s2.P.length - b) vc') (pinL b s2.P.length)))
            case first =>
              have hsts : st = false ∨ st = true := by cases st <;> simp
              rcases hsts with hst | hst
              · have f3 : wc.cell? ⟨w.heap.size, 2, none⟩ = some (.bool false) := by rw [← hst]; exact f2
                clear f2 hst hCU
                first | go_quiet (fail) | go_big_quiet (fail)
                go_wp2_with fail
                go_meet
                case rel => exact ⟨rfl, K4'.out.upd (upd_drewN wc nq) (fun _ _ e => e) (fun _ e => e.elim), row_upd hR4'.out (upd_drewN wc nq) (fun _ _ e => e)⟩
              · have f3 : wc.cell? ⟨w.heap.size, 2, none⟩ = some (.bool true) := by rw [← hst]; exact f2
                have hle : sumU s2.xs ≤ room := by
                  rcases hCU with h1 | h1
                  · exact h1
                  · rw [hst] at h1; cases h1
                clear f2 hst hCU
                generalize sumU s2.xs = CU at *
                have hle' : ¬ (room : Int) < (CU : Int) := by omega
                go_quiet ((go_at_call 15; exact Calls.quiet_of_same (HC _)))
                go_wp2_with fail
                go_meet
                case rel => exact ⟨rfl, K4'.out.upd (upd_drewN wc nq) (fun _ _ e => e) (fun _ e => e.elim), row_upd hR4'.out (upd_drewN wc nq) (fun _ _ e => e)⟩
            case rest =>
              clear K4' hR4' HC f1 f2 F4 hCU
              obtain ⟨rfl, hh⟩ := hcut
              obtain ⟨K5, hR5⟩ := hh.out
              rename_i wd
              have hak0 := (KEEP.out _ K5.bel).1
              dsimp only at hak0
              by_cases hk1 : ak = 1
              · subst hk1
                have K5' : Hid _ := K5
                have hR5' : Hid _ := hR5
                obtain ⟨N, hN⟩ : ∃ N, s2.P.length = N := ⟨_, rfl⟩
                have hbN : b ≤ N := by rw [← hN]; exact M2.al
                rw [hN] at hR5' hP4
                clear K5 hR5 hh
                go_wp2_with fail
                rw [hN]
                clear hak0
                go_loopg [11] (N - b) (fun gh jj wr => ∃ (j : Nat) (t : Cs), gh = N - b - j ∧ jj = .int .i64 j ∧ j ≤ N - b ∧ K0 W1 wr L3 t ∧ Rm t (b + j) ∧ Fm t m room st ∧ t.P.length = N ∧ RowI wr W1.heap.size (.slice va' (N - b) vc') (pinL b N))
                case atStart => exact ⟨0, s2, by omega, rfl, Nat.zero_le _, K5'.out, M2, E2, hN, hR5'.out⟩
                case round =>
                  clear K5' hR5'
                  obtain ⟨j, t, hgj, rfl, hjl, K6, M6, E6, hN6, hR6⟩ := hrel
                  by_cases hj : j < N - b
                  · have hj' : (j : Int) < ((N - b : Nat) : Int) := by omega
                    obtain ⟨g, hg, cg⟩ : ∃ g, va' = some ⟨g, 0, none⟩ ∧ wr.cell? ⟨g, j, none⟩ = some (.int .i64 ((b : Int) + 1 + j)) := by
                      obtain ⟨a', c', e1, _, hrd, ho⟩ := row_rd ic_k hR6
                      injection e1 with e2 _ _
                      rw [← e2] at hrd ho
                      clear e2
                      obtain ⟨g, o, rfl, hAt⟩ := hrd.at_ (pinL_get hj)
                      have ho2 := (ho g o rfl).1
                      subst ho2
                      have := hAt 0 _ rfl
                      simp only [Nat.zero_add, Nat.mul_one, Nat.add_zero] at this
                      exact ⟨g, rfl, this⟩
                    subst hg
                    obtain ⟨p, hp⟩ : ∃ p : Int, (b : Int) + 1 + j = p := ⟨_, rfl⟩
                    have hpe : ((b + j : Nat) : Int) + 1 = p := by omega
                    obtain ⟨r1, r2⟩ := M6.free K6.ci (by omega)
                    rw [hpe] at r1 r2
                    have HF := k_free K6 (p := p) (by unfold I64; omega)
                    rw [r1, hcb3] at HF
                    have E7 := E6.free p
                    have hN7 := free_P t p
                    rw [hp] at cg
                    have hRk : Hid (∀ w', Upd (Cb L3 t) wr w' → RowI w' W1.heap.size (.slice (some ⟨g, 0, none⟩) (N - b) vc') (pinL b N)) := fun w' hU => row_upd hR6 hU (fun j hj hc => cb_row K6.ca hR6 hc hj)
                    generalize (freeC t p).2 = t7 at *
                    clear hR6 K6 hp hpe
                    go_wp2_with (go_at_call 16; refine HF.mono ?_; rintro e w7 ⟨rfl, K7, U7⟩; have hR7 := hRk.out _ U7)
                    go_roundg (N - b - (j + 1))
                    case measure => omega
                    case rel => exact ⟨j + 1, t7, rfl, by go_num, hj, K7, r2, E7, by rw [hN7]; exact hN6, hR7⟩
                  · have hj' : (j : Int) = ((N - b : Nat) : Int) := by omega
                    obtain rfl : j = N - b := by omega
                    rw [show b + (N - b) = N by omega] at M6
                    obtain ⟨s1, s3⟩ := Rm.all (s := t) (by rw [hN6]; exact M6) K6.ci (by rw [E6.n]; exact E6.r)
                    have HCp : ∀ n, Calls Try.prog 17 #[.pointer (some ⟨cb, 0, none⟩)] (wr.drewN n) fun e w' => e = .returned (.int .u64 (sumP t.xs)) ∧ w' = wr.drewN n := fun n => by
                      have := pinned_any (K6.ca.drewN n) K6.ci.n2
                      rw [hcb3] at this; exact this
                    have HCu : ∀ n, Calls Try.prog 15 #[.pointer (some ⟨cb, 0, none⟩)] (wr.drewN n) fun e w' => e = .returned (.int .u64 (sumU t.xs)) ∧ w' = wr.drewN n := fun n => by
                      have := charge_any (K6.ca.drewN n) K6.ci.n2
                      rw [hcb3] at this; exact this
                    rw [s1] at HCp
                    generalize sumU t.xs = CU at *
                    have hle' : ¬ (room : Int) < (CU : Int) := by omega
                    have F6 := F1.upd (S := Non) (Upd.ofBelow K6.bel) (fun e => e)
                    have f6 := F6.cell1 1 _ rfl
                    have K6' : Hid _ := K6
                    clear K6 hR6 s1
                    go_wp2_with fail
                    go_quiet ((first | (go_at_call 17; exact Calls.quiet_of_same (HCp _)) | (go_at_call 15; exact Calls.quiet_of_same (HCu _))))
                    go_wp2_with fail
                    go_roundg (xs.length - (k + 1))
                    case measure => omega
                    case rel => exact ⟨k + 1, L3, t, N, rfl, by go_num, hlt, hcb3, K6'.out.upd (upd_drewN _ _) (fun _ _ e => e) (fun _ e => e.elim), M6, E6, by rw [hN6]; exact (by unfold pinL; rw [Nat.sub_self]; exact World.ownsRow_nil _ _ _ _), by omega⟩
              · go_wp2_with fail
                go_roundg (xs.length - (k + 1))
                case measure => omega
                case rel => exact ⟨k + 1, L3, s2, b, rfl, by go_num, hlt, hcb3, K5, M2, E2, hR5, hP4⟩
      · have hlt' : (k : Int) = (xs.length : Int) := by omega
        obtain rfl : k = xs.length := by omega
        go_wp2_with (go_at_call 9; refine (HLv _).mono ?_; rintro e w6 ⟨rfl, hb6⟩)
        go_ret
        exact ⟨rfl, B1.trans ((K.bel.mono B1.size).trans (hb6.mono (Nat.le_trans B1.size K.bel.size)))⟩
end Go.Proofs.Ytlkfabejecgfgaa
