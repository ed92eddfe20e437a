/-
  Both tell the same.
-/
import Derived.Test.YtlkfabejecgfgaaYa
import Derived.Deep.DeepCutAuto
import Derived.Deep.RegionHeldLaw
import Derived.BigQuiet
import Derived.Deep.LoopGhost
namespace Go.Proofs.Ytlkfabejecgfgaa
open Go.RowKit Go.Maps
set_option linter.unusedVariables false
set_option linter.unusedSimpArgs false
section
variable {w0 w : World} {L : Lo} {s : Cs} {R : Lr} {room : Nat} {vs : List Vw} {pv : Value}
set_option maxRecDepth 100000 in
set_option maxHeartbeats 2000000 in
theorem keys_no1 (K : K0 w0 w L s) : Calls Try.prog 22 #[.pointer (some ⟨L.cb, 0, none⟩), .int .i64 (-1)] w fun e w' => e = .returned (.slice none 0 0) ∧ w' = w := by
  go_enter Try.func22, Try.ntmps22
  go_wp2_with fail
  go_ret
  exact ⟨rfl, rfl⟩
set_option maxRecDepth 100000 in
set_option maxHeartbeats 2000000 in
theorem keys_no2 (K : K0 w0 w L s) : Calls Try.prog 22 #[.pointer (some ⟨L.cb, 0, none⟩), .int .i64 s.xs.length] w fun e w' => e = .returned (.slice none 0 0) ∧ w' = w := by
  have c0 := K.ca.blk.cell1 0 _ rfl
  obtain ⟨n, hn⟩ : ∃ n, s.xs.length = n := ⟨_, rfl⟩
  rw [hn] at c0 ⊢
  have h0 : ¬ (n : Int) < 0 := by omega
  go_enter Try.func22, Try.ntmps22
  go_wp2_with fail
  go_ret
  exact ⟨rfl, rfl⟩
/-- A key that waits, in both. -/
theorem wait_at (D : Du w0 w L R room vs pv s s) {i : Nat} {x : Xs} (hx : s.xs[i]? = some x) : ∃ (u : Value) (a : Option Addr) (c : Nat), u = .slice a x.q.length c ∧ w.cell? ⟨R.wb, i, none⟩ = some u ∧ ∀ m, m < x.q.length → ∃ (g b : Nat), a = some ⟨g, 0, none⟩ ∧ w.cell? ⟨g, m, none⟩ = some (.pointer (some ⟨b, 0, none⟩)) ∧ w.cell? ⟨b, 0, none⟩ = some (.string ((ksX x).getD m ⟨#[]⟩)) := by
  have hi := (List.getElem?_eq_some_iff.1 hx).1
  obtain ⟨v, hv, V, _, _⟩ := D.r.get D.k.ci hx
  obtain ⟨wc, hB, hl, hc⟩ := D.r.rf.wr.ex
  obtain ⟨u, hu, hR, _⟩ := hc i hi
  rw [vws_get hv, V.q] at hR
  obtain ⟨a, c, hua⟩ := rowq_len hR
  have hbl : (bds R i x.q).length = x.q.length := by unfold bds; simp
  rw [hbl] at hua
  refine ⟨u, a, c, hua, hB.cell1 i _ hu, fun m hm => ?_⟩
  subst hua
  have hq := List.getElem?_eq_getElem hm
  obtain ⟨g, hg, cg⟩ := rowq_cell hR (j := m) (o := some (R.bd i x.q[m])) (by unfold bds; rw [List.getElem?_map, hq]; rfl)
  obtain ⟨e, he, _, _⟩ := ((D.k.ci.iv i x hx).qe x.q[m]).1 (List.getElem_mem hm)
  have I := D.r.rf.it i v x.q[m] e hv (by rw [V.e]; exact he)
  refine ⟨g, R.bd i x.q[m], hg, cg, ?_⟩
  have hk : (ksX x).getD m ⟨#[]⟩ = e.key := by
    unfold ksX
    rw [List.getD_eq_getElem?_getD, List.getElem?_map, hq]
    show (x.at x.q[m]).key = e.key
    rw [xat he]
  rw [hk]
  exact I.cell1 0 _ rfl
set_option maxRecDepth 100000 in
set_option maxHeartbeats 8000000 in
theorem tells_any (D : Du w0 w L R room vs pv s s) (C : Cw s) :
    Calls Try.prog 13 #[.pointer (some ⟨L.cb, 0, none⟩), .pointer (some ⟨R.cb, 0, none⟩)] w fun e w' => e = .returned (.bool true) ∧ Upd Non w w' := by
  have ci := D.k.ci
  have hpl := D.r.pl
  have HS := rsums_any D.r ci C
  have HC := charge_any D.k.ca ci.n2
  have HPn := pinned_any D.k.ca ci.n2
  have HL := len_any D.k.ca ci.n2 (fun m hm => by
    have := sumC_bd ci hpl m hm
    have := ci.n2
    omega)
  have HK1 := keys_no1 D.k
  have HK2 := keys_no2 D.k
  have cn := D.r.rf.blk.cell1 0 _ rfl
  have n2 := ci.n2
  obtain ⟨n, hn⟩ : ∃ n, s.xs.length = n := ⟨_, rfl⟩
  obtain ⟨cb, hcb⟩ : ∃ cb, L.cb = cb := ⟨_, rfl⟩
  obtain ⟨rb, hrb⟩ : ∃ rb, R.cb = rb := ⟨_, rfl⟩
  rw [hn] at HK2 cn n2
  rw [hcb] at HC HPn HL HK1 HK2
  rw [hrb] at HS cn
  rw [hcb, hrb]
  have D' : Hid _ := D
  clear D
  generalize sumU s.xs = A at *
  generalize sumP s.xs = B at *
  generalize sumC s.xs = Q at *
  go_enter Try.func13, Try.ntmps13
  go_wp2_with (first
    | (go_at_call 36; refine HS.mono ?_; rintro e w3 ⟨rfl, hw⟩; have hw' := hw.symm; subst hw'; clear HS)
    | (go_at_call 15; refine HC.mono ?_; rintro e w3 ⟨rfl, hw⟩; have hw' := hw.symm; subst hw'; clear HC)
    | (go_at_call 17; refine HPn.mono ?_; rintro e w3 ⟨rfl, hw⟩; have hw' := hw.symm; subst hw'; clear HPn)
    | (go_at_call 37; refine HL.mono ?_; rintro e w3 ⟨rfl, hw⟩; have hw' := hw.symm; subst hw'; clear HL)
    | (go_at_call 22; have hq := HK1; clear hq; refine HK1.mono ?_; rintro e w3 ⟨rfl, hw⟩; have hw' := hw.symm; subst hw'; clear HK1)
    | (go_at_call 22; refine HK2.mono ?_; rintro e w3 ⟨rfl, hw⟩; have hw' := hw.symm; subst hw'; clear HK2))
  go_loopg [8] n (fun gh ii wr => ∃ m : Nat, gh = n - m ∧ ii = .int .i64 m ∧ m ≤ n ∧ Upd Non w wr)
  case atStart => exact ⟨0, by omega, rfl, Nat.zero_le _, Upd.refl _ _⟩
  case round =>
    obtain ⟨m, hgm, rfl, hmn, hU⟩ := hrel
    have D1 := D'.out.grow hU
    clear cn
    have cn := D1.r.rf.blk.cell1 0 _ rfl
    rw [hn, hrb] at cn
    by_cases hlt : m < n
    · have hlt' : (m : Int) < n := by omega
      have hx := List.getElem?_eq_getElem (l := s.xs) (i := m) (by omega)
      generalize s.xs[m]'(by omega) = x at hx
      have hql : x.q.length ≤ 4000000000000 := by
        have := (ci.iv m x hx).qle
        have := ci.el m x hx
        omega
      have HK := Keys_any D1.k hx hql
      rw [hcb] at HK
      obtain ⟨N, hN⟩ : ∃ N, x.q.length = N := ⟨_, rfl⟩
      have hkl : (ksX x).length = N := by unfold ksX; simp [hN]
      have D1' : Hid _ := D1
      clear D1
      have KW : Hid (∀ (W : World), Upd Non wr W → W.cell? ⟨rb, 4, none⟩ = some (.slice (some ⟨R.wb, 0, none⟩) n n) ∧ ∃ (u : Value) (a : Option Addr) (c : Nat), u = .slice a N c ∧ W.cell? ⟨R.wb, m, none⟩ = some u ∧ ∀ j, j < N → ∃ (g b : Nat), a = some ⟨g, 0, none⟩ ∧ W.cell? ⟨g, j, none⟩ = some (.pointer (some ⟨b, 0, none⟩)) ∧ W.cell? ⟨b, 0, none⟩ = some (.string ((ksX x).getD j ⟨#[]⟩))) := fun W hW => by
        have D2 := D1'.out.grow hW
        have c4 := D2.r.rf.blk.cell1 4 _ rfl
        rw [hn, hrb] at c4
        have := wait_at D2 hx
        rw [hN] at this
        exact ⟨c4, this⟩
      go_wp2_with (go_at_call 22; refine HK.mono ?_; rintro e w3 ⟨kv, rfl, hR, hU3⟩; clear HK; obtain ⟨ka, kc, hkv⟩ := row_slice hR; rw [hkl] at hkv; subst hkv; obtain ⟨c4, u, a, c, hu, cu, hat⟩ := KW.out _ hU3; subst hu; clear hat)
      clear c4 cu
      go_loopg [10] N (fun gh jj wq => ∃ j : Nat, gh = N - j ∧ jj = .int .i64 j ∧ j ≤ N ∧ Upd Non w3 wq)
      case atStart => exact ⟨0, by omega, rfl, Nat.zero_le _, Upd.refl _ _⟩
      case round =>
        obtain ⟨j, hgj, rfl, hjn, hU4⟩ := hrel
        by_cases hlj : j < N
        · have hlj' : (j : Int) < N := by omega
          obtain ⟨c4, u', a', c', hu', cu, hat⟩ := KW.out _ (hU3.trans hU4)
          subst hu'
          obtain ⟨g, b, hg, cg, ck⟩ := hat j hlj
          subst hg
          obtain ⟨kg, hkg, ckk⟩ : ∃ g, ka = some ⟨g, 0, none⟩ ∧ wr.cell? ⟨g, j, none⟩ = some (.string ((ksX x).getD j ⟨#[]⟩)) := by
            obtain ⟨a2, c2, e1, _, hrd, ho⟩ := row_rd sc_k (row_upd hR hU4 (fun _ _ e => e))
            injection e1 with e2 _ _
            rw [← e2] at hrd ho
            have hk : (ksX x)[j]? = some ((ksX x).getD j ⟨#[]⟩) := by rw [List.getD_eq_getElem?_getD, List.getElem?_eq_getElem (by omega)]; rfl
            obtain ⟨g, o', rfl, hAt⟩ := hrd.at_ hk
            have ho2 := (ho g o' rfl).1
            subst ho2
            have := hAt 0 _ rfl
            simp only [Nat.zero_add, Nat.mul_one, Nat.add_zero] at this
            exact ⟨g, rfl, this⟩
          subst hkg
          generalize (ksX x).getD j ⟨#[]⟩ = ky at *
          clear hat
          go_wp2_with fail
          first | go_quiet (fail) | go_big_quiet (fail)
          go_wp2_with fail
          go_roundg (N - (j + 1))
          case measure => omega
          case rel => exact ⟨j + 1, rfl, by go_num, hlj, hU4.trans ⟨rfl, rfl, rfl, Nat.le_refl _, fun _ _ _ => rfl⟩⟩
        · have hlj' : (j : Int) = N := by omega
          obtain rfl : j = N := by omega
          go_wp2_with fail
          go_roundg (n - (m + 1))
          case measure => omega
          case rel => exact ⟨m + 1, rfl, by go_num, hlt, hU.trans (hU3.trans hU4)⟩
    · have hlt' : (m : Int) = n := by omega
      obtain rfl : m = n := by omega
      go_wp2_with fail
      go_ret
      exact ⟨rfl, hU⟩
end
end Go.Proofs.Ytlkfabejecgfgaa
