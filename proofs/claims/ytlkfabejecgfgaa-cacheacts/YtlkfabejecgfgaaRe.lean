/-
  The reference's makes.
-/
import Derived.Test.YtlkfabejecgfgaaRc
import Derived.Deep.LoopGhost
import Derived.BigQuiet
namespace Go.Proofs.Ytlkfabejecgfgaa
open Go.RowKit Go.Maps
set_option linter.unusedVariables false
set_option linter.unusedSimpArgs false
def goneV (v : Vw) (j : Nat) : Vw := { v with inn := fset v.inn j false, ll := woN v.ll j, wl := woN v.wl j }
def excV (v : Vw) (c r : Nat) : Bool := decide (r < plusT (satS v.ent v.ll) c)
def vroom (c r : Nat) : Nat → Vw → Vw
  | 0, v => v
  | k + 1, v => match v.wl with
    | [] => v
    | j :: _ => if excV v c r then vroom c r k (goneV v j) else v
theorem vroom_stop {v : Vw} {c r k : Nat} (h : v.wl = [] ∨ excV v c r = false) : vroom c r k v = v := by
  cases k with
  | zero => rfl
  | succ k =>
    unfold vroom
    rcases h with h | h
    · rw [h]
    · cases v.wl with
      | nil => rfl
      | cons j t => simp [h]
section
variable {w : World} {R : Lr} {n room : Nat} {st : Bool} {vs : List Vw} {pv : Value} {P : List (Option (Nat × Nat))}
theorem Rb.set {i : Nat} {v v' : Vw} (hv : vs[i]? = some v) (he : v'.ent.length = v.ent.length) {k : Nat} (h : Rb R (vs.set i v') pv k) : Rb R vs pv k := by
  rcases h with e | e | e | e | ⟨a, y, j, hy, hj, e⟩
  · exact .inl e
  · exact .inr (.inl e)
  · exact .inr (.inr (.inl e))
  · exact .inr (.inr (.inr (.inl e)))
  · rw [vset_get hv] at hy
    split at hy
    · rename_i ee; cases hy; subst ee
      exact .inr (.inr (.inr (.inr ⟨a, v, j, hv, by omega, e⟩)))
    · exact .inr (.inr (.inr (.inr ⟨a, y, j, hy, hj, e⟩)))
set_option maxRecDepth 100000 in
set_option maxHeartbeats 4000000 in
theorem makes_any (h : Rf w R n room st vs pv P) {i : Nat} {v : Vw} (hv : vs[i]? = some v) (hn1 : 1 ≤ n) (hn : n ≤ 64) (h1 : v.ll.length ≤ 4000000000000) (h2 : v.wl.length ≤ 4000000000000) (hc : ∀ (j : Nat) (e : En), v.ent[j]? = some e → e.chg < 18446744073709551616) {c : Nat} (hcc : c < 18446744073709551616) (hr : room < 18446744073709551616) :
    Calls Try.prog 56 #[.pointer (some ⟨R.cb, 0, none⟩), .int .i64 i, .int .u64 c] w fun r w' => r = .returned (.tuple #[]) ∧
      Rf w' R n room st (vs.set i (vroom c (room / n) v.wl.length v)) pv P ∧ Upd (Rb R vs pv) w w' := by
  have hi : i < n := by rw [← h.len]; exact (List.getElem?_eq_some_iff.1 hv).1
  have hi' : (i : Int) < n := by omega
  have hself : vs.set i v = vs := by
    obtain ⟨a, b⟩ := List.getElem?_eq_some_iff.1 hv
    subst b
    simp
  go_enter Try.func56, Try.ntmps56
  go_wp2_with fail
  go_loopg [] v.wl.length (fun k wr => ∃ y, y.ent = v.ent ∧ y.ll.length ≤ v.ll.length ∧ y.wl.length ≤ v.wl.length ∧ y.wl.length ≤ k ∧ vroom c (room / n) k y = vroom c (room / n) v.wl.length v ∧ Rf wr R n room st (vs.set i y) pv P ∧ Upd (Rb R vs pv) w wr)
  case atStart => exact ⟨v, rfl, Nat.le_refl _, Nat.le_refl _, Nat.le_refl _, rfl, by rw [hself]; exact h, Upd.refl _ _⟩
  case round =>
    obtain ⟨y, he, hl1, hl2, hk, hX, F, hU⟩ := hrel
    have hy : (vs.set i y)[i]? = some y := by rw [vset_get hv, if_pos rfl]
    obtain ⟨wc, wB, wl, wcc⟩ := F.wr.ex
    obtain ⟨u, hu, rW, _⟩ := wcc i hi
    rw [vws_get hy] at rW
    obtain ⟨ua, uc, hua⟩ := rowq_len rW
    have hbl : (bds R i y.wl).length = y.wl.length := by unfold bds; simp
    rw [hbl] at hua
    subst hua
    have c0 := F.blk.cell1 0 _ rfl
    have c1 := F.blk.cell1 1 _ rfl
    have c4 := F.blk.cell1 4 _ rfl
    have cw := wB.cell1 i _ hu
    have F' : Hid _ := F
    have hU' : Hid _ := hU
    have hX' : Hid _ := hX
    cases hq : y.wl with
    | nil =>
      rw [hq] at cw
      clear F hU hX
      go_wp2_with fail
      first | go_quiet (fail) | go_big_quiet (fail)
      go_wp2_with fail
      go_end0
      refine ⟨rfl, ?_, hU'.out.trans ⟨rfl, rfl, rfl, Nat.le_refl _, fun _ _ _ => rfl⟩⟩
      rw [← hX'.out, vroom_stop (.inl hq)]
      exact F'.out.drewN _
    | cons j t =>
      have hjl := (F.llr i y hy).2 j (by rw [hq]; exact List.mem_cons_self)
      obtain ⟨e, hje⟩ : ∃ e, y.ent[j]? = some e := ⟨_, List.getElem?_eq_getElem hjl⟩
      have HU : ∀ m, Calls Try.prog 58 #[.pointer (some ⟨R.cb, 0, none⟩), .int .i64 i] (wr.drewN m) fun e w' => e = .returned (.int .u64 (satS y.ent y.ll)) ∧ w' = wr.drewN m := fun m => used_any (F.drewN m) hy (by rw [he]; exact hc) hn (by omega)
      have HP : ∀ m, Calls Try.prog 57 #[.int .u64 (satS y.ent y.ll), .int .u64 c] (wr.drewN m) fun e w' => e = .returned (.int .u64 (plusT (satS y.ent y.ll) c)) ∧ w' = wr.drewN m := fun m => rplus_any _ _ _ (satS_lt _ _) hcc
      have hlen : (y.wl.length : Int) = (t.length : Int) + 1 := by rw [hq]; simp
      have hex0 : excV y c (room / n) = decide (room / n < plusT (satS y.ent y.ll) c) := rfl
      generalize satS y.ent y.ll = SU at *
      generalize plusT SU c = PU at *
      obtain ⟨wn, hwn⟩ : ∃ x, y.wl.length = x := ⟨_, rfl⟩
      have hwn1 : 0 < wn := by rw [← hwn, hq]; simp
      have hwn0 : (0 : Int) < (wn : Nat) := by omega
      have hd1 : decide (0 < wn) = true := decide_eq_true hwn1
      have hd2 : decide ((0 : Int) < (wn : Nat)) = true := decide_eq_true hwn0
      rw [hwn] at cw
      obtain ⟨r', hr'⟩ : ∃ r', room / n = r' := ⟨_, rfl⟩
      have hdv : ((room : Nat) : Int).tdiv (n : Nat) = (r' : Nat) := by rw [← hr']; rfl
      have hrl : r' < 18446744073709551616 := by rw [← hr']; exact Nat.lt_of_le_of_lt (Nat.div_le_self _ _) hr
      rw [hr'] at hex0 hX'
      obtain ⟨g, hg, cg⟩ := rowq_cell rW (j := 0) (o := some (R.bd i j)) (by unfold bds; rw [List.getElem?_map, hq]; rfl)
      subst hg
      have hks : ∃ k', gk = k' + 1 := ⟨gk - 1, by rw [hq] at hk; simp at hk; omega⟩
      obtain ⟨k', rfl⟩ := hks
      cases hex : excV y c r' with
      | false =>
        have hlt : ¬ (r' : Int) < (PU : Int) := by
          rw [hex0] at hex
          have := of_decide_eq_false hex
          omega
        clear F hU hX hex0 hwn hlen
        go_wp2_with fail
        go_quiet ((first | (go_at_call 58; exact Calls.quiet_of_same (HU _)) | (go_at_call 57; exact Calls.quiet_of_same (HP _))))
        go_wp2_with fail
        go_end0
        refine ⟨rfl, ?_, hU'.out.trans ⟨rfl, rfl, rfl, Nat.le_refl _, fun _ _ _ => rfl⟩⟩
        rw [hr', ← hX'.out, vroom_stop (.inr hex)]
        exact F'.out.drewN _
      | true =>
        have hlt : (r' : Int) < (PU : Int) := by
          rw [hex0] at hex
          have := of_decide_eq_true hex
          omega
        have HG : Hid (∀ m, _) := fun m => gone_any (F.drewN m) hy hje hn (by omega) (by omega)
        have KC : Hid (∀ m, (wr.drewN m).cell? ⟨R.cb, 4, none⟩ = some (.slice (some ⟨R.wb, 0, none⟩) n n) ∧ (wr.drewN m).cell? ⟨R.wb, i, none⟩ = some (.slice (some ⟨g, 0, none⟩) wn uc) ∧ (wr.drewN m).cell? ⟨g, 0, none⟩ = some (.pointer (some ⟨R.bd i j, 0, none⟩))) := fun m => ⟨c4, cw, cg⟩
        clear F hU hX hex0 hlen
        go_wp2_with fail
        go_quiet ((first | (go_at_call 58; exact Calls.quiet_of_same (HU _)) | (go_at_call 57; exact Calls.quiet_of_same (HP _))))
        obtain ⟨k1, k2, k3⟩ := KC.out nq
        have HG' := HG.out nq
        go_wp2_with (go_at_call 64; refine HG'.mono ?_; rintro e' w3 ⟨rfl, F3, U3⟩)
        go_roundg k'
        case measure => omega
        case rel =>
          refine ⟨goneV y j, he, ?_, ?_, ?_, ?_, ?_, ?_⟩
          · exact Nat.le_trans (List.length_filter_le _ _) hl1
          · exact Nat.le_trans (List.length_filter_le _ _) hl2
          · show (woN y.wl j).length ≤ k'
            rw [hq] at hk ⊢
            unfold woN
            have : ((j :: t).filter (fun a => decide (a ≠ j))).length ≤ t.length := by
              rw [List.filter_cons_of_neg (by simp)]
              exact List.length_filter_le _ _
            simp at hk
            omega
          · rw [hr', ← hX'.out]
            conv => rhs; unfold vroom
            rw [hq]
            simp [hex]
          · rw [List.set_set] at F3; exact F3
          · exact hU'.out.trans ((⟨rfl, rfl, rfl, Nat.le_refl _, fun _ _ _ => rfl⟩ : Upd (Rb R vs pv) wr (wr.drewN nq)).trans (U3.mono (fun k _ hk => Rb.set hv (by rw [he]) hk)))
end
end Go.Proofs.Ytlkfabejecgfgaa
