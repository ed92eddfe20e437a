import Derived.Test.YtjnlolibfcpbkaaDoorF
import Derived.OwnWalk
namespace Go.Proofs.YtjnlolibfcpbkaaDoor
open Go.RowKit Go.Maps
set_option linter.unusedVariables false
set_option linter.unusedSimpArgs false
theorem rf2_leN {r : List Int} (hb : Byt r) (h6 : 6 ≤ r.length) : rfV 2 (r.drop 4) = (leN r : Nat) := by
  unfold rfV leN
  rw [if_neg (by simp; omega)]
  have e4 : r[4]? = some r[4] := List.getElem?_eq_getElem (by omega)
  have e5 : r[5]? = some r[5] := List.getElem?_eq_getElem (by omega)
  have ed : (r.drop 4).take 2 = [r[4], r[5]] := by
    rw [List.drop_eq_getElem_cons (by omega), List.drop_eq_getElem_cons (by omega)]
    rfl
  have b4 := hb r[4] (List.getElem_mem _)
  have b5 := hb r[5] (List.getElem_mem _)
  rw [ed, e4, e5]
  simp [leV]
  omega
theorem leN_bd {r : List Int} (hb : Byt r) : leN r ≤ 65535 := by
  unfold leN
  have h4 : ∀ k : Nat, 0 ≤ r[k]?.getD 0 ∧ r[k]?.getD 0 < 256 := fun k => by
    cases h : r[k]? with
    | none => simp
    | some x => exact hb x (List.mem_of_getElem? h)
  have a := h4 4
  have b := h4 5
  omega
theorem Byt.drop {l : List Int} (h : Byt l) (n : Nat) : Byt (l.drop n) := fun c hc => h c (List.mem_of_mem_drop hc)
theorem Byt.take {l : List Int} (h : Byt l) (n : Nat) : Byt (l.take n) := fun c hc => h c (List.mem_of_mem_take hc)
theorem no_old1 (x : Bool) : ¬ ((false && x) = true) := Bool.false_ne_true
theorem no_old2 (V : Int) : ¬ ((true && (V != V)) = true) := by simp
theorem rfV4_bd {l : List Int} (h : Byt l) : 0 ≤ rfV 4 l ∧ rfV 4 l < 4294967296 := by
  unfold rfV
  split
  · exact ⟨Int.le_refl _, by decide⟩
  · exact leV4_bd h (by omega)
theorem rfV_cut {r : List Int} {n : Nat} (hn : n ≤ r.length) (h : 11 ≤ n) : rfV 4 ((r.take n).drop 7) = rfV 4 (r.drop 7) := by
  unfold rfV
  rw [if_neg (by simp; omega), if_neg (by simp; omega), List.drop_take, List.take_take]
  congr 2
  omega
/-- What the reference's fragment answers. -/
def FragPost (b : List Int) (rc : Bool) (log : Int) (s : St) (w : World) (e : Ending) (w' : World) : Prop :=
  Below w.heap.size w w' ∧ ((∃ c, e = .returned (.tuple #[.int .i64 0, .slice none 0 0, .int .i64 c]) ∧ restM b rc log s = .error c) ∨
    (∃ (k : Int) (ra : Option Addr) (n cp : Nat) (f : List Int), e = .returned (.tuple #[.int .i64 k, .slice ra n cp, .int .i64 0]) ∧ restM b rc log s = .ok (takeM rc s k f) ∧ Arg w' ra n cp (f.drop (hd rc)) ∧ f.length = hd rc + n ∧ 1 ≤ k ∧ k ≤ 4))
section
variable {b : List Int} {rc : Bool} {log : Int} {s : St} {w : World} {a : Option Addr} {len cap : Nat}
set_option maxRecDepth 100000 in
set_option maxHeartbeats 4000000 in
theorem rfrag_any (ha : Arg w a len cap (b.drop s.at_)) (hcap : len ≤ cap) (hat : s.at_ ≤ 2000000000) :
    Calls Tryd.prog 18 #[.slice a len cap, .int .i64 (lft s.at_ : Nat), .int .i64 (hd rc : Nat), .int .u32 log, .bool rc, .bool s.op, .int .i64 (bd rc)] w (FragPost b rc log s w) := by
  obtain ⟨r, hr⟩ : ∃ r, r = b.drop s.at_ := ⟨_, rfl⟩
  have hrest : restM b rc log s = restM b rc log s := rfl
  have hlen := ha.1
  rw [← hr] at ha hlen
  have hH := hd_bd rc
  have HN := noughts_any a len cap r w ha
  by_cases hz : zer r = true
  · have E : restM b rc log s = .error (qt s.op) := by unfold restM; rw [← hr, if_pos hz]
    have hz2 : r.all (· == 0) = true := hz
    rw [hz2] at HN
    have HE := rend_any s.op w
    clear hz hz2 ha hrest
    go_enter Tryd.func18, Tryd.ntmps18
    go_wp2_with (first
      | (go_at_call 16; refine HN.mono ?_; rintro e w1 ⟨rfl, rfl⟩)
      | (go_at_call 17; refine HE.mono ?_; rintro e w1 ⟨rfl, rfl⟩))
    go_ret3
    exact ⟨Below.refl _ _, .inl ⟨_, rfl, E⟩⟩
  · have hz' : r.all (· == 0) = false := by cases h : zer r <;> simp_all [zer]
    rw [hz'] at HN
    have R1 : restM b rc log s = fragM b rc log s := by unfold restM; rw [← hr, if_neg hz]
    clear hz hz' hrest
    by_cases h1 : len < hd rc
    · have E : restM b rc log s = .error 1 := by rw [R1]; unfold fragM; rw [← hr, if_pos (by omega)]
      have h1' : (len : Int) < ((hd rc : Nat) : Int) := by omega
      clear ha R1
      go_enter Tryd.func18, Tryd.ntmps18
      go_wp2_with (first
        | (go_at_call 16; refine HN.mono ?_; rintro e w1 ⟨rfl, rfl⟩))
      go_ret3
      exact ⟨Below.refl _ _, .inl ⟨_, rfl, E⟩⟩
    · have h1' : ((hd rc : Nat) : Int) ≤ (len : Int) := by omega
      have hbyt : Byt r := ha.2.1
      have HF := rrf_any 2 (by decide) _ _ _ _ w (ha.lo (m := 4) (by omega) hcap)
      rw [rf2_leN hbyt (by omega)] at HF
      have hN := leN_bd hbyt
      have R2 : restM b rc log s = (if lft s.at_ < hd rc + leN r then .error (bd rc) else if r.length < hd rc + leN r then .error 1 else lookM rc log s (r.take (hd rc + leN r))) := by
        rw [R1]; unfold fragM; rw [← hr, if_neg (by omega)]
      obtain ⟨Nn, hNn⟩ : ∃ Nn, Nn = leN r := ⟨_, rfl⟩
      rw [← hNn] at HF hN R2
      have wN : IntKind.i64.wrap (Nn : Int) = Nn := by rw [IntKind.wrap_i64]; omega
      obtain ⟨B, off, X0, rfl, hB, _⟩ := ha.at (k := 0) (by omega)
      have CL4 : ∀ W, (Instr.sliceAt 22 (.slice (some ⟨B, off, none⟩) len cap) (some (.int .i64 4)) none none).run Tryd.prog W = _ := fun W => bcut_lo B off len cap 4 (by omega) W
      clear R1 hNn
      by_cases h2 : lft s.at_ < hd rc + Nn
      · have E : restM b rc log s = .error (bd rc) := by rw [R2, if_pos h2]
        have h2' : ((lft s.at_ : Nat) : Int) < ((hd rc : Nat) : Int) + (Nn : Int) := by omega
        clear R2 ha
        go_enter Tryd.func18, Tryd.ntmps18
        go_wp2_with (first
          | (go_at_call 16; refine HN.mono ?_; rintro e w1 ⟨rfl, rfl⟩)
          | (go_at_call_of 33 (Value.int IntKind.i64 2); refine HF.mono ?_; rintro e w2 ⟨rfl, rfl⟩))
        all_goals
          go_ret3
          exact ⟨Below.refl _ _, .inl ⟨_, rfl, E⟩⟩
      · rw [if_neg h2] at R2
        have h2' : ((hd rc : Nat) : Int) + (Nn : Int) ≤ ((lft s.at_ : Nat) : Int) := by omega
        by_cases h3 : len < hd rc + Nn
        · have E : restM b rc log s = .error 1 := by rw [R2, if_pos (by omega)]
          have h3' : (len : Int) < ((hd rc : Nat) : Int) + (Nn : Int) := by omega
          clear R2 ha
          go_enter Tryd.func18, Tryd.ntmps18
          go_wp2_with (first
            | (go_at_call 16; refine HN.mono ?_; rintro e w1 ⟨rfl, rfl⟩)
            | (go_at_call_of 33 (Value.int IntKind.i64 2); refine HF.mono ?_; rintro e w2 ⟨rfl, rfl⟩))
          all_goals
            go_ret3
            exact ⟨Below.refl _ _, .inl ⟨_, rfl, E⟩⟩
        · have h3' : ((hd rc : Nat) : Int) + (Nn : Int) ≤ (len : Int) := by omega
          rw [if_neg (by omega)] at R2
          obtain ⟨f, hf⟩ : ∃ f, f = r.take (hd rc + Nn) := ⟨_, rfl⟩
          rw [← hf] at R2
          have hfl : f.length = hd rc + Nn := by rw [hf, List.length_take]; omega
          have hfa : Arg w (some ⟨B, off, none⟩) (hd rc + Nn) cap f := by rw [hf]; exact ha.hi (by omega)
          have e4 : rfV 4 r = leV (f.take 4) := by
            unfold rfV; rw [if_neg (by omega), hf, List.take_take]; congr 2; omega
          have HF4 := rrf_any 4 (by decide) _ _ _ _ w ha
          rw [e4] at HF4
          have hfb : Byt f := hfa.2.1
          have h4b := leV4_bd hfb (by omega)
          have HS := rsum_arg _ _ _ _ w (hfa.lo (m := 6) (by omega) (by omega))
          have hsb := crcSum_bd (f.drop 6)
          have HM := rmask_any (crcSum (f.drop 6)) w hsb.1 hsb.2
          have hiff := seal_iff hfb (by omega)
          unfold lookM at R2
          rw [ite_not] at R2
          simp only [hiff] at R2
          obtain ⟨S, hS⟩ : ∃ S, S = crcSum (f.drop 6) := ⟨_, rfl⟩
          obtain ⟨M, hM⟩ : ∃ M, M = maskV S := ⟨_, rfl⟩
          obtain ⟨V4, hV4⟩ : ∃ V, V = leV (f.take 4) := ⟨_, rfl⟩
          rw [← hS, ← hM] at HM R2
          rw [← hS] at HS
          rw [← hV4] at HF4 h4b R2
          obtain ⟨X, hX⟩ : ∃ X, f[6]? = some X := ⟨_, List.getElem?_eq_getElem (by omega)⟩
          obtain ⟨B', off', X', eb, _, ex, x0, x1, c6⟩ := hfa.at (k := 6) (by omega)
          cases eb
          rw [hX] at ex
          cases ex
          rw [hX] at R2
          simp only [Option.getD_some] at R2
          have w4 : IntKind.u32.wrap V4 = V4 := by rw [IntKind.wrap_u32]; omega
          have wX : IntKind.i64.wrap X = X := by rw [IntKind.wrap_i64]; omega
          have CLH : ∀ W, (Instr.sliceAt 22 (.slice (some ⟨B, off, none⟩) len cap) (some (.int .i64 6)) (some (.int .i64 (((hd rc : Nat) : Int) + (Nn : Int)))) none).run Tryd.prog W = .ok (.slice (cutA (some ⟨B, off, none⟩) cap 6) (hd rc + Nn - 6) (cap - 6)) W := by
            intro W
            have := bcut_lh B off len cap 6 (hd rc + Nn) (by omega) (by omega) W
            rw [Int.natCast_add] at this
            exact this
          have l6 : (6 : Int) < (len : Int) := by omega
          have e7 : (rc && (rfV 4 (f.drop 7) != log)) = (rc && (rfV 4 (r.drop 7) != log)) := by
            cases rc
            · rfl
            · rw [hf, rfV_cut (by omega) (by simp [hd])]
          clear hiff e4 hS hM hV4 hsb hf
          by_cases h5 : M = V4
          · rw [if_pos h5] at R2
            subst h5
            have HF7 := rrf_any 4 (by decide) _ _ _ _ w (ha.lo (m := 7) (by omega) hcap)
            have CL7 : ∀ W, (Instr.sliceAt 22 (.slice (some ⟨B, off, none⟩) len cap) (some (.int .i64 7)) none none).run Tryd.prog W = _ := fun W => bcut_lo B off len cap 7 (by omega) W
            have CHH : ∀ W, (Instr.sliceAt 22 (.slice (some ⟨B, off, none⟩) len cap) (some (.int .i64 ((hd rc : Nat) : Int))) (some (.int .i64 (((hd rc : Nat) : Int) + (Nn : Int)))) none).run Tryd.prog W = .ok (.slice (cutA (some ⟨B, off, none⟩) cap (hd rc)) (hd rc + Nn - hd rc) (cap - hd rc)) W := by
              intro W
              have := bcut_lh B off len cap (hd rc) (hd rc + Nn) (by omega) (by omega) W
              rw [Int.natCast_add] at this
              exact this
            have hfa2 := hfa.lo (m := hd rc) (by omega) (by omega)
            rw [Nat.add_sub_cancel_left] at hfa2
            have w7 : IntKind.u32.wrap (rfV 4 (r.drop 7)) = rfV 4 (r.drop 7) := by
              have := rfV4_bd (hbyt.drop 7)
              rw [IntKind.wrap_u32]; omega
            obtain ⟨V7, hV7⟩ : ∃ V, V = rfV 4 (r.drop 7) := ⟨_, rfl⟩
            obtain ⟨ow, how⟩ : ∃ o, o = s.op := ⟨_, rfl⟩
            unfold older at R2
            rw [e7, ← hV7] at R2
            rw [← hV7] at HF7 w7
            rw [← how] at R2 ⊢
            have hfl' : Hid _ := hfl
            clear ha hX hfa e7 hV7 hfl how
            cases rc
            · by_cases k1 : X < 1
              · rw [if_pos (by simp [kd, k1])] at R2
                have E : Hid _ := R2
                clear R2
                go_enter Tryd.func18, Tryd.ntmps18
                go_wp2_with (first
                  | (go_at_call 16; refine HN.mono ?_; rintro e w1 ⟨rfl, rfl⟩)
                  | (go_at_call_of 33 (Value.int IntKind.i64 2); refine HF.mono ?_; rintro e w2 ⟨rfl, rfl⟩)
                  | (go_at_call_of 33 (Value.slice (some ⟨B, off, none⟩) len cap); refine HF4.mono ?_; rintro e w3 ⟨rfl, rfl⟩)
                  | (go_at_call 33; refine HF7.mono ?_; rintro e w6 ⟨rfl, rfl⟩)
                  | (go_at_call 35; refine HS.mono ?_; rintro e w4 ⟨rfl, rfl⟩)
                  | (go_at_call 34; refine HM.mono ?_; rintro e w5 ⟨rfl, rfl⟩))
                all_goals
                  go_ret3
                  exact ⟨Below.refl _ _, .inl ⟨_, rfl, E.out⟩⟩
              · by_cases k2 : 4 < X
                · have k1' : 1 ≤ X := by omega
                  rw [if_pos (by simp [kd, k2])] at R2
                  have E : Hid _ := R2
                  clear R2
                  go_enter Tryd.func18, Tryd.ntmps18
                  go_wp2_with (first
                    | (go_at_call 16; refine HN.mono ?_; rintro e w1 ⟨rfl, rfl⟩)
                    | (go_at_call_of 33 (Value.int IntKind.i64 2); refine HF.mono ?_; rintro e w2 ⟨rfl, rfl⟩)
                    | (go_at_call_of 33 (Value.slice (some ⟨B, off, none⟩) len cap); refine HF4.mono ?_; rintro e w3 ⟨rfl, rfl⟩)
                    | (go_at_call 33; refine HF7.mono ?_; rintro e w6 ⟨rfl, rfl⟩)
                    | (go_at_call 35; refine HS.mono ?_; rintro e w4 ⟨rfl, rfl⟩)
                    | (go_at_call 34; refine HM.mono ?_; rintro e w5 ⟨rfl, rfl⟩))
                  all_goals
                    go_ret3
                    exact ⟨Below.refl _ _, .inl ⟨_, rfl, E.out⟩⟩
                · have hx : X = 1 ∨ X = 2 ∨ X = 3 ∨ X = 4 := by omega
                  clear k1 k2
                  rcases hx with rfl | rfl | rfl | rfl
                  · have e1 : kd false 1 = 1 := by decide
                    rw [e1, if_neg (by decide), if_neg (no_old1 _)] at R2
                    cases ow
                    · rw [if_neg (by decide)] at R2
                      have E : Hid _ := R2
                      clear R2
                      go_enter Tryd.func18, Tryd.ntmps18
                      go_wp2_with (first
                        | (go_at_call 16; refine HN.mono ?_; rintro e w1 ⟨rfl, rfl⟩)
                        | (go_at_call_of 33 (Value.int IntKind.i64 2); refine HF.mono ?_; rintro e w2 ⟨rfl, rfl⟩)
                        | (go_at_call_of 33 (Value.slice (some ⟨B, off, none⟩) len cap); refine HF4.mono ?_; rintro e w3 ⟨rfl, rfl⟩)
                        | (go_at_call 33; refine HF7.mono ?_; rintro e w6 ⟨rfl, rfl⟩)
                        | (go_at_call 35; refine HS.mono ?_; rintro e w4 ⟨rfl, rfl⟩)
                        | (go_at_call 34; refine HM.mono ?_; rintro e w5 ⟨rfl, rfl⟩))
                      all_goals
                        go_quiet (fail)
                        go_wp2
                        go_ret3
                        exact ⟨below_drewN (Below.refl _ _) _, .inr ⟨1, _, _, _, f, rfl, E.out, hfa2.below (below_drewN (Below.refl _ _) _), by have := hfl'.out; omega, by decide, by decide⟩⟩
                    · rw [if_pos (by decide)] at R2
                      have E : Hid _ := R2
                      clear R2
                      go_enter Tryd.func18, Tryd.ntmps18
                      go_wp2_with (first
                        | (go_at_call 16; refine HN.mono ?_; rintro e w1 ⟨rfl, rfl⟩)
                        | (go_at_call_of 33 (Value.int IntKind.i64 2); refine HF.mono ?_; rintro e w2 ⟨rfl, rfl⟩)
                        | (go_at_call_of 33 (Value.slice (some ⟨B, off, none⟩) len cap); refine HF4.mono ?_; rintro e w3 ⟨rfl, rfl⟩)
                        | (go_at_call 33; refine HF7.mono ?_; rintro e w6 ⟨rfl, rfl⟩)
                        | (go_at_call 35; refine HS.mono ?_; rintro e w4 ⟨rfl, rfl⟩)
                        | (go_at_call 34; refine HM.mono ?_; rintro e w5 ⟨rfl, rfl⟩))
                      all_goals
                        go_ret3
                        exact ⟨Below.refl _ _, .inl ⟨_, rfl, E.out⟩⟩
                  · have e1 : kd false 2 = 2 := by decide
                    rw [e1, if_neg (by decide), if_neg (no_old1 _)] at R2
                    cases ow
                    · rw [if_neg (by decide)] at R2
                      have E : Hid _ := R2
                      clear R2
                      go_enter Tryd.func18, Tryd.ntmps18
                      go_wp2_with (first
                        | (go_at_call 16; refine HN.mono ?_; rintro e w1 ⟨rfl, rfl⟩)
                        | (go_at_call_of 33 (Value.int IntKind.i64 2); refine HF.mono ?_; rintro e w2 ⟨rfl, rfl⟩)
                        | (go_at_call_of 33 (Value.slice (some ⟨B, off, none⟩) len cap); refine HF4.mono ?_; rintro e w3 ⟨rfl, rfl⟩)
                        | (go_at_call 33; refine HF7.mono ?_; rintro e w6 ⟨rfl, rfl⟩)
                        | (go_at_call 35; refine HS.mono ?_; rintro e w4 ⟨rfl, rfl⟩)
                        | (go_at_call 34; refine HM.mono ?_; rintro e w5 ⟨rfl, rfl⟩))
                      all_goals
                        go_quiet (fail)
                        go_wp2
                        go_ret3
                        exact ⟨below_drewN (Below.refl _ _) _, .inr ⟨2, _, _, _, f, rfl, E.out, hfa2.below (below_drewN (Below.refl _ _) _), by have := hfl'.out; omega, by decide, by decide⟩⟩
                    · rw [if_pos (by decide)] at R2
                      have E : Hid _ := R2
                      clear R2
                      go_enter Tryd.func18, Tryd.ntmps18
                      go_wp2_with (first
                        | (go_at_call 16; refine HN.mono ?_; rintro e w1 ⟨rfl, rfl⟩)
                        | (go_at_call_of 33 (Value.int IntKind.i64 2); refine HF.mono ?_; rintro e w2 ⟨rfl, rfl⟩)
                        | (go_at_call_of 33 (Value.slice (some ⟨B, off, none⟩) len cap); refine HF4.mono ?_; rintro e w3 ⟨rfl, rfl⟩)
                        | (go_at_call 33; refine HF7.mono ?_; rintro e w6 ⟨rfl, rfl⟩)
                        | (go_at_call 35; refine HS.mono ?_; rintro e w4 ⟨rfl, rfl⟩)
                        | (go_at_call 34; refine HM.mono ?_; rintro e w5 ⟨rfl, rfl⟩))
                      all_goals
                        go_ret3
                        exact ⟨Below.refl _ _, .inl ⟨_, rfl, E.out⟩⟩
                  · have e1 : kd false 3 = 3 := by decide
                    rw [e1, if_neg (by decide), if_neg (no_old1 _)] at R2
                    cases ow
                    · rw [if_pos (by decide)] at R2
                      have E : Hid _ := R2
                      clear R2
                      go_enter Tryd.func18, Tryd.ntmps18
                      go_wp2_with (first
                        | (go_at_call 16; refine HN.mono ?_; rintro e w1 ⟨rfl, rfl⟩)
                        | (go_at_call_of 33 (Value.int IntKind.i64 2); refine HF.mono ?_; rintro e w2 ⟨rfl, rfl⟩)
                        | (go_at_call_of 33 (Value.slice (some ⟨B, off, none⟩) len cap); refine HF4.mono ?_; rintro e w3 ⟨rfl, rfl⟩)
                        | (go_at_call 33; refine HF7.mono ?_; rintro e w6 ⟨rfl, rfl⟩)
                        | (go_at_call 35; refine HS.mono ?_; rintro e w4 ⟨rfl, rfl⟩)
                        | (go_at_call 34; refine HM.mono ?_; rintro e w5 ⟨rfl, rfl⟩))
                      all_goals
                        go_ret3
                        exact ⟨Below.refl _ _, .inl ⟨_, rfl, E.out⟩⟩
                    · rw [if_neg (by decide)] at R2
                      have E : Hid _ := R2
                      clear R2
                      go_enter Tryd.func18, Tryd.ntmps18
                      go_wp2_with (first
                        | (go_at_call 16; refine HN.mono ?_; rintro e w1 ⟨rfl, rfl⟩)
                        | (go_at_call_of 33 (Value.int IntKind.i64 2); refine HF.mono ?_; rintro e w2 ⟨rfl, rfl⟩)
                        | (go_at_call_of 33 (Value.slice (some ⟨B, off, none⟩) len cap); refine HF4.mono ?_; rintro e w3 ⟨rfl, rfl⟩)
                        | (go_at_call 33; refine HF7.mono ?_; rintro e w6 ⟨rfl, rfl⟩)
                        | (go_at_call 35; refine HS.mono ?_; rintro e w4 ⟨rfl, rfl⟩)
                        | (go_at_call 34; refine HM.mono ?_; rintro e w5 ⟨rfl, rfl⟩))
                      all_goals
                        go_quiet (fail)
                        go_wp2
                        go_ret3
                        exact ⟨below_drewN (Below.refl _ _) _, .inr ⟨3, _, _, _, f, rfl, E.out, hfa2.below (below_drewN (Below.refl _ _) _), by have := hfl'.out; omega, by decide, by decide⟩⟩
                  · have e1 : kd false 4 = 4 := by decide
                    rw [e1, if_neg (by decide), if_neg (no_old1 _)] at R2
                    cases ow
                    · rw [if_pos (by decide)] at R2
                      have E : Hid _ := R2
                      clear R2
                      go_enter Tryd.func18, Tryd.ntmps18
                      go_wp2_with (first
                        | (go_at_call 16; refine HN.mono ?_; rintro e w1 ⟨rfl, rfl⟩)
                        | (go_at_call_of 33 (Value.int IntKind.i64 2); refine HF.mono ?_; rintro e w2 ⟨rfl, rfl⟩)
                        | (go_at_call_of 33 (Value.slice (some ⟨B, off, none⟩) len cap); refine HF4.mono ?_; rintro e w3 ⟨rfl, rfl⟩)
                        | (go_at_call 33; refine HF7.mono ?_; rintro e w6 ⟨rfl, rfl⟩)
                        | (go_at_call 35; refine HS.mono ?_; rintro e w4 ⟨rfl, rfl⟩)
                        | (go_at_call 34; refine HM.mono ?_; rintro e w5 ⟨rfl, rfl⟩))
                      all_goals
                        go_ret3
                        exact ⟨Below.refl _ _, .inl ⟨_, rfl, E.out⟩⟩
                    · rw [if_neg (by decide)] at R2
                      have E : Hid _ := R2
                      clear R2
                      go_enter Tryd.func18, Tryd.ntmps18
                      go_wp2_with (first
                        | (go_at_call 16; refine HN.mono ?_; rintro e w1 ⟨rfl, rfl⟩)
                        | (go_at_call_of 33 (Value.int IntKind.i64 2); refine HF.mono ?_; rintro e w2 ⟨rfl, rfl⟩)
                        | (go_at_call_of 33 (Value.slice (some ⟨B, off, none⟩) len cap); refine HF4.mono ?_; rintro e w3 ⟨rfl, rfl⟩)
                        | (go_at_call 33; refine HF7.mono ?_; rintro e w6 ⟨rfl, rfl⟩)
                        | (go_at_call 35; refine HS.mono ?_; rintro e w4 ⟨rfl, rfl⟩)
                        | (go_at_call 34; refine HM.mono ?_; rintro e w5 ⟨rfl, rfl⟩))
                      all_goals
                        go_quiet (fail)
                        go_wp2
                        go_ret3
                        exact ⟨below_drewN (Below.refl _ _) _, .inr ⟨4, _, _, _, f, rfl, E.out, hfa2.below (below_drewN (Below.refl _ _) _), by have := hfl'.out; omega, by decide, by decide⟩⟩
            · have wX4 : IntKind.i64.wrap (X - 4) = X - 4 := by rw [IntKind.wrap_i64]; omega
              by_cases k1 : X - 4 < 1
              · rw [if_pos (by simp [kd, k1])] at R2
                have E : Hid _ := R2
                clear R2
                go_enter Tryd.func18, Tryd.ntmps18
                go_wp2_with (first
                  | (go_at_call 16; refine HN.mono ?_; rintro e w1 ⟨rfl, rfl⟩)
                  | (go_at_call_of 33 (Value.int IntKind.i64 2); refine HF.mono ?_; rintro e w2 ⟨rfl, rfl⟩)
                  | (go_at_call_of 33 (Value.slice (some ⟨B, off, none⟩) len cap); refine HF4.mono ?_; rintro e w3 ⟨rfl, rfl⟩)
                  | (go_at_call 33; refine HF7.mono ?_; rintro e w6 ⟨rfl, rfl⟩)
                  | (go_at_call 35; refine HS.mono ?_; rintro e w4 ⟨rfl, rfl⟩)
                  | (go_at_call 34; refine HM.mono ?_; rintro e w5 ⟨rfl, rfl⟩))
                all_goals
                  go_ret3
                  exact ⟨Below.refl _ _, .inl ⟨_, rfl, E.out⟩⟩
              · by_cases k2 : 4 < X - 4
                · have k1' : 1 ≤ X - 4 := by omega
                  rw [if_pos (by simp [kd, k2])] at R2
                  have E : Hid _ := R2
                  clear R2
                  go_enter Tryd.func18, Tryd.ntmps18
                  go_wp2_with (first
                    | (go_at_call 16; refine HN.mono ?_; rintro e w1 ⟨rfl, rfl⟩)
                    | (go_at_call_of 33 (Value.int IntKind.i64 2); refine HF.mono ?_; rintro e w2 ⟨rfl, rfl⟩)
                    | (go_at_call_of 33 (Value.slice (some ⟨B, off, none⟩) len cap); refine HF4.mono ?_; rintro e w3 ⟨rfl, rfl⟩)
                    | (go_at_call 33; refine HF7.mono ?_; rintro e w6 ⟨rfl, rfl⟩)
                    | (go_at_call 35; refine HS.mono ?_; rintro e w4 ⟨rfl, rfl⟩)
                    | (go_at_call 34; refine HM.mono ?_; rintro e w5 ⟨rfl, rfl⟩))
                  all_goals
                    go_ret3
                    exact ⟨Below.refl _ _, .inl ⟨_, rfl, E.out⟩⟩
                · by_cases hlog : V7 = log
                  · subst hlog
                    have hx : X = 5 ∨ X = 6 ∨ X = 7 ∨ X = 8 := by omega
                    clear k1 k2
                    rcases hx with rfl | rfl | rfl | rfl
                    · have e1 : kd true 5 = 1 := by decide
                      rw [e1, if_neg (by decide), if_neg (no_old2 _)] at R2
                      cases ow
                      · rw [if_neg (by decide)] at R2
                        have E : Hid _ := R2
                        clear R2
                        go_enter Tryd.func18, Tryd.ntmps18
                        go_wp2_with (first
                          | (go_at_call 16; refine HN.mono ?_; rintro e w1 ⟨rfl, rfl⟩)
                          | (go_at_call_of 33 (Value.int IntKind.i64 2); refine HF.mono ?_; rintro e w2 ⟨rfl, rfl⟩)
                          | (go_at_call_of 33 (Value.slice (some ⟨B, off, none⟩) len cap); refine HF4.mono ?_; rintro e w3 ⟨rfl, rfl⟩)
                          | (go_at_call 33; refine HF7.mono ?_; rintro e w6 ⟨rfl, rfl⟩)
                          | (go_at_call 35; refine HS.mono ?_; rintro e w4 ⟨rfl, rfl⟩)
                          | (go_at_call 34; refine HM.mono ?_; rintro e w5 ⟨rfl, rfl⟩))
                        all_goals
                          go_quiet (fail)
                          go_wp2
                          go_ret3
                          exact ⟨below_drewN (Below.refl _ _) _, .inr ⟨1, _, _, _, f, rfl, E.out, hfa2.below (below_drewN (Below.refl _ _) _), by have := hfl'.out; omega, by decide, by decide⟩⟩
                      · rw [if_pos (by decide)] at R2
                        have E : Hid _ := R2
                        clear R2
                        go_enter Tryd.func18, Tryd.ntmps18
                        go_wp2_with (first
                          | (go_at_call 16; refine HN.mono ?_; rintro e w1 ⟨rfl, rfl⟩)
                          | (go_at_call_of 33 (Value.int IntKind.i64 2); refine HF.mono ?_; rintro e w2 ⟨rfl, rfl⟩)
                          | (go_at_call_of 33 (Value.slice (some ⟨B, off, none⟩) len cap); refine HF4.mono ?_; rintro e w3 ⟨rfl, rfl⟩)
                          | (go_at_call 33; refine HF7.mono ?_; rintro e w6 ⟨rfl, rfl⟩)
                          | (go_at_call 35; refine HS.mono ?_; rintro e w4 ⟨rfl, rfl⟩)
                          | (go_at_call 34; refine HM.mono ?_; rintro e w5 ⟨rfl, rfl⟩))
                        all_goals
                          go_ret3
                          exact ⟨Below.refl _ _, .inl ⟨_, rfl, E.out⟩⟩
                    · have e1 : kd true 6 = 2 := by decide
                      rw [e1, if_neg (by decide), if_neg (no_old2 _)] at R2
                      cases ow
                      · rw [if_neg (by decide)] at R2
                        have E : Hid _ := R2
                        clear R2
                        go_enter Tryd.func18, Tryd.ntmps18
                        go_wp2_with (first
                          | (go_at_call 16; refine HN.mono ?_; rintro e w1 ⟨rfl, rfl⟩)
                          | (go_at_call_of 33 (Value.int IntKind.i64 2); refine HF.mono ?_; rintro e w2 ⟨rfl, rfl⟩)
                          | (go_at_call_of 33 (Value.slice (some ⟨B, off, none⟩) len cap); refine HF4.mono ?_; rintro e w3 ⟨rfl, rfl⟩)
                          | (go_at_call 33; refine HF7.mono ?_; rintro e w6 ⟨rfl, rfl⟩)
                          | (go_at_call 35; refine HS.mono ?_; rintro e w4 ⟨rfl, rfl⟩)
                          | (go_at_call 34; refine HM.mono ?_; rintro e w5 ⟨rfl, rfl⟩))
                        all_goals
                          go_quiet (fail)
                          go_wp2
                          go_ret3
                          exact ⟨below_drewN (Below.refl _ _) _, .inr ⟨2, _, _, _, f, rfl, E.out, hfa2.below (below_drewN (Below.refl _ _) _), by have := hfl'.out; omega, by decide, by decide⟩⟩
                      · rw [if_pos (by decide)] at R2
                        have E : Hid _ := R2
                        clear R2
                        go_enter Tryd.func18, Tryd.ntmps18
                        go_wp2_with (first
                          | (go_at_call 16; refine HN.mono ?_; rintro e w1 ⟨rfl, rfl⟩)
                          | (go_at_call_of 33 (Value.int IntKind.i64 2); refine HF.mono ?_; rintro e w2 ⟨rfl, rfl⟩)
                          | (go_at_call_of 33 (Value.slice (some ⟨B, off, none⟩) len cap); refine HF4.mono ?_; rintro e w3 ⟨rfl, rfl⟩)
                          | (go_at_call 33; refine HF7.mono ?_; rintro e w6 ⟨rfl, rfl⟩)
                          | (go_at_call 35; refine HS.mono ?_; rintro e w4 ⟨rfl, rfl⟩)
                          | (go_at_call 34; refine HM.mono ?_; rintro e w5 ⟨rfl, rfl⟩))
                        all_goals
                          go_ret3
                          exact ⟨Below.refl _ _, .inl ⟨_, rfl, E.out⟩⟩
                    · have e1 : kd true 7 = 3 := by decide
                      rw [e1, if_neg (by decide), if_neg (no_old2 _)] at R2
                      cases ow
                      · rw [if_pos (by decide)] at R2
                        have E : Hid _ := R2
                        clear R2
                        go_enter Tryd.func18, Tryd.ntmps18
                        go_wp2_with (first
                          | (go_at_call 16; refine HN.mono ?_; rintro e w1 ⟨rfl, rfl⟩)
                          | (go_at_call_of 33 (Value.int IntKind.i64 2); refine HF.mono ?_; rintro e w2 ⟨rfl, rfl⟩)
                          | (go_at_call_of 33 (Value.slice (some ⟨B, off, none⟩) len cap); refine HF4.mono ?_; rintro e w3 ⟨rfl, rfl⟩)
                          | (go_at_call 33; refine HF7.mono ?_; rintro e w6 ⟨rfl, rfl⟩)
                          | (go_at_call 35; refine HS.mono ?_; rintro e w4 ⟨rfl, rfl⟩)
                          | (go_at_call 34; refine HM.mono ?_; rintro e w5 ⟨rfl, rfl⟩))
                        all_goals
                          go_ret3
                          exact ⟨Below.refl _ _, .inl ⟨_, rfl, E.out⟩⟩
                      · rw [if_neg (by decide)] at R2
                        have E : Hid _ := R2
                        clear R2
                        go_enter Tryd.func18, Tryd.ntmps18
                        go_wp2_with (first
                          | (go_at_call 16; refine HN.mono ?_; rintro e w1 ⟨rfl, rfl⟩)
                          | (go_at_call_of 33 (Value.int IntKind.i64 2); refine HF.mono ?_; rintro e w2 ⟨rfl, rfl⟩)
                          | (go_at_call_of 33 (Value.slice (some ⟨B, off, none⟩) len cap); refine HF4.mono ?_; rintro e w3 ⟨rfl, rfl⟩)
                          | (go_at_call 33; refine HF7.mono ?_; rintro e w6 ⟨rfl, rfl⟩)
                          | (go_at_call 35; refine HS.mono ?_; rintro e w4 ⟨rfl, rfl⟩)
                          | (go_at_call 34; refine HM.mono ?_; rintro e w5 ⟨rfl, rfl⟩))
                        all_goals
                          go_quiet (fail)
                          go_wp2
                          go_ret3
                          exact ⟨below_drewN (Below.refl _ _) _, .inr ⟨3, _, _, _, f, rfl, E.out, hfa2.below (below_drewN (Below.refl _ _) _), by have := hfl'.out; omega, by decide, by decide⟩⟩
                    · have e1 : kd true 8 = 4 := by decide
                      rw [e1, if_neg (by decide), if_neg (no_old2 _)] at R2
                      cases ow
                      · rw [if_pos (by decide)] at R2
                        have E : Hid _ := R2
                        clear R2
                        go_enter Tryd.func18, Tryd.ntmps18
                        go_wp2_with (first
                          | (go_at_call 16; refine HN.mono ?_; rintro e w1 ⟨rfl, rfl⟩)
                          | (go_at_call_of 33 (Value.int IntKind.i64 2); refine HF.mono ?_; rintro e w2 ⟨rfl, rfl⟩)
                          | (go_at_call_of 33 (Value.slice (some ⟨B, off, none⟩) len cap); refine HF4.mono ?_; rintro e w3 ⟨rfl, rfl⟩)
                          | (go_at_call 33; refine HF7.mono ?_; rintro e w6 ⟨rfl, rfl⟩)
                          | (go_at_call 35; refine HS.mono ?_; rintro e w4 ⟨rfl, rfl⟩)
                          | (go_at_call 34; refine HM.mono ?_; rintro e w5 ⟨rfl, rfl⟩))
                        all_goals
                          go_ret3
                          exact ⟨Below.refl _ _, .inl ⟨_, rfl, E.out⟩⟩
                      · rw [if_neg (by decide)] at R2
                        have E : Hid _ := R2
                        clear R2
                        go_enter Tryd.func18, Tryd.ntmps18
                        go_wp2_with (first
                          | (go_at_call 16; refine HN.mono ?_; rintro e w1 ⟨rfl, rfl⟩)
                          | (go_at_call_of 33 (Value.int IntKind.i64 2); refine HF.mono ?_; rintro e w2 ⟨rfl, rfl⟩)
                          | (go_at_call_of 33 (Value.slice (some ⟨B, off, none⟩) len cap); refine HF4.mono ?_; rintro e w3 ⟨rfl, rfl⟩)
                          | (go_at_call 33; refine HF7.mono ?_; rintro e w6 ⟨rfl, rfl⟩)
                          | (go_at_call 35; refine HS.mono ?_; rintro e w4 ⟨rfl, rfl⟩)
                          | (go_at_call 34; refine HM.mono ?_; rintro e w5 ⟨rfl, rfl⟩))
                        all_goals
                          go_quiet (fail)
                          go_wp2
                          go_ret3
                          exact ⟨below_drewN (Below.refl _ _) _, .inr ⟨4, _, _, _, f, rfl, E.out, hfa2.below (below_drewN (Below.refl _ _) _), by have := hfl'.out; omega, by decide, by decide⟩⟩
                  · have hlog' : (V7 == log) = false := by simpa using hlog
                    have k1' : 1 ≤ X - 4 := by omega
                    have k2' : X - 4 ≤ 4 := by omega
                    rw [if_neg (by unfold kd; simp; omega), if_pos (by simp [bne, hlog'])] at R2
                    have E : Hid _ := R2
                    clear R2
                    go_enter Tryd.func18, Tryd.ntmps18
                    go_wp2_with (first
                      | (go_at_call 16; refine HN.mono ?_; rintro e w1 ⟨rfl, rfl⟩)
                      | (go_at_call_of 33 (Value.int IntKind.i64 2); refine HF.mono ?_; rintro e w2 ⟨rfl, rfl⟩)
                      | (go_at_call_of 33 (Value.slice (some ⟨B, off, none⟩) len cap); refine HF4.mono ?_; rintro e w3 ⟨rfl, rfl⟩)
                      | (go_at_call 33; refine HF7.mono ?_; rintro e w6 ⟨rfl, rfl⟩)
                      | (go_at_call 35; refine HS.mono ?_; rintro e w4 ⟨rfl, rfl⟩)
                      | (go_at_call 34; refine HM.mono ?_; rintro e w5 ⟨rfl, rfl⟩))
                    all_goals
                      go_ret3
                      exact ⟨Below.refl _ _, .inl ⟨_, rfl, E.out⟩⟩
          · rw [if_neg h5] at R2
            have E : Hid _ := R2
            have h5' : (M == V4) = false := by simpa using h5
            clear R2 ha hX hfa hfl
            go_enter Tryd.func18, Tryd.ntmps18
            go_wp2_with (first
              | (go_at_call 16; refine HN.mono ?_; rintro e w1 ⟨rfl, rfl⟩)
              | (go_at_call_of 33 (Value.int IntKind.i64 2); refine HF.mono ?_; rintro e w2 ⟨rfl, rfl⟩)
              | (go_at_call_of 33 (Value.slice (some ⟨B, off, none⟩) len cap); refine HF4.mono ?_; rintro e w3 ⟨rfl, rfl⟩)
              | (go_at_call 35; refine HS.mono ?_; rintro e w4 ⟨rfl, rfl⟩)
              | (go_at_call 34; refine HM.mono ?_; rintro e w5 ⟨rfl, rfl⟩))
            all_goals
              go_ret3
              exact ⟨Below.refl _ _, .inl ⟨_, rfl, E.out⟩⟩
end
end Go.Proofs.YtjnlolibfcpbkaaDoor
