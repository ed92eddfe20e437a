import Derived.Test.YtjnlolibfcpbkaaDoorH
namespace Go.Proofs.YtjnlolibfcpbkaaDoor
open Go.RowKit Go.Maps
set_option linter.unusedVariables false
set_option linter.unusedSimpArgs false
section
variable {w : World} {base rb : Nat} {bv : Value} {log : Int} {rc : Bool} {sol : Nat} {s : St} {rv lv : Value} {svs : List Value}
/-- What a step of the reader comes to: how the log ends, or where it stands then. -/
def StepPost (base rb : Nat) (bv : Value) (log : Int) (rc : Bool) (sol : Nat) (s : St) (r : Except Int St) (w : World) (e : Ending) (w' : World) : Prop :=
  Below base w w' ∧ ((∃ c, r = .error c ∧ c ≠ -1 ∧ e = .returned (.int .i64 c) ∧ ∃ (at_ : Nat) (rv lv : Value) (svs : List Value), Rd w' base rb bv log rc sol { s with at_ := at_ } rv lv svs) ∨
    (∃ s', r = .ok s' ∧ e = .returned (.int .i64 (-1)) ∧ ∃ rv' lv' svs', Rd w' base rb bv log rc sol s' rv' lv' svs'))
theorem step_call41 {ops : Array Oper} {o : Oper} {a : Act} {w : World} {K : Act → World → Prop} {Q : Exit → Act → World → Prop} {Ex : Prop} (hgd : o.guard = none) {d : Nat} (hd' : o.dst = some d) (x : Operand) (ts : Array TypeId)
    (ho : o.op = .call { callee := .value (.func 41), args := #[x], argTypes := ts }) (u : Value) (hx : a.eval x = u) {R : Ending → World → Prop} (hc : Calls Tryd.prog 41 #[u] w R)
    (h : ∀ e w', R e w' → ∃ r, e = .returned r ∧ K (a.put (some d) r) w') :
    if Region.wanted o (yielded ops a.tmps) = true then Oper.wp Tryd.prog o a w K Q else Ex := by
  have hw : Region.wanted o (yielded ops a.tmps) = true := by simp [Region.wanted, hgd]
  rw [if_pos hw]
  have he := enters_of (P := Tryd.prog) Tryd.func41 (by kernel_rfl) rfl #[u]
  unfold Oper.wp execOp
  simp only [ho, resolve, invoke, Sem.run_bind, Sem.run_pure, Result.andThen_ok, List.map_toArray, List.map_cons, List.map_nil, hx, go_sem]
  show Oper.upon Tryd.prog o a K Q (Sem.run Tryd.prog (callFunc 41 (#[] ++ #[a.eval x] ++ #[])) w)
  rw [show (#[] ++ #[a.eval x] ++ #[] : Array Value) = #[u] by simp [hx], he, Oper.upon_enter]
  refine hc.mono ?_
  intro e w' hR
  obtain ⟨r, rfl, hk⟩ := h e w' hR
  show K (a.put o.dst r) w'
  rw [hd']
  exact hk
theorem step_call40 {ops : Array Oper} {o : Oper} {a : Act} {w : World} {K : Act → World → Prop} {Q : Exit → Act → World → Prop} {Ex : Prop} (hgd : o.guard = none) {d : Nat} (hd' : o.dst = some d) (x y : Operand) (ts : Array TypeId)
    (ho : o.op = .call { callee := .value (.func 40), args := #[x, y], argTypes := ts }) (u v : Value) (hx : a.eval x = u) (hy : a.eval y = v) {R : Ending → World → Prop} (hc : Calls Tryd.prog 40 #[u, v] w R)
    (h : ∀ e w', R e w' → ∃ r, e = .returned r ∧ K (a.put (some d) r) w') :
    if Region.wanted o (yielded ops a.tmps) = true then Oper.wp Tryd.prog o a w K Q else Ex := by
  have hw : Region.wanted o (yielded ops a.tmps) = true := by simp [Region.wanted, hgd]
  rw [if_pos hw]
  have he := enters_of (P := Tryd.prog) Tryd.func40 (by kernel_rfl) rfl #[u, v]
  unfold Oper.wp execOp
  simp only [ho, resolve, invoke, Sem.run_bind, Sem.run_pure, Result.andThen_ok, List.map_toArray, List.map_cons, List.map_nil, hx, hy, go_sem]
  show Oper.upon Tryd.prog o a K Q (Sem.run Tryd.prog (callFunc 40 (#[] ++ #[a.eval x, a.eval y] ++ #[])) w)
  rw [show (#[] ++ #[a.eval x, a.eval y] ++ #[] : Array Value) = #[u, v] by simp [hx, hy], he, Oper.upon_enter]
  refine hc.mono ?_
  intro e w' hR
  obtain ⟨r, rfl, hk⟩ := h e w' hR
  show K (a.put o.dst r) w'
  rw [hd']
  exact hk
theorem bd_ne (rc : Bool) : bd rc ≠ -1 := by cases rc <;> decide
theorem qt_ne (o : Bool) : qt o ≠ -1 := by cases o <;> decide
theorem take4_len {f : List Int} (h : 4 ≤ f.length) : (f.take 4).length = 4 := by simp; omega
theorem own_arg4 {w : World} {base : Nat} {v : Value} {f : List Int} (h : OwnB w base v (sealV f)) : ∃ a m c, m = 4 ∧ v = .slice a m c ∧ Arg w a m c (sealV f) := by
  have e0 : (sealV f).length = 4 := byts_len 4 _
  obtain ⟨a, c, e, hA⟩ := h.arg (byts_bd 4 _) (by rw [e0]; decide)
  rw [e0] at e hA
  exact ⟨a, 4, c, rfl, e, hA⟩
set_option maxRecDepth 100000 in
set_option maxHeartbeats 8000000 in
theorem look_any (h : Rd w base rb bv log rc sol s rv lv svs) {a : Option Addr} {len cap : Nat} {f : List Int} (ha : Arg w a len cap f) (hf : hd rc ≤ len) (hcap : len ≤ cap)
    (hat : s.at_ + len ≤ 2000000000) (hnow : s.now.length ≤ 2000000000) (hrec : s.recs.length ≤ 2000000000) (hfb : ∀ B off, a = some ⟨B, off, none⟩ → B < base) :
    Calls Tryd.prog 32 #[ptr rb, .slice a len cap] w (StepPost base rb bv log rc sol s (lookM rc log s f) w) := by
  have hH := hd_bd rc
  obtain ⟨B, off, X, rfl, hB, hX, x0, x1, c6⟩ := ha.at (k := 6) (by omega)
  have hfl := ha.1
  have l6 : (6 : Int) < (len : Int) := by omega
  have c1 := h.blk.cell1 1 _ rfl
  have c2 := h.blk.cell1 2 _ rfl
  have hlt := h.blk.lt
  have HK := fun W => kind_any log rc X x0 x1 W
  have eL : lookM rc log s f = (if f.take 4 ≠ sealV f then .error (bd rc) else if kd rc X = 0 then .error (bd rc) else if older rc log f = true then .error 2 else if beg (kd rc X) = s.op then .error (bd rc) else .ok (takeM rc s (kd rc X) f)) := by
    unfold lookM
    rw [hX]
    rfl
  obtain ⟨r, hr⟩ : ∃ r, r = lookM rc log s f := ⟨_, rfl⟩
  rw [← hr]
  rw [eL] at hr
  have hkb : kd rc X ≠ 0 → 1 ≤ kd rc X ∧ kd rc X ≤ 4 := by
    intro hk
    by_cases c : (if rc then X - 4 else X) < 1 ∨ 4 < (if rc then X - 4 else X)
    · exact absurd (by unfold kd; rw [if_pos c]) hk
    · have e : kd rc X = (if rc then X - 4 else X) := by unfold kd; rw [if_neg c]
      rw [e]
      generalize (if rc = true then X - 4 else X) = Y at *
      omega
  obtain ⟨K, hK⟩ : ∃ K, K = kd rc X := ⟨_, rfl⟩
  rw [← hK] at hkb hr
  simp only [← hK] at HK
  clear hK eL hX
  go_enter Tryd.func32, Tryd.ntmps32
  go_upto_region 1 with fail
  go_cut [5] from 7 to 14 (fun a wd => a = .int .i64 K ∧ Below w.heap.size w wd)
  case first =>
    go_region_held_law (fun w' => w'.cell? ⟨rb, 1, none⟩ = some (.int .u32 log) ∧ w'.cell? ⟨rb, 2, none⟩ = some (.bool rc) ∧ w'.cell? ⟨B, off + 6, none⟩ = some (.int .u8 X))
      (first
        | exact ⟨k0, k1, k2⟩
        | (go_keep; done))
      (first
        | (go_at_call 21; refine (HK _).mono ?_; rintro e w3 ⟨rfl, hB3⟩
           have k0 := (hB3.cell (p := ⟨rb, 1, none⟩) (by simpa using hlt)).trans c1
           have k1 := (hB3.cell (p := ⟨rb, 2, none⟩) (by simpa using hlt)).trans c2
           have k2 := (hB3.cell (p := ⟨B, off + 6, none⟩) (by simpa using hB)).trans c6))
    all_goals
      go_wp2
      go_meet
      exact ⟨rfl, (Below.refl w.heap.size w).drew.trans (hB3.mono (by simp))⟩
  case rest =>
    obtain ⟨rfl, hB1⟩ := hcut
    obtain ⟨W1, rfl⟩ : ∃ W1, W1 = wc := ⟨_, rfl⟩
    have h1 := h.below hB1
    have ha1 := ha.below hB1
    have hbs := h.siz
    clear c1 c2 c6 h HK ha
    have h1d := h1.below ((Below.refl W1.heap.size W1).drew)
    have ha1d := ha1.below ((Below.refl W1.heap.size W1).drew)
    have HS := seal_any ha1d (by omega) hcap
    have h4 : 4 ≤ len := by omega
    have CH4 : ∀ W, (Instr.sliceAt 22 (.slice (some ⟨B, off, none⟩) len cap) none (some (.int .i64 4)) none).run Tryd.prog W = .ok (.slice (some ⟨B, off, none⟩) 4 cap) W := fun W => bcut_hi (some ⟨B, off, none⟩) len cap 4 (by omega) W
    by_cases hE : f.take 4 = sealV f
    · rw [if_neg (fun hn => hn hE)] at hr
      by_cases hK0 : K = 0
      · rw [if_pos hK0] at hr
        subst hK0
        go_wp2
        go_region_held_law (fun w' => True)
          (trivial)
          (first
            | (go_at_call 41; refine HS.mono ?_; rintro e w3 ⟨v3, rfl, ho3, hB3⟩
               obtain ⟨a3, n3, c3, rfl, rfl, A3⟩ := own_arg4 ho3
               have HQ := equal_any ((ha1d.hi h4).below hB3) A3
               rw [decide_eq_true hE] at HQ
               have R3 := h1d.below hB3
               have F3 := ha1d.below hB3
               have B3 : Below base w w3 := (hB1.mono hbs).trans ((Below.refl base W1).drew.trans (hB3.mono h1d.siz)))
            | (go_at_call 40; refine HQ.mono ?_; rintro e w4 ⟨rfl, hw⟩; have hw2 := hw.symm; subst hw2))
        all_goals
          go_wp2_with (go_at_call 31; refine (bad_any R3.blk).mono ?_; rintro e w5 ⟨rfl, hw⟩; have hw2 := hw.symm; subst hw2)
          go_ret
          exact ⟨B3, .inl ⟨_, hr, bd_ne rc, rfl, s.at_, rv, lv, svs, R3⟩⟩
      · rw [if_neg hK0] at hr
        have hK0' : (K == 0) = false := by simpa using hK0
        obtain ⟨hk1, hk4⟩ := hkb hK0
        obtain ⟨od, hod⟩ : ∃ od, od = older rc log f := ⟨_, rfl⟩
        rw [← hod] at hr
        have HO := fun (W : World) (hR : Rd W base rb bv log rc sol s rv lv svs) (hF : Arg W (some ⟨B, off, none⟩) len cap f) => older_any hR.blk hF (by omega) hcap
        simp only [← hod] at HO
        clear hod
        cases od
        · rw [if_neg (by decide)] at hr
          obtain ⟨ow, how⟩ : ∃ o, o = s.op := ⟨_, rfl⟩
          rw [← how] at hr
          have hK4 : K = 1 ∨ K = 2 ∨ K = 3 ∨ K = 4 := by omega
          clear hK0 hK0' hkb
          rcases hK4 with rfl | rfl | rfl | rfl
          · cases ow
            · have c5 : Hid _ := how
              clear how
              rw [if_neg (by decide)] at hr
              go_wp2
              go_region_held_law (fun w' => True)
                (trivial)
                (first
                  | (go_at_call 41; refine HS.mono ?_; rintro e w3 ⟨v3, rfl, ho3, hB3⟩
                     obtain ⟨a3, n3, c3, rfl, rfl, A3⟩ := own_arg4 ho3
                     have HQ := equal_any ((ha1d.hi h4).below hB3) A3
                     rw [decide_eq_true hE] at HQ
                     have R3 := h1d.below hB3
                     have F3 := ha1d.below hB3
                     have B3 : Below base w w3 := (hB1.mono hbs).trans ((Below.refl base W1).drew.trans (hB3.mono h1d.siz)))
                  | (go_at_call 40; refine HQ.mono ?_; rintro e w4 ⟨rfl, hw⟩; have hw2 := hw.symm; subst hw2))
              all_goals
                go_wp2_with (first
                  | (go_at_call 42; refine (HO _ R3 F3).mono ?_; rintro e w5 ⟨rfl, hB5⟩
                     have R5 := R3.below hB5
                     have F5 := F3.below hB5
                     have c5c := R5.blk.cell1 5 _ rfl
                     rw [← c5.out] at c5c)
                  | (go_at_call 43; refine (take_any R5 F5 hf hcap 1 (by decide) hat hnow hrec hfb).mono ?_; rintro e w6 ⟨r6, rfl, hB6, hR6⟩))
                go_ret
                exact ⟨(B3.trans (hB5.mono R3.siz)).trans hB6, .inr ⟨_, hr, rfl, hR6⟩⟩
            · have c5 : Hid _ := how
              clear how
              rw [if_pos (by decide)] at hr
              go_wp2
              go_region_held_law (fun w' => True)
                (trivial)
                (first
                  | (go_at_call 41; refine HS.mono ?_; rintro e w3 ⟨v3, rfl, ho3, hB3⟩
                     obtain ⟨a3, n3, c3, rfl, rfl, A3⟩ := own_arg4 ho3
                     have HQ := equal_any ((ha1d.hi h4).below hB3) A3
                     rw [decide_eq_true hE] at HQ
                     have R3 := h1d.below hB3
                     have F3 := ha1d.below hB3
                     have B3 : Below base w w3 := (hB1.mono hbs).trans ((Below.refl base W1).drew.trans (hB3.mono h1d.siz)))
                  | (go_at_call 40; refine HQ.mono ?_; rintro e w4 ⟨rfl, hw⟩; have hw2 := hw.symm; subst hw2))
              all_goals
                go_wp2_with (first
                  | (go_at_call 42; refine (HO _ R3 F3).mono ?_; rintro e w5 ⟨rfl, hB5⟩
                     have R5 := R3.below hB5
                     have c5c := R5.blk.cell1 5 _ rfl
                     rw [← c5.out] at c5c)
                  | (go_at_call 31; refine (bad_any R5.blk).mono ?_; rintro e w6 ⟨rfl, hw⟩; have hw2 := hw.symm; subst hw2))
                go_ret
                exact ⟨B3.trans (hB5.mono R3.siz), .inl ⟨_, hr, bd_ne rc, rfl, s.at_, rv, lv, svs, R5⟩⟩
          · cases ow
            · have c5 : Hid _ := how
              clear how
              rw [if_neg (by decide)] at hr
              go_wp2
              go_region_held_law (fun w' => True)
                (trivial)
                (first
                  | (go_at_call 41; refine HS.mono ?_; rintro e w3 ⟨v3, rfl, ho3, hB3⟩
                     obtain ⟨a3, n3, c3, rfl, rfl, A3⟩ := own_arg4 ho3
                     have HQ := equal_any ((ha1d.hi h4).below hB3) A3
                     rw [decide_eq_true hE] at HQ
                     have R3 := h1d.below hB3
                     have F3 := ha1d.below hB3
                     have B3 : Below base w w3 := (hB1.mono hbs).trans ((Below.refl base W1).drew.trans (hB3.mono h1d.siz)))
                  | (go_at_call 40; refine HQ.mono ?_; rintro e w4 ⟨rfl, hw⟩; have hw2 := hw.symm; subst hw2))
              all_goals
                go_wp2_with (first
                  | (go_at_call 42; refine (HO _ R3 F3).mono ?_; rintro e w5 ⟨rfl, hB5⟩
                     have R5 := R3.below hB5
                     have F5 := F3.below hB5
                     have c5c := R5.blk.cell1 5 _ rfl
                     rw [← c5.out] at c5c)
                  | (go_at_call 43; refine (take_any R5 F5 hf hcap 2 (by decide) hat hnow hrec hfb).mono ?_; rintro e w6 ⟨r6, rfl, hB6, hR6⟩))
                go_ret
                exact ⟨(B3.trans (hB5.mono R3.siz)).trans hB6, .inr ⟨_, hr, rfl, hR6⟩⟩
            · have c5 : Hid _ := how
              clear how
              rw [if_pos (by decide)] at hr
              go_wp2
              go_region_held_law (fun w' => True)
                (trivial)
                (first
                  | (go_at_call 41; refine HS.mono ?_; rintro e w3 ⟨v3, rfl, ho3, hB3⟩
                     obtain ⟨a3, n3, c3, rfl, rfl, A3⟩ := own_arg4 ho3
                     have HQ := equal_any ((ha1d.hi h4).below hB3) A3
                     rw [decide_eq_true hE] at HQ
                     have R3 := h1d.below hB3
                     have F3 := ha1d.below hB3
                     have B3 : Below base w w3 := (hB1.mono hbs).trans ((Below.refl base W1).drew.trans (hB3.mono h1d.siz)))
                  | (go_at_call 40; refine HQ.mono ?_; rintro e w4 ⟨rfl, hw⟩; have hw2 := hw.symm; subst hw2))
              all_goals
                go_wp2_with (first
                  | (go_at_call 42; refine (HO _ R3 F3).mono ?_; rintro e w5 ⟨rfl, hB5⟩
                     have R5 := R3.below hB5
                     have c5c := R5.blk.cell1 5 _ rfl
                     rw [← c5.out] at c5c)
                  | (go_at_call 31; refine (bad_any R5.blk).mono ?_; rintro e w6 ⟨rfl, hw⟩; have hw2 := hw.symm; subst hw2))
                go_ret
                exact ⟨B3.trans (hB5.mono R3.siz), .inl ⟨_, hr, bd_ne rc, rfl, s.at_, rv, lv, svs, R5⟩⟩
          · cases ow
            · have c5 : Hid _ := how
              clear how
              rw [if_pos (by decide)] at hr
              go_wp2
              go_region_held_law (fun w' => True)
                (trivial)
                (first
                  | (go_at_call 41; refine HS.mono ?_; rintro e w3 ⟨v3, rfl, ho3, hB3⟩
                     obtain ⟨a3, n3, c3, rfl, rfl, A3⟩ := own_arg4 ho3
                     have HQ := equal_any ((ha1d.hi h4).below hB3) A3
                     rw [decide_eq_true hE] at HQ
                     have R3 := h1d.below hB3
                     have F3 := ha1d.below hB3
                     have B3 : Below base w w3 := (hB1.mono hbs).trans ((Below.refl base W1).drew.trans (hB3.mono h1d.siz)))
                  | (go_at_call 40; refine HQ.mono ?_; rintro e w4 ⟨rfl, hw⟩; have hw2 := hw.symm; subst hw2))
              all_goals
                go_wp2_with (first
                  | (go_at_call 42; refine (HO _ R3 F3).mono ?_; rintro e w5 ⟨rfl, hB5⟩
                     have R5 := R3.below hB5
                     have c5c := R5.blk.cell1 5 _ rfl
                     rw [← c5.out] at c5c)
                  | (go_at_call 31; refine (bad_any R5.blk).mono ?_; rintro e w6 ⟨rfl, hw⟩; have hw2 := hw.symm; subst hw2))
                go_ret
                exact ⟨B3.trans (hB5.mono R3.siz), .inl ⟨_, hr, bd_ne rc, rfl, s.at_, rv, lv, svs, R5⟩⟩
            · have c5 : Hid _ := how
              clear how
              rw [if_neg (by decide)] at hr
              go_wp2
              go_region_held_law (fun w' => True)
                (trivial)
                (first
                  | (go_at_call 41; refine HS.mono ?_; rintro e w3 ⟨v3, rfl, ho3, hB3⟩
                     obtain ⟨a3, n3, c3, rfl, rfl, A3⟩ := own_arg4 ho3
                     have HQ := equal_any ((ha1d.hi h4).below hB3) A3
                     rw [decide_eq_true hE] at HQ
                     have R3 := h1d.below hB3
                     have F3 := ha1d.below hB3
                     have B3 : Below base w w3 := (hB1.mono hbs).trans ((Below.refl base W1).drew.trans (hB3.mono h1d.siz)))
                  | (go_at_call 40; refine HQ.mono ?_; rintro e w4 ⟨rfl, hw⟩; have hw2 := hw.symm; subst hw2))
              all_goals
                go_wp2_with (first
                  | (go_at_call 42; refine (HO _ R3 F3).mono ?_; rintro e w5 ⟨rfl, hB5⟩
                     have R5 := R3.below hB5
                     have F5 := F3.below hB5
                     have c5c := R5.blk.cell1 5 _ rfl
                     rw [← c5.out] at c5c)
                  | (go_at_call 43; refine (take_any R5 F5 hf hcap 3 (by decide) hat hnow hrec hfb).mono ?_; rintro e w6 ⟨r6, rfl, hB6, hR6⟩))
                go_ret
                exact ⟨(B3.trans (hB5.mono R3.siz)).trans hB6, .inr ⟨_, hr, rfl, hR6⟩⟩
          · cases ow
            · have c5 : Hid _ := how
              clear how
              rw [if_pos (by decide)] at hr
              go_wp2
              go_region_held_law (fun w' => True)
                (trivial)
                (first
                  | (go_at_call 41; refine HS.mono ?_; rintro e w3 ⟨v3, rfl, ho3, hB3⟩
                     obtain ⟨a3, n3, c3, rfl, rfl, A3⟩ := own_arg4 ho3
                     have HQ := equal_any ((ha1d.hi h4).below hB3) A3
                     rw [decide_eq_true hE] at HQ
                     have R3 := h1d.below hB3
                     have F3 := ha1d.below hB3
                     have B3 : Below base w w3 := (hB1.mono hbs).trans ((Below.refl base W1).drew.trans (hB3.mono h1d.siz)))
                  | (go_at_call 40; refine HQ.mono ?_; rintro e w4 ⟨rfl, hw⟩; have hw2 := hw.symm; subst hw2))
              all_goals
                go_wp2_with (first
                  | (go_at_call 42; refine (HO _ R3 F3).mono ?_; rintro e w5 ⟨rfl, hB5⟩
                     have R5 := R3.below hB5
                     have c5c := R5.blk.cell1 5 _ rfl
                     rw [← c5.out] at c5c)
                  | (go_at_call 31; refine (bad_any R5.blk).mono ?_; rintro e w6 ⟨rfl, hw⟩; have hw2 := hw.symm; subst hw2))
                go_ret
                exact ⟨B3.trans (hB5.mono R3.siz), .inl ⟨_, hr, bd_ne rc, rfl, s.at_, rv, lv, svs, R5⟩⟩
            · have c5 : Hid _ := how
              clear how
              rw [if_neg (by decide)] at hr
              go_wp2
              go_region_held_law (fun w' => True)
                (trivial)
                (first
                  | (go_at_call 41; refine HS.mono ?_; rintro e w3 ⟨v3, rfl, ho3, hB3⟩
                     obtain ⟨a3, n3, c3, rfl, rfl, A3⟩ := own_arg4 ho3
                     have HQ := equal_any ((ha1d.hi h4).below hB3) A3
                     rw [decide_eq_true hE] at HQ
                     have R3 := h1d.below hB3
                     have F3 := ha1d.below hB3
                     have B3 : Below base w w3 := (hB1.mono hbs).trans ((Below.refl base W1).drew.trans (hB3.mono h1d.siz)))
                  | (go_at_call 40; refine HQ.mono ?_; rintro e w4 ⟨rfl, hw⟩; have hw2 := hw.symm; subst hw2))
              all_goals
                go_wp2_with (first
                  | (go_at_call 42; refine (HO _ R3 F3).mono ?_; rintro e w5 ⟨rfl, hB5⟩
                     have R5 := R3.below hB5
                     have F5 := F3.below hB5
                     have c5c := R5.blk.cell1 5 _ rfl
                     rw [← c5.out] at c5c)
                  | (go_at_call 43; refine (take_any R5 F5 hf hcap 4 (by decide) hat hnow hrec hfb).mono ?_; rintro e w6 ⟨r6, rfl, hB6, hR6⟩))
                go_ret
                exact ⟨(B3.trans (hB5.mono R3.siz)).trans hB6, .inr ⟨_, hr, rfl, hR6⟩⟩
        · rw [if_pos rfl] at hr
          go_wp2
          go_region_held_law (fun w' => True)
            (trivial)
            (first
              | (go_at_call 41; refine HS.mono ?_; rintro e w3 ⟨v3, rfl, ho3, hB3⟩
                 obtain ⟨a3, n3, c3, rfl, rfl, A3⟩ := own_arg4 ho3
                 have HQ := equal_any ((ha1d.hi h4).below hB3) A3
                 rw [decide_eq_true hE] at HQ
                 have R3 := h1d.below hB3
                 have F3 := ha1d.below hB3
                 have B3 : Below base w w3 := (hB1.mono hbs).trans ((Below.refl base W1).drew.trans (hB3.mono h1d.siz)))
              | (go_at_call 40; refine HQ.mono ?_; rintro e w4 ⟨rfl, hw⟩; have hw2 := hw.symm; subst hw2))
          all_goals
            go_wp2_with (go_at_call 42; refine (HO _ R3 F3).mono ?_; rintro e w5 ⟨rfl, hB5⟩)
            go_ret
            exact ⟨B3.trans (hB5.mono R3.siz), .inl ⟨_, hr, by decide, rfl, s.at_, rv, lv, svs, R3.below hB5⟩⟩
    · rw [if_pos hE] at hr
      go_wp2
      first
      | go_region_law (first
        | (refine step_call41 (by rfl) (by rfl) _ _ (by rfl) _ (by rfl) HS ?_
           rintro e w3 ⟨v3, rfl, ho3, hB3⟩
           refine ⟨_, rfl, ?_⟩
           obtain ⟨a3, n3, c3, rfl, rfl, A3⟩ := own_arg4 ho3
           have HQ := equal_any ((ha1d.hi h4).below hB3) A3
           rw [decide_eq_false hE] at HQ
           have R3 := h1d.below hB3
           have F3 := ha1d.below hB3
           have B3 : Below base w w3 := (hB1.mono hbs).trans ((Below.refl base W1).drew.trans (hB3.mono h1d.siz)))
        | (refine step_call40 (by rfl) (by rfl) _ _ _ (by rfl) _ _ (by rfl) (by rfl) HQ ?_
           rintro e w4 ⟨rfl, hw⟩
           have hw2 := hw.symm
           subst hw2
           refine ⟨_, rfl, ?_⟩))
      | fail
      all_goals
        go_wp2_with (go_at_call 31; refine (bad_any R3.blk).mono ?_; rintro e w5 ⟨rfl, hw⟩; have hw2 := hw.symm; subst hw2)
        go_ret
        exact ⟨B3, .inl ⟨_, hr, bd_ne rc, rfl, s.at_, rv, lv, svs, R3⟩⟩
end
end Go.Proofs.YtjnlolibfcpbkaaDoor
