/-
  The reference's find, out, pins, pin.
-/
import Derived.Test.YtlkfabejecgfgaaRe
namespace Go.Proofs.Ytlkfabejecgfgaa
open Go.RowKit Go.Maps
set_option linter.unusedVariables false
set_option linter.unusedSimpArgs false
def Vw.at (v : Vw) (j : Nat) : En := v.ent.getD j ⟨⟨#[]⟩, .bool false, 0, 0⟩
theorem vw_at {v : Vw} {j : Nat} {e : En} (h : v.ent[j]? = some e) : v.at j = e := by unfold Vw.at; rw [List.getD_eq_getElem?_getD, h]; rfl
def findV (v : Vw) (key : ByteArray) (l : List Nat) : Option Nat := l.find? (fun j => v.inn j && decide ((v.at j).key = key))
section
variable {w : World} {R : Lr} {n room : Nat} {st : Bool} {vs : List Vw} {pv : Value} {P : List (Option (Nat × Nat))}
set_option maxRecDepth 100000 in
set_option maxHeartbeats 4000000 in
theorem find_any (h : Rf w R n room st vs pv P) (hn1 : 1 ≤ n) (hn : n ≤ 64) {key : ByteArray} (hk : key.size ≤ maxLen) {v : Vw} (hv : vs[shd n key.data.toList]? = some v) (h1 : v.ll.length ≤ 4000000000000) :
    Calls Try.prog 59 #[.pointer (some ⟨R.cb, 0, none⟩), .string key] w fun r w' => r = .returned (.pointer (pa ((findV v key v.ll).map (R.bd (shd n key.data.toList))))) ∧ ∃ m, w' = w.drewN m := by
  have HS : ∀ m, Calls Try.prog 12 #[.pointer (some ⟨R.cb, 0, none⟩), .string key] (w.drewN m) fun e w' => e = .returned (.int .i64 (shd n key.data.toList)) ∧ w' = w.drewN m := fun m => rshard_any (h.drewN m) hn1 hn key hk
  have hi : shd n key.data.toList < n := shd_lt hn1 _
  generalize shd n key.data.toList = i at *
  obtain ⟨lc, lB, ll, lcc⟩ := h.lr.ex
  obtain ⟨u, hu, rL, _⟩ := lcc i hi
  rw [vws_get hv] at rL
  obtain ⟨ua, uc, hua⟩ := rowq_len rL
  have hbl : (bds R i v.ll).length = v.ll.length := by unfold bds; simp
  rw [hbl] at hua
  subst hua
  have c3 := h.blk.cell1 3 _ rfl
  have cl := lB.cell1 i _ hu
  have hi' : (i : Int) < n := by omega
  obtain ⟨N, hN⟩ : ∃ N, v.ll.length = N := ⟨_, rfl⟩
  rw [hN] at cl h1
  go_enter Try.func59, Try.ntmps59
  go_wp2_with fail
  go_quiet ((go_at_call 12; exact Calls.quiet_of_same (HS _)))
  go_wp2_with fail
  clear c3 cl HS
  go_loopw [6] (fun ii wr => ∃ m : Nat, ii = .int .i64 m ∧ m ≤ N ∧ (∀ j ∈ v.ll.take m, (v.inn j && decide ((v.at j).key = key)) = false) ∧ ∃ q, wr = w.drewN q) (fun ii wr => match ii with | .int _ z => N - z.toNat | _ => 0)
  case atStart => exact ⟨0, rfl, Nat.zero_le _, by simp, nq, rfl⟩
  case round =>
    obtain ⟨m, rfl, hm, hno, q, hwr⟩ := hrel
    have Fq : Rf wr R n room st vs pv P := by rw [hwr]; exact h.drewN q
    have rq : RowQ wr 0 (.slice ua N uc) (bds R i v.ll) := by rw [hwr]; rw [hN] at rL; exact row_upd rL ⟨rfl, rfl, rfl, Nat.le_refl _, fun _ _ _ => rfl⟩ (S := Non) (fun _ _ e => e)
    have hwr' : Hid (wr = w.drewN q) := hwr
    clear hwr
    by_cases hlt : m < N
    · have hlt' : (m : Int) < N := by omega
      obtain ⟨j, hj⟩ : ∃ j, v.ll[m]? = some j := ⟨_, List.getElem?_eq_getElem (by omega)⟩
      have hjl := (h.llr i v hv).1 j (List.mem_of_getElem? hj)
      obtain ⟨e, he⟩ : ∃ e, v.ent[j]? = some e := ⟨_, List.getElem?_eq_getElem hjl⟩
      obtain ⟨g, hg, cg⟩ := rowq_cell rq (j := m) (o := some (R.bd i j)) (by unfold bds; rw [List.getElem?_map, hj]; rfl)
      subst hg
      have I := Fq.it i v j e hv he
      have k0 := I.cell1 0 _ rfl
      have k3 := I.cell1 3 _ rfl
      have htk : v.ll.take (m + 1) = v.ll.take m ++ [j] := by rw [List.take_add_one, hj]; rfl
      by_cases hf : (v.inn j && decide ((v.at j).key = key)) = true
      · have hfind : Hid (findV v key v.ll = some j) := by
          show findV v key v.ll = some j
          unfold findV
          rw [← List.take_append_drop (m + 1) v.ll, htk]
          rw [List.find?_append, List.find?_append]
          have h0 : (v.ll.take m).find? (fun j => v.inn j && decide ((v.at j).key = key)) = none := List.find?_eq_none.2 (fun x hx => by rw [hno x hx]; simp)
          rw [h0]
          simp [hf]
        simp only [Bool.and_eq_true, decide_eq_true_eq] at hf
        obtain ⟨f1, f2⟩ := hf
        rw [vw_at he] at f2
        rw [f1] at k3
        rw [f2] at k0
        clear htk hno rq I Fq
        go_wp2_with fail
        go_ret
        refine ⟨?_, q, hwr'.out⟩
        rw [hfind.out]; rfl
      · have hf' : (v.inn j && decide ((v.at j).key = key)) = false := by simpa using hf
        have hno' : Hid (∀ a ∈ v.ll.take (m + 1), (v.inn a && decide ((v.at a).key = key)) = false) := fun a ha => by
          rw [htk] at ha
          rcases List.mem_append.1 ha with ha | ha
          · exact hno a ha
          · simp at ha; subst ha; exact hf'
        rw [vw_at he] at hf'
        clear htk hno rq I Fq hf
        by_cases fi : v.inn j = true
        · rw [fi] at k3
          have fk : ¬ e.key = key := by rw [fi] at hf'; simpa using hf'
          have fk' : (e.key.toList == key.toList) = false := by
            rw [beq_eq_false_iff_ne]
            intro hh
            rw [ByteArray.toList_eq, ByteArray.toList_eq] at hh
            refine fk ?_
            cases he1 : e.key with
            | mk d1 =>
              cases he2 : key with
              | mk d2 =>
                rw [he1, he2] at hh
                simpa using hh
          go_wp2_with fail
          go_roundw
          case rel => exact ⟨m + 1, by go_num, hlt, hno'.out, q, hwr'.out⟩
          case measure => simp only []; omega
        · have fi' : v.inn j = false := by simpa using fi
          rw [fi'] at k3
          go_wp2_with fail
          go_roundw
          case rel => exact ⟨m + 1, by go_num, hlt, hno'.out, q, hwr'.out⟩
          case measure => simp only []; omega
    · have hlt' : (m : Int) = N := by omega
      have hmn : m = N := by omega
      have hfind : Hid (findV v key v.ll = none) := by
        show findV v key v.ll = none
        unfold findV
        refine List.find?_eq_none.2 (fun x hx => ?_)
        rw [hno x (by rw [hmn, ← hN, List.take_length]; exact hx)]; simp
      clear hno Fq rq
      subst hmn
      go_wp2_with fail
      go_ret
      refine ⟨?_, q, hwr'.out⟩
      rw [hfind.out]; rfl
def outV (v : Vw) (j : Nat) : Vw := if (v.at j).pins = 0 then goneV v j else { v with inn := fset v.inn j false }
theorem fset_fset (f : Nat → Bool) (j : Nat) (b : Bool) : fset (fset f j b) j b = fset f j b := by funext x; unfold fset; split <;> rfl
set_option maxRecDepth 100000 in
set_option maxHeartbeats 4000000 in
theorem out_any (h : Rf w R n room st vs pv P) {i : Nat} {v : Vw} {j : Nat} {e : En} (hv : vs[i]? = some v) (he : v.ent[j]? = some e) (hn : n ≤ 64) (h1 : v.ll.length ≤ 4000000000000) (h2 : v.wl.length ≤ 4000000000000) :
    Calls Try.prog 60 #[.pointer (some ⟨R.cb, 0, none⟩), .int .i64 i, .pointer (some ⟨R.bd i j, 0, none⟩)] w fun r w' => r = .returned (.tuple #[]) ∧
      Rf w' R n room st (vs.set i (outV v j)) pv P ∧ Upd (Rb R vs pv) w w' := by
  have hjl := lt_of_get he
  have hI := h.it i v j e hv he
  have q3 := hI.cell1 3 _ rfl
  have q4 := hI.cell1 4 _ rfl
  have z3 := hI.frozen 3
  obtain ⟨w1, hw1⟩ : ∃ W, w.setCell ⟨R.bd i j, 3, none⟩ (.bool false) = W := ⟨_, rfl⟩
  have U1 : Upd (fun k => k = R.bd i j) w w1 := by rw [← hw1]; exact Upd.setCell (p := ⟨R.bd i j, 3, none⟩) (Upd.refl (fun k => k = R.bd i j) w) (fun _ => rfl) _
  have I1 : Blk w1 (R.bd i j) 84 (itC e false) := by rw [← hw1]; exact hI.set 3 _
  have F1 := h.setItem hv he I1 U1
  rw [ent_same he] at F1
  have hv1 : (vs.set i { v with inn := fset v.inn j false })[i]? = some { v with inn := fset v.inn j false } := by rw [vset_get hv, if_pos rfl]
  have k4 := I1.cell1 4 _ rfl
  have V1 : Upd (Rb R vs pv) w w1 := U1.mono (fun k _ hk => .inr (.inr (.inr (.inr ⟨i, v, j, hv, hjl, hk⟩))))
  have V1' : Hid _ := V1
  have F1' : Hid _ := F1
  by_cases hp : e.pins = 0
  · have eo : Hid (outV v j = goneV v j) := by show outV v j = _; unfold outV; rw [vw_at he, if_pos hp]
    have HG := gone_any F1 hv1 he hn h1 h2
    rw [hp] at k4
    clear F1 U1 V1 I1 hI q4
    go_enter Try.func60, Try.ntmps60
    go_wp2_with (go_at_call 64; refine HG.mono ?_; rintro e' w3 ⟨rfl, F3, U3⟩)
    go_end0
    refine ⟨rfl, ?_, V1'.out.trans (U3.mono (fun k _ hk => Rb.set (v' := { v with inn := fset v.inn j false }) hv rfl hk))⟩
    rw [eo.out]
    rw [List.set_set] at F3
    simp only [fset_fset] at F3
    exact F3
  · have eo : Hid (outV v j = { v with inn := fset v.inn j false }) := by show outV v j = _; unfold outV; rw [vw_at he, if_neg hp]
    have hp' : (0 : Int) < (e.pins : Nat) := by omega
    clear F1 U1 V1 I1 hI q4
    go_enter Try.func60, Try.ntmps60
    go_wp2_with fail
    go_end0
    refine ⟨rfl, ?_, V1'.out⟩
    rw [eo.out]
    exact F1'.out
/-- The pins' row is another one. -/
theorem Rf.setPin (h : Rf w R n room st vs pv P) {w' : World} {pv' : Value} {P' : List (Option (Nat × Nat))} (hB : Blk w' R.cb 70 (rfC R n room st pv')) (hR : RowQ w' 0 pv' (bdp R P')) (U : Upd (fun k => k = R.cb ∨ pv.ownBlock = some k) w w') (ho : pv'.ownBlock = pv.ownBlock ∨ ∀ k, pv'.ownBlock = some k → w.heap.size ≤ k) : Rf w' R n room st vs pv' P' := by
  have lB := h.lr.ex.choose_spec.1
  have wB := h.wr.ex.choose_spec.1
  have rr : ∀ {b : Nat} {ls : Nat → List Nat}, Rr w R b n pv ls → (∀ lc, Blk w b 68 lc → True) → Rr w' R b n pv' ls := by
    intro b ls hr _
    obtain ⟨lc, hBb, hl, hc⟩ := hr.ex
    refine ⟨lc, hBb.upd U ?_, hl, fun i hi => ?_⟩
    · rintro (e | e)
      · exact hBb.ne h.blk (by decide) e
      · exact row_ne h.pr hBb (by decide) b e rfl
    · obtain ⟨u, h1, h2, h3⟩ := hc i hi
      refine ⟨u, h1, row_upd h2 U (fun k hk => ?_), fun k hk => ?_⟩
      · rintro (e | e)
        · exact row_ne h2 h.blk (by decide) k hk e
        · exact h3 k hk e
      · rcases ho with ho | ho
        · rw [ho]; exact h3 k hk
        · intro hk'
          have a1 := ho k hk'
          have a2 := (row_blk h2 k hk).2
          omega
  refine ⟨hB, h.len, rr h.lr (fun _ _ => trivial), rr h.wr (fun _ _ => trivial), h.lw, hR, fun i v j e hv hj => ?_, h.inj, h.llr⟩
  have I := h.it i v j e hv hj
  refine I.upd U ?_
  rintro (ee | ee)
  · exact I.ne h.blk (by decide) ee
  · exact row_ne h.pr I (by decide) _ ee rfl
theorem bdp_snoc (R : Lr) (P : List (Option (Nat × Nat))) (ij : Nat × Nat) : bdp R (P ++ [some ij]) = bdp R P ++ [some (R.bd ij.1 ij.2)] := by unfold bdp; simp
theorem bdp_len (R : Lr) (P : List (Option (Nat × Nat))) : (bdp R P).length = P.length := by unfold bdp; simp
set_option maxRecDepth 100000 in
set_option maxHeartbeats 4000000 in
theorem pins_any (h : Rf w R n room st vs pv P) {i : Nat} {v : Vw} {j : Nat} {e : En} (hv : vs[i]? = some v) (he : v.ent[j]? = some e) (hp : e.pins + 1 < 4611686018427387904) (hP : P.length < 8000000000000) :
    Calls Try.prog 61 #[.pointer (some ⟨R.cb, 0, none⟩), .pointer (some ⟨R.bd i j, 0, none⟩)] w fun r w' => r = .returned (.int .i64 ((P.length : Int) + 1)) ∧
      ∃ pv', Rf w' R n room st (vs.set i { v with ent := v.ent.set j { e with pins := e.pins + 1 } }) pv' (P ++ [some (i, j)]) ∧ Upd (Rb R vs pv) w w' ∧ (pv'.ownBlock = pv.ownBlock ∨ ∀ k, pv'.ownBlock = some k → w.heap.size ≤ k) := by
  have hjl := lt_of_get he
  have hI := h.it i v j e hv he
  have q4 := hI.cell1 4 _ rfl
  have z4 := hI.frozen 4
  obtain ⟨w1, hw1⟩ : ∃ W, w.setCell ⟨R.bd i j, 4, none⟩ (.int .i64 ((e.pins : Int) + 1)) = W := ⟨_, rfl⟩
  have U1 : Upd (fun k => k = R.bd i j) w w1 := by rw [← hw1]; exact Upd.setCell (p := ⟨R.bd i j, 4, none⟩) (Upd.refl (fun k => k = R.bd i j) w) (fun _ => rfl) _
  have I1 : Blk w1 (R.bd i j) 84 (itC { e with pins := e.pins + 1 } (v.inn j)) := by
    rw [← hw1]
    have := hI.set 4 (.int .i64 ((e.pins : Int) + 1))
    simpa [itC] using this
  have F1 := h.setItem hv he I1 U1
  have hin : fset v.inn j (v.inn j) = v.inn := by funext x; unfold fset; split
                                                  · rename_i e; rw [e]
                                                  · rfl
  rw [hin] at F1
  have BB : Blk (w1.alloc (.cells (pc (some (R.bd i j))).toArray 85)) w1.heap.size 85 (pc (some (R.bd i j))) := Blk.new w1 85 _
  obtain ⟨v', w9, hr9, hR9, hU9, ho9, _⟩ := push_g (P := Try.prog) pc_k pc_1 Try.underlying68 info85 rfl (by decide) (row_upd F1.pr ((Upd.refl Non w1).alloc (.cells (pc (some (R.bd i j))).toArray 85)) (fun _ _ h => h)) (Nat.zero_le _) BB 68 (by rw [bdp_len]; omega) (by rw [bdp_len]; unfold maxLen; omega)
  have c5 := F1.blk.cell1 5 _ rfl
  have B9 : Blk w9 R.cb 70 (rfC R n room st pv) := (F1.blk.alloc _).upd hU9 (fun hk => row_ne F1.pr F1.blk (by decide) _ hk rfl)
  have d5 := B9.cell1 5 _ rfl
  have y5 := B9.frozen 5
  rw [← bdp_snoc R P (i, j)] at hR9
  obtain ⟨va, vc, hv9⟩ := rowq_len hR9
  have hl9 : (bdp R (P ++ [some (i, j)])).length = P.length + 1 := by rw [bdp_len]; simp
  rw [hl9] at hv9
  subst hv9
  have B10 := B9.set 5 (.slice va (P.length + 1) vc)
  have U10 : Upd (fun k => k = R.cb ∨ pv.ownBlock = some k) w1 (w9.setCell ⟨R.cb, 5, none⟩ (.slice va (P.length + 1) vc)) := by
    refine Upd.setCell (p := ⟨R.cb, 5, none⟩) ?_ (fun _ => .inl rfl) _
    exact ((Upd.refl _ w1).alloc _).then hU9 (fun k _ hk => .inr hk)
  have hR10 : RowQ (w9.setCell ⟨R.cb, 5, none⟩ (.slice va (P.length + 1) vc)) 0 (.slice va (P.length + 1) vc) (bdp R (P ++ [some (i, j)])) := row_upd hR9 (Upd.setCell (p := ⟨R.cb, 5, none⟩) (Upd.refl (fun k => k = R.cb) w9) (fun _ => rfl) _) (fun k hk => row_ne hR9 B9 (by decide) k hk)
  have ho10 : (Value.slice va (P.length + 1) vc).ownBlock = pv.ownBlock ∨ ∀ k, (Value.slice va (P.length + 1) vc).ownBlock = some k → w1.heap.size ≤ k := by
    rcases ho9 with ho9 | ho9
    · exact .inl ho9
    · refine .inr (fun k hk => ?_)
      rw [ho9] at hk
      simp at hk
      omega
  have F10 : Hid _ := F1.setPin (pv' := .slice va (P.length + 1) vc) B10 hR10 U10 ho10
  have e10 := B10.cell1 5 _ rfl
  have V10 : Hid (Upd (Rb R vs pv) w (w9.setCell ⟨R.cb, 5, none⟩ (.slice va (P.length + 1) vc))) := (U1.mono (fun k _ hk => .inr (.inr (.inr (.inr ⟨i, v, j, hv, hjl, hk⟩))))).trans (U10.mono (fun k _ hk => hk.elim .inl (fun e => .inr (.inr (.inr (.inl e))))))
  have ho11 : Hid ((Value.slice va (P.length + 1) vc).ownBlock = pv.ownBlock ∨ ∀ k, (Value.slice va (P.length + 1) vc).ownBlock = some k → w.heap.size ≤ k) := by
    rcases ho10 with ho | ho
    · exact .inl ho
    · exact .inr (fun k hk => Nat.le_trans U1.size (ho k hk))
  have g5 : (w1.alloc (.cells #[.pointer (some ⟨R.bd i j, 0, none⟩)] 85)).cell? ⟨R.cb, 5, none⟩ = some pv := (F1.blk.alloc _).cell1 5 _ rfl
  obtain ⟨pa', pcp, hpv⟩ := rowq_len F1.pr
  rw [bdp_len] at hpv
  have hr8 : (Builtin.append_ #[68, 68] 68 #[pv, .slice (some ⟨w1.heap.size, 0, none⟩) 1 1]).run Try.prog (w1.alloc (.cells #[.pointer (some ⟨R.bd i j, 0, none⟩)] 85)) = .ok (.slice va (P.length + 1) vc) w9 := hr9
  have hwr : IntKind.i64.wrap ((e.pins : Nat) + 1 : Int) = (e.pins : Int) + 1 := by rw [IntKind.wrap_i64] <;> omega
  subst hpv
  obtain ⟨W9, hW9⟩ : ∃ W, w9.setCell ⟨R.cb, 5, none⟩ (.slice va (P.length + 1) vc) = W := ⟨_, rfl⟩
  rw [hW9] at F10 V10 e10
  clear hr9 hR9 hU9 ho9 BB B10 U10 hR10 ho10 F1 I1 U1 hI hin B9
  go_enter Try.func61, Try.ntmps61
  go_wp2_with (at_builtin; refine Lib.wpList_append_run _ rfl _ _ _ _ rfl _ _ rfl rfl _ _ hr8 ?_)
  go_ret
  exact ⟨rfl, _, F10.out, V10.out, ho11.out⟩
end
end Go.Proofs.Ytlkfabejecgfgaa
