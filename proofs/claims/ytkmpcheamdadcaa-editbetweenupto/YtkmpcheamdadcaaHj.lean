/-
  EditBetween: its last drawn region (the edit applied), in whatever order.
-/
import Derived.Test.YtkmpcheamdadcaaHi
import Derived.Test.YtkmpcheamdadcaaVp
namespace Go.Proofs.Ytkmpcheamdadcaa
open Go.RowKit
set_option linter.unusedVariables false
set_option linter.unusedSimpArgs false
section
variable {P : Program} {ρ : Operand → Value} {o : Oper} {w w' : World}
theorem exec_move {p : Operand} (ho : o.op = .move p) : (execOp ρ o).run P w = .ok (.value (ρ p)) w := by
  simp only [execOp, ho, Sem.run_pure]
theorem exec_assign {p : Operand} (ho : o.op = .assign p) : (execOp ρ o).run P w = .ok (.value (ρ p)) w := by
  simp only [execOp, ho, Sem.run_pure]
theorem exec_extract {p : Operand} {i : Nat} {v : Value} (ho : o.op = .extract p i) (h : (Instr.extract (ρ p) i).run P w = .ok v w) : (execOp ρ o).run P w = .ok (.value v) w := by
  simp only [execOp, ho, Sem.run_bind, Sem.run_pure, h, Result.andThen_ok]
end
theorem run_load27 {w : World} {X : Nat} {P1 : En} {e : Ed} (h : Blk w X 27 (edA P1 e).toList) : (Instr.loadAt 27 (.pointer (some ⟨X, 0, none⟩))).run Try.prog w = .ok (.agg (edA P1 e)) w := by
  obtain ⟨r0, r1, r2, r3, r4, r5, r6, r7, r8, r9, r10, r11, r12, m6⟩ := ed13 h
  simp [Instr.loadAt, go_sem, *]
theorem run_alloc41 {w : World} : (Instr.alloc 41 true (.tuple #[])).run Try.prog w = .ok (.pointer (some ⟨w.heap.size, 0, none⟩)) (w.alloc (.cells (verA nilV nilL) 41)) := by
  simp [Instr.alloc, go_sem]
  rfl
theorem run_store41 {w : World} {Z : Nat} {f : Nat → Value} {V : Vn} {L : Nat → List Fi} (h : Blk w Z 41 (cells7 f)) : ∃ w', (Instr.storeAt 41 (.pointer (some ⟨Z, 0, none⟩)) (.agg (verA V L))).run Try.prog w = .ok () w' ∧ Upd (fun k => k = Z) w w' ∧ Blk w' Z 41 (cells7 (vsl V L)) := by
  obtain ⟨r0, r1, r2, r3, r4, r5, r6, f0, f1, f2, f3, f4, f5, f6, lr⟩ := blk7 h
  refine ⟨_, ?_, upd7 w Z _ _ _ _ _ _ _, ((((((h.set 0 _).set 1 _).set 2 _).set 3 _).set 4 _).set 5 _).set 6 _⟩
  simp [Instr.storeAt, go_sem, *]
/-- What a slot of the last region holds. -/
def RS (V : Vn) (L K : Nat → List Fi) (P1 : En) (e : Ed) (how : Int) : Nat → Value → World → Prop
  | 0, v, _ => v = .int .i64 how
  | 1, v, _ => v = .agg (verA V L)
  | 2, v, w => ∃ b V', v = .agg (verA V' L) ∧ OwnV w b V' L
  | 3, v, _ => v = .agg (edA P1 e)
  | 4, v, w => ∃ b V', v = .tuple #[.agg (verA V' K), .int .i64 0] ∧ OwnV w b V' K
  | 5, v, w => ∃ b V', v = .tuple #[.agg (verA V' K), .int .i64 0] ∧ OwnV w b V' K
  | 6, v, w => ∃ b V', v = .agg (verA V' K) ∧ OwnV w b V' K
  | 7, v, _ => v = .int .i64 0
  | _, _, _ => True
def sl19 : Nat → Nat
  | 0 => 100 | 1 => 101 | 2 => 102 | 3 => 103 | 4 => 104 | 5 => 99 | 6 => 105 | 7 => 106 | _ => 0
theorem sl19_ne {i j : Nat} (hi : i < 8) (hj : j < 8) (h : j ≠ i) : sl19 j ≠ sl19 i := by
  have : ∀ i, i < 8 → ∀ j, j < 8 → j ≠ i → sl19 j ≠ sl19 i := by decide
  exact this i hi j hj h
theorem sl19_13 {i : Nat} (hi : i < 8) : sl19 i ≠ 13 := (by decide : ∀ i, i < 8 → sl19 i ≠ 13) i hi
theorem sl19_14 {i : Nat} (hi : i < 8) : sl19 i ≠ 14 := (by decide : ∀ i, i < 8 → sl19 i ≠ 14) i hi
section
variable {V : Vn} {L K : Nat → List Fi} {P1 : En} {e : Ed} {how : Int}
theorem RS.below {w w' : World} (hb : Below w.heap.size w w') : ∀ {i : Nat} {v : Value}, RS V L K P1 e how i v w → RS V L K P1 e how i v w'
  | 0, _, h => h
  | 1, _, h => h
  | 2, _, ⟨b, V', h1, h2⟩ => ⟨b, V', h1, h2.below hb⟩
  | 3, _, h => h
  | 4, _, ⟨b, V', h1, h2⟩ => ⟨b, V', h1, h2.below hb⟩
  | 5, _, ⟨b, V', h1, h2⟩ => ⟨b, V', h1, h2.below hb⟩
  | 6, _, ⟨b, V', h1, h2⟩ => ⟨b, V', h1, h2.below hb⟩
  | 7, _, h => h
  | _ + 8, _, _ => trivial
theorem RS.box {w w' : World} {X : Nat} {cs : List Value} (hR : Blk w X 41 cs) (u : Upd (fun k => k = X) w w') : ∀ {i : Nat} {v : Value}, RS V L K P1 e how i v w → RS V L K P1 e how i v w'
  | 0, _, h => h
  | 1, _, h => h
  | 2, _, ⟨b, V', h1, h2⟩ => ⟨b, V', h1, h2.box hR (by decide) u⟩
  | 3, _, h => h
  | 4, _, ⟨b, V', h1, h2⟩ => ⟨b, V', h1, h2.box hR (by decide) u⟩
  | 5, _, ⟨b, V', h1, h2⟩ => ⟨b, V', h1, h2.box hR (by decide) u⟩
  | 6, _, ⟨b, V', h1, h2⟩ => ⟨b, V', h1, h2.box hR (by decide) u⟩
  | 7, _, h => h
  | _ + 8, _, _ => trivial
/-- The result's box: empty, or with the version. -/
def BZ (N : Nat) (K : Nat → List Fi) (s : Bool) (v : Value) (w : World) : Prop := ∃ X V' K', v = .pointer (some ⟨X, 0, none⟩) ∧ N ≤ X ∧ Blk w X 41 (cells7 (vsl V' K')) ∧ (s = true → K' = K ∧ ∃ b, OwnV w b V' K)
theorem BZ.below {N : Nat} {s : Bool} {v : Value} {w w' : World} (h : BZ N K s v w) (hb : Below w.heap.size w w') : BZ N K s v w' := by
  obtain ⟨X, V', K', h1, h2, h3, h4⟩ := h
  refine ⟨X, V', K', h1, h2, h3.upd (S := Non) (Upd.ofBelow hb) (fun h => h), fun hs => ?_⟩
  obtain ⟨h5, b, h6⟩ := h4 hs
  exact ⟨h5, b, h6.below hb⟩
structure JS (W1 : World) (V : Vn) (L K : Nat → List Fi) (P1 : En) (e : Ed) (how : Int) (d : Nat → Bool) (x : Nat → Value) (w : World) : Prop where
  bel : Below W1.heap.size W1 w
  r : ∀ i, i < 8 → d i = true → RS V L K P1 e how i (x (sl19 i)) w
  bz : d 8 = true → BZ W1.heap.size K (d 9) (x 13) w
  b14 : d 10 = true → x 14 = .int .i64 0
  k : d 9 = true → d 8 = true
variable {W1 w w' : World} {d : Nat → Bool} {x : Nat → Value}
theorem JS.set {i : Nat} (hi : i < 8) {v : Value} (h : JS W1 V L K P1 e how d x w) (hv : RS V L K P1 e how i v w') (hb : Below w.heap.size w w') : JS W1 V L K P1 e how (fun j => if j = i then true else d j) (atk x (sl19 i) v) w' := by
  refine ⟨bstep h.bel hb, fun j hj hd => ?_, fun hd => ?_, fun hd => ?_, fun hd => ?_⟩
  · by_cases hji : j = i
    · subst hji
      rw [show atk x (sl19 j) v (sl19 j) = v from if_pos rfl]
      exact hv
    · rw [show atk x (sl19 i) v (sl19 j) = x (sl19 j) from if_neg (sl19_ne hi hj hji)]
      exact (h.r j hj (by simpa [hji] using hd)).below hb
  · rw [show atk x (sl19 i) v 13 = x 13 from if_neg (Ne.symm (sl19_13 hi)), if_neg (by omega)]
    exact (h.bz (by rwa [if_neg (by omega)] at hd)).below hb
  · rw [show atk x (sl19 i) v 14 = x 14 from if_neg (Ne.symm (sl19_14 hi))]
    exact h.b14 (by rwa [if_neg (by omega)] at hd)
  · rw [if_neg (by omega)] at hd ⊢
    exact h.k hd
theorem JS.new (h : JS W1 V L K P1 e how d x w) (h8 : d 8 = false) : JS W1 V L K P1 e how (fun j => if j = 8 then true else d j) (atk x 13 (.pointer (some ⟨w.heap.size, 0, none⟩))) (w.alloc (.cells (verA nilV nilL) 41)) := by
  have hb : Below w.heap.size w (w.alloc (.cells (verA nilV nilL) 41)) := al1 _ _
  refine ⟨bstep h.bel hb, fun j hj hd => ?_, fun hd => ?_, fun hd => ?_, fun hd => rfl⟩
  · rw [show atk x 13 _ (sl19 j) = x (sl19 j) from if_neg (sl19_13 hj)]
    exact (h.r j hj (by rwa [if_neg (by omega)] at hd)).below hb
  · refine ⟨w.heap.size, nilV, nilL, rfl, h.bel.size, Blk.new w 41 (cells7 (vsl nilV nilL)), fun hs => ?_⟩
    rw [if_neg (by decide)] at hs
    rw [h.k hs] at h8
    cases h8
  · exact h.b14 (by simpa using hd)
theorem JS.st (h : JS W1 V L K P1 e how d x w) (h8 : d 8 = true) (h6 : d 6 = true) : ∃ w', (Instr.storeAt 41 (x 13) (x 105)).run Try.prog w = .ok () w' ∧ JS W1 V L K P1 e how (fun j => if j = 9 then true else d j) x w' := by
  obtain ⟨X, V', K', e1, h2, h3, _⟩ := h.bz h8
  obtain ⟨b, V2, e2, ho⟩ := h.r 6 (by decide) h6
  obtain ⟨w', hr, u, hB⟩ := run_store41 (V := V2) (L := K) h3
  refine ⟨w', by rw [e1, show x 105 = _ from e2]; exact hr, Upd.bel h.bel u (fun j hj => by omega) h.bel.size, fun j hj hd => ?_, fun hd => ?_, fun hd => ?_, fun _ => by simpa using h8⟩
  · exact (h.r j hj (by rwa [if_neg (by omega)] at hd)).box h3 u
  · exact ⟨X, V2, K, e1, h2, hB, fun _ => ⟨rfl, b, ho.box h3 (by decide) u⟩⟩
  · exact h.b14 (by simpa using hd)
theorem JS.last (h : JS W1 V L K P1 e how d x w) : JS W1 V L K P1 e how (fun j => if j = 10 then true else d j) (atk x 14 (.int .i64 0)) w := by
  refine ⟨h.bel, fun j hj hd => ?_, fun hd => ?_, fun hd => rfl, fun hd => ?_⟩
  · rw [show atk x 14 _ (sl19 j) = x (sl19 j) from if_neg (sl19_14 hj)]
    exact h.r j hj (by rwa [if_neg (by omega)] at hd)
  · exact h.bz (by simpa using hd)
  · simpa using h.k (by simpa using hd)
def ks19 : List Nat := [100, 101, 102, 103, 104, 99, 105, 106, 13, 14]
set_option maxRecDepth 100000 in
set_option maxHeartbeats 4000000 in
/-- The edit applied to a copy of the first version, told into a box. -/
theorem reg19_wp {Q : Exit → Act → World → Prop} {a : Act} {B1 X : Nat} (h0 : a.eval (.tmp 0) = .int .i64 how) (h4 : a.eval (.tmp 4) = .pointer (some ⟨B1, 0, none⟩)) (h7 : a.eval (.tmp 7) = .pointer (some ⟨X, 0, none⟩)) (hsz : a.tmps.size = 117)
    (HV : ∀ W, Below W1.heap.size W1 W → Blk W B1 41 (cells7 (vsl V L)) ∧ RdV W V L ∧ Blk W X 27 (edA P1 e).toList ∧ RdEd W P1 e) (hr : appR how L e = (0, K)) (hao : ∀ a ∈ e.added, FOk a.f)
    (hend : ∀ (x : Nat → Value) (w : World) (Z : Nat) (V2 : Vn) (b : Nat), x 13 = .pointer (some ⟨Z, 0, none⟩) → x 14 = .int .i64 0 → Below W1.heap.size W1 w → Blk w Z 41 (cells7 (vsl V2 K)) → OwnV w b V2 K →
      Q .normal (ks19.foldl (fun b k => b.put (some k) (x k)) a) w) : (Code.region 19 (opsOf (ahead1 (behind1 (behind1 (behind1 (behind1 (behind1 (behind1 (behind1 (behind1 (bodyOf Try.f6))))))))))) true).wp Try.prog Q a W1 := by
  refine wp_region_slots ks19 (JS W1 V L K P1 e how) (by kernel_rfl) (by kernel_rfl) ⟨(Below.refl _ _).drew, fun _ _ h => (by cases h), fun h => (by cases h), fun h => (by cases h), fun h => (by cases h)⟩
    ⟨?_, ?_, ?_, ?_, ?_, ?_, ?_, ?_, ?_, ?_, ?_, trivial⟩ ?_
  · intro d x w hd ho hJ K hK
    exact step_value rfl rfl rfl (exec_move rfl) (hK.out _ _ (hJ.set (i := 0) (by decide) (by show (slots a ks19 x).eval (.tmp 0) = _; rw [slots_out rfl, h0]) (Below.refl _ _)))
  · intro d x w hd ho hJ K hK
    exact step_value rfl rfl rfl (exec_load rfl (by rw [slots_out rfl, h4]; exact run_load41 (HV w hJ.bel).1)) (hK.out _ _ (hJ.set (i := 1) (by decide) rfl (Below.refl _ _)))
  · intro d x w hd ho hJ K hK
    have d0 : d 1 = true := by simpa [Region.binds] using ho
    refine step_calls rfl rfl rfl rfl (vs := #[.agg (verA V L)]) ?_ (enters_of (P := Try.prog) Try.func17 (by kernel_rfl) rfl) (copied_any (HV w hJ.bel).2.1) ?_
    · simp only [List.map_toArray, List.map_cons, List.map_nil]
      rw [slots_in rfl (by rw [hsz]; decide), show x 101 = _ from hJ.r 1 (by decide) d0]
    · rintro en w' ⟨V', rfl, h1, h2⟩
      exact ⟨_, rfl, hK.out _ _ (hJ.set (i := 2) (by decide) ⟨_, V', rfl, h1⟩ h2)⟩
  · intro d x w hd ho hJ K hK
    exact step_value rfl rfl rfl (exec_load rfl (by rw [slots_out rfl, h7]; exact run_load27 (HV w hJ.bel).2.2.1)) (hK.out _ _ (hJ.set (i := 3) (by decide) rfl (Below.refl _ _)))
  · intro d x w hd ho hJ K hK
    have d2 : d 0 = true ∧ d 2 = true ∧ d 3 = true := by
      simp [Region.binds] at ho
      exact ⟨by simp_all, by simp_all, by simp_all⟩
    obtain ⟨b1, V1, e1, o1⟩ := hJ.r 2 (by decide) d2.2.1
    obtain ⟨_, r1, _, r2⟩ := HV w hJ.bel
    have hc := apply_any (o1.rdv r1.len r1.ok) r2 hao how
    rw [hr] at hc
    refine step_calls rfl rfl rfl rfl (vs := #[.int .i64 how, .agg (verA V1 L), .agg (edA P1 e)]) ?_ (enters_of (P := Try.prog) Try.func18 (by kernel_rfl) rfl) hc ?_
    · simp only [List.map_toArray, List.map_cons, List.map_nil]
      rw [slots_in rfl (by rw [hsz]; decide), slots_in rfl (by rw [hsz]; decide), slots_in rfl (by rw [hsz]; decide), show x 100 = _ from hJ.r 0 (by decide) d2.1, show x 102 = _ from e1, show x 103 = _ from hJ.r 3 (by decide) d2.2.2]
    · rintro en w' ⟨V', rfl, h1, _, h2⟩
      exact ⟨_, rfl, hK.out _ _ (hJ.set (i := 4) (by decide) ⟨_, V', rfl, h1⟩ h2)⟩
  · intro d x w hd ho hJ K hK
    have d0 : d 4 = true := by simpa [Region.binds] using ho
    exact step_value rfl rfl rfl (exec_move rfl) (hK.out _ _ (hJ.set (i := 5) (by decide) (by show RS _ _ _ _ _ _ 5 ((slots a ks19 x).eval (.tmp 104)) _; rw [slots_in rfl (by rw [hsz]; decide)]; exact hJ.r 4 (by decide) d0) (Below.refl _ _)))
  · intro d x w hd ho hJ K hK
    have d0 : d 5 = true := by simpa [Region.binds] using ho
    obtain ⟨b1, V1, e1, o1⟩ := hJ.r 5 (by decide) d0
    refine step_value rfl rfl rfl (exec_extract (v := .agg (verA V1 _)) rfl ?_) (hK.out _ _ (hJ.set (i := 6) (by decide) ⟨b1, V1, rfl, o1⟩ (Below.refl _ _)))
    rw [slots_in rfl (by rw [hsz]; decide), show x 99 = _ from e1]
    simp [Instr.extract, go_sem]
  · intro d x w hd ho hJ K hK
    have d0 : d 5 = true := by simpa [Region.binds] using ho
    obtain ⟨b1, V1, e1, o1⟩ := hJ.r 5 (by decide) d0
    refine step_value rfl rfl rfl (exec_extract (v := .int .i64 0) rfl ?_) (hK.out _ _ (hJ.set (i := 7) (by decide) rfl (Below.refl _ _)))
    rw [slots_in rfl (by rw [hsz]; decide), show x 99 = _ from e1]
    simp [Instr.extract, go_sem]
  · intro d x w hd ho hJ K hK
    exact step_value rfl rfl rfl (exec_alloc rfl run_alloc41) (hK.out _ _ (hJ.new hd))
  · intro d x w hd ho hJ K hK
    have d2 : d 8 = true ∧ d 6 = true := by
      simp [Region.binds] at ho
      exact ⟨by simp_all, by simp_all⟩
    obtain ⟨w', h1, h2⟩ := hJ.st d2.1 d2.2
    exact step_skip' rfl rfl (exec_store rfl (by rw [slots_in rfl (by rw [hsz]; decide), slots_in rfl (by rw [hsz]; decide)]; exact h1)) (hK.out _ _ h2)
  · intro d x w hd ho hJ K hK
    have d2 : d 7 = true := by
      simp [Region.binds] at ho
      simp_all
    refine step_value (v := .int .i64 0) rfl rfl rfl ?_ (hK.out _ _ hJ.last)
    rw [exec_assign rfl, slots_in rfl (by rw [hsz]; decide), show x 106 = _ from hJ.r 7 (by decide) d2]
  · intro d x w hd hJ
    have hd' : ∀ i, i < 11 → d i = true := fun i hi => hd i hi
    obtain ⟨Z, V2, K2, e1, _, B1, k1⟩ := hJ.bz (hd' 8 (by decide))
    obtain ⟨rfl, b1, o1⟩ := k1 (hd' 9 (by decide))
    exact hend x w Z V2 b1 e1 (hJ.b14 (hd' 10 (by decide))) hJ.bel B1 o1
end
end Go.Proofs.Ytkmpcheamdadcaa
