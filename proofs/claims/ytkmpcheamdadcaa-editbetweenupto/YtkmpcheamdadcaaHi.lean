/-
  EditBetween: its first region, in whatever order.
-/
import Derived.Test.YtkmpcheamdadcaaRm
import Derived.Test.YtkmpcheamdadcaaYl
import Derived.Test.YtkmpcheamdadcaaVj
import Derived.Test.YtkmpcheamdadcaaYk
import Derived.Test.YtkmpcheamdadcaaHg
namespace Go.Proofs.Ytkmpcheamdadcaa
open Go.RowKit
set_option linter.unusedVariables false
set_option linter.unusedSimpArgs false
section
variable {P : Program} {ρ : Operand → Value} {o : Oper} {w w' : World}
theorem exec_load {t : TypeId} {p : Operand} {v : Value} (ho : o.op = .load t p) (h : (Instr.loadAt t (ρ p)).run P w = .ok v w') : (execOp ρ o).run P w = .ok (.value v) w' := by
  simp only [execOp, ho, Sem.run_bind, Sem.run_pure, h, Result.andThen_ok]
theorem exec_store {t : TypeId} {p q : Operand} (ho : o.op = .store t p q) (h : (Instr.storeAt t (ρ p) (ρ q)).run P w = .ok () w') : (execOp ρ o).run P w = .ok .skip w' := by
  simp only [execOp, ho, Sem.run_bind, Sem.run_pure, h, Result.andThen_ok]
theorem exec_alloc {t : TypeId} {v : Value} (ho : o.op = .alloc t) (h : (Instr.alloc t true (.tuple #[])).run P w = .ok v w') : (execOp ρ o).run P w = .ok (.value v) w' := by
  simp only [execOp, ho, Sem.run_bind, Sem.run_pure, h, Result.andThen_ok]
end
theorem run_load41 {w : World} {B : Nat} {V : Vn} {L : Nat → List Fi} (h : Blk w B 41 (cells7 (vsl V L))) : (Instr.loadAt 41 (.pointer (some ⟨B, 0, none⟩))).run Try.prog w = .ok (.agg (verA V L)) w := by
  obtain ⟨v0, v1, v2, v3, v4, v5, v6, _, _, _, _, _, _, _, _⟩ := blk7 h
  simp [Instr.loadAt, go_sem, *]
theorem run_alloc27 {w : World} : (Instr.alloc 27 true (.tuple #[])).run Try.prog w = .ok (.pointer (some ⟨w.heap.size, 0, none⟩)) (w.alloc (edO ⟨none, 0, none, 0⟩ ed0)) := by
  simp [Instr.alloc, go_sem]
  rfl
theorem run_store27 {w : World} {X : Nat} {P1 P2 : En} {e1 e2 : Ed} (h : Blk w X 27 (edA P1 e1).toList) : ∃ w', (Instr.storeAt 27 (.pointer (some ⟨X, 0, none⟩)) (.agg (edA P2 e2))).run Try.prog w = .ok () w' ∧ Upd (fun k => k = X) w w' ∧ Blk w' X 27 (edA P2 e2).toList := by
  have f0 := h.frozen 0
  have f1 := h.frozen 1
  have f2 := h.frozen 2
  have f3 := h.frozen 3
  have f4 := h.frozen 4
  have f5 := h.frozen 5
  have f6 := h.frozen 6
  have f7 := h.frozen 7
  have f8 := h.frozen 8
  have f9 := h.frozen 9
  have f10 := h.frozen 10
  have f11 := h.frozen 11
  have f12 := h.frozen 12
  obtain ⟨r0, r1, r2, r3, r4, r5, r6, r7, r8, r9, r10, r11, r12, m6⟩ := ed13 h
  refine ⟨_, ?_, upd13 w X _ _ _ _ _ _ _ _ _ _ _ _ _, set13 h _ _ _ _ _ _ _ _ _ _ _ _ _⟩
  simp [Instr.storeAt, go_sem, *]
/-- What a slot of the first region holds. -/
def RQ (V U : Vn) (L M : Nat → List Fi) (e : Ed) : Nat → Value → World → Prop
  | 0, v, _ => v = .agg (verA V L)
  | 1, v, w => ∃ b V', v = .agg (verA V' L) ∧ OwnV w b V' L
  | 2, v, _ => v = .agg (verA U M)
  | 3, v, w => ∃ b V', v = .agg (verA V' M) ∧ OwnV w b V' M
  | 4, v, w => ∃ b P, v = .agg (edA P e) ∧ OwnE w b P e
  | 5, v, _ => v = .agg (verA V L)
  | 6, v, _ => v = .agg (verA U M)
  | 7, v, w => ∃ b P, v = .agg (edA P e) ∧ OwnE w b P e
  | _, _, _ => True
section
variable {V U : Vn} {L M : Nat → List Fi} {e : Ed}
theorem RQ.below {w w' : World} (hb : Below w.heap.size w w') : ∀ {i : Nat} {v : Value}, RQ V U L M e i v w → RQ V U L M e i v w'
  | 0, _, h => h
  | 1, _, ⟨b, V', h1, h2⟩ => ⟨b, V', h1, h2.below hb⟩
  | 2, _, h => h
  | 3, _, ⟨b, V', h1, h2⟩ => ⟨b, V', h1, h2.below hb⟩
  | 4, _, ⟨b, P, h1, h2⟩ => ⟨b, P, h1, h2.below hb⟩
  | 5, _, h => h
  | 6, _, h => h
  | 7, _, ⟨b, P, h1, h2⟩ => ⟨b, P, h1, h2.below hb⟩
  | _ + 8, _, _ => trivial
theorem RQ.box {w w' : World} {X : Nat} {cs : List Value} (hR : Blk w X 27 cs) (u : Upd (fun k => k = X) w w') : ∀ {i : Nat} {v : Value}, RQ V U L M e i v w → RQ V U L M e i v w'
  | 0, _, h => h
  | 1, _, ⟨b, V', h1, h2⟩ => ⟨b, V', h1, h2.box hR (by decide) u⟩
  | 2, _, h => h
  | 3, _, ⟨b, V', h1, h2⟩ => ⟨b, V', h1, h2.box hR (by decide) u⟩
  | 4, _, ⟨b, P, h1, h2⟩ => ⟨b, P, h1, h2.box hR (by decide) (by decide) u⟩
  | 5, _, h => h
  | 6, _, h => h
  | 7, _, ⟨b, P, h1, h2⟩ => ⟨b, P, h1, h2.box hR (by decide) (by decide) u⟩
  | _ + 8, _, _ => trivial
/-- An edit's box: empty, or with the edit. -/
def BX (N : Nat) (e : Ed) (s : Bool) (v : Value) (w : World) : Prop := ∃ X P e', v = .pointer (some ⟨X, 0, none⟩) ∧ N ≤ X ∧ Blk w X 27 (edA P e').toList ∧ (s = true → e' = e ∧ ∃ b, OwnE w b P e)
theorem BX.below {N : Nat} {s : Bool} {v : Value} {w w' : World} (h : BX N e s v w) (hb : Below w.heap.size w w') : BX N e s v w' := by
  obtain ⟨X, P, e', h1, h2, h3, h4⟩ := h
  refine ⟨X, P, e', h1, h2, h3.upd (S := Non) (Upd.ofBelow hb) (fun h => h), fun hs => ?_⟩
  obtain ⟨h5, b, h6⟩ := h4 hs
  exact ⟨h5, b, h6.below hb⟩
theorem BX.box {N X : Nat} {cs : List Value} {s : Bool} {v : Value} {w w' : World} (h : BX N e s v w) (hv : v ≠ .pointer (some ⟨X, 0, none⟩)) (hR : Blk w X 27 cs) (u : Upd (fun k => k = X) w w') : BX N e s v w' := by
  obtain ⟨Y, P, e', h1, h2, h3, h4⟩ := h
  refine ⟨Y, P, e', h1, h2, h3.upd u (fun hY => hv (by rw [h1]; subst hY; rfl)), fun hs => ?_⟩
  obtain ⟨h5, b, h6⟩ := h4 hs
  exact ⟨h5, b, h6.box hR (by decide) (by decide) u⟩
structure JQ (W1 : World) (V U : Vn) (L M : Nat → List Fi) (e : Ed) (d : Nat → Bool) (x : Nat → Value) (w : World) : Prop where
  bel : Below W1.heap.size W1 w
  r : ∀ i, i < 8 → d i = true → RQ V U L M e i (x (15 + i)) w
  b7 : d 8 = true → BX W1.heap.size e (d 10) (x 7) w
  b8 : d 9 = true → BX W1.heap.size e (d 11) (x 8) w
  ne : d 8 = true → d 9 = true → x 7 ≠ x 8
  k7 : d 10 = true → d 8 = true
  k8 : d 11 = true → d 9 = true
variable {W1 w w' : World} {d : Nat → Bool} {x : Nat → Value}
theorem JQ.set {i : Nat} (hi : i < 8) {v : Value} (h : JQ W1 V U L M e d x w) (hv : RQ V U L M e i v w') (hb : Below w.heap.size w w') : JQ W1 V U L M e (fun j => if j = i then true else d j) (atk x (15 + i) v) w' := by
  refine ⟨bstep h.bel hb, fun j hj hd => ?_, fun hd => ?_, fun hd => ?_, fun h1 h2 => ?_, fun hd => ?_, fun hd => ?_⟩
  · by_cases hji : j = i
    · subst hji
      rw [show atk x (15 + j) v (15 + j) = v from if_pos rfl]
      exact hv
    · rw [show atk x (15 + i) v (15 + j) = x (15 + j) from if_neg (by omega)]
      exact (h.r j hj (by simpa [hji] using hd)).below hb
  · rw [show atk x (15 + i) v 7 = x 7 from if_neg (by omega), if_neg (by omega)]
    exact (h.b7 (by rwa [if_neg (by omega)] at hd)).below hb
  · rw [show atk x (15 + i) v 8 = x 8 from if_neg (by omega), if_neg (by omega)]
    exact (h.b8 (by rwa [if_neg (by omega)] at hd)).below hb
  · rw [show atk x (15 + i) v 7 = x 7 from if_neg (by omega), show atk x (15 + i) v 8 = x 8 from if_neg (by omega)]
    exact h.ne (by rwa [if_neg (by omega)] at h1) (by rwa [if_neg (by omega)] at h2)
  · rw [if_neg (by omega)] at hd ⊢
    exact h.k7 hd
  · rw [if_neg (by omega)] at hd ⊢
    exact h.k8 hd
theorem BX.lt {N : Nat} {s : Bool} {v : Value} {w : World} (h : BX N e s v w) : v ≠ .pointer (some ⟨w.heap.size, 0, none⟩) := by
  obtain ⟨X, P, e', h1, h2, h3, h4⟩ := h
  rw [h1]
  intro hh
  have := h3.lt
  injection hh with hh
  injection hh with hh
  injection hh with hh
  omega
theorem JQ.new7 (h : JQ W1 V U L M e d x w) (h8 : d 8 = false) : JQ W1 V U L M e (fun j => if j = 8 then true else d j) (atk x 7 (.pointer (some ⟨w.heap.size, 0, none⟩))) (w.alloc (edO ⟨none, 0, none, 0⟩ ed0)) := by
  have hb : Below w.heap.size w (w.alloc (edO ⟨none, 0, none, 0⟩ ed0)) := al1 _ _
  refine ⟨bstep h.bel hb, fun j hj hd => ?_, fun hd => ?_, fun hd => ?_, fun h1 h2 => ?_, fun hd => rfl, fun hd => ?_⟩
  · rw [show atk x 7 _ (15 + j) = x (15 + j) from if_neg (by omega)]
    exact (h.r j hj (by rwa [if_neg (by omega)] at hd)).below hb
  · refine ⟨w.heap.size, ⟨none, 0, none, 0⟩, ed0, rfl, h.bel.size, ed_box _ _ _, fun hs => ?_⟩
    rw [if_neg (by decide)] at hs
    rw [h.k7 hs] at h8
    cases h8
  · exact (h.b8 (by simpa using hd)).below hb
  · exact ((h.b8 (by simpa using h2)).lt).symm
  · simpa using h.k8 (by simpa using hd)
theorem JQ.new8 (h : JQ W1 V U L M e d x w) (h9 : d 9 = false) : JQ W1 V U L M e (fun j => if j = 9 then true else d j) (atk x 8 (.pointer (some ⟨w.heap.size, 0, none⟩))) (w.alloc (edO ⟨none, 0, none, 0⟩ ed0)) := by
  have hb : Below w.heap.size w (w.alloc (edO ⟨none, 0, none, 0⟩ ed0)) := al1 _ _
  refine ⟨bstep h.bel hb, fun j hj hd => ?_, fun hd => ?_, fun hd => ?_, fun h1 h2 => ?_, fun hd => ?_, fun hd => rfl⟩
  · rw [show atk x 8 _ (15 + j) = x (15 + j) from if_neg (by omega)]
    exact (h.r j hj (by rwa [if_neg (by omega)] at hd)).below hb
  · exact (h.b7 (by simpa using hd)).below hb
  · refine ⟨w.heap.size, ⟨none, 0, none, 0⟩, ed0, rfl, h.bel.size, ed_box _ _ _, fun hs => ?_⟩
    rw [if_neg (by decide)] at hs
    rw [h.k8 hs] at h9
    cases h9
  · exact (h.b7 (by simpa using h1)).lt
  · simpa using h.k7 (by simpa using hd)
theorem JQ.st7 (h : JQ W1 V U L M e d x w) (h8 : d 8 = true) (h4 : d 4 = true) : ∃ w', (Instr.storeAt 27 (x 7) (x 19)).run Try.prog w = .ok () w' ∧ JQ W1 V U L M e (fun j => if j = 10 then true else d j) x w' := by
  obtain ⟨X, P, e', e1, h2, h3, _⟩ := h.b7 h8
  obtain ⟨b, P', e2, ho⟩ := h.r 4 (by decide) h4
  obtain ⟨w', hr, u, hB⟩ := run_store27 (P2 := P') (e2 := e) h3
  refine ⟨w', by rw [e1, show x 19 = _ from e2]; exact hr, Upd.bel h.bel u (fun j hj => by omega) h.bel.size, fun j hj hd => ?_, fun hd => ?_, fun hd => ?_, fun a1 a2 => ?_, fun _ => by simpa using h8, fun hd => by simpa using h.k8 (by simpa using hd)⟩
  · exact (h.r j hj (by rwa [if_neg (by omega)] at hd)).box h3 u
  · exact ⟨X, P', e, e1, h2, hB, fun _ => ⟨rfl, b, ho.box h3 (by decide) (by decide) u⟩⟩
  · have hd9 : d 9 = true := by simpa using hd
    exact (h.b8 hd9).box (by rw [← e1]; exact (h.ne h8 hd9).symm) h3 u
  · exact h.ne h8 (by simpa using a2)
theorem JQ.st8 (h : JQ W1 V U L M e d x w) (h9 : d 9 = true) (h7 : d 7 = true) : ∃ w', (Instr.storeAt 27 (x 8) (x 22)).run Try.prog w = .ok () w' ∧ JQ W1 V U L M e (fun j => if j = 11 then true else d j) x w' := by
  obtain ⟨X, P, e', e1, h2, h3, _⟩ := h.b8 h9
  obtain ⟨b, P', e2, ho⟩ := h.r 7 (by decide) h7
  obtain ⟨w', hr, u, hB⟩ := run_store27 (P2 := P') (e2 := e) h3
  refine ⟨w', by rw [e1, show x 22 = _ from e2]; exact hr, Upd.bel h.bel u (fun j hj => by omega) h.bel.size, fun j hj hd => ?_, fun hd => ?_, fun hd => ?_, fun a1 a2 => ?_, fun hd => by simpa using h.k7 (by simpa using hd), fun _ => by simpa using h9⟩
  · exact (h.r j hj (by rwa [if_neg (by omega)] at hd)).box h3 u
  · have hd8 : d 8 = true := by simpa using hd
    exact (h.b7 hd8).box (by rw [← e1]; exact h.ne hd8 h9) h3 u
  · exact ⟨X, P', e, e1, h2, hB, fun _ => ⟨rfl, b, ho.box h3 (by decide) (by decide) u⟩⟩
  · exact h.ne (by simpa using a1) h9

def behind1 (c : Code) : Code := match c with | .seq _ b => b | c => c
def ahead1 (c : Code) : Code := match c with | .seq a _ => a | c => c
def opsOf (c : Code) : Array Oper := match c with | .region _ ops _ => ops | _ => #[]
def bodyOf (f : Func) : Code := f.body.getD .skip
def ks1 : List Nat := [15, 16, 17, 18, 19, 20, 21, 22, 7, 8]
set_option maxRecDepth 100000 in
set_option maxHeartbeats 4000000 in
/-- The first region: both Betweens, on copies and on the versions themselves, each told into a box of its own. -/
theorem reg1_wp {Q : Exit → Act → World → Prop} {a : Act} {B1 B2 : Nat} (h4 : a.eval (.tmp 4) = .pointer (some ⟨B1, 0, none⟩)) (h5 : a.eval (.tmp 5) = .pointer (some ⟨B2, 0, none⟩)) (hsz : a.tmps.size = 117)
    (HV : ∀ W, Below W1.heap.size W1 W → Blk W B1 41 (cells7 (vsl V L)) ∧ Blk W B2 41 (cells7 (vsl U M)) ∧ RdV W V L ∧ RdV W U M)
    (hL : ∀ i, i < 7 → (L i).length ≤ 1048576) (hM : ∀ i, i < 7 → (M i).length ≤ 1048576) (kL : ∀ i, i < 7 → ∀ f ∈ L i, FKy f) (kM : ∀ i, i < 7 → ∀ f ∈ M i, FKy f)
    (hend : ∀ (x : Nat → Value) (w : World) (X Y : Nat) (P1 P2 : En) (b1 b2 : Nat), x 7 = .pointer (some ⟨X, 0, none⟩) → x 8 = .pointer (some ⟨Y, 0, none⟩) → Below W1.heap.size W1 w → Blk w X 27 (edA P1 (betE L M)).toList → Blk w Y 27 (edA P2 (betE L M)).toList → OwnE w b1 P1 (betE L M) → OwnE w b2 P2 (betE L M) →
      Q .normal (ks1.foldl (fun b k => b.put (some k) (x k)) a) w) : (Code.region 1 (opsOf (ahead1 (behind1 (bodyOf Try.f6)))) true).wp Try.prog Q a W1 := by
  obtain ⟨e, he⟩ : ∃ e, betE L M = e := ⟨_, rfl⟩
  rw [he] at hend
  refine wp_region_slots ks1 (JQ W1 V U L M e) (by kernel_rfl) (by kernel_rfl) ⟨(Below.refl _ _).drew, fun _ _ h => (by cases h), fun h => (by cases h), fun h => (by cases h), fun h => (by cases h), fun h => (by cases h), fun h => (by cases h)⟩
    ⟨?_, ?_, ?_, ?_, ?_, ?_, ?_, ?_, ?_, ?_, ?_, ?_, trivial⟩ ?_
  · intro d x w hd ho hJ K hK
    exact step_value rfl rfl rfl (exec_load rfl (by rw [slots_out rfl, h4]; exact run_load41 (HV w hJ.bel).1)) (hK.out _ _ (hJ.set (i := 0) (by decide) rfl (Below.refl _ _)))
  · intro d x w hd ho hJ K hK
    have d0 : d 0 = true := by simpa [Region.binds] using ho
    refine step_calls rfl rfl rfl rfl (vs := #[.agg (verA V L)]) ?_ (enters_of (P := Try.prog) Try.func17 (by kernel_rfl) rfl) (copied_any (HV w hJ.bel).2.2.1) ?_
    · simp only [List.map_toArray, List.map_cons, List.map_nil]
      rw [slots_in rfl (by rw [hsz]; decide), show x 15 = _ from hJ.r 0 (by decide) d0]
    · rintro en w' ⟨V', rfl, h1, h2⟩
      exact ⟨_, rfl, hK.out _ _ (hJ.set (i := 1) (by decide) ⟨_, V', rfl, h1⟩ h2)⟩
  · intro d x w hd ho hJ K hK
    exact step_value rfl rfl rfl (exec_load rfl (by rw [slots_out rfl, h5]; exact run_load41 (HV w hJ.bel).2.1)) (hK.out _ _ (hJ.set (i := 2) (by decide) rfl (Below.refl _ _)))
  · intro d x w hd ho hJ K hK
    have d2 : d 2 = true ∧ d 1 = true := by simpa [Region.binds] using ho
    refine step_calls rfl rfl rfl rfl (vs := #[.agg (verA U M)]) ?_ (enters_of (P := Try.prog) Try.func17 (by kernel_rfl) rfl) (copied_any (HV w hJ.bel).2.2.2) ?_
    · simp only [List.map_toArray, List.map_cons, List.map_nil]
      rw [slots_in rfl (by rw [hsz]; decide), show x 17 = _ from hJ.r 2 (by decide) d2.1]
    · rintro en w' ⟨V', rfl, h1, h2⟩
      exact ⟨_, rfl, hK.out _ _ (hJ.set (i := 3) (by decide) ⟨_, V', rfl, h1⟩ h2)⟩
  · intro d x w hd ho hJ K hK
    have d2 : d 1 = true ∧ d 3 = true := by simpa [Region.binds] using ho
    obtain ⟨b1, V1, e1, o1⟩ := hJ.r 1 (by decide) d2.1
    obtain ⟨b2, V2, e2, o2⟩ := hJ.r 3 (by decide) d2.2
    obtain ⟨_, _, r1, r2⟩ := HV w hJ.bel
    have hc := between_any (o1.rdv r1.len r1.ok) (o2.rdv r2.len r2.ok) hL hM kL kM
    rw [he] at hc
    refine step_calls rfl rfl rfl rfl (vs := #[.agg (verA V1 L), .agg (verA V2 M)]) ?_ (enters_of (P := Try.prog) Try.func23 (by kernel_rfl) rfl) hc ?_
    · simp only [List.map_toArray, List.map_cons, List.map_nil]
      rw [slots_in rfl (by rw [hsz]; decide), slots_in rfl (by rw [hsz]; decide), show x 16 = _ from e1, show x 18 = _ from e2]
    · rintro en w' ⟨⟨P, rfl, h1⟩, h2⟩
      exact ⟨_, rfl, hK.out _ _ (hJ.set (i := 4) (by decide) ⟨_, P, rfl, h1⟩ h2)⟩
  · intro d x w hd ho hJ K hK
    exact step_value rfl rfl rfl (exec_load rfl (by rw [slots_out rfl, h4]; exact run_load41 (HV w hJ.bel).1)) (hK.out _ _ (hJ.set (i := 5) (by decide) rfl (Below.refl _ _)))
  · intro d x w hd ho hJ K hK
    exact step_value rfl rfl rfl (exec_load rfl (by rw [slots_out rfl, h5]; exact run_load41 (HV w hJ.bel).2.1)) (hK.out _ _ (hJ.set (i := 6) (by decide) rfl (Below.refl _ _)))
  · intro d x w hd ho hJ K hK
    have d2 : d 5 = true ∧ d 6 = true ∧ d 4 = true := by simpa [Region.binds] using ho
    obtain ⟨_, _, r1, r2⟩ := HV w hJ.bel
    have hc := rbetween_any r1 r2 hL hM
    rw [he] at hc
    refine step_calls rfl rfl rfl rfl (vs := #[.agg (verA V L), .agg (verA U M)]) ?_ (enters_of (P := Try.prog) Try.func24 (by kernel_rfl) rfl) hc ?_
    · simp only [List.map_toArray, List.map_cons, List.map_nil]
      rw [slots_in rfl (by rw [hsz]; decide), slots_in rfl (by rw [hsz]; decide), show x 20 = _ from hJ.r 5 (by decide) d2.1, show x 21 = _ from hJ.r 6 (by decide) d2.2.1]
    · rintro en w' ⟨⟨P, rfl, h1⟩, h2⟩
      exact ⟨_, rfl, hK.out _ _ (hJ.set (i := 7) (by decide) ⟨_, P, rfl, h1⟩ h2)⟩
  · intro d x w hd ho hJ K hK
    exact step_value rfl rfl rfl (exec_alloc rfl run_alloc27) (hK.out _ _ (hJ.new7 hd))
  · intro d x w hd ho hJ K hK
    exact step_value rfl rfl rfl (exec_alloc rfl run_alloc27) (hK.out _ _ (hJ.new8 hd))
  · intro d x w hd ho hJ K hK
    have d2 : d 8 = true ∧ d 4 = true := by
      simp [Region.binds] at ho
      exact ⟨by simp_all, by simp_all⟩
    obtain ⟨w', h1, h2⟩ := hJ.st7 d2.1 d2.2
    exact step_skip' rfl rfl (exec_store rfl (by rw [slots_in rfl (by rw [hsz]; decide), slots_in rfl (by rw [hsz]; decide)]; exact h1)) (hK.out _ _ h2)
  · intro d x w hd ho hJ K hK
    have d2 : d 9 = true ∧ d 7 = true := by
      simp [Region.binds] at ho
      exact ⟨by simp_all, by simp_all⟩
    obtain ⟨w', h1, h2⟩ := hJ.st8 d2.1 d2.2
    exact step_skip' rfl rfl (exec_store rfl (by rw [slots_in rfl (by rw [hsz]; decide), slots_in rfl (by rw [hsz]; decide)]; exact h1)) (hK.out _ _ h2)
  · intro d x w hd hJ
    have hd' : ∀ i, i < 12 → d i = true := fun i hi => hd i hi
    obtain ⟨X, P1, e1, x1, _, B1, k1⟩ := hJ.b7 (hd' 8 (by decide))
    obtain ⟨Y, P2, e2, x2, _, B2, k2⟩ := hJ.b8 (hd' 9 (by decide))
    obtain ⟨rfl, b1, o1⟩ := k1 (hd' 10 (by decide))
    obtain ⟨rfl, b2, o2⟩ := k2 (hd' 11 (by decide))
    exact hend x w X Y P1 P2 b1 b2 x1 x2 hJ.bel B1 B2 o1 o2
end
end Go.Proofs.Ytkmpcheamdadcaa
