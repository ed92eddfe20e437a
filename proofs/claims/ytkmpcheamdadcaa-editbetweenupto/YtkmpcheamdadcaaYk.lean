/-
  The reference's Same, at two edits of the same contents.
-/
import Derived.Test.YtkmpcheamdadcaaYi
import Derived.Test.YtkmpcheamdadcaaYj
import Derived.Test.YtkmpcheamdadcaaYc
import Derived.Test.YtkmpcheamdadcaaVg
import Derived.Deep.DeepCutAuto
import Derived.BigQuiet
import Derived.Deep.RegionWith
namespace Go.Proofs.Ytkmpcheamdadcaa
open Go.RowKit
set_option linter.unusedVariables false
set_option linter.unusedSimpArgs false
theorem step_call42 {ops : Array Oper} {o : Oper} {a : Act} {w : World} {K : Act → World → Prop} {Q : Exit → Act → World → Prop} {Ex : Prop} (hw : Region.wanted o (yielded ops a.tmps) = true) {d : Nat} (hd : o.dst = some d) (x : Operand) (ts : Array TypeId)
    (ho : o.op = .call { callee := .value (.func 42), args := #[x], argTypes := ts }) (u : Value) (hx : a.eval x = u) {R : Ending → World → Prop} (hc : Calls Try.prog 42 #[u] w R)
    (h : ∀ e w', R e w' → ∃ r, e = .returned r ∧ K (a.put (some d) r) w') :
    if Region.wanted o (yielded ops a.tmps) = true then Oper.wp Try.prog o a w K Q else Ex := by
  rw [if_pos hw]
  have he := enters_of (P := Try.prog) Try.func42 (by kernel_rfl) rfl #[u]
  unfold Oper.wp execOp
  simp only [ho, resolve, invoke, Sem.run_bind, Sem.run_pure, Result.andThen_ok, List.map_toArray, List.map_cons, List.map_nil, hx, go_sem]
  show Oper.upon Try.prog o a K Q (Sem.run Try.prog (callFunc 42 (#[] ++ #[a.eval x] ++ #[])) w)
  rw [show (#[] ++ #[a.eval x] ++ #[] : Array Value) = #[u] by simp [hx], he, Oper.upon_enter]
  refine hc.mono ?_
  intro e w' hR
  obtain ⟨r, rfl, hk⟩ := h e w' hR
  show K (a.put o.dst r) w'
  rw [hd]; exact hk
theorem wpAnyH_weak {P : Program} {md : Region.Mode} {ops : Array Oper} {Q : Exit → Act → World → Prop} {S S' : World → Prop} (hS : ∀ w, S w → S' w) : ∀ (fuel : Nat) (listed : Array Bool) (a : Act) (w : World), wpAnyH P md ops Q S fuel listed a w → wpAnyH P md ops Q S' fuel listed a w
  | 0, _, _, _, h => h
  | fuel + 1, _, _, _, h => ⟨h.1, fun i hi => wpOp_mono (fun a' w' h' => ⟨hS _ h'.1, wpAnyH_weak hS fuel _ a' w' h'.2⟩) (h.2 i hi)⟩
theorem set13 {W : World} {B : Nat} {t : TypeId} {u0 u1 u2 u3 u4 u5 u6 u7 u8 u9 u10 u11 u12 : Value} (h : Blk W B t [u0, u1, u2, u3, u4, u5, u6, u7, u8, u9, u10, u11, u12]) (v0 v1 v2 v3 v4 v5 v6 v7 v8 v9 v10 v11 v12 : Value) : Blk (((((((((((((W.setCell ⟨B, 0, none⟩ v0).setCell ⟨B, 1, none⟩ v1).setCell ⟨B, 2, none⟩ v2).setCell ⟨B, 3, none⟩ v3).setCell ⟨B, 4, none⟩ v4).setCell ⟨B, 5, none⟩ v5).setCell ⟨B, 6, none⟩ v6).setCell ⟨B, 7, none⟩ v7).setCell ⟨B, 8, none⟩ v8).setCell ⟨B, 9, none⟩ v9).setCell ⟨B, 10, none⟩ v10).setCell ⟨B, 11, none⟩ v11).setCell ⟨B, 12, none⟩ v12) B t [v0, v1, v2, v3, v4, v5, v6, v7, v8, v9, v10, v11, v12] := (((((((((((((h.set 0 v0).set 1 v1).set 2 v2).set 3 v3).set 4 v4).set 5 v5).set 6 v6).set 7 v7).set 8 v8).set 9 v9).set 10 v10).set 11 v11).set 12 v12)
set_option maxRecDepth 100000 in
set_option maxHeartbeats 1000000 in
theorem eqk_in (d : Nat) (k : Ky) (W : World) : (Op.equalIn (d + 1 + 1) 48 (.agg #[.string k.u, .int .u64 k.s, .int .i64 k.k]) (.agg #[.string k.u, .int .u64 k.s, .int .i64 k.k])).run Try.prog W = .ok true W := by
  have hf : Try.prog.underlying 48 = some (.struct (Try.prog.fieldsOf 48)) := by kernel_rfl
  have h1 : ∀ w, (part 9 #[.string k.u, .int .u64 k.s, .int .i64 k.k] 0).run Try.prog w = .ok (.string k.u) w := fun w => by kernel_rfl
  have h2 : ∀ w, (part 23 #[.string k.u, .int .u64 k.s, .int .i64 k.k] 1).run Try.prog w = .ok (.int .u64 k.s) w := fun w => by kernel_rfl
  have h3 : ∀ w, (part 3 #[.string k.u, .int .u64 k.s, .int .i64 k.k] 2).run Try.prog w = .ok (.int .i64 k.k) w := fun w => by kernel_rfl
  rw [run_equalIn_agg W (d + 1) 48 _ _ hf (by kernel_rfl)]
  have e9 : ∀ w a, (Op.equalIn (d + 1) 9 (.string a) (.string a)).run Try.prog w = .ok true w := fun w a => by rw [run_equalIn_string w d 9 a a Try.underlying9]; simp
  have e23 : ∀ w a, (Op.equalIn (d + 1) 23 (.int .u64 a) (.int .u64 a)).run Try.prog w = .ok true w := fun w a => by rw [run_equalIn_int w d 23 .u64 .u64 a a Try.underlying23]; simp
  have e3 : ∀ w a, (Op.equalIn (d + 1) 3 (.int .i64 a) (.int .i64 a)).run Try.prog w = .ok true w := fun w a => by rw [run_equalIn_int w d 3 .i64 .i64 a a Try.underlying3]; simp
  simp only [Program.fieldsOf, Try.underlying48, Op.eqFields, Sem.run_bind, Sem.run_ite, Sem.run_pure, h1, h2, h3, e9, e23, e3, Result.andThen_ok]
  simp [Result.andThen]
set_option maxRecDepth 100000 in
set_option maxHeartbeats 1000000 in
theorem eqf_in (d : Nat) (f : Fi) (W : World) : (Op.equalIn (d + 1 + 1 + 1) 50 f.v f.v).run Try.prog W = .ok true W := by
  have hf : Try.prog.underlying 50 = some (.struct (Try.prog.fieldsOf 50)) := by kernel_rfl
  have h1 : ∀ w, (part 23 #[.int .u64 f.num, .int .u64 f.size, .string f.sm.u, .int .u64 f.sm.s, .int .i64 f.sm.k, .string f.la.u, .int .u64 f.la.s, .int .i64 f.la.k, .int .u64 f.ents, .int .u64 f.rngs] 0).run Try.prog w = .ok (.int .u64 f.num) w := fun w => by kernel_rfl
  have h2 : ∀ w, (part 23 #[.int .u64 f.num, .int .u64 f.size, .string f.sm.u, .int .u64 f.sm.s, .int .i64 f.sm.k, .string f.la.u, .int .u64 f.la.s, .int .i64 f.la.k, .int .u64 f.ents, .int .u64 f.rngs] 1).run Try.prog w = .ok (.int .u64 f.size) w := fun w => by kernel_rfl
  have h3 : ∀ w, (part 48 #[.int .u64 f.num, .int .u64 f.size, .string f.sm.u, .int .u64 f.sm.s, .int .i64 f.sm.k, .string f.la.u, .int .u64 f.la.s, .int .i64 f.la.k, .int .u64 f.ents, .int .u64 f.rngs] 2).run Try.prog w = .ok (.agg #[.string f.sm.u, .int .u64 f.sm.s, .int .i64 f.sm.k]) w := fun w => by kernel_rfl
  have h4 : ∀ w, (part 48 #[.int .u64 f.num, .int .u64 f.size, .string f.sm.u, .int .u64 f.sm.s, .int .i64 f.sm.k, .string f.la.u, .int .u64 f.la.s, .int .i64 f.la.k, .int .u64 f.ents, .int .u64 f.rngs] 5).run Try.prog w = .ok (.agg #[.string f.la.u, .int .u64 f.la.s, .int .i64 f.la.k]) w := fun w => by kernel_rfl
  have h5 : ∀ w, (part 23 #[.int .u64 f.num, .int .u64 f.size, .string f.sm.u, .int .u64 f.sm.s, .int .i64 f.sm.k, .string f.la.u, .int .u64 f.la.s, .int .i64 f.la.k, .int .u64 f.ents, .int .u64 f.rngs] 8).run Try.prog w = .ok (.int .u64 f.ents) w := fun w => by kernel_rfl
  have h6 : ∀ w, (part 23 #[.int .u64 f.num, .int .u64 f.size, .string f.sm.u, .int .u64 f.sm.s, .int .i64 f.sm.k, .string f.la.u, .int .u64 f.la.s, .int .i64 f.la.k, .int .u64 f.ents, .int .u64 f.rngs] 9).run Try.prog w = .ok (.int .u64 f.rngs) w := fun w => by kernel_rfl
  rw [run_equalIn_agg W (d + 1 + 1) 50 _ _ hf (by kernel_rfl)]
  have e23 : ∀ w a, (Op.equalIn (d + 1 + 1) 23 (.int .u64 a) (.int .u64 a)).run Try.prog w = .ok true w := fun w a => by rw [run_equalIn_int w (d + 1) 23 .u64 .u64 a a Try.underlying23]; simp
  have e48 := fun w => eqk_in d f.sm w
  have e49 := fun w => eqk_in d f.la w
  simp only [Program.fieldsOf, Try.underlying50, Op.eqFields, Sem.run_bind, Sem.run_ite, Sem.run_pure, h1, h2, h3, h4, h5, h6, e23, e48, e49, Result.andThen_ok]
  simp [Result.andThen]
abbrev Gn.v (g : Gn) : Value := .agg #[.int .i64 g.lv, .int .u64 g.num]
set_option maxRecDepth 100000 in
set_option maxHeartbeats 1000000 in
theorem neqg_self (g : Gn) (W : World) : (binOp .neq 66 g.v g.v).run Try.prog W = .ok (.bool false) W := by
  have hf : Try.prog.underlying 66 = some (.struct (Try.prog.fieldsOf 66)) := by kernel_rfl
  have h1 : ∀ w, (part 3 #[.int .i64 g.lv, .int .u64 g.num] 0).run Try.prog w = .ok (.int .i64 g.lv) w := fun w => by kernel_rfl
  have h2 : ∀ w, (part 23 #[.int .i64 g.lv, .int .u64 g.num] 1).run Try.prog w = .ok (.int .u64 g.num) w := fun w => by kernel_rfl
  rw [run_neq_struct, run_equalIn_agg W 9999 66 _ _ hf (by kernel_rfl)]
  have e3 : ∀ w a, (Op.equalIn 9999 3 (.int .i64 a) (.int .i64 a)).run Try.prog w = .ok true w := fun w a => by rw [run_equalIn_int w 9998 3 .i64 .i64 a a Try.underlying3]; simp
  have e23 : ∀ w a, (Op.equalIn 9999 23 (.int .u64 a) (.int .u64 a)).run Try.prog w = .ok true w := fun w a => by rw [run_equalIn_int w 9998 23 .u64 .u64 a a Try.underlying23]; simp
  simp only [Program.fieldsOf, Try.underlying66, Op.eqFields, Sem.run_bind, Sem.run_ite, Sem.run_pure, h1, h2, e3, e23, Result.andThen_ok]
  simp [Result.andThen]
abbrev Ad.vv (a : Ad) : Value := .agg #[.int .i64 a.lv, .int .u64 a.f.num, .int .u64 a.f.size, .string a.f.sm.u, .int .u64 a.f.sm.s, .int .i64 a.f.sm.k, .string a.f.la.u, .int .u64 a.f.la.s, .int .i64 a.f.la.k, .int .u64 a.f.ents, .int .u64 a.f.rngs]
set_option maxRecDepth 100000 in
set_option maxHeartbeats 1000000 in
theorem neqa_self (a : Ad) (W : World) : (binOp .neq 64 a.vv a.vv).run Try.prog W = .ok (.bool false) W := by
  have hf : Try.prog.underlying 64 = some (.struct (Try.prog.fieldsOf 64)) := by kernel_rfl
  have h1 : ∀ w, (part 3 #[.int .i64 a.lv, .int .u64 a.f.num, .int .u64 a.f.size, .string a.f.sm.u, .int .u64 a.f.sm.s, .int .i64 a.f.sm.k, .string a.f.la.u, .int .u64 a.f.la.s, .int .i64 a.f.la.k, .int .u64 a.f.ents, .int .u64 a.f.rngs] 0).run Try.prog w = .ok (.int .i64 a.lv) w := fun w => by kernel_rfl
  have h2 : ∀ w, (part 50 #[.int .i64 a.lv, .int .u64 a.f.num, .int .u64 a.f.size, .string a.f.sm.u, .int .u64 a.f.sm.s, .int .i64 a.f.sm.k, .string a.f.la.u, .int .u64 a.f.la.s, .int .i64 a.f.la.k, .int .u64 a.f.ents, .int .u64 a.f.rngs] 1).run Try.prog w = .ok a.f.v w := fun w => by kernel_rfl
  rw [run_neq_struct, run_equalIn_agg W 9999 64 _ _ hf (by kernel_rfl)]
  have e3 : ∀ w a, (Op.equalIn 9999 3 (.int .i64 a) (.int .i64 a)).run Try.prog w = .ok true w := fun w a => by rw [run_equalIn_int w 9998 3 .i64 .i64 a a Try.underlying3]; simp
  have e50 : ∀ w, (Op.equalIn 9999 50 a.f.v a.f.v).run Try.prog w = .ok true w := fun w => eqf_in 9996 a.f w
  simp only [Program.fieldsOf, Try.underlying64, Op.eqFields, Sem.run_bind, Sem.run_ite, Sem.run_pure, h1, h2, e3, e50, Result.andThen_ok]
  simp [Result.andThen]
set_option maxRecDepth 100000 in
set_option maxHeartbeats 4000000 in
theorem same_self {w : World} {P1 P2 : En} {e : Ed} (h1 : RdEd w P1 e) (h2 : RdEd w P2 e) : Calls Try.prog 13 #[.agg (edA P1 e), .agg (edA P2 e)] w fun en w' => en = .returned (.bool true) ∧ Below w.heap.size w w' := by
  have HE : Hid (RdEd w P1 e ∧ RdEd w P2 e) := ⟨h1, h2⟩
  obtain ⟨p, hp⟩ : ∃ p, plainE e = p := ⟨_, rfl⟩
  have H1 : ∀ w, Calls Try.prog 42 #[.agg (edA P1 e)] w fun en w' => en = .returned (.agg (edA P1 p)) ∧ Below w.heap.size w w' := fun w => by rw [← hp]; exact plain_any P1 e w
  have H2 : ∀ w, Calls Try.prog 42 #[.agg (edA P2 e)] w fun en w' => en = .returned (.agg (edA P2 p)) ∧ Below w.heap.size w w' := fun w => by rw [← hp]; exact plain_any P2 e w
  have HG : Hid (p.gone = e.gone ∧ p.added = e.added) := by show _ ∧ _; rw [← hp]; exact ⟨rfl, rfl⟩
  obtain ⟨W1, hW1⟩ : ∃ W1, (w.alloc (edO P1 e)).alloc (edO P2 e) = W1 := ⟨_, rfl⟩
  have hA := (ed_box w P1 e).alloc (edO P2 e)
  have hB := ed_box (w.alloc (edO P1 e)) P2 e
  rw [World.size_alloc] at hB
  have hb1 : Below w.heap.size w ((w.alloc (edO P1 e)).alloc (edO P2 e)) := bstep (al1 _ _) (al1 _ _)
  rw [hW1] at hA hB hb1
  have HA1 : Hid (Blk W1 w.heap.size 27 (edA P1 e).toList ∧ Blk W1 (w.heap.size + 1) 27 (edA P2 e).toList ∧ Below w.heap.size w W1) := ⟨hA, hB, hb1⟩
  clear h1 h2 hp hA hB hb1
  go_enter Try.func13, Try.ntmps13
  go_wp2_with fail
  clear hW1
  go_cut [8] (fun _ wd => Hid (Blk wd w.heap.size 27 (edA P1 p).toList ∧ Blk wd (w.heap.size + 1) 27 (edA P2 p).toList ∧ Below w.heap.size w wd))
  case first =>
    obtain ⟨a0, a1, a2, a3, a4, a5, a6, a7, a8, a9, a10, a11, a12, la⟩ := ed13 HA1.out.1
    obtain ⟨b0, b1, b2, b3, b4, b5, b6, b7, b8, b9, b10, b11, b12, lb⟩ := ed13 HA1.out.2.1
    go_region_with (first
      | (have hq := HB2; clear hq; go_at_call 42; refine (H2 _).mono ?_; rintro en w3 ⟨rfl, hb3⟩
         have HB3 : Hid (Below W1.heap.size W1 w3) := bstep HB2.out hb3
         have HA3 := HA1.out.1.upd (S := Non) (Upd.ofBelow HB3.out) (fun h => h)
         have HC3 := HA1.out.2.1.upd (S := Non) (Upd.ofBelow HB3.out) (fun h => h)
         clear a0 a1 a2 a3 a4 a5 a6 a7 a8 a9 a10 a11 a12 b0 b1 b2 b3 b4 b5 b6 b7 b8 b9 b10 b11 b12 la lb
         obtain ⟨a0, a1, a2, a3, a4, a5, a6, a7, a8, a9, a10, a11, a12, la⟩ := ed13 HA3
         obtain ⟨b0, b1, b2, b3, b4, b5, b6, b7, b8, b9, b10, b11, b12, lb⟩ := ed13 HC3
         have fa0 := HA3.frozen 0
         have fb0 := HC3.frozen 0
         have fa1 := HA3.frozen 1
         have fb1 := HC3.frozen 1
         have fa2 := HA3.frozen 2
         have fb2 := HC3.frozen 2
         have fa3 := HA3.frozen 3
         have fb3 := HC3.frozen 3
         have fa4 := HA3.frozen 4
         have fb4 := HC3.frozen 4
         have fa5 := HA3.frozen 5
         have fb5 := HC3.frozen 5
         have fa6 := HA3.frozen 6
         have fb6 := HC3.frozen 6
         have fa7 := HA3.frozen 7
         have fb7 := HC3.frozen 7
         have fa8 := HA3.frozen 8
         have fb8 := HC3.frozen 8
         have fa9 := HA3.frozen 9
         have fb9 := HC3.frozen 9
         have fa10 := HA3.frozen 10
         have fb10 := HC3.frozen 10
         have fa11 := HA3.frozen 11
         have fb11 := HC3.frozen 11
         have fa12 := HA3.frozen 12
         have fb12 := HC3.frozen 12
         have HA4 : Hid (Blk w3 w.heap.size 27 (edA P1 e).toList ∧ Blk w3 (w.heap.size + 1) 27 (edA P2 e).toList ∧ Below w.heap.size w w3) := ⟨HA3, HC3, bstep HA1.out.2.2 HB3.out⟩
         clear HA3 HC3)
      | (go_at_call 42; refine (H1 _).mono ?_; rintro en w2 ⟨rfl, hb2⟩
         have HB2 : Hid (Below W1.heap.size W1 w2) := bstep (Below.refl _ _).drew hb2
         clear b0 b1 b2 b3 b4 b5 b6 b7 b8 b9 b10 b11 b12 lb
         obtain ⟨b0, b1, b2, b3, b4, b5, b6, b7, b8, b9, b10, b11, b12, lb⟩ := ed13 (HA1.out.2.1.upd (S := Non) (Upd.ofBelow HB2.out) (fun h => h))))
    all_goals
      go_wp2
      go_meet
      have U1 := upd13 w3 w.heap.size (.int .u32 p.fam) (.bool p.ma) (.bool p.dr) (.string p.name) (.int .i64 p.how) (.bool p.hl) (.bool p.hn) (.bool p.hs) (.int .u64 p.log) (.int .u64 p.next) (.int .u64 p.seq) (.slice P1.ga p.gone.length P1.gc) (.slice P1.aa p.added.length P1.ac)
      have X1 := set13 HA4.out.1 (.int .u32 p.fam) (.bool p.ma) (.bool p.dr) (.string p.name) (.int .i64 p.how) (.bool p.hl) (.bool p.hn) (.bool p.hs) (.int .u64 p.log) (.int .u64 p.next) (.int .u64 p.seq) (.slice P1.ga p.gone.length P1.gc) (.slice P1.aa p.added.length P1.ac)
      have Y1 := HA4.out.2.1.upd U1 (by omega)
      have hb5 := Upd.bel HA4.out.2.2 U1 (fun j hj => by omega) HA4.out.2.2.size
      have X2 := set13 Y1 (.int .u32 p.fam) (.bool p.ma) (.bool p.dr) (.string p.name) (.int .i64 p.how) (.bool p.hl) (.bool p.hn) (.bool p.hs) (.int .u64 p.log) (.int .u64 p.next) (.int .u64 p.seq) (.slice P2.ga p.gone.length P2.gc) (.slice P2.aa p.added.length P2.ac)
      exact ⟨X1.upd (upd13 _ (w.heap.size + 1) (.int .u32 p.fam) (.bool p.ma) (.bool p.dr) (.string p.name) (.int .i64 p.how) (.bool p.hl) (.bool p.hn) (.bool p.hs) (.int .u64 p.log) (.int .u64 p.next) (.int .u64 p.seq) (.slice P2.ga p.gone.length P2.gc) (.slice P2.aa p.added.length P2.ac)) (by omega), X2, Upd.bel hb5 (upd13 _ (w.heap.size + 1) (.int .u32 p.fam) (.bool p.ma) (.bool p.dr) (.string p.name) (.int .i64 p.how) (.bool p.hl) (.bool p.hn) (.bool p.hs) (.int .u64 p.log) (.int .u64 p.next) (.int .u64 p.seq) (.slice P2.ga p.gone.length P2.gc) (.slice P2.aa p.added.length P2.ac)) (fun j hj => by omega) hb5.size⟩
  case rest =>
    have HH := hcut
    obtain ⟨N, hN⟩ : ∃ N, Hid (e.gone.length = N) := ⟨_, rfl⟩
    obtain ⟨A, hA⟩ : ∃ A, Hid (e.added.length = A) := ⟨_, rfl⟩
    have hNz : (N : Int) * 16 ≤ 140737488355328 := by have := HE.out.1.gl; rw [hN.out] at this; omega
    have hAz : (A : Int) * 104 ≤ 140737488355328 := by have := HE.out.1.al; rw [hA.out] at this; omega
    have HC : Hid (∀ W, Below wc.heap.size wc W → (W.cell? ⟨w.heap.size, 11, none⟩ = some (.slice P1.ga N P1.gc) ∧ W.cell? ⟨w.heap.size, 12, none⟩ = some (.slice P1.aa A P1.ac) ∧ W.cell? ⟨w.heap.size + 1, 11, none⟩ = some (.slice P2.ga N P2.gc) ∧ W.cell? ⟨w.heap.size + 1, 12, none⟩ = some (.slice P2.aa A P2.ac))) := fun W hb => by
      have X1 := HH.out.1.upd (S := Non) (Upd.ofBelow hb) (fun h => h)
      have X2 := HH.out.2.1.upd (S := Non) (Upd.ofBelow hb) (fun h => h)
      have y1 := X1.cell1 11 _ rfl
      have y2 := X1.cell1 12 _ rfl
      have y3 := X2.cell1 11 _ rfl
      have y4 := X2.cell1 12 _ rfl
      rw [HG.out.1, hN.out] at y1 y3
      rw [HG.out.2, hA.out] at y2 y4
      exact ⟨y1, y2, y3, y4⟩
    have HBc : Hid (Below w.heap.size w wc) := HH.out.2.2
    obtain ⟨a11, a12, b11, b12⟩ := HC.out wc (Below.refl _ _)
    have a0 := HH.out.1.cell1 0 _ rfl
    have b0 := HH.out.2.1.cell1 0 _ rfl
    have a1 := HH.out.1.cell1 1 _ rfl
    have b1 := HH.out.2.1.cell1 1 _ rfl
    have a2 := HH.out.1.cell1 2 _ rfl
    have b2 := HH.out.2.1.cell1 2 _ rfl
    have a3 := HH.out.1.cell1 3 _ rfl
    have b3 := HH.out.2.1.cell1 3 _ rfl
    have a4 := HH.out.1.cell1 4 _ rfl
    have b4 := HH.out.2.1.cell1 4 _ rfl
    have a5 := HH.out.1.cell1 5 _ rfl
    have b5 := HH.out.2.1.cell1 5 _ rfl
    have a6 := HH.out.1.cell1 6 _ rfl
    have b6 := HH.out.2.1.cell1 6 _ rfl
    have a7 := HH.out.1.cell1 7 _ rfl
    have b7 := HH.out.2.1.cell1 7 _ rfl
    have a8 := HH.out.1.cell1 8 _ rfl
    have b8 := HH.out.2.1.cell1 8 _ rfl
    have a9 := HH.out.1.cell1 9 _ rfl
    have b9 := HH.out.2.1.cell1 9 _ rfl
    have a10 := HH.out.1.cell1 10 _ rfl
    have b10 := HH.out.2.1.cell1 10 _ rfl
    have la := HH.out.1.lt
    have lb := HH.out.2.1.lt
    have q0 : (p.fam != p.fam) = false := by simp
    have q1 : (p.ma != p.ma) = false := by simp
    have q2 : (p.dr != p.dr) = false := by simp
    have q3 : (p.name.toList == p.name.toList) = true := by simp
    have q4 : (p.how != p.how) = false := by simp
    have q5 : (p.hl != p.hl) = false := by simp
    have q6 : (p.hn != p.hn) = false := by simp
    have q7 : (p.hs != p.hs) = false := by simp
    have q8 : (p.log != p.log) = false := by simp
    have q9 : (p.next != p.next) = false := by simp
    have q10 : (p.seq != p.seq) = false := by simp
    have qN : ((N : Int) != (N : Int)) = false := by simp
    have qA : ((A : Int) != (A : Int)) = false := by simp
    clear hcut H1 H2
    go_wp2_with fail
    clear a0 b0 a1 b1 a2 b2 a3 b3 a4 b4 a5 b5 a6 b6 a7 b7 a8 b8 a9 b9 a10 b10 a11 b11 a12 b12 la lb q0 q1 q2 q3 q4 q5 q6 q7 q8 q9 q10 qN qA
    go_loopw [5] (fun i wr => ∃ k : Nat, k ≤ N ∧ i = .int .i64 k ∧ Hid (Below wc.heap.size wc wr)) (fun i _ => ((N : Int) - intOf i).toNat)
    case atStart => exact ⟨0, Nat.zero_le _, rfl, Below.refl _ _⟩
    case round =>
      obtain ⟨k, hk, rfl, HB⟩ := hrel
      have HBw : Hid (Below w.heap.size w wr) := bstep HBc.out HB.out
      obtain ⟨a11, a12, b11, b12⟩ := HC.out wr HB.out
      have la := cell_lt a11
      have lb := cell_lt b11
      rcases Nat.lt_or_ge k N with hkN | hkN
      · have hkz : (k : Int) < (N : Int) := by omega
        obtain ⟨x, hx⟩ : ∃ x, e.gone[k]? = some x := ⟨_, List.getElem?_eq_getElem (by rw [hN.out]; exact hkN)⟩
        obtain ⟨g1, o1, e1, hat1⟩ := (HE.out.1.g.below HBw.out).at_ hx
        obtain ⟨g2, o2, e2, hat2⟩ := (HE.out.2.g.below HBw.out).at_ hx
        obtain ⟨y0, y1⟩ := hat1.g
        obtain ⟨z0, z1⟩ := hat2.g
        rw [e1] at a11
        rw [e2] at b11
        have hq : ∀ W, (binOp .neq 66 (.agg #[.int .i64 x.lv, .int .u64 x.num]) (.agg #[.int .i64 x.lv, .int .u64 x.num])).run Try.prog W = .ok (.bool false) W := fun W => neqg_self x W
        clear hx hat1 hat2 e1 e2
        go_wp2_with (first | go_quiet (fail) | go_big_quiet (fail))
        go_roundw
        case rel => exact ⟨k + 1, by omega, by go_num, belN HB.out _⟩
        case measure => simp [intOf]; omega
      · obtain rfl : k = N := by omega
        have hz : ¬ ((k : Int) < k) := by omega
        obtain ⟨W5, rfl⟩ : ∃ W5, W5 = wr := ⟨_, rfl⟩
        go_wp2
        clear a11 a12 b11 b12 la lb hz
        go_loopw [6] (fun i wr => ∃ q : Nat, q ≤ A ∧ i = .int .i64 q ∧ Hid (Below wc.heap.size wc wr)) (fun i _ => ((A : Int) - intOf i).toNat)
        case atStart => exact ⟨0, Nat.zero_le _, rfl, HB.out⟩
        case round =>
          clear HB HBw
          obtain ⟨q, hq, rfl, HB⟩ := hrel
          have HBw : Hid (Below w.heap.size w wr) := bstep HBc.out HB.out
          obtain ⟨a11, a12, b11, b12⟩ := HC.out wr HB.out
          have la := cell_lt a11
          have lb := cell_lt b11
          rcases Nat.lt_or_ge q A with hqA | hqA
          · have hqz : (q : Int) < (A : Int) := by omega
            obtain ⟨x, hx⟩ : ∃ x, e.added[q]? = some x := ⟨_, List.getElem?_eq_getElem (by rw [hA.out]; exact hqA)⟩
            obtain ⟨g1, o1, e1, hat1⟩ := (HE.out.1.a.below HBw.out).at_ hx
            obtain ⟨g2, o2, e2, hat2⟩ := (HE.out.2.a.below HBw.out).at_ hx
            obtain ⟨y0, y1, y2, y3, y4, y5, y6, y7, y8, y9, y10⟩ := hat1.a
            obtain ⟨z0, z1, z2, z3, z4, z5, z6, z7, z8, z9, z10⟩ := hat2.a
            rw [e1] at a12
            rw [e2] at b12
            have hn : ∀ W, (binOp .neq 64 (.agg #[.int .i64 x.lv, .int .u64 x.f.num, .int .u64 x.f.size, .string x.f.sm.u, .int .u64 x.f.sm.s, .int .i64 x.f.sm.k, .string x.f.la.u, .int .u64 x.f.la.s, .int .i64 x.f.la.k, .int .u64 x.f.ents, .int .u64 x.f.rngs]) (.agg #[.int .i64 x.lv, .int .u64 x.f.num, .int .u64 x.f.size, .string x.f.sm.u, .int .u64 x.f.sm.s, .int .i64 x.f.sm.k, .string x.f.la.u, .int .u64 x.f.la.s, .int .i64 x.f.la.k, .int .u64 x.f.ents, .int .u64 x.f.rngs])).run Try.prog W = .ok (.bool false) W := fun W => neqa_self x W
            clear hx hat1 hat2 e1 e2
            go_wp2_with (first | go_quiet (fail) | go_big_quiet (fail))
            go_roundw
            case rel => exact ⟨q + 1, by omega, by go_num, belN HB.out _⟩
            case measure => simp [intOf]; omega
          · obtain rfl : q = A := by omega
            have hz : ¬ ((q : Int) < q) := by omega
            go_wp2
            go_ret
            exact ⟨rfl, HBw.out⟩
end Go.Proofs.Ytkmpcheamdadcaa
