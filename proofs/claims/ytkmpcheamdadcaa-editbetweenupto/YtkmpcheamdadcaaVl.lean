/-
  slices.Delete of one table.
-/
import Derived.Test.YtkmpcheamdadcaaVk
namespace Go.Proofs.Ytkmpcheamdadcaa
open Go.RowKit
set_option linter.unusedVariables false
set_option linter.unusedSimpArgs false
theorem step_app_run {w : World} {ops : Array Oper} {o : Oper} {a : Act} {K : Act → World → Prop} {Q : Exit → Act → World → Prop} {E : Prop}
    (hg : o.guard = none) (d x : Operand) (dT sT : TypeId) (hop : o.op = Op.call { callee := Callee.builtin Builtin.append, args := #[d, x], argTypes := #[dT, sT] })
    (v u : Value) (hd : a.eval d = v) (hx : a.eval x = u) {v' : Value} {w' : World} (hr : (Builtin.append_ #[dT, sT] o.type #[v, u]).run Try.prog w = .ok v' w') (hK : K (a.put o.dst v') w') :
    if Region.wanted o (yielded ops a.tmps) = true then Oper.wp Try.prog o a w K Q else E := by
  have hw : Region.wanted o (yielded ops a.tmps) = true := by simp [Region.wanted, hg]
  rw [if_pos hw]
  unfold Oper.wp
  simp [execOp, hop, resolve, invoke, builtin, hd, hx, hr, Result.andThen]
  exact hK
theorem wpList_clear_run {w : World} {ops : Array Oper} {rest : List Oper} {o : Oper} {a : Act} {Q : Exit → Act → World → Prop} (hgd : o.guard = none) (d : Operand) (t : TypeId)
    (ho : o.op = .call { callee := .builtin .clear, args := #[d], argTypes := #[t] }) (v : Value) (hd : a.eval d = v) {v' : Value} {w' : World}
    (hr : (Builtin.clear_ #[t] o.type #[v]).run Try.prog w = .ok v' w') (h : wpList Try.prog ops Q rest (a.put o.dst v') w') : wpList Try.prog ops Q (o :: rest) a w :=
  wpList_plain hgd fun _ hK => by
    unfold Oper.wp execOp
    simp only [ho, resolve, invoke, builtin, Sem.run_bind, Sem.run_pure, Result.andThen_ok, List.map_toArray, List.map_cons, List.map_nil, hd, hr]
    exact hK _ _ h
def tdel (l : List Fi) (i : Nat) : List Fi := l.take i ++ l.drop (i + 1)
theorem run_app10 (w : World) (ty : TypeId) (g i o2 m cap c2 : Nat) (cur : Array Value) (cs : List Value) (hg : w.heap[g]? = some (.cells cur 50 (0, 0))) (hcs : cs.length = m * 10) (hsrc : (cur.toList.drop o2).take cs.length = cs) (hcap : cur.size = cap * 10) (hroom : i + m ≤ cap) (h1 : ∀ v ∈ cs, v.oneCell' = true) :
    (Builtin.append_ #[38, 38] ty #[.slice (some ⟨g, 0, none⟩) i cap, .slice (some ⟨g, o2, none⟩) m c2]).run Try.prog w = .ok (.slice (some ⟨g, 0, none⟩) (i + m) cap) (w.setRow g (lay cur.toList (i * 10) cs).toArray) := by
  obtain ⟨i0, hi, hz0, hz1, hz2⟩ := info_parts info50
  have hs : Src Try.prog 10 38 (.slice (some ⟨g, o2, none⟩) m c2) m cs w := Src.ofSlice w Try.underlying38 ⟨g, o2, none⟩ m c2 cs (by rw [hcs]) (seg_src hg o2 cs hsrc) h1
  have hst := run_storeCells_at Try.prog g (0 + i * 10) 50 cs 0 cur w hg (by rw [hcs, hcap]; omega) h1
  have e : (cur.toList.take (0 + i * 10 + 0) ++ cs ++ cur.toList.drop (0 + i * 10 + 0 + cs.length)).toArray = (lay cur.toList (i * 10) cs).toArray := by unfold lay; simp
  rw [e, Nat.zero_add] at hst
  have hroom' : i + m ≤ cap := hroom
  rcases hs.kind with ⟨e', hk⟩ | hk <;> simp [Builtin.append_, run_underlying Try.underlying38, run_underlying hk, sizeOf, typeInfo, hi, hs.len, hroom', hs.cells, Addr.add_lit, hz1, hst]
theorem zero50 (w : World) : (zeroValue 50).run Try.prog w = .ok (.agg #[.int .u64 0, .int .u64 0, .string ⟨#[]⟩, .int .u64 0, .int .i64 0, .string ⟨#[]⟩, .int .u64 0, .int .i64 0, .int .u64 0, .int .u64 0]) w := by kernel_rfl
abbrev z10 : List Value := [.int .u64 0, .int .u64 0, .string ⟨#[]⟩, .int .u64 0, .int .i64 0, .string ⟨#[]⟩, .int .u64 0, .int .i64 0, .int .u64 0, .int .u64 0]
theorem z10_one : ∀ v ∈ z10, v.oneCell' = true := fun u hu => fi_1 ⟨0, 0, ⟨⟨#[]⟩, 0, 0⟩, ⟨⟨#[]⟩, 0, 0⟩, 0, 0⟩ u hu
theorem lay_take (X : List Value) (o : Nat) (cs : List Value) (h : o ≤ X.length) : (lay X o cs).take o = X.take o := by
  unfold lay
  rw [List.append_assoc, List.take_append_of_le_length (by rw [List.length_take]; omega), List.take_take, Nat.min_self]
theorem run_clear10 (w : World) (ty : TypeId) (g o c : Nat) (cur : Array Value) (hg : w.heap[g]? = some (.cells cur 50 (0, 0))) (hfit : o + 10 ≤ cur.size) :
    (Builtin.clear_ #[38] ty #[.slice (some ⟨g, o, none⟩) 1 c]).run Try.prog w = .ok (.tuple #[]) (w.setRow g (lay cur.toList o z10).toArray) := by
  have hst := run_storeCells_at Try.prog g o 50 z10 0 cur w hg (by simpa using hfit) z10_one
  have e : (cur.toList.take (o + 0) ++ z10 ++ cur.toList.drop (o + 0 + z10.length)).toArray = (lay cur.toList o z10).toArray := by unfold lay; simp
  rw [e] at hst
  have hz : (Builtin.zeroCells (Value.agg #[.int .u64 0, .int .u64 0, .string ⟨#[]⟩, .int .u64 0, .int .i64 0, .string ⟨#[]⟩, .int .u64 0, .int .i64 0, .int .u64 0, .int .u64 0]).cells 1).toList = z10 := by kernel_rfl
  simp [Builtin.clear_, run_underlying Try.underlying38, zero50, hz, hst]
theorem lay_del (l : List Fi) (i : Nat) (cur : List Value) (hi : i < l.length) (hc : cur.take (l.length * 10) = tcs l) (hs : l.length * 10 ≤ cur.length) :
    (lay (lay cur (i * 10) (tcs (l.drop (i + 1)))) ((l.length - 1) * 10) z10).take ((l.length - 1) * 10) = tcs (tdel l i) := by
  have hd := tcs_len (l.drop (i + 1))
  rw [List.length_drop] at hd
  have ht := tcs_len (l.take i)
  rw [List.length_take, Nat.min_eq_left (by omega)] at ht
  have e2 : cur.take (i * 10) = tcs (l.take i) := by
    rw [tcs_take, ← hc, List.take_take, Nat.min_eq_left (by omega)]
  have e1 : (lay cur (i * 10) (tcs (l.drop (i + 1)))).take ((l.length - 1) * 10) = tcs (l.take i) ++ tcs (l.drop (i + 1)) := by
    unfold lay
    rw [e2, List.take_append_of_le_length (by simp only [List.length_append, ht, hd]; omega), List.take_of_length_le (by simp only [List.length_append, ht, hd]; omega)]
  have hl1 : (lay cur (i * 10) (tcs (l.drop (i + 1)))).length = cur.length := lay_len _ _ _ (by rw [hd]; omega)
  have e3 : (lay (lay cur (i * 10) (tcs (l.drop (i + 1)))) ((l.length - 1) * 10) z10).take ((l.length - 1) * 10) = (lay cur (i * 10) (tcs (l.drop (i + 1)))).take ((l.length - 1) * 10) := by
    exact lay_take _ _ _ (by rw [hl1]; omega)
  rw [e3, e1]
  unfold tdel
  rw [tcs_app]
/-- What Delete leaves. -/
def DelPost (w : World) (g cap : Nat) (l : List Fi) (i : Nat) (e : Ending) (w' : World) : Prop :=
  e = .returned (.slice (some ⟨g, 0, none⟩) (l.length - 1) cap) ∧ w'.ownsRow 0 50 10 (.slice (some ⟨g, 0, none⟩) (l.length - 1) cap) (l.length - 1) (tcs (tdel l i)) ∧ Upd (fun k => k = g) w w'
set_option maxRecDepth 100000 in
set_option maxHeartbeats 2000000 in
theorem delete_any {w : World} {g cap : Nat} {l : List Fi} (h : w.ownsRow 0 50 10 (.slice (some ⟨g, 0, none⟩) l.length cap) l.length (tcs l)) (i : Nat) (hi : i < l.length) (hl : l.length ≤ 10000) :
    Calls Try.prog 49 #[.slice (some ⟨g, 0, none⟩) l.length cap, .int .i64 i, .int .i64 ((i : Int) + 1)] w (DelPost w g cap l i) := by
  obtain ⟨cur, hgg, hnc, hcap, hcs, htk⟩ : ∃ cur, w.heap[g]? = some (.cells cur 50 (0, 0)) ∧ l.length ≤ cap ∧ cap ≤ maxLen ∧ cur.size = cap * 10 ∧ cur.toList.take (l.length * 10) = tcs l := by
    rcases h.2 with ⟨h0, _⟩ | ⟨g', cap', cur, h0, _, h2, h3, h4, h5, h6⟩
    · cases h0
    · cases h0; exact ⟨cur, h2, h3, h4, h5, h6⟩
  have hcl : cur.toList.length = cap * 10 := by simpa using hcs
  have hdl := tcs_len (l.drop (i + 1))
  rw [List.length_drop] at hdl
  have hseg : (cur.toList.drop ((i + 1) * 10)).take (tcs (l.drop (i + 1))).length = tcs (l.drop (i + 1)) := by
    rw [hdl, tcs_drop, ← htk, List.drop_take, show (l.length - (i + 1)) * 10 = l.length * 10 - (i + 1) * 10 by omega]
  obtain ⟨W1, hW1⟩ : ∃ W1, W1 = w.drew.setRow g (lay cur.toList (i * 10) (tcs (l.drop (i + 1)))).toArray := ⟨_, rfl⟩
  have hA : ∀ ty o2 c2, (cap = i + 1 ∧ o2 = 0) ∨ o2 = (i + 1) * 10 → (Builtin.append_ #[38, 38] ty #[.slice (some ⟨g, 0, none⟩) i cap, .slice (some ⟨g, o2, none⟩) (l.length - (i + 1)) c2]).run Try.prog w.drew = .ok (.slice (some ⟨g, 0, none⟩) (l.length - 1) cap) W1 := fun ty o2 c2 ho => by
    have e : i + (l.length - (i + 1)) = l.length - 1 := by omega
    have := run_app10 w.drew ty g i o2 (l.length - (i + 1)) cap c2 cur (tcs (l.drop (i + 1))) hgg hdl (by
      rcases ho with ⟨h1, rfl⟩ | rfl
      · have : (tcs (l.drop (i + 1))).length = 0 := by rw [hdl]; omega
        rw [this, List.take_zero, List.eq_nil_of_length_eq_zero this]
      · exact hseg) hcs (by omega) (tcs_one _)
    rw [e] at this
    rw [this, hW1]
  have hg1 : W1.heap[g]? = some (.cells (lay cur.toList (i * 10) (tcs (l.drop (i + 1)))).toArray 50 (0, 0)) := by rw [hW1]; exact setRow_get (w := w.drew) hgg _
  have hl1 : (lay cur.toList (i * 10) (tcs (l.drop (i + 1)))).length = cap * 10 := by rw [lay_len _ _ _ (by rw [hdl, hcl]; omega), hcl]
  have hC : ∀ ty c, (Builtin.clear_ #[38] ty #[.slice (some ⟨g, (l.length - 1) * 10, none⟩) 1 c]).run Try.prog W1 = .ok (.tuple #[]) (W1.setRow g (lay (lay cur.toList (i * 10) (tcs (l.drop (i + 1)))) ((l.length - 1) * 10) z10).toArray) := fun ty c => by
    have := run_clear10 W1 ty g ((l.length - 1) * 10) c _ hg1 (by rw [List.size_toArray, hl1]; omega)
    simpa using this
  have U1 : Upd (fun k => k = g) w W1 := by rw [hW1]; exact (Upd.refl (fun k => k = g) w).drew.setRow (fun _ => rfl) _
  have HP : Hid (DelPost w g cap l i (.returned (.slice (some ⟨g, 0, none⟩) (l.length - 1) cap)) (W1.setRow g (lay (lay cur.toList (i * 10) (tcs (l.drop (i + 1)))) ((l.length - 1) * 10) z10).toArray)) := by
    refine ⟨rfl, ⟨?_, .inr ⟨g, cap, _, rfl, Nat.zero_le _, setRow_get hg1 _, by omega, hcap, ?_, ?_⟩⟩, ?_⟩
    · rw [tcs_len]; unfold tdel; simp; omega
    · rw [List.size_toArray, lay_len _ _ _ (by rw [hl1]; simp; omega), hl1]
    · rw [List.toList_toArray]; exact lay_del l i cur.toList hi htk (by rw [hcl]; omega)
    · exact U1.setRow (fun _ => rfl) _
  have HC0 : Hid (cap = l.length → ∃ W3, (∀ ty c, (Builtin.clear_ #[38] ty #[.slice (some ⟨g, (l.length - 1) * 10, none⟩) 1 c]).run Try.prog w.drew = .ok (.tuple #[]) W3) ∧ Hid (i + 1 = l.length → DelPost w g cap l i (.returned (.slice (some ⟨g, 0, none⟩) (l.length - 1) cap)) W3)) := fun hcl' => by
    refine ⟨_, fun ty c => run_clear10 w.drew ty g ((l.length - 1) * 10) c cur hgg (by omega), fun hil => ⟨rfl, ⟨?_, .inr ⟨g, cap, _, rfl, Nat.zero_le _, setRow_get (w := w.drew) hgg _, by omega, hcap, ?_, ?_⟩⟩, ?_⟩⟩
    · rw [tcs_len]; unfold tdel; simp; omega
    · rw [List.size_toArray, lay_len _ _ _ (by rw [hcl]; simp; omega), hcl]
    · rw [List.toList_toArray, lay_take _ _ _ (by omega)]
      unfold tdel
      rw [List.drop_eq_nil_of_le (by omega), List.append_nil, show l.length - 1 = i by omega, tcs_take, ← htk, List.take_take, Nat.min_eq_left (by omega)]
    · exact (Upd.refl (fun k => k = g) w).drew.setRow (fun _ => rfl) _
  generalize (W1.setRow g (lay (lay cur.toList (i * 10) (tcs (l.drop (i + 1)))) ((l.length - 1) * 10) z10).toArray) = W2 at *
  generalize l.length = N at *
  have hiz : (i : Int) < (N : Int) := by omega
  have hnz : (N : Int) ≤ (cap : Int) := by omega
  have hmx : (cap : Int) ≤ 9223372036854775807 := by unfold maxLen at hcap; omega
  have hw1 : IntKind.i64.wrap ((i : Int) + 1) = (i : Int) + 1 := by rw [IntKind.wrap_i64]; omega
  have htn : ((i : Int) + 1).toNat = i + 1 := by omega
  have hne3 : ((i : Int) == (i : Int) + 1) = false := by simp; omega
  have hb1 : (0 : Int) ≤ (i : Int) + 1 := by omega
  have hb2 : (i : Int) + 1 ≤ (N : Int) := by omega
  have hb3 : (i : Int) + 1 ≤ (cap : Int) := by omega
  have hb4 : (i : Int) ≤ (cap : Int) := by omega
  have hb5 : (i : Int) ≤ (i : Int) + 1 := by omega
  have hcn : ¬ cap = N - 1 := by omega
  have hcz : ((N - 1 : Nat) : Int) ≤ (N : Int) := by omega
  have hn1 : N - (N - 1) = 1 := by omega
  clear hcl hW1 hcs htk hdl hg1 hl1 U1 h hseg
  by_cases hce : cap = i + 1
  · obtain rfl : cap = N := by omega
    obtain rfl : cap = i + 1 := hce
    have hC0 := HC0.out rfl
    obtain ⟨W3, hW3⟩ := hC0
    clear hA hC HP HC0
    have HP3 := hW3.2
    have hC3 : ∀ ty c, (Builtin.clear_ #[38] ty #[.slice (some ⟨g, i * 10, none⟩) 1 c]).run Try.prog w.drew = .ok (.tuple #[]) W3 := fun ty c => by
      have := hW3.1 ty c
      simpa using this
    clear hW3
    go_enter Try.func49, Try.ntmps49
    go_wp2
    go_region_law (fail)
    go_wp2_with (at_builtin; refine wpList_clear_run rfl _ 38 rfl _ rfl (hC3 _ _) ?_)
    go_ret
    have hp := HP3.out (by first | trivial | rfl)
    simpa using hp
  · have hA' := fun ty c2 => hA ty ((i + 1) * 10) c2 (.inr rfl)
    clear hA
    go_enter Try.func49, Try.ntmps49
    go_wp2
    go_region_law ((refine step_app_run (by rfl) _ _ 38 38 (by rfl) _ _ (by rfl) (by rfl) (hA' _ _) ?_))
    go_wp2_with (at_builtin; refine wpList_clear_run rfl _ 38 rfl _ rfl (hC _ _) ?_)
    go_ret
    exact HP.out
end Go.Proofs.Ytkmpcheamdadcaa
