import Derived.Test.YtkpijoogaicodaaRd
import Derived.Deep.DeepCutAuto
namespace Go.Proofs.Ytkpijoogaicodaa
open Go.RowKit
set_option linter.unusedVariables false
set_option linter.unusedSimpArgs false

def pAcc (rs : List Rec) (m : Nat) (l : List Int) : Except Int (List Rec × List Int) := match pMany m l with
  | .error c => .error c
  | .ok (rs', l') => .ok (rs ++ rs', l')
theorem pAcc_nil (m : Nat) (l : List Int) : pAcc [] m l = pMany m l := by
  unfold pAcc
  cases pMany m l with
  | error c => rfl
  | ok x => rfl
theorem pAcc_zero (rs : List Rec) (l : List Int) : pAcc rs 0 l = .ok (rs, l) := by simp [pAcc, pMany]
theorem pAcc_err {rs : List Rec} {m : Nat} {l : List Int} {c : Int} (h : pRec l = .error c) : pAcc rs (m + 1) l = .error c := by
  simp [pAcc, pMany, h]
theorem pAcc_ok {rs : List Rec} {m : Nat} {l l' : List Int} {r : Rec} (h : pRec l = .ok (r, l')) : pAcc rs (m + 1) l = pAcc (rs ++ [r]) m l' := by
  simp only [pAcc, pMany, h]
  cases pMany m l' with
  | error c => rfl
  | ok x => simp
/-- A call at a step of a region that draws its order. -/
theorem step_call61 {ops : Array Oper} {o : Oper} {a : Act} {w : World} {K : Act → World → Prop} {Q : Exit → Act → World → Prop} {Ex : Prop} (hgd : o.guard = none) (x : Operand) (ts : Array TypeId)
    (ho : o.op = .call { callee := .value (.func 61), args := #[x], argTypes := ts }) (v : Value) (hx : a.eval x = v) {R : Ending → World → Prop} (hc : Calls Try.prog 61 #[v] w R)
    (h : ∀ e w', R e w' → ∃ r, e = .returned r ∧ K (a.put o.dst r) w') :
    if Region.wanted o (yielded ops a.tmps) = true then Oper.wp Try.prog o a w K Q else Ex := by
  have hw : Region.wanted o (yielded ops a.tmps) = true := by simp [Region.wanted, hgd]
  rw [if_pos hw]
  have he := enters_of (P := Try.prog) Try.func61 (by kernel_rfl) rfl #[v]
  unfold Oper.wp execOp
  simp only [ho, resolve, invoke, Sem.run_bind, Sem.run_pure, Result.andThen_ok, List.map_toArray, List.map_cons, List.map_nil, hx, go_sem]
  show Oper.upon Try.prog o a K Q (Sem.run Try.prog (callFunc 61 (#[] ++ #[a.eval x] ++ #[])) w)
  rw [show (#[] ++ #[a.eval x] ++ #[] : Array Value) = #[v] by simp [hx], he, Oper.upon_enter]
  refine hc.mono ?_
  intro e w' hR
  obtain ⟨r, rfl, hk⟩ := h e w' hR
  exact hk
/-- A call that panics, at such a step: nothing follows. -/
theorem step_panic61 {ops : Array Oper} {o : Oper} {a : Act} {w : World} {K : Act → World → Prop} {Q : Exit → Act → World → Prop} {Ex : Prop} (hgd : o.guard = none) (x : Operand) (ts : Array TypeId)
    (ho : o.op = .call { callee := .value (.func 61), args := #[x], argTypes := ts }) (v : Value) (hx : a.eval x = v) {R : Ending → World → Prop} (hc : Calls Try.prog 61 #[v] w R)
    (h : ∀ e w', R e w' → ∃ ch, e = .panicked ch ∧ Q (.panic ch) a w') (r0 : Value) (w0 : World) (hK : Hid False → K (a.put o.dst r0) w0) :
    if Region.wanted o (yielded ops a.tmps) = true then Oper.wp Try.prog o a w K Q else Ex := by
  have hw : Region.wanted o (yielded ops a.tmps) = true := by simp [Region.wanted, hgd]
  rw [if_pos hw]
  have he := enters_of (P := Try.prog) Try.func61 (by kernel_rfl) rfl #[v]
  unfold Oper.wp execOp
  simp only [ho, resolve, invoke, Sem.run_bind, Sem.run_pure, Result.andThen_ok, List.map_toArray, List.map_cons, List.map_nil, hx, go_sem]
  show Oper.upon Try.prog o a K Q (Sem.run Try.prog (callFunc 61 (#[] ++ #[a.eval x] ++ #[])) w)
  rw [show (#[] ++ #[a.eval x] ++ #[] : Array Value) = #[v] by simp [hx], he, Oper.upon_enter]
  refine hc.mono ?_
  intro e w' hR
  obtain ⟨ch, rfl, hk⟩ := h e w' hR
  exact hk
/-- append of records, at such a step. -/
theorem step_append_rows {w : World} {base : Nat} {rv sv : Value} {rs l : List Rec} {ops : Array Oper} {o : Oper} {a : Act} {K : Act → World → Prop} {Q : Exit → Act → World → Prop} {Ex : Prop} (hgd : o.guard = none) (s x : Operand)
    (ho : o.op = .call { callee := .builtin .append, args := #[s, x], argTypes := #[23, 23] }) (hs : a.eval s = rv) (hx : a.eval x = sv) (h : w.ownsRow base 31 4 rv rs.length (rcs rs)) (hbase : base ≤ w.heap.size) (hr : RdR w sv l) (hn : (rs.length + l.length) * 48 ≤ 140737488355328)
    (hK : ∀ v' w', w'.ownsRow base 31 4 v' (rs ++ l).length (rcs (rs ++ l)) → w.grownBy w' rv.ownBlock → (v'.ownBlock = rv.ownBlock ∨ v'.ownBlock = some w.heap.size) → K (a.put o.dst v') w') :
    if Region.wanted o (yielded ops a.tmps) = true then Oper.wp Try.prog o a w K Q else Ex := by
  have hw : Region.wanted o (yielded ops a.tmps) = true := by simp [Region.wanted, hgd]
  rw [if_pos hw]
  obtain ⟨v', w', hrun, h2, h3, h4⟩ := run_append_rows h hbase hr o.type hn
  unfold Oper.wp execOp
  simp only [ho, resolve, invoke, builtin, Sem.run_bind, Sem.run_pure, Result.andThen_ok, List.map_toArray, List.map_cons, List.map_nil, hs, hx, hrun]
  exact hK v' w' h2 h3 h4
theorem Wh.again {w W : World} {s : Int} {lv : Value} {rs : List Rec} {l : List Int} (h : Wh w W s lv rs l) :
    Wh w (((W.setCell ⟨w.heap.size, 0, none⟩ (.int .u64 s)).setCell ⟨w.heap.size + 1, 0, none⟩ lv).setCell ⟨w.heap.size + 1 + 1, 0, none⟩ (.int .i64 0)).drew s lv rs l := by
  have h1 := h.seq (s' := s)
  have h2 := h1.list h1.row (Upd.refl _ _) (.inl rfl)
  have U : Upd (At (w.heap.size + 1 + 1)) ((W.setCell ⟨w.heap.size, 0, none⟩ (.int .u64 s)).setCell ⟨w.heap.size + 1, 0, none⟩ lv) (((W.setCell ⟨w.heap.size, 0, none⟩ (.int .u64 s)).setCell ⟨w.heap.size + 1, 0, none⟩ lv).setCell ⟨w.heap.size + 1 + 1, 0, none⟩ (.int .i64 0)).drew :=
    (Upd.setCell (p := ⟨w.heap.size + 1 + 1, 0, none⟩) (Upd.refl (At (w.heap.size + 1 + 1)) _) (fun _ => rfl) _).drew
  obtain ⟨a, cap, r1, r2, r3, r4⟩ := h2.rd
  exact ⟨Upd.bel h2.bel U (fun k hk => by unfold At at hk; omega), h2.b0.upd U (by unfold At; omega), h2.b1.upd U (by unfold At; omega), (h2.b2.set 0 _).drew, ⟨a, cap, r1.upd U (by unfold At; omega), r2.keep h2.b2 (fun n e => by cases e) U, r3, r4⟩, row_upd h2.row U (fun k hk e => row_ne h2.row h2.b2 (by decide) k hk e), h2.new⟩
set_option maxRecDepth 100000 in
set_option maxHeartbeats 3200000 in
theorem whole_any {w : World} {a : Option Addr} {cap : Nat} {l : List Int} (hA : Arg w a l.length cap l) (hcap : l.length ≤ cap) (hlt : ∀ k, Value.ownBlock (.slice a l.length cap) = some k → k < w.heap.size) :
    Calls Try.prog 40 #[.slice a l.length cap] w fun e w' => Below w.heap.size w w' ∧ ((∃ c, pBody l = .error c ∧ e = .returned (.tuple #[.int .u64 0, .slice none 0 0, .int .i64 c])) ∨ (∃ s rs lv, pBody l = .ok (s, rs) ∧ e = .returned (.tuple #[.int .u64 s, lv, .int .i64 0]) ∧ w'.ownsRow 0 31 4 lv rs.length (rcs rs) ∧ ∀ k, lv.ownBlock = some k → w.heap.size ≤ k)) := by
  have hmf : ∀ (fn : Fn) (first cap : Array Value) (w : World), (Instr.makeFunc fn first cap).run Try.prog w = .ok (.func fn first cap) w := fun _ _ _ _ => rfl
  have W0 := Wh.begin hA hcap hlt
  have hby := hA.2.1
  cases hph : pHead l with
  | error c =>
    have hpb : pBody l = .error c := by unfold pBody; rw [hph]
    go_enter_defers Try.func40, Try.ntmps40
    go_wp2_with (go_at_call 60; refine (head_err W0.rd hph).mono ?_; rintro e w1 ⟨rfl, hu⟩)
    exact door_err (W0.panic hu) c _ rfl rfl rfl (fun w' hb => ⟨hb, .inl ⟨c, hpb, rfl⟩⟩)
  | ok x =>
    obtain ⟨⟨s, n⟩, l1⟩ := x
    have hbd := pHead_bd hby hph
    have s0 := hbd.2.1
    have s1 := hbd.2.2.1
    have n0 := hbd.2.2.2.1
    have n1 := hbd.2.2.2.2.1
    clear hbd
    obtain ⟨N, rfl⟩ := Int.eq_ofNat_of_zero_le n0
    have HPB : Hid (pBody l = match pMany N l1 with | .error c => .error c | .ok (rs, l2) => if l2 = [] then .ok (s, rs) else .error 5) := by
      show _ = _
      unfold pBody
      rw [hph]
      rfl
    have q0 := W0.b0.cell1 0 _ rfl
    go_enter_defers Try.func40, Try.ntmps40
    go_wp2_with (go_at_call 60; refine (head_ok W0.rd hph).mono ?_; rintro e w1 ⟨rfl, hr1, hu1⟩; have W1 := W0.read hr1 hu1; have q1 := W1.b0.cell1 0 _ rfl; have z1 := W1.b0.frozen 0; clear q0)
    have W2 := W1.seq (s' := s)
    clear W0 W1 hu1 hr1 q1 z1 hph
    go_loopw [15] (fun i wr => ∃ (k m : Nat) (lv : Value) (rs : List Rec) (l' : List Int), k + m = N ∧ i = .int .i64 k ∧ Wh w wr s lv rs l' ∧ Hid (rs.length = k) ∧ Hid (pMany N l1 = pAcc rs m l')) (fun i _ => N - (intOf i).toNat)
    case atStart => exact ⟨0, N, _, [], l1, by omega, rfl, W2, rfl, (pAcc_nil _ _).symm⟩
    case round =>
      clear W2
      obtain ⟨k, m, lv, rs, l', hkm, rfl, W, hrl, HM⟩ := hrel
      have hkN : (k : Int) ≤ 4096 := by omega
      by_cases hlt' : k < N
      · obtain ⟨m', rfl⟩ : ∃ m', m = m' + 1 := ⟨m - 1, by omega⟩
        have hlk : (k : Int) < (N : Int) := by omega
        cases hpr : pRec l' with
        | error c =>
          have hpb : pBody l = .error c := by rw [HPB.out, HM.out, pAcc_err hpr]
          have HC := record_err (w := wr.drew) (W.rd.below ((Below.refl _ _).drew)) hpr
          have c1 := W.b1.cell1 0 _ rfl
          have WD : Wh w wr.drew s lv rs l' := ⟨W.bel.drew, W.b0, W.b1, W.b2, W.rd.below ((Below.refl _ _).drew), W.row, W.new⟩
          go_wp2
          obtain ⟨la, lc, rfl⟩ := (row_rd W.row).len
          have lbw := W.b1.lt
          have z1 := W.b1.frozen 0
          go_region_law (first
            | (refine step_panic61 (by rfl) _ _ (by rfl) _ (by rfl) HC (fun e w' hh => ⟨_, hh.1, door_err (WD.panic hh.2) c _ rfl rfl rfl (fun w' hb => ⟨hb, .inl ⟨c, hpb, rfl⟩⟩)⟩) (recV 0 0 ⟨#[]⟩ ⟨#[]⟩) wr.drew ?_; intro hF)
            | (refine step_append_rows (rv := .slice la rs.length lc) (rs := rs) (l := [⟨0, 0, ⟨#[]⟩, ⟨#[]⟩⟩]) (by rfl) _ _ (by rfl) (by rfl) (by rfl) (W.row.drew.alloc _) (Nat.zero_le _) hF.out.elim hF.out.elim ?_
               intro v' w3 ho3 hg3 hl3
               obtain ⟨la', lc', rfl⟩ := (row_rd ho3).len
               have c3 : w3.cell? ⟨w.heap.size + 1, 0, none⟩ = some (.slice la rs.length lc) := hF.out.elim
               have z3 : w3.frozen? ⟨w.heap.size + 1, 0, none⟩ = false := hF.out.elim))
          all_goals exact hF.out.elim
        | ok x =>
          obtain ⟨r, l''⟩ := x
          have HM' : Hid (pMany N l1 = pAcc (rs ++ [r]) m' l'') := by show _ = _; rw [HM.out, pAcc_ok hpr]
          have HC := record_ok (w := wr.drew) (W.rd.below ((Below.refl _ _).drew)) hpr
          have WD : Wh w wr.drew s lv rs l' := ⟨W.bel.drew, W.b0, W.b1, W.b2, W.rd.below ((Below.refl _ _).drew), W.row, W.new⟩
          have c1 := W.b1.cell1 0 _ rfl
          have hn48 : (rs.length + [r].length) * 48 ≤ 140737488355328 := by have := hrl.out; simp; omega
          clear hpr HM
          obtain ⟨f, kd, key, val⟩ := r
          dsimp only at HC
          obtain ⟨la, lc, rfl⟩ := (row_rd W.row).len
          go_wp2
          go_region_law (first
            | (refine step_call61 (by rfl) _ _ (by rfl) _ (by rfl) HC ?_; rintro e w2 ⟨rfl, hr2, hu2⟩; refine ⟨_, rfl, ?_⟩; have W2 := WD.read hr2 hu2; have c2 := W2.b1.cell1 0 _ rfl; have lb2 := W2.b1.lt)
            | (refine step_append_rows (rv := .slice la rs.length lc) (rs := rs) (l := [⟨f, kd, key, val⟩]) (by rfl) _ _ (by rfl) (by rfl) (by rfl) (W2.row.alloc _) (Nat.zero_le _) (one_rd w2 ⟨f, kd, key, val⟩) hn48 ?_
               intro v' w3 ho3 hg3 hl3
               obtain ⟨la', lc', rfl⟩ := (row_rd ho3).len
               have U3 : Upd (fun k => Value.ownBlock (.slice la rs.length lc) = some k) w2 w3 := (((Upd.refl _ _).alloc _).grown hg3 (fun k hk _ => hk))
               have W3 := W2.list ho3 U3 (by rcases hl3 with e | e
                                             · exact .inl e
                                             · refine .inr fun j hj => ?_
                                               rw [e] at hj
                                               cases hj
                                               have := W2.bel.size
                                               simp; omega)
               have n1 := row_ne W2.row W2.b1 (by decide)
               have X1 := W2.b1.upd U3 (fun e => n1 _ e rfl)
               have c3 := X1.cell1 0 _ rfl
               have z3 := X1.frozen 0))
          all_goals
            go_wp2
            go_roundw
            case rel => exact ⟨k + 1, m', _, rs ++ [⟨f, kd, key, val⟩], l'', by omega, by go_num, by simpa using W3, by show _ = _; have := hrl.out; simp; omega, HM'⟩
            case measure => simp [intOf]; omega
      · obtain rfl : m = 0 := by omega
        have hkN' : k = N := by omega
        have hpm : pMany N l1 = .ok (rs, l') := by rw [HM.out, pAcc_zero]
        have hpb1 : pBody l = if l' = [] then .ok (s, rs) else .error 5 := by rw [HPB.out, hpm]
        subst hkN'
        by_cases hl' : l' = []
        · have hpb : Hid (pBody l = .ok (s, rs)) := by show _ = _; rw [hpb1, if_pos hl']
          subst hl'
          have HC := end_ok W.rd
          have c0 := W.b0.cell1 0 _ rfl
          have c1 := W.b1.cell1 0 _ rfl
          have c2 := W.b2.cell1 0 _ rfl
          have z0 := W.b0.frozen 0
          have z1 := W.b1.frozen 0
          have z2 := W.b2.frozen 0
          obtain ⟨la, lc, rfl⟩ := (row_rd W.row).len
          clear hpb1 hpm HM HPB
          go_wp2_with (go_at_call 62; refine HC.mono ?_; rintro e w' ⟨rfl, rfl⟩)
          go_region
          go_wp2
          have WE := W.again
          exact door_ok WE _ rfl rfl rfl ⟨WE.bel, .inr ⟨s, rs, _, hpb.out, rfl, WE.row, WE.new⟩⟩
        · have hpb : pBody l = .error 5 := by rw [hpb1, if_neg hl']
          have HC := end_err W.rd (by cases l' with | nil => exact absurd rfl hl' | cons x y => simp)
          clear hpb1 hpm HM HPB hl'
          go_wp2_with (go_at_call 62; refine HC.mono ?_; rintro e w' ⟨rfl, rfl⟩)
          exact door_err W.err 5 _ rfl rfl rfl (fun w' hb => ⟨hb, .inl ⟨5, hpb, rfl⟩⟩)
end Go.Proofs.Ytkpijoogaicodaa
namespace Go.Proofs.Ytkpijoogaicodaa
open Go.RowKit
set_option linter.unusedVariables false
set_option linter.unusedSimpArgs false

def pAll (l : List Int) : Except Int (Int × List Rec) := if 4194304 < l.length then .error 2 else pBody l
/-- What Decode answers. -/
def DecPost (w : World) (l : List Int) : Ending → World → Prop := fun e w' => Below w.heap.size w w' ∧ ((∃ c, pAll l = .error c ∧ e = .returned (.tuple #[.int .u64 0, .slice none 0 0, .int .i64 c])) ∨ (∃ s rs lv, pAll l = .ok (s, rs) ∧ e = .returned (.tuple #[.int .u64 s, lv, .int .i64 0]) ∧ w'.ownsRow 0 31 4 lv rs.length (rcs rs) ∧ ∀ k, lv.ownBlock = some k → w.heap.size ≤ k))
theorem arg_lt {w : World} {a : Option Addr} {len cap : Nat} {l : List Int} (h : Arg w a len cap l) (hl : l ≠ []) : ∀ k, Value.ownBlock (.slice a len cap) = some k → k < w.heap.size := by
  obtain ⟨_, _, _, h4⟩ := h
  rcases h4 with h4 | ⟨b, off, rfl, hlt, _⟩
  · exact absurd h4 hl
  · intro k hk; simp [Value.ownBlock] at hk; omega
set_option maxRecDepth 100000 in
set_option maxHeartbeats 1000000 in
theorem decode_any {w : World} {a : Option Addr} {cap : Nat} {l : List Int} (hA : Arg w a l.length cap l) (hcap : l.length ≤ cap) (hlt : ∀ k, Value.ownBlock (.slice a l.length cap) = some k → k < w.heap.size) :
    Calls Try.prog 13 #[.slice a l.length cap] w (DecPost w l) := by
  by_cases hl : 4194304 < l.length
  · have hp : pAll l = .error 2 := by unfold pAll; rw [if_pos hl]
    have hl' : (4194304 : Int) < (l.length : Int) := by omega
    go_enter Try.func13, Try.ntmps13
    go_wp2
    go_ret3
    exact ⟨Below.refl _ _, .inl ⟨2, hp, rfl⟩⟩
  · have hp : pAll l = pBody l := by unfold pAll; rw [if_neg hl]
    have hl' : ¬ (4194304 : Int) < (l.length : Int) := by omega
    unfold DecPost
    rw [hp]
    clear hp hl
    cases hb : pBody l with
    | error c =>
      have HC : Calls Try.prog 40 #[.slice a l.length cap] w fun e w' => e = .returned (.tuple #[.int .u64 0, .slice none 0 0, .int .i64 c]) ∧ Below w.heap.size w w' := by
        refine (whole_any hA hcap hlt).mono ?_
        rintro e w' ⟨h1, ⟨c', h2, rfl⟩ | ⟨s, rs, lv, h2, _⟩⟩
        · rw [hb] at h2; cases h2; exact ⟨rfl, h1⟩
        · rw [hb] at h2; cases h2
      clear hb
      go_enter Try.func13, Try.ntmps13
      go_wp2_with (go_at_call 40; refine HC.mono ?_; rintro e w1 ⟨rfl, h1⟩)
      go_ret3
      exact ⟨h1, .inl ⟨c, rfl, rfl⟩⟩
    | ok x =>
      obtain ⟨s, rs⟩ := x
      have HC : Calls Try.prog 40 #[.slice a l.length cap] w fun e w' => ∃ lv, e = .returned (.tuple #[.int .u64 s, lv, .int .i64 0]) ∧ Below w.heap.size w w' ∧ w'.ownsRow 0 31 4 lv rs.length (rcs rs) ∧ ∀ k, lv.ownBlock = some k → w.heap.size ≤ k := by
        refine (whole_any hA hcap hlt).mono ?_
        rintro e w' ⟨h1, ⟨c', h2, rfl⟩ | ⟨s', rs', lv, h2, rfl, h3, h4⟩⟩
        · rw [hb] at h2; cases h2
        · rw [hb] at h2; cases h2; exact ⟨lv, rfl, h1, h3, h4⟩
      clear hb
      go_enter Try.func13, Try.ntmps13
      go_wp2_with (go_at_call 40; refine HC.mono ?_; rintro e w1 ⟨lv, rfl, h1, h3, h4⟩)
      go_ret3
      exact ⟨h1, .inr ⟨s, rs, lv, rfl, rfl, h3, h4⟩⟩
end Go.Proofs.Ytkpijoogaicodaa
