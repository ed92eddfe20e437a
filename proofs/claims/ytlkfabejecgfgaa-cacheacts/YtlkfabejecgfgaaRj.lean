/-
  The reference's Room.
-/
import Derived.Test.YtlkfabejecgfgaaRi
namespace Go.Proofs.Ytlkfabejecgfgaa
open Go.RowKit Go.Maps
set_option linter.unusedVariables false
set_option linter.unusedSimpArgs false
section
variable {w : World} {R : Lr} {n room : Nat} {st : Bool} {vs : List Vw} {pv : Value} {P : List (Option (Nat × Nat))} {s : Cs}
/-- The room is another one. -/
theorem Rf.setRoom (h : Rf w R n room st vs pv P) {w' : World} {room' : Nat} (hB : Blk w' R.cb 70 (rfC R n room' st pv)) (U : Upd (fun k => k = R.cb) w w') : Rf w' R n room' st vs pv P := by
  have lB := h.lr.ex.choose_spec.1
  have wB := h.wr.ex.choose_spec.1
  refine ⟨hB, h.len, h.lr.upd U (fun e => lB.ne h.blk (by decide) e) (fun k u l hu hk _ => row_ne hu h.blk (by decide) k hk), h.wr.upd U (fun e => wB.ne h.blk (by decide) e) (fun k u l hu hk _ => row_ne hu h.blk (by decide) k hk), h.lw, row_upd h.pr U (fun k hk => row_ne h.pr h.blk (by decide) k hk), fun i v j e hv hj => ?_, h.inj, h.llr⟩
  have I := h.it i v j e hv hj
  exact I.upd U (fun ee => I.ne h.blk (by decide) ee)
theorem vroom_ent (c r : Nat) : ∀ (k : Nat) (v : Vw), (vroom c r k v).ent = v.ent
  | 0, v => rfl
  | k + 1, v => by
    unfold vroom
    split
    · rfl
    · split
      · rw [vroom_ent c r k]; rfl
      · rfl
/-- So far. -/
structure Rt (vs vs' : List Vw) (s : Cs) (r m : Nat) : Prop where
  l : vs'.length = vs.length
  v : ∀ (i : Nat) (v : Vw) (x : Xs), vs'[i]? = some v → s.xs[i]? = some x → Vx v (if i < m then rmX r x else x)
  e : ∀ (i : Nat) (v : Vw), vs'[i]? = some v → ∃ v0, vs[i]? = some v0 ∧ v.ent = v0.ent
theorem Rt.rb {vs' : List Vw} {r m : Nat} (h : Rt vs vs' s r m) {k : Nat} (hk : Rb R vs' pv k) : Rb R vs pv k := by
  rcases hk with e | e | e | e | ⟨i, v, j, hv, hj, e⟩
  · exact .inl e
  · exact .inr (.inl e)
  · exact .inr (.inr (.inl e))
  · exact .inr (.inr (.inr (.inl e)))
  · obtain ⟨v0, h1, h2⟩ := h.e i v hv
    exact .inr (.inr (.inr (.inr ⟨i, v0, j, h1, by rw [← h2]; exact hj, e⟩)))
set_option maxRecDepth 100000 in
set_option maxHeartbeats 4000000 in
theorem rroom_any (h : Rx w R room vs pv s) (c : Ci s) {rm' : Nat} (hr : rm' < 18446744073709551616) :
    Calls Try.prog 35 #[.pointer (some ⟨R.cb, 0, none⟩), .int .u64 rm'] w fun r w' => r = .returned (.tuple #[]) ∧ Ro w R vs pv w' rm' (roomC s rm') := by
  have z1 := h.rf.blk.frozen 1
  have c1 := h.rf.blk.cell1 1 _ rfl
  obtain ⟨w1, hw1⟩ : ∃ W, w.setCell ⟨R.cb, 1, none⟩ (.int .u64 rm') = W := ⟨_, rfl⟩
  have U1 : Upd (fun k => k = R.cb) w w1 := by rw [← hw1]; exact Upd.setCell (p := ⟨R.cb, 1, none⟩) (Upd.refl (fun k => k = R.cb) w) (fun _ => rfl) _
  have F1 : Rf w1 R s.xs.length rm' s.st vs pv s.P := h.rf.setRoom (by rw [← hw1]; exact h.rf.blk.set 1 _) U1
  have V1 : Hid (Upd (Rb R vs pv) w w1) := U1.mono (fun k _ hk => .inl hk)
  obtain ⟨n, hn⟩ : ∃ n, s.xs.length = n := ⟨_, rfl⟩
  have n1 := c.n1
  have n2 := c.n2
  rw [hn] at F1 n1 n2
  have F1' : Hid _ := F1
  have FIN : Hid (∀ wr vs', Rt vs vs' s (rm' / n) n → Rf wr R n rm' s.st vs' pv s.P → Upd (Rb R vs pv) w wr → Ro w R vs pv wr rm' (roomC s rm')) := fun wr vs' T F U => by
    refine ⟨R, vs', pv, rfl, ⟨?_, ?_, hr, ?_, ?_, h.pl⟩, U, fun k hk => .inl (T.rb hk)⟩
    · have : (roomC s rm').xs.length = n := by unfold roomC; simp [hn]
      rw [this]; exact F
    · unfold roomC; simp
    · intro i v x hv hx
      have : (roomC s rm').xs[i]? = (s.xs[i]?).map (rmX (rm' / s.xs.length)) := by unfold roomC; simp
      rw [this, Option.map_eq_some_iff] at hx
      obtain ⟨y, hy, rfl⟩ := hx
      have hi : i < n := by rw [← hn]; exact (List.getElem?_eq_some_iff.1 hy).1
      have := T.v i v y hv hy
      rw [if_pos hi] at this
      rw [hn]; exact this
    · intro i x hx
      have : (roomC s rm').xs[i]? = (s.xs[i]?).map (rmX (rm' / s.xs.length)) := by unfold roomC; simp
      rw [this, Option.map_eq_some_iff] at hx
      obtain ⟨y, hy, rfl⟩ := hx
      exact Su.room _ _ _ _ (c.iv i y hy) (h.su i y hy)
  have T0 : Hid (Rt vs vs s (rm' / n) 0) := ⟨rfl, fun i v x hv hx => by rw [if_neg (by omega)]; exact h.vx i v x hv hx, fun i v hv => ⟨v, hv, rfl⟩⟩
  have GET : Hid (∀ (vs' : List Vw) (m : Nat), m < n → Rt vs vs' s (rm' / n) m → ∃ v, vs'[m]? = some v ∧ (v.ll.length ≤ 4000000000000 ∧ v.wl.length ≤ 4000000000000 ∧ (∀ (j : Nat) (e : En), v.ent[j]? = some e → e.chg < 18446744073709551616)) ∧ Rt vs (vs'.set m (vroom 0 (rm' / n) v.wl.length v)) s (rm' / n) (m + 1) ∧ (vroom 0 (rm' / n) v.wl.length v).ent.length = v.ent.length) := fun vs' m hm T => by
    have hml : m < vs'.length := by rw [T.l, h.rf.len, hn]; exact hm
    have hv := List.getElem?_eq_getElem hml
    obtain ⟨x, hx⟩ : ∃ x, s.xs[m]? = some x := ⟨_, List.getElem?_eq_getElem (by omega)⟩
    have V := T.v m _ x hv hx
    rw [if_neg (by omega)] at V
    refine ⟨_, hv, ⟨?_, ?_, ?_⟩, ⟨?_, ?_, ?_⟩, by rw [vroom_ent]⟩
    · rw [V.l]
      have h1 : (LL x).length ≤ x.ent.length := by unfold LL; exact Nat.le_trans (List.length_filter_le _ _) (by simp)
      have := c.el m x hx
      have := h.pl
      omega
    · rw [V.q]
      have := (c.iv m x hx).qle
      have := c.el m x hx
      have := h.pl
      omega
    · rw [V.e]; exact (h.su m x hx).c
    · simpa using T.l
    · intro i v y hv' hy
      rw [vset_get hv] at hv'
      split at hv'
      · rename_i e; subst e; cases hv'
        rw [hx] at hy; cases hy
        rw [if_pos (by omega)]
        have := V.room 0 (rm' / n) vs'[i].wl.length (c.iv i x hx) (h.su i x hx)
        unfold rmX
        rw [← V.q]; exact this
      · rename_i e
        have := T.v i v y hv' hy
        by_cases ci : i < m
        · rw [if_pos ci] at this; rw [if_pos (by omega)]; exact this
        · rw [if_neg ci] at this; rw [if_neg (by omega)]; exact this
    · intro i v hv'
      rw [vset_get hv] at hv'
      split at hv'
      · rename_i e; subst e; cases hv'
        obtain ⟨v0, a, b⟩ := T.e i _ hv
        exact ⟨v0, a, by rw [vroom_ent]; exact b⟩
      · exact T.e i v hv'
  clear F1 U1 h c
  go_enter Try.func35, Try.ntmps35
  go_wp2_with fail
  clear c1 z1
  go_loopw [4] (fun i wr => ∃ m : Nat, i = .int .i64 m ∧ m ≤ n ∧ ∃ vs', Rt vs vs' s (rm' / n) m ∧ Rf wr R n rm' s.st vs' pv s.P ∧ Upd (Rb R vs pv) w wr) (fun i wr => match i with | .int _ z => n - z.toNat | _ => 0)
  case atStart => exact ⟨0, rfl, Nat.zero_le _, vs, T0.out, F1'.out, V1.out⟩
  case round =>
    obtain ⟨m, rfl, hm, vs', T, F, U⟩ := hrel
    have c0 := F.blk.cell1 0 _ rfl
    have T' : Hid _ := T
    have F' : Hid _ := F
    have U' : Hid _ := U
    clear U hw1 T0 F1' V1
    by_cases hlt : m < n
    · have hlt' : (m : Int) < n := by omega
      obtain ⟨v, hv, ⟨a1, a2, a3⟩, T2, a4⟩ := GET.out vs' m hlt T
      have HM : Calls Try.prog 56 #[.pointer (some ⟨R.cb, 0, none⟩), .int .i64 m, .int .u64 0] wr fun r w' => r = .returned (.tuple #[]) ∧ Rf w' R n rm' s.st (vs'.set m (vroom 0 (rm' / n) v.wl.length v)) pv s.P ∧ Upd (Rb R vs' pv) wr w' := makes_any F hv n1 n2 a1 a2 a3 (c := 0) (by decide) hr
      have T2' : Hid _ := T2
      clear T F T2 a3
      go_wp2_with (go_at_call 56; refine HM.mono ?_; rintro e' w3 ⟨rfl, F3, U3⟩)
      go_roundw
      case rel => exact ⟨m + 1, by go_num, hlt, _, T2'.out, F3, U'.out.trans (U3.mono (fun k _ hk => T'.out.rb hk))⟩
      case measure => simp only []; omega
    · have hlt' : (m : Int) = n := by omega
      obtain rfl : m = n := by omega
      clear T F
      go_wp2_with fail
      go_end0
      exact ⟨rfl, FIN.out _ _ T'.out F'.out U'.out⟩
end
end Go.Proofs.Ytlkfabejecgfgaa
