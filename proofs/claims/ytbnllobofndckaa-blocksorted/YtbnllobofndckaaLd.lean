import Derived.Test.YtbnllobofndckaaLc
namespace Go.Proofs.Ytbnllobofndckaa
open Go.RowKit
set_option linter.unusedVariables false
set_option linter.unusedSimpArgs false
/-- The bytes of the first numbers. -/
def ptB (x y z : Nat) : Nat → List Int
  | 0 => []
  | 1 => vL 10 x
  | 2 => vL 10 x ++ vL 10 y
  | _ => vL 10 x ++ vL 10 y ++ vL 10 z
theorem ptB_step (x y z i : Nat) (h : i < 3) : ptB x y z (i + 1) = ptB x y z i ++ vL 10 (ptN x y z i) := by
  rcases i with _ | _ | _ | i
  · exact (List.nil_append _).symm
  · rfl
  · rfl
  · omega
theorem ptB_len (x y z i : Nat) : (ptB x y z i).length ≤ 33 := by
  have := vz_le x
  have := vz_le y
  have := vz_le z
  unfold vz at *
  unfold ptB; split <;> simp <;> omega
theorem AppB.start {w : World} {base : Nat} {v : Value} {l : List Int} (h : OwnB w base v l) : AppB w w base v v l := ⟨h, Upd.refl _ _, .inl rfl⟩
set_option maxRecDepth 100000 in
set_option maxHeartbeats 1000000 in
theorem join_any {w : World} {base : Nat} {bv : Value} {l lf : List Int} (ho : OwnB w base bv l) (hbase : base ≤ w.heap.size) {a : Option Addr} {n c : Nat} (hl : Arg w a n c lf) (hne : ∀ b off, a = some ⟨b, off, none⟩ → bv.ownBlock ≠ some b) (wh : Bool) (cm : Nat) (v : ByteArray)
    (h1 : cm ≤ 1099511627776) (h2 : n ≤ 1099511627776) (h3 : v.size ≤ 1099511627776) (h4 : l.length ≤ 1099511627776) :
    Calls Try.prog 60 #[.agg #[.bool wh, .int .i64 cm, .slice a n c, .string v], bv] w fun e w' => ∃ v', e = .returned v' ∧ AppB w w' base bv v' (l ++ pcB cm lf v) := by
  obtain ⟨i0, hi, hz0, hz1, hz2⟩ := info_parts info5
  have hb0 : Below w.heap.size w (w.alloc (.cells #[.bool wh, .int .i64 cm, .slice a n c, .string v] 96)) := (Below.refl _ _).alloc (Nat.le_refl _) _
  obtain ⟨m, hm⟩ : ∃ m, Hid (v.size = m) := ⟨_, rfl⟩
  have HL : Hid (∀ W, Calls Try.prog 87 #[.agg #[.bool wh, .int .i64 cm, .slice a n c, .string v]] W fun e w' => e = .returned (.agg #[.int .i64 cm, .int .i64 n, .int .i64 m]) ∧ Below W.heap.size W w') := fun W => by rw [← hm.out]; exact lengths_any wh cm a n c v W
  have hn := hl.1
  have HE : Hid (pcB cm lf v = ptB cm n m 3 ++ lf ++ sb v) := by show _ = _; unfold pcB; rw [hn, hm.out]; rfl
  have HN : Hid (lf.length = n) := hn
  rw [hm.out] at h3
  have B0 := Blk.new w 96 [.bool wh, .int .i64 cm, .slice a n c, .string v]
  have HO : Hid (OwnB w base bv l) := ho
  have HA : Hid (Arg w a n c lf) := hl
  have HNe : Hid (∀ b off, a = some ⟨b, off, none⟩ → bv.ownBlock ≠ some b) := hne
  clear ho hl hne hn
  go_enter Try.func60, Try.ntmps60
  go_wp2_with (go_at_call 87; refine (HL.out _).mono ?_; rintro e w1 ⟨rfl, hb1⟩; have hb2 := hb0.trans (hb1.mono hb0.size))
  have B1 : Blk w1 w.heap.size 96 [.bool wh, .int .i64 cm, .slice a n c, .string v] := B0.upd (S := Non) (Upd.ofBelow hb1) id
  have hs1 : w.heap.size < w1.heap.size := B1.lt
  have HO1 : Hid (OwnB w1 base bv l) := HO.out.below hb2 (Nat.le_refl _)
  go_loopw [1, 9] (fun s i wr => ∃ k : Nat, k ≤ 3 ∧ i = .int .i64 k ∧ AppB w1 wr base bv s (l ++ ptB cm n m k)) (fun _ i _ => (3 - intOf i).toNat)
  case atStart => exact ⟨0, by omega, rfl, by show AppB _ _ _ _ _ (l ++ []); rw [List.append_nil]; exact AppB.start HO1.out⟩
  case round =>
    obtain ⟨k, hk, rfl, hA⟩ := hrel
    rcases Nat.lt_or_ge k 3 with hk3 | hk3
    · have hkz : (k : Int) < 3 := by omega
      obtain ⟨x, hx⟩ : ∃ x, Hid (ptN cm n m k = x) := ⟨_, rfl⟩
      have hxl : x ≤ 1099511627776 := by rw [← hx.out]; exact ptN_le _ _ _ _ _ h1 h2 h3
      have hidx : ∀ W, (Instr.index 120 (.agg #[.int .i64 cm, .int .i64 n, .int .i64 m]) (.int .i64 k)).run Try.prog W = .ok (.int .i64 x) W := fun W => run_index3 _ _ _ k _ (by rw [ptN_get _ _ _ _ hk3, hx.out]) W
      have hw : IntKind.u64.wrap (x : Int) = x := by rw [IntKind.wrap_u64]; omega
      have HS : Hid (l ++ ptB cm n m (k + 1) = (l ++ ptB cm n m k) ++ vL 10 x) := by rw [← hx.out, ptB_step _ _ _ _ hk3, List.append_assoc]; rfl
      have HLen : Hid ((l ++ ptB cm n m k).length + (vL 10 x).length ≤ 140737488355328) := by
        have e1 := ptB_len cm n m k
        have e2 := vz_le x
        unfold vz at e2
        show _ ≤ _
        rw [List.length_append]; omega
      have HBs : Hid (base ≤ wr.heap.size) := Nat.le_trans hbase (Nat.le_trans hb2.size hA.upd.size)
      generalize l ++ ptB cm n m k = acc at *
      have HAp : Hid (AppB w1 wr base bv u1 acc) := hA
      clear hA
      go_wp2_with (first
        | (go_at_call 88; refine (cvarint_any x _ (by omega) (by omega)).mono ?_; rintro e w3 ⟨v3, rfl, ho3, hb3⟩; have hA3 := HAp.out.post hb3; have hbs3 := Nat.le_trans HBs.out hb3.size)
        | (at_builtin; refine OwnB.wpList_append rfl _ _ 23 23 rfl rfl (base := base) (v := u1) (l := acc) hA3.own i0 Try.underlying23 hi hz0 hz1 hz2 v3 rfl (vL 10 x) ho3.src hbs3 HLen.out ?_; intro v4 w4 ho4 hg4 hl4; have hA4 := hA3.trans (AppB.grow ho4 hg4 hl4)))
      go_roundw
      case rel => exact ⟨k + 1, by omega, by go_num, by rw [HS.out]; exact hA4⟩
      case measure => simp [intOf]; omega
    · have hkz : ¬ (k : Int) < 3 := by omega
      obtain rfl : k = 3 := by omega
      have hnb : ∀ j, bv.ownBlock = some j → j < w.heap.size := fun j hj => (HO.out.lt j hj).2
      have Bw := B1.upd hA.upd (fun e => by have := hnb _ e; omega)
      have x2 := Bw.cell1 2 _ rfl
      have x3 := Bw.cell1 3 _ rfl
      have HAw : Hid (Arg wr a n c lf) := (HA.out.below hb2).upd hA.upd (fun b off e => HNe.out b off e)
      have HLen : Hid ((l ++ ptB cm n m 3).length + lf.length ≤ 140737488355328) := by
        have e1 := ptB_len cm n m 3
        show _ ≤ _
        rw [List.length_append, HN.out]; omega
      have HLen2 : Hid (((l ++ ptB cm n m 3) ++ lf).length + (sb v).length ≤ 140737488355328) := by
        have e1 := ptB_len cm n m 3
        show _ ≤ _
        rw [List.length_append, List.length_append, HN.out, sb_len, hm.out]; omega
      have HBs : Hid (base ≤ wr.heap.size) := Nat.le_trans hbase (Nat.le_trans hb2.size hA.upd.size)
      have HT : Hid (l ++ pcB cm lf v = ((l ++ ptB cm n m 3) ++ lf) ++ sb v) := by show _ = _; rw [HE.out]; simp [List.append_assoc]
      have HBx : Hid (Blk wr w.heap.size 96 [.bool wh, .int .i64 cm, .slice a n c, .string v]) := Bw
      have HNb : Hid (∀ j, bv.ownBlock = some j → j < w.heap.size) := hnb
      generalize l ++ ptB cm n m 3 = acc at *
      have HAp : Hid (AppB w1 wr base bv u1 acc) := hA
      clear hA hnb Bw
      go_wp2_with (first
        | (at_builtin; have hxx := hA4; clear hxx; refine OwnB.wpList_append rfl _ _ 23 9 rfl rfl (base := base) (v := v4) (l := acc ++ lf) ho4 i0 Try.underlying23 hi hz0 hz1 hz2 (.string v) rfl (sb v) (src_str _ v) (Nat.le_trans HBs.out hg4.size) HLen2.out ?_; intro v5 w5 ho5 hg5 hl5; have hA5 := hA4.trans (AppB.grow ho5 hg5 hl5))
        | (at_builtin; refine OwnB.wpList_append rfl _ _ 23 23 rfl rfl (base := base) (v := u1) (l := acc) HAp.out.own i0 Try.underlying23 hi hz0 hz1 hz2 (.slice a n c) rfl lf HAw.out.src HBs.out HLen.out ?_; intro v4 w4 ho4 hg4 hl4
           have hA4 := HAp.out.trans (AppB.grow ho4 hg4 hl4)
           have x4 : w4.cell? ⟨w.heap.size, 3, none⟩ = some (.string v) := (B1.upd hA4.upd (fun e => by have := HNb.out _ e; omega)).cell1 3 _ rfl))
      go_ret
      refine ⟨_, rfl, ?_⟩
      rw [HT.out]
      exact AppB.pre hb2 hA5
end Go.Proofs.Ytbnllobofndckaa
