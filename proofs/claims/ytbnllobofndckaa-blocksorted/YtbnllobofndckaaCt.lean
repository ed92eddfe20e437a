import Derived.Test.YtbnllobofndckaaLd
namespace Go.Proofs.Ytbnllobofndckaa
open Go.RowKit Go.Maps
set_option linter.unusedVariables false
set_option linter.unusedSimpArgs false
theorem elem23 : Try.prog.elem 23 = 5 := by kernel_rfl
theorem slc23 : Try.prog.underlying 23 = some (.slice (Try.prog.elem 23)) := by rw [elem23]; exact Try.underlying23
/-- Where a slice begins behind its first m. -/
def cutA (a : Option Addr) (cap m : Nat) : Option Addr := if cap = m then a else a.map (·.add m)
theorem bcut_lo (b off n cap m : Nat) (h : m ≤ n) (W : World) : (Instr.sliceAt 23 (.slice (some ⟨b, off, none⟩) n cap) (some (.int .i64 m)) none none).run Try.prog W = .ok (.slice (cutA (some ⟨b, off, none⟩) cap m) (n - m) (cap - m)) W := by
  have hs : (sizeOf 5).run Try.prog W = .ok 1 W := by kernel_rfl
  have hr := run_slice_l (P := Try.prog) W 23 (some ⟨b, off, none⟩) n cap slc23 .i64 (m : Int) (by omega) (by omega)
  rw [elem23, hs] at hr
  simp only [Result.andThen, sliced, Int.toNat_natCast] at hr
  rw [run_sliceAt_slice _ _ _ _ _ _ slc23, hr]
  unfold cutA
  split <;> simp [add_at]
theorem bcut_hi (a : Option Addr) (n cap m : Nat) (h : m ≤ cap) (W : World) : (Instr.sliceAt 23 (.slice a n cap) none (some (.int .i64 m)) none).run Try.prog W = .ok (.slice a m cap) W := by
  have hs : (sizeOf 5).run Try.prog W = .ok 1 W := by kernel_rfl
  have hr := run_slice_h (P := Try.prog) W 23 a n cap slc23 .i64 (m : Int) (by omega) (by omega)
  rw [elem23, hs] at hr
  simp only [Result.andThen, sliced, Int.toNat_natCast] at hr
  rw [run_sliceAt_slice _ _ _ _ _ _ slc23, hr]
  cases a <;> simp [Addr.add]
theorem bcut_lh (b off n cap m k : Nat) (h : m ≤ k) (hk : k ≤ cap) (W : World) : (Instr.sliceAt 23 (.slice (some ⟨b, off, none⟩) n cap) (some (.int .i64 m)) (some (.int .i64 k)) none).run Try.prog W = .ok (.slice (cutA (some ⟨b, off, none⟩) cap m) (k - m) (cap - m)) W := by
  have hs : (sizeOf 5).run Try.prog W = .ok 1 W := by kernel_rfl
  have hr := run_slice_lh (P := Try.prog) W 23 (some ⟨b, off, none⟩) n cap slc23 .i64 .i64 (m : Int) (k : Int) (by omega) (by omega) (by omega)
  rw [elem23, hs] at hr
  simp only [Result.andThen, sliced, Int.toNat_natCast] at hr
  rw [run_sliceAt_slice _ _ _ _ _ _ slc23, hr]
  unfold cutA
  split <;> simp [add_at]
theorem Arg.hi {w : World} {a : Option Addr} {len cap : Nat} {l : List Int} (h : Arg w a len cap l) {m : Nat} (hm : m ≤ len) : Arg w a m cap (l.take m) := by
  obtain ⟨rfl, h2, h3, h4⟩ := h
  refine ⟨by simp; omega, take_bd h2 m, by omega, ?_⟩
  rcases h4 with rfl | ⟨b, off, rfl, hlt, hc⟩
  · exact .inl (by simp)
  · refine .inr ⟨b, off, rfl, hlt, fun j hj => ?_⟩
    rw [List.length_take] at hj
    rw [List.getElem_take]
    exact hc j (by omega)
theorem Arg.lo {w : World} {a : Option Addr} {len cap : Nat} {l : List Int} (h : Arg w a len cap l) {m : Nat} (hm : m ≤ len) (hc : len ≤ cap) : Arg w (cutA a cap m) (len - m) (cap - m) (l.drop m) := by
  obtain ⟨rfl, h2, h3, h4⟩ := h
  refine ⟨by simp, fun n hn => h2 n (List.mem_of_mem_drop hn), by omega, ?_⟩
  rcases h4 with rfl | ⟨b, off, rfl, hlt, hcl⟩
  · exact .inl (by simp)
  · by_cases e : cap = m
    · exact .inl (List.drop_eq_nil_of_le (by omega))
    · refine .inr ⟨b, off + m, by unfold cutA; rw [if_neg e]; simp [add_at], hlt, fun j hj => ?_⟩
      rw [List.length_drop] at hj
      rw [List.getElem_drop, Nat.add_assoc]
      exact hcl (m + j) (by omega)
theorem bcut_lo2 (a : Option Addr) (n cap m : Nat) (h : m ≤ n) (W : World) : (Instr.sliceAt 23 (.slice a n cap) (some (.int .i64 m)) none none).run Try.prog W = .ok (.slice (cutA a cap m) (n - m) (cap - m)) W := by
  have hs : (sizeOf 5).run Try.prog W = .ok 1 W := by kernel_rfl
  have hr := run_slice_l (P := Try.prog) W 23 a n cap slc23 .i64 (m : Int) (by omega) (by omega)
  rw [elem23, hs] at hr
  simp only [Result.andThen, sliced, Int.toNat_natCast] at hr
  rw [run_sliceAt_slice _ _ _ _ _ _ slc23, hr]
  unfold cutA
  cases a <;> split <;> simp
theorem cutA_blk {b' o' cap m b off : Nat} (h : cutA (some ⟨b', o', none⟩) cap m = some ⟨b, off, none⟩) : b = b' := by
  unfold cutA at h
  split at h
  · cases h; rfl
  · simp [add_at] at h; exact h.1.symm
theorem cutA_none (cap m : Nat) : cutA none cap m = none := by unfold cutA; split <;> rfl
theorem AppB.base {w w' : World} {base : Nat} {v v' : Value} {l : List Int} (h : AppB w w' base v v' l) (hb : base ≤ w.heap.size) : base ≤ w'.heap.size := Nat.le_trans hb h.upd.size
set_option maxRecDepth 100000 in
set_option maxHeartbeats 1000000 in
/-- The reference's entry. -/
theorem rentry_any {w : World} {base : Nat} {bv : Value} {l key : List Int} (ho : OwnB w base bv l) (hbase : base ≤ w.heap.size) {a : Option Addr} {n c : Nat} (hl : Arg w a n c key) (hc : n ≤ c) (hne : ∀ b off, a = some ⟨b, off, none⟩ → bv.ownBlock ≠ some b) (cm : Nat) (hcm : cm ≤ n) (v : ByteArray)
    (h2 : n ≤ 1099511627776) (h3 : v.size ≤ 1099511627776) (h4 : l.length ≤ 1099511627776) :
    Calls Try.prog 64 #[bv, .slice a n c, .string v, .int .i64 cm] w fun e w' => ∃ v', e = .returned v' ∧ AppB w w' base bv v' (l ++ pcB cm (key.drop cm) v) := by
  obtain ⟨i0, hi, hz0, hz1, hz2⟩ := info_parts info5
  have hn := hl.1
  obtain ⟨m, hm⟩ : ∃ m, Hid (v.size = m) := ⟨_, rfl⟩
  obtain ⟨d, hd⟩ : ∃ d, n = cm + d := ⟨n - cm, by omega⟩
  have HN : Hid (key.length = n) := hn
  have HK : Hid ((key.drop cm).length = d) := by show _ = _; rw [List.length_drop, hn]; omega
  have hm' : v.size = m := hm.out
  rw [hm'] at h3
  have hx1 : IntKind.u64.wrap (cm : Int) = cm := by rw [IntKind.wrap_u64]; omega
  have hx2 : IntKind.u64.wrap (d : Int) = d := by rw [IntKind.wrap_u64]; omega
  have hx3 : IntKind.u64.wrap (m : Int) = m := by rw [IntKind.wrap_u64]; omega
  have hsub : (n : Int) - cm = d := by omega
  have hcut := fun W => bcut_lo2 a n c cm hcm W
  have e0 : n - cm = d := by omega
  rw [e0] at hcut
  have HA : Hid (∀ W, Upd (fun k => bv.ownBlock = some k) w W → Arg W (cutA a c cm) d (c - cm) (key.drop cm)) := fun W u => by
    have := (hl.upd u (fun b off e => hne b off e)).lo hcm hc
    rw [e0] at this; exact this
  have b1 := vz_le cm
  have b2 := vz_le d
  have b3 := vz_le m
  unfold vz at b1 b2 b3
  have L1 : Hid (l.length + (vL 10 cm).length ≤ 140737488355328) := by show _ ≤ _; omega
  have L2 : Hid ((l ++ vL 10 cm).length + (vL 10 d).length ≤ 140737488355328) := by show _ ≤ _; simp only [List.length_append]; omega
  have L3 : Hid ((l ++ vL 10 cm ++ vL 10 d).length + (vL 10 m).length ≤ 140737488355328) := by show _ ≤ _; simp only [List.length_append]; omega
  have L4 : Hid ((l ++ vL 10 cm ++ vL 10 d ++ vL 10 m).length + (key.drop cm).length ≤ 140737488355328) := by show _ ≤ _; rw [HK.out]; simp only [List.length_append]; omega
  have L5 : Hid ((l ++ vL 10 cm ++ vL 10 d ++ vL 10 m ++ key.drop cm).length + (sb v).length ≤ 140737488355328) := by show _ ≤ _; rw [List.length_append, HK.out, sb_len, hm.out]; simp only [List.length_append]; omega
  have HT : Hid (l ++ pcB cm (key.drop cm) v = l ++ vL 10 cm ++ vL 10 d ++ vL 10 m ++ key.drop cm ++ sb v) := by show _ = _; unfold pcB; rw [HK.out, hm.out]; simp [List.append_assoc]
  have HV : Hid (∀ (x : Nat) (W : World), x ≤ 1099511627776 → Calls Try.prog 90 #[.int .u64 x] W fun e w' => ∃ v, e = .returned v ∧ OwnB w' W.heap.size v (vL 10 x) ∧ Below W.heap.size W w') := fun x W hx => rvarint_any x W (by omega) (by omega)
  have A0 := AppB.start ho
  have hdl : d ≤ 1099511627776 := by omega
  have hcl : cm ≤ 1099511627776 := by omega
  generalize hE : key.drop cm = lf at *
  clear hE hn HN ho hl hne hd b1 b2 b3 hm h4 e0
  go_enter Try.func64, Try.ntmps64
  go_wp2_with (first
    | (at_builtin; have hq := A8; clear hq; refine OwnB.wpList_append rfl _ _ 23 9 rfl rfl (base := base) (v := v8) (l := l ++ vL 10 cm ++ vL 10 d ++ vL 10 m ++ lf) A8.own i0 Try.underlying23 hi hz0 hz1 hz2 (.string v) rfl (sb v) (src_str _ v) (A8.base hbase) L5.out ?_; intro v9 w9 ho9 hg9 hl9; have A9 := A8.trans (AppB.grow ho9 hg9 hl9))
    | (at_builtin; have hq := A6; clear hq; refine OwnB.wpList_append rfl _ _ 23 23 rfl rfl (base := base) (v := v6) (l := l ++ vL 10 cm ++ vL 10 d ++ vL 10 m) A6.own i0 Try.underlying23 hi hz0 hz1 hz2 (.slice (cutA a c cm) d (c - cm)) rfl lf (HA.out _ A6.upd).src (A6.base hbase) L4.out ?_; intro v8 w8 ho8 hg8 hl8; have A8 := A6.trans (AppB.grow ho8 hg8 hl8))
    | (at_builtin; have hq := A5; clear hq; refine OwnB.wpList_append rfl _ _ 23 23 rfl rfl (base := base) (v := v4) (l := l ++ vL 10 cm ++ vL 10 d) A5.own i0 Try.underlying23 hi hz0 hz1 hz2 u5 rfl (vL 10 m) ho5.src (A5.base hbase) L3.out ?_; intro v6 w6 ho6 hg6 hl6; have A6 := A5.trans (AppB.grow ho6 hg6 hl6))
    | (go_at_call 90; have hq := A4; clear hq; refine (HV.out m _ h3).mono ?_; rintro e w5 ⟨u5, rfl, ho5, hb5⟩; have A5 := A4.post hb5)
    | (at_builtin; have hq := A3; clear hq; refine OwnB.wpList_append rfl _ _ 23 23 rfl rfl (base := base) (v := v2) (l := l ++ vL 10 cm) A3.own i0 Try.underlying23 hi hz0 hz1 hz2 u3 rfl (vL 10 d) ho3.src (A3.base hbase) L2.out ?_; intro v4 w4 ho4 hg4 hl4; have A4 := A3.trans (AppB.grow ho4 hg4 hl4))
    | (go_at_call 90; have hq := A2; clear hq; refine (HV.out d _ hdl).mono ?_; rintro e w3 ⟨u3, rfl, ho3, hb3⟩; have A3 := A2.post hb3)
    | (at_builtin; have hq := A1; clear hq; refine OwnB.wpList_append rfl _ _ 23 23 rfl rfl (base := base) (v := bv) (l := l) A1.own i0 Try.underlying23 hi hz0 hz1 hz2 u1 rfl (vL 10 cm) ho1.src (A1.base hbase) L1.out ?_; intro v2 w2 ho2 hg2 hl2; have A2 := A1.trans (AppB.grow ho2 hg2 hl2))
    | (go_at_call 90; refine (HV.out cm _ hcl).mono ?_; rintro e w1 ⟨u1, rfl, ho1, hb1⟩; have A1 := A0.post hb1))
  go_ret
  refine ⟨_, rfl, ?_⟩
  rw [HT.out]
  exact A9
end Go.Proofs.Ytbnllobofndckaa
