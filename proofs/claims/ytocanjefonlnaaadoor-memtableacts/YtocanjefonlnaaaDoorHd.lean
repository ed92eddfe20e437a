import Derived.Test.YtocanjefonlnaaaDoorSe
namespace Go.Proofs.YtocanjefonlnaaaDoor
open Go.RowKit Go.Maps
set_option linter.unusedVariables false
set_option linter.unusedSimpArgs false
set_option maxRecDepth 100000 in
set_option maxHeartbeats 400000 in
theorem size_blk {w : World} {T : Nat} {C : Tc} {f : Nat → Value} (h : Blk w T 72 (tbC C f)) : Calls Tryd.prog 19 #[ptr T] w fun e w' => e = .returned (.int .i64 C.sz) ∧ w' = w := by
  have c := h.cell1 19 _ rfl
  go_enter Tryd.func19, Tryd.ntmps19
  go_wp2_with fail
  go_ret
  exact ⟨rfl, rfl⟩
set_option maxRecDepth 100000 in
set_option maxHeartbeats 400000 in
theorem first_blk {w : World} {T : Nat} {C : Tc} {f : Nat → Value} (h : Blk w T 72 (tbC C f)) : Calls Tryd.prog 29 #[ptr T] w fun e w' => e = .returned (.int .u64 C.fi) ∧ w' = w := by
  have c := h.cell1 20 _ rfl
  go_enter Tryd.func29, Tryd.ntmps29
  go_wp2_with fail
  go_ret
  exact ⟨rfl, rfl⟩
set_option maxRecDepth 100000 in
set_option maxHeartbeats 400000 in
theorem last_blk {w : World} {T : Nat} {C : Tc} {f : Nat → Value} (h : Blk w T 72 (tbC C f)) : Calls Tryd.prog 30 #[ptr T] w fun e w' => e = .returned (.int .u64 C.la) ∧ w' = w := by
  have c := h.cell1 21 _ rfl
  go_enter Tryd.func30, Tryd.ntmps30
  go_wp2_with fail
  go_ret
  exact ⟨rfl, rfl⟩
theorem size_tb {w : World} {T : Nat} {B : Nat → Prop} {how : Int} {st : Ms} (h : Tb w T B how st) : Calls Tryd.prog 19 #[ptr T] w fun e w' => e = .returned (.int .i64 st.sz) ∧ w' = w := by
  obtain ⟨C, L, _, h2, _, _, _, _, hS, _⟩ := h.ex
  rw [← h2]; exact size_blk hS.tab
theorem first_tb {w : World} {T : Nat} {B : Nat → Prop} {how : Int} {st : Ms} (h : Tb w T B how st) : Calls Tryd.prog 29 #[ptr T] w fun e w' => e = .returned (.int .u64 st.fi) ∧ w' = w := by
  obtain ⟨C, L, _, _, h2, _, _, _, hS, _⟩ := h.ex
  rw [← h2]; exact first_blk hS.tab
theorem last_tb {w : World} {T : Nat} {B : Nat → Prop} {how : Int} {st : Ms} (h : Tb w T B how st) : Calls Tryd.prog 30 #[ptr T] w fun e w' => e = .returned (.int .u64 st.la) ∧ w' = w := by
  obtain ⟨C, L, _, _, _, h2, _, _, hS, _⟩ := h.ex
  rw [← h2]; exact last_blk hS.tab
theorem rdt_src {w : World} {g : Nat} {l : List Tm} (h : ∀ (j : Nat) (t : Tm), l[j]? = some t → TAt w g (j * 3) t) : ∀ j u, (tcs l)[j]? = some u → w.cell? ((⟨g, 0, none⟩ : Addr).add j) = some u := by
  intro j u hu
  have hj : j < l.length * 3 := by rw [← tcs_len]; exact (List.getElem?_eq_some_iff.1 hu).1
  have hd : j / 3 < l.length := by omega
  have e : j = j / 3 * 3 + j % 3 := by omega
  have ht : l[j / 3]? = some l[j / 3] := List.getElem?_eq_getElem hd
  have hg := tcs_get l (j / 3) l[j / 3] ht (j % 3) (by omega)
  rw [← e, hu] at hg
  rw [add_at, Nat.zero_add]
  obtain ⟨h0, h1, h2⟩ := h (j / 3) l[j / 3] ht
  have : j % 3 = 0 ∨ j % 3 = 1 ∨ j % 3 = 2 := by omega
  rcases this with m | m | m <;> rw [m] at hg <;> simp [Tm.c] at hg <;> subst hg
  · rw [← h0]; congr 2; omega
  · rw [← h1]; congr 2; omega
  · rw [← h2]; congr 2; omega
set_option maxRecDepth 100000 in
set_option maxHeartbeats 1000000 in
/-- slices.Clone of tombstones. -/
theorem tclone_any {w : World} {v : Value} {l : List Tm} (h : RdT w v l) (hl : l.length ≤ 10000) :
    Calls Tryd.prog 38 #[v] w fun e w' => ∃ v', e = .returned v' ∧ w'.ownsRow 0 81 3 v' l.length (tcs l) ∧ Below w.heap.size w w' ∧ (∀ k, v'.ownBlock = some k → w.heap.size ≤ k) := by
  obtain ⟨i0, hi, hz0, hz1, hz2⟩ := info_parts info81
  rcases h with ⟨rfl, rfl⟩ | ⟨g, cap, rfl, hc⟩
  · have hq := Lib.run_eql_slice_nil (P := Tryd.prog) w 60 81 none 0 0 0 0 Tryd.underlying60
    go_enter Tryd.func38, Tryd.ntmps38
    go_wp2_with fail
    go_ret
    exact ⟨_, rfl, World.ownsRow_nil _ _ _ _, Below.refl _ _, fun k hk => by cases hk⟩
  · have hb0 : Below w.heap.size w (w.alloc (.cells #[] 81)) := (Below.refl _ _).alloc (Nat.le_refl _) _
    obtain ⟨v', w', hr, h2, h3, _, h5⟩ := run_append_own_at (P := Tryd.prog) (w.alloc (.cells #[] 81)) 0 60 60 81 i0 _ 3 40 Tryd.underlying60 hi hz0 hz1 hz2 rfl (by decide) (.slice (some ⟨w.heap.size, 0, none⟩) 0 0) 0 [] (World.ownsRow_made w #[] 0 (Nat.zero_le _) (by unfold maxLen; omega) rfl) ⟨g, 0, none⟩ l.length cap (tcs l) (tcs_len l) (rdt_src (fun j t hj => (hc j t hj).below hb0)) (tcs_one l) (by unfold maxLen; omega) (by omega) (Nat.zero_le _)
    simp only [Nat.zero_add, List.nil_append] at h2
    have HP : Hid (w'.ownsRow 0 81 3 v' l.length (tcs l) ∧ Below w.heap.size w w' ∧ (∀ k, v'.ownBlock = some k → w.heap.size ≤ k)) := by
      refine ⟨h2, ?_, fun k hk => ?_⟩
      · have u : Upd (fun k => k = w.heap.size) (w.alloc (.cells #[] 81)) w' := (Upd.refl _ _).grown h3 (fun k hk _ => by cases hk; rfl)
        exact hb0.trans (u.below (fun k hk => by simp; omega) (fun k e => by omega))
      · rcases h5 with e | e
        · have e' : v'.ownBlock = some w.heap.size := e
          rw [hk] at e'; cases e'; exact Nat.le_refl _
        · rw [hk] at e; cases e; simp
    have hq := Lib.run_eql_slice_nil (P := Tryd.prog) w 60 81 (some ⟨g, 0, none⟩) l.length cap 0 0 Tryd.underlying60
    clear h2 h3 h5 hi hz0 hz1 hz2 hc hb0
    generalize l.length = N at *
    go_enter Tryd.func38, Tryd.ntmps38
    go_wp2_with (at_builtin; refine Lib.wpList_append_run _ rfl _ _ _ _ rfl _ _ rfl rfl _ _ hr ?_)
    go_ret
    exact ⟨v', rfl, HP.out⟩
set_option maxRecDepth 100000 in
set_option maxHeartbeats 400000 in
theorem tombs_tb {w : World} {T : Nat} {B : Nat → Prop} {how : Int} {st : Ms} (h : Tb w T B how st) (hl : st.R.length ≤ 10000) :
    Calls Tryd.prog 21 #[ptr T] w fun e w' => ∃ v', e = .returned v' ∧ w'.ownsRow 0 81 3 v' st.R.length (tcs st.R) ∧ Below w.heap.size w w' ∧ (∀ k, v'.ownBlock = some k → w.heap.size ≤ k) := by
  obtain ⟨C, L, _, _, _, _, _, _, hS, hR, _⟩ := h.ex
  have c := hS.tab.cell1 18 _ rfl
  have HC := tclone_any (row_rdt hR) hl
  generalize C.rv = rv at *
  clear hS hR h
  go_enter Tryd.func21, Tryd.ntmps21
  go_wp2_with (go_at_call 38; refine HC.mono ?_; rintro e w1 ⟨v', rfl, h1, h2, h3⟩)
  go_ret
  exact ⟨v', rfl, h1, h2, h3⟩
set_option maxRecDepth 100000 in
set_option maxHeartbeats 1000000 in
theorem eq_tomb (W : World) (a b : Tm) : (binOp .neq 81 a.v b.v).run Tryd.prog W = .ok (.bool (!decide (a.b = b.b ∧ a.e = b.e ∧ a.s = b.s))) W := by
  have hf : Tryd.prog.underlying 81 = some (.struct (Tryd.prog.fieldsOf 81)) := by kernel_rfl
  obtain ⟨ab, ae, as_⟩ := a
  obtain ⟨bb, be, bs⟩ := b
  have h1 : ∀ w, (part 9 #[.string ab, .string ae, .int .u64 as_] 0).run Tryd.prog w = .ok (.string ab) w := fun w => by kernel_rfl
  have h2 : ∀ w, (part 9 #[.string ab, .string ae, .int .u64 as_] 1).run Tryd.prog w = .ok (.string ae) w := fun w => by kernel_rfl
  have h3 : ∀ w, (part 33 #[.string ab, .string ae, .int .u64 as_] 2).run Tryd.prog w = .ok (.int .u64 as_) w := fun w => by kernel_rfl
  have h1' : ∀ w, (part 9 #[.string bb, .string be, .int .u64 bs] 0).run Tryd.prog w = .ok (.string bb) w := fun w => by kernel_rfl
  have h2' : ∀ w, (part 9 #[.string bb, .string be, .int .u64 bs] 1).run Tryd.prog w = .ok (.string be) w := fun w => by kernel_rfl
  have h3' : ∀ w, (part 33 #[.string bb, .string be, .int .u64 bs] 2).run Tryd.prog w = .ok (.int .u64 bs) w := fun w => by kernel_rfl
  show (binOp .neq 81 (.agg #[.string ab, .string ae, .int .u64 as_]) (.agg #[.string bb, .string be, .int .u64 bs])).run Tryd.prog W = _
  rw [run_neq_struct, run_equalIn_agg W 9999 81 _ _ hf (by kernel_rfl)]
  have e9 : ∀ w a b, (Op.equalIn 9999 9 (.string a) (.string b)).run Tryd.prog w = .ok (a.toList == b.toList) w := fun w a b => run_equalIn_string w 9998 9 a b Tryd.underlying9
  have e33 : ∀ w a b, (Op.equalIn 9999 33 (.int .u64 a) (.int .u64 b)).run Tryd.prog w = .ok (a == b) w := fun w a b => run_equalIn_int w 9998 33 .u64 .u64 a b Tryd.underlying33
  simp only [Program.fieldsOf, Tryd.underlying81, Op.eqFields, Sem.run_bind, Sem.run_ite, Sem.run_pure, h1, h2, h3, h1', h2', h3', e9, e33, Result.andThen_ok, bytes_beq]
  by_cases a : ab = bb <;> by_cases b : ae = be <;> by_cases c : as_ = bs <;> simp [a, b, c, Result.andThen]
set_option maxRecDepth 100000 in
set_option maxHeartbeats 1000000 in
/-- Tombs at two slices that read the same. -/
theorem tombs_same {w : World} {v u : Value} {l : List Tm} (h1 : RdT w v l) (h2 : RdT w u l) (hl : l.length ≤ 10000) : Calls Tryd.prog 20 #[v, u] w fun e w' => e = .returned (.bool true) ∧ Below w.heap.size w w' := by
  have H1 : Hid (RdT w v l) := h1
  have H2 : Hid (RdT w u l) := h2
  obtain ⟨a, c, hv⟩ : ∃ a c, v = .slice a l.length c := by
    rcases h1 with ⟨rfl, rfl⟩ | ⟨g, cap, rfl, _⟩
    · exact ⟨_, _, rfl⟩
    · exact ⟨_, _, rfl⟩
  obtain ⟨a', c', hu⟩ : ∃ a c, u = .slice a l.length c := by
    rcases h2 with ⟨rfl, rfl⟩ | ⟨g, cap, rfl, _⟩
    · exact ⟨_, _, rfl⟩
    · exact ⟨_, _, rfl⟩
  obtain ⟨N, hN⟩ : ∃ N, Hid (N = l.length) := ⟨_, rfl⟩
  rw [← hN.out] at hv hu hl
  subst hv hu
  clear h1 h2
  go_enter Tryd.func20, Tryd.ntmps20
  go_wp2_with fail
  go_loopw [5] (fun i wr => ∃ k : Nat, k ≤ N ∧ i = .int .i64 k ∧ Hid (Below w.heap.size w wr)) (fun i _ => ((N : Int) - intOf i).toNat)
  case atStart => exact ⟨0, Nat.zero_le _, rfl, Below.refl _ _⟩
  case round =>
    obtain ⟨k, hk, rfl, HB⟩ := hrel
    rcases Nat.lt_or_ge k N with hkN | hkN
    · have hkz : (k : Int) < N := by omega
      obtain ⟨g, rfl, hat⟩ : ∃ g, a = some ⟨g, 0, none⟩ ∧ ∀ (j : Nat) (t : Tm), l[j]? = some t → TAt w g (j * 3) t := by
        rcases H1.out with ⟨e1, e2⟩ | ⟨g, cap, e1, e2⟩
        · have := hN.out; rw [e2] at this; simp at this; omega
        · cases e1; exact ⟨g, rfl, e2⟩
      obtain ⟨g', rfl, hat'⟩ : ∃ g, a' = some ⟨g, 0, none⟩ ∧ ∀ (j : Nat) (t : Tm), l[j]? = some t → TAt w g (j * 3) t := by
        rcases H2.out with ⟨e1, e2⟩ | ⟨g, cap, e1, e2⟩
        · have := hN.out; rw [e2] at this; simp at this; omega
        · cases e1; exact ⟨g, rfl, e2⟩
      obtain ⟨t, ht⟩ : ∃ t, l[k]? = some t := ⟨l[k]'(by rw [← hN.out]; omega), List.getElem?_eq_getElem _⟩
      have TA := (hat k t ht).below HB.out
      have TB := (hat' k t ht).below HB.out
      have t0 := TA.1
      have t1 := TA.2.1
      have t2 := TA.2.2
      have u0 := TB.1
      have u1 := TB.2.1
      have u2 := TB.2.2
      have hne : ∀ W : World, (binOp .neq 81 t.v t.v).run Tryd.prog W = .ok (.bool false) W := fun W => by rw [eq_tomb]; simp
      clear TA TB hat hat' ht
      go_wp2_with fail
      go_region
      go_wp2_with fail
      go_roundw
      case rel => exact ⟨k + 1, by omega, by go_num, HB.out.drew⟩
      case measure => simp [intOf]; omega
    · have hkz : ¬ ((k : Int) < N) := by omega
      go_wp2_with fail
      go_ret
      exact ⟨rfl, HB.out⟩
end Go.Proofs.YtocanjefonlnaaaDoor
