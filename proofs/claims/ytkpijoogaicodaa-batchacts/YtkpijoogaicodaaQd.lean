import Derived.Test.YtkpijoogaicodaaQc
namespace Go.Proofs.Ytkpijoogaicodaa
open Go.RowKit
set_option linter.unusedVariables false
set_option linter.unusedSimpArgs false

/-- What an error of the reference's record leaves. -/
def QErr (w : World) (qb : Nat) (c : Int) : Ending → World → Prop := fun e w' => (∃ f k key val, e = .returned (recV f k key val)) ∧ (c != 0) = true ∧ (∃ l', RdQ w' qb c l') ∧ Upd (At qb) w w'
set_option maxRecDepth 100000 in
set_option maxHeartbeats 2000000 in
theorem qrecord_del {w : World} {qb : Nat} {k : Int} {l1 l2 l3 key : List Int} {f : Int} (h : RdQ w qb 0 (k :: l1)) (hk0 : k = 0) (h2 : pVar 4294967295 l1 = .ok (f, l2)) (h3 : pText 1024 l2 = .ok (key, l3)) :
    Calls Try.prog 43 #[ptr qb] w fun e w' => e = .returned (recV f k (bstr key) ⟨#[]⟩) ∧ RdQ w' qb 0 l3 ∧ Upd (At qb) w w' := by
  have hkb := h.bytes k (by simp)
  obtain ⟨a, cap, hB, hA, hcap, hlt⟩ := h
  obtain ⟨b0, off0, rfl, cb, hb0⟩ := arg_head hA
  have Q0 := Qs.begin hB hA hcap hlt
  have c0 := hB.cell1 0 _ rfl
  have c1 := hB.cell1 1 _ rfl
  have f0 := hB.frozen 0
  have f1 := hB.frozen 1
  have lq := hB.lt
  have kk : ∀ W, (Instr.sliceAt 24 (.slice (some ⟨b0, off0, none⟩) (k :: l1).length cap) (some (.int .i64 1)) none none).run Try.prog W = .ok (.slice (cutBA (some ⟨b0, off0, none⟩) cap 1) ((k :: l1).length - 1) (cap - 1)) W := bcut_lo (some ⟨b0, off0, none⟩) (k :: l1).length cap 1 (by simp)
  have hl1 : ((k :: l1).length : Int) ≤ 140737488351232 := by have := hA.2.2.1; omega
  have hl2 : (1 : Int) ≤ ((k :: l1).length : Int) := by simp; omega
  have tl : (((k :: l1).length : Int) == 0) = false := by simp; omega
  generalize hLen : (k :: l1).length = len at *
  clear hA hB hlt hcap hLen
  have tk : (k != 0) = false := by simp [hk0]
  have tk2 : ¬ 2 < k := by omega
  clear hk0 c1 f1
  rcases pVar_cases 4294967295 l1 with ⟨v, s, hR, s1, s2, v0, v1, v2, hp'⟩ | ⟨v, s, hR, _, _, _, hp'⟩ | ⟨c, _, hR, hp'⟩
  · rw [h2] at hp'
    simp only [Except.ok.injEq, Prod.mk.injEq] at hp'
    obtain ⟨rfl, rfl⟩ := hp'
    have HV := fun W (hq : RdQ W qb 0 l1) => qvar_any hq f s 0 hR s2
    generalize l1.drop s = l2 at *
    clear h2 hR v1
    go_enter Try.func43, Try.ntmps43
    go_wp2_with (first
      | (go_at_call 64; refine (qtext_ok Q3.rd (by decide) (by decide) h3).mono ?_; rintro e w3 ⟨rfl, hq3, hu3⟩; clear z0 z1 z2 z3 z4 z5 z6 z7 z8 z9 z10 z11; have Q4 := Q3.read hq3 hu3; have Q5 := Q4.key (key' := bstr key); obtain ⟨z0, z1, z2, z3, z4, z5, z6, z7, z8, z9, z10, z11⟩ := Q4.cells)
      | (go_at_call 63; refine (HV _ Q0.rd).mono ?_; rintro e w2 ⟨rfl, hq2, hu2⟩; have Q2 := Q0.read hq2 hu2; have Q3 := Q2.fam (f' := f); obtain ⟨z0, z1, z2, z3, z4, z5, z6, z7, z8, z9, z10, z11⟩ := Q2.cells))
    refine bodyPost_ret (v := recV f k (bstr key) ⟨#[]⟩) (by simp [results, Try.results43, go_sem, *]) rfl ⟨rfl, ?_⟩
    exact Q5.four
  · rw [h2] at hp'; cases hp'
  · rw [h2] at hp'; cases hp'
set_option maxRecDepth 100000 in
set_option maxHeartbeats 2000000 in
theorem qrecord_nil {w : World} {qb : Nat} (h : RdQ w qb 0 []) : Calls Try.prog 43 #[ptr qb] w (QErr w qb 4) := by
  obtain ⟨a, cap, hB, hA, hcap, hlt⟩ := h
  have c0 : w.cell? ⟨qb, 0, none⟩ = some (.slice a 0 cap) := hB.cell1 0 _ rfl
  have c1 := hB.cell1 1 _ rfl
  have f1 := hB.frozen 1
  have lq := hB.lt
  go_enter Try.func43, Try.ntmps43
  go_wp2
  have hz := rdq_why (why' := 4) hB hA hcap hlt
  have Q : RdQ ((w.setCell ⟨qb, 1, none⟩ (.int .i64 4)).alloc (.cells #[.int .u32 0, .int .i64 0, .string ⟨#[]⟩, .string ⟨#[]⟩] 31)) qb 4 [] := hz.1.alloc _
  refine bodyPost_ret (v := recV 0 0 ⟨#[]⟩ ⟨#[]⟩) (by simp [results, Try.results43, go_sem, *]) rfl ⟨⟨_, _, _, _, rfl⟩, rfl, ⟨[], ?_⟩, ?_⟩
  · exact Q
  · exact hz.2.alloc _
theorem rdq_both {w : World} {qb : Nat} {k : Int} {l1 : List Int} {a : Option Addr} {cap : Nat} (why' : Int) (hB : Blk w qb 73 [.slice a (k :: l1).length cap, .int .i64 0]) (hA : Arg w a (k :: l1).length cap (k :: l1)) (hcap : (k :: l1).length ≤ cap) (hlt : ∀ k', Value.ownBlock (.slice a (k :: l1).length cap) = some k' → k' < qb) :
    RdQ ((w.setCell ⟨qb, 0, none⟩ (.slice (cutBA a cap 1) ((k :: l1).length - 1) (cap - 1))).setCell ⟨qb, 1, none⟩ (.int .i64 why')) qb why' l1 ∧ Upd (At qb) w ((w.setCell ⟨qb, 0, none⟩ (.slice (cutBA a cap 1) ((k :: l1).length - 1) (cap - 1))).setCell ⟨qb, 1, none⟩ (.int .i64 why')) := by
  have hz := rdq_cut hB hA hcap hlt 1 (by simp)
  obtain ⟨a', cap', h1, h2, h3, h4⟩ := hz.1
  have hy := rdq_why (why' := why') h1 h2 h3 h4
  exact ⟨hy.1, hz.2.trans hy.2⟩
set_option maxRecDepth 100000 in
set_option maxHeartbeats 2000000 in
theorem qrecord_kind {w : World} {qb : Nat} {k : Int} {l1 : List Int} (h : RdQ w qb 0 (k :: l1)) (hk : 2 < k) : Calls Try.prog 43 #[ptr qb] w (QErr w qb 3) := by
  have hkb := h.bytes k (by simp)
  obtain ⟨a, cap, hB, hA, hcap, hlt⟩ := h
  obtain ⟨b0, off0, rfl, cb, hb0⟩ := arg_head hA
  have Q0 := Qs.begin hB hA hcap hlt
  have c0 := hB.cell1 0 _ rfl
  have c1 := hB.cell1 1 _ rfl
  have f0 := hB.frozen 0
  have f1 := hB.frozen 1
  have lq := hB.lt
  have kk : ∀ W, (Instr.sliceAt 24 (.slice (some ⟨b0, off0, none⟩) (k :: l1).length cap) (some (.int .i64 1)) none none).run Try.prog W = .ok (.slice (cutBA (some ⟨b0, off0, none⟩) cap 1) ((k :: l1).length - 1) (cap - 1)) W := bcut_lo (some ⟨b0, off0, none⟩) (k :: l1).length cap 1 (by simp)
  have hl1 : ((k :: l1).length : Int) ≤ 140737488351232 := by have := hA.2.2.1; omega
  have hl2 : (1 : Int) ≤ ((k :: l1).length : Int) := by simp; omega
  have tl : (((k :: l1).length : Int) == 0) = false := by simp; omega
  have RB := rdq_both 3 hB hA hcap hlt
  generalize hLen : (k :: l1).length = len at *
  clear hA hB hlt hcap hLen
  clear Q0
  go_enter Try.func43, Try.ntmps43
  go_wp2
  refine bodyPost_ret (v := recV 0 k ⟨#[]⟩ ⟨#[]⟩) (by simp [results, Try.results43, go_sem, *]) rfl ⟨⟨_, _, _, _, rfl⟩, rfl, ⟨l1, ?_⟩, ?_⟩
  · exact (RB.1.alloc _).alloc _
  · exact (RB.2.alloc _).alloc _
set_option maxRecDepth 100000 in
set_option maxHeartbeats 2000000 in
theorem qrecord_var0 {w : World} {qb : Nat} {k c : Int} {l1 : List Int} (h : RdQ w qb 0 (k :: l1)) (hk2 : ¬ 2 < k) (hk0 : k = 0) (hc : c = 3 ∨ c = 4) (hR : rvG l1 0 0 = (0, 0, c)) : Calls Try.prog 43 #[ptr qb] w (QErr w qb c) := by
  have hkb := h.bytes k (by simp)
  obtain ⟨a, cap, hB, hA, hcap, hlt⟩ := h
  obtain ⟨b0, off0, rfl, cb, hb0⟩ := arg_head hA
  have Q0 := Qs.begin hB hA hcap hlt
  have c0 := hB.cell1 0 _ rfl
  have c1 := hB.cell1 1 _ rfl
  have f0 := hB.frozen 0
  have f1 := hB.frozen 1
  have lq := hB.lt
  have kk : ∀ W, (Instr.sliceAt 24 (.slice (some ⟨b0, off0, none⟩) (k :: l1).length cap) (some (.int .i64 1)) none none).run Try.prog W = .ok (.slice (cutBA (some ⟨b0, off0, none⟩) cap 1) ((k :: l1).length - 1) (cap - 1)) W := bcut_lo (some ⟨b0, off0, none⟩) (k :: l1).length cap 1 (by simp)
  have hl1 : ((k :: l1).length : Int) ≤ 140737488351232 := by have := hA.2.2.1; omega
  have hl2 : (1 : Int) ≤ ((k :: l1).length : Int) := by simp; omega
  have tl : (((k :: l1).length : Int) == 0) = false := by simp; omega
  generalize hLen : (k :: l1).length = len at *
  clear hA hB hlt hcap hLen
  have tk : (k != 0) = false := by simp [hk0]
  have tc := bne0 hc
  have tc' : (c == 0) = false := by simpa using tc
  have HV := fun W (hq : RdQ W qb 0 l1) => qvar_any hq 0 0 c hR (Nat.zero_le _)
  generalize l1.drop 0 = l2 at *
  clear hR hc c1 f1
  clear hk0
  go_enter Try.func43, Try.ntmps43
  go_wp2_with (first
    | (go_at_call 64; refine (qtext_bad Q3.rd tc).mono ?_; rintro e w3 ⟨rfl, rfl⟩; have Q5 := Q3.key (key' := ⟨#[]⟩))
    | (go_at_call 63; refine (HV _ Q0.rd).mono ?_; rintro e w2 ⟨rfl, hq2, hu2⟩; have Q2 := Q0.read hq2 hu2; have Q3 := Q2.fam (f' := 0); obtain ⟨z0, z1, z2, z3, z4, z5, z6, z7, z8, z9, z10, z11⟩ := Q2.cells))
  refine bodyPost_ret (v := recV 0 k ⟨#[]⟩ ⟨#[]⟩) (by simp [results, Try.results43, go_sem, *]) rfl ⟨⟨_, _, _, _, rfl⟩, tc, ⟨l2, Q5.four.1⟩, Q5.four.2⟩
set_option maxRecDepth 100000 in
set_option maxHeartbeats 2000000 in
theorem qrecord_var1 {w : World} {qb : Nat} {k c : Int} {l1 : List Int} (h : RdQ w qb 0 (k :: l1)) (hk2 : ¬ 2 < k) (hk0 : ¬ k = 0) (hc : c = 3 ∨ c = 4) (hR : rvG l1 0 0 = (0, 0, c)) : Calls Try.prog 43 #[ptr qb] w (QErr w qb c) := by
  have hkb := h.bytes k (by simp)
  obtain ⟨a, cap, hB, hA, hcap, hlt⟩ := h
  obtain ⟨b0, off0, rfl, cb, hb0⟩ := arg_head hA
  have Q0 := Qs.begin hB hA hcap hlt
  have c0 := hB.cell1 0 _ rfl
  have c1 := hB.cell1 1 _ rfl
  have f0 := hB.frozen 0
  have f1 := hB.frozen 1
  have lq := hB.lt
  have kk : ∀ W, (Instr.sliceAt 24 (.slice (some ⟨b0, off0, none⟩) (k :: l1).length cap) (some (.int .i64 1)) none none).run Try.prog W = .ok (.slice (cutBA (some ⟨b0, off0, none⟩) cap 1) ((k :: l1).length - 1) (cap - 1)) W := bcut_lo (some ⟨b0, off0, none⟩) (k :: l1).length cap 1 (by simp)
  have hl1 : ((k :: l1).length : Int) ≤ 140737488351232 := by have := hA.2.2.1; omega
  have hl2 : (1 : Int) ≤ ((k :: l1).length : Int) := by simp; omega
  have tl : (((k :: l1).length : Int) == 0) = false := by simp; omega
  generalize hLen : (k :: l1).length = len at *
  clear hA hB hlt hcap hLen
  have tk : (k != 0) = true := by simp [hk0]
  have tc := bne0 hc
  have tc' : (c == 0) = false := by simpa using tc
  have HV := fun W (hq : RdQ W qb 0 l1) => qvar_any hq 0 0 c hR (Nat.zero_le _)
  generalize l1.drop 0 = l2 at *
  clear hR hc c1 f1
  have k1 : 1 ≤ k := by omega
  have k2 : k ≤ 2 := by omega
  clear hk0
  go_enter Try.func43, Try.ntmps43
  go_wp2_with (first
    | (go_at_call 64; refine (qtext_bad Q5.rd tc).mono ?_; rintro e w4 ⟨rfl, rfl⟩)
    | (go_at_call 38; refine (most_any k _ k1 k2).mono ?_; rintro e w' ⟨rfl, rfl⟩)
    | (go_at_call 64; refine (qtext_bad Q3.rd tc).mono ?_; rintro e w3 ⟨rfl, rfl⟩; have Q5 := Q3.key (key' := ⟨#[]⟩))
    | (go_at_call 63; refine (HV _ Q0.rd).mono ?_; rintro e w2 ⟨rfl, hq2, hu2⟩; have Q2 := Q0.read hq2 hu2; have Q3 := Q2.fam (f' := 0); obtain ⟨z0, z1, z2, z3, z4, z5, z6, z7, z8, z9, z10, z11⟩ := Q2.cells))
  have Q6 := Q5.val (val' := ⟨#[]⟩)
  refine bodyPost_ret (v := recV 0 k ⟨#[]⟩ ⟨#[]⟩) (by simp [results, Try.results43, go_sem, *]) rfl ⟨⟨_, _, _, _, rfl⟩, tc, ⟨l2, Q6.four.1⟩, Q6.four.2⟩
set_option maxRecDepth 100000 in
set_option maxHeartbeats 2000000 in
theorem qrecord_fam0 {w : World} {qb : Nat} {k c : Int} {l1 : List Int} (h : RdQ w qb 0 (k :: l1)) (hk2 : ¬ 2 < k) (hk0 : k = 0) {v : Int} {s : Nat} (hc : c = 3) (hR : rvG l1 0 0 = (v, (s : Int), 0)) (v2 : 4294967295 < v) (v1 : v < 18446744073709551616) (s2 : s ≤ l1.length) : Calls Try.prog 43 #[ptr qb] w (QErr w qb c) := by
  have hkb := h.bytes k (by simp)
  obtain ⟨a, cap, hB, hA, hcap, hlt⟩ := h
  obtain ⟨b0, off0, rfl, cb, hb0⟩ := arg_head hA
  have Q0 := Qs.begin hB hA hcap hlt
  have c0 := hB.cell1 0 _ rfl
  have c1 := hB.cell1 1 _ rfl
  have f0 := hB.frozen 0
  have f1 := hB.frozen 1
  have lq := hB.lt
  have kk : ∀ W, (Instr.sliceAt 24 (.slice (some ⟨b0, off0, none⟩) (k :: l1).length cap) (some (.int .i64 1)) none none).run Try.prog W = .ok (.slice (cutBA (some ⟨b0, off0, none⟩) cap 1) ((k :: l1).length - 1) (cap - 1)) W := bcut_lo (some ⟨b0, off0, none⟩) (k :: l1).length cap 1 (by simp)
  have hl1 : ((k :: l1).length : Int) ≤ 140737488351232 := by have := hA.2.2.1; omega
  have hl2 : (1 : Int) ≤ ((k :: l1).length : Int) := by simp; omega
  have tl : (((k :: l1).length : Int) == 0) = false := by simp; omega
  generalize hLen : (k :: l1).length = len at *
  clear hA hB hlt hcap hLen
  have tk : (k != 0) = false := by simp [hk0]
  subst hc
  have HV := fun W (hq : RdQ W qb 0 l1) => qvar_any hq v s 0 hR s2
  generalize l1.drop s = l2 at *
  clear hR c1 f1 s2
  clear hk0
  go_enter Try.func43, Try.ntmps43
  go_wp2_with (first
    | (go_at_call 64; refine (qtext_bad Q3.rd rfl).mono ?_; rintro e w3 ⟨rfl, rfl⟩; have Q5 := Q3.key (key' := ⟨#[]⟩))
    | (go_at_call 63; refine (HV _ Q0.rd).mono ?_; rintro e w2 ⟨rfl, hq2, hu2⟩; have Q2 := Q0.read hq2 hu2; have Q3 := (Q2.why (why' := 3)).fam (f' := (v % 4294967296)); obtain ⟨z0, z1, z2, z3, z4, z5, z6, z7, z8, z9, z10, z11⟩ := Q2.cells))
  refine bodyPost_ret (v := recV (v % 4294967296) k ⟨#[]⟩ ⟨#[]⟩) (by simp [results, Try.results43, go_sem, *]) rfl ⟨⟨_, _, _, _, rfl⟩, rfl, ⟨l2, Q5.four.1⟩, Q5.four.2⟩
set_option maxRecDepth 100000 in
set_option maxHeartbeats 2000000 in
theorem qrecord_fam1 {w : World} {qb : Nat} {k c : Int} {l1 : List Int} (h : RdQ w qb 0 (k :: l1)) (hk2 : ¬ 2 < k) (hk0 : ¬ k = 0) {v : Int} {s : Nat} (hc : c = 3) (hR : rvG l1 0 0 = (v, (s : Int), 0)) (v2 : 4294967295 < v) (v1 : v < 18446744073709551616) (s2 : s ≤ l1.length) : Calls Try.prog 43 #[ptr qb] w (QErr w qb c) := by
  have hkb := h.bytes k (by simp)
  obtain ⟨a, cap, hB, hA, hcap, hlt⟩ := h
  obtain ⟨b0, off0, rfl, cb, hb0⟩ := arg_head hA
  have Q0 := Qs.begin hB hA hcap hlt
  have c0 := hB.cell1 0 _ rfl
  have c1 := hB.cell1 1 _ rfl
  have f0 := hB.frozen 0
  have f1 := hB.frozen 1
  have lq := hB.lt
  have kk : ∀ W, (Instr.sliceAt 24 (.slice (some ⟨b0, off0, none⟩) (k :: l1).length cap) (some (.int .i64 1)) none none).run Try.prog W = .ok (.slice (cutBA (some ⟨b0, off0, none⟩) cap 1) ((k :: l1).length - 1) (cap - 1)) W := bcut_lo (some ⟨b0, off0, none⟩) (k :: l1).length cap 1 (by simp)
  have hl1 : ((k :: l1).length : Int) ≤ 140737488351232 := by have := hA.2.2.1; omega
  have hl2 : (1 : Int) ≤ ((k :: l1).length : Int) := by simp; omega
  have tl : (((k :: l1).length : Int) == 0) = false := by simp; omega
  generalize hLen : (k :: l1).length = len at *
  clear hA hB hlt hcap hLen
  have tk : (k != 0) = true := by simp [hk0]
  subst hc
  have HV := fun W (hq : RdQ W qb 0 l1) => qvar_any hq v s 0 hR s2
  generalize l1.drop s = l2 at *
  clear hR c1 f1 s2
  have k1 : 1 ≤ k := by omega
  have k2 : k ≤ 2 := by omega
  clear hk0
  go_enter Try.func43, Try.ntmps43
  go_wp2_with (first
    | (go_at_call 64; refine (qtext_bad Q5.rd rfl).mono ?_; rintro e w4 ⟨rfl, rfl⟩)
    | (go_at_call 38; refine (most_any k _ k1 k2).mono ?_; rintro e w' ⟨rfl, rfl⟩)
    | (go_at_call 64; refine (qtext_bad Q3.rd rfl).mono ?_; rintro e w3 ⟨rfl, rfl⟩; have Q5 := Q3.key (key' := ⟨#[]⟩))
    | (go_at_call 63; refine (HV _ Q0.rd).mono ?_; rintro e w2 ⟨rfl, hq2, hu2⟩; have Q2 := Q0.read hq2 hu2; have Q3 := (Q2.why (why' := 3)).fam (f' := (v % 4294967296)); obtain ⟨z0, z1, z2, z3, z4, z5, z6, z7, z8, z9, z10, z11⟩ := Q2.cells))
  have Q6 := Q5.val (val' := ⟨#[]⟩)
  refine bodyPost_ret (v := recV (v % 4294967296) k ⟨#[]⟩ ⟨#[]⟩) (by simp [results, Try.results43, go_sem, *]) rfl ⟨⟨_, _, _, _, rfl⟩, rfl, ⟨l2, Q6.four.1⟩, Q6.four.2⟩
set_option maxRecDepth 100000 in
set_option maxHeartbeats 2000000 in
theorem qrecord_key0 {w : World} {qb : Nat} {k c f : Int} {l1 l2 : List Int} (h : RdQ w qb 0 (k :: l1)) (hk2 : ¬ 2 < k) (hk0 : k = 0) (h2 : pVar 4294967295 l1 = .ok (f, l2)) (h3 : pText 1024 l2 = .error c) : Calls Try.prog 43 #[ptr qb] w (QErr w qb c) := by
  have hkb := h.bytes k (by simp)
  obtain ⟨a, cap, hB, hA, hcap, hlt⟩ := h
  obtain ⟨b0, off0, rfl, cb, hb0⟩ := arg_head hA
  have Q0 := Qs.begin hB hA hcap hlt
  have c0 := hB.cell1 0 _ rfl
  have c1 := hB.cell1 1 _ rfl
  have f0 := hB.frozen 0
  have f1 := hB.frozen 1
  have lq := hB.lt
  have kk : ∀ W, (Instr.sliceAt 24 (.slice (some ⟨b0, off0, none⟩) (k :: l1).length cap) (some (.int .i64 1)) none none).run Try.prog W = .ok (.slice (cutBA (some ⟨b0, off0, none⟩) cap 1) ((k :: l1).length - 1) (cap - 1)) W := bcut_lo (some ⟨b0, off0, none⟩) (k :: l1).length cap 1 (by simp)
  have hl1 : ((k :: l1).length : Int) ≤ 140737488351232 := by have := hA.2.2.1; omega
  have hl2 : (1 : Int) ≤ ((k :: l1).length : Int) := by simp; omega
  have tl : (((k :: l1).length : Int) == 0) = false := by simp; omega
  generalize hLen : (k :: l1).length = len at *
  clear hA hB hlt hcap hLen
  have tk : (k != 0) = false := by simp [hk0]
  rcases pVar_cases 4294967295 l1 with ⟨v, s, hR, s1, s2, v0, v1, v2, hp'⟩ | ⟨v, s, hR, _, _, _, hp'⟩ | ⟨c, _, hR, hp'⟩
  · rw [h2] at hp'
    simp only [Except.ok.injEq, Prod.mk.injEq] at hp'
    obtain ⟨rfl, rfl⟩ := hp'
    have HV := fun W (hq : RdQ W qb 0 l1) => qvar_any hq f s 0 hR s2
    generalize l1.drop s = l2 at *
    clear h2 hR v1 hk0 c1 f1
    go_enter Try.func43, Try.ntmps43
    go_wp2_with (first
      | (go_at_call 64; refine (qtext_err Q3.rd (by decide) (by decide) h3).mono ?_; rintro e w3 ⟨rfl, tc, ⟨l3, hq3⟩, hu3⟩; clear z0 z1 z2 z3 z4 z5 z6 z7 z8 z9 z10 z11; have Q4 := Q3.read hq3 hu3; have Q5 := Q4.key (key' := ⟨#[]⟩); obtain ⟨z0, z1, z2, z3, z4, z5, z6, z7, z8, z9, z10, z11⟩ := Q4.cells)
      | (go_at_call 63; refine (HV _ Q0.rd).mono ?_; rintro e w2 ⟨rfl, hq2, hu2⟩; have Q2 := Q0.read hq2 hu2; have Q3 := Q2.fam (f' := f); obtain ⟨z0, z1, z2, z3, z4, z5, z6, z7, z8, z9, z10, z11⟩ := Q2.cells))
    exact bodyPost_ret (v := recV f k ⟨#[]⟩ ⟨#[]⟩) (by simp [results, Try.results43, go_sem, *]) rfl ⟨⟨_, _, _, _, rfl⟩, tc, ⟨l3, Q5.four.1⟩, Q5.four.2⟩
  · rw [h2] at hp'; cases hp'
  · rw [h2] at hp'; cases hp'
set_option maxRecDepth 100000 in
set_option maxHeartbeats 2000000 in
theorem qrecord_key1 {w : World} {qb : Nat} {k c f : Int} {l1 l2 : List Int} (h : RdQ w qb 0 (k :: l1)) (hk2 : ¬ 2 < k) (hk0 : ¬ k = 0) (h2 : pVar 4294967295 l1 = .ok (f, l2)) (h3 : pText 1024 l2 = .error c) : Calls Try.prog 43 #[ptr qb] w (QErr w qb c) := by
  have hkb := h.bytes k (by simp)
  obtain ⟨a, cap, hB, hA, hcap, hlt⟩ := h
  obtain ⟨b0, off0, rfl, cb, hb0⟩ := arg_head hA
  have Q0 := Qs.begin hB hA hcap hlt
  have c0 := hB.cell1 0 _ rfl
  have c1 := hB.cell1 1 _ rfl
  have f0 := hB.frozen 0
  have f1 := hB.frozen 1
  have lq := hB.lt
  have kk : ∀ W, (Instr.sliceAt 24 (.slice (some ⟨b0, off0, none⟩) (k :: l1).length cap) (some (.int .i64 1)) none none).run Try.prog W = .ok (.slice (cutBA (some ⟨b0, off0, none⟩) cap 1) ((k :: l1).length - 1) (cap - 1)) W := bcut_lo (some ⟨b0, off0, none⟩) (k :: l1).length cap 1 (by simp)
  have hl1 : ((k :: l1).length : Int) ≤ 140737488351232 := by have := hA.2.2.1; omega
  have hl2 : (1 : Int) ≤ ((k :: l1).length : Int) := by simp; omega
  have tl : (((k :: l1).length : Int) == 0) = false := by simp; omega
  generalize hLen : (k :: l1).length = len at *
  clear hA hB hlt hcap hLen
  have tk : (k != 0) = true := by simp [hk0]
  rcases pVar_cases 4294967295 l1 with ⟨v, s, hR, s1, s2, v0, v1, v2, hp'⟩ | ⟨v, s, hR, _, _, _, hp'⟩ | ⟨c, _, hR, hp'⟩
  · rw [h2] at hp'
    simp only [Except.ok.injEq, Prod.mk.injEq] at hp'
    obtain ⟨rfl, rfl⟩ := hp'
    have HV := fun W (hq : RdQ W qb 0 l1) => qvar_any hq f s 0 hR s2
    generalize l1.drop s = l2 at *
    have k1 : 1 ≤ k := by omega
    have k2 : k ≤ 2 := by omega
    clear h2 hR v1 hk0 c1 f1
    go_enter Try.func43, Try.ntmps43
    go_wp2_with (first
      | (go_at_call 64; refine (qtext_bad Q5.rd tc).mono ?_; rintro e w4 ⟨rfl, rfl⟩)
      | (go_at_call 38; refine (most_any k _ k1 k2).mono ?_; rintro e w' ⟨rfl, rfl⟩)
      | (go_at_call 64; refine (qtext_err Q3.rd (by decide) (by decide) h3).mono ?_; rintro e w3 ⟨rfl, tc, ⟨l3, hq3⟩, hu3⟩; clear z0 z1 z2 z3 z4 z5 z6 z7 z8 z9 z10 z11; have Q4 := Q3.read hq3 hu3; have Q5 := Q4.key (key' := ⟨#[]⟩); obtain ⟨z0, z1, z2, z3, z4, z5, z6, z7, z8, z9, z10, z11⟩ := Q4.cells)
      | (go_at_call 63; refine (HV _ Q0.rd).mono ?_; rintro e w2 ⟨rfl, hq2, hu2⟩; have Q2 := Q0.read hq2 hu2; have Q3 := Q2.fam (f' := f); obtain ⟨z0, z1, z2, z3, z4, z5, z6, z7, z8, z9, z10, z11⟩ := Q2.cells))
    have Q6 := Q5.val (val' := ⟨#[]⟩)
    exact bodyPost_ret (v := recV f k ⟨#[]⟩ ⟨#[]⟩) (by simp [results, Try.results43, go_sem, *]) rfl ⟨⟨_, _, _, _, rfl⟩, tc, ⟨l3, Q6.four.1⟩, Q6.four.2⟩
  · rw [h2] at hp'; cases hp'
  · rw [h2] at hp'; cases hp'
set_option maxRecDepth 100000 in
set_option maxHeartbeats 2000000 in
theorem qrecord_val {w : World} {qb : Nat} {k c f : Int} {l1 l2 l3 key : List Int} (h : RdQ w qb 0 (k :: l1)) (hk2 : ¬ 2 < k) (hk0 : ¬ k = 0) (h2 : pVar 4294967295 l1 = .ok (f, l2)) (h3 : pText 1024 l2 = .ok (key, l3)) (h4 : pText (mostV k) l3 = .error c) : Calls Try.prog 43 #[ptr qb] w (QErr w qb c) := by
  have hkb := h.bytes k (by simp)
  obtain ⟨a, cap, hB, hA, hcap, hlt⟩ := h
  obtain ⟨b0, off0, rfl, cb, hb0⟩ := arg_head hA
  have Q0 := Qs.begin hB hA hcap hlt
  have c0 := hB.cell1 0 _ rfl
  have c1 := hB.cell1 1 _ rfl
  have f0 := hB.frozen 0
  have f1 := hB.frozen 1
  have lq := hB.lt
  have kk : ∀ W, (Instr.sliceAt 24 (.slice (some ⟨b0, off0, none⟩) (k :: l1).length cap) (some (.int .i64 1)) none none).run Try.prog W = .ok (.slice (cutBA (some ⟨b0, off0, none⟩) cap 1) ((k :: l1).length - 1) (cap - 1)) W := bcut_lo (some ⟨b0, off0, none⟩) (k :: l1).length cap 1 (by simp)
  have hl1 : ((k :: l1).length : Int) ≤ 140737488351232 := by have := hA.2.2.1; omega
  have hl2 : (1 : Int) ≤ ((k :: l1).length : Int) := by simp; omega
  have tl : (((k :: l1).length : Int) == 0) = false := by simp; omega
  generalize hLen : (k :: l1).length = len at *
  clear hA hB hlt hcap hLen
  have tk : (k != 0) = true := by simp [hk0]
  have hm := mostV_bd k
  rcases pVar_cases 4294967295 l1 with ⟨v, s, hR, s1, s2, v0, v1, v2, hp'⟩ | ⟨v, s, hR, _, _, _, hp'⟩ | ⟨c, _, hR, hp'⟩
  · rw [h2] at hp'
    simp only [Except.ok.injEq, Prod.mk.injEq] at hp'
    obtain ⟨rfl, rfl⟩ := hp'
    have HV := fun W (hq : RdQ W qb 0 l1) => qvar_any hq f s 0 hR s2
    generalize l1.drop s = l2 at *
    have k1 : 1 ≤ k := by omega
    have k2 : k ≤ 2 := by omega
    clear h2 hR v1 hk0 c1 f1
    go_enter Try.func43, Try.ntmps43
    go_wp2_with (first
      | (go_at_call 64; refine (qtext_err Q5.rd hm.1 hm.2 h4).mono ?_; rintro e w4 ⟨rfl, tc, ⟨l4, hq4⟩, hu4⟩; clear z0 z1 z2 z3 z4 z5 z6 z7 z8 z9 z10 z11; have Q6 := Q5.read hq4 hu4; obtain ⟨z0, z1, z2, z3, z4, z5, z6, z7, z8, z9, z10, z11⟩ := Q6.cells)
      | (go_at_call 38; refine (most_any k _ k1 k2).mono ?_; rintro e w' ⟨rfl, rfl⟩)
      | (go_at_call 64; refine (qtext_ok Q3.rd (by decide) (by decide) h3).mono ?_; rintro e w3 ⟨rfl, hq3, hu3⟩; clear z0 z1 z2 z3 z4 z5 z6 z7 z8 z9 z10 z11; have Q4 := Q3.read hq3 hu3; have Q5 := Q4.key (key' := bstr key); obtain ⟨z0, z1, z2, z3, z4, z5, z6, z7, z8, z9, z10, z11⟩ := Q4.cells)
      | (go_at_call 63; refine (HV _ Q0.rd).mono ?_; rintro e w2 ⟨rfl, hq2, hu2⟩; have Q2 := Q0.read hq2 hu2; have Q3 := Q2.fam (f' := f); obtain ⟨z0, z1, z2, z3, z4, z5, z6, z7, z8, z9, z10, z11⟩ := Q2.cells))
    have Q7 := Q6.val (val' := ⟨#[]⟩)
    exact bodyPost_ret (v := recV f k (bstr key) ⟨#[]⟩) (by simp [results, Try.results43, go_sem, *]) rfl ⟨⟨_, _, _, _, rfl⟩, tc, ⟨l4, Q7.four.1⟩, Q7.four.2⟩
  · rw [h2] at hp'; cases hp'
  · rw [h2] at hp'; cases hp'
theorem qrecord_err {w : World} {qb : Nat} {l : List Int} {c : Int} (h : RdQ w qb 0 l) (hp : pRec l = .error c) : Calls Try.prog 43 #[ptr qb] w (QErr w qb c) := by
  cases l with
  | nil => cases hp; exact qrecord_nil h
  | cons k l1 =>
    unfold pRec at hp
    dsimp only at hp
    by_cases hk : 2 < k
    · rw [if_pos hk] at hp; cases hp; exact qrecord_kind h hk
    · rw [if_neg hk] at hp
      cases h2 : pVar 4294967295 l1 with
      | error c2 =>
        rw [h2] at hp
        cases hp
        rcases pVar_cases 4294967295 l1 with ⟨v, s, hR, s1, s2, v0, v1, v2, hp'⟩ | ⟨v, s, hR, v2, v0, v1, hp'⟩ | ⟨c', hc', hR, hp'⟩
        · rw [h2] at hp'; cases hp'
        · rw [h2] at hp'
          cases hp'
          have s2 : s ≤ l1.length := by
            rcases rvG_cases l1 0 0 with ⟨v', s', h', _, h2, _⟩ | h' | h'
            · rw [hR] at h'; simp only [Prod.mk.injEq] at h'; omega
            · rw [hR] at h'; simp at h'
            · rw [hR] at h'; simp at h'
          by_cases hk0 : k = 0
          · exact qrecord_fam0 h hk hk0 rfl hR v2 v1 s2
          · exact qrecord_fam1 h hk hk0 rfl hR v2 v1 s2
        · rw [h2] at hp'
          cases hp'
          by_cases hk0 : k = 0
          · exact qrecord_var0 h hk hk0 hc' hR
          · exact qrecord_var1 h hk hk0 hc' hR
      | ok x2 =>
        obtain ⟨f, l2⟩ := x2
        rw [h2] at hp
        dsimp only at hp
        cases h3 : pText 1024 l2 with
        | error c3 =>
          rw [h3] at hp
          cases hp
          by_cases hk0 : k = 0
          · exact qrecord_key0 h hk hk0 h2 h3
          · exact qrecord_key1 h hk hk0 h2 h3
        | ok x3 =>
          obtain ⟨key, l3⟩ := x3
          rw [h3] at hp
          dsimp only at hp
          by_cases hk0 : k = 0
          · rw [if_pos hk0] at hp; cases hp
          · rw [if_neg hk0] at hp
            cases h4 : pText (mostV k) l3 with
            | error c4 => rw [h4] at hp; cases hp; exact qrecord_val h hk hk0 h2 h3 h4
            | ok x4 => obtain ⟨val, l4⟩ := x4; rw [h4] at hp; cases hp
theorem qrecord_ok {w : World} {qb : Nat} {l l' : List Int} {r : Rec} (h : RdQ w qb 0 l) (hp : pRec l = .ok (r, l')) :
    Calls Try.prog 43 #[ptr qb] w fun e w' => e = .returned (recV r.fam r.kind r.key r.val) ∧ RdQ w' qb 0 l' ∧ Upd (At qb) w w' := by
  cases l with
  | nil => cases hp
  | cons k l1 =>
    unfold pRec at hp
    dsimp only at hp
    by_cases hk : 2 < k
    · rw [if_pos hk] at hp; cases hp
    · rw [if_neg hk] at hp
      cases h2 : pVar 4294967295 l1 with
      | error c2 => rw [h2] at hp; cases hp
      | ok x2 =>
        obtain ⟨f, l2⟩ := x2
        rw [h2] at hp
        dsimp only at hp
        cases h3 : pText 1024 l2 with
        | error c3 => rw [h3] at hp; cases hp
        | ok x3 =>
          obtain ⟨key, l3⟩ := x3
          rw [h3] at hp
          dsimp only at hp
          by_cases hk0 : k = 0
          · rw [if_pos hk0] at hp
            cases hp
            exact qrecord_del h hk0 h2 h3
          · rw [if_neg hk0] at hp
            cases h4 : pText (mostV k) l3 with
            | error c4 => rw [h4] at hp; cases hp
            | ok x4 =>
              obtain ⟨val, l4⟩ := x4
              rw [h4] at hp
              cases hp
              exact qrecord_put h hk hk0 h2 h3 h4
end Go.Proofs.Ytkpijoogaicodaa
