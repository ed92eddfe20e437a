/-
  Fragments.
-/
import Derived.Test.YtagnnocecfoggaaNc
import Derived.Test.YtagnnocecfoggaaQc
namespace Go.Proofs.Ytagnnocecfoggaa
open Go.RowKit
set_option linter.unusedVariables false
set_option linter.unusedSimpArgs false
set_option maxRecDepth 100000 in
set_option maxHeartbeats 1000000 in
theorem cloneU_own {w : World} {a : Option Addr} {cap : Nat} {q : List Int} (h : Rd uc 1 w a q) (hl : q.length ≤ 10000) :
    Calls Try.prog 45 #[.slice a q.length cap] w fun e w' => ∃ a' c', e = .returned (.slice a' q.length c') ∧ Rd uc 1 w' a' q ∧ (∀ g o, a' = some ⟨g, o, none⟩ → w.heap.size ≤ g) ∧ Below w.heap.size w w' := by
  cases a with
  | none =>
    have hq : q = [] := by rcases h with h | ⟨_, _, h, _⟩; exact h; cases h
    subst hq
    have hq := Lib.run_eql_slice_nil (P := Try.prog) w 61 38 none 0 cap 0 0 Try.underlying61
    go_enter Try.func45, Try.ntmps45
    go_wp2_with fail
    go_ret
    exact ⟨none, 0, rfl, .inl rfl, (fun _ _ h => by cases h), Below.refl _ _⟩
  | some ad =>
    have hb0 : Below w.heap.size w (w.alloc (.cells #[] 38)) := (Below.refl _ _).alloc (Nat.le_refl _) _
    have ho : RowU (w.alloc (.cells #[] 38)) w.heap.size (.slice (some ⟨w.heap.size, 0, none⟩) 0 0) [] := by
      have := World.ownsRow_made (base := w.heap.size) (e := 38) (size := 1) w #[] 0 (Nat.le_refl _) (by unfold maxLen; omega) rfl
      exact this
    obtain ⟨v', w', hr, h2, h3⟩ := app_run (k := 1) uc_k uc_1 Try.underlying61 info38 rfl (by decide) ho (by simp) (cap := cap) (h.below hb0) (fun e => by cases e) (by simp; omega) (by unfold maxLen; simp; omega)
    simp only [List.nil_append] at h2
    obtain ⟨va, vc, hv, _, hrd, hof⟩ := row_rd uc_k h2
    have HP : Hid (Rd uc 1 w' va q ∧ (∀ g o, va = some ⟨g, o, none⟩ → w.heap.size ≤ g) ∧ Below w.heap.size w w') := ⟨hrd, fun g o e => (row_blk h2 g (hof g o e).2).1, hb0.trans (h3.below (fun k hk => Nat.lt_of_lt_of_le hk hb0.size) (fun j hj => by cases hj; exact Nat.le_refl _))⟩
    obtain ⟨N, hN⟩ : ∃ N, q.length = N := ⟨_, rfl⟩
    rw [hN] at hv hr ⊢
    subst hv
    clear ho hb0 h2 h3 h hrd hl hof
    have hq := Lib.run_eql_slice_nil (P := Try.prog) w 61 38 (some ad) N cap 0 0 Try.underlying61
    go_enter Try.func45, Try.ntmps45
    go_wp2_with (at_builtin; refine Lib.wpList_append_run _ rfl _ _ _ _ rfl _ _ rfl rfl _ _ hr ?_)
    go_ret
    exact ⟨_, _, rfl, HP.out⟩
/-- A row of pieces whose numbers lie elsewhere. -/
structure Fq (w wr : World) (g n c : Nat) (ps : List Pc) (L : List Fg) : Prop where
  row : wr.ownsRow w.heap.size 63 3 (.slice (some ⟨g, 0, none⟩) n c) n (cls Pc.c ps)
  len : ps.length = L.length
  at_ : ∀ (i : Nat) (p : Pc) (f : Fg), ps[i]? = some p → L[i]? = some f → p.b = f.b ∧ p.e = f.e ∧ p.n = f.q.length ∧ Rd uc 1 wr p.a f.q ∧ (f.q = [] ∨ ∀ pg po, p.a = some ⟨pg, po, none⟩ → pg ≠ g)
theorem Fq.below {w wr wr' : World} {g n c : Nat} {ps : List Pc} {L : List Fg} (h : Fq w wr g n c ps L) (hb : Below wr.heap.size wr wr') : Fq w wr' g n c ps L :=
  ⟨row_upd h.row (S := Non) (Upd.ofBelow hb) (fun _ _ h => h), h.len, fun i p f hp hf => by
    obtain ⟨a1, a2, a3, a4, a5⟩ := h.at_ i p f hp hf
    exact ⟨a1, a2, a3, a4.below hb, a5⟩⟩
theorem Fq.put {w wr : World} {g n c : Nat} {ps : List Pc} {L : List Fg} (h : Fq w wr g n c ps L) {i : Nat} {p : Pc} {f : Fg} (hp : ps[i]? = some p) (hf : L[i]? = some f) {a' : Option Addr} {c' : Nat} (hr : Rd uc 1 wr a' f.q) (ha : ∀ pg po, a' = some ⟨pg, po, none⟩ → pg ≠ g) :
    Fq w (wr.setCell ⟨g, i * 3 + 2, none⟩ (.slice a' f.q.length c')) g n c (ps.set i ⟨p.b, p.e, a', f.q.length, c'⟩) L := by
  have hil : i < ps.length := (List.getElem?_eq_some_iff.1 hp).1
  have U : Upd (fun k => k = g) wr (wr.setCell ⟨g, i * 3 + 2, none⟩ (.slice a' f.q.length c')) := Upd.setCell (p := ⟨g, i * 3 + 2, none⟩) (Upd.refl (fun k => k = g) _) (fun _ => rfl) _
  refine ⟨row_set h.row hp _ _ _, by simp [h.len], fun j q f' hq hf' => ?_⟩
  by_cases e : i = j
  · subst e
    rw [List.getElem?_set_self hil] at hq
    rw [hf] at hf'
    cases hq; cases hf'
    obtain ⟨a1, a2, _⟩ := h.at_ i p f hp hf
    exact ⟨a1, a2, rfl, hr.upd U (fun pg po e he => ha pg po e he), .inr ha⟩
  · rw [List.getElem?_set_ne e] at hq
    obtain ⟨a1, a2, a3, a4, a5⟩ := h.at_ j q f' hq hf'
    refine ⟨a1, a2, a3, ?_, a5⟩
    rcases a5 with e0 | a5
    · rw [e0]; exact .inl rfl
    · exact a4.upd U (fun pg po e he => a5 pg po e he)
theorem Fq.rdf {w wr : World} {g n c : Nat} {ps : List Pc} {L : List Fg} (h : Fq w wr g n c ps L) : RdF wr (some ⟨g, 0, none⟩) L := by
  have hn : n = ps.length := by
    have := h.row.1
    rw [cls_len pc_k] at this
    omega
  have hr := h.row
  rw [hn] at hr
  obtain ⟨a, cc, e, _, hrd, _⟩ := row_rd pc_k hr
  injection e with e1 _ _
  refine ⟨ps, h.len, by rw [e1]; exact hrd, fun i p f hp hf => ?_⟩
  obtain ⟨a1, a2, a3, a4, _⟩ := h.at_ i p f hp hf
  exact ⟨a1, a2, a3, a4⟩
set_option maxRecDepth 100000 in
set_option maxHeartbeats 1000000 in
theorem Fragments_any {w : World} {S : Nat} {how : Int} {a : Option Addr} {c : Nat} {L : List Fg} (h : St w S how a c L) (hg : FrG how L) :
    Calls Try.prog 27 #[ptr S] w fun e w' => ∃ a' c', e = .returned (.slice a' L.length c') ∧ RdF w' a' L ∧ Below w.heap.size w w' := by
  obtain ⟨ps0, hp0, hp1, hp2⟩ := h.rd
  have s1 := h.blk.cell1 1 _ rfl
  have HC := cloneP_any (cap := c) hp1 (by rw [hp0]; exact hg.len)
  rw [hp0] at HC
  have HQ : Hid (∀ f ∈ L, f.q.length ≤ 10000) := hg.qlen
  have HI : Hid (∀ w1 g n cc, RowP w1 w.heap.size (.slice (some ⟨g, 0, none⟩) n cc) ps0 → Below w.heap.size w w1 → n = ps0.length → Fq w w1 g n cc ps0 L) := fun w1 g n cc hr hb hn => by
    refine ⟨by rw [hn]; rw [hn] at hr; exact hr, hp0, fun i p f hp hf => ?_⟩
    obtain ⟨a1, a2, a3, a4⟩ := hp2 i p f hp hf
    refine ⟨a1, a2, a3, a4.below hb, ?_⟩
    cases hq : f.q with
    | nil => exact .inl rfl
    | cons x q =>
      refine .inr fun pg po e eg => ?_
      have hx : f.q[0]? = some x := by rw [hq]; rfl
      obtain ⟨pg', po', e', hat⟩ := a4.at_ hx
      rw [e] at e'
      cases e'
      have hlt := cell_lt hat.u1
      have hge := (row_blk hr g rfl).1
      simp only at hlt
      omega
  obtain ⟨N, hN⟩ : ∃ N, Hid (L.length = N) := ⟨_, rfl⟩
  rw [hN.out] at s1 HC ⊢
  have HP0 : Hid (ps0.length = N) := hp0.trans hN.out
  have hNl : N ≤ 10000 := by rw [← hN.out]; exact hg.len
  clear h hg hp0 hp1 hp2
  go_enter Try.func27, Try.ntmps27
  go_upto_region 2 with (go_at_call 44; refine HC.mono ?_; rintro e w1 (⟨h0, rfl, hw⟩ | ⟨v, rfl, r1, r2⟩))
  · subst hw
    have hN0 : (0 : Nat) = N := by rw [← HP0.out, h0]; rfl
    subst hN0
    have HE : Hid (L = []) := List.length_eq_zero_iff.1 hN.out
    clear HI h0
    go_wp2_with fail
    go_loopw [12] (fun i wr => i = .int .i64 0 ∧ Hid (wr = w1)) (fun _ _ => 0)
    case atStart => exact ⟨rfl, rfl⟩
    case round =>
      obtain ⟨rfl, HW⟩ := hrel
      have hW := HW.out
      subst hW
      go_wp2_with fail
      go_ret
      rw [HE.out]
      exact ⟨none, ⟨0, rfl⟩, rdf_nil _ _, Below.refl _ _⟩
  · obtain ⟨va, vc, hv⟩ := row_slice r1
    rw [HP0.out] at hv
    subst hv
    have HF : Hid (∀ g, va = some ⟨g, 0, none⟩ → Fq w w1 g N vc ps0 L) := fun g e => by subst e; exact HI.out w1 g N vc r1 r2 HP0.out.symm
    have HV : Hid (N = 0 ∨ ∃ g, va = some ⟨g, 0, none⟩) := by
      rcases r1.2 with ⟨_, e⟩ | ⟨g, cap, cur, e, _⟩
      · exact .inl (HP0.out ▸ e)
      · injection e with e1 _ _; exact .inr ⟨g, e1⟩
    have HB1 : Hid (Below w.heap.size w w1) := r2
    clear HI r1 r2 HC
    go_wp2_with fail
    go_loopw [12] (fun i wr => ∃ k : Nat, k ≤ N ∧ i = .int .i64 k ∧ Hid (Below w.heap.size w wr ∧ ∀ g, va = some ⟨g, 0, none⟩ → ∃ ps, Fq w wr g N vc ps L)) (fun i _ => ((N : Int) - intOf i).toNat)
    case atStart => exact ⟨0, Nat.zero_le _, rfl, HB1.out, fun g e => ⟨_, HF.out g e⟩⟩
    case round =>
      clear HF
      obtain ⟨k, hk, rfl, HK⟩ := hrel
      rcases Nat.lt_or_ge k N with hkN | hkN
      · have hkz : (k : Int) < N := by omega
        obtain ⟨g, rfl⟩ : ∃ g, va = some ⟨g, 0, none⟩ := by
          rcases HV.out with e | e
          · omega
          · exact e
        obtain ⟨ps, hF⟩ := HK.out.2 g rfl
        obtain ⟨f, hf⟩ : ∃ f, L[k]? = some f := ⟨_, List.getElem?_eq_getElem (by rw [hN.out]; exact hkN)⟩
        obtain ⟨p, hp⟩ : ∃ p, ps[k]? = some p := ⟨_, List.getElem?_eq_getElem (by rw [hF.len, hN.out]; exact hkN)⟩
        obtain ⟨a1, a2, a3, a4, a5⟩ := hF.at_ k p f hp hf
        have hat : At Pc.c wr g (k * 3) p := fun i v hv => by
          have hi : i < 3 := (List.getElem?_eq_some_iff.1 hv).1
          have := hF.row.cells (g := g) rfl (k * 3 + i) v (by rw [cls_get pc_k ps k p hp i hi]; exact hv)
          rw [add_at, Nat.zero_add] at this
          exact this
        have q2 := hat.p.2.2
        rw [a3] at q2
        have hql := HQ.out f (List.mem_of_getElem? hf)
        have HCl := cloneU_own (cap := p.k) a4 hql
        have HPut : Hid (∀ w7 a' c', Rd uc 1 w7 a' f.q → (∀ g o, a' = some ⟨g, o, none⟩ → wr.heap.size ≤ g) → Below wr.heap.size wr w7 → w7.cell? ⟨g, k * 3 + 2, none⟩ = some (.slice p.a f.q.length p.k) ∧ w7.frozen? ⟨g, k * 3 + 2, none⟩ = false ∧ Hid (Below w.heap.size w (w7.setCell ⟨g, k * 3 + 2, none⟩ (.slice a' f.q.length c')) ∧ ∀ g', some (⟨g, 0, none⟩ : Addr) = some ⟨g', 0, none⟩ → ∃ ps, Fq w (w7.setCell ⟨g, k * 3 + 2, none⟩ (.slice a' f.q.length c')) g' N vc ps L)) := by
          intro w7 a' c' r1 r2 r3
          have hF7 := hF.below r3
          have hgl : g < wr.heap.size := (row_blk hF.row g rfl).2
          refine ⟨cell_below r3 q2, ?_, ?_, fun g' e => ?_⟩
          · rcases hF7.row.2 with ⟨e, _⟩ | ⟨g', cap', cur, e, _, hg, _⟩
            · cases e
            · cases e; simp [World.frozen?, hg]
          · have B7 : Below w.heap.size w w7 := HK.out.1.trans (r3.mono HK.out.1.size)
            have hge : w.heap.size ≤ g := (row_blk hF.row g rfl).1
            have U : Upd (fun k => k = g) w7 (w7.setCell ⟨g, k * 3 + 2, none⟩ (.slice a' f.q.length c')) := Upd.setCell (p := ⟨g, k * 3 + 2, none⟩) (Upd.refl (fun k => k = g) _) (fun _ => rfl) _
            exact B7.trans (U.below (fun j hj => Nat.lt_of_lt_of_le hj B7.size) (fun j hj => by rw [hj]; exact hge))
          · cases e
            exact ⟨_, hF7.put hp hf r1 (fun pg po e he => by have := r2 pg po e; omega)⟩
        obtain ⟨QN, hQN⟩ : ∃ QN, Hid (f.q.length = QN) := ⟨_, rfl⟩
        rw [hQN.out] at q2 HCl HPut hql
        clear hF hf hp a1 a2 a3 a4 a5 hat HK
        go_wp2_with (go_at_call 45; refine HCl.mono ?_; rintro e w7 ⟨a7, c7, rfl, r1, r2, r3⟩
                     obtain ⟨k1, k2, HF7⟩ := HPut.out w7 a7 c7 r1 r2 r3
                     clear r1 r2 r3)
        go_roundw
        case rel => exact ⟨k + 1, by omega, by go_num, HF7.out⟩
        case measure => simp [intOf]; omega
      · obtain rfl : k = N := by omega
        have hz : ¬ ((k : Int) < k) := by omega
        have HE : Hid (RdF wr va L ∧ Below w.heap.size w wr) := by
          refine ⟨?_, HK.out.1⟩
          rcases HV.out with e | ⟨g, e⟩
          · rw [List.length_eq_zero_iff.1 (hN.out.trans e)]; exact rdf_nil _ _
          · obtain ⟨ps, hF⟩ := HK.out.2 g e
            rw [e]; exact hF.rdf
        clear HK
        go_wp2_with fail
        go_ret
        exact ⟨va, ⟨vc, rfl⟩, HE.out⟩
end Go.Proofs.Ytagnnocecfoggaa
