import Derived.Test.YtkdjahgndkdnhaaZa
namespace Go.Proofs.Ytkdjahgndkdnhaa
open Go.RowKit Go.Maps
set_option linter.unusedVariables false
set_option linter.unusedSimpArgs false
/-- The call of a step that panics, in words. -/
def StpP (g : Nat) (bd cp : Array Value) (b : Nat) (rv : Value) (m : Nat) (ps : List Nat) (ts : List Tk) (H : Int → Option Int) (st c : Nat) (S : Nat → Prop) (R : World → List Tk → (Int → Option Int) → Prop) (w1 : World) : Prop :=
  Calls Try.prog g (bd ++ cp) w1 fun e w2 => ∃ v ts2 H2, e = .panicked [{ v := v, recovered := false }] ∧ Sc w2 b rv m ps ts2 H2 st true c ∧ Upd S w1 w2 ∧ R w2 ts2 H2
section
variable {w : World} {b p : Nat} {rv : Value} {m : Nat} {t : Tk} {st : Nat} {wi : Bool} {ps : List Nat} {ts : List Tk} {H : Int → Option Int} {c : Nat}
theorem Sc.counted (h : Sc w b rv m ps ts H st wi c) : Sc ((w.setCell ⟨b, 3, none⟩ (.bool false)).setCell ⟨b, 2, none⟩ (.int .i64 ((st : Int) + 1))) b rv m ps ts H (st + 1) false c ∧ Upd (fun k => k = b) w ((w.setCell ⟨b, 3, none⟩ (.bool false)).setCell ⟨b, 2, none⟩ (.int .i64 ((st : Int) + 1))) := by
  have U : Upd (fun k => k = b) w ((w.setCell ⟨b, 3, none⟩ (.bool false)).setCell ⟨b, 2, none⟩ (.int .i64 ((st : Int) + 1))) :=
    ((Upd.refl (fun k => k = b) w).setCell (p := ⟨b, 3, none⟩) (fun _ => rfl) _).setCell (p := ⟨b, 2, none⟩) (fun _ => rfl) _
  obtain ⟨D, hD⟩ := h.map
  exact ⟨⟨(h.blk.set 3 (.bool false)).set 2 (.int .i64 ((st : Int) + 1)), row_upd h.row U (fun k hk e => row_ne h.row h.blk (by decide) k hk e), fun i q x hq hx => (h.tks i q x hq hx).upd U ((h.tks i q x hq hx).ne h.blk (by decide)), h.len, h.nd, D, hD.upd U (hD.ne h.blk)⟩, U⟩
set_option maxRecDepth 100000 in
set_option maxHeartbeats 1000000 in
/-- The deferred closure, where the step has panicked. -/
theorem ended_pnk {a0 a1 a2 a3 a4 n : Nat} {k o : Int} (v : Value) (hv : Dv w a0 a1 a2 a3 a4 b p n false k o) (hs : Sc w b rv m ps ts H st wi c) (hl : ps.length ≤ 64) (hst : st < 4000000000000000000) (ht : ts[n]? = some t) :
    CallsD Try.prog 62 #[ptr a0, ptr a3, ptr a2, ptr a4, ptr a1] (.panicking [{ v := v, recovered := false }]) w fun e u' w' => e = .returned (.tuple #[]) ∧ u' = .panicking [{ v := v, recovered := true }] ∧ Sc w' b rv m ps (ts.set n ({ t with failed := true }.wished 4 0 (st + 1))) (freeH H n) (st + 1) false c ∧ Upd (fun j => j = b ∨ j = m ∨ j ∈ ps) w w' := by
  have hb := hs.blk
  have s0 := hv.v0.cell1 0 _ rfl
  have s1 := hv.v1.cell1 0 _ rfl
  have s3 := hv.v3.cell1 0 _ rfl
  have b2 := hb.cell1 2 _ rfl
  have b3 := hb.cell1 3 _ rfl
  have f2 := hb.frozen 2
  have f3 := hb.frozen 3
  have n0 := hv.v0.ne hb (by decide)
  have n1 := hv.v1.ne hb (by decide)
  have n3 := hv.v3.ne hb (by decide)
  obtain ⟨hs1, U1⟩ := hs.counted
  have HF := fails_any hs1 hl ht
  refine callsD_of_wpS Try.func62 rfl fun c₀ cs hu => ?_
  apply wpS_seq
  apply wpS_region
  simp [wpOpsS, go_sem, recoverD, hu, Try.ntmps62, Exit.thenS]
  refine wpS_of_wp ?_
  simp only [Array.replicate_succ, Array.replicate_zero, List.push_toArray, List.append_toArray, List.nil_append, List.cons_append]
  go_wp2_with (go_at_call 64; refine HF.mono ?_; rintro e w1 ⟨rfl, hP, hU⟩)
  have U2 : Upd (fun j => j = b ∨ j = m ∨ j ∈ ps) w w1 := Upd.then (U1.mono (fun k _ hk => .inl hk)) hU (fun i _ hi => .inr hi)
  simp [bodyPostS, results, Try.results62, go_sem]
  exact ⟨hP, U2⟩
theorem door_pnk {a0 a1 a2 a3 a4 n : Nat} {k o : Int} (v : Value) (hv : Dv w a0 a1 a2 a3 a4 b p n false k o) (hs : Sc w b rv m ps ts H st wi c) (hl : ps.length ≤ 64) (hst : st < 4000000000000000000) (ht : ts[n]? = some t) (T : Array Value) {R : Ending → World → Prop}
    (hR : ∀ w', Sc w' b rv m ps (ts.set n ({ t with failed := true }.wished 4 0 (st + 1))) (freeH H n) (st + 1) false c → (Upd (fun j => j = b ∨ j = m ∨ j ∈ ps) w w' ∧ Rws w w') → R (.returned (.tuple #[])) w') :
    bodyPostD Try.prog Try.f46 R (.panic [{ v := v, recovered := false }]) { tmps := T, defers := [dfr a0 a1 a2 a3 a4] } w := by
  refine leaves_cons (f := 62) (args := #[ptr a0, ptr a3, ptr a2, ptr a4, ptr a1]) (by simp) (by simp [go_sem, dfr]) ?_
  refine (ended_pnk v hv hs hl hst ht).mono ?_
  rintro e u' w'' ⟨rfl, rfl, h1, h2⟩
  refine ⟨.tuple #[], by simp [results, Try.results46, go_sem], hR _ h1 ⟨h2, ?_⟩⟩
  intro base e size v n xs e1 e2 e3 e4 hr
  obtain ⟨D, hD⟩ := hs.map
  refine row_upd hr h2 ?_
  rintro k hk (e' | e' | e')
  · exact row_ne hr hs.blk e3 k hk e'
  · exact hD.ner hr k hk e'
  · obtain ⟨i, hi⟩ := List.mem_iff_getElem?.1 e'
    have : i < ts.length := by rw [hs.len]; exact (List.getElem?_eq_some_iff.1 hi).1
    exact row_ne hr (hs.tks i k _ hi (List.getElem?_eq_getElem this)) e4 k hk rfl
set_option maxRecDepth 100000 in
set_option maxHeartbeats 1000000 in
theorem doStep_pnk (h : Sc w b rv m ps ts H st false c) (hc : c < maxLen) (hl : ps.length ≤ 64) (hst : st < 4000000000000000000) {n : Nat} (ht : ts[n]? = some t) (ho : I64 t.on) (g : Nat) (bd cp : Array Value) (hstep : t.step = .func (.func g) bd cp) (hent : ∀ w, (callFunc g (bd ++ cp)).run Try.prog w = .ok (.enter g (bd ++ cp)) w)
    (S : Nat → Prop) (hS : ∀ k, S k → k < w.heap.size) (R : World → List Tk → (Int → Option Int) → Prop)
    (hg : ∀ w1, Sc w1 b rv m ps (ts.set n t.goes) (lockd H t n) st true (c + 1) → Upd (SB b rv m ps) w w1 →
      StpP g bd cp b rv m ps (ts.set n t.goes) (lockd H t n) st (c + 1) S R w1) :
    Calls Try.prog 46 #[ptr b, .int .i64 n] w fun e w3 => e = .returned (.tuple #[]) ∧ ∃ w2 ts2 H2 t2, R w2 ts2 H2 ∧ ts2[n]? = some t2 ∧ Sc w3 b rv m ps (ts2.set n ({ t2 with failed := true }.wished 4 0 (st + 1))) (freeH H2 n) (st + 1) false (c + 1) ∧ (Upd (fun k => k = b ∨ k = m ∨ k ∈ ps) w2 w3 ∧ Rws w2 w3) ∧ Upd (fun k => SB b rv m ps k ∨ S k) w w3 := by
  have hmf : ∀ (fn : Fn) (first cap : Array Value) (w : World), (Instr.makeFunc fn first cap).run Try.prog w = .ok (.func fn first cap) w := fun _ _ _ _ => rfl
  obtain ⟨p, hp, P⟩ := h.task ht
  obtain ⟨gg, cap, hrv, hcell⟩ := h.at_ hp
  have hnl : n < ps.length := (List.getElem?_eq_some_iff.1 hp).1
  have c0 := h.blk.cell1 0 _ rfl
  rw [hrv] at c0
  have lb := h.blk.lt
  have lg : gg < w.heap.size := h.sb_lt gg (.inr (.inl (by rw [hrv]; rfl)))
  have al := fun (W : World) (o : Obj) => (Below.refl W.heap.size W).alloc (Nat.le_refl _) o
  have hcl : ∀ (W : World) (o : Obj) (a : Addr) (v : Value), a.block < W.heap.size → W.cell? a = some v → (W.alloc o).cell? a = some v := fun W o a v hlt hh => ((al W o).cell hlt).trans hh
  have W1c0 := hcl _ (.cells #[.int .i64 n] 3) _ _ (by simp; omega) (hcl _ (.cells #[ptr b] 25) _ _ lb c0)
  have W1cg := hcl _ (.cells #[.int .i64 n] 3) _ _ (by simp; omega) (hcl _ (.cells #[ptr b] 25) _ _ lg hcell)
  have W2c0 := hcl _ (.cells #[.pointer none] 83) _ _ (by simp; omega) W1c0
  have W2cg := hcl _ (.cells #[.pointer none] 83) _ _ (by simp; omega) W1cg
  have HB := Dc.begin (p := p) h n
  go_enter_defers Try.func46, Try.ntmps46
  go_wp2
  go_cut [4] from 7 to 13 (fun t wc => t = ptr (w.heap.size + 1 + 1) ∧ Dc w wc b rv m ps ts H st c n p)
  case first =>
    go_region
    all_goals go_wp2
    all_goals go_meet
    case rel => exact ⟨rfl, HB⟩
  case rest =>
    obtain ⟨rfl, hD⟩ := hcut
    clear W1c0 W1cg W2c0 W2cg HB c0 hcell hcl al
    have P := hD.sc.tks n p t hp ht
    have p1 := P.cell1 1 _ rfl
    have p2 := P.cell1 2 _ rfl
    have p3 := P.cell1 3 _ rfl
    have y2 := P.frozen 2
    have y3 := P.frozen 3
    rw [hstep] at p1
    have b1 := hD.sc.blk.cell1 1 _ rfl
    have b3 := hD.sc.blk.cell1 3 _ rfl
    have z3 := hD.sc.blk.frozen 3
    have s0 := hD.v0.cell1 0 _ rfl
    have s1 := hD.v1.cell1 0 _ rfl
    have s2 := hD.v2.cell1 0 _ rfl
    have hsz : Hid _ := hD.size
    have lb2 := hD.sc.blk.lt
    have lp2 := P.lt
    have np := P.ne hD.sc.blk (by decide)
    have n0 := hD.v0.ne hD.sc.blk (by decide)
    have n2 := hD.v2.ne hD.sc.blk (by decide)
    have k0 := hD.v0.ne P (by decide)
    have k2 := hD.v2.ne P (by decide)
    by_cases hk : t.kind = 1
    · rw [hk] at p2
      obtain ⟨D, hIM⟩ := hD.sc.map
      obtain ⟨wm, D', hrun, hIM', hgr⟩ := IM.store (w := wc.drew) ⟨hIM.own.drew, hIM.at_, hIM.has⟩ hc (k := t.on) (p := n) ho (by unfold I64; omega)
      have HD := hD.lock hIM' hgr
      clear hIM hIM' hgr
      have HL : lockd H t n = fput H t.on (some (n : Int)) := by unfold lockd; rw [if_pos hk]
      rw [HL] at hg
      clear HL hk
      generalize fput H t.on (some (n : Int)) = H' at *
      have hp2 : Hid _ := hp
      have ht2 : Hid _ := ht
      have hst2 : Hid _ := hstep
      have hrv2 : Hid _ := hrv
      clear hp ht hstep hrv
      go_wp2
      go_cut [4] from 20 to 29 (fun t wc => t = ptr (w.heap.size + 1 + 1) ∧ Dc w wc b rv m ps ts H' st (c + 1) n p)
      case first =>
        go_region
        all_goals go_wp2
        all_goals go_meet
        case rel => exact ⟨rfl, HD⟩
      case rest =>
        obtain ⟨rfl, hD2⟩ := hcut
        have hp := hp2.out
        have ht := ht2.out
        have hstep := hst2.out
        clear HD p1 p2 p3 y2 y3 b1 b3 z3 s0 s1 s2 hsz lb2 lp2 np n0 n2 k0 k2 P hrun hp2 ht2 hst2 hrv2 hD
        have hD := hD2
        clear hD2
        have P := hD.sc.tks n p t hp ht
        have p1 := P.cell1 1 _ rfl
        have p2 := P.cell1 2 _ rfl
        have p3 := P.cell1 3 _ rfl
        have y2 := P.frozen 2
        have y3 := P.frozen 3
        rw [hstep] at p1
        have b1 := hD.sc.blk.cell1 1 _ rfl
        have b3 := hD.sc.blk.cell1 3 _ rfl
        have z3 := hD.sc.blk.frozen 3
        have s0 := hD.v0.cell1 0 _ rfl
        have s1 := hD.v1.cell1 0 _ rfl
        have s2 := hD.v2.cell1 0 _ rfl
        have hsz : Hid _ := hD.size
        have lb2 := hD.sc.blk.lt
        have lp2 := P.lt
        have np := P.ne hD.sc.blk (by decide)
        have n0 := hD.v0.ne hD.sc.blk (by decide)
        have n2 := hD.v2.ne hD.sc.blk (by decide)
        have k0 := hD.v0.ne P (by decide)
        have k2 := hD.v2.ne P (by decide)
        have HG := hD.go ht hp
        have HS := hg (wgo wc b p) HG.1 HG.2.1
        have g1 := (HG.1.tks n p t.goes hp (by rw [List.getElem?_set]; simp [hnl, h.len])).cell1 1 _ rfl
        rw [show t.goes.step = t.step from rfl, hstep] at g1
        have g2 := HG.2.2.v2.cell1 0 _ rfl
        have HSB := h.sb_lt
        clear hg hstep
        have hp' : Hid _ := hp
        have ht' : Hid _ := ht
        clear hp ht
        obtain ⟨WG, hWG⟩ : ∃ WG, WG = wgo wc b p := ⟨_, rfl⟩
        have hWG' : Hid (WG = wgo wc b p) := hWG
        unfold wgo at g1 g2
        clear hWG
        go_wp2
        refine Calls.mono HS ?_
        rintro e w2 ⟨v, ts2, H2, rfl, hSc2, hU2, hR2⟩
        have hsz' := hsz.out
        have V2 : Dv w2 w.heap.size (w.heap.size + 1) (w.heap.size + 1 + 1) wc.heap.size (wc.heap.size + 1) b p n false 0 0 :=
          HG.2.2.upd hU2 (fun hh => by have := hS _ hh; omega) (fun hh => by have := hS _ hh; omega) (fun hh => by have := hS _ hh; omega) (fun hh => by have := hS _ hh; omega) (fun hh => by have := hS _ hh; omega)
        have HU := HG.2.1
        obtain ⟨t2, ht2⟩ : ∃ t2, ts2[n]? = some t2 := ⟨_, List.getElem?_eq_getElem (by rw [hSc2.len]; exact hnl)⟩
        refine door_pnk v V2 hSc2 hl hst ht2 _ ?_
        intro w3 hS3 hU3
        refine ⟨rfl, w2, ts2, H2, t2, hR2, ht2, hS3, hU3, ?_⟩
        refine ((HU.mono (fun k _ hk => .inl hk)).then hU2 (fun k _ hk => .inr hk)).then hU3.1 ?_
        rintro i hi (rfl | rfl | hm)
        · exact .inl (.inl rfl)
        · exact .inl (.inr (.inr (.inl rfl)))
        · exact .inl (.inr (.inr (.inr hm)))
    · have q1 : (t.kind == 1) = false := by simpa using hk
      have HL : lockd H t n = H := by unfold lockd; rw [if_neg hk]
      have HG := hD.go ht hp
      have HS := (HL ▸ hg) (wgo wc b p) (HG.1.mono (Nat.le_succ c)) HG.2.1
      have g1 := (HG.1.tks n p t.goes hp (by rw [List.getElem?_set]; simp [hnl, h.len])).cell1 1 _ rfl
      rw [show t.goes.step = t.step from rfl, hstep] at g1
      have g2 := HG.2.2.v2.cell1 0 _ rfl
      have HSB := h.sb_lt
      clear hg hrv hstep HL
      have hp' : Hid _ := hp
      have ht' : Hid _ := ht
      clear hp ht
      obtain ⟨WG, hWG⟩ : ∃ WG, WG = wgo wc b p := ⟨_, rfl⟩
      have hWG' : Hid (WG = wgo wc b p) := hWG
      unfold wgo at g1 g2
      clear hWG
      go_wp2
      refine Calls.mono HS ?_
      rintro e w2 ⟨v, ts2, H2, rfl, hSc2, hU2, hR2⟩
      have hsz' := hsz.out
      have V2 : Dv w2 w.heap.size (w.heap.size + 1) (w.heap.size + 1 + 1) wc.heap.size (wc.heap.size + 1) b p n false 0 0 :=
        HG.2.2.upd hU2 (fun hh => by have := hS _ hh; omega) (fun hh => by have := hS _ hh; omega) (fun hh => by have := hS _ hh; omega) (fun hh => by have := hS _ hh; omega) (fun hh => by have := hS _ hh; omega)
      have HU := HG.2.1
      obtain ⟨t2, ht2⟩ : ∃ t2, ts2[n]? = some t2 := ⟨_, List.getElem?_eq_getElem (by rw [hSc2.len]; exact hnl)⟩
      refine door_pnk v V2 hSc2 hl hst ht2 _ ?_
      intro w3 hS3 hU3
      refine ⟨rfl, w2, ts2, H2, t2, hR2, ht2, hS3, hU3, ?_⟩
      refine ((HU.mono (fun k _ hk => .inl hk)).then hU2 (fun k _ hk => .inr hk)).then hU3.1 ?_
      rintro i hi (rfl | rfl | hm)
      · exact .inl (.inl rfl)
      · exact .inl (.inr (.inr (.inl rfl)))
      · exact .inl (.inr (.inr (.inr hm)))
set_option maxRecDepth 100000 in
set_option maxHeartbeats 800000 in
theorem pick_pnk (h : Sc w b rv m ps ts H st false c) (hc : c < maxLen) (hl : ps.length ≤ 64) (hst : st < 4000000000000000000) (ok : ∀ t ∈ ts, TkOk st t) {L : List Nat} (hL : nums (mayB H st) 0 ts = L) {i : Int} {j n : Nat} (hj : max i 0 = j) (hi : i ≤ 9223372036854775807) (hn : L[j % L.length]? = some n) (ht : ts[n]? = some t) (g : Nat) (bd cp : Array Value) (hstep : t.step = .func (.func g) bd cp) (hent : ∀ w, (callFunc g (bd ++ cp)).run Try.prog w = .ok (.enter g (bd ++ cp)) w)
    (S : Nat → Prop) (hS : ∀ k, S k → k < w.heap.size) (R : World → List Tk → (Int → Option Int) → Prop)
    (hg : ∀ w1, Sc w1 b rv m ps (ts.set n t.goes) (lockd H t n) st true (c + 1) → Upd (SB b rv m ps) w w1 →
      StpP g bd cp b rv m ps (ts.set n t.goes) (lockd H t n) st (c + 1) S R w1) :
    Calls Try.prog 16 #[ptr b, .int .i64 i] w fun e w3 => ∃ w2 ts2 H2 t2, e = .returned (.tuple #[.int .i64 n, .int .i64 9]) ∧ R w2 ts2 H2 ∧ ts2[n]? = some t2 ∧ Sc w3 b rv m ps (ts2.set n ({ t2 with failed := true }.wished 4 0 (st + 1))) (freeH H2 n) (st + 1) false (c + 1) ∧ (Upd (fun k => k = b ∨ k = m ∨ k ∈ ps) w2 w3 ∧ Rws w2 w3) ∧ Upd (fun k => SB b rv m ps k ∨ S k) w w3 := by
  have HE := enabled_any h hl hst ok
  rw [hL] at HE
  have hLl : j % L.length < L.length := (List.getElem?_eq_some_iff.1 hn).1
  have hmx : ∀ W : World, (Builtin.max_ #[3, 3] 3 #[.int .i64 i, .int .i64 0]).run Try.prog W = .ok (.int .i64 j) W := by
    intro W
    rw [← hj]
    have e : max i 0 = if i < 0 then 0 else i := by omega
    rw [e]
    simp [Builtin.max_, Builtin.max2, go_sem]
  have hne : ((L.length : Int) == 0) = false := beq_eq_false_iff_ne.2 (by omega)
  have ho : I64 t.on := (ok t (List.mem_of_getElem? ht)).o64
  have lt := h.sb_lt
  go_enter Try.func16, Try.ntmps16
  go_wp2_with (first
    | (go_at_call 46; refine (doStep_pnk (h.below hB) hc hl hst ht ho g bd cp hstep hent S (fun k hk => Nat.lt_of_lt_of_le (hS k hk) hB.size) R (fun w1 hs hu => hg w1 hs ((Upd.ofBelow hB).trans hu))).mono ?_
       rintro e w3 ⟨rfl, w2, ts2, H2, t2, hR, ht2, hS3, hU3, hU4⟩
       obtain ⟨p, hp, P⟩ := hS3.task (i := n) (t := { t2 with failed := true }.wished 4 0 (st + 1)) (by rw [List.getElem?_set]; simp [(List.getElem?_eq_some_iff.1 ht2).1])
       obtain ⟨g2, c2, hrv, hc2⟩ := hS3.at_ hp
       have d0 := hS3.blk.cell1 0 _ rfl
       rw [hrv] at d0
       have d5 := P.cell1 5 _ rfl
       have hnl : n < ps.length := (List.getElem?_eq_some_iff.1 hp).1
       have hlt : (n : Int) < (ps.length : Int) := by omega
       have hn0 : (0 : Int) ≤ (n : Int) := by omega)
    | (go_at_call 19; refine HE.mono ?_; rintro e w1 ⟨a, ca, rfl, hr, hB⟩; have c3 := (h.below hB).blk.cell1 3 _ rfl; obtain ⟨gg, rfl, hcell⟩ := ic_cell hr hn))
  go_ret2
  refine ⟨w2, ts2, H2, t2, rfl, hR, ht2, hS3, hU3, (Upd.ofBelow hB).trans hU4⟩
end
end Go.Proofs.Ytkdjahgndkdnhaa
