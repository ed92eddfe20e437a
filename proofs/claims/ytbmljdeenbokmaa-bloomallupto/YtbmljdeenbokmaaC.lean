/-
  May: all probes of a key are looked at.
-/
import Derived.Test.YtbmljdeenbokmaaB
import Derived.Sort.QuietIn
import Derived.Test.YtbmljdeenbokmaaRd
import Derived.Sort.CutIn
namespace Go.Proofs.Ytbmljdeenbokmaa
open Go.RowKit Go.Shelf
set_option linter.unusedVariables false
set_option linter.unusedSimpArgs false
attribute [local go_sem] Oper.semAt_some

/-- The bits of a filter. -/
def mbits (l : List Int) : Int := ((l.length - 1 : Nat) : Int) * 8
def lastB (l : List Int) : Int := l.getD (l.length - 1) 0
/-- A key's probes in a filter. -/
def kprbs (l : List Int) (s : ByteArray) : List Int := prbs (hsh s) (mbits l) (lastB l).toNat
def mayB (l : List Int) (s : ByteArray) : Bool := !chkB l || (kprbs l s).all (hasb l)
theorem Arg.below {w w' : World} {a : Option Addr} {len : Nat} {l : List Int} (h : Arg w a len l) (hb : Below w.heap.size w w') : Arg w' a len l := by
  obtain ⟨h1, h2, h3, h4⟩ := h
  refine ⟨h1, h2, h3, ?_⟩
  rcases h4 with h4 | ⟨b, off, ha, hlt, hc⟩
  · exact .inl h4
  · refine .inr ⟨b, off, ha, Nat.lt_of_lt_of_le hlt hb.size, fun j hj => ?_⟩
    rw [hb.cell (p := ⟨b, off + j, none⟩) hlt]; exact hc j hj

theorem chk_yes {l : List Int} (h : chkB l = true) : chk l = 0 := by simp [chk, h]
theorem chk_no {l : List Int} (h : chkB l = false) : chk l = 3 := by simp [chk, h]

set_option maxRecDepth 100000 in
set_option maxHeartbeats 1000000 in
theorem may_no (a : Option Addr) (len cap : Nat) (l : List Int) (s : ByteArray) (w : World) (h : Arg w a len l) (hk : chkB l = false) :
    CallsIn Fence.wide 5 Try.prog 19 #[.slice a len cap, .string s] w fun e w' => e = .returned (.bool true) ∧ Below w.heap.size w w' := by
  have h17 : Fence.wide.fn 17 := trivial
  have H : Hid (Arg w a len l) := h
  have HK : Hid (chk l = 3) := chk_no hk
  clear h hk
  refine callsIn_of_wp_marks Try.func19 rfl trivial ?_ rfl
  simp only [Try.ntmps19, List.size_toArray, List.length_cons, List.length_nil, Nat.reduceAdd, Nat.reduceSub, Array.replicate_succ, Array.replicate_zero, List.push_toArray, List.append_toArray, List.nil_append, List.cons_append]
  gi_wp2_with (gi_at_call 17; refine (callsIn_wide.2 (check_any a len cap l _ (H.out.below (((Below.refl _ w).alloc (Nat.le_refl _) _).alloc (by simp) _)))).mono ?_; rw [HK.out]; rintro e w' ⟨rfl, rfl⟩)
  refine ⟨.bool true, ?_, rfl, ((Below.refl _ w).alloc (Nat.le_refl _) _).alloc (by simp) _⟩
  have hc := new_cell (w.alloc (Obj.cells #[Value.slice a len cap] 23)) (.bool true) 4
  rw [World.size_alloc] at hc
  simp [results, Try.f19, go_sem, hc]

set_option maxRecDepth 100000 in
set_option maxHeartbeats 2000000 in
theorem may_yes (N cap : Nat) (b off : Nat) (l : List Int) (s : ByteArray) (w : World) (hs : s.size ≤ maxLen) (hl : l.length = N + 1) (hN8 : 8 ≤ N) (hN : N ≤ 16777216) (hB : Byt l) (hlt : b < w.heap.size) (hc : ∀ j, j < l.length → w.cell? ⟨b, off + j, none⟩ = some (.int .u8 (l.getD j 0)))
    (hk : chkB l = true) (x : Int) (hx : l.getD N 0 = x) (hx0 : 1 ≤ x) (hx1 : x ≤ 30) (res : Bool) (hres : (prbs (hsh s) (N * 8) x.toNat).all (hasb l) = res) :
    CallsIn Fence.wide 5 Try.prog 19 #[.slice (some ⟨b, off, none⟩) (N + 1) cap, .string s] w fun e w' => e = .returned (.bool res) ∧ Below w.heap.size w w' := by
  have h17 : Fence.wide.fn 17 := trivial
  have h23 : Fence.wide.fn 23 := trivial
  have h24 : Fence.wide.fn 24 := trivial
  have H : Hid (Arg w (some ⟨b, off, none⟩) (N + 1) l) := ⟨hl, hB, by omega, .inr ⟨b, off, rfl, hlt, hc⟩⟩
  have HK : Hid (chk l = 0) := chk_yes hk
  have HR : Hid ((prbs (hsh s) (N * 8) x.toNat).all (hasb l) = res) := hres
  have HX : Hid (l.getD N 0 = x) := hx
  have HC : Hid (∀ j, j < l.length → w.cell? ⟨b, off + j, none⟩ = some (.int .u8 (l.getD j 0))) := hc
  have HL : Hid (l.length = N + 1) := hl
  clear hk hres hx hc hl
  refine callsIn_of_wp_marks Try.func19 rfl trivial ?_ rfl
  simp only [Try.ntmps19, List.size_toArray, List.length_cons, List.length_nil, Nat.reduceAdd, Nat.reduceSub, Array.replicate_succ, Array.replicate_zero, List.push_toArray, List.append_toArray, List.nil_append, List.cons_append]
  gi_wp2_with (first
    | (gi_at_call 17; refine (callsIn_wide.2 (check_any _ (N + 1) cap l _ (H.out.below (((Below.refl _ w).alloc (Nat.le_refl _) _).alloc (by simp) _)))).mono ?_; rw [HK.out]; rintro e w' ⟨rfl, rfl⟩)
    | (gi_at_call 23; refine (probes_in Fence.wide 4 trivial trivial rfl _ N cap s _ hs hN (fun w' => callsIn_wide.2 (hash_any s w' hs)) (by omega)).mono ?_; rintro e w' ⟨rfl, rfl⟩))
  obtain ⟨w2, hw2⟩ : ∃ w2, (w.alloc (.cells #[.slice (some ⟨b, off, none⟩) (N + 1) cap] 23)).alloc (.cells #[.bool false] 4) = w2 := ⟨_, rfl⟩
  have hz2 : w2.heap.size = w.heap.size + 1 + 1 := by rw [← hw2]; simp
  have hB2 : Below w.heap.size w w2 := by rw [← hw2]; exact ((Below.refl _ w).alloc (Nat.le_refl _) _).alloc (by simp) _
  have hcF : w2.cell? ⟨w.heap.size, 0, none⟩ = some (.slice (some ⟨b, off, none⟩) (N + 1) cap) := by
    rw [← hw2, old_cell _ _ _ (by simp), new_cell]
  have hbR := Boxed.new (w.alloc (.cells #[.slice (some ⟨b, off, none⟩) (N + 1) cap] 23)) 4 (.bool false)
  rw [World.size_alloc, hw2] at hbR
  have hpc := pbox_cells w2 (some ⟨b, off, none⟩) N cap s
  have hpb := pbox_below w2 (some ⟨b, off, none⟩) N cap s
  have hpz := pbox_size w2 (some ⟨b, off, none⟩) N cap s
  have hB0 := hB2.trans (hpb.mono hB2.size)
  rw [hw2, ← hz2]
  show Code.wpIn _ _ _ _ _ _ (pbox w2 (some ⟨b, off, none⟩) N cap s)
  obtain ⟨W0, hW0⟩ : ∃ W0, pbox w2 (some ⟨b, off, none⟩) N cap s = W0 := ⟨_, rfl⟩
  rw [hW0] at hpc hpb hpz hB0 ⊢
  clear hW0
  have hcx : W0.cell? ⟨b, off + N, none⟩ = some (.int .u8 x) := by
    rw [hB0.cell (p := ⟨b, off + N, none⟩) hlt, HC.out N (by rw [HL.out]; omega), HX.out]
  have hsb := hsh_bd s
  have hcF0 : W0.cell? ⟨w.heap.size, 0, none⟩ = some (.slice (some ⟨b, off, none⟩) (N + 1) cap) := (hpb.cell (p := ⟨w.heap.size, 0, none⟩) (by simp; omega)).trans hcF
  have hcR0 : W0.cell? ⟨w.heap.size + 1, 0, none⟩ = some (.bool false) := (hpb.cell (p := ⟨w.heap.size + 1, 0, none⟩) (by simp; omega)).trans hbR.cell
  have hfR0 : W0.frozen? ⟨w.heap.size + 1, 0, none⟩ = false := (hpb.frozen (p := ⟨w.heap.size + 1, 0, none⟩) (by simp; omega)).trans hbR.frozen
  refine wpIn_rangeFunc_ownG rfl (by omega) (gf := 27) (lb := #[.pointer (some ⟨w2.heap.size + 3, 0, none⟩), .pointer (some ⟨w2.heap.size, 0, none⟩), .pointer (some ⟨w2.heap.size + 1, 0, none⟩), .pointer (some ⟨w2.heap.size + 2, 0, none⟩)]) rfl trivial (enters_of Try.func27 (by kernel_rfl) rfl)
    (probes_stops Fence.wide 4 trivial rfl (by omega) W0 (w2.heap.size + 3) w2.heap.size (w2.heap.size + 1) (w2.heap.size + 2) b off N cap (hsh s) x hN hN8 hsb.1 hsb.2 (by omega) hx1 (by omega) (by omega) (by omega) (by omega) (by omega) hpc.2.2.2 hpc.1 hpc.2.1 hpc.2.2.1 hcx)
    Kb.trans (kb_put (by omega)) (Below.refl _ _) (fun _ => rfl)
    (fun pre W => ((∀ p ∈ pre, hasb l p.1 = true) ∧ W.cell? ⟨w.heap.size, 0, none⟩ = some (.slice (some ⟨b, off, none⟩) (N + 1) cap) ∧ W.cell? ⟨w.heap.size + 1, 0, none⟩ = some (.bool false) ∧ W.frozen? ⟨w.heap.size + 1, 0, none⟩ = false) ∧ Below w.heap.size w W)
    (fun c pre W => (c = .ret ∧ (∃ p ∈ pre, hasb l p.1 = false) ∧ W.cell? ⟨w.heap.size + 1, 0, none⟩ = some (.bool false)) ∧ Below w.heap.size w W)
    (OwnFrom.and (Own.from (fun s A B row hs hg hr => ⟨hs.1, cell_kept hs.2.1 hg hr, cell_kept hs.2.2.1 hg hr, (frozen_kept hs.2.2.1 hg hr).trans hs.2.2.2⟩) _) (ownFrom_below (Nat.le_refl _) (by omega)))
    (fun c => OwnFrom.and (Own.from (fun s A B row hs hg hr => ⟨hs.1, hs.2.1, cell_kept hs.2.2 hg hr⟩) _) (ownFrom_below (Nat.le_refl _) (by omega)))
    ⟨⟨by simp, hcF0, hcR0, hfR0⟩, hB0⟩
    (fun p => { tmps := #[.slice (some ⟨b, off, none⟩) (N + 1) cap, .string s, .pointer (some ⟨w.heap.size, 0, none⟩), undef, .pointer (some ⟨w.heap.size + 1, 0, none⟩), .int .u32 p.1, .slice (some ⟨b, off, none⟩) (N + 1) cap, .int .i64 0, .bool false, .slice (some ⟨b, off, none⟩) (N + 1) cap, .string s,
      .func (.func 27) #[] #[.pointer (some ⟨w2.heap.size + 3, 0, none⟩), .pointer (some ⟨w2.heap.size, 0, none⟩), .pointer (some ⟨w2.heap.size + 1, 0, none⟩), .pointer (some ⟨w2.heap.size + 2, 0, none⟩)], .int .u32 p.1, undef, undef, undef, undef, undef, undef, undef, undef, undef], defers := [] }) ?assign ?body ?done ?stop
  case assign =>
    intro l x W K hK
    clear hz2
    gi_wp2
    exact hK
  case body =>
    rintro lp pre ⟨p, hp0, hp1⟩ W ⟨⟨hall, hcF, hcR, hfR⟩, hBW⟩ _
    dsimp only
    obtain ⟨q, hq⟩ : ∃ q : Nat, p / 8 = q := ⟨(p / 8).toNat, by omega⟩
    have hqN : q < N := by omega
    have hcq : W.cell? ⟨b, off + q, none⟩ = some (.int .u8 (l.getD q 0)) := by
      rw [hBW.cell (p := ⟨b, off + q, none⟩) hlt, HC.out q (by rw [HL.out]; omega)]
    have hq8 : (p / 8).toNat = q := by omega
    obtain ⟨y, hy⟩ : ∃ y, l.getD q 0 = y := ⟨_, rfl⟩
    have hyb := byt_get hB q
    rw [hy] at hcq hyb
    obtain ⟨hy0, hy1⟩ := hyb
    have HB : Hid (hasb l p = (bits .and .u8 y (mk p) != 0)) := by
      show hasb l p = _
      unfold hasb; rw [hq8, hy]
    have HM : Hid (∀ W, CallsIn Fence.wide 2 Try.prog 24 #[.int .u32 p] W fun e w' => e = .returned (.int .u8 (mk p)) ∧ w' = W) := fun W => callsIn_wide.2 (mark_any p W hp0 (by omega))
    clear hq8 hy hz2
    gi_wp2
    refine wpIn_region_quiet_round rfl (by kernel_rfl) (by kernel_rfl) (by kernel_rfl) ?_
    repeat (gi_big_quiet_step (first | (gi_at_call 24; refine CallsIn.quiet_of_same (HM.out _))))
    refine wpQuietIn_nil ?_
    intro _ hw'
    obtain ⟨nq, hw''⟩ := hw'
    subst hw''
    have hdh : (W.drewN nq).heap = W.heap := rfl
    have hKD : KeepsOthers W (W.drewN nq) := ⟨by rw [hdh]; exact Nat.le_refl _, fun k o hk _ => by rw [hdh]; exact hk⟩
    have hBD : Below w.heap.size w (W.drewN nq) := hBW.trans ⟨rfl, rfl, rfl, Nat.le_refl _, fun _ _ => rfl⟩
    by_cases hz : (bits .and .u8 y (mk p) == 0) = true
    · have HH : Hid (hasb l p = false) := by
        show hasb l p = false
        rw [HB.out]; simpa using hz
      gi_wp2
      refine ⟨(hKD.trans (KeepsOthers.setCell _ _ _)).from _, ⟨rfl, ⟨⟨p, hp0, hp1⟩, by simp, HH.out⟩, World.cell?_setCell_same' _ _ _ (by simp [hcR])⟩, hBD.setCell (p := ⟨w.heap.size + 1, 0, none⟩) (by simp) _⟩
    · have HH : Hid (hasb l p = true) := by
        show hasb l p = true
        rw [HB.out]; simpa using hz
      have hz' : (bits .and .u8 y (mk p) == 0) = false := by simpa using hz
      clear hz
      gi_wp2
      refine ⟨hKD.from _, by simp [Kb], ⟨fun p' hp' => ?_, by simpa using hcF, by simpa using hcR, by simpa using hfR⟩, hBD⟩
      rcases List.mem_append.1 hp' with h | h
      · exact hall p' h
      · simp at h; subst h; exact HH.out
  case done =>
    rintro D ys W hD rfl ⟨⟨hall, hcF, hcR, hfR⟩, hB⟩ hK
    clear hz2
    have HRT : Hid (res = true) := by
      show res = true
      rw [← HR.out, ← prbsS_val (hsh s) (m := (N : Int) * 8) (by omega), List.all_map, List.all_eq_true]
      exact fun p hp => hall p hp
    gi_wp2
    have hK' := (KeepsOthers.setCell W ⟨w.heap.size + 1, 0, none⟩ (.bool true)).same D _ hK rfl
    refine ⟨by simp, .inl ⟨_, _, rfl, run_takeDeferred hK', ?_⟩⟩
    have hc5 := cell_kept (World.cell?_setCell_same' W ⟨w.heap.size + 1, 0, none⟩ (.bool true) (by rw [hcR]; rfl)) (grownBy_putObj' _ D (.deferred none)) (fun r e => by cases e; exact ⟨_, hK', rfl⟩)
    refine ⟨.bool true, ?_, by rw [HRT.out], (hB.setCell (p := ⟨w.heap.size + 1, 0, none⟩) (by simp) _).trans (belowK_b (w := w) (Nat.le_refl _) _ D _ _ (by have := hpb.size; have := hB2.size; omega) hK' rfl rfl)⟩
    simp [results, Try.f19, go_sem, hc5]
  case stop =>
    rintro D c pre W hD ⟨k, hk, rfl⟩ ⟨⟨rfl, ⟨p, hp, hpf⟩, hcR⟩, hB⟩ hK
    have HRF : Hid (res = false) := by
      show res = false
      rw [← HR.out, List.all_eq_false]
      refine ⟨p.1, ?_, by simp [hpf]⟩
      have hp2 : p.1 ∈ prbs (hsh s) ((N : Int) * 8) k := by rw [← prbsS_val (hsh s) (m := (N : Int) * 8) (by omega)]; exact List.mem_map_of_mem hp
      simp only [prbs, List.mem_map, List.mem_range] at hp2 ⊢
      obtain ⟨j, hj, e⟩ := hp2
      exact ⟨j, by omega, e⟩
    have hDw : w.heap.size ≤ D := by have := hpb.size; have := hB2.size; omega
    clear hz2
    gi_wp2
    refine ⟨by simp, .inl ⟨_, _, rfl, run_takeDeferred hK, ?_⟩⟩
    have hc5 := cell_kept hcR (grownBy_putObj' _ D (.deferred none)) (fun r e => by cases e; exact ⟨_, hK, rfl⟩)
    refine ⟨.bool false, ?_, by rw [HRF.out], hB.trans (belowK_b (w := w) (Nat.le_refl _) W D _ _ hDw hK rfl rfl)⟩
    simp [results, Try.f19, go_sem, hc5]

/-- May, whatever the bytes are. -/
theorem may_any (a : Option Addr) (len cap : Nat) (l : List Int) (s : ByteArray) (w : World) (hs : s.size ≤ maxLen) (h : Arg w a len l) :
    Calls Try.prog 19 #[.slice a len cap, .string s] w fun e w' => e = .returned (.bool (mayB l s)) ∧ Below w.heap.size w w' := by
  refine (callsIn_wide (n := 5)).1 ?_
  cases hk : chkB l with
  | false =>
    have e : mayB l s = true := by simp [mayB, hk]
    rw [e]
    exact may_no a len cap l s w h hk
  | true =>
    obtain ⟨rfl, hB, hl, h4⟩ := h
    have hk' := hk
    simp only [chkB, isf, Bool.and_eq_true, decide_eq_true_eq] at hk'
    obtain ⟨⟨h9, hx0, hx1⟩, hN⟩ := hk'
    rcases h4 with rfl | ⟨b, off, rfl, hlt, hc⟩
    · simp at h9
    · obtain ⟨N, hNe⟩ : ∃ N, l.length = N + 1 := ⟨l.length - 1, by omega⟩
      have e : mayB l s = (prbs (hsh s) (N * 8) (l.getD N 0).toNat).all (hasb l) := by
        simp [mayB, hk, kprbs, mbits, lastB, hNe]
      rw [e, hNe]
      rw [hNe, show N + 1 - 1 = N by omega] at hx0 hx1
      exact may_yes N cap b off l s w hs hNe (by omega) (by omega) hB hlt hc hk _ rfl hx0 hx1 _ rfl
end Go.Proofs.Ytbmljdeenbokmaa
