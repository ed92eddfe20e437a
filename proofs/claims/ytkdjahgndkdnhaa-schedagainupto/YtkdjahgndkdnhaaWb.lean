import Derived.Test.YtkdjahgndkdnhaaWa
import Derived.Test.YtkdjahgndkdnhaaR
namespace Go.Proofs.Ytkdjahgndkdnhaa
open Go.RowKit Go.Maps Go.Shelf
set_option linter.unusedVariables false
set_option linter.unusedSimpArgs false
theorem RdD.mono {w : World} {v : Value} {l : List (Int × Int)} {N N' : Nat} (h : RdD w v l N) (hN : N ≤ N') : RdD w v l N' := by
  rcases h with h | ⟨B, off, cap, e, hB, hc⟩
  · exact .inl h
  · exact .inr ⟨B, off, cap, e, by omega, hc⟩
theorem Bg.base0 {w0 w W : World} {b : Nat} {rv : Value} {m : Nat} {ps : List Nat} {ts : List Tk} {xb : Nat} {dv : Value} {q : Nat → Nat} {lv : Nat → Value} {ls : List (List (Int × Int))} (h : Bg w W b rv m ps ts xb dv q lv ls 0) (hb : Below w0.heap.size w0 w) : Bg w0 W b rv m ps ts xb dv q lv ls 0 := by
  have hs := hb.size
  refine ⟨h.sc, h.pr, fun i hi => by omega, fun i hi => by omega, fun i j _ hj => by omega, fun i hi => by omega, Nat.le_trans hs h.ox, fun k hk => Nat.le_trans hs (h.olds k hk), h.lps, h.tsk, ?_⟩
  exact hb.trans ⟨h.bel.os, h.bel.tape, h.bel.output, h.bel.size, fun k hk => h.bel.block k (by omega)⟩
set_option maxRecDepth 100000 in
set_option maxHeartbeats 800000 in
/-- Tasks are taken in, whose lists lie in a base below. -/
theorem begins_over {w0 w : World} (hb0 : Below w0.heap.size w0 w) {v : Value} {ls : List (List (Int × Int))} (hv : RdDD w v ls w0.heap.size) (hll : ls.length ≤ 140737488351232) (n : Nat) (hn : n = min ls.length 64) :
    Calls Try.prog 15 #[v] w fun e w' => ∃ b rv m ps ts xb dv q lv, e = .returned (ptr xb) ∧ Bg w0 w' b rv m ps ts xb dv q lv ls n ∧ Bg w w' b rv m ps ts xb dv q lv ls n := by
  obtain ⟨a2, cap2, rfl, hrows⟩ := hv
  have hn' : Hid _ := hn
  have hn1 : n ≤ ls.length := by omega
  have hn2 : n ≤ 64 := by omega
  have hn3 : n < ls.length → n = 64 := by omega
  clear hn
  go_enter Try.func15, Try.ntmps15
  go_wp2_with (go_at_call 8; refine (new_any w).mono ?_; rintro e w1 ⟨rfl, hS, hB⟩)
  have al := fun (W : World) (o : Obj) => (Below.refl W.heap.size W).alloc (Nat.le_refl _) o
  obtain ⟨O1, hO1⟩ : ∃ O1 : Obj, O1 = .cells #[.slice none 0 0, .slice none 0 0, .int .i64 0, .int .i64 0, .slice none 0 0] 32 := ⟨_, rfl⟩
  have hsz := hB.size
  have S0 : Bg w ((w1.alloc (.cells #[.slice none 0 0, .slice none 0 0, .int .i64 0, .int .i64 0, .slice none 0 0] 32)).alloc (.cells #[ptr (w.heap.size + 1), ptr w1.heap.size, .slice none 0 0, .bool false] 34)) (w.heap.size + 1) (.slice none 0 0) w.heap.size [] [] (w1.heap.size + 1) (ptr w1.heap.size) (fun _ => 0) (fun _ => .bool false) ls 0 := by
    have X := Blk.new (w1.alloc (.cells #[.slice none 0 0, .slice none 0 0, .int .i64 0, .int .i64 0, .slice none 0 0] 32)) 34 [ptr (w.heap.size + 1), ptr w1.heap.size, .slice none 0 0, .bool false]
    rw [World.size_alloc] at X
    refine ⟨(hS.below (al _ _)).below (al _ _), X, fun i hi => by omega, fun i hi => by omega, fun i j _ hj => by omega, fun i hi => by omega, by omega, ?_, rfl, rfl, (hB.alloc hsz _).alloc (by rw [World.size_alloc]; omega) _⟩
    rintro j (rfl | e | rfl | e)
    · omega
    · cases e
    · omega
    · simp at e
  have S00 := S0.base0 hb0
  have hle0 : w0.heap.size ≤ w.heap.size := hb0.size
  clear hS hB hO1
  go_loopw [4] (fun i wr => ∃ (k : Nat) (rv : Value) (ps : List Nat) (ts : List Tk) (q : Nat → Nat) (lv : Nat → Value), k ≤ n ∧ i = .int .i64 k ∧ Bg w wr (w.heap.size + 1) rv w.heap.size ps ts (w1.heap.size + 1) (ptr w1.heap.size) q lv ls k ∧ Bg w0 wr (w.heap.size + 1) rv w.heap.size ps ts (w1.heap.size + 1) (ptr w1.heap.size) q lv ls k) (fun i _ => n - (intOf i).toNat)
  case atStart => exact ⟨0, _, _, _, _, _, Nat.zero_le _, rfl, S0, S00⟩
  case round =>
    clear S0 S00
    obtain ⟨k, rv, ps, ts, q, lv, hk, rfl, S, Sz⟩ := hrel
    by_cases hlt : k < n
    · have h1 : (k : Int) < (ls.length : Int) := by omega
      have h2 : (k : Int) < 64 := by omega
      have h0 : (0 : Int) ≤ (k : Int) := by omega
      have hx := List.getElem?_eq_getElem (l := ls) (i := k) (by omega)
      generalize ls[k]'(by omega) = l at hx
      obtain ⟨B, off, v, rfl, hBl, hcell, hrd⟩ := hrows k l hx
      have hrd' : RdD wr v l w0.heap.size := hrd.upd (S := Non) (Upd.ofBelow S.bel) hle0 (fun _ h => h.elim)
      have hBw : B < w.heap.size := by omega
      have hcell' := (S.bel.cell (p := ⟨B, off + k, none⟩) hBw).trans hcell
      obtain ⟨va, vc, hvv⟩ := hrd.len
      subst hvv
      have x0 := S.pr.cell1 0 _ rfl
      have lx := S.pr.lt
      have HS := fun W (hs : Sc W (w.heap.size + 1) rv w.heap.size ps ts (fun _ => none) 0 false 0) g bd cp => spawn_any hs (by rw [S.lps]; omega) tName g bd cp
      have hx' : Hid _ := hx
      clear hx hcell hrd hrows
      have hSD := S.sc.below ((Below.refl _ _).drew)
      have hlB : B < wr.heap.size := Nat.lt_of_lt_of_le hBw S.bel.size
      go_wp2
      go_cut [5, 6] from 27 to 41 (fun a e wc => e = .int .i64 0 ∧ ∃ rv' q' lv' ps' ts', Bg w wc (w.heap.size + 1) rv' w.heap.size ps' ts' (w1.heap.size + 1) (ptr w1.heap.size) q' lv' ls (k + 1) ∧ Bg w0 wc (w.heap.size + 1) rv' w.heap.size ps' ts' (w1.heap.size + 1) (ptr w1.heap.size) q' lv' ls (k + 1))
      case first =>
        go_region_with (first
          | (go_at_call 13; refine (HS w2 hS2 _ _ _).mono ?_; rintro e w3 ⟨rfl, rv', g1, g2, g3⟩)
          | (go_at_call 27; refine (step_any _ _ _ _ _ _).mono ?_; rintro e w2 ⟨rfl, hw2⟩
             have hB2 : Below wr.heap.size wr w2 := by
               rw [hw2]; unfold wst
               exact (((((Below.refl _ wr).drew).alloc (Nat.le_refl _) _).alloc (by simp) _).alloc (by simp; omega) _).alloc (by simp; omega) _
             have hS2 := S.sc.below hB2
             have y0 := (hB2.cell (p := ⟨w1.heap.size + 1, 0, none⟩) lx).trans x0
             have hw2' : Hid _ := hw2
             clear hw2))
        all_goals go_wp2
        all_goals go_meet
        all_goals
          have hw2 := hw2'.out
          have hsz2 : w2.heap.size = wr.heap.size + 1 + 1 + 1 + 1 := by rw [hw2]; simp [wst]
          rw [hsz2] at g1 g3
          rw [hw2] at g2
          exact ⟨rfl, rv', _, _, _, _, S.step (W1 := wr.drew) ((Below.refl _ _).drew) rfl hx'.out (hrd'.mono hle0) g1 g2 g3, Sz.step (W1 := wr.drew) ((Below.refl _ _).drew) rfl hx'.out hrd' g1 g2 g3⟩
      case rest =>
        obtain ⟨rfl, rv', q', lv', ps', ts', S', Sz'⟩ := hcut
        clear S Sz
        go_wp2
        go_roundw
        case rel => exact ⟨k + 1, _, _, _, _, _, by omega, by go_num, S', Sz'⟩
        case measure => simp [intOf]; omega
    · obtain rfl : k = n := by omega
      by_cases hkl : k < ls.length
      · obtain rfl := hn3 hkl
        have h1 : (64 : Int) < (ls.length : Int) := by omega
        go_wp2
        go_ret
        exact ⟨_, _, _, _, _, _, rfl, _, _, _, Sz, S⟩
      · have h1 : ¬ (k : Int) < (ls.length : Int) := by omega
        go_wp2
        go_ret
        exact ⟨_, _, _, _, _, _, rfl, _, _, _, Sz, S⟩
end Go.Proofs.Ytkdjahgndkdnhaa
