import Derived.Test.YtkdjahgndkdnhaaI
import Derived.Test.YtkdjahgndkdnhaaJ
namespace Go.Proofs.Ytkdjahgndkdnhaa
open Go.RowKit Go.Maps
set_option linter.unusedVariables false
set_option linter.unusedSimpArgs false
theorem ic_set (l : List Nat) (i d : Nat) : (ic l).set i (.int .i64 d) = ic (l.set i d) := by simp [ic, List.map_set]
set_option maxRecDepth 100000 in
set_option maxHeartbeats 800000 in
theorem turn1_any {w : World} {dB D X E n i e d : Nat} {did : List Nat} (hb : Blk w dB 30 [.slice (some ⟨D, 0, none⟩) n n]) (hD : Blk w D 3 (ic did)) (hX : Blk w X 3 [.int .i64 i]) (hE : Blk w E 3 [.int .i64 e]) (n1 : D ≠ X) (n2 : D ≠ E) (hl : did.length = n) (hd : did[i]? = some d) (hdl : d < 100000) (hel : e < 100000) (hnl : n ≤ 64) :
    Calls Try.prog 26 #[ptr dB, ptr X, ptr E] w fun r w' => r = .returned (.agg #[.int .i64 (if e < d + 1 then 4 else 0), .int .i64 0]) ∧ Blk w' D 3 (ic (did.set i (d + 1))) ∧ Upd (At D) w w' := by
  have hi : i < n := by rw [← hl]; exact (List.getElem?_eq_some_iff.1 hd).1
  have a0 := hb.cell1 0 _ rfl
  have x0 := hX.cell1 0 _ rfl
  have e0 := hE.cell1 0 _ rfl
  have d0 := hD.cell1 i (.int .i64 d) (by simp [ic, hd])
  have z0 := hD.frozen i
  have nb := hD.ne hb (by decide)
  have lD := hD.lt
  have lb := hb.lt
  have lX := hX.lt
  have lE := hE.lt
  have hi' : (i : Int) < (n : Int) := by omega
  have hi0 : (0 : Int) ≤ (i : Int) := by omega
  have nb' := nb.symm
  have n1' := n1.symm
  have n2' := n2.symm
  by_cases hc : e < d + 1
  · have hc' : ((e : Int) < (d : Int) + 1) := by omega
    rw [if_pos hc]
    go_enter Try.func26, Try.ntmps26
    go_wp2
    go_region
    go_wp2
    refine bodyPost_ret (v := .agg #[.int .i64 4, .int .i64 0]) (by simp [results, Try.results26, go_sem]) rfl ⟨rfl, ?_, (((Upd.refl (At D) w).setCell (p := ⟨D, i, none⟩) (fun _ => rfl) _).alloc _).drew⟩
    have := ((hD.set i (.int .i64 ((d + 1 : Nat) : Int))).alloc (.cells #[.int .i64 4, .int .i64 0] 55)).drew
    rw [ic_set] at this
    exact this
  · have hc' : ¬ ((e : Int) < (d : Int) + 1) := by omega
    rw [if_neg hc]
    go_enter Try.func26, Try.ntmps26
    go_wp2
    go_region
    go_wp2
    refine bodyPost_ret (v := .agg #[.int .i64 0, .int .i64 0]) (by simp [results, Try.results26, go_sem]) rfl ⟨rfl, ?_, (((Upd.refl (At D) w).setCell (p := ⟨D, i, none⟩) (fun _ => rfl) _).alloc _).drew⟩
    have := ((hD.set i (.int .i64 ((d + 1 : Nat) : Int))).alloc (.cells #[.int .i64 0, .int .i64 0] 55)).drew
    rw [ic_set] at this
    exact this
def nth (l : List Nat) (i : Nat) : Nat := l.getD i 0
theorem nth_get {l : List Nat} {i : Nat} (h : i < l.length) : l[i]? = some (nth l i) := by unfold nth; rw [List.getD_eq_getElem?_getD, List.getElem?_eq_getElem h]; rfl
theorem nth_of {l : List Nat} {i x : Nat} (h : l[i]? = some x) : nth l i = x := by unfold nth; rw [List.getD_eq_getElem?_getD, h]; rfl
theorem nth_same {l : List Nat} {i x : Nat} (h : i < l.length) : nth (l.set i x) i = x := nth_of (by simp [h])
theorem nth_ne {l : List Nat} {i j x : Nat} (h : i ≠ j) : nth (l.set i x) j = nth l j := by unfold nth; rw [List.getD_eq_getElem?_getD, List.getD_eq_getElem?_getD, List.getElem?_set_ne h]
/-- A task of SchedTurns. -/
def tuK (dB : Nat) (X E : Nat → Nat) (i e d s : Nat) : Tk := ⟨tName, if e < d then .nilFunc else .func (.func 26) #[] #[ptr dB, ptr (X i), ptr (E i)], if e < d then 4 else 0, 0, s, false⟩
def tuT (dB : Nat) (X E : Nat → Nat) (es did sn : List Nat) (n : Nat) : List Tk := (List.range n).map fun i => tuK dB X E i (nth es i) (nth did i) (nth sn i)
theorem tuT_at {dB : Nat} {X E : Nat → Nat} {es did sn : List Nat} {n i : Nat} (h : i < n) : (tuT dB X E es did sn n)[i]? = some (tuK dB X E i (nth es i) (nth did i) (nth sn i)) := by
  simp [tuT, h]
theorem tuT_set {dB : Nat} {X E : Nat → Nat} {es did sn : List Nat} {n x d s : Nat} (hx : x < n) (hd : did.length = n) (hs : sn.length = n) : (tuT dB X E es did sn n).set x (tuK dB X E x (nth es x) d s) = tuT dB X E es (did.set x d) (sn.set x s) n := by
  apply List.ext_getElem?
  intro i
  rw [List.getElem?_set]
  by_cases hi : i < n
  · rw [tuT_at hi, tuT_at hi]
    by_cases e : x = i
    · subst e
      rw [nth_same (by omega), nth_same (by omega)]
      simp [tuT, hi]
    · rw [nth_ne e, nth_ne e]
      simp [e]
  · have h1 : ∀ (did sn : List Nat), (tuT dB X E es did sn n)[i]? = none := fun _ _ => by simp [tuT]; omega
    rw [h1, h1]
    have : x ≠ i := by omega
    simp [this]
theorem may_tu {dB : Nat} {X E : Nat → Nat} {i e d s st : Nat} : mayB (fun _ => none) st (tuK dB X E i e d s) = decide (d ≤ e) := by
  unfold mayB tuK
  by_cases h : e < d
  · simp [h]
  · simp [h]; omega
theorem tuK_step {dB : Nat} {X E : Nat → Nat} {i e d s st : Nat} (h : ¬ e < d) : (tuK dB X E i e d s).goes.wished (if e < d + 1 then 4 else 0) 0 (st + 1) = tuK dB X E i e (d + 1) (st + 1) := by
  unfold Tk.wished Tk.goes tuK
  by_cases hc : e < d + 1
  · simp [hc, plainK, plainO]
  · simp [hc, plainK, plainO, h]
structure Tu (w W : World) (b : Nat) (rv : Value) (m : Nat) (ps : List Nat) (es did last sn : List Nat) (n dB D la : Nat) (X E : Nat → Nat) (st : Nat) : Prop where
  sc : Sc W b rv m ps (tuT dB X E es did sn n) (fun _ => none) st false st
  hb : Blk W dB 30 [.slice (some ⟨D, 0, none⟩) n n]
  hD : Blk W D 3 (ic did)
  hX : ∀ i, i < n → Blk W (X i) 3 [.int .i64 i]
  hE : ∀ i, i < n → Blk W (E i) 3 [.int .i64 (nth es i : Nat)]
  hla : Blk W la 3 (ic last)
  lps : ps.length = n
  les : es.length = n
  ldid : did.length = n
  llast : last.length = n
  lsn : sn.length = n
  hes : ∀ i, nth es i < 256
  hdid : ∀ i, nth did i ≤ 256
  hsn : ∀ i, nth sn i ≤ st
  bel : Below w.heap.size w W
structure TuN (N : Nat) (b : Nat) (rv : Value) (m : Nat) (ps : List Nat) (n D la : Nat) (X E : Nat → Nat) : Prop where
  dx : ∀ i, i < n → D ≠ X i
  de : ∀ i, i < n → D ≠ E i
  lx : ∀ i, i < n → la ≠ X i
  le : ∀ i, i < n → la ≠ E i
  dl : D ≠ la
  old : N ≤ D
  oldl : N ≤ la
  olds : ∀ k, SB b rv m ps k → N ≤ k
theorem Tu.ok {w W : World} {b : Nat} {rv : Value} {m : Nat} {ps : List Nat} {es did last sn : List Nat} {n dB D la : Nat} {X E : Nat → Nat} {st : Nat} (h : Tu w W b rv m ps es did last sn n dB D la X E st) : ∀ t ∈ tuT dB X E es did sn n, TkOk st t := by
  intro t ht
  simp only [tuT, List.mem_map] at ht
  obtain ⟨i, _, rfl⟩ := ht
  have := h.hsn i
  refine ⟨?_, ?_, ?_, ?_⟩
  · unfold tuK I64; dsimp only; split <;> omega
  · unfold tuK I64; dsimp only; omega
  · unfold tuK; dsimp only; omega
  · unfold tuK; dsimp only; omega
theorem tu_pick {w W : World} {b : Nat} {rv : Value} {m : Nat} {ps : List Nat} {es did last sn : List Nat} {n dB D la : Nat} {X E : Nat → Nat} {st : Nat} (h : Tu w W b rv m ps es did last sn n dB D la X E st) (hN : TuN w.heap.size b rv m ps n D la X E) (hn : n ≤ 64) (hst : st < 100000) {L : List Nat} (hL : nums (mayB (fun _ => none) st) 0 (tuT dB X E es did sn n) = L) {x : Nat} (hx : L[st % L.length]? = some x) :
    Calls Try.prog 16 #[ptr b, .int .i64 st] W fun e w' => e = .returned (.tuple #[.int .i64 x, .int .i64 0]) ∧ x < n ∧ nth did x ≤ nth es x ∧ Tu w w' b rv m ps es (did.set x (nth did x + 1)) last (sn.set x (st + 1)) n dB D la X E (st + 1) := by
  have hxm : x ∈ nums (mayB (fun _ => none) st) 0 (tuT dB X E es did sn n) := by rw [hL]; exact List.mem_of_getElem? hx
  obtain ⟨j, t, hj, ht, hq⟩ := nums_iff.1 hxm
  obtain rfl : x = j := by omega
  have hxn : x < n := by
    have := (List.getElem?_eq_some_iff.1 ht).1
    simpa [tuT] using this
  rw [tuT_at hxn] at ht
  cases ht
  rw [may_tu] at hq
  have hde : nth did x ≤ nth es x := by simpa using hq
  have hnd : ¬ nth es x < nth did x := by omega
  have hes := h.hes x
  have hdd := h.hdid x
  have hdx : did[x]? = some (nth did x) := nth_get (by rw [h.ldid]; exact hxn)
  have e1 := pick_any h.sc (by unfold maxLen; omega) (by rw [h.lps]; exact hn) (by omega) h.ok hL (i := st) (j := st) (by omega) (by omega) hx (tuT_at hxn) 26 #[] #[ptr dB, ptr (X x), ptr (E x)] (by unfold tuK; dsimp only; rw [if_neg hnd]) (fun w => by kernel_rfl)
    (At D) (fun k hk => by rw [hk]; exact h.hD.lt)
    (fun w2 k' o2 ts2 H2 => k' = (if nth es x < nth did x + 1 then 4 else 0) ∧ o2 = 0 ∧ ts2 = (tuT dB X E es did sn n).set x (tuK dB X E x (nth es x) (nth did x) (nth sn x)).goes ∧ H2 = lockd (fun _ => none) (tuK dB X E x (nth es x) (nth did x) (nth sn x)) x ∧ Blk w2 D 3 (ic (did.set x (nth did x + 1))) ∧ ∀ B t cs, Blk W B t cs → ¬ SB b rv m ps B → B ≠ D → Blk w2 B t cs)
    (fun w1 hs hu => by
      have nS : ∀ B t cs, Blk W B t cs → ¬ SB b rv m ps B → Blk w1 B t cs := fun B t cs hB hn => hB.upd hu hn
      have k1 := nS _ _ _ h.hb (h.sc.not_sb h.hb (by decide) (by decide) (by decide))
      have k2 := nS _ _ _ h.hD (h.sc.not_sb h.hD (by decide) (by decide) (by decide))
      have k3 := nS _ _ _ (h.hX x hxn) (h.sc.not_sb (h.hX x hxn) (by decide) (by decide) (by decide))
      have k4 := nS _ _ _ (h.hE x hxn) (h.sc.not_sb (h.hE x hxn) (by decide) (by decide) (by decide))
      refine (turn1_any k1 k2 k3 k4 (hN.dx x hxn) (hN.de x hxn) h.ldid hdx (by omega) (by omega) hn).mono ?_
      rintro e w2 ⟨rfl, hD2, hU⟩
      refine ⟨_, 0, _, _, rfl, hs.upd hU ?_, hU, rfl, rfl, rfl, rfl, hD2, ?_⟩
      · intro k hk hh
        rw [hh] at hk
        exact hs.not_sb k2 (by decide) (by decide) (by decide) hk
      · intro B t cs hB hn hne
        exact (nS _ _ _ hB hn).upd hU hne)
  refine e1.mono ?_
  rintro e w3 ⟨w2, k', o2, ts2, H2, t2, he, ⟨rfl, rfl, rfl, rfl, q1, q2⟩, ht2, hS3, ⟨hU3, hRw⟩, hU4⟩
  rw [List.getElem?_set] at ht2
  simp [tuT, hxn] at ht2
  subst ht2
  have keep : ∀ B t cs cs2, Blk W B t cs → ¬ SB b rv m ps B → Blk w2 B t cs2 → Blk w3 B t cs2 := by
    intro B t cs cs2 h1 hn h2
    refine h2.upd hU3 ?_
    rintro ((e | e) | e)
    · exact hn (.inl e)
    · exact hn (.inr (.inr (.inr e)))
    · have := h1.lt; omega
  have kp : ∀ B t cs, Blk W B t cs → ¬ SB b rv m ps B → B ≠ D → Blk w3 B t cs := fun B t cs hB hn hne => keep B t cs cs hB hn (q2 B t cs hB hn hne)
  have nD := h.sc.not_sb h.hD (by decide) (by decide) (by decide)
  refine ⟨by rw [he]; rfl, hxn, hde, ?_, kp _ _ _ h.hb (h.sc.not_sb h.hb (by decide) (by decide) (by decide)) (h.hb.ne h.hD (by decide)), keep _ _ _ _ h.hD nD q1, ?_, ?_, ?_, h.lps, h.les, by simp [h.ldid], h.llast, by simp [h.lsn], h.hes, ?_, ?_, ?_⟩
  · rw [List.set_set] at hS3
    have e2 := tuK_step (dB := dB) (X := X) (E := E) (i := x) (s := nth sn x) (st := st) hnd
    rw [e2, tuT_set hxn h.ldid h.lsn] at hS3
    have e3 : lockd (fun _ => none) (tuK dB X E x (nth es x) (nth did x) (nth sn x)) x = fun _ => none := by
      unfold lockd tuK
      simp [hnd]
    rw [e3] at hS3
    exact hS3
  · intro i hi
    exact kp _ _ _ (h.hX i hi) (h.sc.not_sb (h.hX i hi) (by decide) (by decide) (by decide)) (fun e => hN.dx i hi e.symm)
  · intro i hi
    exact kp _ _ _ (h.hE i hi) (h.sc.not_sb (h.hE i hi) (by decide) (by decide) (by decide)) (fun e => hN.de i hi e.symm)
  · exact kp _ _ _ h.hla (h.sc.not_sb h.hla (by decide) (by decide) (by decide)) (fun e => hN.dl e.symm)
  · intro i
    by_cases e : i = x
    · subst e
      rw [nth_same (by rw [h.ldid]; exact hxn)]
      omega
    · rw [nth_ne (fun h => e h.symm)]
      exact h.hdid i
  · intro i
    by_cases e : i = x
    · subst e
      rw [nth_same (by rw [h.lsn]; exact hxn)]
      omega
    · rw [nth_ne (fun h => e h.symm)]
      have := h.hsn i
      omega
  · exact h.bel.trans ⟨hU4.os, hU4.tape, hU4.output, hU4.size, fun k hk => hU4.block k (Nat.lt_of_lt_of_le hk h.bel.size) (fun hh => by
      rcases hh with hh | hh
      · have := hN.olds k hh; omega
      · have := hN.old; rw [hh] at hk; omega)⟩
end Go.Proofs.Ytkdjahgndkdnhaa
