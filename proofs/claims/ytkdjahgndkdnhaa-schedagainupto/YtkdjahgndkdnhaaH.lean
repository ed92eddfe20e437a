import Derived.Test.YtkdjahgndkdnhaaG
namespace Go.Proofs.Ytkdjahgndkdnhaa
open Go.RowKit Go.Maps
set_option linter.unusedVariables false
set_option linter.unusedSimpArgs false
def At (b : Nat) : Nat → Prop := fun k => k = b
set_option maxRecDepth 100000 in
set_option maxHeartbeats 800000 in
theorem lives1_any {w : World} {A F : Nat} {x f : Int} (hA : Blk w A 3 [.int .i64 x]) (hF : Blk w F 3 [.int .i64 f]) (hne : A ≠ F) (x0 : 0 ≤ x) (x1 : x < 1000) (f0 : 0 ≤ f) (f1 : f < 1000) :
    Calls Try.prog 45 #[ptr A, ptr F] w fun e w' => e = .returned (.agg #[.int .i64 1, .int .i64 ((f + (x + 1)) % 2)]) ∧ Blk w' A 3 [.int .i64 (x + 1)] ∧ Upd (At A) w w' := by
  have a0 := hA.cell1 0 _ rfl
  have z0 := hA.frozen 0
  have f0 := hF.cell1 0 _ rfl
  have la := hA.lt
  have lf := hF.lt
  have hne' := hne.symm
  go_enter Try.func45, Try.ntmps45
  go_wp2
  refine bodyPost_ret (v := .agg #[.int .i64 1, .int .i64 ((f + (x + 1)) % 2)]) (by simp [results, Try.results45, go_sem]) rfl ⟨rfl, (hA.set 0 _).alloc _, ((Upd.refl (At A) w).setCell (p := ⟨A, 0, none⟩) (fun _ => rfl) _).alloc _⟩
/-- A block of an int is none of the scheduler's. -/
theorem Sc.not_sb {w : World} {b : Nat} {rv : Value} {m : Nat} {ps : List Nat} {ts : List Tk} {H : Int → Option Int} {st : Nat} {wi : Bool} {c : Nat} (h : Sc w b rv m ps ts H st wi c) {B : Nat} {t : TypeId} {cs : List Value} (hB : Blk w B t cs) (h1 : t ≠ 71) (h2 : t ≠ 83) (h3 : t ≠ 85) : ¬ SB b rv m ps B := by
  obtain ⟨D, hD⟩ := h.map
  rintro (e | e | e | e)
  · exact hB.ne h.blk h1 e
  · exact row_ne h.row hB h2.symm B e rfl
  · exact hD.ne hB e.symm
  · obtain ⟨i, hi⟩ := List.mem_iff_getElem?.1 e
    have : i < ts.length := by rw [h.len]; exact (List.getElem?_eq_some_iff.1 hi).1
    exact hB.ne (h.tks i B _ hi (List.getElem?_eq_getElem this)) h3 rfl
def tName : ByteArray := ⟨#[116]⟩
/-- The tasks of lives. -/
def tkL (A F : Nat → Nat) (n : Nat) (k o : Int) (s : Int) : Tk := ⟨tName, .func (.func 45) #[] #[ptr (A n), ptr (F n)], k, o, s, false⟩
structure Lv (W : World) (b : Nat) (rv : Value) (m : Nat) (ps : List Nat) (ts : List Tk) (H : Int → Option Int) (st : Nat) (A F : Nat → Nat) (at_ : Nat → Int) (Q : Nat) (w : World) : Prop where
  sc : Sc W b rv m ps ts H st false st
  bA : ∀ n, n < 2 → Blk W (A n) 3 [.int .i64 (at_ n)]
  bF : ∀ n, n < 2 → Blk W (F n) 3 [.int .i64 n]
  bQ : Blk W Q 3 [.int .i64 0, .int .i64 1]
  bel : Below w.heap.size w W
structure LvN (A F : Nat → Nat) (Q N : Nat) (b : Nat) (rv : Value) (m : Nat) (ps : List Nat) : Prop where
  a01 : A 0 ≠ A 1
  af : ∀ n k, n < 2 → k < 2 → A n ≠ F k
  aq : ∀ n, n < 2 → A n ≠ Q
  old : ∀ n, n < 2 → N ≤ A n
  olds : ∀ k, SB b rv m ps k → N ≤ k
section
variable {w W : World} {b : Nat} {rv : Value} {m : Nat} {ps : List Nat} {ts : List Tk} {H : Int → Option Int} {st : Nat} {A F : Nat → Nat} {at_ : Nat → Int} {Q : Nat}
theorem lv_step (h : Lv W b rv m ps ts H st A F at_ Q w) (hN : LvN A F Q w.heap.size b rv m ps) (hl : ps.length = 2) (hst : st < 100) (ok : ∀ t ∈ ts, TkOk st t) {L : List Nat} (hL : nums (mayB H st) 0 ts = L) {j n : Nat} (hj : j < 100) (hn : L[j % L.length]? = some n) (hn2 : n < 2) {k o s : Int} (ht : ts[n]? = some (tkL A F n k o s)) (x0 : 0 ≤ at_ n) (x1 : at_ n < 1000) (o' : Int) (ho' : ((n : Int) + (at_ n + 1)) % 2 = o') :
    Calls Try.prog 16 #[ptr b, .int .i64 j] W fun e w' => e = .returned (.tuple #[.int .i64 n, .int .i64 0]) ∧ Lv w' b rv m ps (ts.set n (tkL A F n 1 o' (st + 1))) (lockd H (tkL A F n k o s) n) (st + 1) A F (fun i => if i = n then at_ n + 1 else at_ i) Q w := by
  have hlen := h.sc.len
  have hnl : n < ts.length := by omega
  have e1 := pick_any h.sc (by unfold maxLen; omega) (by omega) (by omega) ok hL (i := j) (j := j) (by omega) (by omega) hn ht 45 #[] #[ptr (A n), ptr (F n)] rfl (fun w => by kernel_rfl)
    (At (A n)) (fun k hk => by rw [hk]; exact (h.bA n hn2).lt)
    (fun w2 k' o2 ts2 H2 => k' = 1 ∧ o2 = o' ∧ ts2 = ts.set n (tkL A F n k o s).goes ∧ H2 = lockd H (tkL A F n k o s) n ∧ (∀ i, i < 2 → Blk w2 (A i) 3 [.int .i64 (if i = n then at_ n + 1 else at_ i)]) ∧ (∀ i, i < 2 → Blk w2 (F i) 3 [.int .i64 i]) ∧ Blk w2 Q 3 [.int .i64 0, .int .i64 1])
    (fun w1 hs hu => by
      have bA := fun i (hi : i < 2) => (h.bA i hi).upd hu (h.sc.not_sb (h.bA i hi) (by decide) (by decide) (by decide))
      have bF := fun i (hi : i < 2) => (h.bF i hi).upd hu (h.sc.not_sb (h.bF i hi) (by decide) (by decide) (by decide))
      have bQ := h.bQ.upd hu (h.sc.not_sb h.bQ (by decide) (by decide) (by decide))
      refine (lives1_any (bA n hn2) (bF n hn2) (hN.af n n hn2 hn2) x0 x1 (by omega) (by omega)).mono ?_
      rintro e w2 ⟨rfl, hA2, hU⟩
      refine ⟨1, o', _, _, by rw [ho'], hs.upd hU ?_, hU, rfl, rfl, rfl, rfl, ?_, ?_, bQ.upd hU (fun e => hN.aq n hn2 e.symm)⟩
      · intro k hk hh
        rw [hh] at hk
        exact hs.not_sb (bA n hn2) (by decide) (by decide) (by decide) hk
      · intro i hi
        by_cases e : i = n
        · subst e; simpa using hA2
        · rw [if_neg e]
          refine (bA i hi).upd hU ?_
          intro hh
          have := hN.a01
          have : i = 0 ∧ n = 1 ∨ i = 1 ∧ n = 0 := by omega
          unfold At at hh
          rcases this with ⟨rfl, rfl⟩ | ⟨rfl, rfl⟩
          · exact hN.a01 hh
          · exact hN.a01 hh.symm
      · intro i hi
        exact (bF i hi).upd hU (fun e => hN.af n i hn2 hi e.symm))
  refine e1.mono ?_
  rintro e w3 ⟨w2, k', o2, ts2, H2, t2, he, ⟨rfl, rfl, rfl, rfl, q1, q2, q3⟩, ht2, hS3, ⟨hU3, hRw⟩, hU4⟩
  rw [List.getElem?_set] at ht2
  simp [hnl] at ht2
  subst ht2
  have nB : ∀ (B : Nat) (cs cs2 : List Value), Blk w2 B 3 cs2 → Blk W B 3 cs → Blk w3 B 3 cs2 := by
    intro B cs cs2 h2 h1
    refine h2.upd hU3 ?_
    rintro ((e | e) | e)
    · exact h1.ne h.sc.blk (by decide) e
    · exact h.sc.not_sb h1 (by decide) (by decide) (by decide) (.inr (.inr (.inr e)))
    · have := h1.lt; omega
  refine ⟨by rw [he]; rfl, ?_, fun i hi => nB _ _ _ (q1 i hi) (h.bA i hi), fun i hi => nB _ _ _ (q2 i hi) (h.bF i hi), nB _ _ _ q3 h.bQ, ?_⟩
  · have e2 : ∀ z, (tkL A F n k o s).goes.wished 1 z (st + 1) = tkL A F n 1 z (st + 1) := by
      intro z
      simp [Tk.wished, plainK, plainO, Tk.goes, tkL]
    rw [List.set_set, e2] at hS3
    exact hS3
  · exact h.bel.trans ⟨hU4.os, hU4.tape, hU4.output, hU4.size, fun k hk => hU4.block k (Nat.lt_of_lt_of_le hk h.bel.size) (fun hh => by
      rcases hh with hh | hh
      · have := hN.olds k hh; omega
      · have := hN.old n hn2; rw [hh] at hk; omega)⟩
theorem Lv.cong {ts' : List Tk} {H' : Int → Option Int} {at' : Nat → Int} (h : Lv W b rv m ps ts H st A F at_ Q w) (e1 : ts = ts') (e2 : H = H') (e3 : ∀ i, i < 2 → at_ i = at' i) : Lv W b rv m ps ts' H' st A F at' Q w := by
  subst e1 e2
  exact ⟨h.sc, fun n hn => by rw [← e3 n hn]; exact h.bA n hn, h.bF, h.bQ, h.bel⟩
def lvT (A F : Nat → Nat) : Nat → List Tk
  | 0 => [tkL A F 0 0 0 0, tkL A F 1 0 0 0]
  | 1 => [tkL A F 0 1 1 1, tkL A F 1 0 0 0]
  | 2 => [tkL A F 0 1 1 1, tkL A F 1 1 0 2]
  | 3 => [tkL A F 0 1 0 3, tkL A F 1 1 0 2]
  | _ => [tkL A F 0 1 0 3, tkL A F 1 1 1 4]
def lvH : Nat → Int → Option Int
  | 0 => fun _ => none
  | 1 => fun _ => none
  | 2 => fun _ => none
  | 3 => fput (fun _ => none) 1 (some 0)
  | _ => fput (fput (fun _ => none) 1 (some 0)) 0 (some 1)
def lvA : Nat → Nat → Int
  | 0 => fun _ => 0
  | 1 => fun i => if i = 0 then 1 else 0
  | 2 => fun _ => 1
  | 3 => fun i => if i = 0 then 2 else 1
  | _ => fun _ => 2
theorem two {i : Nat} (h : i < 2) : i = 0 ∨ i = 1 := by omega
def LI (b : Nat) (rv : Value) (m : Nat) (ps : List Nat) (A F : Nat → Nat) (Q : Nat) (w : World) (k : Nat) (W : World) : Prop := k ≤ 4 ∧ Lv W b rv m ps (lvT A F k) (lvH k) k A F (lvA k) Q w
theorem lvT_ok (A F : Nat → Nat) (k : Nat) (hk : k ≤ 4) : ∀ t ∈ lvT A F k, TkOk k t := by
  intro t ht
  have : k = 0 ∨ k = 1 ∨ k = 2 ∨ k = 3 ∨ k = 4 := by omega
  rcases this with rfl | rfl | rfl | rfl | rfl <;> simp [lvT] at ht <;> rcases ht with rfl | rfl <;> constructor <;> simp [tkL, I64]
theorem lv_pick (hN : LvN A F Q w.heap.size b rv m ps) (hl : ps.length = 2) (k : Nat) (W : World) (h : LI b rv m ps A F Q w k W) :
    Calls Try.prog 16 #[ptr b, .int .i64 (pickAt [0, 1] k)] W fun e w' => (∃ n er, e = .returned (.tuple #[.int .i64 n, .int .i64 er]) ∧ er ≠ 8 ∧ LI b rv m ps A F Q w (k + 1) w') ∨ (e = .returned (.tuple #[.int .i64 0, .int .i64 8]) ∧ k = 4 ∧ LI b rv m ps A F Q w 4 w') := by
  obtain ⟨hk, hL⟩ := h
  have ok := lvT_ok A F k hk
  have : k = 0 ∨ k = 1 ∨ k = 2 ∨ k = 3 ∨ k = 4 := by omega
  rcases this with rfl | rfl | rfl | rfl | rfl
  · refine (lv_step hL hN hl (by omega) ok (L := [0, 1]) (by simp [lvT, nums, mayB, tkL, lvH]) (j := 0) (n := 0) (by omega) rfl (by omega) (k := 0) (o := 0) (s := 0) rfl (by simp [lvA]) (by simp [lvA]) 1 (by simp [lvA])).mono ?_
    rintro e w' ⟨rfl, hv⟩
    exact .inl ⟨_, _, rfl, by decide, by omega, hv.cong (by simp [lvT]) (by simp [lockd, tkL, lvH]) (fun i hi => by rcases two hi with rfl | rfl <;> simp [lvA])⟩
  · refine (lv_step hL hN hl (by omega) ok (L := [0, 1]) (by simp [lvT, nums, mayB, tkL, lvH]) (j := 1) (n := 1) (by omega) rfl (by omega) (k := 0) (o := 0) (s := 0) rfl (by simp [lvA]) (by simp [lvA]) 0 (by simp [lvA])).mono ?_
    rintro e w' ⟨rfl, hv⟩
    exact .inl ⟨_, _, rfl, by decide, by omega, hv.cong (by simp [lvT]) (by simp [lockd, tkL, lvH]) (fun i hi => by rcases two hi with rfl | rfl <;> simp [lvA])⟩
  · refine (lv_step hL hN hl (by omega) ok (L := [0, 1]) (by simp [lvT, nums, mayB, tkL, lvH]) (j := 0) (n := 0) (by omega) rfl (by omega) (k := 1) (o := 1) (s := 1) rfl (by simp [lvA]) (by simp [lvA]) 0 (by simp [lvA])).mono ?_
    rintro e w' ⟨rfl, hv⟩
    exact .inl ⟨_, _, rfl, by decide, by omega, hv.cong (by simp [lvT]) (by simp [lockd, tkL, lvH]) (fun i hi => by rcases two hi with rfl | rfl <;> simp [lvA])⟩
  · refine (lv_step hL hN hl (by omega) ok (L := [0, 1]) (by simp [lvT, nums, mayB, tkL, lvH, fput]) (j := 1) (n := 1) (by omega) rfl (by omega) (k := 1) (o := 0) (s := 2) rfl (by simp [lvA]) (by simp [lvA]) 1 (by simp [lvA])).mono ?_
    rintro e w' ⟨rfl, hv⟩
    exact .inl ⟨_, _, rfl, by decide, by omega, hv.cong (by simp [lvT]) (by simp [lockd, tkL, lvH]) (fun i hi => by rcases two hi with rfl | rfl <;> simp [lvA])⟩
  · refine (pick_none hL.sc (by omega) (by omega) ok (.inr (by simp [lvT, nums, mayB, tkL, lvH, fput])) _).mono ?_
    rintro e w' ⟨rfl, hB⟩
    refine .inr ⟨rfl, rfl, by omega, hL.sc.below hB, fun n hn => (hL.bA n hn).upd (S := Non) (Upd.ofBelow hB) (fun h => h), fun n hn => (hL.bF n hn).upd (S := Non) (Upd.ofBelow hB) (fun h => h), hL.bQ.upd (S := Non) (Upd.ofBelow hB) (fun h => h), hL.bel.trans (hB.mono hL.bel.size)⟩
end
end Go.Proofs.Ytkdjahgndkdnhaa
