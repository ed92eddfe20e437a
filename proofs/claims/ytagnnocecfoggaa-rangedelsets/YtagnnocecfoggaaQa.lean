/-
  sort.Search at the two closures; most; reaching.
-/
import Derived.Test.YtagnnocecfoggaaSx
import Derived.Deep.LoopGhost
namespace Go.Proofs.Ytagnnocecfoggaa
open Go.RowKit
set_option linter.unusedVariables false
set_option linter.unusedSimpArgs false
set_option maxRecDepth 100000 in
set_option maxHeartbeats 1000000 in
theorem search60 {w : World} {n p c1 c2 : Nat} (hp : p ≤ n) (hn : n ≤ 100000) (hf : ∀ (W : World) (i : Nat), Below w.heap.size w W → i < n → Calls Try.prog 60 #[.int .i64 i, ptr c1, ptr c2] W fun e w' => e = .returned (.bool (decide (p ≤ i))) ∧ Below W.heap.size W w') :
    Calls Try.prog 59 #[.int .i64 n, .func (.func 60) #[] #[ptr c1, ptr c2]] w fun e w' => e = .returned (.int .i64 p) ∧ Below w.heap.size w w' := by
  have HF : Hid (∀ (W : World) (i : Nat), Below w.heap.size w W → i < n → Calls Try.prog 60 #[.int .i64 i, ptr c1, ptr c2] W fun e w' => e = .returned (.bool (decide (p ≤ i))) ∧ Below W.heap.size W w') := hf
  clear hf
  go_enter Try.func59, Try.ntmps59
  go_wp2_with fail
  go_loopg [5, 6] n (fun k s5 s6 wr => ∃ i j : Nat, k = j - i ∧ s5 = .int .i64 i ∧ s6 = .int .i64 j ∧ i ≤ p ∧ p ≤ j ∧ j ≤ n ∧ Hid (Below w.heap.size w wr))
  case atStart => exact ⟨0, n, rfl, rfl, rfl, Nat.zero_le _, hp, Nat.le_refl _, Below.refl _ _⟩
  case round =>
    obtain ⟨i, j, rfl, rfl, rfl, hip, hpj, hjN, HI⟩ := hrel
    by_cases hij : i < j
    · have hijz : (i : Int) < (j : Int) := by omega
      obtain ⟨m, hm⟩ : ∃ m, (i + j) / 2 = m := ⟨_, rfl⟩
      have hm1 : i ≤ m ∧ m < j := by omega
      have hw1 : IntKind.i64.wrap ((i : Int) + j) = (i : Int) + j := by rw [IntKind.wrap_i64]; omega
      have hw2 : IntKind.u64.wrap ((i : Int) + j) = (i : Int) + j := by rw [IntKind.wrap_u64]; omega
      have hdv : ((i : Int) + j) / 2 = m := by omega
      have hw3 : IntKind.i64.wrap (m : Int) = m := by rw [IntKind.wrap_i64]; omega
      have HC : Hid (Calls Try.prog 60 #[.int .i64 m, ptr c1, ptr c2] wr fun e w' => e = .returned (.bool (decide (p ≤ m))) ∧ Below wr.heap.size wr w') := HF.out wr m HI.out (by omega)
      clear hm
      rcases Nat.lt_or_ge m p with hmp | hmp
      · have hd : decide (p ≤ m) = false := by simp; omega
        rw [hd] at HC
        clear hd
        go_wp2_with (go_at_call 60; refine HC.out.mono ?_; rintro e w1 ⟨rfl, hb1⟩; have HI2 : Hid (Below w.heap.size w w1) := HI.out.trans (hb1.mono HI.out.size); clear hb1)
        go_roundg (j - (m + 1))
        case rel => exact ⟨m + 1, j, rfl, by go_num, rfl, by omega, hpj, hjN, HI2.out⟩
        case measure => omega
      · have hd : decide (p ≤ m) = true := by simp; omega
        rw [hd] at HC
        clear hd
        go_wp2_with (go_at_call 60; refine HC.out.mono ?_; rintro e w1 ⟨rfl, hb1⟩; have HI2 : Hid (Below w.heap.size w w1) := HI.out.trans (hb1.mono HI.out.size); clear hb1)
        go_roundg (m - i)
        case rel => exact ⟨i, m, rfl, rfl, rfl, hip, hmp, by omega, HI2.out⟩
        case measure => omega
    · obtain rfl : i = p := by omega
      obtain rfl : j = i := by omega
      go_wp2_with fail
      go_ret
      exact ⟨rfl, HI.out⟩
set_option maxRecDepth 100000 in
set_option maxHeartbeats 1000000 in
theorem search62 {w : World} {n p c1 c2 : Nat} (hp : p ≤ n) (hn : n ≤ 100000) (hf : ∀ (W : World) (i : Nat), Below w.heap.size w W → i < n → Calls Try.prog 62 #[.int .i64 i, ptr c1, ptr c2] W fun e w' => e = .returned (.bool (decide (p ≤ i))) ∧ Below W.heap.size W w') :
    Calls Try.prog 59 #[.int .i64 n, .func (.func 62) #[] #[ptr c1, ptr c2]] w fun e w' => e = .returned (.int .i64 p) ∧ Below w.heap.size w w' := by
  have HF : Hid (∀ (W : World) (i : Nat), Below w.heap.size w W → i < n → Calls Try.prog 62 #[.int .i64 i, ptr c1, ptr c2] W fun e w' => e = .returned (.bool (decide (p ≤ i))) ∧ Below W.heap.size W w') := hf
  clear hf
  go_enter Try.func59, Try.ntmps59
  go_wp2_with fail
  go_loopg [5, 6] n (fun k s5 s6 wr => ∃ i j : Nat, k = j - i ∧ s5 = .int .i64 i ∧ s6 = .int .i64 j ∧ i ≤ p ∧ p ≤ j ∧ j ≤ n ∧ Hid (Below w.heap.size w wr))
  case atStart => exact ⟨0, n, rfl, rfl, rfl, Nat.zero_le _, hp, Nat.le_refl _, Below.refl _ _⟩
  case round =>
    obtain ⟨i, j, rfl, rfl, rfl, hip, hpj, hjN, HI⟩ := hrel
    by_cases hij : i < j
    · have hijz : (i : Int) < (j : Int) := by omega
      obtain ⟨m, hm⟩ : ∃ m, (i + j) / 2 = m := ⟨_, rfl⟩
      have hm1 : i ≤ m ∧ m < j := by omega
      have hw1 : IntKind.i64.wrap ((i : Int) + j) = (i : Int) + j := by rw [IntKind.wrap_i64]; omega
      have hw2 : IntKind.u64.wrap ((i : Int) + j) = (i : Int) + j := by rw [IntKind.wrap_u64]; omega
      have hdv : ((i : Int) + j) / 2 = m := by omega
      have hw3 : IntKind.i64.wrap (m : Int) = m := by rw [IntKind.wrap_i64]; omega
      have HC : Hid (Calls Try.prog 62 #[.int .i64 m, ptr c1, ptr c2] wr fun e w' => e = .returned (.bool (decide (p ≤ m))) ∧ Below wr.heap.size wr w') := HF.out wr m HI.out (by omega)
      clear hm
      rcases Nat.lt_or_ge m p with hmp | hmp
      · have hd : decide (p ≤ m) = false := by simp; omega
        rw [hd] at HC
        clear hd
        go_wp2_with (go_at_call 62; refine HC.out.mono ?_; rintro e w1 ⟨rfl, hb1⟩; have HI2 : Hid (Below w.heap.size w w1) := HI.out.trans (hb1.mono HI.out.size); clear hb1)
        go_roundg (j - (m + 1))
        case rel => exact ⟨m + 1, j, rfl, by go_num, rfl, by omega, hpj, hjN, HI2.out⟩
        case measure => omega
      · have hd : decide (p ≤ m) = true := by simp; omega
        rw [hd] at HC
        clear hd
        go_wp2_with (go_at_call 62; refine HC.out.mono ?_; rintro e w1 ⟨rfl, hb1⟩; have HI2 : Hid (Below w.heap.size w w1) := HI.out.trans (hb1.mono HI.out.size); clear hb1)
        go_roundg (m - i)
        case rel => exact ⟨i, m, rfl, rfl, rfl, hip, hmp, by omega, HI2.out⟩
        case measure => omega
    · obtain rfl : i = p := by omega
      obtain rfl : j = i := by omega
      go_wp2_with fail
      go_ret
      exact ⟨rfl, HI.out⟩
/-- A set in memory. -/
structure St (w : World) (S : Nat) (how : Int) (a : Option Addr) (c : Nat) (L : List Fg) : Prop where
  blk : Blk w S 79 [.int .i64 how, .slice a L.length c]
  rd : RdF w a L
  cap : L.length ≤ c
theorem RdF.below {w w' : World} {a : Option Addr} {L : List Fg} (h : RdF w a L) (hb : Below w.heap.size w w') : RdF w' a L := by
  obtain ⟨ps, h1, h2, h3⟩ := h
  refine ⟨ps, h1, h2.below hb, fun i p f hp hf => ?_⟩
  obtain ⟨a1, a2, a3, a4⟩ := h3 i p f hp hf
  exact ⟨a1, a2, a3, a4.below hb⟩
theorem RdF.at_ {w : World} {a : Option Addr} {L : List Fg} (h : RdF w a L) {i : Nat} {f : Fg} (hf : L[i]? = some f) : ∃ g o pa pk, a = some ⟨g, o, none⟩ ∧ w.cell? ⟨g, o + i * 3, none⟩ = some (.string f.b) ∧ w.cell? ⟨g, o + i * 3 + 1, none⟩ = some (.string f.e) ∧ w.cell? ⟨g, o + i * 3 + 2, none⟩ = some (.slice pa f.q.length pk) ∧ Rd uc 1 w pa f.q := by
  obtain ⟨ps, h1, h2, h3⟩ := h
  obtain ⟨p, hp⟩ : ∃ p, ps[i]? = some p := ⟨_, List.getElem?_eq_getElem (by rw [h1]; exact (List.getElem?_eq_some_iff.1 hf).1)⟩
  obtain ⟨a1, a2, a3, a4⟩ := h3 i p f hp hf
  obtain ⟨g, o, e, hat⟩ := h2.at_ hp
  obtain ⟨c0, c1, c2⟩ := hat.p
  rw [a1] at c0
  rw [a2] at c1
  rw [a3] at c2
  exact ⟨g, o, p.a, p.k, e, c0, c1, c2, a4⟩
theorem St.below {w w' : World} {S : Nat} {how : Int} {a : Option Addr} {c : Nat} {L : List Fg} (h : St w S how a c L) (hb : Below w.heap.size w w') : St w' S how a c L := ⟨h.blk.upd (S := Non) (Upd.ofBelow hb) (fun h => h), h.rd.below hb, h.cap⟩
theorem gt_of {how : Int} {a b : ByteArray} : decide (0 < cmpH how a b) = kl how b a := by
  have := cmpH_neg how a b
  unfold kl
  rw [decide_eq_decide]
  omega
set_option maxRecDepth 100000 in
set_option maxHeartbeats 1000000 in
theorem reach1_any {w : World} {S c1 c2 : Nat} {how : Int} {a : Option Addr} {c : Nat} {L : List Fg} (h : St w S how a c L) (h1 : w.cell? ⟨c1, 0, none⟩ = some (ptr S)) {key : ByteArray} (h2 : w.cell? ⟨c2, 0, none⟩ = some (.string key)) {i : Nat} {f : Fg} (hf : L[i]? = some f) (hl : L.length ≤ 10000) :
    Calls Try.prog 60 #[.int .i64 i, ptr c1, ptr c2] w fun e w' => e = .returned (.bool (kl how key f.e)) ∧ Below w.heap.size w w' := by
  obtain ⟨g, o, pa, pk, rfl, t0, t1, t2, _⟩ := h.rd.at_ hf
  have s0 := h.blk.cell1 0 _ rfl
  have s1 := h.blk.cell1 1 _ rfl
  have hil : i < L.length := (List.getElem?_eq_some_iff.1 hf).1
  have hR : decide (0 < cmpH how f.e key) = kl how key f.e := gt_of
  rw [← hR]
  clear hR hf h
  obtain ⟨N, hN⟩ : ∃ N, Hid (N = L.length) := ⟨_, rfl⟩
  rw [← hN.out] at s1 hil hl
  have hiz : (i : Int) < N := by omega
  go_enter Try.func60, Try.ntmps60
  go_wp2_with fail
  go_quiet ((go_at_call 42; exact Calls.quiet_of_same (ccmp_any _ _ _ _)))
  go_wp2_with fail
  go_ret
  exact ⟨rfl, belN (Below.refl _ _) _⟩
set_option maxRecDepth 100000 in
set_option maxHeartbeats 1000000 in
theorem most1_any {w : World} {c1 c2 : Nat} {a : Option Addr} {c : Nat} {q : List Int} (h : Rd uc 1 w a q) (h1 : w.cell? ⟨c1, 0, none⟩ = some (.slice a q.length c)) {n : Int} (h2 : w.cell? ⟨c2, 0, none⟩ = some (.int .u64 n)) {i : Nat} {x : Int} (hx : q[i]? = some x) (hl : q.length ≤ 10000) :
    Calls Try.prog 62 #[.int .i64 i, ptr c1, ptr c2] w fun e w' => e = .returned (.bool (decide (x ≤ n))) ∧ Below w.heap.size w w' := by
  obtain ⟨g, o, rfl, hat⟩ := h.at_ hx
  have t0 := hat.u1
  rw [Nat.mul_one] at t0
  have hil : i < q.length := (List.getElem?_eq_some_iff.1 hx).1
  clear hx hat h
  obtain ⟨N, hN⟩ : ∃ N, Hid (N = q.length) := ⟨_, rfl⟩
  rw [← hN.out] at h1 hil hl
  have hiz : (i : Int) < N := by omega
  go_enter Try.func62, Try.ntmps62
  go_wp2_with fail
  go_quiet (fail)
  go_wp2_with fail
  go_ret
  exact ⟨rfl, belN (Below.refl _ _) _⟩
/-- Fragments in order. -/
structure FrO (how : Int) (L : List Fg) : Prop where
  be : ∀ f ∈ L, kl how f.b f.e = true
  up : L.Pairwise (fun f g => kle how f.e g.b = true)
def rch (how : Int) (L : List Fg) (k : ByteArray) : Nat := L.findIdx (fun f => kl how k f.e)
theorem findIdx_mono {α : Type} {p : α → Bool} {l : List α} (hm : ∀ (i j : Nat) (x y : α), i < j → l[i]? = some x → l[j]? = some y → p x = true → p y = true) {i : Nat} {x : α} (hx : l[i]? = some x) : p x = decide (l.findIdx p ≤ i) := by
  obtain ⟨hi, rfl⟩ := List.getElem?_eq_some_iff.1 hx
  rcases Nat.lt_or_ge i (l.findIdx p) with h | h
  · have := List.not_of_lt_findIdx h
    rw [show p l[i] = false by simpa using this]
    rw [eq_comm, decide_eq_false_iff_not]; omega
  · have hl : l.findIdx p < l.length := by omega
    have h0 := List.findIdx_getElem (w := hl)
    have : p l[i] = true := by
      rcases Nat.lt_or_ge (l.findIdx p) i with h1 | h1
      · exact hm _ _ _ _ h1 (List.getElem?_eq_getElem hl) (List.getElem?_eq_getElem hi) h0
      · have e : l.findIdx p = i := by omega
        simp only [e] at h0; exact h0
    rw [this, eq_comm, decide_eq_true_eq]; exact h
theorem FrO.mono {how : Int} {L : List Fg} (h : FrO how L) (k : ByteArray) : ∀ (i j : Nat) (x y : Fg), i < j → L[i]? = some x → L[j]? = some y → kl how k x.e = true → kl how k y.e = true := by
  intro i j x y hij hx hy hk
  obtain ⟨hi, rfl⟩ := List.getElem?_eq_some_iff.1 hx
  obtain ⟨hj, rfl⟩ := List.getElem?_eq_some_iff.1 hy
  have h1 := List.pairwise_iff_getElem.1 h.up i j hi hj hij
  exact (kl_sto how).tr _ _ _ (kl_kle hk h1) (h.be _ (List.getElem_mem hj))
theorem gt_mono {q : List Int} (h : Str gt q) (n : Int) : ∀ (i j : Nat) (x y : Int), i < j → q[i]? = some x → q[j]? = some y → decide (x ≤ n) = true → decide (y ≤ n) = true := by
  intro i j x y hij hx hy hk
  obtain ⟨hi, rfl⟩ := List.getElem?_eq_some_iff.1 hx
  obtain ⟨hj, rfl⟩ := List.getElem?_eq_some_iff.1 hy
  have h1 := List.pairwise_iff_getElem.1 h i j hi hj hij
  simp [gt] at h1 hk ⊢
  omega
set_option maxRecDepth 100000 in
set_option maxHeartbeats 1000000 in
theorem reach_any {w : World} {S : Nat} {how : Int} {a : Option Addr} {c : Nat} {L : List Fg} (h : St w S how a c L) (ho : FrO how L) (key : ByteArray) (hl : L.length ≤ 10000) :
    Calls Try.prog 41 #[ptr S, .string key] w fun e w' => e = .returned (.int .i64 (rch how L key)) ∧ Below w.heap.size w w' := by
  obtain ⟨W1, hW1⟩ : ∃ W1, W1 = (w.alloc (.cells #[ptr S] 35)).alloc (.cells #[.string key] 9) := ⟨_, rfl⟩
  have b1 : Below w.heap.size w W1 := by rw [hW1]; exact ((Below.refl _ _).alloc (Nat.le_refl _) _).alloc (by simp) _
  have hA : Blk W1 w.heap.size 35 [ptr S] := by rw [hW1]; exact (Blk.new w 35 [ptr S]).alloc _
  have hB : Blk W1 (w.heap.size + 1) 9 [.string key] := by
    rw [hW1]
    have := Blk.new (w.alloc (.cells #[ptr S] 35)) 9 [.string key]
    rw [World.size_alloc] at this; exact this
  have h' := h.below b1
  have s1 := h'.blk.cell1 1 _ rfl
  have a0 : W1.cell? ⟨w.heap.size, 0, none⟩ = some (.pointer (some ⟨S, 0, none⟩)) := hA.cell1 0 _ rfl
  have HS : Hid (Calls Try.prog 59 #[.int .i64 L.length, .func (.func 60) #[] #[ptr w.heap.size, ptr (w.heap.size + 1)]] W1 fun e w' => e = .returned (.int .i64 (rch how L key)) ∧ Below W1.heap.size W1 w') := by
    refine search60 List.findIdx_le_length (by omega) fun W i hb hi => ?_
    have := reach1_any (h'.below hb) (cell_below hb (hA.cell1 0 _ rfl)) (cell_below hb (hB.cell1 0 _ rfl)) (List.getElem?_eq_getElem hi) hl
    rw [findIdx_mono (ho.mono key) (List.getElem?_eq_getElem hi)] at this
    exact this
  have HB : Hid (Below w.heap.size w W1) := b1
  obtain ⟨R, hR⟩ : ∃ R, Hid (rch how L key = R) := ⟨_, rfl⟩
  rw [hR.out] at HS ⊢
  obtain ⟨N, hN⟩ : ∃ N, Hid (N = L.length) := ⟨_, rfl⟩
  rw [← hN.out] at HS s1
  clear h h' hA hB b1 ho
  go_enter Try.func41, Try.ntmps41
  go_upto_region 1 with fail
  rw [show (w.alloc (Obj.cells #[Value.pointer (some ⟨S, 0, none⟩)] 35)).alloc (Obj.cells #[Value.string key] 9) = W1 from hW1.symm]
  clear hW1
  go_wp2_with (go_at_call 59; refine HS.out.mono ?_; rintro e w2 ⟨rfl, hb2⟩; have HB2 : Hid (Below w.heap.size w w2) := HB.out.trans (hb2.mono HB.out.size); clear hb2)
  go_ret
  exact ⟨rfl, HB2.out⟩
theorem find_findIdx {α : Type} (l : List α) (p : α → Bool) : l.find? p = l[l.findIdx p]? := find_at l p _ (fun i x hi hx => by
  obtain ⟨h1, rfl⟩ := List.getElem?_eq_some_iff.1 hx
  have := List.not_of_lt_findIdx hi
  simpa using this) (fun x hx => by
  obtain ⟨h1, rfl⟩ := List.getElem?_eq_some_iff.1 hx
  exact List.findIdx_getElem (w := h1))
theorem mostQ_at {q : List Int} {n : Int} : mostQ q n = match q[q.findIdx (fun x => decide (x ≤ n))]? with | some x => x | none => 0 := by
  unfold mostQ
  rw [find_findIdx]
  cases q[q.findIdx fun x => decide (x ≤ n)]? <;> rfl
set_option maxRecDepth 100000 in
set_option maxHeartbeats 1000000 in
theorem most_any {w : World} {a : Option Addr} {c : Nat} {q : List Int} (h : Rd uc 1 w a q) (hq : Str gt q) (n : Int) (hl : q.length ≤ 10000) :
    Calls Try.prog 43 #[.slice a q.length c, .int .u64 n] w fun e w' => e = .returned (.int .u64 (mostQ q n)) ∧ Below w.heap.size w w' := by
  obtain ⟨W1, hW1⟩ : ∃ W1, W1 = (w.alloc (.cells #[.slice a q.length c] 61)).alloc (.cells #[.int .u64 n] 38) := ⟨_, rfl⟩
  have b1 : Below w.heap.size w W1 := by rw [hW1]; exact ((Below.refl _ _).alloc (Nat.le_refl _) _).alloc (by simp) _
  have hA : Blk W1 w.heap.size 61 [.slice a q.length c] := by rw [hW1]; exact (Blk.new w 61 [.slice a q.length c]).alloc _
  have hB : Blk W1 (w.heap.size + 1) 38 [.int .u64 n] := by
    rw [hW1]
    have := Blk.new (w.alloc (.cells #[.slice a q.length c] 61)) 38 [.int .u64 n]
    rw [World.size_alloc] at this; exact this
  have h' := h.below b1
  have a0 := hA.cell1 0 _ rfl
  obtain ⟨p, hp⟩ : ∃ p, Hid (q.findIdx (fun x => decide (x ≤ n)) = p) := ⟨_, rfl⟩
  have hpl : p ≤ q.length := by rw [← hp.out]; exact List.findIdx_le_length
  have HS : Hid (Calls Try.prog 59 #[.int .i64 q.length, .func (.func 62) #[] #[ptr w.heap.size, ptr (w.heap.size + 1)]] W1 fun e w' => e = .returned (.int .i64 p) ∧ Below W1.heap.size W1 w') := by
    refine search62 hpl (by omega) fun W i hb hi => ?_
    have := most1_any (h'.below hb) (cell_below hb (hA.cell1 0 _ rfl)) (cell_below hb (hB.cell1 0 _ rfl)) (List.getElem?_eq_getElem hi) hl
    have e := findIdx_mono (gt_mono hq n) (List.getElem?_eq_getElem hi)
    rw [hp.out] at e
    rw [e] at this
    exact this
  have HB : Hid (Below w.heap.size w W1) := b1
  have HR : Hid (Rd uc 1 W1 a q) := h'
  have HM : Hid (mostQ q n = match q[p]? with | some x => x | none => 0) := by
    show _ = _
    rw [mostQ_at, hp.out]
  obtain ⟨R, hR⟩ : ∃ R, Hid (mostQ q n = R) := ⟨_, rfl⟩
  rw [hR.out] at HM ⊢
  have HA : Hid (Blk W1 w.heap.size 61 [.slice a q.length c]) := hA
  obtain ⟨N, hN⟩ : ∃ N, Hid (N = q.length) := ⟨_, rfl⟩
  rw [← hN.out] at HS a0 hpl HA hW1 ⊢
  clear h h' hA hB b1 hq
  rcases Nat.lt_or_ge p N with hpN | hpN
  · obtain ⟨x, hx⟩ : ∃ x, q[p]? = some x := ⟨_, List.getElem?_eq_getElem (by rw [← hN.out]; exact hpN)⟩
    have hRx : x = R := by have := HM.out; rw [hx] at this; exact this.symm
    obtain ⟨g, o, rfl, hat⟩ := HR.out.at_ hx
    have hne : ((p : Int) == N) = false := by simp; omega
    have hpz : (p : Int) < N := by omega
    go_enter Try.func43, Try.ntmps43
    go_upto_region 1 with fail
    rw [show (w.alloc (Obj.cells #[Value.slice (some ⟨g, o, none⟩) N c] 61)).alloc (Obj.cells #[Value.int IntKind.u64 n] 38) = W1 from hW1.symm]
    clear hW1
    go_wp2_with (go_at_call 59; refine HS.out.mono ?_; rintro e w2 ⟨rfl, hb2⟩; have HB2 : Hid (Below w.heap.size w w2) := HB.out.trans (hb2.mono HB.out.size); have c0 := cell_below hb2 (HA.out.cell1 0 _ rfl); have c1 := cell_below hb2 hat.u1; rw [Nat.mul_one] at c1; clear hb2)
    go_ret
    exact ⟨by rw [← hRx]; rfl, HB2.out⟩
  · obtain rfl : p = N := by omega
    have hRx : 0 = R := by have := HM.out; rw [List.getElem?_eq_none (by rw [← hN.out]; omega)] at this; exact this.symm
    go_enter Try.func43, Try.ntmps43
    go_upto_region 1 with fail
    rw [show (w.alloc (Obj.cells #[Value.slice a p c] 61)).alloc (Obj.cells #[Value.int IntKind.u64 n] 38) = W1 from hW1.symm]
    clear hW1
    go_wp2_with (go_at_call 59; refine HS.out.mono ?_; rintro e w2 ⟨rfl, hb2⟩; have HB2 : Hid (Below w.heap.size w w2) := HB.out.trans (hb2.mono HB.out.size); have c0 := cell_below hb2 (HA.out.cell1 0 _ rfl); clear hb2)
    go_ret
    exact ⟨by rw [← hRx]; rfl, HB2.out⟩
end Go.Proofs.Ytagnnocecfoggaa
