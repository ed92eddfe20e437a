/-
  Both tell the same: mathematics of Get and of the ends.
  The reference's Add, whatever is put in; the two tables side by side.
  What All and Back go through, as lists of the table.
  Turned: entries the other way about.
  One call by both.
-/
import Derived.Test.YtocanjefonlnaaaDoorIf
import Derived.Test.YtocanjefonlnaaaDoorZa
import Derived.Test.YtocanjefonlnaaaDoorIk
import Derived.Test.YtocanjefonlnaaaDoorIl
import Derived.Test.YtocanjefonlnaaaDoorHi
import Derived.Test.YtocanjefonlnaaaDoorIb
import Derived.Test.YtocanjefonlnaaaDoorIa
import Derived.Test.YtocanjefonlnaaaDoorHh
import Derived.Lib.AppendZeros
import Derived.Test.YtocanjefonlnaaaDoorHf
namespace Go.Proofs.YtocanjefonlnaaaDoor
set_option linter.unusedVariables false
set_option linter.unusedSimpArgs false
theorem mx_ge {how : Int} {key : ByteArray} {seq : Int} : ∀ {R : List Tm} {t : Tm}, t ∈ R → ov how key seq t = true → t.s ≤ mx how key seq R
  | [], t, h, _ => by cases h
  | x :: r, t, h, ho => by
    rw [show x :: r = [x] ++ r from rfl, mx_app]
    rcases List.mem_cons.1 h with rfl | h
    · have : t.s ≤ mx how key seq [t] := by unfold mx; simp [ho]; omega
      omega
    · have := mx_ge h ho
      omega
theorem mx_at {how : Int} {key : ByteArray} {seq : Int} : ∀ {R : List Tm}, (∀ t ∈ R, 0 ≤ t.s) → R.any (ov how key seq) = true → ∃ t ∈ R, ov how key seq t = true ∧ t.s = mx how key seq R := by
  intro R
  induction R with
  | nil => intro _ h; simp at h
  | cons x r ih =>
    intro h0 h
    have hx0 := h0 x List.mem_cons_self
    have hr0 : ∀ t ∈ r, 0 ≤ t.s := fun t ht => h0 t (List.mem_cons_of_mem _ ht)
    rw [show x :: r = [x] ++ r from rfl, mx_app]
    by_cases hr : r.any (ov how key seq) = true
    · obtain ⟨t, h1, h2, h3⟩ := ih hr0 hr
      by_cases hx : ov how key seq x = true
      · have h4 : mx how key seq [x] = max x.s 0 := by unfold mx; simp [hx, mx]
        by_cases hle : x.s ≤ t.s
        · exact ⟨t, by simp [h1], h2, by rw [h4, ← h3]; have := hr0 t h1; omega⟩
        · exact ⟨x, by simp, hx, by rw [h4, ← h3]; omega⟩
      · have h4 : mx how key seq [x] = 0 := by unfold mx; simp [hx, mx]
        exact ⟨t, by simp [h1], h2, by rw [h4, ← h3]; have := hr0 t h1; omega⟩
    · have hr' : r.any (ov how key seq) = false := by simpa using hr
      have hx : ov how key seq x = true := by
        simp only [List.any_cons, hr', Bool.or_false] at h; exact h
      have h4 : mx how key seq [x] = max x.s 0 := by unfold mx; simp [hx, mx]
      exact ⟨x, by simp, hx, by rw [h4, mx_none hr']; omega⟩
theorem hid_none (how : Int) (key : ByteArray) (seq : Int) (t : Tm) : hidB how key seq none t = ov how key seq t := by
  unfold hidB ovB ov
  by_cases h1 : cmpH how t.b key ≤ 0 <;> by_cases h2 : cmpH how key t.e < 0 <;> by_cases h3 : t.s ≤ seq <;> simp [h1, h2, h3]
theorem hid_some (how : Int) (key : ByteArray) (seq : Int) (n : Ent) (t : Tm) : hidB how key seq (some n) t = (ov how key seq t && decide (n.s < t.s)) := by
  unfold hidB ovB ov
  by_cases h1 : cmpH how t.b key ≤ 0 <;> by_cases h2 : cmpH how key t.e < 0 <;> by_cases h3 : t.s ≤ seq <;> simp [h1, h2, h3]
theorem rg_get {how : Int} {st : Ms} (hI : Inv how st) (key : ByteArray) (seq : Int) : rgV how st.E st.R key seq = getV how st.E st.R key seq (posE how st.E key seq 2) := by
  rw [getV_look hI.se hI.kd, ovr_S hI.sr hI.sq]
  unfold rgV gV ovS
  cases look st.E key seq with
  | none =>
    simp only [funext (hid_none how key seq), outV]
  | some n =>
    have e : hidB how key seq (some n) = fun t => (ov how key seq t && decide (n.s < t.s)) := funext (hid_some how key seq n)
    rw [e]
    have hiff : (st.R.any (fun t => (ov how key seq t && decide (n.s < t.s))) = true) ↔ (st.R.any (ov how key seq) = true ∧ n.s < mx how key seq st.R) := by
      constructor
      · intro h
        obtain ⟨t, h1, h2⟩ := List.any_eq_true.1 h
        simp only [Bool.and_eq_true, decide_eq_true_eq] at h2
        have := mx_ge h1 h2.1
        exact ⟨List.any_eq_true.2 ⟨t, h1, h2.1⟩, by omega⟩
      · rintro ⟨h1, h2⟩
        obtain ⟨t, a, b, c⟩ := mx_at hI.sq h1
        exact List.any_eq_true.2 ⟨t, a, by simp only [Bool.and_eq_true, decide_eq_true_eq]; exact ⟨b, by omega⟩⟩
    simp only [outV]
    by_cases h : st.R.any (fun t => (ov how key seq t && decide (n.s < t.s))) = true
    · rw [if_pos h, if_pos (hiff.1 h)]
    · rw [if_neg h, if_neg (fun hh => h (hiff.2 hh))]
/-- The least and the greatest. -/
def IsL (l : List Int) (m : Int) : Prop := (l = [] ∧ m = 0) ∨ (m ∈ l ∧ ∀ x ∈ l, m ≤ x)
def IsM (l : List Int) (m : Int) : Prop := (l = [] ∧ m = 0) ∨ (m ∈ l ∧ ∀ x ∈ l, x ≤ m)
theorem fold_min : ∀ (l : List Int) (a : Int), (l.foldl min a = a ∨ l.foldl min a ∈ l) ∧ l.foldl min a ≤ a ∧ ∀ x ∈ l, l.foldl min a ≤ x
  | [], a => ⟨.inl rfl, Int.le_refl _, fun x h => by cases h⟩
  | y :: l, a => by
    obtain ⟨h1, h2, h3⟩ := fold_min l (min a y)
    simp only [List.foldl_cons]
    refine ⟨?_, by omega, fun x hx => ?_⟩
    · rcases h1 with h1 | h1
      · rw [h1]
        by_cases c : a ≤ y
        · left; omega
        · right; rw [show min a y = y by omega]; simp
      · right; exact List.mem_cons_of_mem _ h1
    · rcases List.mem_cons.1 hx with rfl | hx
      · omega
      · exact h3 x hx
theorem fold_max : ∀ (l : List Int) (a : Int), (l.foldl max a = a ∨ l.foldl max a ∈ l) ∧ a ≤ l.foldl max a ∧ ∀ x ∈ l, x ≤ l.foldl max a
  | [], a => ⟨.inl rfl, Int.le_refl _, fun x h => by cases h⟩
  | y :: l, a => by
    obtain ⟨h1, h2, h3⟩ := fold_max l (max a y)
    simp only [List.foldl_cons]
    refine ⟨?_, by omega, fun x hx => ?_⟩
    · rcases h1 with h1 | h1
      · rw [h1]
        by_cases c : y ≤ a
        · left; omega
        · right; rw [show max a y = y by omega]; simp
      · right; exact List.mem_cons_of_mem _ h1
    · rcases List.mem_cons.1 hx with rfl | hx
      · omega
      · exact h3 x hx
theorem lst_is (l : List Int) : IsL l (lst l) := by
  cases l with
  | nil => exact .inl ⟨rfl, rfl⟩
  | cons x r =>
    obtain ⟨h1, h2, h3⟩ := fold_min (x :: r) x
    refine .inr ⟨?_, h3⟩
    rcases h1 with h1 | h1
    · show (x :: r).foldl min x ∈ _
      rw [h1]; simp
    · exact h1
theorem mst_is (l : List Int) : IsM l (mst l) := by
  cases l with
  | nil => exact .inl ⟨rfl, rfl⟩
  | cons x r =>
    obtain ⟨h1, h2, h3⟩ := fold_max (x :: r) x
    refine .inr ⟨?_, h3⟩
    rcases h1 with h1 | h1
    · show (x :: r).foldl max x ∈ _
      rw [h1]; simp
    · exact h1
theorem IsL.one {l : List Int} {a b : Int} (h : IsL l a) (k : IsL l b) : a = b := by
  rcases h with ⟨e, h⟩ | ⟨h1, h2⟩
  · rcases k with ⟨_, k⟩ | ⟨k1, k2⟩
    · rw [h, k]
    · rw [e] at k1; cases k1
  · rcases k with ⟨e, k⟩ | ⟨k1, k2⟩
    · rw [e] at h1; cases h1
    · have := h2 b k1; have := k2 a h1; omega
theorem IsM.one {l : List Int} {a b : Int} (h : IsM l a) (k : IsM l b) : a = b := by
  rcases h with ⟨e, h⟩ | ⟨h1, h2⟩
  · rcases k with ⟨_, k⟩ | ⟨k1, k2⟩
    · rw [h, k]
    · rw [e] at k1; cases k1
  · rcases k with ⟨e, k⟩ | ⟨k1, k2⟩
    · rw [e] at h1; cases h1
    · have := h2 b k1; have := k2 a h1; omega
/-- All the numbers. -/
def nums (E : List Ent) (R : List Tm) : List Int := E.map (·.s) ++ R.map (·.s)
structure Ends (st : Ms) : Prop where
  l : IsL (nums st.E st.R) st.fi
  m : IsM (nums st.E st.R) st.la
theorem Ends.nil : Ends ⟨[], [], 0, 0, 0⟩ := ⟨.inl ⟨rfl, rfl⟩, .inl ⟨rfl, rfl⟩⟩
theorem Ends.rk {st : Ms} (h : Ends st) {E' : List Ent} {R' : List Tm} {seq : Int} (hs : 0 ≤ seq) (key val : ByteArray) (hm : ∀ x, x ∈ nums E' R' ↔ x = seq ∨ x ∈ nums st.E st.R) (hn : E'.length + R'.length = st.E.length + st.R.length + 1) : Ends (st.rk E' R' seq key val) := by
  have hlen : nums st.E st.R = [] ↔ st.E.length + st.R.length = 0 := by
    rw [← List.length_eq_zero_iff]; unfold nums; simp
  unfold Ms.rk
  refine ⟨.inr ⟨?_, ?_⟩, .inr ⟨?_, ?_⟩⟩
  · simp only []
    rcases h.l with ⟨e, h0⟩ | ⟨h1, h2⟩
    · rw [if_pos (by have := hlen.1 e; omega), Int.min_self]; exact (hm seq).2 (.inl rfl)
    · have hne : ¬ (E'.length : Int) + R'.length = 1 := fun e => by
        have : nums st.E st.R = [] := hlen.2 (by omega)
        rw [this] at h1; cases h1
      rw [if_neg hne]
      by_cases c : st.fi ≤ seq
      · rw [Int.min_eq_left c]; exact (hm _).2 (.inr h1)
      · rw [Int.min_eq_right (by omega)]; exact (hm _).2 (.inl rfl)
  · intro x hx
    simp only [] at hx ⊢
    rcases h.l with ⟨e, h0⟩ | ⟨h1, h2⟩
    · rw [if_pos (by have := hlen.1 e; omega), Int.min_self]
      rcases (hm x).1 hx with rfl | hx
      · exact Int.le_refl _
      · rw [e] at hx; cases hx
    · have hne : ¬ (E'.length : Int) + R'.length = 1 := fun e => by
        have : nums st.E st.R = [] := hlen.2 (by omega)
        rw [this] at h1; cases h1
      rw [if_neg hne]
      rcases (hm x).1 hx with rfl | hx
      · omega
      · have := h2 x hx; omega
  · simp only []
    rcases h.m with ⟨e, h0⟩ | ⟨h1, h2⟩
    · rw [h0, Int.max_eq_right hs]; exact (hm _).2 (.inl rfl)
    · by_cases c : st.la ≤ seq
      · rw [Int.max_eq_right c]; exact (hm _).2 (.inl rfl)
      · rw [Int.max_eq_left (by omega)]; exact (hm _).2 (.inr h1)
  · intro x hx
    simp only [] at hx ⊢
    rcases (hm x).1 hx with rfl | hx
    · omega
    · rcases h.m with ⟨e, h0⟩ | ⟨h1, h2⟩
      · rw [e] at hx; cases hx
      · have := h2 x hx; omega
theorem Ends.add {how : Int} {st : Ms} (h : Ends st) {seq : Int} (hs : 0 ≤ seq) (k : Int) (key val : ByteArray) : Ends (addM how st seq k key val).2 := by
  unfold addM
  split
  · exact h
  · split
    · exact h
    · split
      · exact h
      · split
        · split
          · exact h
          · have hp : posT how st.R ⟨key, val, seq⟩ ≤ st.R.length := tw_le _ _
            refine h.rk hs _ _ (fun x => ?_) (by rw [tins_len _ _ _ hp]; omega)
            unfold nums
            simp only [List.mem_append, List.mem_map]
            constructor
            · rintro (h1 | ⟨t, h1, h2⟩)
              · exact .inr (.inl h1)
              · rcases tins_mem h1 with rfl | h1
                · exact .inl h2.symm
                · exact .inr (.inr ⟨t, h1, h2⟩)
            · rintro (rfl | h1 | ⟨t, h1, h2⟩)
              · exact .inr ⟨⟨key, val, x⟩, by unfold tins; simp, rfl⟩
              · exact .inl h1
              · refine .inr ⟨t, ?_, h2⟩
                unfold tins
                rw [← List.take_append_drop (posT how st.R ⟨key, val, seq⟩) st.R] at h1
                rcases List.mem_append.1 h1 with h1 | h1
                · exact List.mem_append_left _ h1
                · exact List.mem_append_right _ (List.mem_cons_of_mem _ h1)
        · split
          · exact h
          · have hp : posE how st.E key seq k ≤ st.E.length := tw_le _ _
            refine h.rk hs _ _ (fun x => ?_) (by rw [eins_len _ _ _ hp]; omega)
            unfold nums
            simp only [List.mem_append, List.mem_map]
            constructor
            · rintro (⟨t, h1, h2⟩ | h1)
              · rcases eins_mem h1 with rfl | h1
                · exact .inl h2.symm
                · exact .inr (.inl ⟨t, h1, h2⟩)
              · exact .inr (.inr h1)
            · rintro (rfl | ⟨t, h1, h2⟩ | h1)
              · exact .inl ⟨⟨key, x, k, plainV k val⟩, by unfold eins; simp, rfl⟩
              · refine .inl ⟨t, ?_, h2⟩
                unfold eins
                rw [← List.take_append_drop (posE how st.E key seq k) st.E] at h1
                rcases List.mem_append.1 h1 with h1 | h1
                · exact List.mem_append_left _ h1
                · exact List.mem_append_right _ (List.mem_cons_of_mem _ h1)
              · exact .inr h1
end Go.Proofs.YtocanjefonlnaaaDoor
namespace Go.Proofs.YtocanjefonlnaaaDoor
open Go.RowKit
set_option linter.unusedVariables false
set_option linter.unusedSimpArgs false
theorem raddR_any {w : World} {D : Nat} {how : Int} {Bad : Nat → Prop} {st : Ms} (h : Rq w D how st.E st.R st.sz Bad) (hBad : ∀ k, Bad k → k < w.heap.size) (hI : Inv how st) (seq f k : Int) (key val : ByteArray) (hv : val.size ≤ 9223372036854775807) :
    Calls Tryd.prog 23 #[ptr D, .int .u64 seq, recV f k key val] w (RAdd w D how Bad (addM how st seq k key val)) := by
  by_cases h1 : 72057594037927935 < seq
  · have e : addM how st seq k key val = (1, st) := by unfold addM; rw [if_pos h1]
    rw [e]; exact radd_seq h seq f k key val h1
  by_cases h2 : chk k key val = 0
  · by_cases h3 : 8192 ≤ st.n
    · have e : addM how st seq k key val = (2, st) := by unfold addM; rw [if_neg h1, if_neg (by simp [h2]), if_pos h3]
      rw [e]; exact radd_full h seq f k key val hv (by omega) h2 h3 (by have := hI.n; omega)
    · by_cases h4 : k = 2
      · subst h4; exact radd_tomb h hBad hI seq f key val hv (by omega) h2 (by omega)
      · exact radd_entry h hBad hI seq f k key val hv (by omega) h2 (by omega) h4
  · have e : addM how st seq k key val = (chk k key val, st) := by unfold addM; rw [if_neg h1, if_pos h2]
    rw [e]; exact radd_chk h seq f k key val hv (by omega) h2
/-- The program's doings pass the reference's lists by. -/
theorem Rq.updB {w w' : World} {D : Nat} {how : Int} {E : List Ent} {R : List Tm} {sz : Int} {B : Nat → Prop} (h : Rq w D how E R sz B) (hD : ¬ B D) (U : Upd B w w') : Rq w' D how E R sz (grB B w w') := by
  obtain ⟨la, lc, ta, tc, hR, h1, h2, h3, h4, h5, h6⟩ := h.ex
  refine ⟨la, lc, ta, tc, ⟨hR.blk.upd U hD, ?_, ?_⟩, h1, h2, h3, h4, ?_, ?_⟩
  · rcases hR.rde with hE | ⟨b, o, e, hat⟩
    · exact .inl hE
    · by_cases hE : E = []
      · exact .inl hE
      · refine .inr ⟨b, o, e, fun j x hx => ?_⟩
        obtain ⟨y0, y1, y2, y3⟩ := hat j x hx
        have hb := h5 b o e hE
        exact ⟨Rg.cell_upd U hb y0, Rg.cell_upd U hb y1, Rg.cell_upd U hb y2, Rg.cell_upd U hb y3⟩
  · rcases hR.rdt with hE | ⟨g, cp, e, hat⟩
    · exact .inl hE
    · by_cases hE : R = []
      · subst hE
        refine .inr ⟨g, cp, e, fun j t ht => by simp at ht⟩
      · refine .inr ⟨g, cp, e, fun j x hx => ?_⟩
        obtain ⟨y0, y1, y2⟩ := hat j x hx
        injection e with e1 _ _
        have hb := h6 g 0 e1 hE
        exact ⟨Rg.cell_upd U hb y0, Rg.cell_upd U hb y1, Rg.cell_upd U hb y2⟩
  · intro g o e hE hb
    rcases hb with hb | ⟨hb, _⟩
    · exact h5 g o e hE hb
    · rcases hR.rde with hE' | ⟨b, o', e', hat⟩
      · exact hE hE'
      · rw [e] at e'; cases e'
        obtain ⟨x, hx⟩ : ∃ x, E[0]? = some x := by
          cases E with
          | nil => exact absurd rfl hE
          | cons x r => exact ⟨x, rfl⟩
        have := Rg.cell_lt (hat 0 x hx).1
        simp at this
        omega
  · intro g o e hE hb
    rcases hb with hb | ⟨hb, _⟩
    · exact h6 g o e hE hb
    · rcases hR.rdt with ⟨_, hE'⟩ | ⟨b, cp, e', hat⟩
      · exact hE hE'
      · injection e' with e1 _ _
        rw [e] at e1; cases e1
        obtain ⟨x, hx⟩ : ∃ x, R[0]? = some x := by
          cases R with
          | nil => exact absurd rfl hE
          | cons x r => exact ⟨x, rfl⟩
        have := Rg.cell_lt (hat 0 x hx).1
        simp at this
        omega
/-- The two tables side by side: the program's holds st, the reference's su. -/
structure Tw (w0 w : World) (T D : Nat) (B : Nat → Prop) (how : Int) (st su : Ms) : Prop where
  t : Tb w T B how st
  r : Rq w D how su.E su.R su.sz B
  hB : ∀ k, B k → k < w.heap.size
  hO : ∀ k, B k → w0.heap.size ≤ k
  hD : w0.heap.size ≤ D
  hDB : ¬ B D
  bel : Below w0.heap.size w0 w
  tz : Tz w0
theorem Tw.below {w0 w w' : World} {T D : Nat} {B : Nat → Prop} {how : Int} {st su : Ms} (h : Tw w0 w T D B how st su) (hb : Below w.heap.size w w') : Tw w0 w' T D B how st su :=
  ⟨h.t.below hb, h.r.below hb, fun k hk => Nat.lt_of_lt_of_le (h.hB k hk) hb.size, h.hO, h.hD, h.hDB, h.bel.trans (hb.mono h.bel.size), h.tz⟩
/-- Behind the program's Add. -/
theorem Tw.add {w0 w w' : World} {T D : Nat} {B : Nat → Prop} {how : Int} {st su st' : Ms} (h : Tw w0 w T D B how st su) (hT : Tb w' T (grB B w w') how st') (U : Upd B w w') : Tw w0 w' T D (grB B w w') how st' su := by
  have hbel : Below w0.heap.size w w' := U.below (fun k hk => Nat.lt_of_lt_of_le hk h.bel.size) h.hO
  refine ⟨hT, h.r.updB h.hDB U, fun k hk => ?_, fun k hk => ?_, h.hD, fun hk => ?_, h.bel.trans hbel, h.tz⟩
  · rcases hk with hk | hk
    · exact Nat.lt_of_lt_of_le (h.hB k hk) U.size
    · exact hk.2
  · rcases hk with hk | hk
    · exact h.hO k hk
    · exact Nat.le_trans h.bel.size hk.1
  · rcases hk with hk | hk
    · exact h.hDB hk
    · obtain ⟨la, lc, ta, tc, hR, _⟩ := h.r.ex
      have := hR.blk.lt
      omega
/-- Behind the reference's. -/
theorem Tw.radd {w0 w w' : World} {T D : Nat} {B : Nat → Prop} {how : Int} {st su su' : Ms} (h : Tw w0 w T D B how st su) (hR : Rq w' D how su'.E su'.R su'.sz B) (U : Upd (fun b => b = D) w w') : Tw w0 w' T D B how st su' := by
  have hbel : Below w0.heap.size w w' := U.below (fun k hk => Nat.lt_of_lt_of_le hk h.bel.size) (fun k hk => by rw [hk]; exact h.hD)
  exact ⟨h.t.upd U (fun k hk e => h.hDB (e ▸ hk)), hR, fun k hk => Nat.lt_of_lt_of_le (h.hB k hk) U.size, h.hO, h.hD, h.hDB, h.bel.trans hbel, h.tz⟩
end Go.Proofs.YtocanjefonlnaaaDoor
namespace Go.Proofs.YtocanjefonlnaaaDoor
open Go.RowKit
set_option linter.unusedVariables false
set_option linter.unusedSimpArgs false
theorem seq_all {w : World} {T : Nat} {B : Nat → Prop} {how : Int} {st : Ms} (h : Tb w T B how st) (hI : Inv how st) (U : ByteArray) (S K : Int) {B1 B2 : Nat} (c1 : w.cell? ⟨B1, 0, none⟩ = some (ptr T)) (c2 : Blk w B2 38 [.string U, .int .u64 S, .int .i64 K]) (n : Nat) (hn : 1 ≤ n) :
    SeqStopsK Fence.wide n Tryd.prog 52 #[.pointer (some ⟨B1, 0, none⟩), .pointer (some ⟨B2, 0, none⟩)] (fun x : Ent => #[ev x]) (Kq B) (fun ys => ys = st.E.drop (posE how st.E U S K)) (fun pre => ∃ k, k ≤ (st.E.drop (posE how st.E U S K)).length ∧ pre = (st.E.drop (posE how st.E U S K)).take k) (st.E.drop (posE how st.E U S K)).length w := by
  have hc0 := cutE_pos hI.se U S K
  obtain ⟨C, L, hC, _, _, _, _, hE, hS, _, _, hb1, _⟩ := h.ex
  generalize posE how st.E U S K = p at *
  rw [← hE] at hc0 ⊢
  have hc := hc0.cut
  rw [← hC] at hc
  have hA := all_stops n hn w B1 B2 T C L U S K p hc B hb1 hS c1 c2
  rw [List.map_drop] at hA
  rw [show ((L.map (·.e)).drop p).length = L.length - p by simp]
  exact hA
theorem bhd_posB {how : Int} {L : List Nd} {U : ByteArray} {S K : Int} (hs : SortE how (L.map (·.e))) {p : Nat} (hc : CutE how (L.map (·.e)) U S K p) : bhd L p U S K = posB how (L.map (·.e)) U S K := by
  have tw : ∀ (E : List Ent) (q : Nat), q ≤ E.length → (∀ i e, i < q → E[i]? = some e → okey how e U S K ≤ 0) → (∀ e, E[q]? = some e → ¬ okey how e U S K ≤ 0) → posB how E U S K = q := by
    intro E q hq h1 h2
    unfold posB
    have hle := tw_le (fun e => decide (okey how e U S K ≤ 0)) E
    rcases Nat.lt_trichotomy (E.takeWhile (fun e => decide (okey how e U S K ≤ 0))).length q with h | h | h
    · have hg := List.getElem?_eq_getElem (l := E) (i := (E.takeWhile (fun e => decide (okey how e U S K ≤ 0))).length) (by omega)
      have := tw_stop _ E _ hg
      have h3 := h1 _ _ h hg
      simp only [decide_eq_false_iff_not] at this
      exact absurd h3 this
    · exact h
    · have hg := List.getElem?_eq_getElem (l := E) (i := q) (by omega)
      have := tw_lo _ E q _ h hg
      exact absurd (by simpa using this) (h2 _ hg)
  have hlen : (L.map (·.e)).length = L.length := by simp
  unfold bhd isK
  cases hL : L[p]? with
  | none =>
    simp only [Bool.false_eq_true, if_false]
    refine (tw _ p hc.le (fun i e hi he => Int.le_of_lt (hc.lo i e hi he)) (fun e he => ?_)).symm
    rw [List.getElem?_map, hL] at he; cases he
  | some n =>
    have hn : (L.map (·.e))[p]? = some n.e := by rw [List.getElem?_map, hL]; rfl
    have hpl : p < L.length := (List.getElem?_eq_some_iff.1 hL).1
    have hge := hc.hi p n.e (Nat.le_refl _) hn
    simp only [decide_eq_true_eq]
    by_cases hk : n.e.u = U ∧ n.e.s = S ∧ n.e.k = K
    · rw [if_pos hk]
      obtain ⟨a, b, c⟩ := hk
      have hz : okey how n.e U S K = 0 := by unfold okey; rw [ordK_zero]; exact ⟨a, b, c⟩
      refine (tw _ (p + 1) (by omega) (fun i e hi he => ?_) (fun e he => ?_)).symm
      · by_cases hip : i < p
        · exact Int.le_of_lt (hc.lo i e hip he)
        · obtain rfl : i = p := by omega
          rw [hn] at he; cases he; omega
      · have hlt := hs p (p + 1) n.e e (by omega) hn he
        have hg2 := hc.hi (p + 1) e (by omega) he
        intro hle
        have hz2 : okey how e U S K = 0 := by omega
        unfold okey at hz2
        rw [ordK_zero] at hz2
        have h0 : ordK how n.e.u n.e.s n.e.k e.u e.s e.k = 0 := (ordK_zero _ _ _ _ _ _ _).2 ⟨by rw [a, hz2.1], by rw [b, hz2.2.1], by rw [c, hz2.2.2]⟩
        have : ordK how n.e.u n.e.s n.e.k e.u e.s e.k < 0 := hlt
        omega
    · rw [if_neg hk]
      refine (tw _ p hc.le (fun i e hi he => Int.le_of_lt (hc.lo i e hi he)) (fun e he hle => ?_)).symm
      rw [hn] at he; cases he
      have hz : okey how n.e U S K = 0 := by omega
      unfold okey at hz
      rw [ordK_zero] at hz
      exact hk hz
theorem seq_back {w : World} {T : Nat} {B : Nat → Prop} {how : Int} {st : Ms} (h : Tb w T B how st) (hI : Inv how st) (U : ByteArray) (S K : Int) {B1 B2 : Nat} (c1 : w.cell? ⟨B1, 0, none⟩ = some (ptr T)) (c2 : Blk w B2 38 [.string U, .int .u64 S, .int .i64 K]) (n : Nat) (hn : 1 ≤ n) :
    SeqStopsK Fence.wide n Tryd.prog 53 #[.pointer (some ⟨B1, 0, none⟩), .pointer (some ⟨B2, 0, none⟩)] (fun x : Ent => #[ev x]) (Kq B) (fun ys => ys = (st.E.take (posB how st.E U S K)).reverse) (fun pre => ∃ k, k ≤ (st.E.take (posB how st.E U S K)).reverse.length ∧ pre = (st.E.take (posB how st.E U S K)).reverse.take k) (st.E.take (posB how st.E U S K)).reverse.length w := by
  have hc0 := cutE_pos hI.se U S K
  have hs := hI.se
  obtain ⟨C, L, hC, _, _, _, _, hE, hS, _, _, hb1, _⟩ := h.ex
  generalize posE how st.E U S K = p at *
  rw [← hE] at hc0 hs ⊢
  have hbp := bhd_posB hs hc0
  have hc := hc0.cut
  have hle := bhd_le hc
  rw [← hC] at hc
  have hA := back_stops n hn w B1 B2 T C L U S K p hc B hb1 hS c1 c2
  rw [hbp] at hA hle
  rw [List.map_reverse, List.map_take] at hA
  rw [show ((L.map (·.e)).take (posB how (L.map (·.e)) U S K)).reverse.length = posB how (L.map (·.e)) U S K by simp; omega]
  exact hA
end Go.Proofs.YtocanjefonlnaaaDoor
namespace Go.Proofs.YtocanjefonlnaaaDoor
open Go.RowKit
set_option linter.unusedVariables false
set_option linter.unusedSimpArgs false
theorem row_slc {w : World} {v : Value} {n : Nat} {xs : List Value} (h : w.ownsRow 0 56 4 v n xs) : ∃ a c, v = .slice a n c := by
  rcases h.2 with ⟨e, h1⟩ | ⟨g, cap, cur, e, hg⟩
  · exact ⟨none, 0, by rw [e, h1]⟩
  · exact ⟨_, _, e⟩
theorem rev_step {E : List Ent} {k : Nat} {x : Ent} (hx : E[k]? = some x) : (E.drop (k + 1)).reverse ++ [x] = (E.drop k).reverse := by
  obtain ⟨h1, rfl⟩ := List.getElem?_eq_some_iff.1 hx
  rw [List.drop_eq_getElem_cons h1, List.reverse_cons]
set_option maxRecDepth 100000 in
set_option maxHeartbeats 1000000 in
theorem turned_any {w : World} {a : Option Addr} {E : List Ent} (h : RdE w a E) (c : Nat) (hN : E.length ≤ 100000) :
    Calls Tryd.prog 26 #[.slice a E.length c] w fun e w' => ∃ a' c', e = .returned (.slice a' E.length c') ∧ RdE w' a' E.reverse ∧ Below w.heap.size w w' := by
  obtain ⟨N, hNN⟩ : ∃ N, Hid (E.length = N) := ⟨_, rfl⟩
  have HR : Hid (RdE w a E) := h
  have hb0 : Below w.heap.size w (w.alloc (.cells #[] 56)) := (Below.refl _ _).alloc (Nat.le_refl _) _
  have hr0 : (w.alloc (.cells #[] 56)).ownsRow 0 56 4 (.slice (some ⟨w.heap.size, 0, none⟩) 0 0) 0 (ecs []) := ⟨rfl, .inr ⟨w.heap.size, 0, #[], rfl, Nat.zero_le _, heap_alloc_new w _, Nat.le_refl _, by unfold maxLen; omega, rfl, rfl⟩⟩
  have HS : Hid ((w.alloc (.cells #[] 56)).ownsRow 0 56 4 (.slice (some ⟨w.heap.size, 0, none⟩) 0 0) (E.drop N).reverse.length (ecs (E.drop N).reverse) ∧ Below w.heap.size w (w.alloc (.cells #[] 56)) ∧ ∀ k, Value.ownBlock (.slice (some ⟨w.heap.size, 0, none⟩) 0 0) = some k → w.heap.size ≤ k) := by
    have e0 : E.drop N = [] := List.drop_eq_nil_of_le (by rw [hNN.out]; exact Nat.le_refl _)
    rw [e0]
    exact ⟨hr0, hb0, fun k hk => by cases hk; exact Nat.le_refl _⟩
  rw [hNN.out] at hN ⊢
  clear h hr0 hb0
  go_enter Tryd.func26, Tryd.ntmps26
  go_wp2_with fail
  go_loopw [3, 4] (fun s3 s4 wr => ∃ (k : Nat) (va : Option Addr) (n vc : Nat), k + n = N ∧ s3 = .slice va n vc ∧ s4 = .int .i64 ((k : Int) - 1) ∧ Hid (wr.ownsRow 0 56 4 (.slice va n vc) (E.drop k).reverse.length (ecs (E.drop k).reverse) ∧ Below w.heap.size w wr ∧ ∀ j, Value.ownBlock (.slice va n vc) = some j → w.heap.size ≤ j)) (fun _ s4 _ => (intOf s4 + 1).toNat)
  case atStart => exact ⟨N, _, 0, 0, by omega, rfl, rfl, HS.out⟩
  case round =>
    clear HS
    obtain ⟨k, va, n, vc, hk, rfl, rfl, HI⟩ := hrel
    rcases Nat.eq_zero_or_pos k with h0 | h0
    · subst h0
      have HE : Hid (∃ a' c', va = a' ∧ vc = c' ∧ n = N ∧ RdE wr a' E.reverse ∧ Below w.heap.size w wr) := by
        obtain ⟨r1, r2, _⟩ := HI.out
        rw [List.drop_zero] at r1
        obtain ⟨a', c', e1, h1⟩ := row_rde r1
        injection e1 with e1 e2 e3
        exact ⟨va, vc, rfl, rfl, by omega, by rw [e1]; exact h1, r2⟩
      obtain ⟨a', c', rfl, rfl, rfl, h1, h2⟩ := HE.out
      have H1 : Hid _ := h1
      have H2 : Hid _ := h2
      clear HE HI h1 h2
      go_wp2_with fail
      go_ret
      first | exact ⟨va, vc, rfl, H1.out, H2.out⟩ | exact ⟨va, ⟨vc, rfl⟩, H1.out, H2.out⟩
    · obtain ⟨j, rfl⟩ : ∃ j, k = j + 1 := ⟨k - 1, by omega⟩
      have hj1 : (((j + 1 : Nat) : Int) - 1) = (j : Int) := by omega
      have hj2 : ((j : Int) + 1 - 1) = (j : Int) := by omega
      have hjl : j < E.length := by rw [hNN.out]; omega
      obtain ⟨x, hx⟩ : ∃ x, E[j]? = some x := ⟨_, List.getElem?_eq_getElem hjl⟩
      obtain ⟨b, off, rfl, hat⟩ : ∃ b off, a = some ⟨b, off, none⟩ ∧ ∀ (j : Nat) (e : Ent), E[j]? = some e → EAt w b (off + j * 4) e := by
        rcases HR.out with h | h
        · rw [h] at hx; simp at hx
        · exact h
      obtain ⟨y0, y1, y2, y3⟩ := hat j x hx
      obtain ⟨r1, r2, r3⟩ := HI.out
      have z0 := keepc r2 y0
      have z1 := keepc r2 y1
      have z2 := keepc r2 y2
      have z3 := keepc r2 y3
      have hln : (E.drop (j + 1)).reverse.length = n := by rw [List.length_reverse, List.length_drop, hNN.out]; omega
      have hB := Blk.new wr 56 x.c
      have r1' : (wr.alloc (.cells x.c.toArray 56)).ownsRow 0 56 4 (.slice va n vc) (E.drop (j + 1)).reverse.length (ecs (E.drop (j + 1)).reverse) := row_upd r1 ((Upd.refl Non _).alloc _) (fun _ _ h => h)
      obtain ⟨v9, w9, hr9, g1, g2, g3⟩ := push_ent r1' hB 51 (by rw [hln]; omega)
      rw [rev_step hx] at g1
      have hln2 : (E.drop j).reverse.length = n + 1 := by rw [List.length_reverse, List.length_drop, hNN.out]; omega
      obtain ⟨va', vc', rfl⟩ := row_slc g1
      rw [hln2] at g1 hr9 g3
      have HF9 : Hid (w9.ownsRow 0 56 4 (.slice va' (n + 1) vc') (E.drop j).reverse.length (ecs (E.drop j).reverse) ∧ Below w.heap.size w w9 ∧ ∀ i, Value.ownBlock (.slice va' (n + 1) vc') = some i → w.heap.size ≤ i) := by
        have hbA : Below w.heap.size w (wr.alloc (.cells x.c.toArray 56)) := r2.alloc r2.size _
        refine ⟨by rw [hln2]; exact g1, hbA.trans (g2.below (fun i hi => Nat.lt_of_lt_of_le hi hbA.size) (fun i hi => r3 i hi)), fun i hi => ?_⟩
        rcases g3 with e | e
        · exact r3 i (by rw [← e]; exact hi)
        · rw [e] at hi; cases hi; exact hbA.size
      have hr9' : (Builtin.append_ #[51, 51] 51 #[.slice va n vc, .slice (some ⟨wr.heap.size, 0, none⟩) 1 1]).run Tryd.prog (wr.alloc (.cells #[.string x.u, .int .u64 x.s, .int .i64 x.k, .string x.v] 56)) = .ok (.slice va' (n + 1) vc') w9 := hr9
      have hjN : (j : Int) < (N : Int) := by omega
      rw [hj1]
      clear hat y0 y1 y2 y3 HI r1 r2 r3 r1' hB hr9 g1 g2 g3 hx hln hln2 hjl hj1
      go_wp2_with (at_builtin; refine Lib.wpList_append_run _ rfl _ _ _ _ rfl _ _ rfl rfl _ _ hr9' ?_)
      go_roundw
      case rel => exact ⟨j, va', n + 1, vc', by omega, rfl, by first | rfl | go_num, HF9.out⟩
      case measure => first | (simp [intOf]; done) | (simp [intOf]; omega)
end Go.Proofs.YtocanjefonlnaaaDoor
namespace Go.Proofs.YtocanjefonlnaaaDoor
open Go.RowKit
set_option linter.unusedVariables false
set_option linter.unusedSimpArgs false
/-- An act. -/
structure Am where
  ak : Int
  stop : Int
  seq : Int
  f : Int
  rk : Int
  rkey : ByteArray
  rval : ByteArray
  U : ByteArray
  S : Int
  K : Int
def Am.c (x : Am) : List Value := [.int .i64 x.ak, .int .i64 x.stop, .int .u64 x.seq, .int .u32 x.f, .int .i64 x.rk, .string x.rkey, .string x.rval, .string x.U, .int .u64 x.S, .int .i64 x.K]
structure AmOk (x : Am) : Prop where
  s0 : 0 ≤ x.seq
  rv : x.rval.size ≤ 9223372036854775807
theorem rg_rde {w : World} {a : Option Addr} {l : List Ent} (h : Rg.Rd Ent.c 4 w a l) : RdE w a l := by
  rcases h with h | ⟨g, o, e, h⟩
  · exact .inl h
  · exact .inr ⟨g, o, e, fun j x hx => ⟨h j x hx 0 _ rfl, h j x hx 1 _ rfl, h j x hx 2 _ rfl, h j x hx 3 _ rfl⟩⟩
/-- What a call leaves. -/
def Dn (w0 : World) (T D : Nat) (how : Int) (w' : World) : Prop := ∃ B st, Tw w0 w' T D B how st st ∧ Inv how st ∧ Ends st
set_option maxRecDepth 100000 in
set_option maxHeartbeats 8000000 in
theorem does_any {w0 w : World} {T D : Nat} {B : Nat → Prop} {how : Int} {st : Ms} (h : Tw w0 w T D B how st st) (hI : Inv how st) (hE : Ends st) {x : Am} (hx : AmOk x) :
    Calls Tryd.prog 10 #[ptr T, ptr D, .agg #[.int .i64 x.ak, .int .i64 x.stop, .int .u64 x.seq, .int .u32 x.f, .int .i64 x.rk, .string x.rkey, .string x.rval, .string x.U, .int .u64 x.S, .int .i64 x.K]] w fun e w' => e = .returned (.bool true) ∧ Dn w0 T D how w' := by
  obtain ⟨ak, stop, seq, f, rk, rkey, rval, U, S, K⟩ := x
  obtain ⟨s0, rv⟩ := hx
  dsimp only at *
  obtain ⟨w1, hw1⟩ : ∃ W, w.alloc (.cells #[.int .i64 ak, .int .i64 stop, .int .u64 seq, .int .u32 f, .int .i64 rk, .string rkey, .string rval, .string U, .int .u64 S, .int .i64 K] 40) = W := ⟨_, rfl⟩
  have hb1 : Below w.heap.size w w1 := by rw [← hw1]; exact (Below.refl _ _).alloc (Nat.le_refl _) _
  have X1 : Blk w1 w.heap.size 40 [.int .i64 ak, .int .i64 stop, .int .u64 seq, .int .u32 f, .int .i64 rk, .string rkey, .string rval, .string U, .int .u64 S, .int .i64 K] := by rw [← hw1]; exact Blk.new w 40 _
  have D1 := h.below hb1
  have hDl : D < w.heap.size := by obtain ⟨la, lc, ta, tc, hR, _⟩ := h.r.ex; exact hR.blk.lt
  have hBl := h.hB
  obtain ⟨bx, hbx⟩ : ∃ bx, w.heap.size = bx := ⟨_, rfl⟩
  rw [hbx] at X1 hDl hBl
  have x0 := X1.cell1 0 _ rfl
  clear h hb1
  go_enter Tryd.func10, Tryd.ntmps10
  go_upto_region 2 with fail
  clear hw1
  by_cases z0 : ak = 0
  · subst z0
    have D1d : Tw w0 w1.drew T D B how st st := D1.below ((Below.refl _ w1).drew)
    have HA := add_any D1d.t hI (D1d.tz.below D1d.bel) D1d.hB seq f rk rkey rval
    have HRa : ∀ W B', Tw w0 W T D B' how (addM how st seq rk rkey rval).2 st → Calls Tryd.prog 23 #[ptr D, .int .u64 seq, recV f rk rkey rval] W (RAdd W D how B' (addM how st seq rk rkey rval)) := fun W B' hW => raddR_any hW.r hW.hB hI seq f rk rkey rval rv
    have I2 := inv_add hI s0 rk rkey rval
    have E2 := hE.add (how := how) s0 rk rkey rval
    generalize addM how st seq rk rkey rval = q at *
    obtain ⟨q1, s3⟩ := q
    dsimp only at *
    have x2 := X1.cell1 2 _ rfl
    have x3 := X1.cell1 3 _ rfl
    have x4 := X1.cell1 4 _ rfl
    have x5 := X1.cell1 5 _ rfl
    have x6 := X1.cell1 6 _ rfl
    have X1' : Hid (Blk w1.drew bx 40 [.int .i64 0, .int .i64 stop, .int .u64 seq, .int .u32 f, .int .i64 rk, .string rkey, .string rval, .string U, .int .u64 S, .int .i64 K]) := X1.drew
    clear X1
    go_upto_region 3 with fail
    go_region_held_law (fun w' => w'.cell? ⟨bx, 2, none⟩ = some (.int .u64 seq) ∧ w'.cell? ⟨bx, 3, none⟩ = some (.int .u32 f) ∧ w'.cell? ⟨bx, 4, none⟩ = some (.int .i64 rk) ∧ w'.cell? ⟨bx, 5, none⟩ = some (.string rkey) ∧ w'.cell? ⟨bx, 6, none⟩ = some (.string rval))
      (first
        | (go_keep; done)
        | exact ⟨Blk.cell1 X4.out 2 _ rfl, Blk.cell1 X4.out 3 _ rfl, Blk.cell1 X4.out 4 _ rfl, Blk.cell1 X4.out 5 _ rfl, Blk.cell1 X4.out 6 _ rfl⟩
        | exact ⟨Blk.cell1 X3.out 2 _ rfl, Blk.cell1 X3.out 3 _ rfl, Blk.cell1 X3.out 4 _ rfl, Blk.cell1 X3.out 5 _ rfl, Blk.cell1 X3.out 6 _ rfl⟩)
      (first
        | (go_at_call 12; refine HA.mono ?_; rintro e w3 ⟨rfl, hT3, U3⟩
           have D3 := D1d.add hT3 U3
           have X3 : Hid (Blk w3 bx 40 [.int .i64 0, .int .i64 stop, .int .u64 seq, .int .u32 f, .int .i64 rk, .string rkey, .string rval, .string U, .int .u64 S, .int .i64 K]) := X1'.out.upd U3 (fun hb => by have := hBl bx hb; omega)
           have HR := HRa _ _ D3
           clear HA HRa)
        | (go_at_call 23; refine HR.mono ?_; rintro e w4 ⟨rfl, hR4, U4⟩
           have D4 := D3.radd hR4 U4
           have X4 : Hid (Blk w4 bx 40 [.int .i64 0, .int .i64 stop, .int .u64 seq, .int .u32 f, .int .i64 rk, .string rkey, .string rval, .string U, .int .u64 S, .int .i64 K]) := X3.out.upd U4 (fun e => by omega)
           clear HR))
    go_wp2_with fail
    go_ret
    exact ⟨rfl, _, _, D4, I2, E2⟩
  by_cases z1 : ak = 1
  · subst z1
    obtain ⟨la, lc, ta, tc, hR, _⟩ := D1.r.ex
    have hln := hI.n
    unfold Ms.n at hln
    have HG := get_tb D1.t hI U seq
    have HRg : Hid (∀ W, Below w1.heap.size w1 W → Calls Tryd.prog 24 #[.pointer (some ⟨D, 0, none⟩), .string U, .int .u64 seq] W fun e w' => e = .returned (.tuple #[.string (getV how st.E st.R U seq (posE how st.E U seq 2)).1, .int .i64 (getV how st.E st.R U seq (posE how st.E U seq 2)).2.1, .bool (getV how st.E st.R U seq (posE how st.E U seq 2)).2.2]) ∧ Below W.heap.size W w') := fun W hW => by
      have := rget_any (hR.below hW) (by omega) (by omega) U seq
      rw [rg_get hI] at this
      exact this
    generalize getV how st.E st.R U seq (posE how st.E U seq 2) = q at *
    obtain ⟨q1, q2, q3⟩ := q
    dsimp only at *
    have x2 := X1.cell1 2 _ rfl
    have x7 := X1.cell1 7 _ rfl
    clear hR
    have D1' : Hid _ := D1
    go_wp2_with (first
      | (go_at_call 13; refine HG.mono ?_; rintro e w3 ⟨rfl, hb3⟩
         have X3 := X1.upd (S := Non) (Upd.ofBelow hb3) (fun h => h)
         have y2 := X3.cell1 2 _ rfl
         have y7 := X3.cell1 7 _ rfl
         have HR2 := HRg.out _ hb3
         clear HG)
      | (go_at_call 24; refine HR2.mono ?_; rintro e w4 ⟨rfl, hb4⟩; clear HR2))
    go_ret
    exact ⟨rfl, _, _, D1'.out.below (hb3.trans (hb4.mono hb3.size)), hI, hE⟩
  have hln := hI.n
  unfold Ms.n at hln
  by_cases z2 : ak = 2
  · subst z2
    obtain ⟨la, lc, ta, tc, hR, hlc, _⟩ := D1.r.ex
    obtain ⟨N, hN⟩ : ∃ N, st.E.length = N := ⟨_, rfl⟩
    have hb := hR.blk
    rw [hN] at hb hlc
    have d0 := hb.cell1 0 _ rfl
    have d1 := hb.cell1 1 _ rfl
    have HAl := all_made (w := w1.drew) (T := T) (by obtain ⟨C, L, _, _, _, _, _, _, hS, _⟩ := D1.t.ex; exact hS.tab.lt) U S K
    obtain ⟨p, hp⟩ : ∃ p, posE how st.E U S K = p := ⟨_, rfl⟩
    have hpN : p ≤ N := by rw [← hp, ← hN]; exact tw_le _ _
    have HFi : Hid (∀ W, Below w1.heap.size w1 W → Calls Tryd.prog 25 #[.int .i64 how, .slice la N lc, .agg #[.string U, .int .u64 S, .int .i64 K]] W fun e w' => e = .returned (.int .i64 p) ∧ Below W.heap.size W w') := fun W hW => by
      have := rfirst_any (hR.below hW).rde how lc U S K (by omega)
      rw [hN, hp] at this; exact this
    have hcutL := cutK_run elem51 slc51 size56 la N lc p hpN
    have HGo : Hid (∀ W B1 B2, Below w1.heap.size w1 W → W.cell? ⟨B1, 0, none⟩ = some (ptr T) → Blk W B2 38 [.string U, .int .u64 S, .int .i64 K] → Calls Tryd.prog 17 #[.func (.func 52) #[] #[.pointer (some ⟨B1, 0, none⟩), .pointer (some ⟨B2, 0, none⟩)], .slice (cutK 4 la lc p) (N - p) (lc - p), .int .i64 stop] W fun e w' => e = .returned (.bool true) ∧ Below W.heap.size W w') := fun W B1 B2 hW c1 c2 => by
      have D2 := D1.below hW
      have hseq := seq_all D2.t hI U S K c1 c2 4 (by decide)
      rw [hp] at hseq
      have hr := rg_rde (rd_cut (m := p) (rde_rg (hR.below hW).rde) (by rw [hN]; exact hlc))
      have := goes_any (st.E.drop p) D2.hB (fun args w => enters_of (P := Tryd.prog) Tryd.func52 (by kernel_rfl) rfl args w) hseq hr (lc - p) (by rw [List.length_drop]; omega) stop
      rw [List.length_drop, hN] at this
      exact this
    have D1' : Hid _ := D1
    have X1' : Hid _ := X1
    have x1 := X1.cell1 1 _ rfl
    have x7 := X1.cell1 7 _ rfl
    have x8 := X1.cell1 8 _ rfl
    have x9 := X1.cell1 9 _ rfl
    clear hR hb hp hN D1 X1
    go_upto_region 9 with fail
    go_region_held_law (fun w' => w'.cell? ⟨D, 0, none⟩ = some (.int .i64 how) ∧ w'.cell? ⟨D, 1, none⟩ = some (.slice la N lc) ∧ w'.cell? ⟨bx, 1, none⟩ = some (.int .i64 stop) ∧ w'.cell? ⟨bx, 7, none⟩ = some (.string U) ∧ w'.cell? ⟨bx, 8, none⟩ = some (.int .u64 S) ∧ w'.cell? ⟨bx, 9, none⟩ = some (.int .i64 K))
      (first
        | (go_keep; done)
        | exact ⟨keepc hb5 d0, keepc hb5 d1, keepc hb5 x1, keepc hb5 x7, keepc hb5 x8, keepc hb5 x9⟩
        | exact ⟨keepc hb4 d0, keepc hb4 d1, keepc hb4 x1, keepc hb4 x7, keepc hb4 x8, keepc hb4 x9⟩
        | exact ⟨keepc hb3 d0, keepc hb3 d1, keepc hb3 x1, keepc hb3 x7, keepc hb3 x8, keepc hb3 x9⟩)
      (first
        | (go_at_call 15; refine HAl.mono ?_; rintro e w3 ⟨B1, B2, rfl, c1, c2, _, _, hb3'⟩
           have hb3 : Below w1.heap.size w1 w3 := ((Below.refl _ w1).drew).trans hb3'
           have HF := HFi.out _ hb3
           clear HAl)
        | (go_at_call 25; refine HF.mono ?_; rintro e w4 ⟨rfl, hb4'⟩
           have hb4 : Below w1.heap.size w1 w4 := hb3.trans (hb4'.mono hb3.size)
           have HG := HGo.out w4 B1 B2 hb4 (keepc hb4' c1) (c2.upd (S := Non) (Upd.ofBelow hb4') (fun h => h))
           clear HF)
        | (go_at_call 17; refine HG.mono ?_; rintro e w5 ⟨rfl, hb5'⟩
           have hb5 : Below w1.heap.size w1 w5 := hb4.trans (hb5'.mono hb4.size)
           clear HG))
    go_wp2_with fail
    go_ret
    exact ⟨rfl, _, _, D1'.out.below hb5, hI, hE⟩
  by_cases z3 : ak = 3
  · subst z3
    obtain ⟨la, lc, ta, tc, hR, hlc, _⟩ := D1.r.ex
    obtain ⟨N, hN⟩ : ∃ N, st.E.length = N := ⟨_, rfl⟩
    have hb := hR.blk
    rw [hN] at hb hlc
    have d0 := hb.cell1 0 _ rfl
    have d1 := hb.cell1 1 _ rfl
    have HAl := back_made (w := w1.drew) (T := T) (by obtain ⟨C, L, _, _, _, _, _, _, hS, _⟩ := D1.t.ex; exact hS.tab.lt) U S K
    obtain ⟨p, hp⟩ : ∃ p, posB how st.E U S K = p := ⟨_, rfl⟩
    have hpN : p ≤ N := by rw [← hp, ← hN]; exact tw_le _ _
    have HFi : Hid (∀ W, Below w1.heap.size w1 W → Calls Tryd.prog 27 #[.int .i64 how, .slice la N lc, .agg #[.string U, .int .u64 S, .int .i64 K]] W fun e w' => e = .returned (.int .i64 p) ∧ Below W.heap.size W w') := fun W hW => by
      have := rbehind_any (hR.below hW).rde how lc U S K (by omega)
      rw [hN, hp] at this; exact this
    have hcutH := cutH_run elem51 slc51 size56 la N lc p (by omega)
    have hlp : (st.E.take p).length = p := by rw [List.length_take]; omega
    have HTu : Hid (∀ W, Below w1.heap.size w1 W → Calls Tryd.prog 26 #[.slice la p lc] W fun e w' => ∃ a' c', e = .returned (.slice a' p c') ∧ RdE w' a' (st.E.take p).reverse ∧ Below W.heap.size W w') := fun W hW => by
      have := turned_any (rg_rde (rd_take (rde_rg (hR.below hW).rde) p)) lc (by rw [hlp]; omega)
      rw [hlp] at this; exact this
    have HGo : Hid (∀ W B1 B2 a' c', Below w1.heap.size w1 W → W.cell? ⟨B1, 0, none⟩ = some (ptr T) → Blk W B2 38 [.string U, .int .u64 S, .int .i64 K] → RdE W a' (st.E.take p).reverse → Calls Tryd.prog 17 #[.func (.func 53) #[] #[.pointer (some ⟨B1, 0, none⟩), .pointer (some ⟨B2, 0, none⟩)], .slice a' p c', .int .i64 stop] W fun e w' => e = .returned (.bool true) ∧ Below W.heap.size W w') := fun W B1 B2 a' c' hW c1 c2 hr => by
      have D2 := D1.below hW
      have hseq := seq_back D2.t hI U S K c1 c2 4 (by decide)
      rw [hp] at hseq
      have := goes_any (st.E.take p).reverse D2.hB (fun args w => enters_of (P := Tryd.prog) Tryd.func53 (by kernel_rfl) rfl args w) hseq hr c' (by rw [List.length_reverse, hlp]; omega) stop
      rw [List.length_reverse, hlp] at this
      exact this
    have D1' : Hid _ := D1
    have x1 := X1.cell1 1 _ rfl
    have x7 := X1.cell1 7 _ rfl
    have x8 := X1.cell1 8 _ rfl
    have x9 := X1.cell1 9 _ rfl
    clear hR hb hp hN D1 X1 hlp
    go_upto_region 11 with fail
    go_region_held_law (fun w' => w'.cell? ⟨D, 0, none⟩ = some (.int .i64 how) ∧ w'.cell? ⟨D, 1, none⟩ = some (.slice la N lc) ∧ w'.cell? ⟨bx, 1, none⟩ = some (.int .i64 stop) ∧ w'.cell? ⟨bx, 7, none⟩ = some (.string U) ∧ w'.cell? ⟨bx, 8, none⟩ = some (.int .u64 S) ∧ w'.cell? ⟨bx, 9, none⟩ = some (.int .i64 K))
      (first
        | (go_keep; done)
        | exact ⟨keepc hb6 d0, keepc hb6 d1, keepc hb6 x1, keepc hb6 x7, keepc hb6 x8, keepc hb6 x9⟩
        | exact ⟨keepc hb5 d0, keepc hb5 d1, keepc hb5 x1, keepc hb5 x7, keepc hb5 x8, keepc hb5 x9⟩
        | exact ⟨keepc hb4 d0, keepc hb4 d1, keepc hb4 x1, keepc hb4 x7, keepc hb4 x8, keepc hb4 x9⟩
        | exact ⟨keepc hb3 d0, keepc hb3 d1, keepc hb3 x1, keepc hb3 x7, keepc hb3 x8, keepc hb3 x9⟩)
      (first
        | (go_at_call 16; refine HAl.mono ?_; rintro e w3 ⟨B1, B2, rfl, c1, c2, _, _, hb3'⟩
           have hb3 : Below w1.heap.size w1 w3 := ((Below.refl _ w1).drew).trans hb3'
           have HF := HFi.out _ hb3
           clear HAl)
        | (go_at_call 27; refine HF.mono ?_; rintro e w4 ⟨rfl, hb4'⟩
           have hb4 : Below w1.heap.size w1 w4 := hb3.trans (hb4'.mono hb3.size)
           have HT := HTu.out _ hb4
           clear HF)
        | (go_at_call 26; refine HT.mono ?_; rintro e w5 ⟨a', c', rfl, hr5, hb5'⟩
           have hb5 : Below w1.heap.size w1 w5 := hb4.trans (hb5'.mono hb4.size)
           have hbq : Below w3.heap.size w3 w5 := hb4'.trans (hb5'.mono hb4'.size)
           have HG := HGo.out w5 B1 B2 a' c' hb5 (keepc hbq c1) (c2.upd (S := Non) (Upd.ofBelow hbq) (fun h => h)) hr5
           clear HT)
        | (go_at_call 17; refine HG.mono ?_; rintro e w6 ⟨rfl, hb6'⟩
           have hb6 : Below w1.heap.size w1 w6 := hb5.trans (hb6'.mono hb5.size)
           clear HG))
    go_wp2_with fail
    go_ret
    exact ⟨rfl, _, _, D1'.out.below hb6, hI, hE⟩
  go_wp2_with fail
  go_ret
  exact ⟨rfl, _, _, D1, hI, hE⟩
end Go.Proofs.YtocanjefonlnaaaDoor
