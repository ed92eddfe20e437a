/-
  Tables and versions in memory; the leaves.
  The leaves of versions: a table behind another one, a table over a range.
  touch; how many tables a version has.
  Which versions can be: what both sides answer, as one function; a set of numbers as a map in memory.
-/
import Derived.Test.YtkmpcheamdadcaaRdec
import Derived.Laws.OwnMore
import Derived.Laws.Rows
import Derived.Maps.OwnSet
import Derived.Maps.RangeWalk
namespace Go.Proofs.Ytkmpcheamdadcaa
open Go.RowKit
set_option linter.unusedVariables false
set_option linter.unusedSimpArgs false
/-- A key. -/
structure Ky where
  u : ByteArray
  s : Int
  k : Int
/-- A table. -/
structure Fi where
  num : Int
  size : Int
  sm : Ky
  la : Ky
  ents : Int
  rngs : Int
instance : Inhabited Ky := ⟨⟨ByteArray.empty, 0, 0⟩⟩
instance : Inhabited Fi := ⟨⟨0, 0, default, default, 0, 0⟩⟩
def Fi.c (f : Fi) : List Value := [.int .u64 f.num, .int .u64 f.size, .string f.sm.u, .int .u64 f.sm.s, .int .i64 f.sm.k, .string f.la.u, .int .u64 f.la.s, .int .i64 f.la.k, .int .u64 f.ents, .int .u64 f.rngs]
abbrev Fi.v (f : Fi) : Value := .agg #[.int .u64 f.num, .int .u64 f.size, .string f.sm.u, .int .u64 f.sm.s, .int .i64 f.sm.k, .string f.la.u, .int .u64 f.la.s, .int .i64 f.la.k, .int .u64 f.ents, .int .u64 f.rngs]
abbrev Fi.o (f : Fi) : Obj := .cells #[.int .u64 f.num, .int .u64 f.size, .string f.sm.u, .int .u64 f.sm.s, .int .i64 f.sm.k, .string f.la.u, .int .u64 f.la.s, .int .i64 f.la.k, .int .u64 f.ents, .int .u64 f.rngs] 50
theorem fi_k : ∀ t : Fi, t.c.length = 10 := fun _ => rfl
theorem fi_1 : ∀ t : Fi, ∀ u ∈ t.c, u.oneCell' = true := fun t u hu => by
  simp [Fi.c] at hu
  rcases hu with rfl | rfl | rfl | rfl | rfl | rfl | rfl | rfl | rfl | rfl <;> rfl
abbrev RdF (w : World) (a : Option Addr) (l : List Fi) : Prop := Rd Fi.c 10 w a l
/-- The ten cells of a table at a place. -/
def F10 (w : World) (g o : Nat) (f : Fi) : Prop :=
  w.cell? ⟨g, o, none⟩ = some (.int .u64 f.num) ∧ w.cell? ⟨g, o + 1, none⟩ = some (.int .u64 f.size) ∧ w.cell? ⟨g, o + 2, none⟩ = some (.string f.sm.u) ∧ w.cell? ⟨g, o + 3, none⟩ = some (.int .u64 f.sm.s) ∧ w.cell? ⟨g, o + 4, none⟩ = some (.int .i64 f.sm.k) ∧
  w.cell? ⟨g, o + 5, none⟩ = some (.string f.la.u) ∧ w.cell? ⟨g, o + 6, none⟩ = some (.int .u64 f.la.s) ∧ w.cell? ⟨g, o + 7, none⟩ = some (.int .i64 f.la.k) ∧ w.cell? ⟨g, o + 8, none⟩ = some (.int .u64 f.ents) ∧ w.cell? ⟨g, o + 9, none⟩ = some (.int .u64 f.rngs)
theorem At.f {w : World} {g o : Nat} {f : Fi} (h : At Fi.c w g o f) : F10 w g o f :=
  ⟨h 0 _ rfl, h 1 _ rfl, h 2 _ rfl, h 3 _ rfl, h 4 _ rfl, h 5 _ rfl, h 6 _ rfl, h 7 _ rfl, h 8 _ rfl, h 9 _ rfl⟩
theorem info50 : (Try.prog.info? 50).map (fun i => (i.zero, i.size, i.bytes)) = some (some (.agg #[.int .u64 0, .int .u64 0, .string ⟨#[]⟩, .int .u64 0, .int .i64 0, .string ⟨#[]⟩, .int .u64 0, .int .i64 0, .int .u64 0, .int .u64 0]), 10, 96) := by kernel_rfl
theorem info23 : (Try.prog.info? 23).map (fun i => (i.zero, i.size, i.bytes)) = some (some (.int .u64 0), 1, 8) := by kernel_rfl
def uc (s : Int) : List Value := [.int .u64 s]
theorem uc_k : ∀ t : Int, (uc t).length = 1 := fun _ => rfl
theorem uc_1 : ∀ t : Int, ∀ u ∈ uc t, u.oneCell' = true := fun t u hu => by simp [uc] at hu; subst hu; rfl
abbrev RowF (w : World) (base : Nat) (v : Value) (l : List Fi) : Prop := w.ownsRow base 50 10 v l.length (cls Fi.c l)
abbrev RowU (w : World) (base : Nat) (v : Value) (l : List Int) : Prop := w.ownsRow base 23 1 v l.length (cls uc l)

/-- Where a version's seven lists lie. -/
structure Vn where
  a : Nat → Option Addr
  c : Nat → Nat
abbrev vsl (V : Vn) (L : Nat → List Fi) (i : Nat) : Value := .slice (V.a i) (L i).length (V.c i)
abbrev verA (V : Vn) (L : Nat → List Fi) : Array Value := #[vsl V L 0, vsl V L 1, vsl V L 2, vsl V L 3, vsl V L 4, vsl V L 5, vsl V L 6]
/-- What the numbers of a table are at most. -/
structure FOk (f : Fi) : Prop where
  num : 0 ≤ f.num ∧ f.num < 18446744073709551616
  size : 0 ≤ f.size ∧ f.size < 18446744073709551616
  ss : 0 ≤ f.sm.s ∧ f.sm.s < 18446744073709551616
  ls : 0 ≤ f.la.s ∧ f.la.s < 18446744073709551616
  ents : 0 ≤ f.ents ∧ f.ents < 18446744073709551616
  rngs : 0 ≤ f.rngs ∧ f.rngs < 18446744073709551616
  sk : -9223372036854775808 ≤ f.sm.k ∧ f.sm.k ≤ 9223372036854775807
  lk : -9223372036854775808 ≤ f.la.k ∧ f.la.k ≤ 9223372036854775807
structure RdV (w : World) (V : Vn) (L : Nat → List Fi) : Prop where
  rd : ∀ i, i < 7 → RdF w (V.a i) (L i)
  nil : ∀ i, i < 7 → V.a i = none → V.c i = 0
  len : ∀ i, i < 7 → (L i).length * 96 ≤ 140737488355328
  ok : ∀ i, i < 7 → ∀ f ∈ L i, FOk f
theorem RdV.below {w w' : World} {V : Vn} {L : Nat → List Fi} (h : RdV w V L) (hb : Below w.heap.size w w') : RdV w' V L := ⟨fun i hi => (h.rd i hi).below hb, h.nil, h.len, h.ok⟩
theorem ver_get (V : Vn) (L : Nat → List Fi) (k : Nat) (hk : k < 7) : (verA V L)[k]? = some (vsl V L k) := by
  have : k = 0 ∨ k = 1 ∨ k = 2 ∨ k = 3 ∨ k = 4 ∨ k = 5 ∨ k = 6 := by omega
  rcases this with rfl | rfl | rfl | rfl | rfl | rfl | rfl <;> rfl
theorem ver_box {w : World} {B : Nat} {t : TypeId} {V : Vn} {L : Nat → List Fi} (h : w.heap[B]? = some (.cells (verA V L) t (0, 0))) (k : Nat) (hk : k < 7) : w.cell? ⟨B, k, none⟩ = some (vsl V L k) := by
  simp only [World.cell?, h]
  exact ver_get V L k hk
theorem ver_index (V : Vn) (L : Nat → List Fi) (k : Nat) (hk : k < 7) (w : World) : (Instr.index 39 (.agg (verA V L)) (.int .i64 k)).run Try.prog w = .ok (vsl V L k) w := by
  have : k = 0 ∨ k = 1 ∨ k = 2 ∨ k = 3 ∨ k = 4 ∨ k = 5 ∨ k = 6 := by omega
  rcases this with rfl | rfl | rfl | rfl | rfl | rfl | rfl <;> simp [Instr.index, run_underlying Try.underlying39, asIntOf, go_sem, List.getD]

def isHowB (how : Int) : Bool := (how == 0) || (how == 1)
set_option maxHeartbeats 400000 in
theorem ishow_any (how : Int) (w : World) : Calls Try.prog 53 #[.int .i64 how] w fun e w' => e = .returned (.bool (isHowB how)) ∧ w' = w := by
  unfold isHowB
  by_cases h0 : how = 0
  · subst h0
    go_enter Try.func53, Try.ntmps53
    go_wp2
    go_ret
    exact ⟨rfl, rfl⟩
  · have hb : (how == 0) = false := by simp [h0]
    rw [hb]
    go_enter Try.func53, Try.ntmps53
    go_wp2
    go_ret
    exact ⟨rfl, rfl⟩
set_option maxHeartbeats 400000 in
theorem rhow_any (how : Int) (w : World) : Calls Try.prog 58 #[.int .i64 how] w fun e w' => e = .returned (.bool (isHowB how)) ∧ w' = w := by
  unfold isHowB
  by_cases h0 : how = 0
  · subst h0
    go_enter Try.func58, Try.ntmps58
    go_wp2
    go_ret
    exact ⟨rfl, rfl⟩
  · have hb : (how == 0) = false := by simp [h0]
    rw [hb]
    go_enter Try.func58, Try.ntmps58
    go_wp2
    go_ret
    exact ⟨rfl, rfl⟩
def isLvB (n : Int) : Bool := decide (0 ≤ n) && decide (n < 7)
set_option maxHeartbeats 400000 in
theorem islv_any (n : Int) (w : World) : Calls Try.prog 64 #[.int .i64 n] w fun e w' => e = .returned (.bool (isLvB n)) ∧ w' = w := by
  unfold isLvB
  by_cases h0 : 0 ≤ n
  · have hb : decide (0 ≤ n) = true := by simp [h0]
    rw [hb, Bool.true_and]
    go_enter Try.func64, Try.ntmps64
    go_wp2
    go_ret
    exact ⟨rfl, rfl⟩
  · have hb : decide (0 ≤ n) = false := by simp [h0]
    rw [hb, Bool.false_and]
    go_enter Try.func64, Try.ntmps64
    go_wp2
    go_ret
    exact ⟨rfl, rfl⟩
/-- What is wrong with a table's keys. -/
def fchk (f : Fi) : Int := if checkV f.sm.u f.sm.s f.sm.k ≠ 0 then checkV f.sm.u f.sm.s f.sm.k else checkV f.la.u f.la.s f.la.k
set_option maxRecDepth 100000 in
set_option maxHeartbeats 1000000 in
theorem ckeys_any (f : Fi) (w : World) : Calls Try.prog 55 #[f.v] w fun e w' => e = .returned (.int .i64 (fchk f)) ∧ Below w.heap.size w w' := by
  obtain ⟨R, hR⟩ : ∃ R, Hid (fchk f = R) := ⟨_, rfl⟩
  rw [hR.out]
  have HA : Hid (checkV f.sm.u f.sm.s f.sm.k ≠ 0 → R = checkV f.sm.u f.sm.s f.sm.k) := fun h => by rw [← hR.out]; unfold fchk; rw [if_pos h]
  have HB : Hid (checkV f.sm.u f.sm.s f.sm.k = 0 → R = checkV f.la.u f.la.s f.la.k) := fun h => by rw [← hR.out]; unfold fchk; rw [if_neg (by simpa using h)]
  have H1 := fun w => ccheck_any f.sm.u f.sm.s f.sm.k w
  have H2 := fun w => ccheck_any f.la.u f.la.s f.la.k w
  generalize checkV f.sm.u f.sm.s f.sm.k = A at *
  generalize checkV f.la.u f.la.s f.la.k = B at *
  by_cases hA : A = 0
  · have e := HB.out hA
    subst hA
    rw [e]
    clear e HA HB hR
    go_enter Try.func55, Try.ntmps55
    go_wp2_with (first
      | (have hq := H1; clear hq; go_at_call_of 89 (Value.agg #[.string f.sm.u, .int .u64 f.sm.s, .int .i64 f.sm.k]); refine (H1 _).mono ?_; rintro e w1 ⟨rfl, rfl⟩; clear H1)
      | (go_at_call 89; refine (H2 _).mono ?_; rintro e w2 ⟨rfl, rfl⟩))
    go_ret
    exact ⟨rfl, (((Below.refl _ _).alloc (Nat.le_refl _) _).alloc (by simp) _).alloc (by simp; omega) _⟩
  · have e := HA.out hA
    have hA' : (A != 0) = true := by simpa using hA
    rw [e]
    clear e HA HB hR hA
    go_enter Try.func55, Try.ntmps55
    go_wp2_with (go_at_call 89; refine (H1 _).mono ?_; rintro e w1 ⟨rfl, rfl⟩)
    go_ret
    exact ⟨rfl, ((Below.refl _ _).alloc (Nat.le_refl _) _).alloc (by simp) _⟩
end Go.Proofs.Ytkmpcheamdadcaa
namespace Go.Proofs.Ytkmpcheamdadcaa
open Go.RowKit
set_option linter.unusedVariables false
set_option linter.unusedSimpArgs false
set_option maxRecDepth 100000 in
set_option maxHeartbeats 1000000 in
theorem rfile_any (f : Fi) (w : World) : Calls Try.prog 59 #[f.v] w fun e w' => e = .returned (.int .i64 (fchk f)) ∧ Below w.heap.size w w' := by
  obtain ⟨R, hR⟩ : ∃ R, Hid (fchk f = R) := ⟨_, rfl⟩
  rw [hR.out]
  have HA : Hid (checkV f.sm.u f.sm.s f.sm.k ≠ 0 → R = checkV f.sm.u f.sm.s f.sm.k) := fun h => by rw [← hR.out]; unfold fchk; rw [if_pos h]
  have HB : Hid (checkV f.sm.u f.sm.s f.sm.k = 0 → R = checkV f.la.u f.la.s f.la.k) := fun h => by rw [← hR.out]; unfold fchk; rw [if_neg (by simpa using h)]
  have H1 := fun w => rcheck_any f.sm.u f.sm.s f.sm.k w
  have H2 := fun w => rcheck_any f.la.u f.la.s f.la.k w
  generalize checkV f.sm.u f.sm.s f.sm.k = A at *
  generalize checkV f.la.u f.la.s f.la.k = B at *
  by_cases hA : A = 0
  · have e := HB.out hA
    subst hA
    rw [e]
    clear e HA HB hR
    go_enter Try.func59, Try.ntmps59
    go_wp2_with (first
      | (have hq := H1; clear hq; go_at_call_of 94 (Value.agg #[.string f.sm.u, .int .u64 f.sm.s, .int .i64 f.sm.k]); refine (H1 _).mono ?_; rintro e w1 ⟨rfl, rfl⟩; clear H1)
      | (go_at_call 94; refine (H2 _).mono ?_; rintro e w2 ⟨rfl, rfl⟩))
    go_ret
    exact ⟨rfl, (((Below.refl _ _).alloc (Nat.le_refl _) _).alloc (by simp) _).alloc (by simp; omega) _⟩
  · have e := HA.out hA
    have hA' : (A != 0) = true := by simpa using hA
    rw [e]
    clear e HA HB hR hA
    go_enter Try.func59, Try.ntmps59
    go_wp2_with (go_at_call 94; refine (H1 _).mono ?_; rintro e w1 ⟨rfl, rfl⟩)
    go_ret
    exact ⟨rfl, ((Below.refl _ _).alloc (Nat.le_refl _) _).alloc (by simp) _⟩
def openB (k : Ky) : Bool := (k.k == 2) && (k.s == 72057594037927935)
set_option maxHeartbeats 1000000 in
theorem open_any (k : Ky) (w : World) : Calls Try.prog 93 #[.agg #[.string k.u, .int .u64 k.s, .int .i64 k.k]] w fun e w' => e = .returned (.bool (openB k)) ∧ w' = w.alloc (.cells #[.string k.u, .int .u64 k.s, .int .i64 k.k] 48) := by
  unfold openB
  cases h : (k.k == 2)
  · go_enter Try.func93, Try.ntmps93
    go_wp2
    go_ret
    exact ⟨rfl, rfl⟩
  · rw [Bool.true_and]
    go_enter Try.func93, Try.ntmps93
    go_wp2
    go_ret
    exact ⟨rfl, rfl⟩
/-- Whether a table lies over a range, both ends included. -/
def rchB (how : Int) (f : Fi) (b en : ByteArray) : Bool := decide (0 ≤ cmpH how f.la.u b) && decide (cmpH how f.sm.u en ≤ 0)
set_option maxHeartbeats 1000000 in
theorem reaches_any (how : Int) (f : Fi) (b en : ByteArray) (w : World) : Calls Try.prog 67 #[.int .i64 how, f.v, .string b, .string en] w fun e w' => e = .returned (.bool (rchB how f b en)) ∧ w' = w.alloc f.o := by
  unfold rchB
  generalize hA : cmpH how f.la.u b = A
  have HA := fun w => ccmp_any how f.la.u b w
  rw [hA] at HA
  have HB := fun w => ccmp_any how f.sm.u en w
  generalize cmpH how f.sm.u en = B at *
  clear hA
  by_cases h : 0 ≤ A
  · have hd : decide (0 ≤ A) = true := by simp [h]
    rw [hd, Bool.true_and]
    go_enter Try.func67, Try.ntmps67
    go_wp2_with (first
      | (have hq := HA; clear hq; go_at_call 90; refine (HA _).mono ?_; rintro e w' ⟨rfl, rfl⟩; clear HA)
      | (go_at_call 90; refine (HB _).mono ?_; rintro e w' ⟨rfl, rfl⟩))
    go_ret
    exact ⟨rfl, rfl⟩
  · have hd : decide (0 ≤ A) = false := by simp [h]
    rw [hd, Bool.false_and]
    go_enter Try.func67, Try.ntmps67
    go_wp2_with (go_at_call 90; refine (HA _).mono ?_; rintro e w' ⟨rfl, rfl⟩)
    go_ret
    exact ⟨rfl, rfl⟩
abbrev ordF (how : Int) (a b : Ky) : Int := ordK how a.u a.s a.k b.u b.s b.k
/-- Whether a table may stand just behind another one. -/
def folB (how : Int) (lv : Nat) (a f : Fi) : Bool := if lv = 0 then decide (f.num < a.num) else (decide (ordF how a.sm f.sm < 0) && (decide (cmpH how a.la.u f.sm.u < 0) || (decide (cmpH how a.la.u f.sm.u = 0) && openB a.la)))
theorem al1 (w : World) (o : Obj) : Below w.heap.size w (w.alloc o) := (Below.refl _ _).alloc (Nat.le_refl _) o
theorem bstep {w w' w'' : World} (h : Below w.heap.size w w') (k : Below w'.heap.size w' w'') : Below w.heap.size w w'' := h.trans (k.mono h.size)
set_option maxRecDepth 100000 in
set_option maxHeartbeats 2000000 in
theorem follows_any (how : Int) (lv : Nat) (hlv : lv < 7) (a f : Fi) (w : World) : Calls Try.prog 57 #[.int .i64 how, .int .i64 lv, a.v, f.v] w fun e w' => e = .returned (.bool (folB how lv a f)) ∧ Below w.heap.size w w' := by
  unfold folB
  by_cases h0 : lv = 0
  · subst h0
    rw [if_pos rfl]
    go_enter Try.func57, Try.ntmps57
    go_wp2
    go_ret
    exact ⟨rfl, ((Below.refl _ _).alloc (Nat.le_refl _) _).alloc (by simp) _⟩
  · rw [if_neg h0]
    have hz : ((lv : Int) == 0) = false := by simp; omega
    have HO := fun w => cord_any how a.sm.u a.sm.s a.sm.k f.sm.u f.sm.s f.sm.k w
    have HC := fun w => ccmp_any how a.la.u f.sm.u w
    have HP := fun w => open_any a.la w
    generalize openB a.la = P at *
    show Calls _ _ _ _ fun e w' => e = .returned (.bool (decide (ordK how a.sm.u a.sm.s a.sm.k f.sm.u f.sm.s f.sm.k < 0) && _)) ∧ _
    generalize ordK how a.sm.u a.sm.s a.sm.k f.sm.u f.sm.s f.sm.k = O at *
    generalize cmpH how a.la.u f.sm.u = C at *
    clear h0
    by_cases hO : O < 0
    · have hd : decide (O < 0) = true := by simp [hO]
      rw [hd, Bool.true_and]
      by_cases hC : C < 0
      · have hd : decide (C < 0) = true := by simp [hC]
        rw [hd, Bool.true_or]
        go_enter Try.func57, Try.ntmps57
        go_wp2_with (first
          | (go_at_call 56; refine (HO _).mono ?_; rintro e w' ⟨rfl, rfl⟩)
          | (go_at_call 90; refine (HC _).mono ?_; rintro e w' ⟨rfl, rfl⟩))
        go_ret
        exact ⟨rfl, ((((Below.refl _ _).alloc (Nat.le_refl _) _).alloc (by simp) _).alloc (by simp; omega) _).alloc (by simp; omega) _⟩
      · have hd : decide (C < 0) = false := by simp [hC]
        rw [hd, Bool.false_or]
        by_cases hC0 : C = 0
        · subst hC0
          rw [show decide ((0 : Int) = 0) = true from rfl, Bool.true_and]
          go_enter Try.func57, Try.ntmps57
          go_wp2_with (first
            | (go_at_call 56; refine (HO _).mono ?_; rintro e w' ⟨rfl, rfl⟩)
            | (go_at_call 90; refine (HC _).mono ?_; rintro e w' ⟨rfl, rfl⟩)
            | (go_at_call 93; refine (HP _).mono ?_; rintro e w' ⟨rfl, rfl⟩))
          go_ret
          exact ⟨rfl, (((((Below.refl _ _).alloc (Nat.le_refl _) _).alloc (by simp) _).alloc (by simp; omega) _).alloc (by simp; omega) _).alloc (by simp; omega) _⟩
        · have hd : decide (C = 0) = false := by simp [hC0]
          have hd2 : (C == 0) = false := by simp [hC0]
          rw [hd, Bool.false_and]
          go_enter Try.func57, Try.ntmps57
          go_wp2_with (first
            | (go_at_call 56; refine (HO _).mono ?_; rintro e w' ⟨rfl, rfl⟩)
            | (go_at_call 90; refine (HC _).mono ?_; rintro e w' ⟨rfl, rfl⟩))
          go_ret
          exact ⟨rfl, ((((Below.refl _ _).alloc (Nat.le_refl _) _).alloc (by simp) _).alloc (by simp; omega) _).alloc (by simp; omega) _⟩
    · have hd : decide (O < 0) = false := by simp [hO]
      have hO' : 0 ≤ O := by omega
      rw [hd, Bool.false_and]
      go_enter Try.func57, Try.ntmps57
      go_wp2_with (go_at_call 56; refine (HO _).mono ?_; rintro e w' ⟨rfl, rfl⟩)
      go_ret
      exact ⟨rfl, ((((Below.refl _ _).alloc (Nat.le_refl _) _).alloc (by simp) _).alloc (by simp; omega) _).alloc (by simp; omega) _⟩
end Go.Proofs.Ytkmpcheamdadcaa
namespace Go.Proofs.Ytkmpcheamdadcaa
open Go.RowKit
set_option linter.unusedVariables false
set_option linter.unusedSimpArgs false
def touB (how : Int) (a f : Fi) : Bool := decide (cmpH how a.la.u f.sm.u < 0) || (decide (cmpH how a.la.u f.sm.u = 0) && ((a.la.k == 2) && ((a.la.s == 72057594037927935) && decide (ordF how a.sm f.sm < 0))))
set_option maxRecDepth 100000 in
set_option maxHeartbeats 2000000 in
theorem touch_any (how : Int) (a f : Fi) (w : World) : Calls Try.prog 60 #[.int .i64 how, a.v, f.v] w fun e w' => e = .returned (.bool (touB how a f)) ∧ Below w.heap.size w w' := by
  unfold touB
  have HO := fun w => rord_any how a.sm.u a.sm.s a.sm.k f.sm.u f.sm.s f.sm.k w
  have HC := fun w => rcmp_any how a.la.u f.sm.u w
  show Calls _ _ _ _ fun e w' => e = .returned (.bool (_ || (_ && (_ && (_ && decide (ordK how a.sm.u a.sm.s a.sm.k f.sm.u f.sm.s f.sm.k < 0)))))) ∧ _
  generalize ordK how a.sm.u a.sm.s a.sm.k f.sm.u f.sm.s f.sm.k = O at *
  generalize cmpH how a.la.u f.sm.u = C at *
  by_cases hC : C < 0
  · have hd : decide (C < 0) = true := by simp [hC]
    rw [hd, Bool.true_or]
    go_enter Try.func60, Try.ntmps60
    go_wp2_with (go_at_call 69; refine (HC _).mono ?_; rintro e w' ⟨rfl, rfl⟩)
    go_ret
    exact ⟨rfl, ((Below.refl _ _).alloc (Nat.le_refl _) _).alloc (by simp) _⟩
  · have hd : decide (C < 0) = false := by simp [hC]
    rw [hd, Bool.false_or]
    by_cases hC0 : C = 0
    · subst hC0
      rw [show decide ((0 : Int) = 0) = true from rfl, Bool.true_and]
      cases hk : (a.la.k == 2)
      · rw [Bool.false_and]
        go_enter Try.func60, Try.ntmps60
        go_wp2_with (go_at_call 69; refine (HC _).mono ?_; rintro e w' ⟨rfl, rfl⟩)
        go_ret
        exact ⟨rfl, ((Below.refl _ _).alloc (Nat.le_refl _) _).alloc (by simp) _⟩
      · rw [Bool.true_and]
        cases hs : (a.la.s == 72057594037927935)
        · rw [Bool.false_and]
          go_enter Try.func60, Try.ntmps60
          go_wp2_with (go_at_call 69; refine (HC _).mono ?_; rintro e w' ⟨rfl, rfl⟩)
          go_ret
          exact ⟨rfl, ((Below.refl _ _).alloc (Nat.le_refl _) _).alloc (by simp) _⟩
        · rw [Bool.true_and]
          go_enter Try.func60, Try.ntmps60
          go_wp2_with (first
            | (go_at_call 69; refine (HC _).mono ?_; rintro e w' ⟨rfl, rfl⟩)
            | (go_at_call 52; refine (HO _).mono ?_; rintro e w' ⟨rfl, rfl⟩))
          go_ret
          exact ⟨rfl, ((((Below.refl _ _).alloc (Nat.le_refl _) _).alloc (by simp) _).alloc (by simp; omega) _).alloc (by simp; omega) _⟩
    · have hd : decide (C = 0) = false := by simp [hC0]
      have hd2 : (C == 0) = false := by simp [hC0]
      rw [hd, Bool.false_and]
      go_enter Try.func60, Try.ntmps60
      go_wp2_with (go_at_call 69; refine (HC _).mono ?_; rintro e w' ⟨rfl, rfl⟩)
      go_ret
      exact ⟨rfl, ((Below.refl _ _).alloc (Nat.le_refl _) _).alloc (by simp) _⟩
/-- How many tables the first k levels have. -/
def cntV (L : Nat → List Fi) : Nat → Nat
  | 0 => 0
  | k + 1 => cntV L k + (L k).length
theorem cnt_le {w : World} {V : Vn} {L : Nat → List Fi} (h : RdV w V L) : ∀ k, k ≤ 7 → cntV L k ≤ k * 1466015503702
  | 0, _ => by simp [cntV]
  | k + 1, hk => by
    have := cnt_le h k (by omega)
    have := h.len k (by omega)
    simp only [cntV]
    omega
set_option maxRecDepth 100000 in
set_option maxHeartbeats 1000000 in
theorem count_any {w : World} {V : Vn} {L : Nat → List Fi} (h : RdV w V L) : Calls Try.prog 54 #[.agg (verA V L)] w fun e w' => e = .returned (.int .i64 (cntV L 7)) ∧ Below w.heap.size w w' := by
  have HX : Hid (∀ k : Nat, k < 7 → ∀ w, (Instr.index 39 (.agg (verA V L)) (.int .i64 k)).run Try.prog w = .ok (vsl V L k) w) := fun k hk w => ver_index V L k hk w
  have HC : Hid (∀ k, k ≤ 7 → cntV L k ≤ k * 1466015503702) := cnt_le h
  have HN : Hid (∀ k, k < 7 → (L k).length * 96 ≤ 140737488355328) := h.len
  clear h
  go_enter Try.func54, Try.ntmps54
  go_wp2
  go_loopw [3, 8] (fun n i wr => ∃ k : Nat, k ≤ 7 ∧ i = .int .i64 k ∧ n = .int .i64 (cntV L k) ∧ Below w.heap.size w wr) (fun _ i _ => 7 - (intOf i).toNat)
  case atStart => exact ⟨0, by omega, rfl, rfl, al1 _ _⟩
  case round =>
    obtain ⟨k, hk, rfl, rfl, hbel⟩ := hrel
    by_cases hlt : k < 7
    · have hx := HX.out k hlt
      have hS : Hid (cntV L (k + 1) = cntV L k + (L k).length) := rfl
      have h1 := HC.out k hk
      have h2 := HN.out k hlt
      have hkz : (k : Int) < 7 := by omega
      generalize cntV L k = C at *
      go_wp2
      go_roundw
      case rel => exact ⟨k + 1, by omega, by go_num, by rw [hS.out]; go_num, hbel⟩
      case measure => simp [intOf]; omega
    · obtain rfl : k = 7 := by omega
      go_wp2
      go_ret
      exact ⟨rfl, hbel⟩
end Go.Proofs.Ytkmpcheamdadcaa
namespace Go.Proofs.Ytkmpcheamdadcaa
open Go.RowKit Go.Maps
set_option linter.unusedVariables false
set_option linter.unusedSimpArgs false
/-- What is wrong with a table behind others: prev just ahead of it in its level, seen the numbers ahead. -/
def badF (how : Int) (lv : Nat) (prev : Option Fi) (seen : List Int) (f : Fi) : Int :=
  if fchk f ≠ 0 then fchk f else if f.num ∈ seen then 7 else if 0 < ordF how f.sm f.la then 1 else
  match prev with
  | none => 0
  | some a => if folB how lv a f then 0 else 130
def runF (how : Int) (lv : Nat) : Option Fi → List Int → List Fi → Int × List Int
  | _, s, [] => (0, s)
  | p, s, f :: l => if badF how lv p s f ≠ 0 then (badF how lv p s f, s) else runF how lv (some f) (s ++ [f.num]) l
def runL (how : Int) (L : Nat → List Fi) : Nat → Nat → List Int → Int
  | 0, _, _ => 0
  | m + 1, lv, s => if (runF how lv none s (L lv)).1 ≠ 0 then (runF how lv none s (L lv)).1 else runL how L m (lv + 1) (runF how lv none s (L lv)).2
/-- The rest of a run, from within a level on. -/
def runC (how : Int) (L : Nat → List Fi) (m lv : Nat) (p : Option Fi) (s : List Int) (l : List Fi) : Int :=
  if (runF how lv p s l).1 ≠ 0 then (runF how lv p s l).1 else runL how L m (lv + 1) (runF how lv p s l).2
theorem runL_succ (how : Int) (L : Nat → List Fi) (m lv : Nat) (s : List Int) : runL how L (m + 1) lv s = runC how L m lv none s (L lv) := rfl
theorem runC_nil (how : Int) (L : Nat → List Fi) (m lv : Nat) (p : Option Fi) (s : List Int) : runC how L m lv p s [] = runL how L m (lv + 1) s := by simp [runC, runF]
theorem runC_bad {how : Int} {L : Nat → List Fi} {m lv : Nat} {p : Option Fi} {s : List Int} {f : Fi} {l : List Fi} (h : badF how lv p s f ≠ 0) : runC how L m lv p s (f :: l) = badF how lv p s f := by
  simp [runC, runF, h]
theorem runC_good {how : Int} {L : Nat → List Fi} {m lv : Nat} {p : Option Fi} {s : List Int} {f : Fi} {l : List Fi} (h : badF how lv p s f = 0) : runC how L m lv p s (f :: l) = runC how L m lv (some f) (s ++ [f.num]) l := by
  simp [runC, runF, h]
def chkE (how : Int) (L : Nat → List Fi) : Int := if isHowB how then if 1024 < cntV L 7 then 2 else runL how L 7 0 [] else 1
/-- The table just ahead of a place. -/
def prv (l : List Fi) (i : Nat) : Option Fi := if i = 0 then none else l[i - 1]?
theorem prv_succ {l : List Fi} {i : Nat} {f : Fi} (h : l[i]? = some f) : prv l (i + 1) = some f := by simp [prv, h]
theorem drop_get {α : Type} {l : List α} {i : Nat} {x : α} (h : l[i]? = some x) : l.drop i = x :: l.drop (i + 1) := by
  obtain ⟨h1, rfl⟩ := List.getElem?_eq_some_iff.1 h
  exact List.drop_eq_getElem_cons h1

theorem law23 : Keyed Try.prog 23 := int_keyed Try.underlying23
def U64 (k : Int) : Prop := 0 ≤ k ∧ k < 18446744073709551616
theorem wf23 {k : Int} (h : U64 k) : (Lit.int .u64 k).wf = true := by
  unfold U64 at h
  simp [Lit.wf, IntKind.min, IntKind.max, IntKind.bits, IntKind.signed]
  omega
theorem key23 {k : Int} (h : U64 k) : keyOf Try.prog 23 (.int .u64 k) = some (.int .u64 k) := keyOf_int_mk Try.underlying23 (wf23 h)
theorem zero98 (w : World) : (zeroValue 98).run Try.prog w = .ok (.agg #[]) w := by kernel_rfl
theorem isKeyU (k : Int) : WideAt.IsKeyLit (.int .u64 k) := by trivial
/-- Block b is a set of the numbers of s. -/
structure US (w : World) (b : Nat) (s : List Int) : Prop where
  own : ∃ D, w.ownsMap Try.prog 23 (unitElem (H := Unit)) b s.length D ∧ ∀ k, Maps.has D (.int .u64 k) = decide (k ∈ s)
theorem US.look {w : World} {b : Nat} {s : List Int} (h : US w b s) {k : Int} (hk : U64 k) :
    (Instr.lookup 96 (.map (some b)) (.int .u64 k) true).run Try.prog w = .ok (.tuple #[.agg #[], .bool (decide (k ∈ s))]) w := by
  obtain ⟨D, ho, hh⟩ := h.own
  obtain ⟨v, ps, hr, hv⟩ := ho.look_ok law23 Try.underlying96 (zero98 w) unitElem_mk (key23 hk)
  obtain ⟨rfl, _⟩ := unitElem_inv hv
  rw [hr, hh]
theorem US.upd {S : Nat → Prop} {w w' : World} {b : Nat} {s : List Int} (h : US w b s) (u : Upd S w w') (hb : ¬ S b) : US w' b s := by
  obtain ⟨D, hn, hh⟩ := h.own
  have hl := hn.lt
  obtain ⟨es, clock, hb', r⟩ := hn
  exact ⟨D, ⟨es, clock, (u.block b hl hb).trans hb', r⟩, hh⟩
theorem US.below {w w' : World} {b : Nat} {s : List Int} (h : US w b s) (hb : Below w.heap.size w w') : US w' b s := h.upd (S := Non) (Upd.ofBelow hb) (fun h => h)
theorem US.lt {w : World} {b : Nat} {s : List Int} (h : US w b s) : b < w.heap.size := by obtain ⟨D, ho, _⟩ := h.own; exact ho.lt
theorem US.made (w : World) : US (w.alloc (.map #[] 0)) w.heap.size [] := ⟨.map [], World.ownsMap_made w Try.prog 23 _, fun k => rfl⟩
theorem US.store {w : World} {b : Nat} {s : List Int} (h : US w b s) (hn : s.length < maxLen) {k : Int} (hk : U64 k) :
    ∃ w', (Instr.mapUpdate 96 (.map (some b)) (.int .u64 k) (.agg #[])).run Try.prog w = .ok () w' ∧ US w' b (s ++ [k]) ∧ w.grownBy w' (some b) := by
  obtain ⟨D, ho, hh⟩ := h.own
  obtain ⟨w', hr, ho', hg⟩ := ho.store law23 Try.underlying96 hn (key23 hk) unitElem_mk
  refine ⟨w', hr, ⟨_, by rw [List.length_append]; exact ho', ?_⟩, hg.grown⟩
  intro x
  by_cases e : x = k
  · subst e
    rw [has_put_same ho.isMap (isKeyU _)]; simp
  · rw [has_put_other (by simpa using e), hh]; simp [e]
end Go.Proofs.Ytkmpcheamdadcaa
