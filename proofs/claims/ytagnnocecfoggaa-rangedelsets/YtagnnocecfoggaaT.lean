/-
  Tombstones, keys and numbers in memory; the leaves of Split.
-/
import Derived.Test.YtagnnocecfoggaaRg
import Derived.Test.YtagnnocecfoggaaSn
namespace Go.Proofs.Ytagnnocecfoggaa
open Go.RowKit
set_option linter.unusedVariables false
set_option linter.unusedSimpArgs false
def Tm.c (t : Tm) : List Value := [.string t.b, .string t.e, .int .u64 t.s]
abbrev Tm.v (t : Tm) : Value := .agg #[.string t.b, .string t.e, .int .u64 t.s]
theorem tm_k : ∀ t : Tm, t.c.length = 3 := fun _ => rfl
theorem tm_1 : ∀ t : Tm, ∀ u ∈ t.c, u.oneCell' = true := fun t u hu => by simp [Tm.c] at hu; rcases hu with rfl | rfl | rfl <;> rfl
def sc (s : ByteArray) : List Value := [.string s]
theorem sc_k : ∀ t : ByteArray, (sc t).length = 1 := fun _ => rfl
theorem sc_1 : ∀ t : ByteArray, ∀ u ∈ sc t, u.oneCell' = true := fun t u hu => by simp [sc] at hu; subst hu; rfl
def uc (s : Int) : List Value := [.int .u64 s]
theorem uc_k : ∀ t : Int, (uc t).length = 1 := fun _ => rfl
theorem uc_1 : ∀ t : Int, ∀ u ∈ uc t, u.oneCell' = true := fun t u hu => by simp [uc] at hu; subst hu; rfl
abbrev RdT (w : World) (a : Option Addr) (l : List Tm) : Prop := Rd Tm.c 3 w a l
theorem At.t {w : World} {g o : Nat} {t : Tm} (h : At Tm.c w g o t) : w.cell? ⟨g, o, none⟩ = some (.string t.b) ∧ w.cell? ⟨g, o + 1, none⟩ = some (.string t.e) ∧ w.cell? ⟨g, o + 2, none⟩ = some (.int .u64 t.s) := ⟨h 0 _ rfl, h 1 _ rfl, h 2 _ rfl⟩
theorem info56 : (Try.prog.info? 56).map (fun i => (i.zero, i.size, i.bytes)) = some (some (.agg #[.string ⟨#[]⟩, .string ⟨#[]⟩, .int .u64 0]), 3, 40) := by kernel_rfl
theorem info9 : (Try.prog.info? 9).map (fun i => (i.zero, i.size, i.bytes)) = some (some (.string ⟨#[]⟩), 1, 16) := by kernel_rfl
theorem info38 : (Try.prog.info? 38).map (fun i => (i.zero, i.size, i.bytes)) = some (some (.int .u64 0), 1, 8) := by kernel_rfl
theorem info63 : (Try.prog.info? 63).map (fun i => (i.zero, i.size, i.bytes)) = some (some (.agg #[.string ⟨#[]⟩, .string ⟨#[]⟩, .slice none 0 0]), 3, 56) := by kernel_rfl
theorem push_tm {w : World} {base : Nat} {v : Value} {l : List Tm} (h : w.ownsRow base 56 3 v l.length (cls Tm.c l)) (hb : base ≤ w.heap.size) {vb : Nat} {x : Tm} {tb : TypeId} (hv : Blk w vb tb x.c) (ty : TypeId) (hl : l.length ≤ 10000000) :
    ∃ v' w', (Builtin.append_ #[22, 22] ty #[v, .slice (some ⟨vb, 0, none⟩) 1 1]).run Try.prog w = .ok v' w' ∧ w'.ownsRow base 56 3 v' (l ++ [x]).length (cls Tm.c (l ++ [x])) ∧ Upd (fun k => v.ownBlock = some k) w w' ∧ (v'.ownBlock = v.ownBlock ∨ v'.ownBlock = some w.heap.size) ∧ v' ≠ .slice none 0 0 :=
  push_g tm_k tm_1 Try.underlying22 info56 rfl (by decide) h hb hv ty (by omega) (by unfold maxLen; omega)
def isHowB (how : Int) : Bool := (how == 0) || (how == 1)
set_option maxHeartbeats 400000 in
theorem ishow_any (how : Int) (w : World) : Calls Try.prog 30 #[.int .i64 how] w fun e w' => e = .returned (.bool (isHowB how)) ∧ w' = w := by
  unfold isHowB
  by_cases h0 : how = 0
  · subst h0
    go_enter Try.func30, Try.ntmps30
    go_wp2
    go_ret
    exact ⟨rfl, rfl⟩
  · have hb : (how == 0) = false := by simp [h0]
    rw [hb]
    go_enter Try.func30, Try.ntmps30
    go_wp2
    go_ret
    exact ⟨rfl, rfl⟩
def longB (a b : ByteArray) : Bool := decide (1024 < a.size) || decide (1024 < b.size)
set_option maxRecDepth 100000 in
set_option maxHeartbeats 400000 in
theorem islong_any (a b : ByteArray) (w : World) : Calls Try.prog 31 #[.string a, .string b] w fun e w' => e = .returned (.bool (longB a b)) ∧ w' = w := by
  obtain ⟨R, hR⟩ : ∃ R, Hid (longB a b = R) := ⟨_, rfl⟩
  rw [hR.out]
  go_enter Try.func31, Try.ntmps31
  go_wp2
  · go_ret
    refine ⟨?_, rfl⟩
    show Ending.returned (Value.bool (decide ((1024 : Int) < (b.size : Int)))) = _
    rw [← hR.out]
    unfold longB
    rw [← Bool.decide_or, show decide ((1024 : Int) < (b.size : Int)) = decide (1024 < a.size ∨ 1024 < b.size) by rw [decide_eq_decide]; omega]
  · go_ret
    refine ⟨?_, rfl⟩
    show Ending.returned (Value.bool (decide ((1024 : Int) < (a.size : Int)))) = _
    rw [← hR.out]
    unfold longB
    rw [← Bool.decide_or, show decide ((1024 : Int) < (a.size : Int)) = decide (1024 < a.size ∨ 1024 < b.size) by rw [decide_eq_decide]; omega]
end Go.Proofs.Ytagnnocecfoggaa
