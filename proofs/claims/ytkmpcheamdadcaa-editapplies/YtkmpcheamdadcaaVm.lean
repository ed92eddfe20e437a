/-
  Edits in memory; which can be.
-/
import Derived.Test.YtkmpcheamdadcaaVf
import Derived.Lib.AppendZeros
namespace Go.Proofs.Ytkmpcheamdadcaa
open Go.RowKit
set_option linter.unusedVariables false
set_option linter.unusedSimpArgs false
structure Gn where
  lv : Int
  num : Int
instance : Inhabited Gn := ⟨⟨0, 0⟩⟩
def Gn.c (g : Gn) : List Value := [.int .i64 g.lv, .int .u64 g.num]
theorem gn_k : ∀ t : Gn, t.c.length = 2 := fun _ => rfl
theorem gn_1 : ∀ t : Gn, ∀ u ∈ t.c, u.oneCell' = true := fun t u hu => by simp [Gn.c] at hu; rcases hu with rfl | rfl <;> rfl
structure Ad where
  lv : Int
  f : Fi
instance : Inhabited Ad := ⟨⟨0, default⟩⟩
def Ad.c (a : Ad) : List Value := .int .i64 a.lv :: a.f.c
theorem ad_k : ∀ t : Ad, t.c.length = 11 := fun _ => rfl
theorem ad_1 : ∀ t : Ad, ∀ u ∈ t.c, u.oneCell' = true := fun t u hu => by
  simp only [Ad.c, List.mem_cons] at hu
  rcases hu with rfl | hu
  · rfl
  · exact fi_1 _ u hu
abbrev RdG (w : World) (a : Option Addr) (l : List Gn) : Prop := Rd Gn.c 2 w a l
abbrev RdA (w : World) (a : Option Addr) (l : List Ad) : Prop := Rd Ad.c 11 w a l
theorem At.g {w : World} {g o : Nat} {x : Gn} (h : At Gn.c w g o x) : w.cell? ⟨g, o, none⟩ = some (.int .i64 x.lv) ∧ w.cell? ⟨g, o + 1, none⟩ = some (.int .u64 x.num) := ⟨h 0 _ rfl, h 1 _ rfl⟩
def A11 (w : World) (g o : Nat) (x : Ad) : Prop :=
  w.cell? ⟨g, o, none⟩ = some (.int .i64 x.lv) ∧ w.cell? ⟨g, o + 1, none⟩ = some (.int .u64 x.f.num) ∧ w.cell? ⟨g, o + 2, none⟩ = some (.int .u64 x.f.size) ∧ w.cell? ⟨g, o + 3, none⟩ = some (.string x.f.sm.u) ∧ w.cell? ⟨g, o + 4, none⟩ = some (.int .u64 x.f.sm.s) ∧ w.cell? ⟨g, o + 5, none⟩ = some (.int .i64 x.f.sm.k) ∧
  w.cell? ⟨g, o + 6, none⟩ = some (.string x.f.la.u) ∧ w.cell? ⟨g, o + 7, none⟩ = some (.int .u64 x.f.la.s) ∧ w.cell? ⟨g, o + 8, none⟩ = some (.int .i64 x.f.la.k) ∧ w.cell? ⟨g, o + 9, none⟩ = some (.int .u64 x.f.ents) ∧ w.cell? ⟨g, o + 10, none⟩ = some (.int .u64 x.f.rngs)
theorem At.a {w : World} {g o : Nat} {x : Ad} (h : At Ad.c w g o x) : A11 w g o x := ⟨h 0 _ rfl, h 1 _ rfl, h 2 _ rfl, h 3 _ rfl, h 4 _ rfl, h 5 _ rfl, h 6 _ rfl, h 7 _ rfl, h 8 _ rfl, h 9 _ rfl, h 10 _ rfl⟩
abbrev Ad.o (a : Ad) : Obj := .cells #[.int .i64 a.lv, .int .u64 a.f.num, .int .u64 a.f.size, .string a.f.sm.u, .int .u64 a.f.sm.s, .int .i64 a.f.sm.k, .string a.f.la.u, .int .u64 a.f.la.s, .int .i64 a.f.la.k, .int .u64 a.f.ents, .int .u64 a.f.rngs] 64
abbrev Gn.o (g : Gn) : Obj := .cells #[.int .i64 g.lv, .int .u64 g.num] 66
/-- An edit. -/
structure Ed where
  fam : Int
  ma : Bool
  dr : Bool
  name : ByteArray
  how : Int
  hl : Bool
  hn : Bool
  hs : Bool
  log : Int
  next : Int
  seq : Int
  gone : List Gn
  added : List Ad
/-- Where its two lists lie. -/
structure En where
  ga : Option Addr
  gc : Nat
  aa : Option Addr
  ac : Nat
abbrev edA (P : En) (e : Ed) : Array Value := #[.int .u32 e.fam, .bool e.ma, .bool e.dr, .string e.name, .int .i64 e.how, .bool e.hl, .bool e.hn, .bool e.hs, .int .u64 e.log, .int .u64 e.next, .int .u64 e.seq, .slice P.ga e.gone.length P.gc, .slice P.aa e.added.length P.ac]
structure RdEd (w : World) (P : En) (e : Ed) : Prop where
  g : RdG w P.ga e.gone
  a : RdA w P.aa e.added
  gn : P.ga = none → P.gc = 0
  an : P.aa = none → P.ac = 0
  gl : e.gone.length * 16 ≤ 140737488355328
  al : e.added.length * 104 ≤ 140737488355328
theorem RdEd.below {w w' : World} {P : En} {e : Ed} (h : RdEd w P e) (hb : Below w.heap.size w w') : RdEd w' P e := ⟨h.g.below hb, h.a.below hb, h.gn, h.an, h.gl, h.al⟩
def makE (name : ByteArray) (how : Int) : Int := if 64 < name.size then 2 else if name.size = 0 then 1 else if isHowB how then 0 else 1
def gonE : List Gn → Int
  | [] => 0
  | g :: l => if isLvB g.lv then gonE l else 1
def addE : List Ad → Int
  | [] => 0
  | a :: l => if isLvB a.lv then (if fchk a.f ≠ 0 then fchk a.f else addE l) else 1
/-- What is wrong with an edit. -/
def canE (e : Ed) : Int := if (e.ma && e.dr) = true then 1 else if e.ma = true ∧ makE e.name e.how ≠ 0 then makE e.name e.how else if 1024 < e.gone.length + e.added.length then 2 else if gonE e.gone ≠ 0 then gonE e.gone else addE e.added
set_option maxRecDepth 100000 in
set_option maxHeartbeats 1000000 in
theorem cmake_any (name : ByteArray) (how : Int) (w : World) : Calls Try.prog 70 #[.string name, .int .i64 how] w fun e w' => e = .returned (.int .i64 (makE name how)) ∧ w' = w := by
  unfold makE
  by_cases h1 : 64 < name.size
  · have hz : (64 : Int) < (name.size : Int) := by omega
    rw [if_pos h1]
    go_enter Try.func70, Try.ntmps70
    go_wp2
    go_ret
    exact ⟨rfl, rfl⟩
  · have hz : (name.size : Int) ≤ 64 := by omega
    rw [if_neg h1]
    by_cases h2 : name.size = 0
    · have hz2 : ((name.size : Int) == 0) = true := by simp [h2]
      rw [if_pos h2]
      clear h2 h1
      go_enter Try.func70, Try.ntmps70
      go_wp2
      go_ret
      exact ⟨rfl, rfl⟩
    · have hz2 : ((name.size : Int) == 0) = false := by simp [h2]
      rw [if_neg h2]
      clear h2 h1
      cases hh : isHowB how
      · go_enter Try.func70, Try.ntmps70
        go_wp2_with (go_at_call 53; refine (ishow_any _ _).mono ?_; rintro e w1 ⟨rfl, rfl⟩; rw [hh])
        go_ret
        exact ⟨rfl, rfl⟩
      · go_enter Try.func70, Try.ntmps70
        go_wp2_with (go_at_call 53; refine (ishow_any _ _).mono ?_; rintro e w1 ⟨rfl, rfl⟩; rw [hh])
        go_ret
        exact ⟨rfl, rfl⟩
end Go.Proofs.Ytkmpcheamdadcaa
