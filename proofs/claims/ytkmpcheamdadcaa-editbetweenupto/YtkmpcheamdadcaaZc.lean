/-
  Edits in memory; which can be.
  A version, a table that is added, an edit, as the form reads them.
  Bytes that are appended to; appendPart.
  appendTexts, keyText.
  checkEdit.
  keyText, appendAdded: a table's bytes.
  appendAdded.
-/
import Derived.Test.YtkmpcheamdadcaaVf
import Derived.Lib.AppendZeros
import Derived.Test.YtkmpcheamdadcaaRows
import Derived.ProofKit
import Derived.OpenShut
import Derived.ShutString
import Derived.ChangeOld
import Derived.SizedLaws
import Derived.JoinedOf
import Derived.MakeChecks
import Derived.Deep.Slices
import Derived.Deep.Strs
import Derived.Lib.SmallJoins
import Derived.ChangeSame
import Derived.Test.YtkmpcheamdadcaaRv
import Derived.Deep.RegionHeldLaw
namespace Go.Proofs.Ytkmpcheamdadcaa
open Go.RowKit
set_option linter.unusedVariables false
set_option linter.unusedSimpArgs false
structure Gn where
  lv : Int
  num : Int
instance : Inhabited Gn := ⟨⟨0, 0⟩⟩
def Gn.c (g : Gn) : List Value := [.int .i64 g.lv, .int .u64 g.num]
theorem gn_k : ∀ t : Gn, t.c.length = 2 := fun _ => rfl
theorem gn_1 : ∀ t : Gn, ∀ u ∈ t.c, u.oneCell' = true := fun t u hu => by simp [Gn.c] at hu; rcases hu with rfl | rfl <;> rfl
structure Ad where
  lv : Int
  f : Fi
instance : Inhabited Ad := ⟨⟨0, default⟩⟩
def Ad.c (a : Ad) : List Value := .int .i64 a.lv :: a.f.c
theorem ad_k : ∀ t : Ad, t.c.length = 11 := fun _ => rfl
theorem ad_1 : ∀ t : Ad, ∀ u ∈ t.c, u.oneCell' = true := fun t u hu => by
  simp only [Ad.c, List.mem_cons] at hu
  rcases hu with rfl | hu
  · rfl
  · exact fi_1 _ u hu
abbrev RdG (w : World) (a : Option Addr) (l : List Gn) : Prop := Rd Gn.c 2 w a l
abbrev RdA (w : World) (a : Option Addr) (l : List Ad) : Prop := Rd Ad.c 11 w a l
theorem At.g {w : World} {g o : Nat} {x : Gn} (h : At Gn.c w g o x) : w.cell? ⟨g, o, none⟩ = some (.int .i64 x.lv) ∧ w.cell? ⟨g, o + 1, none⟩ = some (.int .u64 x.num) := ⟨h 0 _ rfl, h 1 _ rfl⟩
def A11 (w : World) (g o : Nat) (x : Ad) : Prop :=
  w.cell? ⟨g, o, none⟩ = some (.int .i64 x.lv) ∧ w.cell? ⟨g, o + 1, none⟩ = some (.int .u64 x.f.num) ∧ w.cell? ⟨g, o + 2, none⟩ = some (.int .u64 x.f.size) ∧ w.cell? ⟨g, o + 3, none⟩ = some (.string x.f.sm.u) ∧ w.cell? ⟨g, o + 4, none⟩ = some (.int .u64 x.f.sm.s) ∧ w.cell? ⟨g, o + 5, none⟩ = some (.int .i64 x.f.sm.k) ∧
  w.cell? ⟨g, o + 6, none⟩ = some (.string x.f.la.u) ∧ w.cell? ⟨g, o + 7, none⟩ = some (.int .u64 x.f.la.s) ∧ w.cell? ⟨g, o + 8, none⟩ = some (.int .i64 x.f.la.k) ∧ w.cell? ⟨g, o + 9, none⟩ = some (.int .u64 x.f.ents) ∧ w.cell? ⟨g, o + 10, none⟩ = some (.int .u64 x.f.rngs)
theorem At.a {w : World} {g o : Nat} {x : Ad} (h : At Ad.c w g o x) : A11 w g o x := ⟨h 0 _ rfl, h 1 _ rfl, h 2 _ rfl, h 3 _ rfl, h 4 _ rfl, h 5 _ rfl, h 6 _ rfl, h 7 _ rfl, h 8 _ rfl, h 9 _ rfl, h 10 _ rfl⟩
abbrev Ad.o (a : Ad) : Obj := .cells #[.int .i64 a.lv, .int .u64 a.f.num, .int .u64 a.f.size, .string a.f.sm.u, .int .u64 a.f.sm.s, .int .i64 a.f.sm.k, .string a.f.la.u, .int .u64 a.f.la.s, .int .i64 a.f.la.k, .int .u64 a.f.ents, .int .u64 a.f.rngs] 64
abbrev Gn.o (g : Gn) : Obj := .cells #[.int .i64 g.lv, .int .u64 g.num] 66
/-- An edit. -/
structure Ed where
  fam : Int
  ma : Bool
  dr : Bool
  name : ByteArray
  how : Int
  hl : Bool
  hn : Bool
  hs : Bool
  log : Int
  next : Int
  seq : Int
  gone : List Gn
  added : List Ad
/-- Where its two lists lie. -/
structure En where
  ga : Option Addr
  gc : Nat
  aa : Option Addr
  ac : Nat
abbrev edA (P : En) (e : Ed) : Array Value := #[.int .u32 e.fam, .bool e.ma, .bool e.dr, .string e.name, .int .i64 e.how, .bool e.hl, .bool e.hn, .bool e.hs, .int .u64 e.log, .int .u64 e.next, .int .u64 e.seq, .slice P.ga e.gone.length P.gc, .slice P.aa e.added.length P.ac]
structure RdEd (w : World) (P : En) (e : Ed) : Prop where
  g : RdG w P.ga e.gone
  a : RdA w P.aa e.added
  gn : P.ga = none → P.gc = 0
  an : P.aa = none → P.ac = 0
  gl : e.gone.length * 16 ≤ 140737488355328
  al : e.added.length * 104 ≤ 140737488355328
theorem RdEd.below {w w' : World} {P : En} {e : Ed} (h : RdEd w P e) (hb : Below w.heap.size w w') : RdEd w' P e := ⟨h.g.below hb, h.a.below hb, h.gn, h.an, h.gl, h.al⟩
def makE (name : ByteArray) (how : Int) : Int := if 64 < name.size then 2 else if name.size = 0 then 1 else if isHowB how then 0 else 1
def gonE : List Gn → Int
  | [] => 0
  | g :: l => if isLvB g.lv then gonE l else 1
def addE : List Ad → Int
  | [] => 0
  | a :: l => if isLvB a.lv then (if fchk a.f ≠ 0 then fchk a.f else addE l) else 1
/-- What is wrong with an edit. -/
def canE (e : Ed) : Int := if (e.ma && e.dr) = true then 1 else if e.ma = true ∧ makE e.name e.how ≠ 0 then makE e.name e.how else if 1024 < e.gone.length + e.added.length then 2 else if gonE e.gone ≠ 0 then gonE e.gone else addE e.added
set_option maxRecDepth 100000 in
set_option maxHeartbeats 1000000 in
theorem cmake_any (name : ByteArray) (how : Int) (w : World) : Calls Try.prog 70 #[.string name, .int .i64 how] w fun e w' => e = .returned (.int .i64 (makE name how)) ∧ w' = w := by
  unfold makE
  by_cases h1 : 64 < name.size
  · have hz : (64 : Int) < (name.size : Int) := by omega
    rw [if_pos h1]
    go_enter Try.func70, Try.ntmps70
    go_wp2
    go_ret
    exact ⟨rfl, rfl⟩
  · have hz : (name.size : Int) ≤ 64 := by omega
    rw [if_neg h1]
    by_cases h2 : name.size = 0
    · have hz2 : ((name.size : Int) == 0) = true := by simp [h2]
      rw [if_pos h2]
      clear h2 h1
      go_enter Try.func70, Try.ntmps70
      go_wp2
      go_ret
      exact ⟨rfl, rfl⟩
    · have hz2 : ((name.size : Int) == 0) = false := by simp [h2]
      rw [if_neg h2]
      clear h2 h1
      cases hh : isHowB how
      · go_enter Try.func70, Try.ntmps70
        go_wp2_with (go_at_call 53; refine (ishow_any _ _).mono ?_; rintro e w1 ⟨rfl, rfl⟩; rw [hh])
        go_ret
        exact ⟨rfl, rfl⟩
      · go_enter Try.func70, Try.ntmps70
        go_wp2_with (go_at_call 53; refine (ishow_any _ _).mono ?_; rintro e w1 ⟨rfl, rfl⟩; rw [hh])
        go_ret
        exact ⟨rfl, rfl⟩
end Go.Proofs.Ytkmpcheamdadcaa
namespace Go.Proofs.Ytkmpcheamdadcaa
open Go.RowKit Go.ChangeShapes Go.WideShapes Go.ChangeAt
set_option linter.unusedVariables false
set_option linter.unusedSimpArgs false
theorem cells50 : Try.prog.cellsOf 50 = 10 := by kernel_rfl
theorem cells48 : Try.prog.cellsOf 48 = 3 := by kernel_rfl
theorem cells23 : Try.prog.cellsOf 23 = 1 := by kernel_rfl
theorem cells9 : Try.prog.cellsOf 9 = 1 := by kernel_rfl
theorem cells3 : Try.prog.cellsOf 3 = 1 := by kernel_rfl
theorem cells41 : Try.prog.cellsOf 41 = 7 := by kernel_rfl
theorem cells39 : Try.prog.cellsOf 39 = 7 := by kernel_rfl
theorem cells38 : Try.prog.cellsOf 38 = 1 := by kernel_rfl
theorem list3 {cs : List Value} (h : cs.length = 3) : ∃ c0 c1 c2, cs = [c0, c1, c2] := by
  match cs, h with
  | [c0, c1, c2], _ => exact ⟨c0, c1, c2, rfl⟩
theorem list10 {cs : List Value} (h : cs.length = 10) : ∃ c0 c1 c2 c3 c4 c5 c6 c7 c8 c9, cs = [c0, c1, c2, c3, c4, c5, c6, c7, c8, c9] := by
  match cs, h with
  | [c0, c1, c2, c3, c4, c5, c6, c7, c8, c9], _ => exact ⟨c0, c1, c2, c3, c4, c5, c6, c7, c8, c9, rfl⟩
theorem array7 {cs : Array Value} (h : cs.size = 7) : ∃ c0 c1 c2 c3 c4 c5 c6, cs = #[c0, c1, c2, c3, c4, c5, c6] := by
  obtain ⟨l⟩ := cs
  match l, h with
  | [c0, c1, c2, c3, c4, c5, c6], _ => exact ⟨c0, c1, c2, c3, c4, c5, c6, rfl⟩
section
variable {H : Type} {enc : TypeId × Value → H} {W : World} {base : Nat} {spare : Nat → Bool} {held : Bool}
theorem u_open {n : Nat} {c : Value} {y : DataW H × List MemPlace} (h : DataW.trod enc Try.prog W base spare held n 23 [c] = some y) : ∃ s : Int, c = .int .u64 s ∧ 0 ≤ s ∧ s < 18446744073709551616 := by
  obtain ⟨s, e, _, ws⟩ := DataW.trod_int Try.underlying23 h
  simp at e
  have := bounds_u64 ws
  exact ⟨s, e, by omega, by omega⟩
theorem i_open {n : Nat} {c : Value} {y : DataW H × List MemPlace} (h : DataW.trod enc Try.prog W base spare held n 3 [c] = some y) : ∃ s : Int, c = .int .i64 s ∧ -9223372036854775808 ≤ s ∧ s ≤ 9223372036854775807 := by
  obtain ⟨s, e, _, ws⟩ := DataW.trod_int Try.underlying3 h
  simp at e
  have := bounds_i64 ws
  exact ⟨s, e, by omega, by omega⟩
theorem s_open {n : Nat} {c : Value} {y : DataW H × List MemPlace} (h : DataW.trod enc Try.prog W base spare held n 9 [c] = some y) : ∃ s : ByteArray, c = .string s := by
  obtain ⟨s, e, _, _⟩ := DataW.trod_string Try.underlying9 h
  simp at e
  exact ⟨s, e⟩
theorem key_open {n : Nat} {cs : List Value} {y : DataW H × List MemPlace} (h : DataW.trod enc Try.prog W base spare held n 48 cs = some y) :
    ∃ k : Ky, cs = [.string k.u, .int .u64 k.s, .int .i64 k.k] ∧ (0 ≤ k.s ∧ k.s < 18446744073709551616) ∧ -9223372036854775808 ≤ k.k ∧ k.k ≤ 9223372036854775807 := by
  obtain ⟨y0, y1, y2, m, _, hl, h0, h1, h2⟩ := Go.Deep.trod_struct3 Try.underlying48 h
  rw [cells48] at hl
  obtain ⟨c0, c1, c2, rfl⟩ := list3 hl
  simp only [cells9, cells23, cells3, List.drop_zero, List.drop_succ_cons, List.take_succ_cons, List.take_zero] at h0 h1 h2
  obtain ⟨u, rfl⟩ := s_open h0
  obtain ⟨s, rfl, a1, a2⟩ := u_open h1
  obtain ⟨k, rfl, b1, b2⟩ := i_open h2
  exact ⟨⟨u, s, k⟩, rfl, ⟨a1, a2⟩, b1, b2⟩
set_option maxRecDepth 100000 in
theorem fi_open {n : Nat} {cs : List Value} {y : DataW H × List MemPlace} (h : DataW.trod enc Try.prog W base spare held n 50 cs = some y) : ∃ f : Fi, cs = f.c ∧ FOk f := by
  obtain ⟨xs, m, _, rfl, hl, hlen, hf⟩ := DataW.trod_struct Try.underlying50 h
  match xs, hlen with
  | [y0, y1, y2, y3, y4, y5], _ =>
    have h0 := hf 0 _ rfl
    have h1 := hf 1 _ rfl
    have h2 := hf 2 _ rfl
    have h3 := hf 3 _ rfl
    have h4 := hf 4 _ rfl
    have h5 := hf 5 _ rfl
    rw [cells50] at hl
    obtain ⟨c0, c1, c2, c3, c4, c5, c6, c7, c8, c9, rfl⟩ := list10 hl
    simp only [cells9, cells23, cells48, cells3, List.drop_zero, List.drop_succ_cons, List.take_succ_cons, List.take_zero, List.getElem?_cons_zero, List.getElem?_cons_succ] at h0 h1 h2 h3 h4 h5
    obtain ⟨n0, rfl, p1, p2⟩ := u_open h0
    obtain ⟨n1, rfl, p3, p4⟩ := u_open h1
    obtain ⟨k2, e2, p5, p6, p7⟩ := key_open h2
    obtain ⟨k3, e3, p8, p9, p10⟩ := key_open h3
    obtain ⟨n4, rfl, p11, p12⟩ := u_open h4
    obtain ⟨n5, rfl, p13, p14⟩ := u_open h5
    cases e2
    cases e3
    exact ⟨⟨n0, n1, k2, k3, n4, n5⟩, rfl, ⟨p1, p2⟩, ⟨p3, p4⟩, p5, p8, ⟨p11, p12⟩, ⟨p13, p14⟩, ⟨p6, p7⟩, ⟨p9, p10⟩⟩
end
/-- A slice whose elements can be opened, as the form reads it. -/
theorem slice_open {α : Type} [Inhabited α] {ec : α → List Value} {k : Nat} (hk : ∀ x, (ec x).length = k) (hk0 : 0 < k) {t e : TypeId} (ht : Try.prog.underlying t = some (.slice e)) (hce : Try.prog.cellsOf e = k) {H : Type} {enc : TypeId × Value → H} {W : World} {held : Bool} {n : Nat} {a : Option Addr} {len cap : Nat} {x : DataW H × List MemPlace} {Ok : α → DataW H → Prop}
    (hel : ∀ (m : Nat) (cs : List Value) (y : DataW H × List MemPlace), DataW.trod enc Try.prog W 0 (fun _ => true) held m e cs = some y → ∃ r : α, cs = ec r ∧ Ok r y.1)
    (h : DataW.trod enc Try.prog W 0 (fun _ => true) held n t [.slice a len cap] = some x) :
    ∃ l : List α, l.length = len ∧ Rd ec k W a l ∧ (a = none → cap = 0) ∧ (l = [] ∨ ∃ es sp, x.1 = .slice es sp ∧ es.length = l.length ∧ ∀ (i : Nat) (r : α) (d : DataW H), l[i]? = some r → es[i]? = some d → Ok r d) := by
  rcases Go.Deep.open_slice ht h with ⟨h0, _⟩ | ⟨a', len', cap', m, n', D, Pl, hcs, hb, hl, hm, hmm, hx, hcell⟩
  · simp only [List.cons.injEq, Value.slice.injEq, and_true] at h0
    obtain ⟨rfl, rfl, rfl⟩ := h0
    exact ⟨[], rfl, .inl rfl, fun _ => rfl, .inl rfl⟩
  · simp only [List.cons.injEq, Value.slice.injEq, and_true] at hcs
    obtain ⟨rfl, rfl, rfl⟩ := hcs
    simp only [if_true] at hmm
    subst hmm
    rw [hce] at hcell
    obtain ⟨R, hR⟩ := Go.Deep.choose_lt (α := α) (n := len) (p := fun i r => (∀ j, j < k → W.cell? (a'.add (i * k + j)) = (ec r)[j]?) ∧ Ok r (D i)) (fun i hi => by
      obtain ⟨cs', h1, h2⟩ := hcell i (by omega)
      obtain ⟨_, _, hc⟩ := World.cells?_some h1
      obtain ⟨r, rfl, f0⟩ := hel _ _ _ h2
      refine ⟨r, fun j hj => ?_, f0⟩
      have := hc j hj
      rw [Go.Deep.add_add] at this
      exact this)
    refine ⟨(List.range len).map R, by simp, ?_, fun e => (by cases e), .inr ⟨_, _, by rw [hx], by simp, fun i r d hr hd => ?_⟩⟩
    · by_cases hz : len = 0
      · subst hz
        exact .inl rfl
      · right
        obtain ⟨b, off, spot⟩ := a'
        have hc0 := (hR 0 (by omega)).1 0 hk0
        have hspot : spot = none := by
          obtain ⟨v, hv⟩ : ∃ v, (ec (R 0))[0]? = some v := ⟨_, List.getElem?_eq_getElem (by rw [hk]; exact hk0)⟩
          rw [hv] at hc0
          simpa [Addr.add] using World.cell?_spot hc0
        subst hspot
        refine ⟨b, off, rfl, fun j r hj i v hv => ?_⟩
        have hj' : j < len := by have := (List.getElem?_eq_some_iff.1 hj).1; simpa using this
        rw [List.getElem?_map, List.getElem?_range hj'] at hj
        simp at hj
        subst hj
        have hi : i < k := by rw [← hk (R j)]; exact (List.getElem?_eq_some_iff.1 hv).1
        have hc := (hR j hj').1 i hi
        rw [add_at, hv, ← Nat.add_assoc] at hc
        exact hc
    · have hi : i < len := by have := (List.getElem?_eq_some_iff.1 hr).1; simpa using this
      rw [List.getElem?_map, List.getElem?_range hi] at hr hd
      simp at hr hd
      subst hr hd
      exact (hR i hi).2

theorem slice_cap {H : Type} {enc : TypeId × Value → H} {W : World} {held : Bool} {n : Nat} {t e : TypeId} {a : Option Addr} {len cap : Nat} {x : DataW H × List MemPlace} (ht : Try.prog.underlying t = some (.slice e)) (h : DataW.trod enc Try.prog W 0 (fun _ => true) held n t [.slice a len cap] = some x) : len ≤ cap := by
  rcases Go.Deep.open_slice ht h with ⟨h0, _⟩ | ⟨a', len', cap', m, n', D, Pl, hcs, hb, hl, _⟩
  · simp only [List.cons.injEq, Value.slice.injEq, and_true] at h0
    omega
  · simp only [List.cons.injEq, Value.slice.injEq, and_true] at hcs
    omega
theorem files_open {H : Type} {enc : TypeId × Value → H} {W : World} {n : Nat} {c : Value} {y : DataW H × List MemPlace} (h : DataW.trod enc Try.prog W 0 (fun _ => true) true n 38 [c] = some y) :
    ∃ (a : Option Addr) (cap : Nat) (l : List Fi), c = .slice a l.length cap ∧ RdF W a l ∧ (a = none → cap = 0) ∧ l.length ≤ cap ∧ (∀ f ∈ l, FOk f) ∧ (l = [] ∨ ∃ es sp, y.1 = .slice es sp ∧ es.length = l.length) := by
  obtain ⟨a, len, cap, rfl⟩ : ∃ a n c', c = .slice a n c' := by
    rcases Go.Deep.open_slice Try.underlying38 h with ⟨h0, _⟩ | ⟨a', len', cap', m, n', D, Pl, hcs, _⟩
    · simp at h0; exact ⟨_, _, _, h0⟩
    · simp at hcs; exact ⟨_, _, _, hcs⟩
  obtain ⟨l, rfl, h2, h3, h4⟩ := slice_open fi_k (by decide) Try.underlying38 cells50 (Ok := fun t _ => FOk t) (fun m cs y hy => fi_open hy) h
  refine ⟨a, cap, l, rfl, h2, h3, slice_cap Try.underlying38 h, fun t ht => ?_, ?_⟩
  · rcases h4 with rfl | ⟨es, sp, _, e, hh⟩
    · simp at ht
    · obtain ⟨i, hi, rfl⟩ := List.getElem_of_mem ht
      exact hh i _ _ (List.getElem?_eq_getElem hi) (List.getElem?_eq_getElem (by omega))
  · rcases h4 with rfl | ⟨es, sp, e1, e, _⟩
    · exact .inl rfl
    · exact .inr ⟨es, sp, e1, e⟩
theorem trod_array7 {H : Type} {enc : TypeId × Value → H} {P : Program} {w : World} {base : Nat} {spare : Nat → Bool} {held : Bool} {t e : TypeId} {fuel : Nat} {c0 c1 c2 c3 c4 c5 c6 : Value} {x : DataW H × List MemPlace} (ht : P.underlying t = some (.array 7 e)) (hce : P.cellsOf e = 1)
    (h : DataW.trod enc P w base spare held fuel t [c0, c1, c2, c3, c4, c5, c6] = some x) :
    ∃ (y0 y1 y2 y3 y4 y5 y6 : DataW H × List MemPlace) (n : Nat), x.1 = .agg [y0.1, y1.1, y2.1, y3.1, y4.1, y5.1, y6.1] ∧ DataW.trod enc P w base spare held n e [c0] = some y0 ∧ DataW.trod enc P w base spare held n e [c1] = some y1 ∧ DataW.trod enc P w base spare held n e [c2] = some y2 ∧ DataW.trod enc P w base spare held n e [c3] = some y3 ∧
      DataW.trod enc P w base spare held n e [c4] = some y4 ∧ DataW.trod enc P w base spare held n e [c5] = some y5 ∧ DataW.trod enc P w base spare held n e [c6] = some y6 := by
  cases fuel with
  | zero => simp [DataW.trod] at h
  | succ n =>
    unfold DataW.trod at h
    rw [ht] at h
    have r7 : List.range 7 = [0, 1, 2, 3, 4, 5, 6] := rfl
    simp [r7, hce] at h
    obtain ⟨_, h⟩ := h
    cases h0 : DataW.trod enc P w base spare held n e [c0] with
    | none => simp [h0] at h
    | some y0 =>
      cases h1 : DataW.trod enc P w base spare held n e [c1] with
      | none => simp [h0, h1] at h
      | some y1 =>
        cases h2 : DataW.trod enc P w base spare held n e [c2] with
        | none => simp [h0, h1, h2] at h
        | some y2 =>
          cases h3 : DataW.trod enc P w base spare held n e [c3] with
          | none => simp [h0, h1, h2, h3] at h
          | some y3 =>
            cases h4 : DataW.trod enc P w base spare held n e [c4] with
            | none => simp [h0, h1, h2, h3, h4] at h
            | some y4 =>
              cases h5 : DataW.trod enc P w base spare held n e [c5] with
              | none => simp [h0, h1, h2, h3, h4, h5] at h
              | some y5 =>
                cases h6 : DataW.trod enc P w base spare held n e [c6] with
                | none => simp [h0, h1, h2, h3, h4, h5, h6] at h
                | some y6 =>
                  simp [h0, h1, h2, h3, h4, h5, h6] at h
                  exact ⟨y0, y1, y2, y3, y4, y5, y6, n, by rw [← h], h0, h1, h2, h3, h4, h5, h6⟩
theorem bytes50 : Try.prog.bytesOf 50 = 96 := by kernel_rfl
set_option maxRecDepth 100000 in
theorem weights_in {H : Type} (es sp : List (DataW H)) : ∀ (ys : List (DataW H)), DataW.slice es sp ∈ ys → (es.length + sp.length) * 96 ∈ DataW.weightsAll Try.prog 38 ys
  | [], h => by cases h
  | y :: ys, h => by
    rw [DataW.weightsAll, List.mem_append]
    rcases List.mem_cons.1 h with e | e
    · left; subst e; simp [DataW.weights, Try.underlying38, bytes50]
    · right; exact weights_in es sp ys e
set_option maxRecDepth 100000 in
theorem ver_weights {H : Type} (es sp : List (DataW H)) (ys : List (DataW H)) (h : DataW.slice es sp ∈ ys) : (es.length + sp.length) * 96 ∈ DataW.weights Try.prog 41 (.agg [.agg ys]) := by
  have := weights_in es sp ys h
  simp [DataW.weights, DataW.weightsEach, Try.underlying41, Try.underlying39, this]
set_option maxRecDepth 100000 in
/-- A version, as the form reads it. -/
theorem ver_open {H : Type} {enc : TypeId × Value → H} {W : World} {v : Value} {d : DataW H} {p : List MemPlace} {r : Reach} {b0 : Nat} (hv : Value.okWide Try.prog W r b0 41 v) (h : DataW.Trod enc Try.prog W 0 (fun _ => true) true 41 v d p)
    (hw : ∀ n, n ∈ DataW.weights Try.prog 41 d → n ≤ reachBytes) : ∃ (V : Vn) (L : Nat → List Fi), v = .agg (verA V L) ∧ RdV W V L ∧ ∀ i, i < 7 → (L i).length ≤ V.c i := by
  obtain ⟨cs, rfl, hsz⟩ := okWide_struct Try.underlying41 hv
  obtain ⟨c0, c1, c2, c3, c4, c5, c6, rfl⟩ := array7 (hsz.trans cells41)
  obtain ⟨fuel, hf⟩ := h
  obtain ⟨y, m, hx, _, g0⟩ := trod_struct1 Try.underlying41 hf
  have g1 : DataW.trod enc Try.prog W 0 (fun _ => true) true m 39 [c0, c1, c2, c3, c4, c5, c6] = some y := by
    simpa [Value.cells, cells39] using g0
  obtain ⟨y0, y1, y2, y3, y4, y5, y6, m', hy, k0, k1, k2, k3, k4, k5, k6⟩ := trod_array7 Try.underlying39 cells38 g1
  have hd : d = .agg [.agg [y0.1, y1.1, y2.1, y3.1, y4.1, y5.1, y6.1]] := by
    have := congrArg (·.1) hx
    simp only at this
    rw [this, hy]
  obtain ⟨a0, p0, l0, rfl, r0, n0, q0, o0, b0'⟩ := files_open k0
  obtain ⟨a1, p1, l1, rfl, r1, n1, q1, o1, b1⟩ := files_open k1
  obtain ⟨a2, p2, l2, rfl, r2, n2, q2, o2, b2⟩ := files_open k2
  obtain ⟨a3, p3, l3, rfl, r3, n3, q3, o3, b3⟩ := files_open k3
  obtain ⟨a4, p4, l4, rfl, r4, n4, q4, o4, b4⟩ := files_open k4
  obtain ⟨a5, p5, l5, rfl, r5, n5, q5, o5, b5⟩ := files_open k5
  obtain ⟨a6, p6, l6, rfl, r6, n6, q6, o6, b6⟩ := files_open k6
  have hB : ∀ (l : List Fi) (z : DataW H), z ∈ [y0.1, y1.1, y2.1, y3.1, y4.1, y5.1, y6.1] → (l = [] ∨ ∃ es sp, z = .slice es sp ∧ es.length = l.length) → l.length * 96 ≤ 140737488355328 := by
    intro l z hz hh
    rcases hh with rfl | ⟨es, sp, rfl, e⟩
    · simp
    · have := hw _ (by rw [hd]; exact ver_weights es sp _ hz)
      simp only [reachBytes] at this
      omega
  refine ⟨⟨fun i => match i with | 0 => a0 | 1 => a1 | 2 => a2 | 3 => a3 | 4 => a4 | 5 => a5 | _ => a6, fun i => match i with | 0 => p0 | 1 => p1 | 2 => p2 | 3 => p3 | 4 => p4 | 5 => p5 | _ => p6⟩, fun i => match i with | 0 => l0 | 1 => l1 | 2 => l2 | 3 => l3 | 4 => l4 | 5 => l5 | _ => l6, rfl, ⟨?_, ?_, ?_, ?_⟩, ?_⟩
  all_goals (intro i hi; have hh : i = 0 ∨ i = 1 ∨ i = 2 ∨ i = 3 ∨ i = 4 ∨ i = 5 ∨ i = 6 := by omega)
  · rcases hh with rfl | rfl | rfl | rfl | rfl | rfl | rfl <;> assumption
  · rcases hh with rfl | rfl | rfl | rfl | rfl | rfl | rfl <;> assumption
  · rcases hh with rfl | rfl | rfl | rfl | rfl | rfl | rfl
    · exact hB l0 _ (by simp) b0'
    · exact hB l1 _ (by simp) b1
    · exact hB l2 _ (by simp) b2
    · exact hB l3 _ (by simp) b3
    · exact hB l4 _ (by simp) b4
    · exact hB l5 _ (by simp) b5
    · exact hB l6 _ (by simp) b6
  · rcases hh with rfl | rfl | rfl | rfl | rfl | rfl | rfl <;> assumption
  · rcases hh with rfl | rfl | rfl | rfl | rfl | rfl | rfl <;> assumption
theorem cells64 : Try.prog.cellsOf 64 = 11 := by kernel_rfl
theorem list11 {cs : List Value} (h : cs.length = 11) : ∃ c0 c1 c2 c3 c4 c5 c6 c7 c8 c9 c10, cs = [c0, c1, c2, c3, c4, c5, c6, c7, c8, c9, c10] := by
  match cs, h with
  | [c0, c1, c2, c3, c4, c5, c6, c7, c8, c9, c10], _ => exact ⟨c0, c1, c2, c3, c4, c5, c6, c7, c8, c9, c10, rfl⟩
set_option maxRecDepth 100000 in
theorem ad_open {H : Type} {enc : TypeId × Value → H} {W : World} {base : Nat} {spare : Nat → Bool} {held : Bool} {n : Nat} {cs : List Value} {y : DataW H × List MemPlace} (h : DataW.trod enc Try.prog W base spare held n 64 cs = some y) :
    ∃ a : Ad, cs = a.c ∧ FOk a.f ∧ -9223372036854775808 ≤ a.lv ∧ a.lv ≤ 9223372036854775807 := by
  obtain ⟨xs, m, _, rfl, hl, hlen, hf⟩ := DataW.trod_struct Try.underlying64 h
  match xs, hlen with
  | [y0, y1], _ =>
    rw [cells64] at hl
    obtain ⟨c0, c1, c2, c3, c4, c5, c6, c7, c8, c9, c10, rfl⟩ := list11 hl
    have h0 : DataW.trod enc Try.prog W base spare held m 3 [c0] = some y0 := by
      have := hf 0 _ rfl
      change DataW.trod enc Try.prog W base spare held m 3 (List.take (Try.prog.cellsOf 3) _) = _ at this
      rw [cells3] at this
      exact this
    have h1 : DataW.trod enc Try.prog W base spare held m 50 [c1, c2, c3, c4, c5, c6, c7, c8, c9, c10] = some y1 := by
      have := hf 1 _ rfl
      change DataW.trod enc Try.prog W base spare held m 50 (List.take (Try.prog.cellsOf 50) _) = _ at this
      rw [cells50] at this
      exact this
    obtain ⟨k, rfl, b1, b2⟩ := i_open h0
    obtain ⟨f, e, hok⟩ := fi_open h1
    refine ⟨⟨k, f⟩, ?_, hok, b1, b2⟩
    show _ = Value.int .i64 k :: f.c
    rw [← e]
theorem array11 {cs : Array Value} (h : cs.size = 11) : ∃ c0 c1 c2 c3 c4 c5 c6 c7 c8 c9 c10, cs = #[c0, c1, c2, c3, c4, c5, c6, c7, c8, c9, c10] := by
  obtain ⟨l⟩ := cs
  match l, h with
  | [c0, c1, c2, c3, c4, c5, c6, c7, c8, c9, c10], _ => exact ⟨c0, c1, c2, c3, c4, c5, c6, c7, c8, c9, c10, rfl⟩
end Go.Proofs.Ytkmpcheamdadcaa
namespace Go.Proofs.Ytkmpcheamdadcaa
open Go.RowKit
set_option linter.unusedVariables false
set_option linter.unusedSimpArgs false
theorem OwnB.src {w : World} {base : Nat} {v : Value} {l : List Int} (h : OwnB w base v l) : Src Try.prog 1 28 v l.length (bc l) w := by
  rcases h with ⟨rfl, rfl⟩ | ⟨b, off, cap, rfl, h1, h2, h3, h4, h5, h6⟩
  · exact Src.ofNil w Try.underlying28 0
  · refine Src.ofSlice w Try.underlying28 ⟨b, off, none⟩ l.length cap (bc l) (by rw [bc_len]; omega) ?_ (bc_one l)
    intro j u hu
    obtain ⟨hj, rfl⟩ := bc_get l j u hu
    rw [add_at]; exact h5 j hj
theorem src_str (w : World) (s : ByteArray) : Src Try.prog 1 9 (.string s) (sb s).length (bc (sb s)) w := by
  have e : bc (sb s) = byteCells s := by simp [bc, sb, byteCells]
  rw [e, sb_len]
  exact Src.ofString w Try.underlying9 s
/-- What comes of bytes that are appended to. -/
structure AppB (w w' : World) (base : Nat) (v v' : Value) (l : List Int) : Prop where
  own : OwnB w' base v' l
  upd : Upd (fun k => v.ownBlock = some k) w w'
  loc : v'.ownBlock = v.ownBlock ∨ ∀ j, v'.ownBlock = some j → w.heap.size ≤ j
theorem AppB.trans {w w1 w2 : World} {base : Nat} {v v1 v2 : Value} {l1 l2 : List Int} (h : AppB w w1 base v v1 l1) (k : AppB w1 w2 base v1 v2 l2) : AppB w w2 base v v2 l2 := by
  refine ⟨k.own, h.upd.then k.upd (fun i hi hs => ?_), ?_⟩
  · rcases h.loc with e | e
    · rw [← e]; exact hs
    · have := e i hs; omega
  · rcases k.loc with e | e
    · rw [e]; exact h.loc
    · exact .inr fun j hj => Nat.le_trans h.upd.size (e j hj)
/-- Behind steps that touch nothing old. -/
theorem AppB.pre {w W w' : World} {base : Nat} {v v' : Value} {l : List Int} (hb : Below w.heap.size w W) (k : AppB W w' base v v' l) : AppB w w' base v v' l :=
  ⟨k.own, (Upd.ofBelow hb).trans k.upd, by
    rcases k.loc with e | e
    · exact .inl e
    · exact .inr fun j hj => Nat.le_trans hb.size (e j hj)⟩
theorem AppB.post {w W w' : World} {base : Nat} {v v' : Value} {l : List Int} (k : AppB w W base v v' l) (hb : Below W.heap.size W w') : AppB w w' base v v' l :=
  ⟨k.own.below hb (Nat.le_refl _), k.upd.trans (Upd.ofBelow hb), k.loc⟩
theorem AppB.grow {w w' : World} {base : Nat} {v v' : Value} {l : List Int} (ho : OwnB w' base v' l) (hg : w.grownBy w' v.ownBlock) (hl : v'.ownBlock = v.ownBlock ∨ v'.ownBlock = some w.heap.size) : AppB w w' base v v' l :=
  ⟨ho, (Upd.refl _ _).grown hg (fun k hk _ => hk), by
    rcases hl with e | e
    · exact .inl e
    · exact .inr fun j hj => by rw [e] at hj; cases hj; exact Nat.le_refl _⟩
theorem vL_len (n : Int) : (vL 10 n).length ≤ 11 := by
  have : ∀ f n, (vL f n).length ≤ f + 1 := by
    intro f
    induction f with
    | zero => intro n; simp [vL]
    | succ f ih => intro n; unfold vL; split <;> simp; exact ih _
  exact this 10 n
/-- The bytes of numbers. -/
def nbs : List Int → List Int
  | [] => []
  | n :: l => vL 10 n ++ nbs l
theorem nbs_snoc (l : List Int) (n : Int) : nbs (l ++ [n]) = nbs l ++ vL 10 n := by
  induction l with
  | nil => simp [nbs]
  | cons x l ih => simp [nbs, ih]
theorem nbs_len (l : List Int) : (nbs l).length ≤ l.length * 11 := by
  induction l with
  | nil => simp [nbs]
  | cons x l ih => have := vL_len x; simp [nbs]; omega
theorem take_snoc' {α : Type} {l : List α} {k : Nat} {x : α} (h : l[k]? = some x) : l.take (k + 1) = l.take k ++ [x] := by rw [List.take_add_one, h]; rfl
set_option maxRecDepth 100000 in
set_option maxHeartbeats 2000000 in
theorem appendPart_any {w : World} {base : Nat} {v : Value} {l : List Int} (h : OwnB w base v l) (hb : base ≤ w.heap.size) {a : Option Addr} {cap : Nat} {ns : List Int} (hr : Rd uc 1 w a ns) (hne : ∀ g o, a = some ⟨g, o, none⟩ → v.ownBlock ≠ some g ∧ g < w.heap.size) (hn : ∀ n ∈ ns, 0 ≤ n ∧ n < 18446744073709551616) (p : Int) (hl : l.length ≤ 1000000000) (hnl : ns.length ≤ 100) :
    Calls Try.prog 33 #[v, .int .u8 p, .slice a ns.length cap] w fun e w' => ∃ v', e = .returned v' ∧ AppB w w' base v v' (l ++ [p] ++ nbs ns) := by
  obtain ⟨i0, hi, hz0, hz1, hz2⟩ := info_parts info5
  have HR : Hid (Rd uc 1 w a ns ∧ (∀ g o, a = some ⟨g, o, none⟩ → v.ownBlock ≠ some g ∧ g < w.heap.size) ∧ ∀ n ∈ ns, 0 ≤ n ∧ n < 18446744073709551616) := ⟨hr, hne, hn⟩
  have HL1 : Hid (l.length + [p].length ≤ 140737488355328) := by show _ ≤ _; simp; omega
  have HLl : Hid (l.length ≤ 1000000000) := hl
  obtain ⟨N, hN⟩ : ∃ N, Hid (ns.length = N) := ⟨_, rfl⟩
  rw [hN.out] at hnl ⊢
  clear hr hne hn hl
  go_enter Try.func33, Try.ntmps33
  go_wp2_with (at_builtin; refine OwnB.wpList_append rfl _ _ 28 28 rfl rfl (base := base) (v := v) (l := l) (h.alloc _) i0 Try.underlying28 hi hz0 hz1 hz2 _ rfl [p] (src_one _ _) (by simp; omega) HL1.out ?_; intro v1 w1 ho1 hg1 hl1; have A1 := AppB.pre (al1 w _) (AppB.grow ho1 hg1 hl1))
  clear h ho1 hg1 hl1
  go_loopw [0, 15] (fun u i wr => ∃ k : Nat, k ≤ N ∧ i = .int .i64 k ∧ Hid (AppB w wr base v u (l ++ [p] ++ nbs (ns.take k)))) (fun _ i _ => (N : Int).toNat - (intOf i).toNat)
  case atStart => exact ⟨0, Nat.zero_le _, rfl, by show AppB _ _ _ _ _ _; simpa [nbs] using A1⟩
  case round =>
    clear A1
    obtain ⟨k, hk, rfl, HA⟩ := hrel
    by_cases hlt : k < N
    · have hkz : (k : Int) < (N : Int) := by omega
      obtain ⟨x, hx⟩ : ∃ x, ns[k]? = some x := ⟨_, List.getElem?_eq_getElem (by rw [hN.out]; exact hlt)⟩
      obtain ⟨g, o, rfl, hat⟩ := (HR.out.1.upd HA.out.upd (fun g o e => (HR.out.2.1 g o e).1)).at_ hx
      have c0 := hat 0 _ rfl
      rw [Nat.mul_one, Nat.add_zero] at c0
      obtain ⟨x0, x1⟩ := HR.out.2.2 x (List.mem_of_getElem? hx)
      have HV := fun W => cvarint_any x W x0 x1
      have hbw : base ≤ wr.heap.size := Nat.le_trans hb HA.out.upd.size
      have HLx : Hid ((l ++ [p] ++ nbs (ns.take k)).length + (vL 10 x).length ≤ 140737488355328) := by
        show _ ≤ _
        have h1 := nbs_len (ns.take k)
        have h2 := vL_len x
        have h3 : (ns.take k).length ≤ N := by rw [← hN.out]; simp; omega
        have := HLl.out
        simp only [List.length_append, List.length_cons, List.length_nil]
        omega
      have HS : Hid (l ++ [p] ++ nbs (ns.take k) ++ vL 10 x = l ++ [p] ++ nbs (ns.take (k + 1))) := by
        show _ = _
        rw [take_snoc' hx, nbs_snoc]; simp
      have HO := HA.out.own
      clear hx hat x0 x1
      generalize l ++ [p] ++ nbs (ns.take k) = l1 at *
      go_wp2_with (first
        | (go_at_call 71; refine (HV _).mono ?_; rintro e w2 ⟨v2, rfl, ho2, hb2⟩; have ho := HO.below hb2 (Nat.le_refl _); have hz2' := hb2.size)
        | (at_builtin; refine OwnB.wpList_append rfl _ _ 28 28 rfl rfl (base := base) (l := l1) ho i0 Try.underlying28 hi hz0 hz1 hz2 v2 rfl (vL 10 x) ho2.src (by omega) HLx.out ?_; intro v3 w3 ho3 hg3 hl3; have A3 := HA.out.trans (AppB.pre hb2 (AppB.grow ho3 hg3 hl3))))
      go_roundw
      case rel => exact ⟨k + 1, by omega, by go_num, by show AppB _ _ _ _ _ _; rw [← HS.out]; exact A3⟩
      case measure => simp [intOf]; omega
    · obtain rfl : k = N := by omega
      have hz : ¬ ((k : Int) < k) := by omega
      have HA' : Hid (AppB w wr base v u0 (l ++ [p] ++ nbs ns)) := by
        have := HA.out
        rw [List.take_of_length_le (by rw [hN.out]; exact Nat.le_refl _)] at this
        exact this
      clear HA
      go_wp2
      go_ret
      refine ⟨_, rfl, ?_⟩
      have := HA'.out
      rw [show l ++ [p] ++ nbs ns = l ++ p :: nbs ns by simp] at this
      exact this
end Go.Proofs.Ytkmpcheamdadcaa
namespace Go.Proofs.Ytkmpcheamdadcaa
open Go.RowKit
set_option linter.unusedVariables false
set_option linter.unusedSimpArgs false
def stc (s : ByteArray) : List Value := [.string s]
theorem stc_k : ∀ t : ByteArray, (stc t).length = 1 := fun _ => rfl
/-- The bytes of texts. -/
def txs : List ByteArray → List Int
  | [] => []
  | s :: l => vL 10 s.size ++ sb s ++ txs l
theorem txs_snoc (l : List ByteArray) (s : ByteArray) : txs (l ++ [s]) = txs l ++ (vL 10 s.size ++ sb s) := by
  induction l with
  | nil => simp [txs]
  | cons x l ih => simp [txs, ih]
theorem txs_len {m : Nat} (l : List ByteArray) (h : ∀ s ∈ l, s.size ≤ m) : (txs l).length ≤ l.length * (11 + m) := by
  induction l with
  | nil => simp [txs]
  | cons x l ih =>
    have h1 := ih (fun s hs => h s (List.mem_cons_of_mem _ hs))
    have h2 := vL_len x.size
    have h3 := h x (List.mem_cons_self ..)
    have h4 := sb_len x
    simp only [txs, List.length_append, List.length_cons]
    rw [Nat.add_mul]
    omega
set_option maxRecDepth 100000 in
set_option maxHeartbeats 2000000 in
theorem appendTexts_any {w : World} {base : Nat} {v : Value} {l : List Int} (h : OwnB w base v l) (hb : base ≤ w.heap.size) {a : Option Addr} {cap : Nat} {ts : List ByteArray} (hr : Rd stc 1 w a ts) (hne : ∀ g o, a = some ⟨g, o, none⟩ → v.ownBlock ≠ some g ∧ g < w.heap.size) (hn : ∀ s ∈ ts, s.size ≤ 2000) (hl : l.length ≤ 1000000000) (hnl : ts.length ≤ 100) :
    Calls Try.prog 34 #[v, .slice a ts.length cap] w fun e w' => ∃ v', e = .returned v' ∧ AppB w w' base v v' (l ++ txs ts) := by
  obtain ⟨i0, hi, hz0, hz1, hz2⟩ := info_parts info5
  have HR : Hid (Rd stc 1 w a ts ∧ (∀ g o, a = some ⟨g, o, none⟩ → v.ownBlock ≠ some g ∧ g < w.heap.size) ∧ ∀ s ∈ ts, s.size ≤ 2000) := ⟨hr, hne, hn⟩
  have HLl : Hid (l.length ≤ 1000000000) := hl
  have A1 : AppB w w base v v l := ⟨h, Upd.refl _ _, .inl rfl⟩
  obtain ⟨N, hN⟩ : ∃ N, Hid (ts.length = N) := ⟨_, rfl⟩
  rw [hN.out] at hnl ⊢
  clear hr hne hn hl h
  go_enter Try.func34, Try.ntmps34
  go_wp2
  go_loopw [0, 9] (fun u i wr => ∃ k : Nat, k ≤ N ∧ i = .int .i64 k ∧ Hid (AppB w wr base v u (l ++ txs (ts.take k)))) (fun _ i _ => (N : Int).toNat - (intOf i).toNat)
  case atStart => exact ⟨0, Nat.zero_le _, rfl, by show AppB _ _ _ _ _ _; simpa [txs] using A1⟩
  case round =>
    clear A1
    obtain ⟨k, hk, rfl, HA⟩ := hrel
    by_cases hlt : k < N
    · have hkz : (k : Int) < (N : Int) := by omega
      obtain ⟨x, hx⟩ : ∃ x, ts[k]? = some x := ⟨_, List.getElem?_eq_getElem (by rw [hN.out]; exact hlt)⟩
      obtain ⟨g, o, rfl, hat⟩ := (HR.out.1.upd HA.out.upd (fun g o e => (HR.out.2.1 g o e).1)).at_ hx
      have c0 := hat 0 _ rfl
      rw [Nat.mul_one, Nat.add_zero] at c0
      have hx2 := HR.out.2.2 x (List.mem_of_getElem? hx)
      have hw : IntKind.u64.wrap (x.size : Int) = x.size := by rw [IntKind.wrap_u64]; omega
      have HV := fun W => cvarint_any x.size W (by omega) (by omega)
      have hbw : base ≤ wr.heap.size := Nat.le_trans hb HA.out.upd.size
      have HLx : Hid ((l ++ txs (ts.take k)).length + (vL 10 x.size).length ≤ 140737488355328 ∧ (l ++ txs (ts.take k) ++ vL 10 x.size).length + (sb x).length ≤ 140737488355328) := by
        show _ ∧ _
        have h1 := txs_len (m := 2000) (ts.take k) (fun s hs => HR.out.2.2 s (List.mem_of_mem_take hs))
        have h2 := vL_len x.size
        have h3 : (ts.take k).length ≤ N := by rw [← hN.out]; simp; omega
        have h4 := sb_len x
        have := HLl.out
        simp only [List.length_append]
        omega
      have HS : Hid (l ++ txs (ts.take k) ++ vL 10 x.size ++ sb x = l ++ txs (ts.take (k + 1))) := by
        show _ = _
        rw [take_snoc' hx, txs_snoc]; simp
      have HO := HA.out.own
      clear hx hat hx2
      generalize l ++ txs (ts.take k) = l1 at *
      go_wp2_with (first
        | (go_at_call 71; refine (HV _).mono ?_; rintro e w2 ⟨v2, rfl, ho2, hb2⟩; have ho := HO.below hb2 (Nat.le_refl _); have hz2' := hb2.size)
        | (at_builtin; refine OwnB.wpList_append rfl _ _ 28 28 rfl rfl (base := base) (l := l1) ho i0 Try.underlying28 hi hz0 hz1 hz2 v2 rfl (vL 10 x.size) ho2.src (by omega) HLx.out.1 ?_; intro v3 w3 ho3 hg3 hl3; have A3 := HA.out.trans (AppB.pre hb2 (AppB.grow ho3 hg3 hl3)); clear ho ho2)
        | (at_builtin; refine OwnB.wpList_append rfl _ _ 28 9 rfl rfl (base := base) (l := l1 ++ vL 10 x.size) ho3 i0 Try.underlying28 hi hz0 hz1 hz2 (.string x) rfl (sb x) (src_str _ x) (by have := hg3.size; omega) HLx.out.2 ?_; intro v4 w4 ho4 hg4 hl4; have A4 := A3.trans (AppB.grow ho4 hg4 hl4)))
      go_roundw
      case rel => exact ⟨k + 1, by omega, by go_num, by show AppB _ _ _ _ _ _; rw [← HS.out]; exact A4⟩
      case measure => simp [intOf]; omega
    · obtain rfl : k = N := by omega
      have hz : ¬ ((k : Int) < k) := by omega
      have HA' : Hid (AppB w wr base v u0 (l ++ txs ts)) := by
        have := HA.out
        rw [List.take_of_length_le (by rw [hN.out]; exact Nat.le_refl _)] at this
        exact this
      clear HA
      go_wp2
      go_ret
      exact ⟨_, rfl, HA'.out⟩
end Go.Proofs.Ytkmpcheamdadcaa
namespace Go.Proofs.Ytkmpcheamdadcaa
open Go.RowKit
set_option linter.unusedVariables false
set_option linter.unusedSimpArgs false
abbrev edO (P : En) (e : Ed) : Obj := .cells (edA P e) 27
theorem ed_box (w : World) (P : En) (e : Ed) : Blk (w.alloc (edO P e)) w.heap.size 27 (edA P e).toList := Blk.new w 27 (edA P e).toList
def addC (RES : Int) (l : List Ad) : Prop := RES = addE l
def gonC (RES : Int) (l : List Gn) (m : List Ad) : Prop := RES = if gonE l ≠ 0 then gonE l else addE m
theorem gonE_or (l : List Gn) : gonE l = 0 ∨ gonE l = 1 := by
  induction l with
  | nil => simp [gonE]
  | cons g l ih => unfold gonE; split <;> simp [ih]
set_option maxRecDepth 100000 in
set_option maxHeartbeats 2000000 in
theorem cedit_any {w : World} {P : En} {e : Ed} (h : RdEd w P e) : Calls Try.prog 32 #[.agg (edA P e)] w fun en w' => en = .returned (.int .i64 (canE e)) ∧ Below w.heap.size w w' := by
  have HE : Hid (RdEd w P e) := h
  have hgl := h.gl
  have hal := h.al
  obtain ⟨RES, hRES⟩ : ∃ RES, Hid (canE e = RES) := ⟨_, rfl⟩
  rw [hRES.out]
  clear h
  obtain ⟨fam, ma, dr, name, how, hl, hn, hs, log, next, seq, gone, added⟩ := e
  dsimp only at hgl hal ⊢
  obtain ⟨ga, gc, aa, ac⟩ := P
  show Calls Try.prog 32 #[.agg #[.int .u32 fam, .bool ma, .bool dr, .string name, .int .i64 how, .bool hl, .bool hn, .bool hs, .int .u64 log, .int .u64 next, .int .u64 seq, .slice ga gone.length gc, .slice aa added.length ac]] w _
  obtain ⟨G, hG⟩ : ∃ G, Hid (gone.length = G) := ⟨_, rfl⟩
  obtain ⟨A, hA⟩ : ∃ A, Hid (added.length = A) := ⟨_, rfl⟩
  rw [hG.out] at hgl ⊢
  rw [hA.out] at hal ⊢
  have HRg : Hid (RdG w ga gone) := HE.out.g
  have HRa : Hid (RdA w aa added) := HE.out.a
  have hR0 : Hid (RES = if (ma && dr) = true then 1 else if ma = true ∧ makE name how ≠ 0 then makE name how else if 1024 < G + A then 2 else if gonE gone ≠ 0 then gonE gone else addE added) := by
    show _ = _
    rw [← hRES.out, ← hG.out, ← hA.out]; rfl
  clear hRES HE
  have hB0 : Below w.heap.size w (w.alloc (.cells #[.int .u32 fam, .bool ma, .bool dr, .string name, .int .i64 how, .bool hl, .bool hn, .bool hs, .int .u64 log, .int .u64 next, .int .u64 seq, .slice ga G gc, .slice aa A ac] 27)) := al1 _ _
  have HM := fun w => cmake_any name how w
  generalize makE name how = M at *
  by_cases hmd : (ma && dr) = true
  · have e1 : Hid (RES = 1) := by show _ = _; rw [hR0.out, if_pos hmd]
    have hma : ma = true := by cases ma <;> simp at hmd ⊢
    have hdr : dr = true := by cases dr <;> simp [hma] at hmd ⊢
    subst hma hdr
    clear hR0 hmd
    go_enter Try.func32, Try.ntmps32
    go_wp2
    go_ret
    exact ⟨ret_ii e1.out.symm, al1 _ _⟩
  · by_cases hm : ma = true ∧ M ≠ 0
    · have e1 : Hid (RES = M) := by show _ = _; rw [hR0.out, if_neg hmd, if_pos hm]
      obtain ⟨rfl, hM⟩ := hm
      have hdr : dr = false := by cases dr <;> simp at hmd ⊢
      subst hdr
      have hM' : (M != 0) = true := by simp [hM]
      clear hR0 hmd
      go_enter Try.func32, Try.ntmps32
      go_wp2_with (go_at_call 70; refine (HM _).mono ?_; rintro e w1 ⟨rfl, rfl⟩)
      go_ret
      exact ⟨ret_ii e1.out.symm, al1 _ _⟩
    · have hR1 : Hid (RES = if 1024 < G + A then 2 else if gonE gone ≠ 0 then gonE gone else addE added) := by show _ = _; rw [hR0.out, if_neg hmd, if_neg hm]
      clear hR0
      have hM0 : ma = true → (M != 0) = false := fun h => by
        by_cases hz : M = 0
        · simp [hz]
        · exact absurd ⟨h, hz⟩ hm
      have hdr : ma = true → dr = false := fun h => by subst h; cases dr <;> simp at hmd ⊢
      by_cases hc : 1024 < G + A
      · have e1 : Hid (RES = 2) := by show _ = _; rw [hR1.out, if_pos hc]
        have hcz : (1024 : Int) < (G : Int) + (A : Int) := by omega
        clear hR1 hm hmd
        cases ma with
        | false =>
          clear hM0 hdr
          go_enter Try.func32, Try.ntmps32
          go_wp2
          go_ret
          exact ⟨ret_ii e1.out.symm, al1 _ _⟩
        | true =>
          have hM' := hM0 rfl
          obtain rfl := hdr rfl
          clear hM0 hdr
          go_enter Try.func32, Try.ntmps32
          go_wp2_with (go_at_call 70; refine (HM _).mono ?_; rintro e w1 ⟨rfl, rfl⟩)
          go_ret
          exact ⟨ret_ii e1.out.symm, al1 _ _⟩
      · have e1 : Hid (RES = if gonE gone ≠ 0 then gonE gone else addE added) := by show _ = _; rw [hR1.out, if_neg hc]
        have hcz : (G : Int) + (A : Int) ≤ 1024 := by omega
        have HB0 : Hid (Below w.heap.size w (w.alloc (.cells #[.int .u32 fam, .bool ma, .bool dr, .string name, .int .i64 how, .bool hl, .bool hn, .bool hs, .int .u64 log, .int .u64 next, .int .u64 seq, .slice ga G gc, .slice aa A ac] 27))) := al1 _ _
        have HK : Hid (∀ W, Below (w.alloc (.cells #[.int .u32 fam, .bool ma, .bool dr, .string name, .int .i64 how, .bool hl, .bool hn, .bool hs, .int .u64 log, .int .u64 next, .int .u64 seq, .slice ga G gc, .slice aa A ac] 27)).heap.size (w.alloc (.cells #[.int .u32 fam, .bool ma, .bool dr, .string name, .int .i64 how, .bool hl, .bool hn, .bool hs, .int .u64 log, .int .u64 next, .int .u64 seq, .slice ga G gc, .slice aa A ac] 27)) W → W.cell? ⟨w.heap.size, 12, none⟩ = some (.slice aa A ac)) := fun W hb =>
          ((Blk.new w 27 [.int .u32 fam, .bool ma, .bool dr, .string name, .int .i64 how, .bool hl, .bool hn, .bool hs, .int .u64 log, .int .u64 next, .int .u64 seq, .slice ga G gc, .slice aa A ac]).upd (S := Non) (Upd.ofBelow hb) (fun h => h)).cell1 12 _ rfl
        clear hR1 hm hmd hc hB0
        have hw : ma = false ∨ (ma = true ∧ (M != 0) = false ∧ dr = false) := by
          cases ma
          · exact .inl rfl
          · exact .inr ⟨rfl, hM0 rfl, hdr rfl⟩
        clear hM0 hdr
        rcases hw with rfl | ⟨rfl, hM', rfl⟩
        all_goals
          go_enter Try.func32, Try.ntmps32
          go_wp2_with (go_at_call 70; refine (HM _).mono ?_; rintro e w1 ⟨rfl, rfl⟩)
          clear HM
          generalize HW : w.alloc (.cells #[.int .u32 fam, .bool _, .bool _, .string name, .int .i64 how, .bool hl, .bool hn, .bool hs, .int .u64 log, .int .u64 next, .int .u64 seq, .slice ga G gc, .slice aa A ac] 27) = W1 at *
          clear HW
          go_loopw [36] (fun i wr => ∃ k : Nat, k ≤ G ∧ i = .int .i64 k ∧ Hid (gonC RES (gone.drop k) added) ∧ Hid (Below W1.heap.size W1 wr)) (fun i _ => (G : Int).toNat - (intOf i).toNat)
          case atStart => exact ⟨0, Nat.zero_le _, rfl, e1.out, Below.refl _ _⟩
          case round =>
            clear e1
            obtain ⟨k, hk, rfl, HC, HB⟩ := hrel
            have HBw : Hid (Below w.heap.size w wr) := bstep HB0.out HB.out
            by_cases hlt : k < G
            · have hkz : (k : Int) < (G : Int) := by omega
              obtain ⟨x, hx⟩ : ∃ x, gone[k]? = some x := ⟨_, List.getElem?_eq_getElem (by rw [hG.out]; exact hlt)⟩
              obtain ⟨g, o, e', hat⟩ := (HRg.out.below HBw.out).at_ hx
              obtain ⟨y0, y1⟩ := hat.g
              have HC' : Hid (gonC RES (x :: gone.drop (k + 1)) added) := by
                show gonC _ _ _
                rw [← drop_get hx]; exact HC.out
              subst e'
              clear hx hat HC
              cases hv : isLvB x.lv
              · have e1 : Hid (RES = 1) := by
                  have := HC'.out
                  unfold gonC gonE at this
                  rw [hv] at this
                  exact this
                clear HC'
                go_wp2_with (go_at_call 64; refine (islv_any _ _).mono ?_; rintro e w1 ⟨rfl, rfl⟩; rw [hv])
                go_ret
                exact ⟨ret_ii e1.out.symm, bstep HBw.out (al1 _ _)⟩
              · have HN : Hid (gonC RES (gone.drop (k + 1)) added) := by
                  have := HC'.out
                  unfold gonC at this ⊢
                  rw [show gonE (x :: gone.drop (k + 1)) = gonE (gone.drop (k + 1)) by simp [gonE, hv]] at this
                  exact this
                clear HC'
                go_wp2_with (go_at_call 64; refine (islv_any _ _).mono ?_; rintro e w1 ⟨rfl, rfl⟩; rw [hv])
                go_roundw
                case rel => exact ⟨k + 1, by omega, by go_num, HN.out, bstep HB.out (al1 _ _)⟩
                case measure => simp [intOf]; omega
            · obtain rfl : k = G := by omega
              have hz : ¬ ((k : Int) < k) := by omega
              have k12 := HK.out wr HB.out
              have hlw := cell_lt k12
              have HD : Hid (addC RES added) := by
                have := HC.out
                rw [List.drop_of_length_le (by rw [hG.out]; exact Nat.le_refl _)] at this
                exact this
              obtain ⟨W0, rfl⟩ : ∃ W0, W0 = wr := ⟨_, rfl⟩
              clear HC
              go_wp2
              clear hz k12 hlw
              go_loopw [48] (fun i wr => ∃ q : Nat, q ≤ A ∧ i = .int .i64 q ∧ Hid (addC RES (added.drop q)) ∧ Hid (Below W1.heap.size W1 wr)) (fun i _ => (A : Int).toNat - (intOf i).toNat)
              case atStart => exact ⟨0, Nat.zero_le _, rfl, HD.out, HB.out⟩
              case round =>
                clear HD HB HBw
                obtain ⟨q, hq, rfl, HC, HB⟩ := hrel
                have HBw : Hid (Below w.heap.size w wr) := bstep HB0.out HB.out
                by_cases hlt : q < A
                · have hqz : (q : Int) < (A : Int) := by omega
                  obtain ⟨x, hx⟩ : ∃ x, added[q]? = some x := ⟨_, List.getElem?_eq_getElem (by rw [hA.out]; exact hlt)⟩
                  obtain ⟨g, o, e', hat⟩ := (HRa.out.below HBw.out).at_ hx
                  obtain ⟨y0, y1, y2, y3, y4, y5, y6, y7, y8, y9, y10⟩ := hat.a
                  have HC' : Hid (addC RES (x :: added.drop (q + 1))) := by
                    show addC _ _
                    rw [← drop_get hx]; exact HC.out
                  subst e'
                  clear hx hat HC
                  cases hv : isLvB x.lv
                  · have e1 : Hid (RES = 1) := by
                      have := HC'.out
                      unfold addC addE at this
                      rw [hv] at this
                      exact this
                    clear HC'
                    go_wp2_with (go_at_call 64; refine (islv_any _ _).mono ?_; rintro e w1 ⟨rfl, rfl⟩; rw [hv])
                    go_ret
                    exact ⟨ret_ii e1.out.symm, bstep HBw.out (al1 _ _)⟩
                  · by_cases hf : fchk x.f = 0
                    · have hf' : (fchk x.f != 0) = false := by simp [hf]
                      have HN : Hid (addC RES (added.drop (q + 1))) := by
                        have := HC'.out
                        unfold addC at this ⊢
                        rw [show addE (x :: added.drop (q + 1)) = addE (added.drop (q + 1)) by conv => lhs; unfold addE; rw [hv, if_pos rfl, if_neg (by simp [hf])]] at this
                        exact this
                      clear HC'
                      go_wp2_with (first
                        | (go_at_call 64; refine (islv_any _ _).mono ?_; rintro e w1 ⟨rfl, rfl⟩; rw [hv])
                        | (go_at_call 55; refine (ckeys_any x.f _).mono ?_; rintro e w3 ⟨rfl, hb3⟩))
                      go_roundw
                      case rel => exact ⟨q + 1, by omega, by go_num, HN.out, bstep (bstep HB.out (al1 _ _)) hb3⟩
                      case measure => simp [intOf]; omega
                    · have hf' : (fchk x.f != 0) = true := by simp [hf]
                      have e1 : Hid (RES = fchk x.f) := by
                        have := HC'.out
                        unfold addC addE at this
                        rw [hv, if_pos rfl, if_pos hf] at this
                        exact this
                      clear HC'
                      go_wp2_with (first
                        | (go_at_call 64; refine (islv_any _ _).mono ?_; rintro e w1 ⟨rfl, rfl⟩; rw [hv])
                        | (go_at_call 55; refine (ckeys_any x.f _).mono ?_; rintro e w3 ⟨rfl, hb3⟩))
                      go_ret
                      exact ⟨ret_ii e1.out.symm, bstep (bstep HBw.out (al1 _ _)) hb3⟩
                · obtain rfl : q = A := by omega
                  have hz : ¬ ((q : Int) < q) := by omega
                  have e1 : Hid (RES = 0) := by
                    have := HC.out
                    rw [List.drop_of_length_le (by rw [hA.out]; exact Nat.le_refl _)] at this
                    exact this
                  go_wp2
                  go_ret
                  exact ⟨ret_ii e1.out.symm, HBw.out⟩
end Go.Proofs.Ytkmpcheamdadcaa
namespace Go.Proofs.Ytkmpcheamdadcaa
open Go.RowKit
set_option linter.unusedVariables false
set_option linter.unusedSimpArgs false
theorem bstr_sb (u : ByteArray) : bstr (sb u) = u := by
  have h := foldl_push_byteCells u.data.toList ByteArray.empty
  have e0 : ByteArray.empty.data = #[] := rfl
  rw [e0] at h
  simp at h
  exact h
theorem sb_bd (u : ByteArray) : ∀ n ∈ sb u, 0 ≤ n ∧ n < 256 := by
  intro n hn
  obtain ⟨c, _, rfl⟩ := List.mem_map.1 hn
  have := c.toNat_lt
  omega
theorem bstr_go : ∀ (l : List Int) (r : ByteArray), (∀ c ∈ l, 0 ≤ c ∧ c < 256) → sb (l.foldl (fun r n => r.push (UInt8.ofNat n.toNat)) r) = sb r ++ l
  | [], r, _ => by simp
  | c :: l, r, h => by
    have hc := h c (by simp)
    rw [List.foldl_cons, bstr_go l _ (fun x hx => h x (by simp [hx]))]
    have e : sb (r.push (UInt8.ofNat c.toNat)) = sb r ++ [c] := by
      unfold sb
      simp only [ByteArray.push, Array.toList_push, List.map_append, List.map_cons, List.map_nil]
      congr 2
      rw [UInt8.toNat_ofNat']
      omega
    rw [e]; simp
theorem sb_bstr (l : List Int) (h : ∀ c ∈ l, 0 ≤ c ∧ c < 256) : sb (bstr l) = l := by
  unfold bstr
  rw [bstr_go l _ h]
  rfl
theorem bstr_size (l : List Int) (h : ∀ c ∈ l, 0 ≤ c ∧ c < 256) : (bstr l).size = l.length := by
  rw [← sb_len, sb_bstr l h]
/-- A key's bytes. -/
def kb (k : Ky) : List Int := sb k.u ++ byts 8 (k.s * 256 + k.k)
theorem kb_bd (k : Ky) : ∀ c ∈ kb k, 0 ≤ c ∧ c < 256 := by
  intro c hc
  rcases List.mem_append.1 hc with h | h
  · exact sb_bd _ c h
  · exact byts_bd _ _ c h
theorem kb_len (k : Ky) : (kb k).length = k.u.size + 8 := by simp [kb, sb_len, byts]
/-- A key's bytes behind their length. -/
def kt (k : Ky) : List Int := vL 10 (kb k).length ++ kb k
theorem txs_two (k m : Ky) : txs [bstr (kb k), bstr (kb m)] = kt k ++ kt m := by
  simp only [txs, sb_bstr _ (kb_bd _), bstr_size _ (kb_bd _), kt]
  simp
def kOk (k : Ky) : Prop := checkV k.u k.s k.k = 0
theorem kOk.size {k : Ky} (h : kOk k) : k.u.size ≤ 1024 := by
  unfold kOk checkV at h
  split at h
  · omega
  · omega
theorem keyText_any {k : Ky} (h : kOk k) (hs : 0 ≤ k.s) (w : World) : Calls Try.prog 72 #[.agg #[.string k.u, .int .u64 k.s, .int .i64 k.k]] w fun e w' => e = .returned (.string (bstr (kb k))) ∧ Below w.heap.size w w' := by
  have H := fun W => cencode_yes k.u k.s k.k W h hs
  have HS : ∀ {W : World} {base : Nat} {v : Value}, OwnB W base v (sb k.u ++ (List.range 8).map (byteAt (k.s * 256 + k.k))) → (convert 28 9 v).run Try.prog W = .ok (.string (bstr (kb k))) W := fun h => h.run_string (P := Try.prog) 28 9 Try.underlying28 Try.underlying5 Try.underlying9
  generalize bstr (kb k) = t at *
  go_enter Try.func72, Try.ntmps72
  go_wp2_with (go_at_call 97; refine (H _).mono ?_; rintro e w2 ⟨v, rfl, ho, hb⟩; have hcv := HS ho; clear ho)
  go_ret
  exact ⟨rfl, bstep (al1 _ _) hb⟩
/-- The bytes of a table that is added. -/
def adB (a : Ad) : List Int := [8] ++ nbs [a.lv, a.f.num, a.f.size, a.f.ents, a.f.rngs] ++ (kt a.f.sm ++ kt a.f.la)
theorem kt_len {k : Ky} (h : k.u.size ≤ 1024) : (kt k).length ≤ 1043 := by
  have h1 := vL_len ((kb k).length : Int)
  have h2 := kb_len k
  simp only [kt, List.length_append]
  omega
theorem adB_len {a : Ad} (h1 : a.f.sm.u.size ≤ 1024) (h2 : a.f.la.u.size ≤ 1024) : (adB a).length ≤ 3000 := by
  have e1 := kt_len h1
  have e2 := kt_len h2
  have e3 := nbs_len [a.lv, a.f.num, a.f.size, a.f.ents, a.f.rngs]
  simp only [adB, List.length_append, List.length_cons, List.length_nil] at *
  omega
theorem rd_cells {α : Type} {enc : α → List Value} (hk : ∀ x, (enc x).length = 1) {w : World} {b : Nat} {t : TypeId} {l : List α} (h : Blk w b t (cls enc l)) : Rd enc 1 w (some ⟨b, 0, none⟩) l := .inr ⟨b, 0, rfl, fun j x hj i v hv => by
  have hi : i < 1 := by rw [← hk x]; exact (List.getElem?_eq_some_iff.1 hv).1
  have := cls_get hk l j x hj i hi
  rw [hv] at this
  rw [Nat.zero_add]
  exact h.cell1 _ v this⟩
end Go.Proofs.Ytkmpcheamdadcaa
namespace Go.Proofs.Ytkmpcheamdadcaa
open Go.RowKit
set_option linter.unusedVariables false
set_option linter.unusedSimpArgs false
theorem bal0 {a w : World} {o : Obj} (h : Below a.heap.size a w) : Below a.heap.size a (w.alloc o) := bstep h (al1 _ _)
/-- A part with a fresh list of numbers. -/
theorem part_new {W : World} {base : Nat} {v : Value} {l : List Int} (h : OwnB W base v l) (hb : base ≤ W.heap.size) (p : Int) (ns : List Int) (hn : ∀ n ∈ ns, 0 ≤ n ∧ n < 18446744073709551616) (hl : l.length ≤ 1000000000) (hnl : ns.length ≤ 100) :
    Calls Try.prog 33 #[v, .int .u8 p, .slice (some ⟨W.heap.size, 0, none⟩) ns.length ns.length] (W.alloc (.cells (cls uc ns).toArray 23)) fun e w' => ∃ v', e = .returned v' ∧ AppB W w' base v v' (l ++ [p] ++ nbs ns) := by
  refine (appendPart_any (h.alloc _) (by simp; omega) (rd_cells uc_k (Blk.new W 23 (cls uc ns))) (fun g o e => ?_) hn p hl hnl).mono ?_
  · cases e
    refine ⟨fun e => ?_, by simp⟩
    have := (h.lt _ e).2
    omega
  · rintro e w' ⟨v', rfl, A⟩
    exact ⟨v', rfl, AppB.pre (al1 _ _) A⟩
theorem part_nil {W : World} {base : Nat} {v : Value} {l : List Int} (h : OwnB W base v l) (hb : base ≤ W.heap.size) (p : Int) (hl : l.length ≤ 1000000000) :
    Calls Try.prog 33 #[v, .int .u8 p, .slice none 0 0] W fun e w' => ∃ v', e = .returned v' ∧ AppB W w' base v v' (l ++ [p]) := by
  have := appendPart_any h hb (a := none) (cap := 0) (ns := []) (.inl rfl) (fun g o e => by cases e) (fun n hn => by cases hn) p hl (by decide)
  simpa [nbs] using this
theorem texts_two {W : World} {base : Nat} {v : Value} {l : List Int} (h : OwnB W base v l) (hb : base ≤ W.heap.size) (s t : ByteArray) (hs : s.size ≤ 2000) (ht : t.size ≤ 2000) (hl : l.length ≤ 1000000000) :
    Calls Try.prog 34 #[v, .slice (some ⟨W.heap.size, 0, none⟩) 2 2] (W.alloc (.cells #[.string s, .string t] 9)) fun e w' => ∃ v', e = .returned v' ∧ AppB W w' base v v' (l ++ txs [s, t]) := by
  refine (appendTexts_any (ts := [s, t]) (h.alloc _) (by simp; omega) (rd_cells stc_k (Blk.new W 9 (cls stc [s, t]))) (fun g o e => ?_) (fun x hx => ?_) hl (by simp)).mono ?_
  · cases e
    refine ⟨fun e => ?_, by simp⟩
    have := (h.lt _ e).2
    omega
  · simp at hx
    rcases hx with rfl | rfl <;> assumption
  · rintro e w' ⟨v', rfl, A⟩
    exact ⟨v', rfl, AppB.pre (al1 _ _) A⟩
theorem texts_one {W : World} {base : Nat} {v : Value} {l : List Int} (h : OwnB W base v l) (hb : base ≤ W.heap.size) (s : ByteArray) (hs : s.size ≤ 2000) (hl : l.length ≤ 1000000000) :
    Calls Try.prog 34 #[v, .slice (some ⟨W.heap.size, 0, none⟩) 1 1] (W.alloc (.cells #[.string s] 9)) fun e w' => ∃ v', e = .returned v' ∧ AppB W w' base v v' (l ++ txs [s]) := by
  refine (appendTexts_any (ts := [s]) (h.alloc _) (by simp; omega) (rd_cells stc_k (Blk.new W 9 (cls stc [s]))) (fun g o e => ?_) (fun x hx => ?_) hl (by simp)).mono ?_
  · cases e
    refine ⟨fun e => ?_, by simp⟩
    have := (h.lt _ e).2
    omega
  · simp at hx
    subst hx
    assumption
  · rintro e w' ⟨v', rfl, A⟩
    exact ⟨v', rfl, AppB.pre (al1 _ _) A⟩
set_option maxRecDepth 100000 in
set_option maxHeartbeats 2000000 in
theorem appendAdded_any {w : World} {base : Nat} {v : Value} {l : List Int} (h : OwnB w base v l) (hb : base ≤ w.heap.size) (a : Ad) (ha : FOk a.f) (h1 : kOk a.f.sm) (h2 : kOk a.f.la) (hv : 0 ≤ a.lv ∧ a.lv < 7) (hl : l.length ≤ 500000000) :
    Calls Try.prog 35 #[v, .int .i64 a.lv, .agg #[.int .u64 a.f.num, .int .u64 a.f.size, .string a.f.sm.u, .int .u64 a.f.sm.s, .int .i64 a.f.sm.k, .string a.f.la.u, .int .u64 a.f.la.s, .int .i64 a.f.la.k, .int .u64 a.f.ents, .int .u64 a.f.rngs]] w
      fun e w' => ∃ v', e = .returned v' ∧ AppB w w' base v v' (l ++ adB a) := by
  have hw : IntKind.u64.wrap a.lv = a.lv := by rw [IntKind.wrap_u64]; omega
  have HP : Hid (Calls Try.prog 33 #[v, .int .u8 8, .slice (some ⟨w.heap.size + 1, 0, none⟩) 5 5] ((w.alloc a.f.o).alloc (.cells #[.int .u64 a.lv, .int .u64 a.f.num, .int .u64 a.f.size, .int .u64 a.f.ents, .int .u64 a.f.rngs] 23)) fun e w' => ∃ v', e = .returned v' ∧ AppB (w.alloc a.f.o) w' base v v' (l ++ [8] ++ nbs [a.lv, a.f.num, a.f.size, a.f.ents, a.f.rngs])) :=
by
    have := part_new (h.alloc a.f.o) (by simp; omega) 8 [a.lv, a.f.num, a.f.size, a.f.ents, a.f.rngs] (fun n hn => by
      simp at hn
      have := ha.num; have := ha.size; have := ha.ents; have := ha.rngs
      rcases hn with rfl | rfl | rfl | rfl | rfl <;> omega) (by omega) (by simp)
    rw [World.size_alloc] at this
    exact this
  have HB0 : Hid (Blk (w.alloc a.f.o) w.heap.size 50 a.f.c) := Blk.new w 50 a.f.c
  have HK : Hid (∀ W, Calls Try.prog 72 #[.agg #[.string a.f.sm.u, .int .u64 a.f.sm.s, .int .i64 a.f.sm.k]] W fun e w' => e = .returned (.string (bstr (kb a.f.sm))) ∧ Below W.heap.size W w') := fun W => keyText_any h1 ha.ss.1 W
  have HL : Hid (∀ W, Calls Try.prog 72 #[.agg #[.string a.f.la.u, .int .u64 a.f.la.s, .int .i64 a.f.la.k]] W fun e w' => e = .returned (.string (bstr (kb a.f.la))) ∧ Below W.heap.size W w') := fun W => keyText_any h2 ha.ls.1 W
  have HT : Hid (∀ {W : World} {v : Value} {l : List Int}, OwnB W base v l → base ≤ W.heap.size → l.length ≤ 1000000000 → Calls Try.prog 34 #[v, .slice (some ⟨W.heap.size, 0, none⟩) 2 2] (W.alloc (.cells #[.string (bstr (kb a.f.sm)), .string (bstr (kb a.f.la))] 9)) fun e w' => ∃ v', e = .returned v' ∧ AppB W w' base v v' (l ++ (kt a.f.sm ++ kt a.f.la))) := fun ho hb hl => by
    rw [← txs_two]
    have e1 := kb_len a.f.sm
    have e2 := kb_len a.f.la
    have e3 := h1.size
    have e4 := h2.size
    exact texts_two ho hb _ _ (by rw [bstr_size _ (kb_bd _)]; omega) (by rw [bstr_size _ (kb_bd _)]; omega) hl
  have HLn : Hid ((l ++ [8] ++ nbs [a.lv, a.f.num, a.f.size, a.f.ents, a.f.rngs]).length ≤ 1000000000) := by
    show _ ≤ _
    have := nbs_len [a.lv, a.f.num, a.f.size, a.f.ents, a.f.rngs]
    simp only [List.length_append, List.length_cons, List.length_nil] at *
    omega
  have HE : Hid (l ++ [8] ++ nbs [a.lv, a.f.num, a.f.size, a.f.ents, a.f.rngs] ++ (kt a.f.sm ++ kt a.f.la) = l ++ adB a) := by
    show _ = _
    simp [adB]
  have HO : Hid (OwnB w base v l) := h
  generalize bstr (kb a.f.sm) = t1 at *
  generalize bstr (kb a.f.la) = t2 at *
  generalize l ++ [8] ++ nbs [a.lv, a.f.num, a.f.size, a.f.ents, a.f.rngs] = l1 at *
  generalize l ++ adB a = l2 at *
  clear ha h1 h2 hv h
  obtain ⟨lv, ⟨num, size, ⟨su, ss, sk⟩, ⟨lu, ls, lk⟩, ents, rngs⟩⟩ := a
  dsimp only [Fi.o, Fi.c] at *
  go_enter Try.func35, Try.ntmps35
  go_wp2_with (go_at_call 33; refine HP.out.mono ?_; rintro e w1 ⟨v1, rfl, A1⟩)
  have HA1 : Hid (AppB (w.alloc (Fi.o ⟨num, size, ⟨su, ss, sk⟩, ⟨lu, ls, lk⟩, ents, rngs⟩)) w1 base v v1 l1) := A1
  have hne : ∀ k, v1.ownBlock = some k → k ≠ w.heap.size := fun k hk => by
    rcases A1.loc with e | e
    · rw [e] at hk
      have := (HO.out.lt _ hk).2
      omega
    · have := e k hk
      simp at this
      omega
  have hB1 := HB0.out.upd A1.upd (fun e => by have := (HO.out.lt _ e).2; omega)
  have HS : Hid (∀ W, Upd (fun k => v1.ownBlock = some k) w1 W → W.cell? ⟨w.heap.size, 2, none⟩ = some (.string su) ∧ W.cell? ⟨w.heap.size, 3, none⟩ = some (.int .u64 ss) ∧ W.cell? ⟨w.heap.size, 4, none⟩ = some (.int .i64 sk) ∧ W.cell? ⟨w.heap.size, 5, none⟩ = some (.string lu) ∧ W.cell? ⟨w.heap.size, 6, none⟩ = some (.int .u64 ls) ∧ W.cell? ⟨w.heap.size, 7, none⟩ = some (.int .i64 lk)) := fun W u => by
    have b := hB1.upd u (fun e => hne _ e rfl)
    exact ⟨b.cell1 2 _ rfl, b.cell1 3 _ rfl, b.cell1 4 _ rfl, b.cell1 5 _ rfl, b.cell1 6 _ rfl, b.cell1 7 _ rfl⟩
  have hbw : base ≤ w1.heap.size := Nat.le_trans hb (Nat.le_trans (by simp) A1.upd.size)
  clear A1 hB1 hne HB0 HP hw
  obtain ⟨c2, c3, c4, c5, c6, c7⟩ := HS.out w1 (Upd.refl _ _)
  go_region_held_law (fun W => W.cell? ⟨w.heap.size, 2, none⟩ = some (.string su) ∧ W.cell? ⟨w.heap.size, 3, none⟩ = some (.int .u64 ss) ∧ W.cell? ⟨w.heap.size, 4, none⟩ = some (.int .i64 sk) ∧ W.cell? ⟨w.heap.size, 5, none⟩ = some (.string lu) ∧ W.cell? ⟨w.heap.size, 6, none⟩ = some (.int .u64 ls) ∧ W.cell? ⟨w.heap.size, 7, none⟩ = some (.int .i64 lk))
    (first
      | with_reducible exact HS.out _ HA4.out.upd
      | with_reducible exact HS.out _ (Upd.ofBelow (bal0 HB3.out))
      | with_reducible exact HS.out _ (Upd.ofBelow HB3.out)
      | with_reducible exact HS.out _ (Upd.ofBelow HB2.out)
      | with_reducible exact HS.out _ (Upd.refl _ _).drew)
    (first
      | (go_at_call 34; refine (HT.out (HA1.out.own.below HB3.out (Nat.le_refl _)) (Nat.le_trans hbw HB3.out.size) HLn.out).mono ?_; rintro en w4 ⟨v4, rfl, A4⟩; have HA4 : Hid (AppB w1 w4 base v1 v4 (l1 ++ (kt ⟨su, ss, sk⟩ ++ kt ⟨lu, ls, lk⟩))) := AppB.pre HB3.out A4; clear A4)
      | (have hq := HB2; clear hq; go_at_call 72; refine (HL.out _).mono ?_; rintro en w3 ⟨rfl, hb3⟩; have HB3 : Hid (Below w1.heap.size w1 w3) := bstep HB2.out hb3; clear hb3)
      | (go_at_call 72; refine (HK.out _).mono ?_; rintro en w2 ⟨rfl, hb2⟩; have HB2 : Hid (Below w1.heap.size w1 w2) := bstep (Below.refl _ _).drew hb2; clear hb2))
  go_wp2
  go_ret
  exact ⟨_, rfl, by rw [← HE.out]; exact (AppB.pre (al1 _ _) HA1.out).trans HA4.out⟩
end Go.Proofs.Ytkmpcheamdadcaa
