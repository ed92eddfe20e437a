/-
  Entries as the form reads them.
-/
import Derived.Test.YtbnllobofndckaaSm
import Derived.Test.YtbnllobofndckaaRows
import Derived.ProofKit
import Derived.OpenShut
import Derived.ShutString
import Derived.ChangeOld
import Derived.SizedLaws
import Derived.JoinedOf
import Derived.MakeChecks
import Derived.Deep.Slices
import Derived.Lib.SmallJoins
import Derived.ChangeSame
namespace Go.Proofs.Ytbnllobofndckaa
open Go.RowKit
set_option linter.unusedVariables false
set_option linter.unusedSimpArgs false
set_option maxRecDepth 100000 in
theorem one_eq : bstr (bldB 0 1 []) = ⟨#[0, 0, 0, 0, 1, 0, 0, 0]⟩ := by kernel_rfl
set_option maxRecDepth 100000 in
theorem one_err : bldE 0 1 [] = 0 := by kernel_rfl
set_option maxRecDepth 100000 in
set_option maxHeartbeats 2000000 in
theorem bytes_walk {w : World} {a : Option Addr} {l : List Ent} (hl : RdE w a l) (hs : ∀ e ∈ l, 0 ≤ e.s) (how r : Int) (c : Nat) (hN : l.length * 48 ≤ 140737488355328) :
    Calls Try.prog 3 #[.int .i64 how, .int .i64 r, .slice a l.length c] w fun e w' => e = .returned (.bool true) ∧ Below w.heap.size w w' := by
  obtain ⟨N, hNN⟩ : ∃ N, Hid (l.length = N) := ⟨_, rfl⟩
  obtain ⟨w1, av, cv, w2, hmk, hrun, hin, hb2⟩ := ents_copy hl c hN
  have HL : Hid (RdE w a l) := hl
  have HI : Hid (RdE w2 av l) := hin
  have HB2 : Hid (Below w.heap.size w w2) := hb2
  obtain ⟨E, hE⟩ : ∃ E, Hid (bldE how r l = E) := ⟨_, rfl⟩
  obtain ⟨V, hV⟩ : ∃ V, Hid (sizV r l = V) := ⟨_, rfl⟩
  obtain ⟨G, hG⟩ : ∃ G, Hid (sizE r l = G) := ⟨_, rfl⟩
  obtain ⟨B, hB⟩ : ∃ B, Hid (bldB how r l = B) := ⟨_, rfl⟩
  obtain ⟨S, hS⟩ : ∃ S, Hid (bstr B = S) := ⟨_, rfl⟩
  have HBu : Hid (∀ W a' c', RdE W a' l → Calls Try.prog 7 #[.int .i64 how, .int .i64 r, .slice a' N c'] W fun e w' => ∃ v, e = .returned (.tuple #[v, .int .i64 E]) ∧ OwnB w' W.heap.size v B ∧ Below W.heap.size W w') := fun W a' c' h => by
    have := build_any h hs how r c' (by omega)
    rw [hNN.out, hE.out, hB.out] at this; exact this
  have HRb : Hid (∀ W a' c', RdE W a' l → Calls Try.prog 8 #[.int .i64 how, .int .i64 r, .slice a' N c'] W fun e w' => ∃ v, e = .returned (.tuple #[v, .int .i64 E]) ∧ OwnB w' W.heap.size v B ∧ Below W.heap.size W w') := fun W a' c' h => by
    have := rbuild_any h hs how r c' (by omega)
    rw [hNN.out, hE.out, hB.out] at this; exact this
  have HSz : Hid (∀ W a' c', RdE W a' l → Calls Try.prog 9 #[.int .i64 r, .slice a' N c'] W fun e w' => e = .returned (.tuple #[.int .i64 V, .int .i64 G]) ∧ Below W.heap.size W w') := fun W a' c' h => by
    have := size9_any h hs r c' (by omega)
    rw [hNN.out, hV.out, hG.out] at this; exact this
  have HRz : Hid (∀ W a' c', RdE W a' l → Calls Try.prog 10 #[.int .i64 r, .slice a' N c'] W fun e w' => e = .returned (.tuple #[.int .i64 V, .int .i64 G]) ∧ Below W.heap.size W w') := fun W a' c' h => by
    have := rsize_any h hs r c' (by omega)
    rw [hNN.out, hV.out, hG.out] at this; exact this
  have HOn : Hid (∀ W, Calls Try.prog 7 #[.int .i64 0, .int .i64 1, .slice none 0 0] W fun e w' => ∃ v, e = .returned (.tuple #[v, .int .i64 0]) ∧ OwnB w' W.heap.size v (bldB 0 1 []) ∧ Below W.heap.size W w') := fun W => by
    have := build_any (w := W) (a := none) (l := []) (.inl rfl) (by simp) 0 1 0 (by simp)
    rw [one_err] at this; exact this
  have HSm : Hid (∀ W a1 a2 c1 c2, RdE W a1 l → RdE W a2 l → Calls Try.prog 11 #[.slice a1 N c1, .slice a2 N c2] W fun e w' => e = .returned (.bool true) ∧ Below W.heap.size W w') := fun W a1 a2 c1 c2 h1 h2 => by
    have := same_any h1 h2 c1 c2 (by omega)
    rw [hNN.out] at this; exact this
  have HCv : Hid (∀ (W : World) (base : Nat) (v : Value) (L : List Int), OwnB W base v L → (convert 23 9 v).run Try.prog W = .ok (.string (bstr L)) W) := fun W base v L h => h.run_string 23 9 Try.underlying23 Try.underlying5 Try.underlying9
  rw [hNN.out] at hmk hrun hN ⊢
  clear hl hs hin hb2
  go_enter Try.func3, Try.ntmps3
  go_wp2_with (first
    | (go_at_call 11; have hq := b7; clear hq; refine (HSm.out _ _ _ _ _ (HI.out.below b37) (HL.out.below b7)).mono ?_; rintro e w8 ⟨rfl, b78⟩; have b8 := b7.trans (b78.mono b7.size)
       have hcv3 : (convert 23 9 v7).run Try.prog w8 = .ok (.string ⟨#[0, 0, 0, 0, 1, 0, 0, 0]⟩) w8 := by have := HCv.out _ _ _ _ (o7.below b78 (Nat.le_refl _)); rw [one_eq] at this; exact this)
    | (go_at_call 7; have hq := b6; clear hq; refine (HOn.out _).mono ?_; rintro e w7 ⟨v7, rfl, o7, b67⟩; have b7 := b6.trans (b67.mono b6.size); have b37 := b26.trans (b67.mono b26.size)
       have hcv1 : (convert 23 9 v3).run Try.prog w7 = .ok (.string S) w7 := by have := HCv.out _ _ _ _ ((o3.below b36 (Nat.le_refl _)).below b67 (Nat.le_refl _)); rw [hS.out] at this; exact this
       have hcv2 : (convert 23 9 v4).run Try.prog w7 = .ok (.string S) w7 := by have := HCv.out _ _ _ _ ((o4.below b46 (Nat.le_refl _)).below b67 (Nat.le_refl _)); rw [hS.out] at this; exact this)
    | (go_at_call 10; have hq := b5; clear hq; refine (HRz.out _ _ _ (HL.out.below b5)).mono ?_; rintro e w6 ⟨rfl, b56⟩; have b6 := b5.trans (b56.mono b5.size); have b26 := b25.trans (b56.mono b25.size); have b36 := b35.trans (b56.mono b35.size); have b46 := b45.trans (b56.mono b45.size))
    | (go_at_call 9; have hq := b4; clear hq; refine (HSz.out _ _ _ (HI.out.below b24)).mono ?_; rintro e w5 ⟨rfl, b45⟩; have b5 := b4.trans (b45.mono b4.size); have b25 := b24.trans (b45.mono b24.size); have b35 := b34.trans (b45.mono b34.size))
    | (go_at_call 8; have hq := b3; clear hq; refine (HRb.out _ _ _ (HL.out.below b3)).mono ?_; rintro e w4 ⟨v4, rfl, o4, b34⟩; have b4 := b3.trans (b34.mono b3.size); have b24 := b23.trans (b34.mono b23.size))
    | (go_at_call 7; refine (HBu.out _ _ _ HI.out).mono ?_; rintro e w3 ⟨v3, rfl, o3, b23⟩; have b3 := HB2.out.trans (b23.mono HB2.out.size))
    | (at_builtin; refine wpList_append_run rfl (.tmp 21) (.tmp 22) 22 22 rfl rfl rfl hrun ?_))
  go_ret
  exact ⟨rfl, b8⟩
end Go.Proofs.Ytbnllobofndckaa
namespace Go.Proofs.Ytbnllobofndckaa
open Go.RowKit Go.ChangeShapes Go.WideShapes Go.ChangeAt
set_option linter.unusedVariables false
set_option linter.unusedSimpArgs false
theorem cells48 : Try.prog.cellsOf 48 = 4 := by kernel_rfl
theorem cells33 : Try.prog.cellsOf 33 = 3 := by kernel_rfl
theorem cells31 : Try.prog.cellsOf 31 = 1 := by kernel_rfl
theorem cells9 : Try.prog.cellsOf 9 = 1 := by kernel_rfl
theorem cells3 : Try.prog.cellsOf 3 = 1 := by kernel_rfl
theorem list4 {cs : List Value} (h : cs.length = 4) : ∃ c0 c1 c2 c3, cs = [c0, c1, c2, c3] := by
  match cs, h with
  | [c0, c1, c2, c3], _ => exact ⟨c0, c1, c2, c3, rfl⟩
theorem keycells_open {H : Type} {enc : TypeId × Value → H} {W : World} {base : Nat} {spare : Nat → Bool} {held : Bool} {n : Nat} {c0 c1 c2 : Value} {y : DataW H × List MemPlace}
    (h : DataW.trod enc Try.prog W base spare held n 33 [c0, c1, c2] = some y) : ∃ (u : ByteArray) (s k : Int), c0 = .string u ∧ c1 = .int .u64 s ∧ c2 = .int .i64 k ∧ 0 ≤ s := by
  obtain ⟨y0, y1, y2, m, _, _, h0, h1, h2⟩ := Go.Deep.trod_struct3 Try.underlying33 h
  simp only [cells9, cells31, cells3, List.drop_zero, List.drop_succ_cons, List.take_succ_cons, List.take_zero] at h0 h1 h2
  obtain ⟨u, e0, _, wu⟩ := DataW.trod_string Try.underlying9 h0
  obtain ⟨s, e1, _, ws⟩ := DataW.trod_int Try.underlying31 h1
  obtain ⟨k, e2, _, wk⟩ := DataW.trod_int Try.underlying3 h2
  simp at e0 e1 e2
  exact ⟨u, s, k, e0, e1, e2, (bounds_u64 ws).1⟩
/-- The cells of an entry, as the form reads them. -/
theorem ent_open {H : Type} {enc : TypeId × Value → H} {W : World} {base : Nat} {spare : Nat → Bool} {held : Bool} {n : Nat} {cs : List Value} {y : DataW H × List MemPlace} (h : DataW.trod enc Try.prog W base spare held n 48 cs = some y) :
    ∃ r : Ent, cs = r.c ∧ 0 ≤ r.s := by
  obtain ⟨xs, k, hk, hxy, hl, hxl, hf⟩ := DataW.trod_struct (show Try.prog.underlying 48 = _ from Try.underlying48) h
  have h0 : DataW.trod enc Try.prog W base spare held k 33 ((cs.drop 0).take (Try.prog.cellsOf 33)) = xs[0]? := hf 0 _ rfl
  have h1 : DataW.trod enc Try.prog W base spare held k 9 ((cs.drop 3).take (Try.prog.cellsOf 9)) = xs[1]? := hf 1 _ rfl
  rw [cells48] at hl
  have hxs : xs.length = 2 := hxl
  clear hf hxy hxl h
  obtain ⟨c0, c1, c2, c3, rfl⟩ := list4 hl
  rw [List.getElem?_eq_getElem (by omega)] at h0 h1
  simp only [cells33, cells9, List.drop_zero, List.drop_succ_cons, List.take_succ_cons, List.take_zero] at h0 h1
  obtain ⟨u, s, kd, rfl, rfl, rfl, hs⟩ := keycells_open h0
  obtain ⟨v, e3, _, wv⟩ := DataW.trod_string Try.underlying9 h1
  simp at e3
  subst e3
  exact ⟨⟨u, s, kd, v⟩, rfl, hs⟩
instance : Inhabited Ent := ⟨⟨⟨#[]⟩, 0, 0, ⟨#[]⟩⟩⟩
/-- A slice of entries, as the form reads it. -/
theorem ents_open {H : Type} {enc : TypeId × Value → H} {W : World} {held : Bool} {n : Nat} {a : Option Addr} {len cap : Nat} {x : DataW H × List MemPlace} (h : DataW.trod enc Try.prog W 0 (fun _ => true) held n 22 [.slice a len cap] = some x) :
    ∃ l : List Ent, l.length = len ∧ RdE W a l ∧ (∀ e ∈ l, 0 ≤ e.s) ∧ (l = [] ∨ ∃ es sp, x.1 = .slice es sp ∧ es.length = l.length) := by
  rcases Go.Deep.open_slice Try.underlying22 h with ⟨h0, _⟩ | ⟨a', len', cap', m, n', D, Pl, hcs, hb, hl, hm, hmm, hx, hcell⟩
  · simp only [List.cons.injEq, Value.slice.injEq, and_true] at h0
    obtain ⟨rfl, rfl, rfl⟩ := h0
    exact ⟨[], rfl, .inl rfl, by simp, .inl rfl⟩
  · simp only [List.cons.injEq, Value.slice.injEq, and_true] at hcs
    obtain ⟨rfl, rfl, rfl⟩ := hcs
    simp only [if_true] at hmm
    subst hmm
    rw [cells48] at hcell
    obtain ⟨R, hR⟩ := Go.Deep.choose_lt (α := Ent) (n := len) (p := fun i r => (∀ j, j < 4 → W.cell? (a'.add (i * 4 + j)) = r.c[j]?) ∧ 0 ≤ r.s) (fun i hi => by
      obtain ⟨cs', h1, h2⟩ := hcell i (by omega)
      obtain ⟨_, _, hc⟩ := World.cells?_some h1
      obtain ⟨r, rfl, f0⟩ := ent_open h2
      refine ⟨r, fun j hj => ?_, f0⟩
      have := hc j hj
      rw [Go.Deep.add_add] at this
      exact this)
    refine ⟨(List.range len).map R, by simp, ?_, ?_, .inr ⟨_, _, by rw [hx], by simp⟩⟩
    · by_cases hz : len = 0
      · subst hz
        exact .inl rfl
      · right
        obtain ⟨b, off, spot⟩ := a'
        have hc0 := (hR 0 (by omega)).1 0 (by decide)
        have hspot : spot = none := by
          have : W.cell? ((⟨b, off, spot⟩ : Addr).add (0 * 4 + 0)) = some (.string (R 0).u) := hc0
          simpa [Addr.add] using World.cell?_spot this
        subst hspot
        refine ⟨b, off, rfl, ?_, fun j r hj => ?_⟩
        · have : W.cell? ((⟨b, off, none⟩ : Addr).add (0 * 4 + 0)) = some (.string (R 0).u) := hc0
          have := World.block_lt_of_cell? W _ this
          rw [add_at] at this
          exact this
        · have hj' : j < len := by have := (List.getElem?_eq_some_iff.1 hj).1; simpa using this
          rw [List.getElem?_map, List.getElem?_range hj'] at hj
          simp at hj
          subst hj
          have hc := (hR j hj').1
          have c0 := hc 0 (by decide)
          have c1 := hc 1 (by decide)
          have c2 := hc 2 (by decide)
          have c3 := hc 3 (by decide)
          rw [add_at] at c0 c1 c2 c3
          exact ⟨c0, c1, c2, c3⟩
    · intro e he
      simp only [List.mem_map, List.mem_range] at he
      obtain ⟨i, hi, rfl⟩ := he
      exact (hR i hi).2
end Go.Proofs.Ytbnllobofndckaa
