import Derived.Test.YtedmfabonnpblaaRv
import Derived.WalkKit
import Derived.Deep.RegionWith
import Derived.WalkSpells
import Derived.WalkLawsBesides
import Derived.Deep.RegionHeldLaw
import Derived.Deep.DeepCutAuto
import Derived.BigRegion
namespace Go.Proofs.Ytedmfabonnpblaa
open Go.RowKit
set_option linter.unusedVariables false
set_option linter.unusedSimpArgs false

theorem byts32 (n : Int) (h0 : 0 ≤ n) : byts 4 (n % 4294967296) = byts 4 n := by
  have e : ∀ i, i < 4 → byteAt (n % 4294967296) i = byteAt n i := by
    intro i hi
    have : i = 0 ∨ i = 1 ∨ i = 2 ∨ i = 3 := by omega
    unfold byteAt
    rcases this with h | h | h | h <;> subst h <;> simp <;> omega
  unfold byts
  exact List.map_congr_left fun i hi => e i (List.mem_range.1 hi)
theorem cfixed32_own (n : Int) (w : World) (h0 : 0 ≤ n) :
    Calls Try.prog 13 #[.int .u32 (n % 4294967296)] w fun e w' => ∃ v, e = .returned v ∧ OwnB w' w.heap.size v (byts 4 n) ∧ Below w.heap.size w w' := by
  refine (cfixed32_any (n % 4294967296) w (by omega) (by omega)).mono ?_
  rintro e w' ⟨rfl, rfl⟩
  refine ⟨_, rfl, ?_, (Below.refl _ _).alloc (Nat.le_refl _) _⟩
  have := OwnB.ofBlock w w.heap.size (byts 4 n) [] (fxA 4 (n % 4294967296) 4) (0, 0) (by rw [fxA_bc, ← byts32 n h0, List.append_nil]; rfl) (Nat.le_refl _) (.inl rfl) (by rw [byts_len]; simp [maxLen]) 4 (by rw [byts_len]; rfl)
  rw [byts_len] at this
  exact this
theorem cfixed64_own' (n : Int) (w : World) (h0 : 0 ≤ n) (h1 : n < 18446744073709551616) :
    Calls Try.prog 15 #[.int .u64 n] w fun e w' => ∃ v, e = .returned v ∧ OwnB w' w.heap.size v (byts 8 n) ∧ Below w.heap.size w w' := by
  refine (cfixed64_own n w h0 h1).mono ?_
  rintro e w' ⟨b, rfl, ho, hb⟩
  exact ⟨_, rfl, ho, hb⟩
theorem OwnB.str {w : World} {base : Nat} {v : Value} {l : List Int} (h : OwnB w base v l) : (convert 23 9 v).run Try.prog w = .ok (.string (bstr l)) w :=
  h.run_string (P := Try.prog) 23 9 Try.underlying23 Try.underlying5 Try.underlying9

theorem rfixed4 (n : Int) (w : World) (h0 : 0 ≤ n) (h1 : n < 18446744073709551616) :
    Calls Try.prog 14 #[.int .u64 n, .int .i64 4] w fun e w' => ∃ v, e = .returned v ∧ OwnB w' w.heap.size v (byts 4 n) ∧ Below w.heap.size w w' := rfixed_any 4 (by decide) n w h0 h1
theorem rfixed8 (n : Int) (w : World) (h0 : 0 ≤ n) (h1 : n < 18446744073709551616) :
    Calls Try.prog 14 #[.int .u64 n, .int .i64 8] w fun e w' => ∃ v, e = .returned v ∧ OwnB w' w.heap.size v (byts 8 n) ∧ Below w.heap.size w w' := rfixed_any 8 (by decide) n w h0 h1
theorem rrf4 (a : Option Addr) (len cap : Nat) (l : List Int) (w : World) (h : Arg w a len cap l) :
    Calls Try.prog 17 #[.slice a len cap, .int .i64 4] w fun e w' => e = .returned (.tuple #[.int .u64 (rfV 4 l), .int .i64 (rfE 4 l)]) ∧ w' = w := rrf_any 4 (by decide) a len cap l w h
theorem rrf8 (a : Option Addr) (len cap : Nat) (l : List Int) (w : World) (h : Arg w a len cap l) :
    Calls Try.prog 17 #[.slice a len cap, .int .i64 8] w fun e w' => e = .returned (.tuple #[.int .u64 (rfV 8 l), .int .i64 (rfE 8 l)]) ∧ w' = w := rrf_any 8 (by decide) a len cap l w h
theorem rfV4_bd {l : List Int} (h : ∀ n ∈ l, 0 ≤ n ∧ n < 256) : 0 ≤ rfV 4 l ∧ rfV 4 l < 4294967296 := by
  unfold rfV
  split
  · decide
  · exact leV4_bd h (by omega)

set_option maxRecDepth 100000 in
set_option maxHeartbeats 3200000 in
theorem numbers_walk (n : Int) (a : Option Addr) (len cap : Nat) (l : List Int) (w : World) (h : Arg w a len cap l) (hcap : len ≤ cap) (h0 : 0 ≤ n) (h1 : n < 18446744073709551616) :
    Calls Try.prog 3 #[.int .u64 n, .slice a len cap] w fun e w' => e = .returned (.bool true) ∧ Below w.heap.size w w' := by
  obtain ⟨i0, hi, hz0, hz1, hz2⟩ := info_parts info5
  have hA : Arg (w.alloc (.cells #[] 5)) a len cap l := h.below ((Below.refl _ _).alloc (Nat.le_refl _) _)
  have HL : Hid (([] : List Int).length + l.length ≤ 140737488355328) := by show _ ≤ _; have := h.1; have := h.2.2.1; simp; omega
  obtain ⟨R, hR⟩ : ∃ R, rvG l 0 0 = R := ⟨_, rfl⟩
  have HR : Hid (rvG l 0 0 = R) := hR
  clear hR
  go_enter Try.func3, Try.ntmps3
  go_wp2_with (first
    | (at_builtin; refine OwnB.wpList_append rfl _ _ 23 23 rfl rfl (base := w.heap.size) (l := []) (own_empty w) i0 Try.underlying23 hi hz0 hz1 hz2 _ rfl l hA.src (by simp) HL.out ?_; intro v' w1 hown hgrow hat; obtain ⟨a', cap', rfl, hown', hA1, hA2, hbel⟩ := copy_arg h hown hgrow; clear hown hgrow hat)
    | (go_at_call 9; refine (crv_any _ _ _ l _ hA1).mono ?_; rw [HR.out]; rintro e w' ⟨rfl, rfl⟩)
    | (go_at_call 10; refine (rrv_any _ _ _ l _ hA2).mono ?_; rw [HR.out]; rintro e w' ⟨rfl, rfl⟩))
  clear hA hA1 hA2 hown' HL hi hz0 hz1 hz2
  go_cut [54] (fun t wc => t = .bool false ∧ Below w.heap.size w wc)
  case first =>
    go_region_held_law (fun w' => True) (exact True.intro)
     (first
      | (go_at_call 11; refine (cvarint_any n _ h0 h1).mono ?_; rintro e w2 ⟨v1, rfl, ho1, hbl1⟩; have hs1 := ho1.str)
      | (go_at_call 12; refine (rvarint_any n _ h0 h1).mono ?_; rintro e w3 ⟨v2, rfl, ho2, hbl2⟩; have hs2 := ho2.str; have hs1' := (ho1.below hbl2 (Nat.le_refl _)).str))
    all_goals
      go_wp2
      go_meet
      case rel => exact ⟨rfl, (hbel.drew.trans (hbl1.mono hbel.size)).trans (hbl2.mono (hbel.drew.trans (hbl1.mono hbel.size)).size)⟩
  case rest =>
    clear hbel
    obtain ⟨rfl, hbel⟩ := hcut
    go_wp2
    go_cut [71] (fun t wc => t = .bool false ∧ Below w.heap.size w wc)
    case first =>
      go_region_held_law (fun w' => True) (exact True.intro)
       (first
        | (go_at_call 13; refine (cfixed32_own n _ h0).mono ?_; rintro e w2 ⟨v1, rfl, ho1, hbl1⟩; have hs1 := ho1.str)
        | (go_at_call_of 14 (Value.int IntKind.i64 4); refine (rfixed4 n _ h0 h1).mono ?_; rintro e w3 ⟨v2, rfl, ho2, hbl2⟩; have hs2 := ho2.str; have hs1' := (ho1.below hbl2 (Nat.le_refl _)).str)
        | (go_at_call 15; refine (cfixed64_own' n _ h0 h1).mono ?_; rintro e w4 ⟨v3, rfl, ho3, hbl3⟩; have hs3 := ho3.str)
        | (go_at_call_of 14 (Value.int IntKind.i64 8); refine (rfixed8 n _ h0 h1).mono ?_; rintro e w5 ⟨v4, rfl, ho4, hbl4⟩; have hs4 := ho4.str; have hs3' := (ho3.below hbl4 (Nat.le_refl _)).str))
      all_goals
        go_wp2
        go_meet
        case rel =>
          have b1 := hbel.drew.trans (hbl1.mono hbel.size)
          have b2 := b1.trans (hbl2.mono b1.size)
          have b3 := b2.trans (hbl3.mono b2.size)
          exact ⟨rfl, b3.trans (hbl4.mono b3.size)⟩
    case rest =>
      clear hbel
      obtain ⟨rfl, hbel⟩ := hcut
      obtain ⟨q0, q1⟩ := rfV4_bd h.2.1
      have hA := h.below hbel
      go_wp2_with (first
        | (go_at_call 16; refine (crf32_any _ _ _ l _ hA hcap).mono ?_; rintro e w2 ⟨rfl, hbl1⟩; have hA1 := hA.below hbl1)
        | (go_at_call_of 17 (Value.int IntKind.i64 4); refine (rrf4 _ _ _ l _ hA1).mono ?_; rintro e w' ⟨rfl, rfl⟩)
        | (go_at_call 18; refine (crf64_any _ _ _ l _ hA1 hcap).mono ?_; rintro e w3 ⟨rfl, hbl2⟩; have hA2 := hA1.below hbl2)
        | (go_at_call_of 17 (Value.int IntKind.i64 8); refine (rrf8 _ _ _ l _ hA2).mono ?_; rintro e w' ⟨rfl, rfl⟩)
        | (go_at_call 19; refine (lives_any _).mono ?_; rintro e w4 ⟨rfl, hbl3⟩))
      go_ret
      have b1 := hbel.trans (hbl1.mono hbel.size)
      have b2 := b1.trans (hbl2.mono b1.size)
      exact ⟨rfl, b2.trans (hbl3.mono b2.size)⟩
end Go.Proofs.Ytedmfabonnpblaa
