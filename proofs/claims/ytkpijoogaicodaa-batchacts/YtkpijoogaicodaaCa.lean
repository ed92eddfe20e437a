import Derived.Test.YtkpijoogaicodaaProg
import Derived.Test.YtkpijoogaicodaaOb
import Derived.WalkKit
import Derived.WalkSpells
import Derived.WalkLawsBesides
import Derived.Deep.RegionHeldLaw
import Derived.Laws.BitsAllLaws
import Derived.Lib.VarintBits
import Derived.Lib.EndianBits
namespace Go.Proofs.Ytkpijoogaicodaa
open Go.RowKit
set_option linter.unusedVariables false
set_option linter.unusedSimpArgs false

theorem info5 : (Try.prog.info? 5).map (fun i => (i.zero, i.size, i.bytes)) = some (some (.int .u8 0), 1, 1) := by kernel_rfl
theorem val_i {k : IntKind} {a b : Int} (h : a = b) : Value.int k a = .int k b := by rw [h]

/-- The bytes of a number, the lowest first. -/
def byteAt (n : Int) (i : Nat) : Int := n / 2 ^ (8 * i) % 256
def fxA (s : Nat) (n : Int) (k : Nat) : Array Value := ((List.range s).map fun i => Value.int .u8 (if i < k then byteAt n i else 0)).toArray
theorem fxA_get (s : Nat) (n : Int) (k i : Nat) (h : i < s) : (fxA s n k)[i]? = some (.int .u8 (if i < k then byteAt n i else 0)) := by
  simp [fxA, h]
theorem fxA_size (s : Nat) (n : Int) (k : Nat) : (fxA s n k).size = s := by simp [fxA]
theorem fxA_set (s : Nat) (n : Int) (k : Nat) (h : k < s) (v : Int) (hv : v = byteAt n k) : (fxA s n k).setIfInBounds k (.int .u8 v) = fxA s n (k + 1) := by
  subst hv
  apply Array.ext_getElem?
  intro i
  rw [Array.getElem?_setIfInBounds]
  by_cases hik : k = i
  · subst hik; rw [if_pos rfl, if_pos (by rw [fxA_size]; exact h), fxA_get s n _ k h, if_pos (by omega)]
  · rw [if_neg hik]
    by_cases hi : i < s
    · rw [fxA_get s n _ i hi, fxA_get s n _ i hi]
      congr 2
      by_cases h1 : i < k
      · rw [if_pos h1, if_pos (by omega)]
      · rw [if_neg h1, if_neg (by omega)]
    · rw [Array.getElem?_eq_none (by rw [fxA_size]; omega), Array.getElem?_eq_none (by rw [fxA_size]; omega)]
set_option maxRecDepth 100000 in
set_option maxHeartbeats 400000 in
theorem fixed_any (s : Nat) (hs : s ≤ 8) (hmk : ∀ w, (Instr.makeSlice 24 (.int .i64 s) (.int .i64 s)).run Try.prog w = .ok (.slice (some ⟨w.heap.size, 0, none⟩) s s) (w.alloc (.cells (fxA s 0 0) 5))) (n : Int) (w : World) (h0 : 0 ≤ n) (h1 : n < 18446744073709551616) :
    Calls Try.prog 56 #[.int .u64 n, .int .i64 s] w fun e w' => e = .returned (.slice (some ⟨w.heap.size, 0, none⟩) s s) ∧ w' = w.alloc (.cells (fxA s n s) 5) := by
  have hz : fxA s 0 0 = fxA s n 0 := by simp [fxA]
  rw [hz] at hmk; clear hz
  go_enter Try.func56, Try.ntmps56
  go_wp2
  go_loopw [6, 10] (fun _ i wr => ∃ k : Nat, k ≤ s ∧ i = .int .i64 k ∧ wr = w.alloc (.cells (fxA s n k) 5)) (fun _ i _ => s - (intOf i).toNat)
  case atStart => exact ⟨0, Nat.zero_le _, rfl, rfl⟩
  case round =>
    obtain ⟨k, hk, rfl, rfl⟩ := hrel
    by_cases hlt : k < s
    · have hg := fxA_get s n k k hlt
      go_wp2
      go_roundw
      case rel =>
        refine ⟨k + 1, by omega, by go_num, ?_⟩
        rw [fxA_set s n k hlt (n / 2 ^ (8 * k) % 256) rfl]
      case measure => simp [intOf]; omega
    · obtain rfl : k = s := by omega
      go_wp2
      go_ret
      exact ⟨rfl, rfl⟩
theorem mk8 : ∀ w, (Instr.makeSlice 24 (.int .i64 8) (.int .i64 8)).run Try.prog w = .ok (.slice (some ⟨w.heap.size, 0, none⟩) 8 8) (w.alloc (.cells (fxA 8 0 0) 5)) := fun _ => by kernel_rfl
theorem mk4 : ∀ w, (Instr.makeSlice 24 (.int .i64 4) (.int .i64 4)).run Try.prog w = .ok (.slice (some ⟨w.heap.size, 0, none⟩) 4 4) (w.alloc (.cells (fxA 4 0 0) 5)) := fun _ => by kernel_rfl
theorem fixed8 (n : Int) (w : World) (h0 : 0 ≤ n) (h1 : n < 18446744073709551616) :
    Calls Try.prog 56 #[.int .u64 n, .int .i64 8] w fun e w' => e = .returned (.slice (some ⟨w.heap.size, 0, none⟩) 8 8) ∧ w' = w.alloc (.cells (fxA 8 n 8) 5) :=
  fixed_any 8 (Nat.le_refl _) mk8 n w h0 h1
theorem fixed4 (n : Int) (w : World) (h0 : 0 ≤ n) (h1 : n < 18446744073709551616) :
    Calls Try.prog 56 #[.int .u64 n, .int .i64 4] w fun e w' => e = .returned (.slice (some ⟨w.heap.size, 0, none⟩) 4 4) ∧ w' = w.alloc (.cells (fxA 4 n 4) 5) :=
  fixed_any 4 (by decide) mk4 n w h0 h1
set_option maxRecDepth 100000 in
set_option maxHeartbeats 400000 in
theorem cfixed64_any (n : Int) (w : World) (h0 : 0 ≤ n) (h1 : n < 18446744073709551616) :
    Calls Try.prog 28 #[.int .u64 n] w fun e w' => e = .returned (.slice (some ⟨w.heap.size, 0, none⟩) 8 8) ∧ w' = w.alloc (.cells (fxA 8 n 8) 5) := by
  go_enter Try.func28, Try.ntmps28
  go_wp2_with (go_at_call 56; refine (fixed8 n _ h0 h1).mono ?_; rintro e w' ⟨rfl, rfl⟩)
  go_ret
  exact ⟨rfl, rfl⟩
set_option maxRecDepth 100000 in
set_option maxHeartbeats 400000 in
theorem cfixed32_any (n : Int) (w : World) (h0 : 0 ≤ n) (h1 : n < 4294967296) :
    Calls Try.prog 29 #[.int .u32 n] w fun e w' => e = .returned (.slice (some ⟨w.heap.size, 0, none⟩) 4 4) ∧ w' = w.alloc (.cells (fxA 4 n 4) 5) := by
  go_enter Try.func29, Try.ntmps29
  go_wp2_with (go_at_call 56; refine (fixed4 n _ h0 (by omega)).mono ?_; rintro e w' ⟨rfl, rfl⟩)
  go_ret
  exact ⟨rfl, rfl⟩
theorem ret_ii {k : IntKind} {a b : Int} (h : a = b) : Ending.returned (.int k a) = .returned (.int k b) := by rw [h]
theorem fxA_bc (s : Nat) (n : Int) : fxA s n s = (bc ((List.range s).map (byteAt n))).toArray := by
  unfold fxA bc
  rw [List.map_map]
  congr 1
  apply List.map_congr_left
  intro i hi
  rw [if_pos (List.mem_range.1 hi)]; rfl
/-- Fixed64's answer, as a slice of the call's own. -/
theorem cfixed64_own (n : Int) (w : World) (h0 : 0 ≤ n) (h1 : n < 18446744073709551616) :
    Calls Try.prog 28 #[.int .u64 n] w fun e w' => ∃ b, e = .returned (.slice (some ⟨b, 0, none⟩) 8 8) ∧ OwnB w' w.heap.size (.slice (some ⟨b, 0, none⟩) 8 8) ((List.range 8).map (byteAt n)) ∧ Below w.heap.size w w' := by
  refine (cfixed64_any n w h0 h1).mono ?_
  rintro e w' ⟨rfl, rfl⟩
  refine ⟨_, rfl, ?_, (Below.refl _ _).alloc (Nat.le_refl _) _⟩
  exact OwnB.ofBlock w w.heap.size ((List.range 8).map (byteAt n)) [] _ (0, 0) (by rw [fxA_bc]; simp) (Nat.le_refl _) (.inl rfl) (by simp [maxLen]) 8 (by simp)
theorem bcell {W w1 : World} (hb : Below W.heap.size W w1) : ∀ b o, b < W.heap.size → w1.cell? ⟨b, o, none⟩ = W.cell? ⟨b, o, none⟩ :=
  fun b o h => hb.cell (p := ⟨b, o, none⟩) h
theorem src_own {w : World} {base b : Nat} {l : List Int} (h : OwnB w base (.slice (some ⟨b, 0, none⟩) 8 8) l) : Src Try.prog 1 24 (.slice (some ⟨b, 0, none⟩) 8 8) l.length (bc l) w := by
  have e := h.cells.1
  have := Src.ofSlice (P := Try.prog) w (size := 1) Try.underlying24 ⟨b, 0, none⟩ 8 8 (bc l) (by rw [bc_len]; omega) h.news (bc_one l)
  rwa [e] at this ⊢

/-- A slice of bytes that came in and reads as l. -/
def Arg (w : World) (a : Option Addr) (len cap : Nat) (l : List Int) : Prop :=
  l.length = len ∧ (∀ n ∈ l, 0 ≤ n ∧ n < 256) ∧ len ≤ 140737488351232 ∧
  (l = [] ∨ ∃ b off, a = some ⟨b, off, none⟩ ∧ b < w.heap.size ∧ ∀ j, (h : j < l.length) → w.cell? ⟨b, off + j, none⟩ = some (.int .u8 l[j]))
theorem Arg.below {w w' : World} {a : Option Addr} {len cap : Nat} {l : List Int} (h : Arg w a len cap l) (hb : Below w.heap.size w w') : Arg w' a len cap l := by
  obtain ⟨h1, h2, h3, h4⟩ := h
  refine ⟨h1, h2, h3, ?_⟩
  rcases h4 with h4 | ⟨b, off, ha, hlt, hc⟩
  · exact .inl h4
  · refine .inr ⟨b, off, ha, Nat.lt_of_lt_of_le hlt hb.size, fun j hj => ?_⟩
    rw [hb.cell (p := ⟨b, off + j, none⟩) hlt]; exact hc j hj
theorem Arg.src {w : World} {a : Option Addr} {len cap : Nat} {l : List Int} (h : Arg w a len cap l) : Src Try.prog 1 24 (.slice a len cap) l.length (bc l) w := by
  obtain ⟨rfl, h2, h3, h4⟩ := h
  rcases h4 with rfl | ⟨b, off, rfl, hlt, hc⟩
  · cases a with
    | none => exact Src.ofNil w Try.underlying24 cap
    | some x => exact Src.ofSlice w Try.underlying24 x 0 cap [] rfl (by simp) (by simp)
  · refine Src.ofSlice w Try.underlying24 ⟨b, off, none⟩ l.length cap (bc l) (by rw [bc_len]; omega) ?_ (bc_one l)
    intro j u hu
    obtain ⟨hj, rfl⟩ := bc_get l j u hu
    have e : (⟨b, off, none⟩ : Addr).add j = ⟨b, off + j, none⟩ := by unfold Addr.add; split <;> simp_all
    rw [e]; exact hc j hj
theorem OwnB.arg {w : World} {base : Nat} {v : Value} {l : List Int} (h : OwnB w base v l) (hb : ∀ n ∈ l, 0 ≤ n ∧ n < 256) (hl : l.length ≤ 140737488351232) :
    ∃ a cap, v = .slice a l.length cap ∧ Arg w a l.length cap l := by
  rcases h with ⟨rfl, rfl⟩ | ⟨b, off, cap, rfl, h1, h2, h3, h4, h5, h6⟩
  · exact ⟨none, 0, rfl, rfl, hb, hl, .inl rfl⟩
  · exact ⟨_, cap, rfl, rfl, hb, hl, .inr ⟨b, off, rfl, h2, h5⟩⟩
theorem own_empty (w : World) : OwnB (w.alloc (.cells #[] 5)) w.heap.size (.slice (some ⟨w.heap.size, 0, none⟩) 0 0) [] :=
  OwnB.ofBlock w w.heap.size [] [] #[] (0, 0) rfl (Nat.le_refl _) (.inl rfl) (by simp) 0 rfl
/-- 'append([]byte{}, b...)': what comes of it. -/
theorem copy_arg {w w1 : World} {v' : Value} {a : Option Addr} {len cap : Nat} {l : List Int} (h : Arg w a len cap l) (hown : OwnB w1 w.heap.size v' ([] ++ l)) (hgrow : (w.alloc (.cells #[] 5)).grownBy w1 (some w.heap.size)) :
    ∃ a' cap', v' = .slice a' len cap' ∧ OwnB w1 w.heap.size (.slice a' len cap') l ∧ Arg w1 a' len cap' l ∧ Arg w1 a len cap l ∧ Below w.heap.size w w1 := by
  have hb : Below w.heap.size w w1 := ((Below.refl w.heap.size w).alloc (Nat.le_refl _) (.cells #[] 5)).grown hgrow (by simp) (by intro k hk; cases hk; exact Nat.le_refl _)
  have hown' : OwnB w1 w.heap.size v' l := hown
  obtain ⟨a', cap', rfl, ha⟩ := hown'.arg h.2.1 (by rw [h.1]; exact h.2.2.1)
  rw [h.1] at ha hown' ⊢
  exact ⟨a', cap', rfl, hown', ha, h.below hb, hb⟩
/-- The bytes of a number. -/
def byts (s : Nat) (n : Int) : List Int := (List.range s).map (byteAt n)
theorem byts_len (s : Nat) (n : Int) : (byts s n).length = s := by simp [byts]
theorem byts_bd (s : Nat) (n : Int) : ∀ c ∈ byts s n, 0 ≤ c ∧ c < 256 := by
  intro c hc
  obtain ⟨i, _, rfl⟩ := List.mem_map.1 hc
  unfold byteAt; omega
theorem byts_succ (s : Nat) (n : Int) : byts (s + 1) n = (n % 256) :: byts s (n / 256) := by
  unfold byts
  rw [List.range_succ_eq_map, List.map_cons, List.map_map]
  congr 1
  · simp [byteAt]
  · apply List.map_congr_left
    intro i _
    simp only [Function.comp, byteAt]
    rw [Nat.succ_eq_add_one, Nat.mul_add, Int.pow_add, Int.mul_comm]
    have e : n / 256 / 2 ^ (8 * i) = n / (256 * 2 ^ (8 * i)) := by
      rw [Int.ediv_ediv, if_neg (by intro h; exact absurd h.1 (by decide)), Int.sub_zero]
    rw [e]
    rfl

theorem byts_snoc (k : Nat) (n : Int) : byts (k + 1) n = byts k n ++ [byteAt n k] := by simp [byts, List.range_succ]
theorem src_one (W : World) (x : Int) : Src Try.prog 1 24 (.slice (some ⟨W.heap.size, 0, none⟩) 1 1) [x].length (bc [x]) (W.alloc (.cells #[.int .u8 x] 5)) := by
  refine Src.ofSlice _ Try.underlying24 ⟨W.heap.size, 0, none⟩ 1 1 (bc [x]) rfl ?_ (bc_one _)
  intro j u hu
  obtain ⟨hj, rfl⟩ := bc_get [x] j u hu
  have : j = 0 := by simp at hj; omega
  subst this
  exact World.cell?_alloc_new W #[.int .u8 x] 5 0
theorem below_push {w W w1 : World} {v : Value} {o : Obj} {l : List Int} (hown : OwnB W w.heap.size v l) (hbel : Below w.heap.size w W) (hg : (W.alloc o).grownBy w1 v.ownBlock) : Below w.heap.size w w1 :=
  (hbel.alloc hbel.size o).grown hg (by have := hbel.size; simp; omega) (fun k hk => (hown.lt k hk).1)
set_option maxRecDepth 100000 in
set_option maxHeartbeats 1000000 in
theorem rfixed_any (s : Nat) (hs : s ≤ 8) (n : Int) (w : World) (h0 : 0 ≤ n) (h1 : n < 18446744073709551616) :
    Calls Try.prog 33 #[.int .u64 n, .int .i64 s] w fun e w' => ∃ v, e = .returned v ∧ OwnB w' w.heap.size v (byts s n) ∧ Below w.heap.size w w' := by
  obtain ⟨i0, hi, hz0, hz1, hz2⟩ := info_parts info5
  go_enter Try.func33, Try.ntmps33
  go_wp2
  go_loopw [5, 6] (fun v i wr => ∃ k : Nat, k ≤ s ∧ i = .int .i64 k ∧ OwnB wr w.heap.size v (byts k n) ∧ Below w.heap.size w wr) (fun _ i _ => s - (intOf i).toNat)
  case atStart => exact ⟨0, Nat.zero_le _, rfl, own_empty w, (Below.refl _ _).alloc (Nat.le_refl _) _⟩
  case round =>
    obtain ⟨k, hk, rfl, hown, hbel⟩ := hrel
    by_cases hlt : k < s
    · have hb2 : w.heap.size ≤ wr.heap.size + 1 := by have := hbel.size; omega
      have HB : Hid ((byts k n).length + [byteAt n k].length ≤ 140737488355328) := by show _ ≤ _; rw [byts_len]; simp; omega
      go_wp2_with (at_builtin; refine OwnB.wpList_append rfl _ _ 24 24 rfl rfl (base := w.heap.size) (l := byts k n) (hown.alloc _) i0 Try.underlying24 hi hz0 hz1 hz2 _ rfl [byteAt n k] (src_one _ _) (by simpa using hb2) HB.out ?_; intro v' w1 hown' hgrow hat)
      go_roundw
      case rel => exact ⟨k + 1, by omega, by go_num, by rw [byts_snoc]; exact hown', below_push hown hbel hgrow⟩
      case measure => simp [intOf]; omega
    · obtain rfl : k = s := by omega
      go_wp2
      go_ret
      exact ⟨_, rfl, hown, hbel⟩

/-- A number in groups of seven bits. -/
def vL : Nat → Int → List Int
  | 0, m => [m]
  | f + 1, m => if m < 128 then [m] else (m % 128 + 128) :: vL f (m / 128)
theorem vL_last (f : Nat) (m : Int) (h : m < 128) : vL f m = [m] := by
  cases f with
  | zero => rfl
  | succ f => unfold vL; rw [if_pos h]
theorem vL_more (f : Nat) (m : Int) (h : 128 ≤ m) : vL (f + 1) m = (m % 128 + 128) :: vL f (m / 128) := by
  conv => lhs; unfold vL
  rw [if_neg (by omega)]
theorem or128 (x : Int) (h0 : 0 ≤ x) (h1 : x < 256) : bits .or .u8 x 128 = x % 128 + 128 := by
  obtain ⟨n, rfl⟩ := Int.eq_ofNat_of_zero_le h0
  have h := u8_or_nat n 128 (by omega) (by decide)
  have e : n ||| 128 = n % 128 + 128 := by
    have h2 : n < 256 := by omega
    have : ∀ n : Fin 256, n.val ||| 128 = n.val % 128 + 128 := by decide +kernel
    exact this ⟨n, h2⟩
  rw [e] at h
  have h' : bits .or .u8 (n : Int) 128 = ((n % 128 + 128 : Nat) : Int) := h
  rw [h']; omega
theorem byte_c (m : Int) (h0 : 0 ≤ m) : bits .or .u8 (m % 256) 128 = m % 128 + 128 := by
  rw [or128 _ (by omega) (by omega)]; omega
theorem and127 (m : Int) (h0 : 0 ≤ m) (h1 : m < 18446744073709551616) : bits .and .u64 m 127 = m % 128 :=
  bits_mask .u64 64 (by decide) wraps_u64 7 (by decide) m h0 (by omega)
theorem byte_r (m : Int) (h0 : 0 ≤ m) (h1 : m < 18446744073709551616) : bits .or .u8 (bits .and .u64 m 127 % 256) 128 = m % 128 + 128 := by
  rw [and127 m h0 h1, or128 _ (by omega) (by omega)]; omega
set_option maxRecDepth 100000 in
set_option maxHeartbeats 1000000 in
theorem cvarint_any (n : Int) (w : World) (h0 : 0 ≤ n) (h1 : n < 18446744073709551616) :
    Calls Try.prog 57 #[.int .u64 n] w fun e w' => ∃ v, e = .returned v ∧ OwnB w' w.heap.size v (vL 10 n) ∧ Below w.heap.size w w' := by
  obtain ⟨i0, hi, hz0, hz1, hz2⟩ := info_parts info5
  go_enter Try.func57, Try.ntmps57
  go_wp2
  go_loopw [0, 3] (fun nn v wr => ∃ (acc : List Int) (f : Nat) (m : Int), nn = .int .u64 m ∧ 0 ≤ m ∧ m < 18446744073709551616 ∧ Hid (m < 128 ^ (f + 1)) ∧ Hid (acc ++ vL f m = vL 10 n) ∧ Hid (acc.length + f = 10) ∧ OwnB wr w.heap.size v acc ∧ Below w.heap.size w wr) (fun nn _ _ => (intOf nn).toNat)
  case atStart => exact ⟨[], 10, n, rfl, h0, h1, by show n < 128 ^ 11; omega, rfl, rfl, OwnB.nil _ _, Below.refl _ _⟩
  case round =>
    obtain ⟨acc, f, m, rfl, m0, m1, HM, HA, HF, hown, hbel⟩ := hrel
    have hb2 : w.heap.size ≤ wr.heap.size + 1 := by have := hbel.size; omega
    by_cases hlt : m < 128
    · have HB : Hid (acc.length + [m].length ≤ 140737488355328) := by show _ ≤ _; have := HF.out; simp; omega
      have HV : Hid (acc ++ [m] = vL 10 n) := by show _ = _; rw [← HA.out, vL_last f m hlt]
      go_wp2_with (at_builtin; refine OwnB.wpList_append rfl _ _ 24 24 rfl rfl (base := w.heap.size) (l := acc) (hown.alloc _) i0 Try.underlying24 hi hz0 hz1 hz2 _ rfl [m] (src_one _ _) (by simpa using hb2) HB.out ?_; intro v' w1 hown' hgrow hat)
      go_ret
      rw [HV.out] at hown'
      exact ⟨_, rfl, hown', below_push hown hbel hgrow⟩
    · obtain ⟨g, rfl⟩ : ∃ g, f = g + 1 := by
        cases f with
        | zero => exact absurd HM.out (by simpa using hlt)
        | succ g => exact ⟨g, rfl⟩
      have HB : Hid (acc.length + [bits .or .u8 (m % 256) 128].length ≤ 140737488355328) := by show _ ≤ _; have := HF.out; simp; omega
      go_wp2_with (at_builtin; refine OwnB.wpList_append rfl _ _ 24 24 rfl rfl (base := w.heap.size) (l := acc) (hown.alloc _) i0 Try.underlying24 hi hz0 hz1 hz2 _ rfl [bits .or .u8 (m % 256) 128] (src_one _ _) (by simpa using hb2) HB.out ?_; intro v' w1 hown' hgrow hat)
      go_roundw
      case rel =>
        refine ⟨acc ++ [bits .or .u8 (m % 256) 128], g, m / 128, rfl, by omega, by omega, ?_, ?_, ?_, hown', below_push hown hbel hgrow⟩
        · show m / 128 < 128 ^ (g + 1)
          have := HM.out
          rw [Int.pow_succ] at this
          omega
        · show _ = _
          rw [← HA.out, vL_more g m (by omega), byte_c m m0]; simp
        · show _ = _
          have := HF.out
          simp; omega
      case measure => simp [intOf]; omega
set_option maxRecDepth 100000 in
set_option maxHeartbeats 1000000 in
theorem rvarint_any (n : Int) (w : World) (h0 : 0 ≤ n) (h1 : n < 18446744073709551616) :
    Calls Try.prog 34 #[.int .u64 n] w fun e w' => ∃ v, e = .returned v ∧ OwnB w' w.heap.size v (vL 10 n) ∧ Below w.heap.size w w' := by
  obtain ⟨i0, hi, hz0, hz1, hz2⟩ := info_parts info5
  go_enter Try.func34, Try.ntmps34
  go_wp2
  go_loopw [0, 3] (fun nn v wr => ∃ (acc : List Int) (f : Nat) (m : Int), nn = .int .u64 m ∧ 0 ≤ m ∧ m < 18446744073709551616 ∧ Hid (m < 128 ^ (f + 1)) ∧ Hid (acc ++ vL f m = vL 10 n) ∧ Hid (acc.length + f = 10) ∧ OwnB wr w.heap.size v acc ∧ Below w.heap.size w wr) (fun nn _ _ => (intOf nn).toNat)
  case atStart => exact ⟨[], 10, n, rfl, h0, h1, by show n < 128 ^ 11; omega, rfl, rfl, own_empty w, (Below.refl _ _).alloc (Nat.le_refl _) _⟩
  case round =>
    obtain ⟨acc, f, m, rfl, m0, m1, HM, HA, HF, hown, hbel⟩ := hrel
    have hb2 : w.heap.size ≤ wr.heap.size + 1 := by have := hbel.size; omega
    by_cases hlt : m < 128
    · have HB : Hid (acc.length + [m].length ≤ 140737488355328) := by show _ ≤ _; have := HF.out; simp; omega
      have HV : Hid (acc ++ [m] = vL 10 n) := by show _ = _; rw [← HA.out, vL_last f m hlt]
      go_wp2_with (at_builtin; refine OwnB.wpList_append rfl _ _ 24 24 rfl rfl (base := w.heap.size) (l := acc) (hown.alloc _) i0 Try.underlying24 hi hz0 hz1 hz2 _ rfl [m] (src_one _ _) (by simpa using hb2) HB.out ?_; intro v' w1 hown' hgrow hat)
      go_ret
      rw [HV.out] at hown'
      exact ⟨_, rfl, hown', below_push hown hbel hgrow⟩
    · obtain ⟨g, rfl⟩ : ∃ g, f = g + 1 := by
        cases f with
        | zero => exact absurd HM.out (by simpa using hlt)
        | succ g => exact ⟨g, rfl⟩
      have HB : Hid (acc.length + [bits .or .u8 (bits .and .u64 m 127 % 256) 128].length ≤ 140737488355328) := by show _ ≤ _; have := HF.out; simp; omega
      go_wp2_with (at_builtin; refine OwnB.wpList_append rfl _ _ 24 24 rfl rfl (base := w.heap.size) (l := acc) (hown.alloc _) i0 Try.underlying24 hi hz0 hz1 hz2 _ rfl [bits .or .u8 (bits .and .u64 m 127 % 256) 128] (src_one _ _) (by simpa using hb2) HB.out ?_; intro v' w1 hown' hgrow hat)
      go_roundw
      case rel =>
        refine ⟨acc ++ [bits .or .u8 (bits .and .u64 m 127 % 256) 128], g, m / 128, rfl, by omega, by omega, ?_, ?_, ?_, hown', below_push hown hbel hgrow⟩
        · show m / 128 < 128 ^ (g + 1)
          have := HM.out
          rw [Int.pow_succ] at this
          omega
        · show _ = _
          rw [← HA.out, vL_more g m (by omega), byte_r m m0 m1]; simp
        · show _ = _
          have := HF.out
          simp; omega
      case measure => simp [intOf]; omega

theorem byts32 (n : Int) (h0 : 0 ≤ n) : byts 4 (n % 4294967296) = byts 4 n := by
  have e : ∀ i, i < 4 → byteAt (n % 4294967296) i = byteAt n i := by
    intro i hi
    have : i = 0 ∨ i = 1 ∨ i = 2 ∨ i = 3 := by omega
    unfold byteAt
    rcases this with h | h | h | h <;> subst h <;> simp <;> omega
  unfold byts
  exact List.map_congr_left fun i hi => e i (List.mem_range.1 hi)
theorem cfixed32_own (n : Int) (w : World) (h0 : 0 ≤ n) :
    Calls Try.prog 29 #[.int .u32 (n % 4294967296)] w fun e w' => ∃ v, e = .returned v ∧ OwnB w' w.heap.size v (byts 4 n) ∧ Below w.heap.size w w' := by
  refine (cfixed32_any (n % 4294967296) w (by omega) (by omega)).mono ?_
  rintro e w' ⟨rfl, rfl⟩
  refine ⟨_, rfl, ?_, (Below.refl _ _).alloc (Nat.le_refl _) _⟩
  have := OwnB.ofBlock w w.heap.size (byts 4 n) [] (fxA 4 (n % 4294967296) 4) (0, 0) (by rw [fxA_bc, ← byts32 n h0, List.append_nil]; rfl) (Nat.le_refl _) (.inl rfl) (by rw [byts_len]; simp [maxLen]) 4 (by rw [byts_len]; rfl)
  rw [byts_len] at this
  exact this
theorem cfixed64_own' (n : Int) (w : World) (h0 : 0 ≤ n) (h1 : n < 18446744073709551616) :
    Calls Try.prog 28 #[.int .u64 n] w fun e w' => ∃ v, e = .returned v ∧ OwnB w' w.heap.size v (byts 8 n) ∧ Below w.heap.size w w' := by
  refine (cfixed64_own n w h0 h1).mono ?_
  rintro e w' ⟨b, rfl, ho, hb⟩
  exact ⟨_, rfl, ho, hb⟩
theorem OwnB.str {w : World} {base : Nat} {v : Value} {l : List Int} (h : OwnB w base v l) : (convert 24 9 v).run Try.prog w = .ok (.string (bstr l)) w :=
  h.run_string (P := Try.prog) 24 9 Try.underlying24 Try.underlying5 Try.underlying9
theorem rfixed4 (n : Int) (w : World) (h0 : 0 ≤ n) (h1 : n < 18446744073709551616) :
    Calls Try.prog 33 #[.int .u64 n, .int .i64 4] w fun e w' => ∃ v, e = .returned v ∧ OwnB w' w.heap.size v (byts 4 n) ∧ Below w.heap.size w w' := rfixed_any 4 (by decide) n w h0 h1
theorem rfixed8 (n : Int) (w : World) (h0 : 0 ≤ n) (h1 : n < 18446744073709551616) :
    Calls Try.prog 33 #[.int .u64 n, .int .i64 8] w fun e w' => ∃ v, e = .returned v ∧ OwnB w' w.heap.size v (byts 8 n) ∧ Below w.heap.size w w' := rfixed_any 8 (by decide) n w h0 h1
end Go.Proofs.Ytkpijoogaicodaa
