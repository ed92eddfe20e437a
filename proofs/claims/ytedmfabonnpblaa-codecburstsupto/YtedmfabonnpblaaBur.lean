import Derived.Test.YtedmfabonnpblaaMf
import Derived.WalkKit
import Derived.Deep.RegionWith
import Derived.WalkSpells
import Derived.WalkLawsBesides
namespace Go.Proofs.Ytedmfabonnpblaa
open Go.RowKit
set_option linter.unusedVariables false
set_option linter.unusedSimpArgs false

theorem Arg.str {w : World} {a : Option Addr} {len cap : Nat} {l : List Int} (h : Arg w a len cap l) : (convert 23 9 (.slice a len cap)).run Try.prog w = .ok (.string (bstr l)) w := by
  obtain ⟨rfl, h2, h3, h4⟩ := h
  rcases h4 with rfl | ⟨b, off, rfl, hlt, hc⟩
  · rw [run_convert_bytes_string w 23 9 5 _ _ _ Try.underlying23 Try.underlying5 Try.underlying9]
    cases a with
    | none => simp [Conv.bytesToString, bstr]
    | some x =>
      refine run_bytesToString w x 0 cap [] ?_
      exact run_loadCells_list (P := Try.prog) w x [] (by simp)
  · exact run_string_at w 23 9 Try.underlying23 Try.underlying5 Try.underlying9 b off cap l hc
theorem ups_bd (l : List Nat) (h : ∀ c ∈ l, c < 256) : ∀ n ∈ ups l, 0 ≤ n ∧ n < 256 := by
  intro n hn
  obtain ⟨m, hm, rfl⟩ := List.mem_map.1 hn
  have := h m hm
  omega
/-- The copy at the loop's end. -/
theorem arg_row (W : World) (l : List Nat) (zs : List Value) (len : Nat) (hl : l.length = len) (h : ∀ c ∈ l, c < 256) (hlen : len ≤ 1048576) :
    Arg (W.alloc (.cells (rowA (ups l) zs) 5)).drew (some ⟨W.heap.size, 0, none⟩) len (len + zs.length) (ups l) := by
  refine ⟨by rw [ups_len, hl], ups_bd l h, by omega, .inr ⟨W.heap.size, 0, rfl, by simp, fun j hj => ?_⟩⟩
  rw [World.cell?_drew, Nat.zero_add, World.cell?_alloc_at _ _ _ _ rfl]
  exact rowA_get (ups l) zs j hj
theorem m_lt {B j fr n : Nat} (h : fr + j ≤ 8 * n) : B % 2 ^ j * 2 ^ fr < 2 ^ (8 * n) := by
  have h1 : B % 2 ^ j < 2 ^ j := Nat.mod_lt _ (Nat.two_pow_pos j)
  have h2 : B % 2 ^ j * 2 ^ fr < 2 ^ j * 2 ^ fr := Nat.mul_lt_mul_of_pos_right h1 (Nat.two_pow_pos fr)
  rw [← Nat.pow_add] at h2
  exact Nat.lt_of_lt_of_le h2 (Nat.pow_le_pow_right (by decide) (by omega))

set_option maxRecDepth 100000 in
set_option maxHeartbeats 2000000 in
theorem bursts_walk (a : Option Addr) (len cap : Nat) (l : List Nat) (A B : Nat) (w : World) (h : Arg w a len cap (ups l)) (hl0 : 0 < len) (hlen : len ≤ 1048576) (h1 : A < 4294967296) (g0 : 0 < B) (g1 : B < 4294967296) (hbyte : ∀ c ∈ l, c < 256) :
    Calls Try.prog 8 #[.slice a len cap, .int .u32 A, .int .u32 B] w fun e w' => e = .returned (.bool true) ∧ Below w.heap.size w w' := by
  obtain ⟨i0, hi, hz0, hz1, hz2⟩ := info_parts info5
  have hA : Arg (w.alloc (.cells #[] 5)) a len cap (ups l) := h.below ((Below.refl _ _).alloc (Nat.le_refl _) _)
  have hll : (ups l).length = len := h.1
  have hln : l.length = len := by rw [← hll, ups_len]
  have t1 : ((len : Int) == 0) = false := by simp; omega
  have t2 : ((B : Int) == 0) = false := by simp; omega
  have HL1 : Hid (0 < (ups l).length) := by show 0 < (ups l).length; omega
  have HL2 : Hid ((ups l).length ≤ 140737488355328) := by show (ups l).length ≤ _; omega
  have HLL : Hid ((ups l).length = len) := hll
  have HLN : Hid (l.length = len) := hln
  have HB : Hid (∀ c ∈ l, c < 256) := hbyte
  clear hll hln hbyte
  obtain ⟨fr, hfr, hfr2⟩ : ∃ fr : Nat, (A : Int) % (8 * (len : Int)) = (fr : Int) ∧ fr < 8 * len := ⟨A % (8 * len), by norm_cast, Nat.mod_lt _ (by omega)⟩
  go_enter Try.func8, Try.ntmps8
  go_wp2_with (first
    | (at_builtin; refine wpList_append_new rfl _ _ 23 23 rfl _ rfl i0 Try.underlying23 hi hz0 hz1 hz2 _ rfl (ups l) hA.src HL1.out HL2.out ?_; intro cp zs hcp; rw [HLL.out] at hcp ⊢))
  clear hfr hi hz0 hz1 hz2
  go_loopw [9, 10] (fun lf i wr => ∃ j : Nat, j ≤ 32 ∧ fr + j ≤ 8 * len ∧ i = .int .i64 j ∧ lf = .int .u32 ((B / 2 ^ j : Nat) : Int) ∧ wr = ((w.alloc (.cells #[] 5)).alloc (.cells (rowA (ups (xorM l (B % 2 ^ j * 2 ^ fr))) zs) 5)).drew) (fun _ i _ => 32 - (intOf i).toNat)
  case atStart => exact ⟨0, Nat.zero_le _, by omega, rfl, by simp, by rw [Nat.pow_zero, Nat.mod_one, Nat.zero_mul, xorM_zero]⟩
  case round =>
    obtain ⟨j, hj, hfj, rfl, rfl, rfl⟩ := hrel
    by_cases hc : j < 32 ∧ fr + j < 8 * len
    · obtain ⟨c1, c2⟩ := hc
      obtain ⟨k, hk⟩ : ∃ k : Nat, ((fr : Int) + (j : Int)) / 8 = (k : Int) := ⟨(fr + j) / 8, by omega⟩
      obtain ⟨t, ht⟩ : ∃ t : Nat, ((fr : Int) + (j : Int)) % 8 = (t : Int) := ⟨(fr + j) % 8, by omega⟩
      have hkl : k < len := by omega
      have ht8 : t < 8 := by omega
      have hkc : k < (ups (xorM l (B % 2 ^ j * 2 ^ fr))).length := by rw [ups_len, xorM_len, HLN.out]; exact hkl
      have hcell := rowA_getD (ups (xorM l (B % 2 ^ j * 2 ^ fr))) zs k hkc
      clear hkc
      generalize hX : rowA (ups (xorM l (B % 2 ^ j * 2 ^ fr))) zs = X at *
      generalize hV : (ups (xorM l (B % 2 ^ j * 2 ^ fr))).getD k 0 = x at *
      generalize hD : B / 2 ^ j = D at *
      have HX : Hid (rowA (ups (xorM l (B % 2 ^ j * 2 ^ fr))) zs = X) := hX
      have HV : Hid ((ups (xorM l (B % 2 ^ j * 2 ^ fr))).getD k 0 = x) := hV
      have HD : Hid (B / 2 ^ j = D) := hD
      have hDb : D < 4294967296 := by rw [← hD]; exact Nat.lt_of_le_of_lt (Nat.div_le_self _ _) g1
      clear hX hV hD
      have HK : Hid (((fr : Int) + (j : Int)) / 8 = (k : Int)) := hk
      have HT : Hid (((fr : Int) + (j : Int)) % 8 = (t : Int)) := ht
      go_wp2
      go_roundw
      case rel =>
        have hk2 := HK.out
        have ht2 := HT.out
        refine ⟨j + 1, by omega, by omega, by go_num, val_i ?_, ?_⟩
        · rw [Nat.pow_succ, ← Nat.div_div_eq_div_mul, HD.out]; rfl
        · rw [round_eq HB.out HX.out HV.out HD.out hDb (by rw [HLN.out]; exact hkl) ht8 (by omega)]
      case measure => simp [intOf]; omega
    · have hWB : Below w.heap.size w ((w.alloc (.cells #[] 5)).alloc (.cells (rowA (ups (xorM l (B % 2 ^ j * 2 ^ fr))) zs) 5)).drew := (((Below.refl _ _).alloc (Nat.le_refl _) _).alloc (by simp) _).drew
      have HWB : Hid (Below w.heap.size w ((w.alloc (.cells #[] 5)).alloc (.cells (rowA (ups (xorM l (B % 2 ^ j * 2 ^ fr))) zs) 5)).drew) := hWB
      have hAB := h.below hWB
      have hAC := arg_row (w.alloc (.cells #[] 5)) (xorM l (B % 2 ^ j * 2 ^ fr)) zs len (by rw [xorM_len]; exact HLN.out) (xorM_lt l _ HB.out) hlen
      rw [World.size_alloc] at hAC
      have hsb := hAB.str
      have hsc := hAC.str
      have hnes : xorM l (B % 2 ^ j * 2 ^ fr) ≠ l → crcSum (ups (xorM l (B % 2 ^ j * 2 ^ fr))) ≠ crcSum (ups l) := sum_burst l HB.out fr (B % 2 ^ j) (Nat.lt_of_le_of_lt (Nat.mod_le _ _) g1) (m_lt (by rw [HLN.out]; exact hfj)) (by rw [HLN.out]; omega)
      have hinj := bstr_inj (xorM l (B % 2 ^ j * 2 ^ fr)) l (xorM_lt l _ HB.out) HB.out
      clear hWB hA h
      generalize ((w.alloc (.cells #[] 5)).alloc (.cells (rowA (ups (xorM l (B % 2 ^ j * 2 ^ fr))) zs) 5)).drew = WR at *
      have e0 : decide ((j : Int) < 32) = false ∨ ((j : Int) < 32 ∧ decide ((fr : Int) + (j : Int) < 8 * (len : Int)) = false) := by
        by_cases c1 : j < 32
        · right
          exact ⟨by omega, by have : ¬ fr + j < 8 * len := fun c2 => hc ⟨c1, c2⟩; simp; omega⟩
        · left; simp; omega
      clear hc
      by_cases hcl : xorM l (B % 2 ^ j * 2 ^ fr) = l
      · clear hnes hinj
        rw [hcl] at hAC hsc
        have HCL : Hid (xorM l (B % 2 ^ j * 2 ^ fr) = l) := hcl
        clear hcl
        rcases e0 with e0 | ⟨e0, e1⟩
        all_goals
          go_wp2_with (first
            | (go_at_call_of 20 (Value.slice a len cap); refine (csum_arg _ _ _ (ups l) _ hAB).mono ?_; rintro e w' ⟨rfl, rfl⟩)
            | (go_at_call 20; refine (csum_arg _ _ _ (ups l) _ hAC).mono ?_; rintro e w' ⟨rfl, rfl⟩)
            | (go_at_call 19; refine (lives_any _).mono ?_; rintro e w2 ⟨rfl, hbel2⟩))
          go_ret
          exact ⟨rfl, HWB.out.trans (hbel2.mono HWB.out.size)⟩
      · have f1 : ((bstr (ups (xorM l (B % 2 ^ j * 2 ^ fr)))).toList == (bstr (ups l)).toList) = false := by simpa using fun e => hcl (hinj e)
        have f2 : (crcSum (ups (xorM l (B % 2 ^ j * 2 ^ fr))) != crcSum (ups l)) = true := by simpa using hnes hcl
        clear hnes hinj hcl
        generalize ups (xorM l (B % 2 ^ j * 2 ^ fr)) = C at *
        rcases e0 with e0 | ⟨e0, e1⟩
        all_goals
          go_wp2_with (first
            | (go_at_call_of 20 (Value.slice a len cap); refine (csum_arg _ _ _ (ups l) _ hAB).mono ?_; rintro e w' ⟨rfl, rfl⟩)
            | (go_at_call 20; refine (csum_arg _ _ _ C _ hAC).mono ?_; rintro e w' ⟨rfl, rfl⟩)
            | (go_at_call 19; refine (lives_any _).mono ?_; rintro e w2 ⟨rfl, hbel2⟩))
          go_ret
          exact ⟨rfl, HWB.out.trans (hbel2.mono HWB.out.size)⟩

theorem arg_ups {w : World} {a : Option Addr} {len cap : Nat} {li : List Int} (h : Arg w a len cap li) : ∃ l : List Nat, li = ups l ∧ ∀ c ∈ l, c < 256 := by
  have hb := h.2.1
  clear h
  refine ⟨li.map Int.toNat, ?_, ?_⟩
  · unfold ups
    rw [List.map_map]
    induction li with
    | nil => rfl
    | cons x li ih =>
      have := hb x (by simp)
      rw [List.map_cons, ← ih (fun n hn => hb n (by simp [hn]))]
      congr 1
      simp only [Function.comp]
      omega
  · intro c hc
    obtain ⟨x, hx, rfl⟩ := List.mem_map.1 hc
    have := hb x hx
    omega
set_option maxHeartbeats 1000000 in
/-- No byte, or no bit. -/
theorem bursts_none (a : Option Addr) (len cap : Nat) (A B : Nat) (w : World) (h : len = 0 ∨ B = 0) :
    Calls Try.prog 8 #[.slice a len cap, .int .u32 A, .int .u32 B] w fun e w' => e = .returned (.bool true) ∧ Below w.heap.size w w' := by
  by_cases h0 : len = 0
  · have t1 : ((len : Int) == 0) = true := by simp; omega
    clear h h0
    go_enter Try.func8, Try.ntmps8
    go_wp2_with (go_at_call 19; refine (lives_any _).mono ?_; rintro e w2 ⟨rfl, hbel2⟩)
    go_ret
    exact ⟨rfl, hbel2⟩
  · have t1 : ((len : Int) == 0) = false := by simp; omega
    have t2 : ((B : Int) == 0) = true := by simp; omega
    clear h h0
    go_enter Try.func8, Try.ntmps8
    go_wp2_with (go_at_call 19; refine (lives_any _).mono ?_; rintro e w2 ⟨rfl, hbel2⟩)
    go_ret
    exact ⟨rfl, hbel2⟩
theorem bursts_any (a : Option Addr) (len cap : Nat) (li : List Int) (x y : Int) (w : World) (h : Arg w a len cap li) (hlen : len ≤ 1048576) (x0 : 0 ≤ x) (x1 : x < 4294967296) (y0 : 0 ≤ y) (y1 : y < 4294967296) :
    Calls Try.prog 8 #[.slice a len cap, .int .u32 x, .int .u32 y] w fun e w' => e = .returned (.bool true) ∧ Below w.heap.size w w' := by
  obtain ⟨A, rfl⟩ := Int.eq_ofNat_of_zero_le x0
  obtain ⟨B, rfl⟩ := Int.eq_ofNat_of_zero_le y0
  obtain ⟨l, rfl, hb⟩ := arg_ups h
  by_cases h0 : len = 0 ∨ B = 0
  · exact bursts_none a len cap A B w h0
  · exact bursts_walk a len cap l A B w h (by omega) hlen (by omega) (by omega) (by omega) hb
end Go.Proofs.Ytedmfabonnpblaa
