/-
  Union.
-/
import Derived.Test.YtbmljdeenbokmaaH
namespace Go.Proofs.Ytbmljdeenbokmaa
open Go.RowKit Go.Maps
set_option linter.unusedVariables false
set_option linter.unusedSimpArgs false

/-- The bits of both. -/
def unL (l m : List Int) : List Int := List.zipWith (fun x y => bits .or .u8 x y) l m
theorem unL_length {l m : List Int} (h : l.length = m.length) : (unL l m).length = l.length := by simp [unL, h]
theorem unL_byt (l m : List Int) : Byt (unL l m) := by
  intro x hx
  obtain ⟨i, hi, rfl⟩ := List.getElem_of_mem hx
  simp only [unL, List.getElem_zipWith]
  exact bits_u8_bd _ _ _
theorem unL_get {l m : List Int} (h : l.length = m.length) (i : Nat) (hi : i < l.length) : (unL l m).getD i 0 = bits .or .u8 (l.getD i 0) (m.getD i 0) := by
  simp [unL, List.getD_eq_getElem?_getD, List.getElem?_zipWith, List.getElem?_eq_getElem hi, List.getElem?_eq_getElem (h ▸ hi : i < m.length)]
def part (L : List Int) (k : Nat) : List Int := L.take k ++ List.replicate (L.length - k) 0
theorem part_zero (L : List Int) : part L 0 = List.replicate L.length 0 := by simp [part]
theorem part_all (L : List Int) : part L L.length = L := by simp [part]
theorem part_set (L : List Int) (k : Nat) (h : k < L.length) : (part L k).set k (L.getD k 0) = part L (k + 1) := by
  unfold part
  obtain ⟨r, hr⟩ : ∃ r, L.length - k = r + 1 := ⟨L.length - k - 1, by omega⟩
  rw [hr, List.set_append_right _ _ (by simp; omega), List.take_succ_eq_append_getElem h]
  have e1 : k - (L.take k).length = 0 := by simp; omega
  have e2 : L.length - (k + 1) = r := by omega
  rw [e1, e2, List.getD_eq_getElem?_getD, List.getElem?_eq_getElem h, List.replicate_succ, List.set_cons_zero]
  simp only [List.append_assoc, List.singleton_append, Option.getD_some]
theorem part_length (L : List Int) (k : Nat) (h : k ≤ L.length) : (part L k).length = L.length := by simp [part]; omega
theorem run_mkU (n : Nat) (hn : n ≤ 140737488351232) (w : World) : (Instr.makeSlice 23 (.int .i64 (n : Int)) (.int .i64 (n : Int))).run Try.prog w = .ok (.slice (some ⟨w.heap.size, 0, none⟩) n n) (w.alloc (.cells (zer n) 5)) := by
  have h := run_make_row' (P := Try.prog) 23 5 (.int .u8 0) 1 Try.underlying23 info5 rfl .i64 .i64 n (by omega) (by omega) w
  rw [made_zer] at h
  exact h
set_option maxRecDepth 100000 in
set_option maxHeartbeats 1000000 in
theorem un_no1 (a : Option Addr) (len cap : Nat) (l : List Int) (c : Option Addr) (len2 cap2 : Nat) (w : World) (h : Arg w a len l) (hi : isf l = false) :
    Calls Try.prog 15 #[.slice a len cap, .slice c len2 cap2] w fun e w' => e = .returned (.tuple #[.slice none 0 0, .int .i64 3]) ∧ w' = w := by
  have H : Hid (Arg w a len l) := h
  have HI : Hid (isf l = false) := hi
  clear h hi
  go_enter Try.func15, Try.ntmps15
  go_wp2_with (go_at_call 26; refine (isf_any _ _ cap l _ H.out).mono ?_; rw [HI.out]; rintro e w3 ⟨rfl, hw3⟩; have hw4 := hw3.symm; subst hw4; clear hw3)
  go_ret2
  exact ⟨rfl, rfl⟩
set_option maxRecDepth 100000 in
set_option maxHeartbeats 1000000 in
theorem un_no2 (a : Option Addr) (len cap : Nat) (l : List Int) (c : Option Addr) (len2 cap2 : Nat) (m : List Int) (w : World) (h : Arg w a len l) (h2 : Arg w c len2 m) (hi : isf l = true) (hi2 : isf m = false) :
    Calls Try.prog 15 #[.slice a len cap, .slice c len2 cap2] w fun e w' => e = .returned (.tuple #[.slice none 0 0, .int .i64 3]) ∧ w' = w := by
  have H1 : Hid (Calls Try.prog 26 #[.slice a len cap] w fun e w' => e = .returned (.bool true) ∧ w' = w) := by have := isf_any a len cap l w h; rw [hi] at this; exact this
  have H2 : Hid (Calls Try.prog 26 #[.slice c len2 cap2] w fun e w' => e = .returned (.bool false) ∧ w' = w) := by have := isf_any c len2 cap2 m w h2; rw [hi2] at this; exact this
  clear h h2 hi hi2
  go_enter Try.func15, Try.ntmps15
  go_wp2_with (first
    | (go_at_call 26; have h2 := hone; refine H2.out.mono ?_; rintro e w3 ⟨rfl, hw3⟩; have hw4 := hw3.symm; subst hw4; clear hw3)
    | (go_at_call 26; refine H1.out.mono ?_; rintro e w3 ⟨rfl, hw3⟩; have hw4 := hw3.symm; subst hw4; clear hw3; have hone := True.intro))
  go_ret2
  exact ⟨rfl, rfl⟩

theorem isf_parts {l : List Int} (h : isf l = true) : 9 ≤ l.length ∧ 1 ≤ l.getD (l.length - 1) 0 ∧ l.getD (l.length - 1) 0 ≤ 30 := by
  simpa [isf] using h
set_option maxRecDepth 100000 in
set_option maxHeartbeats 1000000 in
theorem un_len (a : Option Addr) (len cap : Nat) (l : List Int) (c : Option Addr) (len2 cap2 : Nat) (m : List Int) (w : World) (h : Arg w a len l) (h2 : Arg w c len2 m) (hi : isf l = true) (hi2 : isf m = true) (hne : len2 ≠ len) :
    Calls Try.prog 15 #[.slice a len cap, .slice c len2 cap2] w fun e w' => e = .returned (.tuple #[.slice none 0 0, .int .i64 1]) ∧ ∃ n, w' = w.drewN n := by
  have H1 : Hid (Calls Try.prog 26 #[.slice a len cap] w fun e w' => e = .returned (.bool true) ∧ w' = w) := by have := isf_any a len cap l w h; rw [hi] at this; exact this
  have H2 : Hid (Calls Try.prog 26 #[.slice c len2 cap2] w fun e w' => e = .returned (.bool true) ∧ w' = w) := by have := isf_any c len2 cap2 m w h2; rw [hi2] at this; exact this
  have hl9 := (isf_parts hi).1
  rw [h.len] at hl9
  have hlb := h.2.2.1
  have hlb2 := h2.2.2.1
  have hq : ((len2 : Int) != (len : Int)) = true := by simp; omega
  clear h h2 hi hi2
  go_enter Try.func15, Try.ntmps15
  go_wp2_with (first
    | (go_at_call 26; have h2 := hone; refine H2.out.mono ?_; rintro e w3 ⟨rfl, hw3⟩; have hw4 := hw3.symm; subst hw4; clear hw3)
    | (go_at_call 26; refine H1.out.mono ?_; rintro e w3 ⟨rfl, hw3⟩; have hw4 := hw3.symm; subst hw4; clear hw3; have hone := True.intro))
  go_quiet (fail)
  go_wp2
  go_ret2
  exact ⟨rfl, _, rfl⟩
set_option maxRecDepth 100000 in
set_option maxHeartbeats 1000000 in
theorem un_last (b off n cap : Nat) (l : List Int) (b2 off2 cap2 : Nat) (m : List Int) (w : World) (h : Arg w (some ⟨b, off, none⟩) (n + 1) l) (h2 : Arg w (some ⟨b2, off2, none⟩) (n + 1) m) (hi : isf l = true) (hi2 : isf m = true) (x y : Int)
    (hx : w.cell? ⟨b, off + n, none⟩ = some (.int .u8 x)) (hy : w.cell? ⟨b2, off2 + n, none⟩ = some (.int .u8 y)) (hne : (y != x) = true) :
    Calls Try.prog 15 #[.slice (some ⟨b, off, none⟩) (n + 1) cap, .slice (some ⟨b2, off2, none⟩) (n + 1) cap2] w fun e w' => e = .returned (.tuple #[.slice none 0 0, .int .i64 1]) ∧ ∃ n, w' = w.drewN n := by
  have H1 : Hid (Calls Try.prog 26 #[.slice (some ⟨b, off, none⟩) (n + 1) cap] w fun e w' => e = .returned (.bool true) ∧ w' = w) := by have := isf_any _ _ cap l w h; rw [hi] at this; exact this
  have H2 : Hid (Calls Try.prog 26 #[.slice (some ⟨b2, off2, none⟩) (n + 1) cap2] w fun e w' => e = .returned (.bool true) ∧ w' = w) := by have := isf_any _ _ cap2 m w h2; rw [hi2] at this; exact this
  have hlb := h.2.2.1
  have hq : (((n : Int) + 1) != ((n : Int) + 1)) = false := by simp
  clear h h2 hi hi2
  go_enter Try.func15, Try.ntmps15
  go_wp2_with (first
    | (go_at_call 26; have h2 := hone; refine H2.out.mono ?_; rintro e w3 ⟨rfl, hw3⟩; have hw4 := hw3.symm; subst hw4; clear hw3)
    | (go_at_call 26; refine H1.out.mono ?_; rintro e w3 ⟨rfl, hw3⟩; have hw4 := hw3.symm; subst hw4; clear hw3; have hone := True.intro))
  go_quiet (fail)
  go_wp2
  go_ret2
  exact ⟨rfl, _, rfl⟩

set_option maxRecDepth 100000 in
set_option maxHeartbeats 2000000 in
theorem un_yes (b off n cap : Nat) (l : List Int) (b2 off2 cap2 : Nat) (m : List Int) (w : World) (h : Arg w (some ⟨b, off, none⟩) (n + 1) l) (h2 : Arg w (some ⟨b2, off2, none⟩) (n + 1) m) (hi : isf l = true) (hi2 : isf m = true)
    (hlt : b < w.heap.size) (hlt2 : b2 < w.heap.size) (hc : ∀ j, j < l.length → w.cell? ⟨b, off + j, none⟩ = some (.int .u8 (l.getD j 0))) (hc2 : ∀ j, j < m.length → w.cell? ⟨b2, off2 + j, none⟩ = some (.int .u8 (m.getD j 0))) (hne : m.getD n 0 = l.getD n 0) :
    Calls Try.prog 15 #[.slice (some ⟨b, off, none⟩) (n + 1) cap, .slice (some ⟨b2, off2, none⟩) (n + 1) cap2] w fun e w' => e = .returned (.tuple #[.slice (some ⟨w.heap.size, 0, none⟩) (n + 1) (n + 1), .int .i64 0]) ∧ Row w' w.heap.size (unL l m) ∧ Below w.heap.size w w' := by
  have H1 : Hid (Calls Try.prog 26 #[.slice (some ⟨b, off, none⟩) (n + 1) cap] w fun e w' => e = .returned (.bool true) ∧ w' = w) := by have := isf_any _ _ cap l w h; rw [hi] at this; exact this
  have H2 : Hid (Calls Try.prog 26 #[.slice (some ⟨b2, off2, none⟩) (n + 1) cap2] w fun e w' => e = .returned (.bool true) ∧ w' = w) := by have := isf_any _ _ cap2 m w h2; rw [hi2] at this; exact this
  have hlb := h.2.2.1
  have HL1 : Hid (l.length = n + 1) := h.1
  have HL2 : Hid (m.length = n + 1) := h2.1
  have hB1 := h.2.1
  have hB2 := h2.2.1
  have hx := hc n (by rw [HL1.out]; omega)
  have hy := hc2 n (by rw [HL2.out]; omega)
  rw [hne] at hy
  obtain ⟨x, hxe⟩ : ∃ x, l.getD n 0 = x := ⟨_, rfl⟩
  rw [hxe] at hx hy
  have hq : (((n : Int) + 1) != ((n : Int) + 1)) = false := by simp
  have hq2 : (x != x) = false := by simp
  have hmk0 := run_mkU (n + 1) hlb
  rw [show (((n + 1 : Nat) : Int)) = (n : Int) + 1 by omega] at hmk0
  have HUL : Hid ((unL l m).length = n + 1) := by show _ = _; rw [unL_length (HL1.out.trans HL2.out.symm), HL1.out]
  clear h h2 hi hi2 hne hxe
  go_enter Try.func15, Try.ntmps15
  go_wp2_with (first
    | (go_at_call 26; have h2 := hone; refine H2.out.mono ?_; rintro e w3 ⟨rfl, hw3⟩; have hw4 := hw3.symm; subst hw4; clear hw3)
    | (go_at_call 26; refine H1.out.mono ?_; rintro e w3 ⟨rfl, hw3⟩; have hw4 := hw3.symm; subst hw4; clear hw3; have hone := True.intro))
  go_quiet (fail)
  go_wp2
  have hr0 : Row ((w.drewN nq).alloc (Obj.cells (zer (n + 1)) 5)) w.heap.size (part (unL l m) 0) := by
    rw [part_zero, HUL.out]
    exact heap_alloc_new (w.drewN nq) _
  have hb0 : Below w.heap.size w ((w.drewN nq).alloc (Obj.cells (zer (n + 1)) 5)) := by
    have : Below w.heap.size w (w.drewN nq) := ⟨rfl, rfl, rfl, Nat.le_refl _, fun _ _ => rfl⟩
    exact this.alloc (Nat.le_refl _) _
  clear hmk0 hx hy hq hq2
  go_loopw [41] (fun i wr => ∃ k : Nat, k ≤ n + 1 ∧ i = .int .i64 k ∧ Row wr w.heap.size (part (unL l m) k) ∧ Below w.heap.size w wr) (fun i _ => ((n : Int) + 1 - intOf i).toNat)
  case atStart => exact ⟨0, by omega, rfl, hr0, hb0⟩
  case round =>
    obtain ⟨k, hk, rfl, hrk, hbk⟩ := hrel
    by_cases hlk : k < n + 1
    · have c1 : wr.drew.cell? ⟨b, off + k, none⟩ = some (.int .u8 (l.getD k 0)) := (hbk.cell (p := ⟨b, off + k, none⟩) hlt).trans (hc k (by rw [HL1.out]; exact hlk))
      have c2 : wr.drew.cell? ⟨b2, off2 + k, none⟩ = some (.int .u8 (m.getD k 0)) := (hbk.cell (p := ⟨b2, off2 + k, none⟩) hlt2).trans (hc2 k (by rw [HL2.out]; exact hlk))
      have c3 : wr.drew.cell? ⟨w.heap.size, k, none⟩ = some (.int .u8 ((part (unL l m) k).getD k 0)) := hrk.cell k (by rw [part_length _ _ (by rw [HUL.out]; omega), HUL.out]; exact hlk)
      have c4 : wr.drew.frozen? ⟨w.heap.size, k, none⟩ = false := hrk.frozen k
      have y1 := byt_get hB1 k
      have y2 := byt_get hB2 k
      have HS : Hid ((part (unL l m) k).set k (bits .or .u8 (l.getD k 0) (m.getD k 0)) = part (unL l m) (k + 1)) := by
        show _ = _
        rw [← part_set _ _ (by rw [HUL.out]; exact hlk), unL_get (HL1.out.trans HL2.out.symm) k (by rw [HL1.out]; exact hlk)]
      generalize l.getD k 0 = z1 at *
      generalize m.getD k 0 = z2 at *
      generalize (part (unL l m) k).getD k 0 = z3 at *
      obtain ⟨y3, y4⟩ := y1
      obtain ⟨y5, y6⟩ := y2
      have hki : ((k : Int) < (n : Int) + 1) = True := eq_true (by omega)
      go_wp2
      go_region
      go_wp2
      go_roundw
      case rel => exact ⟨k + 1, by omega, by go_num, by rw [← HS.out]; exact hrk.set k _, (hbk.setCell (p := ⟨w.heap.size, k, none⟩) (Nat.le_refl _) _).drew⟩
      case measure => simp [intOf]; omega
    · obtain rfl : k = n + 1 := by omega
      have HPA : Hid (part (unL l m) (n + 1) = unL l m) := by show _ = _; rw [← HUL.out]; exact part_all _
      go_wp2
      go_ret2
      exact ⟨rfl, by rw [← HPA.out]; exact hrk, hbk⟩
/-- The union of two filters of one kind. -/
theorem un_ok (a c : Option Addr) (M cap cap2 : Nat) (l m : List Int) (w : World) (h : Arg w a M l) (h2 : Arg w c M m) (hi : isf l = true) (hi2 : isf m = true) (hne : m.getD (M - 1) 0 = l.getD (M - 1) 0) :
    Calls Try.prog 15 #[.slice a M cap, .slice c M cap2] w fun e w' => e = .returned (.tuple #[.slice (some ⟨w.heap.size, 0, none⟩) M M, .int .i64 0]) ∧ Row w' w.heap.size (unL l m) ∧ Below w.heap.size w w' := by
  have h9 := (isf_parts hi).1
  have h92 := (isf_parts hi2).1
  obtain ⟨n, hn⟩ : ∃ n, M = n + 1 := ⟨M - 1, by have := h.1; omega⟩
  subst hn
  obtain ⟨b, off, rfl, hlt, hc⟩ : ∃ b off, a = some ⟨b, off, none⟩ ∧ b < w.heap.size ∧ ∀ j, j < l.length → w.cell? ⟨b, off + j, none⟩ = some (.int .u8 (l.getD j 0)) := by
    rcases h.2.2.2 with rfl | h
    · simp at h9
    · exact h
  obtain ⟨b2, off2, rfl, hlt2, hc2⟩ : ∃ b off, c = some ⟨b, off, none⟩ ∧ b < w.heap.size ∧ ∀ j, j < m.length → w.cell? ⟨b, off + j, none⟩ = some (.int .u8 (m.getD j 0)) := by
    rcases h2.2.2.2 with rfl | h
    · simp at h92
    · exact h
  exact un_yes b off n cap l b2 off2 cap2 m w h h2 hi hi2 hlt hlt2 hc hc2 hne

end Go.Proofs.Ytbmljdeenbokmaa
