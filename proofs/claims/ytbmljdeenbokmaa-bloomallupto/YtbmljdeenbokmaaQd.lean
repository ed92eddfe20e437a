/-
  The reference's Union.
-/
import Derived.Test.YtbmljdeenbokmaaQa
import Derived.Deep.RegionLaw
namespace Go.Proofs.Ytbmljdeenbokmaa
open Go.RowKit Go.Maps
set_option linter.unusedVariables false
set_option linter.unusedSimpArgs false
theorem OwnB.step_append_d {w : World} {base : Nat} {v : Value} {l : List Int} {ops : Array Oper} {o : Oper} {a : Act} {K : Act → World → Prop} {Q : Exit → Act → World → Prop} {E : Prop} {d : Nat} (hgd : o.guard = none) (hd : o.dst = some d) (s x : Operand) (t tx : TypeId)
    (ho : o.op = .call { callee := .builtin .append, args := #[s, x], argTypes := #[t, tx] }) (hs : a.eval s = v) (h : OwnB w base v l) (i : TypeInfo) (ht : Try.prog.underlying t = some (.slice 5)) (hi : Try.prog.info? 5 = some i)
    (hz : i.zero = some (.int .u8 0)) (hsize : i.size = 1) (hby : i.bytes = 1) (xv : Value) (hx : a.eval x = xv) (m : List Int) (hsrc : Src Try.prog 1 tx xv m.length (bc m) w) (hbase : base ≤ w.heap.size)
    (hb : l.length + m.length ≤ 140737488355328)
    (hK : ∀ v' w', OwnB w' base v' (l ++ m) → w.grownBy w' v.ownBlock → (v'.ownBlock = v.ownBlock ∨ v'.ownBlock = some w.heap.size) → K (a.put (some d) v') w') :
    if Region.wanted o (yielded ops a.tmps) = true then Oper.wp Try.prog o a w K Q else E :=
  OwnB.step_append hgd s x t tx ho hs h i ht hi hz hsize hby xv hx m hsrc hbase hb (by rw [hd]; exact hK)
theorem src_one (w : World) (x : Int) : Src Try.prog 1 23 (.slice (some ⟨w.heap.size, 0, none⟩) 1 1) [x].length (bc [x]) (w.alloc (.cells #[.int .u8 x] 5)) :=
  Src.ofSlice _ Try.underlying23 _ 1 1 (bc [x]) rfl (cell_one_new w (.int .u8 x) 5) (bc_one _)
theorem src_one_d (w : World) (x : Int) : Src Try.prog 1 23 (.slice (some ⟨w.heap.size, 0, none⟩) 1 1) [x].length (bc [x]) (w.alloc (.cells #[.int .u8 x] 5)).drew :=
  Src.ofSlice _ Try.underlying23 _ 1 1 (bc [x]) rfl (cell_one_new w (.int .u8 x) 5) (bc_one _)
set_option maxRecDepth 100000 in
set_option maxHeartbeats 1000000 in
theorem run_no1 (a : Option Addr) (len cap : Nat) (l : List Int) (c : Option Addr) (len2 cap2 : Nat) (w : World) (h : Arg w a len l) (hi : chkB l = false) :
    Calls Try.prog 16 #[.slice a len cap, .slice c len2 cap2] w fun e w' => e = .returned (.tuple #[.slice none 0 0, .int .i64 3]) ∧ w' = w := by
  have H : Hid (Arg w a len l) := h
  have HI : Hid (chk l = 3) := chk_no hi
  clear h hi
  go_enter Try.func16, Try.ntmps16
  go_wp2_with (go_at_call 18; refine (rcheck_any _ _ cap l _ H.out).mono ?_; rw [HI.out]; rintro e w3 ⟨rfl, hw3⟩; have hw4 := hw3.symm; subst hw4; clear hw3)
  go_ret2
  exact ⟨rfl, rfl⟩
set_option maxRecDepth 100000 in
set_option maxHeartbeats 1000000 in
theorem run_no2 (a : Option Addr) (len cap : Nat) (l : List Int) (c : Option Addr) (len2 cap2 : Nat) (m : List Int) (w : World) (h : Arg w a len l) (h2 : Arg w c len2 m) (hi : chkB l = true) (hi2 : chkB m = false) :
    Calls Try.prog 16 #[.slice a len cap, .slice c len2 cap2] w fun e w' => e = .returned (.tuple #[.slice none 0 0, .int .i64 3]) ∧ w' = w := by
  have H1 : Hid (Calls Try.prog 18 #[.slice a len cap] w fun e w' => e = .returned (.int .i64 0) ∧ w' = w) := by have := rcheck_any a len cap l w h; rw [chk_yes hi] at this; exact this
  have H2 : Hid (Calls Try.prog 18 #[.slice c len2 cap2] w fun e w' => e = .returned (.int .i64 3) ∧ w' = w) := by have := rcheck_any c len2 cap2 m w h2; rw [chk_no hi2] at this; exact this
  clear h h2 hi hi2
  go_enter Try.func16, Try.ntmps16
  go_wp2_with (first
    | (go_at_call 18; have h2 := hone; refine H2.out.mono ?_; rintro e w3 ⟨rfl, hw3⟩; have hw4 := hw3.symm; subst hw4; clear hw3)
    | (go_at_call 18; refine H1.out.mono ?_; rintro e w3 ⟨rfl, hw3⟩; have hw4 := hw3.symm; subst hw4; clear hw3; have hone := True.intro))
  go_ret2
  exact ⟨rfl, rfl⟩
theorem chk_len {l : List Int} (h : chkB l = true) : 9 ≤ l.length ∧ l.length ≤ 16777216 := by
  simp only [chkB, isf, Bool.and_eq_true, decide_eq_true_eq] at h
  omega
set_option maxRecDepth 100000 in
set_option maxHeartbeats 1000000 in
theorem run_len (a : Option Addr) (len cap : Nat) (l : List Int) (c : Option Addr) (len2 cap2 : Nat) (m : List Int) (w : World) (h : Arg w a len l) (h2 : Arg w c len2 m) (hi : chkB l = true) (hi2 : chkB m = true) (hne : len2 ≠ len) :
    Calls Try.prog 16 #[.slice a len cap, .slice c len2 cap2] w fun e w' => e = .returned (.tuple #[.slice none 0 0, .int .i64 1]) ∧ ∃ n, w' = w.drewN n := by
  have H1 : Hid (Calls Try.prog 18 #[.slice a len cap] w fun e w' => e = .returned (.int .i64 0) ∧ w' = w) := by have := rcheck_any a len cap l w h; rw [chk_yes hi] at this; exact this
  have H2 : Hid (Calls Try.prog 18 #[.slice c len2 cap2] w fun e w' => e = .returned (.int .i64 0) ∧ w' = w) := by have := rcheck_any c len2 cap2 m w h2; rw [chk_yes hi2] at this; exact this
  have hl9 := chk_len hi
  have hm9 := chk_len hi2
  rw [h.len] at hl9
  rw [h2.len] at hm9
  obtain ⟨n, rfl⟩ : ∃ n, len = n + 1 := ⟨len - 1, by omega⟩
  obtain ⟨n2, rfl⟩ : ∃ n, len2 = n + 1 := ⟨len2 - 1, by omega⟩
  have hb1 : n ≤ 16777216 := by omega
  have hb2 : n2 ≤ 16777216 := by omega
  have hq : ((n2 : Int) != (n : Int)) = true := by simp; omega
  have hq2 : IntKind.i64.wrap ((n2 : Int) + 1 - 1) = n2 := by simp [IntKind.wrap, IntKind.bits, IntKind.signed]; omega
  clear h h2 hi hi2 hl9 hm9
  go_enter Try.func16, Try.ntmps16
  go_wp2_with (first
    | (go_at_call 18; have h2 := hone; refine H2.out.mono ?_; rintro e w3 ⟨rfl, hw3⟩; have hw4 := hw3.symm; subst hw4; clear hw3)
    | (go_at_call 18; refine H1.out.mono ?_; rintro e w3 ⟨rfl, hw3⟩; have hw4 := hw3.symm; subst hw4; clear hw3; have hone := True.intro))
  go_quiet (fail)
  go_wp2
  go_ret2
  exact ⟨rfl, _, rfl⟩
set_option maxRecDepth 100000 in
set_option maxHeartbeats 1000000 in
theorem run_last (b off n cap : Nat) (l : List Int) (b2 off2 cap2 : Nat) (m : List Int) (w : World) (h : Arg w (some ⟨b, off, none⟩) (n + 1) l) (h2 : Arg w (some ⟨b2, off2, none⟩) (n + 1) m) (hi : chkB l = true) (hi2 : chkB m = true) (x y : Int)
    (hx : w.cell? ⟨b, off + n, none⟩ = some (.int .u8 x)) (hy : w.cell? ⟨b2, off2 + n, none⟩ = some (.int .u8 y)) (hne : (x != y) = true) :
    Calls Try.prog 16 #[.slice (some ⟨b, off, none⟩) (n + 1) cap, .slice (some ⟨b2, off2, none⟩) (n + 1) cap2] w fun e w' => e = .returned (.tuple #[.slice none 0 0, .int .i64 1]) ∧ ∃ n, w' = w.drewN n := by
  have H1 : Hid (Calls Try.prog 18 #[.slice (some ⟨b, off, none⟩) (n + 1) cap] w fun e w' => e = .returned (.int .i64 0) ∧ w' = w) := by have := rcheck_any _ _ cap l w h; rw [chk_yes hi] at this; exact this
  have H2 : Hid (Calls Try.prog 18 #[.slice (some ⟨b2, off2, none⟩) (n + 1) cap2] w fun e w' => e = .returned (.int .i64 0) ∧ w' = w) := by have := rcheck_any _ _ cap2 m w h2; rw [chk_yes hi2] at this; exact this
  have hl9 := chk_len hi
  rw [h.len] at hl9
  have hb1 : n ≤ 16777216 := by omega
  have hq : ((n : Int) != (n : Int)) = false := by simp
  have hq2 : IntKind.i64.wrap ((n : Int) + 1 - 1) = n := by simp [IntKind.wrap, IntKind.bits, IntKind.signed]; omega
  clear h h2 hi hi2 hl9
  go_enter Try.func16, Try.ntmps16
  go_wp2_with (first
    | (go_at_call 18; have h2 := hone; refine H2.out.mono ?_; rintro e w3 ⟨rfl, hw3⟩; have hw4 := hw3.symm; subst hw4; clear hw3)
    | (go_at_call 18; refine H1.out.mono ?_; rintro e w3 ⟨rfl, hw3⟩; have hw4 := hw3.symm; subst hw4; clear hw3; have hone := True.intro))
  go_quiet (fail)
  go_wp2
  go_ret2
  exact ⟨rfl, _, rfl⟩
set_option maxRecDepth 100000 in
set_option maxHeartbeats 2000000 in
theorem run_yes (b off n cap : Nat) (l : List Int) (b2 off2 cap2 : Nat) (m : List Int) (w : World) (h : Arg w (some ⟨b, off, none⟩) (n + 1) l) (h2 : Arg w (some ⟨b2, off2, none⟩) (n + 1) m) (hi : chkB l = true) (hi2 : chkB m = true)
    (hlt : b < w.heap.size) (hlt2 : b2 < w.heap.size) (hc : ∀ j, j < l.length → w.cell? ⟨b, off + j, none⟩ = some (.int .u8 (l.getD j 0))) (hc2 : ∀ j, j < m.length → w.cell? ⟨b2, off2 + j, none⟩ = some (.int .u8 (m.getD j 0))) (hne : m.getD n 0 = l.getD n 0) :
    Calls Try.prog 16 #[.slice (some ⟨b, off, none⟩) (n + 1) cap, .slice (some ⟨b2, off2, none⟩) (n + 1) cap2] w fun e w' => ∃ v, e = .returned (.tuple #[v, .int .i64 0]) ∧ OwnB w' w.heap.size v (unL l m) ∧ Below w.heap.size w w' := by
  have H1 : Hid (Calls Try.prog 18 #[.slice (some ⟨b, off, none⟩) (n + 1) cap] w fun e w' => e = .returned (.int .i64 0) ∧ w' = w) := by have := rcheck_any _ _ cap l w h; rw [chk_yes hi] at this; exact this
  have H2 : Hid (Calls Try.prog 18 #[.slice (some ⟨b2, off2, none⟩) (n + 1) cap2] w fun e w' => e = .returned (.int .i64 0) ∧ w' = w) := by have := rcheck_any _ _ cap2 m w h2; rw [chk_yes hi2] at this; exact this
  obtain ⟨i0, hi0, hz0, hz1, hz2⟩ := info_parts info5
  have hl9 := chk_len hi
  rw [h.len] at hl9
  have hb1 : n ≤ 16777216 := by omega
  have HL1 : Hid (l.length = n + 1) := h.1
  have HL2 : Hid (m.length = n + 1) := h2.1
  have hB1 := h.2.1
  have hB2 := h2.2.1
  have hx := hc n (by rw [HL1.out]; omega)
  have hy := hc2 n (by rw [HL2.out]; omega)
  rw [hne] at hy
  have HUL : Hid ((unL l m).length = n + 1) := by show _ = _; rw [unL_length (HL1.out.trans HL2.out.symm), HL1.out]
  have HLA : Hid (unL l m = (unL l m).take n ++ [l.getD n 0]) := by
    show _ = _
    have e : (unL l m).getD n 0 = l.getD n 0 := by rw [unL_get (HL1.out.trans HL2.out.symm) n (by rw [HL1.out]; omega), hne, or_self8 (byt_get hB1 n)]
    have hlt' : n < (unL l m).length := by rw [HUL.out]; omega
    rw [← e, List.getD_eq_getElem?_getD, List.getElem?_eq_getElem hlt']
    have := List.take_succ_eq_append_getElem hlt'
    rw [List.take_of_length_le (Nat.le_of_eq HUL.out)] at this
    exact this
  obtain ⟨x, hxe⟩ : ∃ x, l.getD n 0 = x := ⟨_, rfl⟩
  rw [hxe] at hx hy HLA
  have hxb := byt_get hB1 n
  rw [hxe] at hxb
  have hq : ((n : Int) != (n : Int)) = false := by simp
  have hq2 : (x != x) = false := by simp
  have hq3 : IntKind.i64.wrap ((n : Int) + 1 - 1) = n := by simp [IntKind.wrap, IntKind.bits, IntKind.signed]; omega
  clear h h2 hi hi2 hl9 hne hxe
  obtain ⟨hxb0, hxb1⟩ := hxb
  go_enter Try.func16, Try.ntmps16
  go_wp2_with (first
    | (go_at_call 18; have h2 := hone; refine H2.out.mono ?_; rintro e w3 ⟨rfl, hw3⟩; have hw4 := hw3.symm; subst hw4; clear hw3)
    | (go_at_call 18; refine H1.out.mono ?_; rintro e w3 ⟨rfl, hw3⟩; have hw4 := hw3.symm; subst hw4; clear hw3; have hone := True.intro))
  go_quiet (fail)
  go_wp2
  have hb0 : Below w.heap.size w (w.drewN nq) := ⟨rfl, rfl, rfl, Nat.le_refl _, fun _ _ => rfl⟩
  clear hy hq hq2 hq3
  go_loopw [7, 8] (fun v i wr => ∃ k : Nat, k ≤ n ∧ i = .int .i64 k ∧ OwnB wr w.heap.size v ((unL l m).take k) ∧ Below w.heap.size w wr) (fun _ i _ => ((n : Int) - intOf i).toNat)
  case atStart => exact ⟨0, by omega, rfl, OwnB.nil _ _, hb0⟩
  case round =>
    obtain ⟨k, hk, rfl, hok, hbk⟩ := hrel
    by_cases hlk : k < n
    · have c1 : wr.drew.cell? ⟨b, off + k, none⟩ = some (.int .u8 (l.getD k 0)) := (hbk.cell (p := ⟨b, off + k, none⟩) hlt).trans (hc k (by rw [HL1.out]; omega))
      have c2 : wr.drew.cell? ⟨b2, off2 + k, none⟩ = some (.int .u8 (m.getD k 0)) := (hbk.cell (p := ⟨b2, off2 + k, none⟩) hlt2).trans (hc2 k (by rw [HL2.out]; omega))
      have y1 := byt_get hB1 k
      have y2 := byt_get hB2 k
      have HS : Hid ((unL l m).take (k + 1) = (unL l m).take k ++ [bits .or .u8 (l.getD k 0) (m.getD k 0)]) := by
        show _ = _
        have hk' : k < (unL l m).length := by rw [HUL.out]; omega
        rw [List.take_succ_eq_append_getElem hk', ← unL_get (HL1.out.trans HL2.out.symm) k (by rw [HL1.out]; omega), List.getD_eq_getElem?_getD, List.getElem?_eq_getElem hk']; rfl
      have HLn : Hid (((unL l m).take k).length + [bits .or .u8 (l.getD k 0) (m.getD k 0)].length ≤ 140737488355328) := by show _ ≤ _; simp; omega
      generalize l.getD k 0 = z1 at *
      generalize m.getD k 0 = z2 at *
      obtain ⟨y3, y4⟩ := y1
      obtain ⟨y5, y6⟩ := y2
      have hki : ((k : Int) < (n : Int) + 1) = True := eq_true (by omega)
      have HBK := hbk.size
      go_wp2
      go_region_law (refine OwnB.step_append_d (by rfl) (by rfl) _ _ _ _ (by rfl) (by rfl) (base := w.heap.size) (l := (unL l m).take k) (hok.alloc _).drew i0 Try.underlying23 hi0 hz0 hz1 hz2 _ (by rfl) [bits .or .u8 z1 z2] (src_one_d _ _) (by simp; omega) HLn.out ?_; intro v6 w6 ho6 hg6 hl6)
      all_goals
        have hB6 : Below w.heap.size w w6 := ((hbk.alloc hbk.size _).drew).grown hg6 (by simp; omega) (fun k' hk' => (hok.lt k' hk').1)
        rw [← HS.out] at ho6
        clear hg6 hl6
        go_wp2
        go_roundw
        case rel => exact ⟨k + 1, by omega, by go_num, ho6, hB6⟩
        case measure => simp [intOf]; omega
    · have HKN : Hid (k = n) := by show _ = _; omega
      have hki : ¬ ((k : Int) < (n : Int)) := by omega
      have hxk := (hbk.cell (p := ⟨b, off + n, none⟩) hlt).trans hx
      have HLn : Hid (((unL l m).take k).length + [x].length ≤ 140737488355328) := by show _ ≤ _; simp; omega
      have hni : ((n : Int) < (n : Int) + 1) = True := eq_true (by omega)
      have HBK := hbk.size
      go_wp2_with (refine OwnB.wpList_append (by rfl) _ _ _ _ (by rfl) (by rfl) (base := w.heap.size) (l := (unL l m).take k) (hok.alloc _) i0 Try.underlying23 hi0 hz0 hz1 hz2 _ (by rfl) [x] (src_one _ _) (by simp; omega) HLn.out ?_; intro v6 w6 ho6 hg6 hl6)
      go_ret2
      refine ⟨v6, rfl, ?_, (hbk.alloc hbk.size _).grown hg6 (by simp; omega) (fun k' hk' => (hok.lt k' hk').1)⟩
      rw [HLA.out, ← HKN.out]; exact ho6
end Go.Proofs.Ytbmljdeenbokmaa
