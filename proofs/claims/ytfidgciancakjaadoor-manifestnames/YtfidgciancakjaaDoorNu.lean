/-
  Number, the program's and the reference's.
-/
import Derived.Test.YtfidgciancakjaaDoorFu
import Derived.Lib.AtoiErrMem
import Derived.Deep.LoopGhost
namespace Go.Proofs.YtfidgciancakjaaDoor
open Go.RowKit Go.Lib
set_option linter.unusedVariables false
set_option linter.unusedSimpArgs false
/-- What the package-level variables hold. -/
structure Vr (w : World) : Prop where
  t : Tab w
  s : ∃ tp p, w.var? Tryd.prog "strconv.ErrSyntax" = some #[.iface tp p]
  r : ∃ tp p, w.var? Tryd.prog "strconv.ErrRange" = some #[.iface tp p]
theorem var_below {w w' : World} {name : String} {vs : Array Value} (h : w.var? Tryd.prog name = some vs) (hB : Below w.heap.size w w') : w'.var? Tryd.prog name = some vs := by
  unfold World.var? at *
  cases hg : Tryd.prog.globalNamed name with
  | none => simp [hg] at h
  | some g =>
    simp only [hg, Option.bind_some] at h ⊢
    have hlt : g < w.heap.size := by
      rcases Nat.lt_or_ge g w.heap.size with h' | h'
      · exact h'
      · rw [Array.getElem?_eq_none h'] at h; simp at h
    rw [hB.block g hlt]
    exact h
theorem Vr.below {w w' : World} (h : Vr w) (hB : Below w.heap.size w w') : Vr w' := by
  obtain ⟨t, ⟨a, b, c⟩, ⟨d, e, f⟩⟩ := h
  exact ⟨tab_below t hB, ⟨a, b, var_below c hB⟩, ⟨d, e, var_below f hB⟩⟩
theorem bs_eq (s : ByteArray) : bs s.data.toList = s := by unfold bs; simp
theorem trim_le (s p : List UInt8) : (trimPrefix s p).length ≤ s.length := by
  unfold trimPrefix
  split
  · simp
  · exact Nat.le_refl _
/-- ParseUint tells a number, or an error that is there. -/
theorem parse_any (w : World) (V : Vr w) (s : ByteArray) (hs : s.size ≤ 281474976710656) :
    Calls Tryd.prog 8 #[.string s, .int .i64 10, .int .i64 64] w fun e w' => Below w.heap.size w w' ∧ ((∃ u, parseUintB 64 s.data.toList = .ok u ∧ e = .returned (.tuple #[.int .u64 (u : Nat), .nilIface])) ∨ ((∀ u, parseUintB 64 s.data.toList ≠ .ok u) ∧ ∃ (z : Int) (N : Nat), e = .returned (.tuple #[.int .u64 z, .iface 51 (.pointer (some ⟨N, 0, none⟩))]))) := by
  cases h : parseUintB 64 s.data.toList with
  | ok u =>
    refine (Tryd.strconv_ParseUint_10_at64_ok s (by omega) u h w).mono ?_
    rintro e w' ⟨rfl, hw⟩
    refine ⟨?_, .inl ⟨u, rfl, rfl⟩⟩
    rcases hw with rfl | rfl
    · exact Below.refl _ _
    · exact bytesWorld_below _ _ _
  | «syntax» =>
    obtain ⟨tp, p, hv⟩ := V.s
    refine (Tryd.strconv_ParseUint_10_at64_syntax_var s hs h tp p w hv).mono ?_
    rintro e w' ⟨N, rfl, _, _, hB⟩
    exact ⟨hB, .inr ⟨fun u => by simp, _, N, rfl⟩⟩
  | range =>
    obtain ⟨tp, p, hv⟩ := V.r
    refine (Tryd.strconv_ParseUint_10_at64_range_var s hs h tp p w hv).mono ?_
    rintro e w' ⟨N, rfl, _, _, hB⟩
    exact ⟨hB, .inr ⟨fun u => by simp, _, N, rfl⟩⟩
set_option maxRecDepth 100000 in
set_option maxHeartbeats 4000000 in
theorem number_any (w : World) (V : Vr w) (s : ByteArray) (hs : s.size ≤ 281474976710656) :
    Calls Tryd.prog 4 #[.string s] w fun e w' => e = .returned (.tuple #[.int .u64 (prN s.data.toList).1, .bool (prN s.data.toList).2]) ∧ Below w.heap.size w w' := by
  have HT : Calls Tryd.prog 9 #[.string s, .string (bs pfx)] w fun e w' => e = .returned (.string (bs (trimPrefix s.data.toList pfx))) ∧ w' = w := Tryd.strings_TrimPrefix s (bs pfx) w
  have hsl : s.data.toList.length = s.size := Array.length_toList
  have hT : (bs (trimPrefix s.data.toList pfx)).size ≤ 281474976710656 := by
    rw [bs_size]
    have := trim_le s.data.toList pfx
    omega
  have HP := parse_any w V (bs (trimPrefix s.data.toList pfx)) hT
  have hd : (bs (trimPrefix s.data.toList pfx)).data.toList = trimPrefix s.data.toList pfx := by simp [bs]
  rw [hd] at HP
  have e0 : prN s.data.toList = match parseUintB 64 (trimPrefix s.data.toList pfx) with | .ok u => if nmL u = s.data.toList then (u, true) else (0, false) | _ => (0, false) := rfl
  have hq : ∀ u, parseUintB 64 (trimPrefix s.data.toList pfx) = .ok u → u < 18446744073709551616 := fun u h => parse_lt h
  generalize bs (trimPrefix s.data.toList pfx) = T at *
  generalize parseUintB 64 (trimPrefix s.data.toList pfx) = Pq at *
  have V' : Hid _ := V
  clear hd hT V
  cases Pq with
  | ok u =>
    have hu := hq u rfl
    have HN : ∀ W, Below w.heap.size w W → Calls Tryd.prog 6 #[.int .u64 u] W fun e w' => e = .returned (.string (bs (nmL u))) ∧ Below W.heap.size W w' := fun W hW => name_any W u hu (V'.out.below hW).t
    by_cases c : nmL u = s.data.toList
    · have hc : bs (nmL u) = s := by rw [c, bs_eq]
      have e1 : Hid (prN s.data.toList = (u, true)) := by show _ = _; rw [e0]; simp only [c, if_true]
      rw [hc] at HN
      clear e0 c hc
      go_enter Tryd.func4, Tryd.ntmps4
      go_wp2_with (first
        | (go_at_call 9; refine HT.mono ?_; rintro e w1 ⟨rfl, hw⟩; have hw' := hw.symm; subst hw'; clear HT)
        | (go_at_call 8; refine HP.mono ?_; rintro e w1 ⟨hB1, ⟨u', hu', rfl⟩ | ⟨hn, _⟩⟩; rotate_left; exact absurd rfl (hn u); cases hu'; clear HP)
        | (go_at_call 6; refine (HN _ hB1).mono ?_; rintro e w2 ⟨rfl, hB2⟩))
      refine bodyPost_ret (v := .tuple #[.int .u64 u, .bool true]) (by simp [results, Tryd.results4, go_sem]) rfl ⟨by rw [e1.out], hB1.trans (hB2.mono hB1.size)⟩

    · have hc : bs (nmL u) ≠ s := fun e => c (by rw [← e]; simp [bs])
      have e1 : Hid (prN s.data.toList = (0, false)) := by show _ = _; rw [e0]; simp only [if_neg c]
      have hc2 : ((bs (nmL u)).toList == s.toList) = false := by
        rw [toList_data, toList_data]
        exact beq_eq_false_iff_ne.2 (fun e => c (by rw [← e]; simp [bs]))
      generalize bs (nmL u) = Nm at *
      clear e0 c hc
      go_enter Tryd.func4, Tryd.ntmps4
      go_wp2_with (first
        | (go_at_call 9; refine HT.mono ?_; rintro e w1 ⟨rfl, hw⟩; have hw' := hw.symm; subst hw'; clear HT)
        | (go_at_call 8; refine HP.mono ?_; rintro e w1 ⟨hB1, ⟨u', hu', rfl⟩ | ⟨hn, _⟩⟩; rotate_left; exact absurd rfl (hn u); cases hu'; clear HP)
        | (go_at_call 6; refine (HN _ hB1).mono ?_; rintro e w2 ⟨rfl, hB2⟩))
      refine bodyPost_ret (v := .tuple #[.int .u64 0, .bool false]) (by simp [results, Tryd.results4, go_sem]) rfl ⟨by rw [e1.out]; rfl, hB1.trans (hB2.mono hB1.size)⟩
  | «syntax» =>
    have e1 : Hid (prN s.data.toList = (0, false)) := by show _ = _; rw [e0]
    clear e0
    go_enter Tryd.func4, Tryd.ntmps4
    go_wp2_with (first
      | (go_at_call 9; refine HT.mono ?_; rintro e w1 ⟨rfl, hw⟩; have hw' := hw.symm; subst hw'; clear HT)
      | (go_at_call 8; refine HP.mono ?_; rintro e w1 ⟨hB1, ⟨u', hu', rfl⟩ | ⟨hn, z, N, rfl⟩⟩; cases hu'; clear HP))
    refine bodyPost_ret (v := .tuple #[.int .u64 0, .bool false]) (by simp [results, Tryd.results4, go_sem]) rfl ⟨by rw [e1.out]; rfl, hB1⟩
  | range =>
    have e1 : Hid (prN s.data.toList = (0, false)) := by show _ = _; rw [e0]
    clear e0
    go_enter Tryd.func4, Tryd.ntmps4
    go_wp2_with (first
      | (go_at_call 9; refine HT.mono ?_; rintro e w1 ⟨rfl, hw⟩; have hw' := hw.symm; subst hw'; clear HT)
      | (go_at_call 8; refine HP.mono ?_; rintro e w1 ⟨hB1, ⟨u', hu', rfl⟩ | ⟨hn, z, N, rfl⟩⟩; cases hu'; clear HP))
    refine bodyPost_ret (v := .tuple #[.int .u64 0, .bool false]) (by simp [results, Tryd.results4, go_sem]) rfl ⟨by rw [e1.out]; rfl, hB1⟩
/-- A digit more. -/
theorem rdN_at (s : List UInt8) (i : Nat) (hi : i < s.length) (acc : Nat) : rdN acc (s.drop i) = if 48 ≤ s[i].toNat ∧ s[i].toNat ≤ 57 then rdN ((10 * acc + (s[i].toNat - 48)) % 18446744073709551616) (s.drop (i + 1)) else acc := by
  rw [List.drop_eq_getElem_cons hi]
  rfl
set_option maxRecDepth 100000 in
set_option maxHeartbeats 4000000 in
theorem rnumber_any (w : World) (s : ByteArray) (hs : s.size ≤ 281474976710656) :
    Calls Tryd.prog 5 #[.string s] w fun e w' => e = .returned (.tuple #[.int .u64 (rfN s.data.toList).1, .bool (rfN s.data.toList).2]) ∧ Below w.heap.size w w' := by
  obtain ⟨l, hl⟩ : ∃ l, s.data.toList = l := ⟨_, rfl⟩
  have hll : l.length = s.size := by rw [← hl]; exact Array.length_toList
  obtain ⟨m, hm⟩ : ∃ m, rdN 0 (l.drop 9) = m := ⟨_, rfl⟩
  have hml : m < 18446744073709551616 := by rw [← hm]; exact rd_lt (l.drop 9) 0 (by decide)
  have e0 : rfN l = if nmL m = l then (m, true) else (0, false) := by unfold rfN; rw [hm]
  rw [hl]
  have HN : ∀ W, Calls Tryd.prog 7 #[.int .u64 m] W fun e w' => e = .returned (.string (bs (nmL m))) ∧ Below W.heap.size W w' := fun W => rname_any W m hml
  go_enter Tryd.func5, Tryd.ntmps5
  go_wp2_with fail
  go_loopw [4, 5] (fun nn ii wr => ∃ (i acc : Nat), nn = .int .u64 acc ∧ ii = .int .i64 i ∧ 9 ≤ i ∧ acc < 18446744073709551616 ∧ Hid (rdN acc (l.drop i) = m) ∧ wr = w) (fun nn ii wr => match ii with | .int _ z => s.size - z.toNat | _ => 0)
  case atStart => exact ⟨9, 0, rfl, rfl, Nat.le_refl _, by decide, hm, rfl⟩
  case round =>
    obtain ⟨i, acc, rfl, rfl, hi, hacc, hrd, hwr⟩ := hrel
    subst hwr
    by_cases hlt : i < s.size
    · have hlt' : (i : Int) < (s.size : Int) := by omega
      have hli : l[i]'(by omega) = s[i] := by subst hl; rfl
      have hat := rdN_at l i (by omega) acc
      rw [hli] at hat
      by_cases hc : 48 ≤ s[i].toNat ∧ s[i].toNat ≤ 57
      · rw [if_pos hc] at hat
        have hc1 : (48 : Int) ≤ (s[i].toNat : Int) := by omega
        have hc2 : (s[i].toNat : Int) ≤ 57 := by omega
        have hat' : Hid _ := hat
        clear hat hc hli
        go_wp2_with fail
        refine ⟨⟨i + 1, (10 * acc + (s[i].toNat - 48)) % 18446744073709551616, ?_, rfl, by omega, Nat.mod_lt _ (by decide), (show _ = m by rw [← hat'.out]; exact hrd.out), trivial⟩, ?_⟩
        · congr 1
          rw [IntKind.wrap_u64, IntKind.wrap_u64]
          generalize s[i].toNat = z at *
          omega
        · simp only []; omega
      · rw [if_neg hc] at hat
        have hfin : Hid (acc = m) := by show acc = m; rw [← hat]; exact hrd.out
        clear hat hrd hli
        by_cases hc1 : 48 ≤ s[i].toNat
        · have hc1' : (48 : Int) ≤ (s[i].toNat : Int) := by omega
          have hc2 : ¬ (s[i].toNat : Int) ≤ 57 := by omega
          clear hc
          have hfm := hfin.out
          subst hfm
          by_cases c : nmL acc = l
          · have hc3 : bs (nmL acc) = s := by rw [c, ← hl, bs_eq]
            have e1 : Hid (rfN l = (acc, true)) := by show _ = _; rw [e0, if_pos c]
            rw [hc3] at HN
            clear e0 c hc3 hl hm
            go_wp2_with (go_at_call 7; refine (HN _).mono ?_; rintro e w2 ⟨rfl, hB2⟩)
            refine bodyPost_ret (v := .tuple #[.int .u64 acc, .bool true]) (by simp [results, Tryd.results5, go_sem]) rfl ⟨by rw [e1.out], hB2⟩
          · have hc3 : ((bs (nmL acc)).toList == s.toList) = false := by
              rw [toList_data, toList_data]
              exact beq_eq_false_iff_ne.2 (fun e => c (by rw [← hl, ← e]; simp [bs]))
            have e1 : Hid (rfN l = (0, false)) := by show _ = _; rw [e0, if_neg c]
            generalize bs (nmL acc) = Nm at *
            clear e0 c hl hm
            go_wp2_with (go_at_call 7; refine (HN _).mono ?_; rintro e w2 ⟨rfl, hB2⟩)
            refine bodyPost_ret (v := .tuple #[.int .u64 0, .bool false]) (by simp [results, Tryd.results5, go_sem]) rfl ⟨by rw [e1.out]; rfl, hB2⟩
        · have hc1' : ¬ (48 : Int) ≤ (s[i].toNat : Int) := by omega
          clear hc
          have hfm := hfin.out
          subst hfm
          by_cases c : nmL acc = l
          · have hc3 : bs (nmL acc) = s := by rw [c, ← hl, bs_eq]
            have e1 : Hid (rfN l = (acc, true)) := by show _ = _; rw [e0, if_pos c]
            rw [hc3] at HN
            clear e0 c hc3 hl hm
            go_wp2_with (go_at_call 7; refine (HN _).mono ?_; rintro e w2 ⟨rfl, hB2⟩)
            refine bodyPost_ret (v := .tuple #[.int .u64 acc, .bool true]) (by simp [results, Tryd.results5, go_sem]) rfl ⟨by rw [e1.out], hB2⟩
          · have hc3 : ((bs (nmL acc)).toList == s.toList) = false := by
              rw [toList_data, toList_data]
              exact beq_eq_false_iff_ne.2 (fun e => c (by rw [← hl, ← e]; simp [bs]))
            have e1 : Hid (rfN l = (0, false)) := by show _ = _; rw [e0, if_neg c]
            generalize bs (nmL acc) = Nm at *
            clear e0 c hl hm
            go_wp2_with (go_at_call 7; refine (HN _).mono ?_; rintro e w2 ⟨rfl, hB2⟩)
            refine bodyPost_ret (v := .tuple #[.int .u64 0, .bool false]) (by simp [results, Tryd.results5, go_sem]) rfl ⟨by rw [e1.out]; rfl, hB2⟩
    · have hlt' : ¬ (i : Int) < (s.size : Int) := by omega
      have hfin : Hid (acc = m) := by
        show acc = m
        have := hrd.out
        rw [List.drop_of_length_le (by omega)] at this
        exact this
      clear hrd
      have hfm := hfin.out
      subst hfm
      by_cases c : nmL acc = l
      · have hc3 : bs (nmL acc) = s := by rw [c, ← hl, bs_eq]
        have e1 : Hid (rfN l = (acc, true)) := by show _ = _; rw [e0, if_pos c]
        rw [hc3] at HN
        clear e0 c hc3 hl hm
        go_wp2_with (go_at_call 7; refine (HN _).mono ?_; rintro e w2 ⟨rfl, hB2⟩)
        refine bodyPost_ret (v := .tuple #[.int .u64 acc, .bool true]) (by simp [results, Tryd.results5, go_sem]) rfl ⟨by rw [e1.out], hB2⟩
      · have hc3 : ((bs (nmL acc)).toList == s.toList) = false := by
          rw [toList_data, toList_data]
          exact beq_eq_false_iff_ne.2 (fun e => c (by rw [← hl, ← e]; simp [bs]))
        have e1 : Hid (rfN l = (0, false)) := by show _ = _; rw [e0, if_neg c]
        generalize bs (nmL acc) = Nm at *
        clear e0 c hl hm
        go_wp2_with (go_at_call 7; refine (HN _).mono ?_; rintro e w2 ⟨rfl, hB2⟩)
        refine bodyPost_ret (v := .tuple #[.int .u64 0, .bool false]) (by simp [results, Tryd.results5, go_sem]) rfl ⟨by rw [e1.out]; rfl, hB2⟩
end Go.Proofs.YtfidgciancakjaaDoor
