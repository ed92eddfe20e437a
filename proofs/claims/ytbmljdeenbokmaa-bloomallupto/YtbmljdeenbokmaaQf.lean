/-
  What the law does with bytes and strings: own, told, a copy of strings with room.
-/
import Derived.Test.YtbmljdeenbokmaaQe
namespace Go.Proofs.Ytbmljdeenbokmaa
open Go.RowKit Go.Maps
set_option linter.unusedVariables false
set_option linter.unusedSimpArgs false

def mkZ (n : Nat) : Array Value := madeCells (Value.int .u8 0).cells n
theorem mkcap (n : Nat) (hn : n ≤ 5000000) (w : World) : (Instr.makeSlice 23 (.int .i64 0) (.int .i64 ((n : Int) + 2))).run Try.prog w = .ok (.slice (some ⟨w.heap.size, 0, none⟩) 0 (n + 2)) (w.alloc (.cells (mkZ (n + 2)) 5)) := by
  obtain ⟨i0, hi, hz0, hz1, hz2⟩ := info_parts info5
  have h := run_makeSlice (P := Try.prog) w 23 5 i0 (.int .u8 0) Try.underlying23 hi hz0 .i64 .i64 0 ((n : Int) + 2) (Int.le_refl _) (by omega) (by rw [hz1]; omega) (by rw [hz2]; omega) (by omega)
  rw [hz1] at h
  have e : ((n : Int) + 2).toNat = n + 2 := by omega
  rw [e] at h
  simpa [mkZ] using h
theorem mkcap_own (n : Nat) (hn : n ≤ 5000000) (w : World) : OwnB (w.alloc (.cells (mkZ (n + 2)) 5)) w.heap.size (.slice (some ⟨w.heap.size, 0, none⟩) 0 (n + 2)) [] := by
  have hs : (mkZ (n + 2)).toList.length = n + 2 := by
    rw [Array.length_toList, mkZ, size_madeCells]
  exact OwnB.ofBlock w w.heap.size [] (mkZ (n + 2)).toList _ (0, 0) (by simp [bc]) (Nat.le_refl _) (.inl rfl) (by rw [hs]; simp [maxLen]; omega) (n + 2) (by rw [hs]; simp)
set_option maxRecDepth 100000 in
set_option maxHeartbeats 1000000 in
/-- own: bytes in memory of their own. -/
theorem own_any (a : Option Addr) (len cap : Nat) (l : List Int) (w : World) (h : Arg w a len l) (hl : len ≤ 1048576) :
    Calls Try.prog 11 #[.slice a len cap] w fun e w' => ∃ av cv, e = .returned (.slice av len cv) ∧ OwnB w' w.heap.size (.slice av len cv) l ∧ Below w.heap.size w w' := by
  obtain ⟨i0, hi, hz0, hz1, hz2⟩ := info_parts info5
  have hmk := mkcap len (by omega)
  have hown := mkcap_own len (by omega) w
  have hB0 : Below w.heap.size w (w.alloc (.cells (mkZ (len + 2)) 5)) := (Below.refl _ w).alloc (Nat.le_refl _) _
  have hsrc := (h.below hB0).src (cap := cap)
  have HL : Hid (([] : List Int).length + l.length ≤ 140737488355328) := by show _ ≤ _; rw [h.len]; simp; omega
  have HLL : Hid (l.length = len) := h.len
  have HBT : Hid (Byt l) := h.2.1
  clear h
  go_enter Try.func11, Try.ntmps11
  go_wp2_with (refine OwnB.wpList_append (by rfl) _ _ 23 23 (by rfl) (by rfl) hown i0 Try.underlying23 hi hz0 hz1 hz2 _ (by rfl) l hsrc (by simp) HL.out ?_; intro v' w' h1 h2 h3)
  have h1' : OwnB w' w.heap.size v' l := h1
  obtain ⟨av, cv, rfl, _⟩ := h1'.arg HBT.out (by rw [HLL.out]; omega)
  rw [HLL.out] at h1' ⊢
  go_ret
  exact ⟨av, cv, rfl, h1', hB0.grown h2 (by simp) (by intro k hk; cases hk; exact Nat.le_refl _)⟩
/-- Rows pass by what is done to another one. -/
theorem Row.grown {w w' : World} {B : Nat} {l : List Int} {row : Option Nat} (h : Row w B l) (hg : w.grownBy w' row) (hne : row ≠ some B) : Row w' B l :=
  (hg.block B h.lt (fun e => hne e.symm)).trans h
theorem grown_refl (w : World) (row : Option Nat) : w.grownBy w row := ⟨rfl, rfl, rfl, Nat.le_refl _, fun _ _ _ => rfl⟩
theorem grown_alloc {w W : World} {row : Option Nat} (h : w.grownBy W row) (o : Obj) : w.grownBy (W.alloc o) row :=
  ⟨h.os, h.tape, h.output, Nat.le_trans h.size (by simp), fun k hk hne => (Below.heap_alloc _ _ _ (Nat.lt_of_lt_of_le hk h.size)).trans (h.block k hk hne)⟩
theorem grown_drew {w W : World} {row : Option Nat} (h : w.grownBy W row) : w.grownBy W.drew row := ⟨h.os, h.tape, h.output, h.size, h.block⟩
theorem grown_set {w W : World} {B : Nat} (h : w.grownBy W (some B)) (i : Nat) (v : Value) : w.grownBy (W.setCell ⟨B, i, none⟩ v) (some B) :=
  ⟨h.os, h.tape, h.output, Nat.le_trans h.size (by simp [World.setCell]), fun k hk hne => (Below.heap_setCell _ _ _ _ (fun e => hne (by rw [e]))).trans (h.block k hk hne)⟩
theorem grown_trans {a b c : World} {row : Option Nat} (h : a.grownBy b row) (k : b.grownBy c row) : a.grownBy c row := h.trans k
theorem beq_self (s : ByteArray) : (s.toList == s.toList) = true := by simp
set_option maxRecDepth 100000 in
set_option maxHeartbeats 1000000 in
theorem told_nil (c : Option Addr) (cap2 : Nat) (w : World) (h : Arg w c 0 []) :
    Calls Try.prog 12 #[.slice none 0 0, .slice c 0 cap2] w fun e w' => e = .returned (.bool true) ∧ w.grownBy w' none := by
  have hc1 : (convert 23 9 (.slice none 0 0)).run Try.prog w = .ok (.string (bstr [])) w := Arg.str (cap := 0) (⟨rfl, (fun x hx => by cases hx), by omega, .inl rfl⟩ : Arg w none 0 [])
  have hc2 := h.str (cap := cap2)
  clear h
  go_enter Try.func12, Try.ntmps12
  go_wp2
  go_loopw [6] (fun i wr => i = .int .i64 0 ∧ wr = w) (fun _ _ => 0)
  case atStart => exact ⟨rfl, rfl⟩
  case round =>
    obtain ⟨rfl, hw⟩ := hrel
    have hw1 := hw.symm
    subst hw1
    clear hw
    go_wp2
    go_ret
    exact ⟨rfl, grown_drew (grown_alloc (grown_alloc (grown_refl _ _) _) _)⟩
theorem Row.own {w : World} {B : Nat} {l : List Int} (h : Row w B l) (hl : l.length ≤ maxLen) : OwnB w 0 (.slice (some ⟨B, 0, none⟩) l.length l.length) l :=
  .inr ⟨B, 0, l.length, rfl, Nat.zero_le _, h.lt, Nat.le_refl _, hl, fun j hj => by rw [Nat.zero_add, h.cell j hj, getD_at hj], fun j h1 h2 => by omega⟩
def fil (L : List Int) (k : Nat) : List Int := List.replicate k 85 ++ L.drop k
theorem fil_zero (L : List Int) : fil L 0 = L := by simp [fil]
theorem fil_len (L : List Int) (k : Nat) (h : k ≤ L.length) : (fil L k).length = L.length := by simp [fil]; omega
theorem fil_set (L : List Int) (k : Nat) (h : k < L.length) : (fil L k).set k 85 = fil L (k + 1) := by
  unfold fil
  have e : L.drop k = L[k] :: L.drop (k + 1) := List.drop_eq_getElem_cons h
  rw [e, List.set_append_right _ _ (by simp), List.length_replicate, Nat.sub_self, List.set_cons_zero, List.replicate_succ', List.append_assoc]
  rfl
set_option maxRecDepth 100000 in
set_option maxHeartbeats 1000000 in
theorem told_row (B n : Nat) (L : List Int) (c : Option Addr) (cap2 : Nat) (w : World) (hr : Row w B L) (hn : L.length = n) (hB : Byt L) (hl : n ≤ 16777216) (h : Arg w c n L) :
    Calls Try.prog 12 #[.slice (some ⟨B, 0, none⟩) n n, .slice c n cap2] w fun e w' => e = .returned (.bool true) ∧ w.grownBy w' (some B) := by
  obtain ⟨i0, hi, hz0, hz1, hz2⟩ := info_parts info5
  have hc1 : (convert 23 9 (.slice (some ⟨B, 0, none⟩) n n)).run Try.prog w = .ok (.string (bstr L)) w := by
    have := hr.arg hB (by omega)
    rw [hn] at this
    exact this.str
  have hc2 := h.str (cap := cap2)
  have HN : Hid (L.length = n) := hn
  clear h hn
  go_enter Try.func12, Try.ntmps12
  go_wp2
  clear hc1 hc2
  go_loopw [6] (fun i wr => ∃ k : Nat, k ≤ n ∧ i = .int .i64 k ∧ Row wr B (fil L k) ∧ w.grownBy wr (some B)) (fun i _ => ((n : Int) - intOf i).toNat)
  case atStart => exact ⟨0, Nat.zero_le _, rfl, by rw [fil_zero]; exact hr, grown_refl _ _⟩
  case round =>
    obtain ⟨k, hk, rfl, hrk, hgk⟩ := hrel
    by_cases hlt : k < n
    · have hck := hrk.cell k (by rw [fil_len L k (by rw [HN.out]; exact hk), HN.out]; exact hlt)
      have hfk := hrk.frozen k
      generalize (fil L k).getD k 0 = z at hck
      have HS : Hid ((fil L k).set k 85 = fil L (k + 1)) := fil_set L k (by rw [HN.out]; exact hlt)
      go_wp2
      go_roundw
      case rel => exact ⟨k + 1, by omega, by go_num, by rw [← HS.out]; exact hrk.set k 85, grown_set hgk k _⟩
      case measure => simp [intOf]; omega
    · have HKN : Hid (k = n) := by show _ = _; omega
      have hki : ¬ ((k : Int) < (n : Int)) := by omega
      have HFL : Hid ((fil L k).length = n) := by show _ = _; rw [fil_len L k (by rw [HN.out]; exact hk), HN.out]
      have hown := hrk.own (by rw [HFL.out]; unfold maxLen; omega)
      rw [HFL.out] at hown
      have HL : Hid ((fil L k).length + [(85 : Int)].length ≤ 140737488355328) := by show _ ≤ _; rw [HFL.out]; simp; omega
      go_wp2_with (refine OwnB.wpList_append (by rfl) _ _ 23 23 (by rfl) (by rfl) (hown.alloc _) i0 Try.underlying23 hi hz0 hz1 hz2 _ (by rfl) [85] (src_one _ _) (by simp) HL.out ?_; intro v' w' h1 h2 h3)
      go_ret
      exact ⟨rfl, grown_trans (grown_alloc hgk _) h2⟩
/-- told, at bytes that are those that must be. -/
theorem told_any (av : Option Addr) (base n : Nat) (L : List Int) (c : Option Addr) (cap2 : Nat) (w : World) (hF : Fresh w base av L) (hn : L.length = n) (hB : Byt L) (hl : n ≤ 16777216) (h : Arg w c n L) :
    Calls Try.prog 12 #[.slice av n n, .slice c n cap2] w fun e w' => e = .returned (.bool true) ∧ ∃ row : Option Nat, w.grownBy w' row ∧ ∀ k, row = some k → base ≤ k ∧ av = some ⟨k, 0, none⟩ := by
  rcases hF with ⟨rfl, rfl⟩ | ⟨B, rfl, hb, hr⟩
  · simp at hn
    subst hn
    exact (told_nil c cap2 w h).mono fun e w' ⟨h1, h2⟩ => ⟨h1, none, h2, fun k hk => by cases hk⟩
  · exact (told_row B n L c cap2 w hr hn hB hl h).mono fun e w' ⟨h1, h2⟩ => ⟨h1, some B, h2, fun k hk => by cases hk; exact ⟨hb, rfl⟩⟩
def mkS (n : Nat) : Array Value := madeCells (Value.string ByteArray.empty).cells n
theorem mkscap (n : Nat) (hn : n ≤ 5000000) (w : World) : (Instr.makeSlice 22 (.int .i64 0) (.int .i64 ((n : Int) + 1))).run Try.prog w = .ok (.slice (some ⟨w.heap.size, 0, none⟩) 0 (n + 1)) (w.alloc (.cells (mkS (n + 1)) 9)) := by
  obtain ⟨i0, hi, hz0, hz1, hz2⟩ := info_parts info9
  have h := run_makeSlice (P := Try.prog) w 22 9 i0 (.string ByteArray.empty) Try.underlying22 hi hz0 .i64 .i64 0 ((n : Int) + 1) (Int.le_refl _) (by omega) (by rw [hz1]; omega) (by rw [hz2]; omega) (by omega)
  rw [hz1] at h
  have e : ((n : Int) + 1).toNat = n + 1 := by omega
  rw [e] at h
  simpa [mkS] using h
theorem mkscap_own (n : Nat) (hn : n ≤ 5000000) (w : World) : (w.alloc (.cells (mkS (n + 1)) 9)).ownsRow w.heap.size 9 1 (.slice (some ⟨w.heap.size, 0, none⟩) 0 (n + 1)) 0 [] :=
  ⟨rfl, .inr ⟨w.heap.size, n + 1, mkS (n + 1), rfl, Nat.le_refl _, heap_alloc_new w _, by omega, by unfold maxLen; omega, by rw [mkS, size_madeCells]; omega, rfl⟩⟩
/-- A copy of strings, with room. -/
theorem strs_copy2 {w : World} {a : Option Addr} {cap : Nat} {ks : List ByteArray} (ty : TypeId) (h : Strs w a ks) (hl : ks.length ≤ 1048576) :
    ∃ av cv w', (Builtin.append_ #[22, 22] ty #[.slice (some ⟨w.heap.size, 0, none⟩) 0 (ks.length + 1), .slice a ks.length cap]).run Try.prog (w.alloc (.cells (mkS (ks.length + 1)) 9)) = .ok (.slice av ks.length cv) w' ∧ Strs w' av ks ∧ Below w.heap.size w w' := by
  obtain ⟨i0, hi, hz0, hz1, hz2⟩ := info_parts info9
  have hB0 : Below w.heap.size w (w.alloc (.cells (mkS (ks.length + 1)) 9)) := (Below.refl _ w).alloc (Nat.le_refl _) _
  have hown := mkscap_own ks.length (by omega) w
  rcases h.2 with rfl | ⟨b, off, rfl, hlt, hc⟩
  · have hsrc : Src Try.prog i0.size 22 (.slice a 0 cap) 0 [] (w.alloc (.cells (mkS 1) 9)) := by
      cases a with
      | none => exact Src.ofNil _ Try.underlying22 cap
      | some x => exact Src.ofSlice _ Try.underlying22 x 0 cap [] (by simp) (by simp) (by simp)
    have := run_append_room_src (P := Try.prog) (w.alloc (.cells (mkS 1) 9)) 22 22 ty 9 i0 Try.underlying22 hi w.heap.size 0 0 1 _ 0 [] hsrc (by omega) (by simp) (by simp)
    exact ⟨_, _, _, this, ⟨by simp, .inl rfl⟩, by simpa [World.setCells] using hB0⟩
  · obtain ⟨v', w', hr, h2, h3, h4, h5⟩ := run_append_own_at (P := Try.prog) (w.alloc (.cells (mkS (ks.length + 1)) 9)) w.heap.size 22 ty 9 i0 (.string ByteArray.empty) 1 16 Try.underlying22 hi hz0 hz1 hz2 rfl (by decide) _ 0 [] hown ⟨b, off, none⟩ ks.length cap (sc ks) (by simp [sc]) (by
      intro j u hu
      obtain ⟨hj, rfl⟩ := sc_get ks j u hu
      rw [add_at]; exact (hB0.cell (p := ⟨b, off + j, none⟩) hlt).trans (hc j hj)) (by
      intro u hu
      obtain ⟨k, _, rfl⟩ := List.mem_map.1 hu
      rfl) (by unfold maxLen; omega) (by omega) (by simp)
    rw [Nat.zero_add, List.nil_append] at h2
    obtain ⟨av, cv, rfl⟩ := row_form h2
    refine ⟨av, cv, w', hr, strs_of_row h2 h.1, hB0.grown h3 (by simp) (by intro k hk; cases hk; exact Nat.le_refl _)⟩
theorem wpl_copy2 {ops : Array Oper} {rest : List Oper} {o : Oper} {a : Act} {Q : Exit → Act → World → Prop} {w : World} (hgd : o.guard = none) {d : Nat} (hd : o.dst = some d) (s x : Operand)
    (ho : o.op = .call { callee := .builtin .append, args := #[s, x], argTypes := #[22, 22] }) {aa : Option Addr} {cap : Nat} {ks : List ByteArray} (hs : a.eval s = .slice (some ⟨w.heap.size, 0, none⟩) 0 (ks.length + 1)) (hx : a.eval x = .slice aa ks.length cap) (hS : Strs w aa ks) (hl : ks.length ≤ 1048576)
    (h : ∀ av cv w', Strs w' av ks → Below w.heap.size w w' → wpList Try.prog ops Q rest (a.put (some d) (.slice av ks.length cv)) w') : wpList Try.prog ops Q (o :: rest) a (w.alloc (.cells (mkS (ks.length + 1)) 9)) := by
  refine wpList_plain hgd fun K hK => ?_
  obtain ⟨av, cv, w', hr, h2, h3⟩ := strs_copy2 o.type hS hl (cap := cap)
  unfold Oper.wp execOp
  simp only [ho, resolve, invoke, builtin, Sem.run_bind, Sem.run_pure, Result.andThen_ok, List.map_toArray, List.map_cons, List.map_nil, hs, hx, hr]
  refine hK _ _ ?_
  rw [hd]
  exact h av cv w' h2 h3
end Go.Proofs.Ytbmljdeenbokmaa
