/-
  Copies of bytes; strings one by one; the mathematics of sets.
-/
import Derived.Test.YtbmljdeenbokmaaU
namespace Go.Proofs.Ytbmljdeenbokmaa
open Go.RowKit Go.Maps
set_option linter.unusedVariables false
set_option linter.unusedSimpArgs false

theorem getD_at {l : List Int} {j : Nat} (h : j < l.length) : l.getD j 0 = l[j] := by rw [List.getD_eq_getElem?_getD, List.getElem?_eq_getElem h]; rfl
theorem Arg.src {w : World} {a : Option Addr} {len cap : Nat} {l : List Int} (h : Arg w a len l) : Src Try.prog 1 23 (.slice a len cap) l.length (bc l) w := by
  obtain ⟨rfl, h2, h3, h4⟩ := h
  rcases h4 with rfl | ⟨b, off, rfl, hlt, hc⟩
  · cases a with
    | none => exact Src.ofNil w Try.underlying23 cap
    | some x => exact Src.ofSlice w Try.underlying23 x 0 cap [] rfl (by simp) (by simp)
  · refine Src.ofSlice w Try.underlying23 ⟨b, off, none⟩ l.length cap (bc l) (by rw [bc_len]; omega) ?_ (bc_one l)
    intro j u hu
    obtain ⟨hj, rfl⟩ := bc_get l j u hu
    rw [add_at, hc j hj, getD_at hj]
theorem OwnB.arg {w : World} {base : Nat} {v : Value} {l : List Int} (h : OwnB w base v l) (hb : Byt l) (hl : l.length ≤ 140737488351232) :
    ∃ a cap, v = .slice a l.length cap ∧ Arg w a l.length l := by
  rcases h with ⟨rfl, rfl⟩ | ⟨b, off, cap, rfl, h1, h2, h3, h4, h5, h6⟩
  · exact ⟨none, 0, rfl, rfl, hb, hl, .inl rfl⟩
  · exact ⟨_, cap, rfl, rfl, hb, hl, .inr ⟨b, off, rfl, h2, fun j hj => by rw [h5 j hj, getD_at hj]⟩⟩
theorem own_empty (w : World) : OwnB (w.alloc (.cells #[] 5)) w.heap.size (.slice (some ⟨w.heap.size, 0, none⟩) 0 0) [] :=
  OwnB.ofBlock w w.heap.size [] [] #[] (0, 0) rfl (Nat.le_refl _) (.inl rfl) (by simp) 0 rfl
theorem Arg.str {w : World} {a : Option Addr} {len cap : Nat} {l : List Int} (h : Arg w a len l) : (convert 23 9 (.slice a len cap)).run Try.prog w = .ok (.string (bstr l)) w := by
  obtain ⟨rfl, h2, h3, h4⟩ := h
  rcases h4 with rfl | ⟨b, off, rfl, hlt, hc⟩
  · rw [run_convert_bytes_string w 23 9 5 _ _ _ Try.underlying23 Try.underlying5 Try.underlying9]
    cases a with
    | none => simp [Conv.bytesToString, bstr]
    | some x => exact run_bytesToString w x 0 cap [] (run_loadCells_list (P := Try.prog) w x [] (by simp))
  · exact run_string_at w 23 9 Try.underlying23 Try.underlying5 Try.underlying9 b off cap l (fun j hj => by rw [hc j hj, getD_at hj])
/-- 'append([]byte{}, b...)'. -/
theorem wpl_bcopy {ops : Array Oper} {rest : List Oper} {o : Oper} {a : Act} {Q : Exit → Act → World → Prop} {w : World} (hgd : o.guard = none) {d : Nat} (hd : o.dst = some d) (s x : Operand)
    (ho : o.op = .call { callee := .builtin .append, args := #[s, x], argTypes := #[23, 23] }) {aa : Option Addr} {len cap : Nat} {l : List Int} (hs : a.eval s = .slice (some ⟨w.heap.size, 0, none⟩) 0 0) (hx : a.eval x = .slice aa len cap) (hA : Arg w aa len l)
    (h : ∀ av cv w', Arg w' av len l → Below w.heap.size w w' → wpList Try.prog ops Q rest (a.put (some d) (.slice av len cv)) w') : wpList Try.prog ops Q (o :: rest) a (w.alloc (.cells #[] 5)) := by
  obtain ⟨i0, hi, hz0, hz1, hz2⟩ := info_parts info5
  have hB0 : Below w.heap.size w (w.alloc (.cells #[] 5)) := (Below.refl _ w).alloc (Nat.le_refl _) _
  refine OwnB.wpList_append hgd s x 23 23 ho hs (own_empty w) i0 Try.underlying23 hi hz0 hz1 hz2 _ hx l ((hA.below hB0).src) (by simp) (by simp; have := hA.2.2.1; rw [hA.1]; omega) ?_
  intro v' w' h1 h2 h3
  rw [hd]
  obtain ⟨av, cv, rfl, ha⟩ := OwnB.arg (l := l) h1 hA.2.1 (by rw [hA.1]; exact hA.2.2.1)
  rw [hA.1] at ha ⊢
  exact h av cv w' ha (hB0.grown h2 (by simp) (by intro k hk; cases hk; exact Nat.le_refl _))
/-- append of one string. -/
theorem wpl_spush {w : World} {ops : Array Oper} {rest : List Oper} {o : Oper} {a : Act} {Q : Exit → Act → World → Prop} (hgd : o.guard = none) {d : Nat} (hd : o.dst = some d) (s x : Operand)
    (ho : o.op = .call { callee := .builtin .append, args := #[s, x], argTypes := #[22, 22] }) {base n : Nat} {v : Value} {T : List ByteArray} (hs : a.eval s = v) (u : ByteArray) (hx : a.eval x = .slice (some ⟨w.heap.size, 0, none⟩) 1 1) (hown : w.ownsRow base 9 1 v n (sc T)) (hn : (n + 1) * 16 ≤ 140737488355328) (hbase : base ≤ w.heap.size)
    (h : ∀ av cv w', w'.ownsRow base 9 1 (.slice av (n + 1) cv) (n + 1) (sc (T ++ [u])) → Below base w w' → wpList Try.prog ops Q rest (a.put (some d) (.slice av (n + 1) cv)) w') :
    wpList Try.prog ops Q (o :: rest) a (w.alloc (.cells #[.string u] 9)) := by
  obtain ⟨i0, hi, hz0, hz1, hz2⟩ := info_parts info9
  have hown' : (w.alloc (.cells #[.string u] 9)).ownsRow base 9 1 v n (sc T) := by
    refine ⟨hown.1, ?_⟩
    rcases hown.2 with hn | ⟨g, cap, cur, rfl, hb, hg, rest⟩
    · exact .inl hn
    · exact .inr ⟨g, cap, cur, rfl, hb, (Below.heap_alloc _ _ _ (Array.getElem?_eq_some_iff.1 hg).1).trans hg, rest⟩
  refine wpList_append_own_at _ hgd _ _ 22 ho base 9 i0 (.string ByteArray.empty) 1 16 Try.underlying22 hi hz0 hz1 hz2 rfl (by decide) v n (sc T) hs hown' ⟨w.heap.size, 0, none⟩ 1 1 [.string u] hx rfl (cell_one_new _ _ _) (by simp [Value.oneCell']) (by unfold maxLen; omega) (by omega) (by simp; omega) ?_
  intro v' w' h1 h2 _ h4
  obtain ⟨av, cv, rfl⟩ := row_form h1
  rw [hd]
  refine h av cv w' (by simpa [sc] using h1) (((Below.refl base w).alloc hbase _).grown h2 (by simp; omega) (fun k hk => ?_))
  rcases hown.2 with ⟨rfl, _⟩ | ⟨g, cap, cur, rfl, hb, hg, rest⟩
  · cases hk
  · cases hk; exact hb

theorem hasb_bldF {f : List Int} (hf : Byt f) {N n : Nat} (hN : 0 < N) (hl : f.length = N + 1) (ks : List ByteArray) {q : Int} (hq : 0 ≤ q) (hq2 : (q / 8).toNat < N + 1) :
    hasb (bldF f N n ks) q = (hasb f q || ks.any (fun k => decide (q ∈ prbs (hsh k) ((N : Int) * 8) n))) := by
  induction ks generalizing f with
  | nil => simp [bldF]
  | cons k ks ih =>
    show hasb (bldF (sets f _) N n ks) q = _
    rw [ih (sets_byt hf _) ((sets_length _ _).trans hl), hasb_sets hf (fun p hp => (prbs_lt _ N hN n p hp).1) hq (by rw [hl]; exact hq2), List.any_cons, Bool.or_assoc]
theorem bldF_reverse {f : List Int} (hf : Byt f) {N n : Nat} (hN : 0 < N) (hl : f.length = N + 1) (ks : List ByteArray) : bldF f N n ks.reverse = bldF f N n ks := by
  refine filt_ext (bldF_byt hf _ _ _) (bldF_byt hf _ _ _) (by rw [bldF_length, bldF_length]) fun p hp hp2 => ?_
  rw [bldF_length, hl] at hp2
  rw [hasb_bldF hf hN hl _ hp hp2, hasb_bldF hf hN hl _ hp hp2, List.any_reverse]
theorem fsz_8 (n : Nat) : 8 ≤ fsz n := by unfold fsz; split <;> omega
/-- The order of keys does not matter. -/
theorem bld_reverse (ks : List ByteArray) (bt : Int) : bld ks.reverse bt = bld ks bt := by
  have h8 := fsz_8 (bt.toNat * ks.length)
  have hb := npr_bd bt
  unfold bld
  rw [List.length_reverse]
  exact bldF_reverse (ini_byt _ (by omega) (by omega)) (by omega) (ini_length _ _) ks
theorem or_comm8 {x y : Int} (hx : 0 ≤ x ∧ x < 256) (hy : 0 ≤ y ∧ y < 256) : bits .or .u8 x y = bits .or .u8 y x := by
  rw [u8_or _ _ hx.1 hx.2 hy.1 hy.2, u8_or _ _ hy.1 hy.2 hx.1 hx.2, Nat.or_comm]
theorem or_self8 {x : Int} (hx : 0 ≤ x ∧ x < 256) : bits .or .u8 x x = x := by
  rw [u8_or _ _ hx.1 hx.2 hx.1 hx.2, Nat.or_self]; omega
theorem unL_comm {l m : List Int} (h : l.length = m.length) (hl : Byt l) (hm : Byt m) : unL l m = unL m l := by
  refine List.ext_getElem (by simp [unL, Nat.min_comm]) fun i h1 h2 => ?_
  simp only [unL, List.getElem_zipWith]
  exact or_comm8 (hl _ (List.getElem_mem _)) (hm _ (List.getElem_mem _))
theorem hasb_unL {l m : List Int} (h : l.length = m.length) (hl : Byt l) (hm : Byt m) {q : Int} (hq2 : (q / 8).toNat < l.length) : hasb (unL l m) q = (hasb l q || hasb m q) := by
  have h1 := byt_get hl (q / 8).toNat
  have h2 := byt_get hm (q / 8).toNat
  rw [hasb_test (unL_byt l m), hasb_test hl, hasb_test hm, unL_get h _ hq2, u8_or _ _ h1.1 h1.2 h2.1 h2.2, Int.toNat_natCast, Nat.testBit_or]
theorem sup_un {l m : List Int} (h : l.length = m.length) (hl : Byt l) (hm : Byt m) (hp : 0 < l.length) (hlast : m.getD (l.length - 1) 0 = l.getD (l.length - 1) 0) : Sup l (unL l m) := by
  refine ⟨unL_length h, unL_byt l m, ?_, fun q hq hq2 hf => ?_⟩
  · rw [unL_get h _ (by omega), hlast, or_self8 (byt_get hl _)]
  · rw [hasb_unL h hl hm hq2, hf]; rfl
/-- The keys of the second list, as many as the first has. -/
def cyc (n : Nat) (bs : List ByteArray) : List ByteArray := (List.range n).map fun i => bs.getD (i % bs.length) ByteArray.empty
theorem cyc_length (n : Nat) (bs : List ByteArray) : (cyc n bs).length = n := by simp [cyc]
theorem cyc_succ (n : Nat) (bs : List ByteArray) : cyc (n + 1) bs = cyc n bs ++ [bs.getD (n % bs.length) ByteArray.empty] := by simp [cyc, List.range_succ]
end Go.Proofs.Ytbmljdeenbokmaa
