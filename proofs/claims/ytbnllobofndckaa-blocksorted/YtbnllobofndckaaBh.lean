/-
  Copies of bytes: own, slices.Clone.
  Open, at bytes that were written; what a block tells.
  What Build says of its entries; the example of the document.
  lives: the document's first example.
  Mathematics of looking for a key; an entry that is whole is read from nothing.
-/
import Derived.Test.YtbnllobofndckaaCp
import Derived.Lib.SliceRun
import Derived.Test.YtbnllobofndckaaLk
namespace Go.Proofs.Ytbnllobofndckaa
open Go.RowKit Go.Maps
set_option linter.unusedVariables false
set_option linter.unusedSimpArgs false
theorem own_le {w : World} {base : Nat} {a : Option Addr} {n c : Nat} {l : List Int} (h : OwnB w base (.slice a n c) l) : n ≤ c := by
  rcases h with ⟨e, rfl⟩ | ⟨b, off, cap, e, h1, h2, h3, h4, h5, h6⟩
  · cases e; exact Nat.le_refl _
  · cases e; exact h3
set_option maxRecDepth 100000 in
set_option maxHeartbeats 1000000 in
/-- own: bytes in memory of their own. -/
theorem own_any {a : Option Addr} {len cap : Nat} {l : List Int} {w : World} (h : Arg w a len cap l) (hl : len ≤ 4194304) :
    Calls Try.prog 12 #[.slice a len cap] w fun e w' => ∃ av cv, e = .returned (.slice av len cv) ∧ len ≤ cv ∧ Arg w' av len cv l ∧ Below w.heap.size w w' := by
  obtain ⟨i0, hi, hz0, hz1, hz2⟩ := info_parts info5
  have hmk : ∀ W, (Instr.makeSlice 23 (.int .i64 0) (.int .i64 ((len : Int) + 2))).run Try.prog W = .ok (.slice (some ⟨W.heap.size, 0, none⟩) 0 (len + 2)) (W.alloc (.cells (mkZ (len + 2)) 5)) := fun W => by
    have := mkcap (len + 2) (by omega) W
    rw [show ((len + 2 : Nat) : Int) = (len : Int) + 2 by omega] at this
    exact this
  have hown := mkcap_own (len + 2) (by omega) w
  have hB0 : Below w.heap.size w (w.alloc (.cells (mkZ (len + 2)) 5)) := (Below.refl _ w).alloc (Nat.le_refl _) _
  have hsrc := (h.below hB0).src
  have HL : Hid (([] : List Int).length + l.length ≤ 140737488355328) := by show _ ≤ _; rw [h.1]; simp; omega
  have HLL : Hid (l.length = len) := h.1
  have HBT : Hid (∀ n ∈ l, 0 ≤ n ∧ n < 256) := h.2.1
  clear h
  go_enter Try.func12, Try.ntmps12
  go_wp2_with (refine OwnB.wpList_append (by rfl) _ _ 23 23 (by rfl) (by rfl) hown i0 Try.underlying23 hi hz0 hz1 hz2 _ (by rfl) l hsrc (by simp) HL.out ?_; intro v' w' h1 h2 h3)
  have h1' : OwnB w' w.heap.size v' l := h1
  obtain ⟨av, cv, rfl, hA⟩ := h1'.arg HBT.out (by rw [HLL.out]; omega)
  rw [HLL.out] at h1' hA ⊢
  go_ret
  first | exact ⟨av, cv, rfl, own_le h1', hA, hB0.grown h2 (by simp) (by intro k hk; cases hk; exact Nat.le_refl _)⟩ | exact ⟨av, ⟨cv, rfl⟩, own_le h1', hA, hB0.grown h2 (by simp) (by intro k hk; cases hk; exact Nat.le_refl _)⟩
set_option maxRecDepth 100000 in
set_option maxHeartbeats 1000000 in
/-- slices.Clone of bytes. -/
theorem clone_any {a : Option Addr} {len cap : Nat} {l : List Int} {w : World} (h : Arg w a len cap l) (hl : len ≤ 4194304) :
    Calls Try.prog 39 #[.slice a len cap] w fun e w' => ∃ av cv, e = .returned (.slice av len cv) ∧ len ≤ cv ∧ Arg w' av len cv l ∧ (∀ b o, av = some ⟨b, o, none⟩ → w.heap.size ≤ b) ∧ Below w.heap.size w w' := by
  obtain ⟨i0, hi, hz0, hz1, hz2⟩ := info_parts info5
  have hown := own_empty w
  have hB0 : Below w.heap.size w (w.alloc (.cells #[] 5)) := (Below.refl _ w).alloc (Nat.le_refl _) _
  have hsrc := (h.below hB0).src
  have HL : Hid (([] : List Int).length + l.length ≤ 140737488355328) := by show _ ≤ _; rw [h.1]; simp; omega
  have HLL : Hid (l.length = len) := h.1
  have HBT : Hid (∀ n ∈ l, 0 ≤ n ∧ n < 256) := h.2.1
  have hq := Lib.run_eql_slice_nil (P := Try.prog) w 23 5 a len cap 0 0 Try.underlying23
  cases a with
  | none =>
    have h0 : l = [] := by
      rcases h.2.2.2 with h | ⟨b, o, e, _⟩
      · exact h
      · cases e
    have hle : len = 0 := by rw [← h.1, h0]; rfl
    subst hle
    subst h0
    clear h
    go_enter Try.func39, Try.ntmps39
    go_wp2
    go_ret
    first | exact ⟨none, 0, rfl, Nat.le_refl _, ⟨rfl, by simp, by omega, .inl rfl⟩, (fun _ _ e => by cases e), Below.refl _ _⟩ | exact ⟨none, ⟨0, rfl⟩, Nat.le_refl _, ⟨rfl, by simp, by omega, .inl rfl⟩, (fun _ _ e => by cases e), Below.refl _ _⟩
  | some ad =>
  clear h
  go_enter Try.func39, Try.ntmps39
  go_wp2_with (refine OwnB.wpList_append (by rfl) _ _ 23 23 (by rfl) (by rfl) hown i0 Try.underlying23 hi hz0 hz1 hz2 _ (by rfl) l hsrc (by simp) HL.out ?_; intro v' w' h1 h2 h3)
  have h1' : OwnB w' w.heap.size v' l := h1
  obtain ⟨av, cv, rfl, hA⟩ := h1'.arg HBT.out (by rw [HLL.out]; omega)
  rw [HLL.out] at h1' hA ⊢
  go_ret
  first | exact ⟨av, cv, rfl, own_le h1', hA, (fun b o e => by subst e; exact (h1'.lt b rfl).1), hB0.grown h2 (by simp) (by intro k hk; cases hk; exact Nat.le_refl _)⟩ | exact ⟨av, ⟨cv, rfl⟩, own_le h1', hA, (fun b o e => by subst e; exact (h1'.lt b rfl).1), hB0.grown h2 (by simp) (by intro k hk; cases hk; exact Nat.le_refl _)⟩
end Go.Proofs.Ytbnllobofndckaa
namespace Go.Proofs.Ytbnllobofndckaa
open Go.RowKit
set_option linter.unusedVariables false
set_option linter.unusedSimpArgs false
/-- What is asked of entries: they rise, and can be written. -/
structure Srt (how : Int) (l : List Ent) : Prop where
  hw : isHw how = true
  fit : Fit l
  inc : ∀ k p e, l[k]? = some p → l[k + 1]? = some e → ordE how p e < 0
  len : l.length ≤ 65536
/-- A block in memory. -/
structure Bl (w : World) (xb : Nat) (how : Int) (r : Nat) (l : List Ent) (ba : Option Addr) (LB bcap : Nat) (pa : Option Addr) (PN pc N : Nat) : Prop where
  blk : Blk w xb 76 [.int .i64 how, .slice ba LB bcap, .slice pa PN pc, .int .i64 N]
  arg : Arg w ba LB bcap (bt r l l.length)
  cap : LB ≤ bcap
  big : LB ≤ 4194304
  rd : RdN w pa (plc r l)
  pl : (plc r l).length = PN
  pcap : PN ≤ pc
  n : l.length = N
theorem rdn_below {w w' : World} {a : Option Addr} {l : List Nat} (h : RdN w a l) (hb : Below w.heap.size w w') : RdN w' a l := by
  rcases h with h | ⟨g, o, e, h⟩
  · exact .inl h
  · refine .inr ⟨g, o, e, fun j x hx i v hv => ?_⟩
    have := h j x hx i v hv
    rw [hb.cell (G.cell_lt this)]; exact this
theorem Bl.below {w w' : World} {xb : Nat} {how : Int} {r : Nat} {l : List Ent} {ba : Option Addr} {LB bcap : Nat} {pa : Option Addr} {PN pc N : Nat} (h : Bl w xb how r l ba LB bcap pa PN pc N) (hb : Below w.heap.size w w') : Bl w' xb how r l ba LB bcap pa PN pc N :=
  ⟨h.blk.upd (S := Non) (Upd.ofBelow hb) id, h.arg.below hb, h.cap, h.big, rdn_below h.rd hb, h.pl, h.pcap, h.n⟩
set_option maxRecDepth 100000 in
set_option maxHeartbeats 1000000 in
theorem open_any {w : World} {how : Int} {a : Option Addr} {LEN cap : Nat} {r : Nat} {l : List Ent} (hA : Arg w a LEN cap (wr8 r l)) (hcap : LEN ≤ cap) (hS : Srt how l) (hr : 1 ≤ r) (hL : LEN ≤ 4194304) :
    Calls Try.prog 15 #[.int .i64 how, .slice a LEN cap] w fun e w' => ∃ xb ba LB bcap pa PN pc N, e = .returned (.tuple #[ptr xb, .int .i64 0]) ∧ Bl w' xb how r l ba LB bcap pa PN pc N ∧ Below w.heap.size w w' := by
  obtain ⟨LB, hLB⟩ : ∃ LB, (bt r l l.length).length = LB := ⟨_, rfl⟩
  obtain ⟨PN, hPN⟩ : ∃ PN, (plc r l).length = PN := ⟨_, rfl⟩
  have e1 : wr8 r l = bt r l l.length ++ (pbs (plc r l) ++ byts 4 (PN : Nat)) := by rw [wr8_plc, hPN, List.append_assoc]
  have hlen : LEN = LB + (4 * PN + 4) := by
    rw [← hA.1, e1, List.length_append, List.length_append, pbs_len, byts_len, hLB, hPN]
  have HLk := look_any hA hcap hS.hw hS.fit hS.inc hr hS.len hL hLB hPN
  have A3 : Arg w a LB cap (bt r l l.length) := by
    have := hA.hi (m := LB) (by omega)
    rwa [e1, List.take_left' hLB] at this
  obtain ⟨N, hN⟩ : ∃ N, Hid (l.length = N) := ⟨_, rfl⟩
  have HCl : Hid (∀ W, Below w.heap.size w W → Calls Try.prog 39 #[.slice a LB cap] W fun e w' => ∃ av cv, e = .returned (.slice av LB cv) ∧ LB ≤ cv ∧ Arg w' av LB cv (bt r l l.length) ∧ (∀ b o, av = some ⟨b, o, none⟩ → W.heap.size ≤ b) ∧ Below W.heap.size W w') := fun W hW => clone_any (A3.below hW) (by omega)
  have HE : Hid ((bt r l l.length).length = LB ∧ (plc r l).length = PN ∧ LB ≤ 4194304) := ⟨hLB, hPN, by omega⟩
  rw [hN.out] at HLk
  clear hA hcap hS hr hL hLB hPN e1 hlen A3
  go_enter Try.func15, Try.ntmps15
  go_wp2_with (first
    | (go_at_call 38; refine HLk.mono ?_; rintro e w1 ⟨pa, pc, rfl, r1, b1⟩
       have hx0 := Blk.new w1 76 [.int .i64 how, .slice a LB cap, .slice pa PN pc, .int .i64 N]
       have hbx : Below w.heap.size w (w1.alloc (.cells #[.int .i64 how, .slice a LB cap, .slice pa PN pc, .int .i64 N] 76)) := b1.alloc b1.size _
       have HX : Hid (Blk (w1.alloc (.cells #[.int .i64 how, .slice a LB cap, .slice pa PN pc, .int .i64 N] 76)) w1.heap.size 76 [.int .i64 how, .slice a LB cap, .slice pa PN pc, .int .i64 N] ∧ Below w.heap.size w (w1.alloc (.cells #[.int .i64 how, .slice a LB cap, .slice pa PN pc, .int .i64 N] 76)) ∧ RowN (w1.alloc (.cells #[.int .i64 how, .slice a LB cap, .slice pa PN pc, .int .i64 N] 76)) w.heap.size (.slice pa PN pc) (plc r l) ∧ w.heap.size ≤ w1.heap.size) := ⟨hx0, hbx, row_upd r1 ((Upd.refl Non _).alloc _) (fun _ _ h => h), b1.size⟩
       clear r1 b1 hx0 hbx)
    | (go_at_call 39; refine (HCl.out _ HX.out.2.1).mono ?_; rintro e w2 ⟨av, cv, rfl, c1, c2, c4, c3⟩
       have U2 := Upd.ofBelow (S := Non) c3
       have X2 := HX.out.1.upd U2 id
       have R2 := row_upd HX.out.2.2.1 U2 (fun _ _ h => h)
       have d0 := X2.cell1 0 _ rfl
       have d1 := X2.cell1 1 _ rfl
       have d2 := X2.cell1 2 _ rfl
       have d3 := X2.cell1 3 _ rfl
       have f1 := X2.frozen 1
       have H2 : Hid (Blk w2 w1.heap.size 76 [.int .i64 how, .slice a LB cap, .slice pa PN pc, .int .i64 N] ∧ Below w.heap.size w w2 ∧ RowN w2 w.heap.size (.slice pa PN pc) (plc r l) ∧ LB ≤ cv ∧ Arg w2 av LB cv (bt r l l.length) ∧ w.heap.size ≤ w1.heap.size ∧ (∀ b o, av = some ⟨b, o, none⟩ → b ≠ w1.heap.size)) := ⟨X2, HX.out.2.1.trans (c3.mono HX.out.2.1.size), R2, c1, c2, HX.out.2.2.2, fun b o e eb => by
         have h9 := c4 b o e
         have h8 := HX.out.1.lt
         omega⟩
       clear X2 R2 c1 c2 c3 c4 U2))
  have U3 : Upd (fun j => j = w1.heap.size) w2 (w2.setCell ⟨w1.heap.size, 1, none⟩ (.slice av LB cv)) := (Upd.refl (fun j => j = w1.heap.size) _).setCell (p := ⟨w1.heap.size, 1, none⟩) (fun _ => rfl) _
  have R3 := row_upd H2.out.2.2.1 U3 (fun k hk hs => G.row_ne H2.out.2.2.1 H2.out.1 (by decide) k hk hs)
  have hbl : Bl (w2.setCell ⟨w1.heap.size, 1, none⟩ (.slice av LB cv)) w1.heap.size how r l av LB cv pa PN pc N := ⟨H2.out.1.set 1 (.slice av LB cv), H2.out.2.2.2.2.1.upd U3 (fun b o e => H2.out.2.2.2.2.2.2 b o e), H2.out.2.2.2.1, HE.out.2.2, rown_rd2 R3, HE.out.2.1, by
    obtain ⟨_, _, e, h, _⟩ := rown_rd R3
    injection e with _ _ e3
    rw [e3, ← HE.out.2.1]; exact h, hN.out⟩
  have hbf := H2.out.2.1.trans (U3.below (fun j hj => Nat.lt_of_lt_of_le hj H2.out.2.1.size) (fun j hj => by have := H2.out.2.2.2.2.2.1; omega))
  go_ret2
  exact ⟨_, _, _, _, _, _, _, _, rfl, hbl, hbf⟩
set_option maxHeartbeats 1000000 in
theorem len_any {w : World} {xb : Nat} {how : Int} {r : Nat} {l : List Ent} {ba : Option Addr} {LB bcap : Nat} {pa : Option Addr} {PN pc N : Nat} (h : Bl w xb how r l ba LB bcap pa PN pc N) :
    Calls Try.prog 43 #[ptr xb] w fun e w' => e = .returned (.int .i64 N) ∧ w' = w := by
  have c3 := h.blk.cell1 3 _ rfl
  clear h
  go_enter Try.func43, Try.ntmps43
  go_wp2
  go_ret
  first | exact ⟨rfl, rfl⟩ | exact rfl
set_option maxHeartbeats 1000000 in
theorem restarts_any {w : World} {xb : Nat} {how : Int} {r : Nat} {l : List Ent} {ba : Option Addr} {LB bcap : Nat} {pa : Option Addr} {PN pc N : Nat} (h : Bl w xb how r l ba LB bcap pa PN pc N) :
    Calls Try.prog 19 #[ptr xb] w fun e w' => e = .returned (.int .i64 PN) ∧ w' = w := by
  have c2 := h.blk.cell1 2 _ rfl
  clear h
  go_enter Try.func19, Try.ntmps19
  go_wp2
  go_ret
  first | exact ⟨rfl, rfl⟩ | exact rfl
set_option maxHeartbeats 1000000 in
theorem entries_any {w : World} {xb : Nat} {how : Int} {r : Nat} {l : List Ent} {ba : Option Addr} {LB bcap : Nat} {pa : Option Addr} {PN pc N : Nat} (h : Bl w xb how r l ba LB bcap pa PN pc N) (hS : Srt how l) :
    Calls Try.prog 18 #[ptr xb] w fun e w' => ∃ a' c', e = .returned (.slice a' N c') ∧ RdE w' a' l ∧ Below w.heap.size w w' := by
  have c1 := h.blk.cell1 1 _ rfl
  have HE := entriesOf_any h.arg h.cap hS.fit hS.len h.big
  rw [h.n] at HE
  clear h
  go_enter Try.func18, Try.ntmps18
  go_wp2_with (go_at_call 47; refine HE.mono ?_; rintro e w1 ⟨a', c', rfl, h1, h2⟩)
  go_ret
  first | exact ⟨a', c', rfl, h1, h2⟩ | exact ⟨a', ⟨c', rfl⟩, h1, h2⟩
end Go.Proofs.Ytbnllobofndckaa
namespace Go.Proofs.Ytbnllobofndckaa
open Go.RowKit
set_option linter.unusedVariables false
set_option linter.unusedSimpArgs false
theorem srt_of {how r : Int} {l : List Ent} (h : bldE how r l = 0) (hs : ∀ e ∈ l, 0 ≤ e.s) : Srt how l ∧ 1 ≤ r ∧ r ≤ 1024 ∧ (wr8 r.toNat l).length ≤ 4194304 ∧ bldB how r l = wr8 r.toNat l := by
  have hB : bldB how r l = wr8 r.toNat l := by unfold bldB; rw [if_pos h]
  unfold bldE at h
  split at h
  · cases h
  · next h1 =>
    split at h
    · next h2 => exact absurd h h2
    · next h2 =>
      split at h
      · next h3 => exact absurd h h3
      · next h3 =>
        split at h
        · cases h
        · next h4 =>
          have h2' : cntE r l.length = 0 := by simpa using h2
          have h3' : bldF how l = 0 := by simpa using h3
          have hc : 1 ≤ r ∧ r ≤ 1024 ∧ l.length ≤ 65536 := by
            unfold cntE at h2'
            split at h2'
            · omega
            · split at h2' <;> omega
          refine ⟨⟨by simpa using h1, fit_bld h3' hs, fun k p e hp he => ?_, hc.2.2⟩, hc.1, hc.2.1, by omega, hB⟩
          have hk := (List.getElem?_eq_some_iff.1 he).1
          have hz := frm_zero h3' (k + 1) (Nat.zero_le _) (by omega)
          unfold erB at hz
          rw [he] at hz
          simp only at hz
          split at hz
          · split at hz
            · cases hz
            · next ho =>
              have e1 : ordB how l (k + 1) = (match l[k]?, l[k + 1]? with | some p, some e => decide (0 ≤ ordE how p e) | _, _ => false) := rfl
              rw [e1, hp, he] at ho
              simp only [decide_eq_true_eq] at ho
              omega
          · next hn => exact absurd hz hn
theorem app_bd {l m : List Int} (h : ∀ n ∈ l, 0 ≤ n ∧ n < 256) (k : ∀ n ∈ m, 0 ≤ n ∧ n < 256) : ∀ n ∈ l ++ m, 0 ≤ n ∧ n < 256 := fun n hn => by
  rcases List.mem_append.1 hn with h1 | h1
  · exact h n h1
  · exact k n h1
theorem vL_bd : ∀ (f : Nat) (x : Int), 0 ≤ x → x < 256 * 128 ^ f → ∀ n ∈ vL f x, 0 ≤ n ∧ n < 256
  | 0, x, hx, hl, n, hn => by simp [vL] at hn; omega
  | f + 1, x, hx, hl, n, hn => by
    unfold vL at hn
    split at hn
    · simp at hn; omega
    · rcases List.mem_cons.1 hn with rfl | hn
      · omega
      · refine vL_bd f _ (by omega) ?_ n hn
        rw [Int.pow_succ] at hl
        generalize (128 : Int) ^ f = q at hl ⊢
        omega
theorem vL10 (x : Nat) (h : x ≤ 1099511627776) : ∀ n ∈ vL 10 (x : Int), 0 ≤ n ∧ n < 256 := vL_bd 10 x (by omega) (by omega)
theorem kA_len {l : List Ent} (hf : Fit l) (i : Nat) : (kA l i).length ≤ 1032 := by
  unfold kA
  split
  · next e he => exact (kb_len (hf e (List.mem_of_getElem? he)).1).1
  · simp
theorem vA_len {l : List Ent} (hf : Fit l) (i : Nat) : (vA l i).size ≤ 16384 := by
  unfold vA
  split
  · next e he => exact (hf e (List.mem_of_getElem? he)).2.2
  · show (0 : Nat) ≤ _; omega
theorem wA_bd {r : Nat} {l : List Ent} (hf : Fit l) (i : Nat) : ∀ n ∈ wA r l i, 0 ≤ n ∧ n < 256 := by
  have h1 := kA_len hf i
  have h2 := vA_len hf i
  have h3 := cA_le r l i
  unfold wA pcB
  exact app_bd (app_bd (app_bd (app_bd (vL10 _ (by omega)) (vL10 _ (by rw [List.length_drop]; omega))) (vL10 _ (by omega))) (fun n hn => kA_bd l i n (List.mem_of_mem_drop hn))) (sb_bd _)
theorem bt_bd {r : Nat} {l : List Ent} (hf : Fit l) : ∀ i, ∀ n ∈ bt r l i, 0 ≤ n ∧ n < 256
  | 0 => by simp [bt]
  | i + 1 => app_bd (bt_bd hf i) (wA_bd hf i)
theorem wr8_bd {r : Nat} {l : List Ent} (hf : Fit l) : ∀ n ∈ wr8 r l, 0 ≤ n ∧ n < 256 := by
  rw [wr8_plc]
  refine app_bd (app_bd (bt_bd hf _) (fun n hn => ?_)) (byts_bd _ _)
  obtain ⟨x, _, hx⟩ := List.mem_flatMap.1 hn
  exact byts_bd _ _ n hx
/-- The document's first example. -/
def ex8 : List Ent := [⟨⟨#[97]⟩, 9, 1, ⟨#[120]⟩⟩, ⟨⟨#[97, 98]⟩, 9, 1, ⟨#[121]⟩⟩]
def wt8 : ByteArray := ⟨#[0, 9, 1, 97, 1, 9, 0, 0, 0, 0, 0, 0, 120, 1, 9, 1, 98, 1, 9, 0, 0, 0, 0, 0, 0, 121, 0, 0, 0, 0, 1, 0, 0, 0]⟩
set_option maxRecDepth 100000 in
theorem ex_err : bldE 0 16 ex8 = 0 := by kernel_rfl
set_option maxRecDepth 100000 in
theorem ex_sb : sb wt8 = wr8 16 ex8 := by kernel_rfl
end Go.Proofs.Ytbnllobofndckaa
namespace Go.Proofs.Ytbnllobofndckaa
open Go.RowKit
set_option linter.unusedVariables false
set_option linter.unusedSimpArgs false
set_option maxRecDepth 100000 in
theorem ex_str : bstr (bldB 0 16 ex8) = wt8 := by kernel_rfl
abbrev exC : Array Value := #[.string ⟨#[97]⟩, .int .u64 9, .int .i64 1, .string ⟨#[120]⟩, .string ⟨#[97, 98]⟩, .int .u64 9, .int .i64 1, .string ⟨#[121]⟩]
theorem ex_rd (w : World) : RdE (w.alloc (.cells exC 48)) (some ⟨w.heap.size, 0, none⟩) ex8 := by
  have hB := Blk.new w 48 exC.toList
  refine .inr ⟨w.heap.size, 0, rfl, by simp, fun j e he => ?_⟩
  match j, he with
  | 0, he =>
    cases he
    exact ⟨hB.cell1 0 _ rfl, hB.cell1 1 _ rfl, hB.cell1 2 _ rfl, hB.cell1 3 _ rfl⟩
  | 1, he =>
    cases he
    exact ⟨hB.cell1 4 _ rfl, hB.cell1 5 _ rfl, hB.cell1 6 _ rfl, hB.cell1 7 _ rfl⟩
  | j + 2, he => simp [ex8] at he
theorem ex_s : ∀ e ∈ ex8, 0 ≤ e.s := by
  intro e he
  simp [ex8] at he
  rcases he with rfl | rfl <;> decide
set_option maxRecDepth 100000 in
set_option maxHeartbeats 1000000 in
theorem lives_any (w : World) : Calls Try.prog 17 #[] w fun e w' => e = .returned (.bool true) ∧ Below w.heap.size w w' := by
  have HR : Hid (RdE (w.alloc (.cells exC 48)) (some ⟨w.heap.size, 0, none⟩) ex8 ∧ Below w.heap.size w (w.alloc (.cells exC 48))) := ⟨ex_rd w, (Below.refl _ _).alloc (Nat.le_refl _) _⟩
  have HBu : Hid (Calls Try.prog 7 #[.int .i64 0, .int .i64 16, .slice (some ⟨w.heap.size, 0, none⟩) 2 2] (w.alloc (.cells exC 48)) fun e w' => ∃ v, e = .returned (.tuple #[v, .int .i64 0]) ∧ OwnB w' w.heap.size v (bldB 0 16 ex8) ∧ Below w.heap.size w w') := by
    refine (build_any HR.out.1 ex_s 0 16 2 (by simp [ex8])).mono ?_
    rintro e w' ⟨v, rfl, h1, h2⟩
    rw [ex_err]
    exact ⟨v, rfl, h1.mono (by simp), HR.out.2.trans (h2.mono (by simp))⟩
  have hcv : ∀ W : World, (convert 9 23 (.string wt8)).run Try.prog W = .ok (.slice (some ⟨W.heap.size, 0, none⟩) 34 (grownCap W 34 0 5)) (cvW W wt8) := fun W => cvt wt8 W
  have HOp : Hid (∀ W : World, Calls Try.prog 15 #[.int .i64 0, .slice (some ⟨W.heap.size, 0, none⟩) 34 (grownCap W 34 0 5)] (cvW W wt8) fun e w' => ∃ xb ba LB bcap pa PN pc, e = .returned (.tuple #[ptr xb, .int .i64 0]) ∧ Bl w' xb 0 16 ex8 ba LB bcap pa PN pc 2 ∧ Below W.heap.size W w') := fun W => by
    have ho := cvW_own wt8 W (by show (34 : Nat) ≤ maxLen; unfold maxLen; omega)
    rw [ex_sb] at ho
    have hsr := srt_of ex_err ex_s
    obtain ⟨a, cap, e1, hA⟩ := ho.arg (wr8_bd hsr.1.fit) (by have h9 : (wr8 16 ex8).length ≤ 4194304 := hsr.2.2.2.1; omega)
    have hl : (wr8 16 ex8).length = 34 := by rw [← ex_sb]; rfl
    rw [hl] at e1 hA
    unfold cvV at e1
    injection e1 with e2 e3 e4
    subst e2
    subst e4
    refine (open_any hA ?_ hsr.1 (by decide) (by decide)).mono ?_
    · exact grownCap_ge W 34 0 5
    · rintro e w' ⟨xb, ba, LB, bcap, pa, PN, pc, N, rfl, h1, h2⟩
      obtain rfl : 2 = N := h1.n
      exact ⟨xb, ba, LB, bcap, pa, PN, pc, rfl, h1, (cvW_below wt8 W).trans (h2.mono (cvW_below wt8 W).size)⟩
  have HSt : Hid (∀ (W : World) (v : Value), OwnB W w.heap.size v (bldB 0 16 ex8) → (convert 23 9 v).run Try.prog W = .ok (.string wt8) W) := fun W v h => by
    have := h.run_string 23 9 Try.underlying23 Try.underlying5 Try.underlying9
    rw [ex_str] at this; exact this
  clear HR
  unfold wt8 at hcv HSt
  go_enter Try.func17, Try.ntmps17
  go_wp2_with (first
    | (go_at_call 7; refine HBu.out.mono ?_; rintro e w2 ⟨v2, rfl, h1, h2⟩)
    | (go_at_call 15; refine (HOp.out _).mono ?_; rintro e w3 ⟨xb, ba, LB, bcap, pa, PN, pc, rfl, h3, h4⟩
       have hst := HSt.out w3 v2 (h1.below h4 (Nat.le_refl _))
       have HLn := len_any h3
       have hbf := h2.trans (h4.mono h2.size))
    | (go_at_call 43; refine HLn.mono ?_; rintro e w5 ⟨rfl, hw⟩; have hw1 := hw.symm; subst hw1; clear hw))
  go_ret
  exact ⟨rfl, hbf⟩
end Go.Proofs.Ytbnllobofndckaa
namespace Go.Proofs.Ytbnllobofndckaa
open Go.RowKit
set_option linter.unusedVariables false
set_option linter.unusedSimpArgs false
theorem ordE_neg (how : Int) (x y : Ent) : ordE how y x = - ordE how x y := ordK_neg how x.u x.s x.k y.u y.s y.k
theorem ordE_strict {how : Int} {x y z : Ent} (h1 : ordE how x y < 0) (h2 : ordE how y z ≤ 0) : ordE how x z < 0 := ordK_strict how x.u x.s x.k y.u y.s y.k z.u z.s z.k h1 h2
theorem ordE_strict2 {how : Int} {x y z : Ent} (h1 : ordE how x y ≤ 0) (h2 : ordE how y z < 0) : ordE how x z < 0 := by
  have a := ordE_neg how y z
  have b := ordE_neg how x y
  have c := ordE_neg how x z
  have d := ordE_strict (how := how) (x := z) (y := y) (z := x)
  rcases Int.lt_or_le (ordE how x z) 0 with h | h
  · exact h
  · have h3 : ordE how z x ≤ 0 := by omega
    have h4 := ordE_strict h2 h3
    omega
theorem inc_lt {how : Int} {l : List Ent} (h : Srt how l) : ∀ (d i : Nat) (x y : Ent), l[i]? = some x → l[i + d + 1]? = some y → ordE how x y < 0
  | 0, i, x, y, hx, hy => h.inc i x y hx hy
  | d + 1, i, x, y, hx, hy => by
    have hlt := (List.getElem?_eq_some_iff.1 hy).1
    obtain ⟨z, hz⟩ : ∃ z, l[i + d + 1]? = some z := ⟨_, List.getElem?_eq_getElem (by omega)⟩
    have h1 := inc_lt h d i x z hx hz
    have h2 := h.inc (i + d + 1) z y hz hy
    exact ordE_strict h1 (by omega)
theorem srt_lt {how : Int} {l : List Ent} (h : Srt how l) {i j : Nat} {x y : Ent} (hij : i < j) (hx : l[i]? = some x) (hy : l[j]? = some y) : ordE how x y < 0 :=
  inc_lt h (j - i - 1) i x y hx (by rw [show i + (j - i - 1) + 1 = j by omega]; exact hy)
/-- How many are ahead of a key: the first that is not. -/
def ahd (how : Int) (l : List Ent) (K : Ent) : Nat := l.findIdx (fun e => decide (0 ≤ ordE how e K))
theorem findIdx_mono {α : Type} {p : α → Bool} {l : List α} (hm : ∀ (i j : Nat) (x y : α), i < j → l[i]? = some x → l[j]? = some y → p x = true → p y = true) {i : Nat} {x : α} (hx : l[i]? = some x) : p x = decide (l.findIdx p ≤ i) := by
  obtain ⟨hi, rfl⟩ := List.getElem?_eq_some_iff.1 hx
  rcases Nat.lt_or_ge i (l.findIdx p) with h | h
  · have h1 := List.not_of_lt_findIdx h
    rw [decide_eq_false (by omega)]
    simpa using h1
  · rw [decide_eq_true h]
    have hlt : l.findIdx p < l.length := Nat.lt_of_le_of_lt h hi
    have h2 : p l[l.findIdx p] = true := List.findIdx_getElem (w := hlt)
    rcases Nat.lt_or_ge (l.findIdx p) i with h3 | h3
    · exact hm _ i _ _ h3 (List.getElem?_eq_getElem hlt) (List.getElem?_eq_getElem hi) h2
    · have : l.findIdx p = i := by omega
      simp only [this] at h2
      exact h2
theorem ahd_spec {how : Int} {l : List Ent} (h : Srt how l) (K : Ent) {i : Nat} {x : Ent} (hx : l[i]? = some x) : decide (0 ≤ ordE how x K) = decide (ahd how l K ≤ i) := by
  refine findIdx_mono (p := fun e => decide (0 ≤ ordE how e K)) (l := l) (fun i j x y hij hx hy hp => ?_) hx
  have h1 := srt_lt h hij hx hy
  have h2 : 0 ≤ ordE how x K := by simpa using hp
  have h3 := ordE_neg how x K
  have h4 : ordE how K x ≤ 0 := by omega
  have h5 := ordE_strict2 h4 h1
  have h6 := ordE_neg how y K
  simp only [decide_eq_true_eq]
  omega
theorem ahd_le (how : Int) (l : List Ent) (K : Ent) : ahd how l K ≤ l.length := List.findIdx_le_length
/-- The whole entries, by their number. -/
theorem wn_mul (r : Nat) (hr : 1 ≤ r) (j : Nat) : wn r (j * r) = j := by
  rw [wn_div r hr, show j * r + r - 1 = r * j + (r - 1) by rw [Nat.mul_comm]; omega, Nat.mul_add_div (by omega), Nat.div_eq_of_lt (by omega)]; rfl
theorem plc_at {r : Nat} (hr : 1 ≤ r) {l : List Ent} {j : Nat} (hj : j * r < l.length) : (plc r l)[j]? = some (bt r l (j * r)).length := by
  have hp : plc r l = pI r l l.length := by unfold plc; rw [if_neg (by omega)]
  have := pI_here r l l.length (j * r) hj (Nat.mul_mod_left j r)
  rw [wn_mul r hr] at this
  rw [hp]; exact this
theorem plc_in {r : Nat} (hr : 1 ≤ r) {l : List Ent} (hl : l.length ≠ 0) {j : Nat} (hj : j < (plc r l).length) : j * r < l.length := by
  rw [plc_len r hr] at hj
  have h1 : 1 ≤ (l.length + r - 1) / r := by rw [Nat.le_div_iff_mul_le (by omega)]; omega
  have h2 : j < (l.length + r - 1) / r := by omega
  have h3 : (j + 1) * r ≤ l.length + r - 1 := (Nat.le_div_iff_mul_le (by omega)).1 h2
  rw [Nat.add_mul] at h3
  omega
/-- Whether the whole entry with a number is behind a key. -/
def wbh (how : Int) (r : Nat) (l : List Ent) (K : Ent) (j : Nat) : Bool := match l[j * r]? with
  | some e => decide (0 < ordE how e K)
  | none => true
/-- The first whole entry that is behind a key. -/
def bhn (how : Int) (r : Nat) (l : List Ent) (K : Ent) : Nat := (List.range (plc r l).length).findIdx (wbh how r l K)
theorem bhn_le (how : Int) (r : Nat) (l : List Ent) (K : Ent) : bhn how r l K ≤ (plc r l).length := by
  have := List.findIdx_le_length (p := wbh how r l K) (xs := List.range (plc r l).length)
  rw [List.length_range] at this
  exact this
theorem bhn_spec {how : Int} {r : Nat} (hr : 1 ≤ r) {l : List Ent} (h : Srt how l) (hl : l.length ≠ 0) (K : Ent) {j : Nat} (hj : j < (plc r l).length) : wbh how r l K j = decide (bhn how r l K ≤ j) := by
  have hx : (List.range (plc r l).length)[j]? = some j := List.getElem?_range hj
  refine findIdx_mono (p := wbh how r l K) (l := List.range (plc r l).length) (fun i k x y hik hx hy hp => ?_) hx
  obtain ⟨hi1, rfl⟩ : i < (plc r l).length ∧ x = i := by
    have h1 := (List.getElem?_eq_some_iff.1 hx).1
    rw [List.length_range] at h1
    rw [List.getElem?_range h1] at hx
    exact ⟨h1, by cases hx; rfl⟩
  obtain ⟨hk1, rfl⟩ : k < (plc r l).length ∧ y = k := by
    have h1 := (List.getElem?_eq_some_iff.1 hy).1
    rw [List.length_range] at h1
    rw [List.getElem?_range h1] at hy
    exact ⟨h1, by cases hy; rfl⟩
  have hi2 := plc_in hr hl hi1
  have hk2 := plc_in hr hl hk1
  unfold wbh at hp ⊢
  rw [List.getElem?_eq_getElem hi2] at hp
  rw [List.getElem?_eq_getElem hk2]
  simp only [decide_eq_true_eq] at hp ⊢
  have hlt : x * r < y * r := Nat.mul_lt_mul_of_pos_right hik (by omega)
  have h1 := srt_lt h hlt (List.getElem?_eq_getElem hi2) (List.getElem?_eq_getElem hk2)
  have h3 := ordE_neg how l[x * r] K
  have h4 := ordE_neg how l[y * r] K
  have h5 := ordE_strict (how := how) (x := K) (y := l[x * r]) (z := l[y * r]) (by omega) (by omega)
  omega
/-- Where reading begins: no entry ahead of it is asked for. -/
def bgn (how : Int) (r : Nat) (l : List Ent) (K : Ent) : Nat := (bhn how r l K - 1) * r
theorem bgn_ahd {how : Int} {r : Nat} (hr : 1 ≤ r) {l : List Ent} (h : Srt how l) (hl : l.length ≠ 0) (K : Ent) : bgn how r l K ≤ ahd how l K ∧ bgn how r l K < l.length := by
  have hb := bhn_le how r l K
  have hpl : 1 ≤ (plc r l).length := by rw [plc_len r hr]; omega
  unfold bgn
  rcases Nat.eq_zero_or_pos (bhn how r l K) with h0 | h0
  · rw [h0, Nat.zero_sub, Nat.zero_mul]; omega
  · have hj : bhn how r l K - 1 < (plc r l).length := by omega
    have h1 := bhn_spec hr h hl K hj
    have h2 := plc_in hr hl hj
    rw [decide_eq_false (by omega)] at h1
    unfold wbh at h1
    rw [List.getElem?_eq_getElem h2] at h1
    simp only [decide_eq_false_iff_not] at h1
    refine ⟨?_, h2⟩
    rcases Nat.lt_or_ge (ahd how l K) ((bhn how r l K - 1) * r) with h3 | h3
    · exfalso
      have h4 := ahd_le how l K
      have h5 : ahd how l K < l.length := by omega
      have h6 := ahd_spec h K (List.getElem?_eq_getElem h5)
      rw [decide_eq_true (Nat.le_refl _), decide_eq_true_eq] at h6
      have h7 := srt_lt h h3 (List.getElem?_eq_getElem h5) (List.getElem?_eq_getElem h2)
      have h8 := ordE_strict h7 (by omega : ordE how l[(bhn how r l K - 1) * r] K ≤ 0)
      omega
    · exact h3
/-- An entry that is written whole is read, whatever was read ahead of it. -/
theorem next_wh {os bs : Nat} {w : World} {rb : Nat} {r : Nat} {l : List Ent} {i : Nat} {e : Ent} (he : l[i]? = some e) (hi0 : i % r = 0) (hf : Fit l) (hl : (bt r l l.length).length ≤ 1099511627776) {ra : Option Addr} {rc : Nat} {kv : Value} {u : ByteArray} {s k : Int} {vv : Value} (h : Rst os bs w rb (rs r l i) [] ra rc kv u s k vv) :
    Calls Try.prog 54 #[ptr rb] w fun x w' => x = .returned (.int .i64 (cA r l i)) ∧ ∃ kv' rx cx ry cy, Rst os bs w' rb (rs r l (i + 1)) (kP l (i + 1)) ry cy kv' e.u e.s e.k (.slice rx e.v.size cx) ∧ Arg w' rx e.v.size cx (sb e.v) ∧ Upd (fun j => j = rb ∨ kv.ownBlock = some j) w w' := by
  have hi : i < l.length := (List.getElem?_eq_some_iff.1 he).1
  have hm := hf e (List.mem_of_getElem? he)
  have hrl := rs_len (r := r) (l := l) (i := i) (by omega)
  have hX := nx_wA (r := r) he hf (rs r l (i + 1))
  rw [← rs_step hi] at hX
  obtain ⟨d1, d2, d3, d4⟩ := kb_dec hm.1 hm.2.1
  have hc : cA r l i = 0 := by unfold cA; rw [if_pos hi0]
  have hk := hX.key
  rw [hc, List.take_zero, List.nil_append] at hk
  have := next_ok h (cm := cA r l i) (ln := e.kb.length - cA r l i) (vn := e.v.size) hX.rd hX.le (by rw [hc]; exact Nat.le_refl _) (by simp) (by omega) hX.len hm.2.2 (by simp) (K2 := e.kb) (by rw [hc, List.take_nil, List.nil_append]; exact hk) d1 (by rw [d2, d3, d4]; exact hm.1)
  rw [d2, d3, d4, hX.val, hX.rest] at this
  have ek : e.kb = kP l (i + 1) := (kA_at he).symm
  rw [ek] at this
  exact this
end Go.Proofs.Ytbnllobofndckaa
