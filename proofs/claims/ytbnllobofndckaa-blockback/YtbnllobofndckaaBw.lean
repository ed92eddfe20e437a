/-
  Open, at bytes that were written; what a block tells.
  What Build says of its entries; the example of the document.
  lives: the document's first example.
  The law BlockBack.
-/
import Derived.Test.YtbnllobofndckaaLk
import Derived.Test.YtbnllobofndckaaCo
import Derived.Test.YtbnllobofndckaaSm
namespace Go.Proofs.Ytbnllobofndckaa
open Go.RowKit
set_option linter.unusedVariables false
set_option linter.unusedSimpArgs false
/-- What is asked of entries: they rise, and can be written. -/
structure Srt (how : Int) (l : List Ent) : Prop where
  hw : isHw how = true
  fit : Fit l
  inc : ∀ k p e, l[k]? = some p → l[k + 1]? = some e → ordE how p e < 0
  len : l.length ≤ 65536
/-- A block in memory. -/
structure Bl (w : World) (xb : Nat) (how : Int) (r : Nat) (l : List Ent) (ba : Option Addr) (LB bcap : Nat) (pa : Option Addr) (PN pc N : Nat) : Prop where
  blk : Blk w xb 76 [.int .i64 how, .slice ba LB bcap, .slice pa PN pc, .int .i64 N]
  arg : Arg w ba LB bcap (bt r l l.length)
  cap : LB ≤ bcap
  big : LB ≤ 4194304
  rd : RdN w pa (plc r l)
  pl : (plc r l).length = PN
  pcap : PN ≤ pc
  n : l.length = N
theorem rdn_below {w w' : World} {a : Option Addr} {l : List Nat} (h : RdN w a l) (hb : Below w.heap.size w w') : RdN w' a l := by
  rcases h with h | ⟨g, o, e, h⟩
  · exact .inl h
  · refine .inr ⟨g, o, e, fun j x hx i v hv => ?_⟩
    have := h j x hx i v hv
    rw [hb.cell (G.cell_lt this)]; exact this
theorem Bl.below {w w' : World} {xb : Nat} {how : Int} {r : Nat} {l : List Ent} {ba : Option Addr} {LB bcap : Nat} {pa : Option Addr} {PN pc N : Nat} (h : Bl w xb how r l ba LB bcap pa PN pc N) (hb : Below w.heap.size w w') : Bl w' xb how r l ba LB bcap pa PN pc N :=
  ⟨h.blk.upd (S := Non) (Upd.ofBelow hb) id, h.arg.below hb, h.cap, h.big, rdn_below h.rd hb, h.pl, h.pcap, h.n⟩
set_option maxRecDepth 100000 in
set_option maxHeartbeats 1000000 in
theorem open_any {w : World} {how : Int} {a : Option Addr} {LEN cap : Nat} {r : Nat} {l : List Ent} (hA : Arg w a LEN cap (wr8 r l)) (hcap : LEN ≤ cap) (hS : Srt how l) (hr : 1 ≤ r) (hL : LEN ≤ 4194304) :
    Calls Try.prog 15 #[.int .i64 how, .slice a LEN cap] w fun e w' => ∃ xb ba LB bcap pa PN pc N, e = .returned (.tuple #[ptr xb, .int .i64 0]) ∧ Bl w' xb how r l ba LB bcap pa PN pc N ∧ Below w.heap.size w w' := by
  obtain ⟨LB, hLB⟩ : ∃ LB, (bt r l l.length).length = LB := ⟨_, rfl⟩
  obtain ⟨PN, hPN⟩ : ∃ PN, (plc r l).length = PN := ⟨_, rfl⟩
  have e1 : wr8 r l = bt r l l.length ++ (pbs (plc r l) ++ byts 4 (PN : Nat)) := by rw [wr8_plc, hPN, List.append_assoc]
  have hlen : LEN = LB + (4 * PN + 4) := by
    rw [← hA.1, e1, List.length_append, List.length_append, pbs_len, byts_len, hLB, hPN]
  have HLk := look_any hA hcap hS.hw hS.fit hS.inc hr hS.len hL hLB hPN
  have A3 : Arg w a LB cap (bt r l l.length) := by
    have := hA.hi (m := LB) (by omega)
    rwa [e1, List.take_left' hLB] at this
  obtain ⟨N, hN⟩ : ∃ N, Hid (l.length = N) := ⟨_, rfl⟩
  have HCl : Hid (∀ W, Below w.heap.size w W → Calls Try.prog 39 #[.slice a LB cap] W fun e w' => ∃ av cv, e = .returned (.slice av LB cv) ∧ LB ≤ cv ∧ Arg w' av LB cv (bt r l l.length) ∧ (∀ b o, av = some ⟨b, o, none⟩ → W.heap.size ≤ b) ∧ Below W.heap.size W w') := fun W hW => clone_any (A3.below hW) (by omega)
  have HE : Hid ((bt r l l.length).length = LB ∧ (plc r l).length = PN ∧ LB ≤ 4194304) := ⟨hLB, hPN, by omega⟩
  rw [hN.out] at HLk
  clear hA hcap hS hr hL hLB hPN e1 hlen A3
  go_enter Try.func15, Try.ntmps15
  go_wp2_with (first
    | (go_at_call 38; refine HLk.mono ?_; rintro e w1 ⟨pa, pc, rfl, r1, b1⟩
       have hx0 := Blk.new w1 76 [.int .i64 how, .slice a LB cap, .slice pa PN pc, .int .i64 N]
       have hbx : Below w.heap.size w (w1.alloc (.cells #[.int .i64 how, .slice a LB cap, .slice pa PN pc, .int .i64 N] 76)) := b1.alloc b1.size _
       have HX : Hid (Blk (w1.alloc (.cells #[.int .i64 how, .slice a LB cap, .slice pa PN pc, .int .i64 N] 76)) w1.heap.size 76 [.int .i64 how, .slice a LB cap, .slice pa PN pc, .int .i64 N] ∧ Below w.heap.size w (w1.alloc (.cells #[.int .i64 how, .slice a LB cap, .slice pa PN pc, .int .i64 N] 76)) ∧ RowN (w1.alloc (.cells #[.int .i64 how, .slice a LB cap, .slice pa PN pc, .int .i64 N] 76)) w.heap.size (.slice pa PN pc) (plc r l) ∧ w.heap.size ≤ w1.heap.size) := ⟨hx0, hbx, row_upd r1 ((Upd.refl Non _).alloc _) (fun _ _ h => h), b1.size⟩
       clear r1 b1 hx0 hbx)
    | (go_at_call 39; refine (HCl.out _ HX.out.2.1).mono ?_; rintro e w2 ⟨av, cv, rfl, c1, c2, c4, c3⟩
       have U2 := Upd.ofBelow (S := Non) c3
       have X2 := HX.out.1.upd U2 id
       have R2 := row_upd HX.out.2.2.1 U2 (fun _ _ h => h)
       have d0 := X2.cell1 0 _ rfl
       have d1 := X2.cell1 1 _ rfl
       have d2 := X2.cell1 2 _ rfl
       have d3 := X2.cell1 3 _ rfl
       have f1 := X2.frozen 1
       have H2 : Hid (Blk w2 w1.heap.size 76 [.int .i64 how, .slice a LB cap, .slice pa PN pc, .int .i64 N] ∧ Below w.heap.size w w2 ∧ RowN w2 w.heap.size (.slice pa PN pc) (plc r l) ∧ LB ≤ cv ∧ Arg w2 av LB cv (bt r l l.length) ∧ w.heap.size ≤ w1.heap.size ∧ (∀ b o, av = some ⟨b, o, none⟩ → b ≠ w1.heap.size)) := ⟨X2, HX.out.2.1.trans (c3.mono HX.out.2.1.size), R2, c1, c2, HX.out.2.2.2, fun b o e eb => by
         have h9 := c4 b o e
         have h8 := HX.out.1.lt
         omega⟩
       clear X2 R2 c1 c2 c3 c4 U2))
  have U3 : Upd (fun j => j = w1.heap.size) w2 (w2.setCell ⟨w1.heap.size, 1, none⟩ (.slice av LB cv)) := (Upd.refl (fun j => j = w1.heap.size) _).setCell (p := ⟨w1.heap.size, 1, none⟩) (fun _ => rfl) _
  have R3 := row_upd H2.out.2.2.1 U3 (fun k hk hs => G.row_ne H2.out.2.2.1 H2.out.1 (by decide) k hk hs)
  have hbl : Bl (w2.setCell ⟨w1.heap.size, 1, none⟩ (.slice av LB cv)) w1.heap.size how r l av LB cv pa PN pc N := ⟨H2.out.1.set 1 (.slice av LB cv), H2.out.2.2.2.2.1.upd U3 (fun b o e => H2.out.2.2.2.2.2.2 b o e), H2.out.2.2.2.1, HE.out.2.2, rown_rd2 R3, HE.out.2.1, by
    obtain ⟨_, _, e, h, _⟩ := rown_rd R3
    injection e with _ _ e3
    rw [e3, ← HE.out.2.1]; exact h, hN.out⟩
  have hbf := H2.out.2.1.trans (U3.below (fun j hj => Nat.lt_of_lt_of_le hj H2.out.2.1.size) (fun j hj => by have := H2.out.2.2.2.2.2.1; omega))
  go_ret2
  exact ⟨_, _, _, _, _, _, _, _, rfl, hbl, hbf⟩
set_option maxHeartbeats 1000000 in
theorem len_any {w : World} {xb : Nat} {how : Int} {r : Nat} {l : List Ent} {ba : Option Addr} {LB bcap : Nat} {pa : Option Addr} {PN pc N : Nat} (h : Bl w xb how r l ba LB bcap pa PN pc N) :
    Calls Try.prog 43 #[ptr xb] w fun e w' => e = .returned (.int .i64 N) ∧ w' = w := by
  have c3 := h.blk.cell1 3 _ rfl
  clear h
  go_enter Try.func43, Try.ntmps43
  go_wp2
  go_ret
  first | exact ⟨rfl, rfl⟩ | exact rfl
set_option maxHeartbeats 1000000 in
theorem restarts_any {w : World} {xb : Nat} {how : Int} {r : Nat} {l : List Ent} {ba : Option Addr} {LB bcap : Nat} {pa : Option Addr} {PN pc N : Nat} (h : Bl w xb how r l ba LB bcap pa PN pc N) :
    Calls Try.prog 19 #[ptr xb] w fun e w' => e = .returned (.int .i64 PN) ∧ w' = w := by
  have c2 := h.blk.cell1 2 _ rfl
  clear h
  go_enter Try.func19, Try.ntmps19
  go_wp2
  go_ret
  first | exact ⟨rfl, rfl⟩ | exact rfl
set_option maxHeartbeats 1000000 in
theorem entries_any {w : World} {xb : Nat} {how : Int} {r : Nat} {l : List Ent} {ba : Option Addr} {LB bcap : Nat} {pa : Option Addr} {PN pc N : Nat} (h : Bl w xb how r l ba LB bcap pa PN pc N) (hS : Srt how l) :
    Calls Try.prog 18 #[ptr xb] w fun e w' => ∃ a' c', e = .returned (.slice a' N c') ∧ RdE w' a' l ∧ Below w.heap.size w w' := by
  have c1 := h.blk.cell1 1 _ rfl
  have HE := entriesOf_any h.arg h.cap hS.fit hS.len h.big
  rw [h.n] at HE
  clear h
  go_enter Try.func18, Try.ntmps18
  go_wp2_with (go_at_call 47; refine HE.mono ?_; rintro e w1 ⟨a', c', rfl, h1, h2⟩)
  go_ret
  first | exact ⟨a', c', rfl, h1, h2⟩ | exact ⟨a', ⟨c', rfl⟩, h1, h2⟩
end Go.Proofs.Ytbnllobofndckaa
namespace Go.Proofs.Ytbnllobofndckaa
open Go.RowKit
set_option linter.unusedVariables false
set_option linter.unusedSimpArgs false
theorem srt_of {how r : Int} {l : List Ent} (h : bldE how r l = 0) (hs : ∀ e ∈ l, 0 ≤ e.s) : Srt how l ∧ 1 ≤ r ∧ r ≤ 1024 ∧ (wr8 r.toNat l).length ≤ 4194304 ∧ bldB how r l = wr8 r.toNat l := by
  have hB : bldB how r l = wr8 r.toNat l := by unfold bldB; rw [if_pos h]
  unfold bldE at h
  split at h
  · cases h
  · next h1 =>
    split at h
    · next h2 => exact absurd h h2
    · next h2 =>
      split at h
      · next h3 => exact absurd h h3
      · next h3 =>
        split at h
        · cases h
        · next h4 =>
          have h2' : cntE r l.length = 0 := by simpa using h2
          have h3' : bldF how l = 0 := by simpa using h3
          have hc : 1 ≤ r ∧ r ≤ 1024 ∧ l.length ≤ 65536 := by
            unfold cntE at h2'
            split at h2'
            · omega
            · split at h2' <;> omega
          refine ⟨⟨by simpa using h1, fit_bld h3' hs, fun k p e hp he => ?_, hc.2.2⟩, hc.1, hc.2.1, by omega, hB⟩
          have hk := (List.getElem?_eq_some_iff.1 he).1
          have hz := frm_zero h3' (k + 1) (Nat.zero_le _) (by omega)
          unfold erB at hz
          rw [he] at hz
          simp only at hz
          split at hz
          · split at hz
            · cases hz
            · next ho =>
              have e1 : ordB how l (k + 1) = (match l[k]?, l[k + 1]? with | some p, some e => decide (0 ≤ ordE how p e) | _, _ => false) := rfl
              rw [e1, hp, he] at ho
              simp only [decide_eq_true_eq] at ho
              omega
          · next hn => exact absurd hz hn
theorem app_bd {l m : List Int} (h : ∀ n ∈ l, 0 ≤ n ∧ n < 256) (k : ∀ n ∈ m, 0 ≤ n ∧ n < 256) : ∀ n ∈ l ++ m, 0 ≤ n ∧ n < 256 := fun n hn => by
  rcases List.mem_append.1 hn with h1 | h1
  · exact h n h1
  · exact k n h1
theorem vL_bd : ∀ (f : Nat) (x : Int), 0 ≤ x → x < 256 * 128 ^ f → ∀ n ∈ vL f x, 0 ≤ n ∧ n < 256
  | 0, x, hx, hl, n, hn => by simp [vL] at hn; omega
  | f + 1, x, hx, hl, n, hn => by
    unfold vL at hn
    split at hn
    · simp at hn; omega
    · rcases List.mem_cons.1 hn with rfl | hn
      · omega
      · refine vL_bd f _ (by omega) ?_ n hn
        rw [Int.pow_succ] at hl
        generalize (128 : Int) ^ f = q at hl ⊢
        omega
theorem vL10 (x : Nat) (h : x ≤ 1099511627776) : ∀ n ∈ vL 10 (x : Int), 0 ≤ n ∧ n < 256 := vL_bd 10 x (by omega) (by omega)
theorem kA_len {l : List Ent} (hf : Fit l) (i : Nat) : (kA l i).length ≤ 1032 := by
  unfold kA
  split
  · next e he => exact (kb_len (hf e (List.mem_of_getElem? he)).1).1
  · simp
theorem vA_len {l : List Ent} (hf : Fit l) (i : Nat) : (vA l i).size ≤ 16384 := by
  unfold vA
  split
  · next e he => exact (hf e (List.mem_of_getElem? he)).2.2
  · show (0 : Nat) ≤ _; omega
theorem wA_bd {r : Nat} {l : List Ent} (hf : Fit l) (i : Nat) : ∀ n ∈ wA r l i, 0 ≤ n ∧ n < 256 := by
  have h1 := kA_len hf i
  have h2 := vA_len hf i
  have h3 := cA_le r l i
  unfold wA pcB
  exact app_bd (app_bd (app_bd (app_bd (vL10 _ (by omega)) (vL10 _ (by rw [List.length_drop]; omega))) (vL10 _ (by omega))) (fun n hn => kA_bd l i n (List.mem_of_mem_drop hn))) (sb_bd _)
theorem bt_bd {r : Nat} {l : List Ent} (hf : Fit l) : ∀ i, ∀ n ∈ bt r l i, 0 ≤ n ∧ n < 256
  | 0 => by simp [bt]
  | i + 1 => app_bd (bt_bd hf i) (wA_bd hf i)
theorem wr8_bd {r : Nat} {l : List Ent} (hf : Fit l) : ∀ n ∈ wr8 r l, 0 ≤ n ∧ n < 256 := by
  rw [wr8_plc]
  refine app_bd (app_bd (bt_bd hf _) (fun n hn => ?_)) (byts_bd _ _)
  obtain ⟨x, _, hx⟩ := List.mem_flatMap.1 hn
  exact byts_bd _ _ n hx
/-- The document's first example. -/
def ex8 : List Ent := [⟨⟨#[97]⟩, 9, 1, ⟨#[120]⟩⟩, ⟨⟨#[97, 98]⟩, 9, 1, ⟨#[121]⟩⟩]
def wt8 : ByteArray := ⟨#[0, 9, 1, 97, 1, 9, 0, 0, 0, 0, 0, 0, 120, 1, 9, 1, 98, 1, 9, 0, 0, 0, 0, 0, 0, 121, 0, 0, 0, 0, 1, 0, 0, 0]⟩
set_option maxRecDepth 100000 in
theorem ex_err : bldE 0 16 ex8 = 0 := by kernel_rfl
set_option maxRecDepth 100000 in
theorem ex_sb : sb wt8 = wr8 16 ex8 := by kernel_rfl
end Go.Proofs.Ytbnllobofndckaa
namespace Go.Proofs.Ytbnllobofndckaa
open Go.RowKit
set_option linter.unusedVariables false
set_option linter.unusedSimpArgs false
set_option maxRecDepth 100000 in
theorem ex_str : bstr (bldB 0 16 ex8) = wt8 := by kernel_rfl
abbrev exC : Array Value := #[.string ⟨#[97]⟩, .int .u64 9, .int .i64 1, .string ⟨#[120]⟩, .string ⟨#[97, 98]⟩, .int .u64 9, .int .i64 1, .string ⟨#[121]⟩]
theorem ex_rd (w : World) : RdE (w.alloc (.cells exC 48)) (some ⟨w.heap.size, 0, none⟩) ex8 := by
  have hB := Blk.new w 48 exC.toList
  refine .inr ⟨w.heap.size, 0, rfl, by simp, fun j e he => ?_⟩
  match j, he with
  | 0, he =>
    cases he
    exact ⟨hB.cell1 0 _ rfl, hB.cell1 1 _ rfl, hB.cell1 2 _ rfl, hB.cell1 3 _ rfl⟩
  | 1, he =>
    cases he
    exact ⟨hB.cell1 4 _ rfl, hB.cell1 5 _ rfl, hB.cell1 6 _ rfl, hB.cell1 7 _ rfl⟩
  | j + 2, he => simp [ex8] at he
theorem ex_s : ∀ e ∈ ex8, 0 ≤ e.s := by
  intro e he
  simp [ex8] at he
  rcases he with rfl | rfl <;> decide
set_option maxRecDepth 100000 in
set_option maxHeartbeats 1000000 in
theorem lives_any (w : World) : Calls Try.prog 17 #[] w fun e w' => e = .returned (.bool true) ∧ Below w.heap.size w w' := by
  have HR : Hid (RdE (w.alloc (.cells exC 48)) (some ⟨w.heap.size, 0, none⟩) ex8 ∧ Below w.heap.size w (w.alloc (.cells exC 48))) := ⟨ex_rd w, (Below.refl _ _).alloc (Nat.le_refl _) _⟩
  have HBu : Hid (Calls Try.prog 7 #[.int .i64 0, .int .i64 16, .slice (some ⟨w.heap.size, 0, none⟩) 2 2] (w.alloc (.cells exC 48)) fun e w' => ∃ v, e = .returned (.tuple #[v, .int .i64 0]) ∧ OwnB w' w.heap.size v (bldB 0 16 ex8) ∧ Below w.heap.size w w') := by
    refine (build_any HR.out.1 ex_s 0 16 2 (by simp [ex8])).mono ?_
    rintro e w' ⟨v, rfl, h1, h2⟩
    rw [ex_err]
    exact ⟨v, rfl, h1.mono (by simp), HR.out.2.trans (h2.mono (by simp))⟩
  have hcv : ∀ W : World, (convert 9 23 (.string wt8)).run Try.prog W = .ok (.slice (some ⟨W.heap.size, 0, none⟩) 34 (grownCap W 34 0 5)) (cvW W wt8) := fun W => cvt wt8 W
  have HOp : Hid (∀ W : World, Calls Try.prog 15 #[.int .i64 0, .slice (some ⟨W.heap.size, 0, none⟩) 34 (grownCap W 34 0 5)] (cvW W wt8) fun e w' => ∃ xb ba LB bcap pa PN pc, e = .returned (.tuple #[ptr xb, .int .i64 0]) ∧ Bl w' xb 0 16 ex8 ba LB bcap pa PN pc 2 ∧ Below W.heap.size W w') := fun W => by
    have ho := cvW_own wt8 W (by show (34 : Nat) ≤ maxLen; unfold maxLen; omega)
    rw [ex_sb] at ho
    have hsr := srt_of ex_err ex_s
    obtain ⟨a, cap, e1, hA⟩ := ho.arg (wr8_bd hsr.1.fit) (by have h9 : (wr8 16 ex8).length ≤ 4194304 := hsr.2.2.2.1; omega)
    have hl : (wr8 16 ex8).length = 34 := by rw [← ex_sb]; rfl
    rw [hl] at e1 hA
    unfold cvV at e1
    injection e1 with e2 e3 e4
    subst e2
    subst e4
    refine (open_any hA ?_ hsr.1 (by decide) (by decide)).mono ?_
    · exact grownCap_ge W 34 0 5
    · rintro e w' ⟨xb, ba, LB, bcap, pa, PN, pc, N, rfl, h1, h2⟩
      obtain rfl : 2 = N := h1.n
      exact ⟨xb, ba, LB, bcap, pa, PN, pc, rfl, h1, (cvW_below wt8 W).trans (h2.mono (cvW_below wt8 W).size)⟩
  have HSt : Hid (∀ (W : World) (v : Value), OwnB W w.heap.size v (bldB 0 16 ex8) → (convert 23 9 v).run Try.prog W = .ok (.string wt8) W) := fun W v h => by
    have := h.run_string 23 9 Try.underlying23 Try.underlying5 Try.underlying9
    rw [ex_str] at this; exact this
  clear HR
  unfold wt8 at hcv HSt
  go_enter Try.func17, Try.ntmps17
  go_wp2_with (first
    | (go_at_call 7; refine HBu.out.mono ?_; rintro e w2 ⟨v2, rfl, h1, h2⟩)
    | (go_at_call 15; refine (HOp.out _).mono ?_; rintro e w3 ⟨xb, ba, LB, bcap, pa, PN, pc, rfl, h3, h4⟩
       have hst := HSt.out w3 v2 (h1.below h4 (Nat.le_refl _))
       have HLn := len_any h3
       have hbf := h2.trans (h4.mono h2.size))
    | (go_at_call 43; refine HLn.mono ?_; rintro e w5 ⟨rfl, hw⟩; have hw1 := hw.symm; subst hw1; clear hw))
  go_ret
  exact ⟨rfl, hbf⟩
end Go.Proofs.Ytbnllobofndckaa
namespace Go.Proofs.Ytbnllobofndckaa
open Go.RowKit
set_option linter.unusedVariables false
set_option linter.unusedSimpArgs false
theorem firstE_zero : ∀ {l : List Ent}, (∀ e ∈ l, e.er = 0) → firstE l = 0
  | [], _ => rfl
  | x :: l, h => by
    unfold firstE
    rw [if_pos (h x List.mem_cons_self)]
    exact firstE_zero (fun e he => h e (List.mem_cons_of_mem _ he))
theorem siz_of {how r : Int} {l : List Ent} (h : bldE how r l = 0) : sizE r l = 0 ∧ sizV r l = ((wr8 r.toNat l).length : Nat) := by
  have h0 : sizE r l = 0 := by
    unfold bldE at h
    split at h
    · cases h
    · split at h
      · next h2 => exact absurd h h2
      · next h2 =>
        split at h
        · next h3 => exact absurd h h3
        · next h3 =>
          have h2' : cntE r l.length = 0 := by simpa using h2
          have h3' : bldF how l = 0 := by simpa using h3
          unfold sizE
          rw [if_pos h2']
          refine firstE_zero fun e he => ?_
          obtain ⟨k, hk⟩ := List.mem_iff_getElem?.1 he
          have hlt := (List.getElem?_eq_some_iff.1 hk).1
          exact er_of_erB hk (frm_zero h3' k (Nat.zero_le _) (by omega))
  exact ⟨h0, by unfold sizV; rw [if_pos h0]⟩
set_option maxRecDepth 100000 in
set_option maxHeartbeats 2000000 in
theorem back_walk {w : World} {a : Option Addr} {l : List Ent} (hl : RdE w a l) (hs : ∀ e ∈ l, 0 ≤ e.s) (how r : Int) (c : Nat) (hN : l.length * 48 ≤ 140737488355328) :
    Calls Try.prog 5 #[.int .i64 how, .int .i64 r, .slice a l.length c] w fun e w' => e = .returned (.bool true) ∧ Below w.heap.size w w' := by
  obtain ⟨N, hNN⟩ : ∃ N, Hid (l.length = N) := ⟨_, rfl⟩
  have HL : Hid (RdE w a l) := hl
  obtain ⟨E, hE⟩ : ∃ E, Hid (bldE how r l = E) := ⟨_, rfl⟩
  have HLv : Hid (∀ W, Calls Try.prog 17 #[] W fun e w' => e = .returned (.bool true) ∧ Below W.heap.size W w') := fun W => lives_any W
  have HBu : Hid (∀ W a' c', RdE W a' l → Calls Try.prog 7 #[.int .i64 how, .int .i64 r, .slice a' N c'] W fun e w' => ∃ v, e = .returned (.tuple #[v, .int .i64 E]) ∧ OwnB w' W.heap.size v (bldB how r l) ∧ Below W.heap.size W w') := fun W a' c' h => by
    have := build_any h hs how r c' (by omega)
    rw [hNN.out, hE.out] at this; exact this
  by_cases hE0 : E = 0
  · subst hE0
    obtain ⟨hS, hr1, hr2, hln, hB⟩ := srt_of hE.out hs
    obtain ⟨hz1, hz2⟩ := siz_of hE.out
    obtain ⟨R, rfl⟩ : ∃ R : Nat, r = R := ⟨r.toNat, by omega⟩
    rw [Int.toNat_natCast] at hln hB hz2
    rw [hB] at HBu
    obtain ⟨LEN, hLEN⟩ : ∃ LEN, (wr8 R l).length = LEN := ⟨_, rfl⟩
    rw [hLEN] at hln hz2
    obtain ⟨PN, hPN⟩ : ∃ PN, (plc R l).length = PN := ⟨_, rfl⟩
    have hpl := plc_len R (by omega) l
    rw [hPN, hNN.out] at hpl
    have hNb : N ≤ 65536 := by rw [← hNN.out]; exact hS.len
    have HSz : Hid (∀ W a' c', RdE W a' l → Calls Try.prog 9 #[.int .i64 R, .slice a' N c'] W fun e w' => e = .returned (.tuple #[.int .i64 LEN, .int .i64 0]) ∧ Below W.heap.size W w') := fun W a' c' h => by
      have := size9_any h hs R c' (by omega)
      rw [hNN.out, hz1, hz2] at this; exact this
    have HArg : Hid (∀ W base v, OwnB W base v (wr8 R l) → ∃ av cv, v = .slice av LEN cv ∧ LEN ≤ cv ∧ Arg W av LEN cv (wr8 R l)) := fun W base v h => by
      obtain ⟨av, cv, e1, h1⟩ := h.arg (wr8_bd hS.fit) (by omega)
      subst e1
      have h2 := own_le h
      rw [hLEN] at h1 h2 ⊢
      exact ⟨av, cv, rfl, h2, h1⟩
    have HOw : Hid (∀ W av cv, Arg W av LEN cv (wr8 R l) → Calls Try.prog 12 #[.slice av LEN cv] W fun e w' => ∃ av' cv', e = .returned (.slice av' LEN cv') ∧ LEN ≤ cv' ∧ Arg w' av' LEN cv' (wr8 R l) ∧ Below W.heap.size W w') := fun W av cv h => own_any h hln
    have HOp : Hid (∀ W av cv, Arg W av LEN cv (wr8 R l) → LEN ≤ cv → Calls Try.prog 15 #[.int .i64 how, .slice av LEN cv] W fun e w' => ∃ xb ba LB bcap pa pc, e = .returned (.tuple #[ptr xb, .int .i64 0]) ∧ Bl w' xb how R l ba LB bcap pa PN pc N ∧ Below W.heap.size W w') := fun W av cv h hc => by
      refine (open_any h hc hS (by omega) hln).mono ?_
      rintro e w' ⟨xb, ba, LB, bcap, pa, PN', pc, N', rfl, h1, h2⟩
      obtain rfl : PN = PN' := by rw [← hPN]; exact h1.pl
      obtain rfl : N = N' := by rw [← hNN.out]; exact h1.n
      exact ⟨xb, ba, LB, bcap, pa, pc, rfl, h1, h2⟩
    have HEn : Hid (∀ W xb ba LB bcap pa pc, Bl W xb how R l ba LB bcap pa PN pc N → Calls Try.prog 18 #[ptr xb] W fun e w' => ∃ a' c', e = .returned (.slice a' N c') ∧ RdE w' a' l ∧ Below W.heap.size W w') := fun W xb ba LB bcap pa pc h => entries_any h hS
    have HSm : Hid (∀ W a1 a2 c1 c2, RdE W a1 l → RdE W a2 l → Calls Try.prog 11 #[.slice a1 N c1, .slice a2 N c2] W fun e w' => e = .returned (.bool true) ∧ Below W.heap.size W w') := fun W a1 a2 c1 c2 h1 h2 => by
      have := same_any h1 h2 c1 c2 (by omega)
      rw [hNN.out] at this; exact this
    obtain ⟨S, hSS⟩ : ∃ S, Hid (bstr (wr8 R l) = S) := ⟨_, rfl⟩
    have HCv : Hid (∀ (W : World) (av : Option Addr) (cv : Nat), Arg W av LEN cv (wr8 R l) → (convert 23 9 (.slice av LEN cv)).run Try.prog W = .ok (.string S) W) := fun W av cv h => by
      have := arg_str h
      rw [hSS.out] at this; exact this
    have hR1 : 1 ≤ (R : Int) := hr1
    have hne : ¬ (R : Int) = 0 := by omega
    obtain ⟨Q, hQ⟩ : ∃ Q : Nat, Hid ((N + R - 1) / R = Q) := ⟨_, rfl⟩
    rw [hQ.out] at hpl
    have hQ1 : Q ≤ 65536 := by
      rw [← hQ.out]
      have : (N + R - 1) / R ≤ N := by
        rcases Nat.eq_zero_or_pos N with h | h
        · subst h; rw [Nat.zero_add, Nat.div_eq_of_lt (by omega)]; exact Nat.le_refl _
        · rw [Nat.div_le_iff_le_mul_add_pred (by omega)]
          have h3 : N ≤ N * R := Nat.le_mul_of_pos_right N (by omega)
          have h4 : R * N = N * R := Nat.mul_comm _ _
          omega
      omega
    have hquo : (((N : Int) + (R : Int) - 1)).tdiv (R : Int) = (Q : Int) := by
      have e1 : (N : Int) + (R : Int) - 1 = ((N + R - 1 : Nat) : Int) := by omega
      rw [e1, ← hQ.out]
      exact (Int.ofNat_tdiv _ _)
    rw [hNN.out]
    clear hl hs hS hz1 hz2 hLEN hPN hB hN
    go_enter Try.func5, Try.ntmps5
    go_wp2_with (first
      | (go_at_call 17; refine (HLv.out _).mono ?_; rintro e w1 ⟨rfl, b1⟩)
      | (go_at_call 9; have hq := b2; clear hq; refine (HSz.out _ _ _ (HL.out.below b2)).mono ?_; rintro e w3 ⟨rfl, b23⟩; have b3 := b2.trans (b23.mono b2.size); have o3 := A2.below b23)
      | (go_at_call 12; have hq := b3; clear hq; refine (HOw.out _ _ _ o3).mono ?_; rintro e w4 ⟨av4, cv4, rfl, c4, o4, b34⟩; have b4 := b3.trans (b34.mono b3.size); have o5 := o3.below b34)
      | (go_at_call 15; have hq := b4; clear hq; refine (HOp.out _ _ _ o4 c4).mono ?_; rintro e w5 ⟨xb, ba, LB, bcap, pa, pc, rfl, x5, b45⟩; have b5 := b4.trans (b45.mono b4.size); have o6 := o5.below b45)
      | (go_at_call 11; have hq := b6; clear hq; refine (HSm.out _ _ _ _ _ e6 (HL.out.below b6)).mono ?_; rintro e w7 ⟨rfl, b67⟩; have b7 := b6.trans (b67.mono b6.size); have x7 := x6.below b67; have o8 := o7.below b67)
      | (go_at_call 18; have hq := b7; clear hq; refine (HEn.out _ _ _ _ _ _ _ x7).mono ?_; rintro e w8 ⟨a8, c8, rfl, e8, b78⟩; have b8 := b7.trans (b78.mono b7.size); have x8 := x7.below b78; have o9 := o8.below b78)
      | (go_at_call 18; have hq := b5; clear hq; refine (HEn.out _ _ _ _ _ _ _ x5).mono ?_; rintro e w6 ⟨a6, c6, rfl, e6, b56⟩; have b6 := b5.trans (b56.mono b5.size); have x6 := x5.below b56; have o7 := o6.below b56)
      | (go_at_call 7; have hq := b8; clear hq; refine (HBu.out _ _ _ e8).mono ?_; rintro e w9 ⟨v9, rfl, o99, b89⟩; have b9 := b8.trans (b89.mono b8.size); have x9 := x8.below b89
         obtain ⟨av9, cv9, rfl, c9, A9⟩ := HArg.out _ _ _ o99
         have hs1 := HCv.out _ _ _ A9
         have hs2 := HCv.out _ _ _ (o9.below b89)
         have HRs := restarts_any x9)
      | (go_at_call 7; have hq := b1; clear hq; refine (HBu.out _ _ _ (HL.out.below b1)).mono ?_; rintro e w2 ⟨v2, rfl, o2, b12⟩; have b2 := b1.trans (b12.mono b1.size)
         obtain ⟨av2, cv2, rfl, c2, A2⟩ := HArg.out _ _ _ o2)
      | (go_at_call 19; refine HRs.mono ?_; rintro e w5 ⟨rfl, hw⟩; have hw1 := hw.symm; subst hw1; clear hw))
    · have hq0 : ((Q : Int) == 0) = true := by assumption
      have hq1 : (Q : Int) = 0 := by simpa using hq0
      go_ret
      refine ⟨?_, b9⟩
      have h1 : ((max Q 1 : Nat) : Int) = 1 := by omega
      rw [h1]; rfl
    · have hq0 : ((Q : Int) == 0) = false := by assumption
      have hq1 : ¬ (Q : Int) = 0 := by simpa using hq0
      go_ret
      refine ⟨?_, b9⟩
      have h1 : max Q 1 = Q := by omega
      rw [h1]; simp
  · have HNil : Hid (∀ W base v, OwnB W base v (bldB how r l) → ∃ av cv, v = .slice av 0 cv) := fun W base v h => by
      have e0 : bldB how r l = [] := by unfold bldB; rw [hE.out, if_neg hE0]
      rw [e0] at h
      obtain ⟨av, cv, e1, _⟩ := h.arg (by simp) (by simp)
      exact ⟨av, cv, e1⟩
    rw [hNN.out]
    clear hl hs hN
    go_enter Try.func5, Try.ntmps5
    go_wp2_with (first
      | (go_at_call 17; refine (HLv.out _).mono ?_; rintro e w1 ⟨rfl, b1⟩)
      | (go_at_call 7; have hq := b1; clear hq; refine (HBu.out _ _ _ (HL.out.below b1)).mono ?_; rintro e w2 ⟨v2, rfl, o2, b12⟩; have b2 := b1.trans (b12.mono b1.size)
         obtain ⟨av2, cv2, rfl⟩ := HNil.out _ _ _ o2))
    go_ret
    exact ⟨rfl, b2⟩
end Go.Proofs.Ytbnllobofndckaa
