/-
  Open, at bytes that were written; what a block tells.
-/
import Derived.Test.YtbnllobofndckaaLk
import Derived.Test.YtbnllobofndckaaCo
namespace Go.Proofs.Ytbnllobofndckaa
open Go.RowKit
set_option linter.unusedVariables false
set_option linter.unusedSimpArgs false
/-- What is asked of entries: they rise, and can be written. -/
structure Srt (how : Int) (l : List Ent) : Prop where
  hw : isHw how = true
  fit : Fit l
  inc : ∀ k p e, l[k]? = some p → l[k + 1]? = some e → ordE how p e < 0
  len : l.length ≤ 65536
/-- A block in memory. -/
structure Bl (w : World) (xb : Nat) (how : Int) (r : Nat) (l : List Ent) (ba : Option Addr) (LB bcap : Nat) (pa : Option Addr) (PN pc N : Nat) : Prop where
  blk : Blk w xb 76 [.int .i64 how, .slice ba LB bcap, .slice pa PN pc, .int .i64 N]
  arg : Arg w ba LB bcap (bt r l l.length)
  cap : LB ≤ bcap
  big : LB ≤ 4194304
  rd : RdN w pa (plc r l)
  pl : (plc r l).length = PN
  pcap : PN ≤ pc
  n : l.length = N
theorem rdn_below {w w' : World} {a : Option Addr} {l : List Nat} (h : RdN w a l) (hb : Below w.heap.size w w') : RdN w' a l := by
  rcases h with h | ⟨g, o, e, h⟩
  · exact .inl h
  · refine .inr ⟨g, o, e, fun j x hx i v hv => ?_⟩
    have := h j x hx i v hv
    rw [hb.cell (G.cell_lt this)]; exact this
theorem Bl.below {w w' : World} {xb : Nat} {how : Int} {r : Nat} {l : List Ent} {ba : Option Addr} {LB bcap : Nat} {pa : Option Addr} {PN pc N : Nat} (h : Bl w xb how r l ba LB bcap pa PN pc N) (hb : Below w.heap.size w w') : Bl w' xb how r l ba LB bcap pa PN pc N :=
  ⟨h.blk.upd (S := Non) (Upd.ofBelow hb) id, h.arg.below hb, h.cap, h.big, rdn_below h.rd hb, h.pl, h.pcap, h.n⟩
set_option maxRecDepth 100000 in
set_option maxHeartbeats 1000000 in
theorem open_any {w : World} {how : Int} {a : Option Addr} {LEN cap : Nat} {r : Nat} {l : List Ent} (hA : Arg w a LEN cap (wr8 r l)) (hcap : LEN ≤ cap) (hS : Srt how l) (hr : 1 ≤ r) (hL : LEN ≤ 4194304) :
    Calls Try.prog 15 #[.int .i64 how, .slice a LEN cap] w fun e w' => ∃ xb ba LB bcap pa PN pc N, e = .returned (.tuple #[ptr xb, .int .i64 0]) ∧ Bl w' xb how r l ba LB bcap pa PN pc N ∧ Below w.heap.size w w' := by
  obtain ⟨LB, hLB⟩ : ∃ LB, (bt r l l.length).length = LB := ⟨_, rfl⟩
  obtain ⟨PN, hPN⟩ : ∃ PN, (plc r l).length = PN := ⟨_, rfl⟩
  have e1 : wr8 r l = bt r l l.length ++ (pbs (plc r l) ++ byts 4 (PN : Nat)) := by rw [wr8_plc, hPN, List.append_assoc]
  have hlen : LEN = LB + (4 * PN + 4) := by
    rw [← hA.1, e1, List.length_append, List.length_append, pbs_len, byts_len, hLB, hPN]
  have HLk := look_any hA hcap hS.hw hS.fit hS.inc hr hS.len hL hLB hPN
  have A3 : Arg w a LB cap (bt r l l.length) := by
    have := hA.hi (m := LB) (by omega)
    rwa [e1, List.take_left' hLB] at this
  obtain ⟨N, hN⟩ : ∃ N, Hid (l.length = N) := ⟨_, rfl⟩
  have HCl : Hid (∀ W, Below w.heap.size w W → Calls Try.prog 39 #[.slice a LB cap] W fun e w' => ∃ av cv, e = .returned (.slice av LB cv) ∧ LB ≤ cv ∧ Arg w' av LB cv (bt r l l.length) ∧ (∀ b o, av = some ⟨b, o, none⟩ → W.heap.size ≤ b) ∧ Below W.heap.size W w') := fun W hW => clone_any (A3.below hW) (by omega)
  have HE : Hid ((bt r l l.length).length = LB ∧ (plc r l).length = PN ∧ LB ≤ 4194304) := ⟨hLB, hPN, by omega⟩
  rw [hN.out] at HLk
  clear hA hcap hS hr hL hLB hPN e1 hlen A3
  go_enter Try.func15, Try.ntmps15
  go_wp2_with (first
    | (go_at_call 38; refine HLk.mono ?_; rintro e w1 ⟨pa, pc, rfl, r1, b1⟩
       have hx0 := Blk.new w1 76 [.int .i64 how, .slice a LB cap, .slice pa PN pc, .int .i64 N]
       have hbx : Below w.heap.size w (w1.alloc (.cells #[.int .i64 how, .slice a LB cap, .slice pa PN pc, .int .i64 N] 76)) := b1.alloc b1.size _
       have HX : Hid (Blk (w1.alloc (.cells #[.int .i64 how, .slice a LB cap, .slice pa PN pc, .int .i64 N] 76)) w1.heap.size 76 [.int .i64 how, .slice a LB cap, .slice pa PN pc, .int .i64 N] ∧ Below w.heap.size w (w1.alloc (.cells #[.int .i64 how, .slice a LB cap, .slice pa PN pc, .int .i64 N] 76)) ∧ RowN (w1.alloc (.cells #[.int .i64 how, .slice a LB cap, .slice pa PN pc, .int .i64 N] 76)) w.heap.size (.slice pa PN pc) (plc r l) ∧ w.heap.size ≤ w1.heap.size) := ⟨hx0, hbx, row_upd r1 ((Upd.refl Non _).alloc _) (fun _ _ h => h), b1.size⟩
       clear r1 b1 hx0 hbx)
    | (go_at_call 39; refine (HCl.out _ HX.out.2.1).mono ?_; rintro e w2 ⟨av, cv, rfl, c1, c2, c4, c3⟩
       have U2 := Upd.ofBelow (S := Non) c3
       have X2 := HX.out.1.upd U2 id
       have R2 := row_upd HX.out.2.2.1 U2 (fun _ _ h => h)
       have d0 := X2.cell1 0 _ rfl
       have d1 := X2.cell1 1 _ rfl
       have d2 := X2.cell1 2 _ rfl
       have d3 := X2.cell1 3 _ rfl
       have f1 := X2.frozen 1
       have H2 : Hid (Blk w2 w1.heap.size 76 [.int .i64 how, .slice a LB cap, .slice pa PN pc, .int .i64 N] ∧ Below w.heap.size w w2 ∧ RowN w2 w.heap.size (.slice pa PN pc) (plc r l) ∧ LB ≤ cv ∧ Arg w2 av LB cv (bt r l l.length) ∧ w.heap.size ≤ w1.heap.size ∧ (∀ b o, av = some ⟨b, o, none⟩ → b ≠ w1.heap.size)) := ⟨X2, HX.out.2.1.trans (c3.mono HX.out.2.1.size), R2, c1, c2, HX.out.2.2.2, fun b o e eb => by
         have h9 := c4 b o e
         have h8 := HX.out.1.lt
         omega⟩
       clear X2 R2 c1 c2 c3 c4 U2))
  have U3 : Upd (fun j => j = w1.heap.size) w2 (w2.setCell ⟨w1.heap.size, 1, none⟩ (.slice av LB cv)) := (Upd.refl (fun j => j = w1.heap.size) _).setCell (p := ⟨w1.heap.size, 1, none⟩) (fun _ => rfl) _
  have R3 := row_upd H2.out.2.2.1 U3 (fun k hk hs => G.row_ne H2.out.2.2.1 H2.out.1 (by decide) k hk hs)
  have hbl : Bl (w2.setCell ⟨w1.heap.size, 1, none⟩ (.slice av LB cv)) w1.heap.size how r l av LB cv pa PN pc N := ⟨H2.out.1.set 1 (.slice av LB cv), H2.out.2.2.2.2.1.upd U3 (fun b o e => H2.out.2.2.2.2.2.2 b o e), H2.out.2.2.2.1, HE.out.2.2, rown_rd2 R3, HE.out.2.1, by
    obtain ⟨_, _, e, h, _⟩ := rown_rd R3
    injection e with _ _ e3
    rw [e3, ← HE.out.2.1]; exact h, hN.out⟩
  have hbf := H2.out.2.1.trans (U3.below (fun j hj => Nat.lt_of_lt_of_le hj H2.out.2.1.size) (fun j hj => by have := H2.out.2.2.2.2.2.1; omega))
  go_ret2
  exact ⟨_, _, _, _, _, _, _, _, rfl, hbl, hbf⟩
set_option maxHeartbeats 1000000 in
theorem len_any {w : World} {xb : Nat} {how : Int} {r : Nat} {l : List Ent} {ba : Option Addr} {LB bcap : Nat} {pa : Option Addr} {PN pc N : Nat} (h : Bl w xb how r l ba LB bcap pa PN pc N) :
    Calls Try.prog 43 #[ptr xb] w fun e w' => e = .returned (.int .i64 N) ∧ w' = w := by
  have c3 := h.blk.cell1 3 _ rfl
  clear h
  go_enter Try.func43, Try.ntmps43
  go_wp2
  go_ret
  first | exact ⟨rfl, rfl⟩ | exact rfl
set_option maxHeartbeats 1000000 in
theorem restarts_any {w : World} {xb : Nat} {how : Int} {r : Nat} {l : List Ent} {ba : Option Addr} {LB bcap : Nat} {pa : Option Addr} {PN pc N : Nat} (h : Bl w xb how r l ba LB bcap pa PN pc N) :
    Calls Try.prog 19 #[ptr xb] w fun e w' => e = .returned (.int .i64 PN) ∧ w' = w := by
  have c2 := h.blk.cell1 2 _ rfl
  clear h
  go_enter Try.func19, Try.ntmps19
  go_wp2
  go_ret
  first | exact ⟨rfl, rfl⟩ | exact rfl
set_option maxHeartbeats 1000000 in
theorem entries_any {w : World} {xb : Nat} {how : Int} {r : Nat} {l : List Ent} {ba : Option Addr} {LB bcap : Nat} {pa : Option Addr} {PN pc N : Nat} (h : Bl w xb how r l ba LB bcap pa PN pc N) (hS : Srt how l) :
    Calls Try.prog 18 #[ptr xb] w fun e w' => ∃ a' c', e = .returned (.slice a' N c') ∧ RdE w' a' l ∧ Below w.heap.size w w' := by
  have c1 := h.blk.cell1 1 _ rfl
  have HE := entriesOf_any h.arg h.cap hS.fit hS.len h.big
  rw [h.n] at HE
  clear h
  go_enter Try.func18, Try.ntmps18
  go_wp2_with (go_at_call 47; refine HE.mono ?_; rintro e w1 ⟨a', c', rfl, h1, h2⟩)
  go_ret
  first | exact ⟨a', c', rfl, h1, h2⟩ | exact ⟨a', ⟨c', rfl⟩, h1, h2⟩
end Go.Proofs.Ytbnllobofndckaa
