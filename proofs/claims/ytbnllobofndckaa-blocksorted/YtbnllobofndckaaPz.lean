import Derived.Test.YtbnllobofndckaaEn
import Derived.Test.YtbnllobofndckaaRr
namespace Go.Proofs.Ytbnllobofndckaa
open Go.RowKit
set_option linter.unusedVariables false
set_option linter.unusedSimpArgs false
/-- A piece as it comes: where its bytes lie, and what they are. -/
structure Px where
  wh : Bool
  cm : Nat
  a : Option Addr
  b : Nat
  n : Nat
  c : Nat
  v : ByteArray
  lf : List Int
abbrev Px.val (x : Px) : Value := .agg #[.bool x.wh, .int .i64 x.cm, .slice x.a x.n x.c, .string x.v]
def Px.dat (x : Px) : Bool × Nat × List Int × ByteArray := (x.wh, x.cm, x.lf, x.v)
def dat (r : Nat) (l : List Ent) (i : Nat) : Bool × Nat × List Int × ByteArray := (decide (i % r = 0), cA r l i, (kA l i).drop (cA r l i), vA l i)
structure Rx (x : Px) (W0 W1 : World) : Prop where
  arg : Arg W1 x.a x.n x.c x.lf
  blk : ∀ b off, x.a = some ⟨b, off, none⟩ → b = x.b
  new : W0.heap.size ≤ x.b
  cm : x.cm ≤ 1032
  n : x.n ≤ 1032
  v : x.v.size ≤ 16384
def Kx (B : Nat → Prop) (x : Px) (W W' : World) : Prop := W.heap.size ≤ W'.heap.size ∧ (∀ k, B k → W'.heap[k]? = W.heap[k]?) ∧ ∀ c t f, W.heap[x.b]? = some (.cells c t f) → W'.heap[x.b]? = W.heap[x.b]?
theorem Kx.trans {B : Nat → Prop} {x : Px} {X Y Z : World} (h : Kx B x X Y) (k : Kx B x Y Z) : Kx B x X Z :=
  ⟨Nat.le_trans h.1 k.1, fun i hi => (k.2.1 i hi).trans (h.2.1 i hi), fun c t f e => (k.2.2 c t f (by rw [h.2.2 c t f e]; exact e)).trans (h.2.2 c t f e)⟩
theorem cell_block {W : World} {b o : Nat} {v : Value} (h : W.cell? ⟨b, o, none⟩ = some v) : ∃ c t f, W.heap[b]? = some (.cells c t f) := by
  unfold World.cell? at h
  cases e : W.heap[b]? with
  | none => simp [e] at h
  | some ob =>
    cases ob with
    | cells c t f => exact ⟨c, t, f, rfl⟩
    | _ => simp [e] at h
theorem cell_of_block {W W' : World} {b o : Nat} (h : W'.heap[b]? = W.heap[b]?) : W'.cell? ⟨b, o, none⟩ = W.cell? ⟨b, o, none⟩ := by
  unfold World.cell?; rw [h]
theorem Arg.kept {W W' : World} {b off len cap : Nat} {l : List Int} (h : Arg W (some ⟨b, off, none⟩) len cap l) (hs : W.heap.size ≤ W'.heap.size) (hk : ∀ c t f, W.heap[b]? = some (.cells c t f) → W'.heap[b]? = W.heap[b]?) : Arg W' (some ⟨b, off, none⟩) len cap l := by
  obtain ⟨h1, h2, h3, h4⟩ := h
  refine ⟨h1, h2, h3, ?_⟩
  rcases h4 with h4 | ⟨b', off', e, hlt, hc⟩
  · exact .inl h4
  · cases e
    refine .inr ⟨b, off, rfl, Nat.lt_of_lt_of_le hlt hs, fun j hj => ?_⟩
    obtain ⟨c, t, f, hx⟩ := cell_block (hc j hj)
    rw [cell_of_block (hk c t f hx)]; exact hc j hj
theorem RdE.kept {B : Nat → Prop} {x : Px} {W W' : World} {a : Option Addr} {l : List Ent} (h : RdE W a l) (k : Kx B x W W') (hB : l ≠ [] → ∀ b off, a = some ⟨b, off, none⟩ → B b) : RdE W' a l := by
  by_cases h0 : l = []
  · exact .inl h0
  rcases h with h | ⟨b, off, e, hlt, h⟩
  · exact .inl h
  · refine .inr ⟨b, off, e, Nat.lt_of_lt_of_le hlt k.1, fun j y hy => ?_⟩
    obtain ⟨e0, e1, e2, e3⟩ := h j y hy
    have hs := k.2.1 b (hB h0 b off e)
    exact ⟨(cell_of_block hs).trans e0, (cell_of_block hs).trans e1, (cell_of_block hs).trans e2, (cell_of_block hs).trans e3⟩
theorem kb_bd (e : Ent) : ∀ n ∈ e.kb, 0 ≤ n ∧ n < 256 := by
  intro n hn
  unfold Ent.kb at hn
  rcases List.mem_append.1 hn with h | h
  · unfold sb at h
    obtain ⟨c, _, rfl⟩ := List.mem_map.1 h
    have := c.toNat_lt
    omega
  · unfold byts byteAt at h
    obtain ⟨c, _, rfl⟩ := List.mem_map.1 h
    omega
theorem arg_none (W : World) : Arg W none 0 0 [] := ⟨rfl, by simp, by omega, .inl rfl⟩
set_option maxRecDepth 100000 in
set_option maxHeartbeats 1000000 in
theorem pieces1_in (n : Nat) (hn : 1 ≤ n) (y B1 B2 : Nat) {a : Option Addr} (c : Nat) {l : List Ent} (hf : Fit l) (r : Nat) (hr1 : 1 ≤ r) (hr2 : r ≤ 1024) (hN : l.length ≤ 65536) (B : Nat → Prop) (hB1 : B B1) (hB2 : B B2) (hBa : l ≠ [] → ∀ b off, a = some ⟨b, off, none⟩ → B b)
    (J : List Px → World → Prop) (hJb : ∀ s A B, J s A → Below A.heap.size A B → J s B)
    (hY : ∀ pre x W0 W1, J pre W0 → Below W0.heap.size W0 W1 → Rx x W0 W1 → pre.length < l.length → YieldAt Fence.wide (n - 1) Try.prog y #[x.val] W1 fun e W' => e = .returned (.bool true) ∧ J (pre ++ [x]) W' ∧ Kx B x W1 W')
    (W : World) (hl : RdE W a l) (c1 : W.cell? ⟨B1, 0, none⟩ = some (.slice a l.length c)) (c2 : W.cell? ⟨B2, 0, none⟩ = some (.int .i64 r)) (h0 : J [] W) :
    CallsIn Fence.wide n Try.prog 84 #[.func (.yield y) #[] #[], .pointer (some ⟨B1, 0, none⟩), .pointer (some ⟨B2, 0, none⟩)] W fun e W' => (∃ v, e = .returned v) ∧ ∃ xs, xs.map Px.dat = (List.range l.length).map (dat r l) ∧ J xs W' := by
  have h85 : Fence.wide.fn 85 := trivial
  have h86 : Fence.wide.fn 86 := trivial
  have HL : Hid (RdE W a l) := hl
  have HJ0 : Hid (J [] W) := h0
  have HC2 : Hid (W.cell? ⟨B2, 0, none⟩ = some (.int .i64 r)) := c2
  obtain ⟨N, hNN⟩ : ∃ N, Hid (l.length = N) := ⟨_, rfl⟩
  rw [hNN.out] at hN c1 ⊢
  clear hl h0 c2
  refine callsIn_of_wp Try.func84 rfl trivial ?_ rfl
  simp only [Try.ntmps84, List.size_toArray, List.length_cons, List.length_nil, Nat.reduceAdd, Nat.reduceSub, Array.replicate_succ, Array.replicate_zero, List.push_toArray, List.append_toArray, List.nil_append, List.cons_append]
  gi_wp2
  gi_loopw [4, 12] (fun s4 i wr => ∃ k : Nat, k ≤ N ∧ i = .int .i64 k ∧ ∃ aa na ca, s4 = .slice aa na ca ∧ Hid (Arg wr aa na ca (kP l k)) ∧ Hid (RdE wr a l) ∧ wr.cell? ⟨B2, 0, none⟩ = some (.int .i64 r) ∧ ∃ pre : List Px, Hid (pre.map Px.dat = (List.range k).map (dat r l)) ∧ Hid (J pre wr)) (fun _ i _ => ((N : Int) - intOf i).toNat)
  case atStart => exact ⟨0, Nat.zero_le _, rfl, none, 0, 0, rfl, arg_none W, HL, HC2.out, [], rfl, HJ0⟩
  case round =>
    obtain ⟨k, hk, rfl, aa, na, ca, rfl, HAa, HLr, x2, pre, HP, HJ⟩ := hrel
    rcases Nat.lt_or_ge k N with hkN | hkN
    · have hkz : (k : Int) < N := by omega
      have hkl : k < l.length := by rw [hNN.out]; exact hkN
      obtain ⟨e, he⟩ : ∃ e, l[k]? = some e := ⟨l[k], List.getElem?_eq_getElem hkl⟩
      obtain ⟨b, off, rfl, hat⟩ : ∃ b off, a = some ⟨b, off, none⟩ ∧ EAt wr b (off + k * 4) e := by
        rcases HLr.out with h | ⟨b, off, e', _, h⟩
        · rw [h] at he; simp at he
        · exact ⟨b, off, e', h k e he⟩
      have HPl : Hid (pre.length < l.length) := by have := congrArg List.length HP.out; simp at this; show _ < _; omega
      obtain ⟨e0, e1, e2, e3⟩ := hat
      have hfe := hf e (List.mem_of_getElem? he)
      have HEnc : Hid (∀ W, CallsIn Fence.wide (n - 1) Try.prog 85 #[.agg #[.string e.u, .int .u64 e.s, .int .i64 e.k]] W fun e' w' => ∃ v, e' = .returned (.tuple #[v, .int .i64 0]) ∧ OwnB w' W.heap.size v e.kb ∧ Below W.heap.size W w') := fun W => callsIn_wide.2 (cencode_yes e.u e.s e.k W hfe.1 hfe.2.1)
      gi_wp2_with (gi_at_call 85; refine (HEnc.out _).mono ?_; rintro e' w1 ⟨kv, rfl, ho1, hb1⟩)
      obtain ⟨kb, ko, kc, rfl⟩ := ho1.form (by have := (kb_len hfe.1).2; omega)
      obtain ⟨kn, hkn⟩ : ∃ kn, Hid (e.kb.length = kn) := ⟨_, rfl⟩
      rw [hkn.out] at ho1 ⊢
      have hbA : Below wr.heap.size wr (wr.alloc (Obj.cells #[Value.string e.u, Value.int IntKind.u64 e.s, Value.int IntKind.i64 e.k, Value.string e.v] 48)) := (Below.refl _ _).alloc (Nat.le_refl _) _
      have hbB := hbA.trans (hb1.mono hbA.size)
      have y2 : w1.cell? ⟨B2, 0, none⟩ = some (.int .i64 r) := (hbB.cell (block_lt_of_cell x2)).trans x2
      have BE := (Blk.new wr 48 [.string e.u, .int .u64 e.s, .int .i64 e.k, .string e.v]).upd (S := Non) (Upd.ofBelow hb1) id
      have y3 := BE.cell1 3 _ rfl
      obtain ⟨m, hm⟩ : ∃ m, Hid (k % r = m) := ⟨_, rfl⟩
      have htm : Int.tmod (k : Int) r = m := by rw [← hm.out]; exact Int.tmod_eq_emod_of_nonneg (by omega)
      have hrz : ¬ (r : Int) = 0 := by omega
      have hlE : wr.heap.size < w1.heap.size := BE.lt
      have hl2 : B2 < w1.heap.size := block_lt_of_cell y2
      have hnE : ¬ w1.heap.size = wr.heap.size := by omega
      have hn2 : ¬ w1.heap.size = B2 := by omega
      have hnE' : ¬ wr.heap.size = w1.heap.size := by omega
      have hn2' : ¬ B2 = w1.heap.size := by omega
      gi_wp2
      gi_region
      have HO1 : Hid (OwnB w1 (wr.heap.size + 1) (.slice (some ⟨kb, ko, none⟩) kn kc) e.kb) := by show OwnB _ _ _ _; simpa using ho1
      have hkc : kn ≤ kc := by
        rcases ho1 with ⟨h, _⟩ | ⟨b', o', c', h, _, _, h3, _⟩
        · cases h
        · cases h; rw [hkn.out] at h3; exact h3
      have HAK : Hid (Arg w1 (some ⟨kb, ko, none⟩) kn kc e.kb) := by
        obtain ⟨a', c', e', h'⟩ := HO1.out.arg (kb_bd e) (by have := (kb_len hfe.1).1; omega)
        cases e'; rw [hkn.out] at h'; exact h'
      clear ho1
      rcases Nat.eq_zero_or_pos m with hm0 | hm0
      · subst hm0
        have hcut0 : ∀ W, (Instr.sliceAt 23 (.slice (some ⟨kb, ko, none⟩) kn kc) (some (.int .i64 0)) none none).run Try.prog W = .ok (.slice (cutA (some ⟨kb, ko, none⟩) kc 0) kn kc) W := fun W => bcut_lo2 (some ⟨kb, ko, none⟩) kn kc 0 (by omega) W
        have hbY : Below wr.heap.size wr (w1.alloc (.cells #[.bool true, .int .i64 0, .slice (cutA (some ⟨kb, ko, none⟩) kc 0) kn kc, .string e.v] 96)).drew := (hbB.alloc (by omega) _).drew
        have hRx : Rx ⟨true, 0, cutA (some ⟨kb, ko, none⟩) kc 0, kb, kn, kc, e.v, e.kb.drop 0⟩ wr (w1.alloc (.cells #[.bool true, .int .i64 0, .slice (cutA (some ⟨kb, ko, none⟩) kc 0) kn kc, .string e.v] 96)).drew :=
          ⟨((HAK.out.lo (Nat.zero_le _) hkc).below ((Below.refl _ _).alloc (Nat.le_refl _) _)).below (Below.refl _ _).drew, fun b off h => cutA_blk h, by have := (HO1.out.lt kb rfl).1; show _ ≤ kb; omega, by show 0 ≤ 1032; omega, by show kn ≤ 1032; rw [← hkn.out]; exact (kb_len hfe.1).1, hfe.2.2⟩
        have HKy : Hid (Arg (w1.alloc (.cells #[.bool true, .int .i64 0, .slice (cutA (some ⟨kb, ko, none⟩) kc 0) kn kc, .string e.v] 96)).drew (some ⟨kb, ko, none⟩) kn kc e.kb) := (HAK.out.below ((Below.refl _ _).alloc (Nat.le_refl _) _)).below (Below.refl _ _).drew
        obtain ⟨fn, tmps, assign, body, hy, hR⟩ := hY pre _ wr _ HJ.out hbY hRx (HPl.out)
        have hy0 : (Instr.yield y #[.agg #[.bool true, .int .i64 0, .slice (cutA (some ⟨kb, ko, none⟩) kc 0) kn kc, .string e.v]]).run Try.prog (w1.alloc (.cells #[.bool true, .int .i64 0, .slice (cutA (some ⟨kb, ko, none⟩) kc 0) kn kc, .string e.v] 96)).drew = .ok (.round y fn tmps assign body) (w1.alloc (.cells #[.bool true, .int .i64 0, .slice (cutA (some ⟨kb, ko, none⟩) kc 0) kn kc, .string e.v] 96)).drew := hy
        clear hy
        have HD : Hid ((pre ++ [(⟨true, 0, cutA (some ⟨kb, ko, none⟩) kc 0, kb, kn, kc, e.v, e.kb.drop 0⟩ : Px)]).map Px.dat = (List.range (k + 1)).map (dat r l)) := by
          show _ = _
          rw [List.map_append, HP.out, List.range_succ, List.map_append]
          have : dat r l k = (true, 0, e.kb.drop 0, e.v) := by
            have hc : cA r l k = 0 := by unfold cA; rw [if_pos hm.out]
            unfold dat
            rw [hc, decide_eq_true hm.out]
            unfold kA vA
            rw [he]
          simp [Px.dat, this]
        have HLy : Hid (RdE (w1.alloc (.cells #[.bool true, .int .i64 0, .slice (cutA (some ⟨kb, ko, none⟩) kc 0) kn kc, .string e.v] 96)).drew (some ⟨b, off, none⟩) l) := HLr.out.below hbY
        have z2 : (w1.alloc (.cells #[.bool true, .int .i64 0, .slice (cutA (some ⟨kb, ko, none⟩) kc 0) kn kc, .string e.v] 96)).drew.cell? ⟨B2, 0, none⟩ = some (.int .i64 r) := (hbY.cell (block_lt_of_cell x2)).trans x2
        have HZ2 : Hid _ := z2
        clear hbY hRx z2
        gi_wp2
        refine hR.mono ?_
        rintro e' W3 ⟨rfl, hJ3, hK3⟩
        have HA3 : Hid (Arg W3 (some ⟨kb, ko, none⟩) kn kc (kP l (k + 1))) := by
          have : kP l (k + 1) = e.kb := by show kA l k = _; unfold kA; rw [he]
          show Arg _ _ _ _ _
          rw [this]; exact HKy.out.kept hK3.1 hK3.2.2
        have HL3 : Hid (RdE W3 (some ⟨b, off, none⟩) l) := HLy.out.kept hK3 hBa
        have HC3 : Hid (W3.cell? ⟨B2, 0, none⟩ = some (.int .i64 r)) := (cell_of_block (hK3.2.1 B2 hB2)).trans HZ2.out
        have HJ3 : Hid _ := hJ3
        clear hJ3 hK3 hR hy0
        gi_wp2
        go_roundw
        case rel => exact ⟨k + 1, by omega, by go_num, _, _, _, rfl, HA3, HL3, HC3.out, _, HD, HJ3⟩
        case measure => simp [intOf]; omega
      · have hmz : ((m : Int) == 0) = false := by simp; omega
        obtain ⟨C, hC⟩ : ∃ C, Hid (com (kP l k) e.kb = C) := ⟨_, rfl⟩
        have hCk : C ≤ kn := by rw [← hC.out, ← hkn.out]; exact (com_le _ _).2
        have hcut0 : ∀ W, (Instr.sliceAt 23 (.slice (some ⟨kb, ko, none⟩) kn kc) (some (.int .i64 C)) none none).run Try.prog W = .ok (.slice (cutA (some ⟨kb, ko, none⟩) kc C) (kn - C) (kc - C)) W := fun W => bcut_lo2 (some ⟨kb, ko, none⟩) kn kc C hCk W
        have hbX : Below wr.heap.size wr (w1.alloc (.cells #[.bool false, .int .i64 0, .slice none 0 0, .string e.v] 96)).drew := (hbB.alloc (by omega) _).drew
        have BX : Hid (Blk (w1.alloc (.cells #[.bool false, .int .i64 0, .slice none 0 0, .string e.v] 96)).drew w1.heap.size 96 [.bool false, .int .i64 0, .slice none 0 0, .string e.v]) := (Blk.new w1 96 _).drew
        have HCm : Hid (CallsIn Fence.wide (n - 1) Try.prog 86 #[.slice aa na ca, .slice (some ⟨kb, ko, none⟩) kn kc] (w1.alloc (.cells #[.bool false, .int .i64 0, .slice none 0 0, .string e.v] 96)).drew fun e' w' => e' = .returned (.int .i64 C) ∧ Below (w1.alloc (.cells #[.bool false, .int .i64 0, .slice none 0 0, .string e.v] 96)).drew.heap.size (w1.alloc (.cells #[.bool false, .int .i64 0, .slice none 0 0, .string e.v] 96)).drew w') := by
          have := incommon_any (HAa.out.below hbX) ((HAK.out.below ((Below.refl _ _).alloc (Nat.le_refl _) _)).below (Below.refl _ _).drew)
          rw [hC.out] at this
          exact callsIn_wide.2 this
        have HYc : Hid (∀ w2, Below (w1.alloc (.cells #[.bool false, .int .i64 0, .slice none 0 0, .string e.v] 96)).drew.heap.size (w1.alloc (.cells #[.bool false, .int .i64 0, .slice none 0 0, .string e.v] 96)).drew w2 → ∃ fn tmps assign body,
            (Instr.yield y #[.agg #[.bool false, .int .i64 C, .slice (cutA (some ⟨kb, ko, none⟩) kc C) (kn - C) (kc - C), .string e.v]]).run Try.prog ((w2.setCell ⟨w1.heap.size, 1, none⟩ (.int .i64 C)).setCell ⟨w1.heap.size, 2, none⟩ (.slice (cutA (some ⟨kb, ko, none⟩) kc C) (kn - C) (kc - C))) = .ok (.round y fn tmps assign body) ((w2.setCell ⟨w1.heap.size, 1, none⟩ (.int .i64 C)).setCell ⟨w1.heap.size, 2, none⟩ (.slice (cutA (some ⟨kb, ko, none⟩) kc C) (kn - C) (kc - C))) ∧
            RoundIn Fence.wide (n - 1) Try.prog y fn tmps assign body ((w2.setCell ⟨w1.heap.size, 1, none⟩ (.int .i64 C)).setCell ⟨w1.heap.size, 2, none⟩ (.slice (cutA (some ⟨kb, ko, none⟩) kc C) (kn - C) (kc - C))) fun e' W3 => e' = .returned (.bool true) ∧
              Hid (Arg W3 (some ⟨kb, ko, none⟩) kn kc (kP l (k + 1))) ∧ Hid (RdE W3 (some ⟨b, off, none⟩) l) ∧ Hid (W3.cell? ⟨B2, 0, none⟩ = some (.int .i64 r)) ∧ ∃ pre : List Px, Hid (pre.map Px.dat = (List.range (k + 1)).map (dat r l)) ∧ Hid (J pre W3)) := by
          intro w2 hb2
          obtain ⟨WY, hWY⟩ : ∃ WY, (w2.setCell ⟨w1.heap.size, 1, none⟩ (.int .i64 C)).setCell ⟨w1.heap.size, 2, none⟩ (.slice (cutA (some ⟨kb, ko, none⟩) kc C) (kn - C) (kc - C)) = WY := ⟨_, rfl⟩
          rw [hWY]
          have hbX2 : Below wr.heap.size wr w2 := hbX.trans (hb2.mono (by simp; omega))
          have hbY : Below wr.heap.size wr WY := by rw [← hWY]; exact (hbX2.setCell (p := ⟨w1.heap.size, 1, none⟩) (by show wr.heap.size ≤ w1.heap.size; omega) _).setCell (p := ⟨w1.heap.size, 2, none⟩) (by show wr.heap.size ≤ w1.heap.size; omega) _
          have hb12 : Below w1.heap.size w1 WY := by
            rw [← hWY]
            exact (((((Below.refl _ _).alloc (Nat.le_refl _) _).drew).trans (hb2.mono (by simp))).setCell (p := ⟨w1.heap.size, 1, none⟩) (Nat.le_refl _) _).setCell (p := ⟨w1.heap.size, 2, none⟩) (Nat.le_refl _) _
          have hKy : Arg WY (some ⟨kb, ko, none⟩) kn kc e.kb := HAK.out.below hb12
          have hRx : Rx ⟨false, C, cutA (some ⟨kb, ko, none⟩) kc C, kb, kn - C, kc - C, e.v, e.kb.drop C⟩ wr WY :=
            ⟨hKy.lo hCk hkc, fun b off h => cutA_blk h, by have := (HO1.out.lt kb rfl).1; show _ ≤ kb; omega, by show C ≤ 1032; have := (kb_len hfe.1).1; rw [hkn.out] at this; omega, by show kn - C ≤ 1032; have := (kb_len hfe.1).1; rw [hkn.out] at this; omega, hfe.2.2⟩
          obtain ⟨fn, tmps, assign, body, hy, hR⟩ := hY pre _ wr _ HJ.out hbY hRx (HPl.out)
          refine ⟨fn, tmps, assign, body, hy, hR.mono ?_⟩
          rintro e' W3 ⟨rfl, hJ3, hK3⟩
          refine ⟨rfl, ?_, (HLr.out.below hbY).kept hK3 hBa, (cell_of_block (hK3.2.1 B2 hB2)).trans ((hbY.cell (block_lt_of_cell x2)).trans x2), _, ?_, hJ3⟩
          · have : kP l (k + 1) = e.kb := by show kA l k = _; unfold kA; rw [he]
            show Arg _ _ _ _ _
            rw [this]; exact hKy.kept hK3.1 hK3.2.2
          · show _ = _
            rw [List.map_append, HP.out, List.range_succ, List.map_append]
            have : dat r l k = (false, C, e.kb.drop C, e.v) := by
              have hc : cA r l k = C := by unfold cA; rw [if_neg (by rw [hm.out]; omega)]; unfold kA; rw [he]; exact hC.out
              unfold dat
              rw [hc, decide_eq_false (by rw [hm.out]; omega)]
              unfold kA vA
              rw [he]
            simp [Px.dat, this]
        gi_wp2_with (gi_at_call 86; refine HCm.out.mono ?_; rintro e' w2 ⟨rfl, hb2⟩; have B2x := BX.out.upd (S := Non) (Upd.ofBelow hb2) id; have q0 := B2x.cell1 0 _ rfl; have q1 := B2x.cell1 1 _ rfl; have q2 := B2x.cell1 2 _ rfl; have q3 := B2x.cell1 3 _ rfl; have f1 := B2x.frozen 1; have f2 := B2x.frozen 2; obtain ⟨fn, tmps, assign, body, hy, hR⟩ := HYc.out w2 hb2)
        refine hR.mono ?_
        rintro e' W3 ⟨rfl, HA3, HL3, HC3, pre', HD, HJ3⟩
        clear hR hy
        gi_wp2
        go_roundw
        case rel => exact ⟨k + 1, by omega, by go_num, _, _, _, rfl, HA3, HL3, HC3.out, _, HD, HJ3⟩
        case measure => simp [intOf]; omega
    · have hkz : ¬ (k : Int) < N := by omega
      obtain rfl : k = N := by omega
      gi_wp2
      go_end0
      exact ⟨⟨_, rfl⟩, pre, HP.out, HJ.out⟩
end Go.Proofs.Ytbnllobofndckaa
