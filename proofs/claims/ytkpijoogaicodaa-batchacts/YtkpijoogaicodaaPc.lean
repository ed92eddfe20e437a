import Derived.Test.YtkpijoogaicodaaPa
import Derived.Test.YtkpijoogaicodaaBl
namespace Go.Proofs.Ytkpijoogaicodaa
open Go.RowKit
set_option linter.unusedVariables false
set_option linter.unusedSimpArgs false

theorem fine_plain {r : Rec} (f0 : 0 ≤ r.fam) (f1 : r.fam < 4294967296) (h : rchk r = 0) : Fine (plainR r) := by
  have hz := rchk_zero h
  unfold plainR
  split
  · rename_i hk
    exact ⟨f0, f1, (by show r.key.size ≤ _; omega), fun _ => by show (0 : Nat) ≤ _; omega⟩
  · rename_i hk
    exact ⟨f0, f1, by omega, fun _ => by have := hz.2.1 hk; omega⟩
theorem fine_add {rs : List Rec} {r : Rec} (h : ∀ x ∈ rs, Fine x) (f0 : 0 ≤ r.fam) (f1 : r.fam < 4294967296) : ∀ x ∈ addL rs r, Fine x := by
  unfold addL
  split
  · rename_i he
    intro x hx
    rcases List.mem_append.1 hx with hx | hx
    · exact h x hx
    · simp at hx
      subst hx
      refine fine_plain f0 f1 ?_
      unfold addE at he
      split at he
      · exact he
      · rename_i h1; simpa using h1
  · exact h
theorem fine_all {rs l : List Rec} (h : ∀ x ∈ rs, Fine x) (hf : ∀ r ∈ l, 0 ≤ r.fam ∧ r.fam < 4294967296) : ∀ x ∈ addAll rs l, Fine x := by
  induction l generalizing rs with
  | nil => exact h
  | cons r l ih => exact ih (fine_add h (hf r (by simp)).1 (hf r (by simp)).2) (fun x hx => hf x (by simp [hx]))
theorem addL_ext (rs : List Rec) (r : Rec) : ∃ t, addL rs r = rs ++ t := by
  unfold addL
  split
  · exact ⟨_, rfl⟩
  · exact ⟨[], by simp⟩
theorem addAll_ext (rs l : List Rec) : ∃ t, addAll rs l = rs ++ t := by
  induction l generalizing rs with
  | nil => exact ⟨[], by simp [addAll]⟩
  | cons r l ih =>
    obtain ⟨t, ht⟩ := addL_ext rs r
    obtain ⟨t', ht'⟩ := ih (addL rs r)
    refine ⟨t ++ t', ?_⟩
    show addAll (addL rs r) l = _
    rw [ht', ht, List.append_assoc]
structure BkS (w W : World) (rv mv wv : Value) (X rs : List Rec) : Prop where
  bel : Below w.heap.size w W
  b : Bt W w.heap.size rv mv rs [X.length]
  was : W.ownsRow 0 31 4 wv X.length (rcs X)
  nr : New w.heap.size rv
  nm : New w.heap.size mv
  dj : Dj rv wv
theorem ofm_new {N b : Nat} {mv : Value} (hb : N ≤ b) (h : New N mv) : ∀ k, OfM b mv k → N ≤ k := by
  rintro k (rfl | e)
  · exact hb
  · exact h k e
theorem BkS.begin {w wr w2 w3 : World} {rv mv v1 : Value} {X : List Rec} (hbel : Below w.heap.size w wr) (T : Bt wr w.heap.size rv nilv X []) (hnew : New w.heap.size rv) (hb1 : Below wr.heap.size wr w2) (ho1 : w2.ownsRow 0 31 4 v1 X.length (rcs X)) (hn1 : ∀ k, v1.ownBlock = some k → wr.heap.size ≤ k)
    (g1 : Bt w3 w.heap.size rv mv X ([] ++ [X.length])) (g2 : Upd (OfM w.heap.size nilv) w2 w3) (g3 : mv.ownBlock = nilv.ownBlock ∨ ∀ j, mv.ownBlock = some j → w2.heap.size ≤ j) : BkS w w3 rv mv v1 X X := by
  have b2 := bstep hbel hb1
  have T2 := T.below hb1
  refine ⟨Upd.bel b2 g2 (ofm_new (Nat.le_refl _) (New.nil _)), g1, row_upd ho1 g2 ?_, hnew, (New.nil _).step b2.size g3, ?_⟩
  · rintro k hk (rfl | e)
    · exact row_ne ho1 T2.blk (by decide) _ hk rfl
    · cases e
  · intro k hk hk'
    have := hn1 k hk'
    have := (T.row.lt k hk).2
    omega
theorem BkS.add {w W W' : World} {rv mv wv rv' : Value} {X rs rs' : List Rec} (h : BkS w W rv mv wv X rs) (g1 : Bt W' w.heap.size rv' mv rs' [X.length]) (g2 : Upd (Of w.heap.size rv) W W') (g3 : rv'.ownBlock = rv.ownBlock ∨ ∀ j, rv'.ownBlock = some j → W.heap.size ≤ j) : BkS w W' rv' mv wv X rs' := by
  refine ⟨Upd.bel h.bel g2 (of_new (Nat.le_refl _) h.nr), g1, row_upd h.was g2 ?_, h.nr.step h.bel.size g3, h.nm, h.dj.step g3 h.was⟩
  rintro k hk (rfl | e)
  · exact row_ne h.was h.b.blk (by decide) _ hk rfl
  · exact h.dj k e hk
theorem BkS.back {w W W' : World} {rv mv wv : Value} {X rs : List Rec} (h : BkS w W rv mv wv X rs) (g2 : Upd (OfA w.heap.size rv mv) W W') : Below w.heap.size w W' :=
  Upd.bel h.bel g2 (by
    rintro k (rfl | e | e)
    · exact Nat.le_refl _
    · exact h.nr k e
    · exact h.nm k e)
theorem BkS.keep {w W W' : World} {rv mv wv : Value} {X rs : List Rec} (h : BkS w W rv mv wv X rs) (g2 : Upd (OfA w.heap.size rv mv) W W') : W'.ownsRow 0 31 4 wv X.length (rcs X) :=
  row_upd h.was g2 (by
    rintro k hk (rfl | e | e)
    · exact row_ne h.was h.b.blk (by decide) _ hk rfl
    · exact h.dj k e hk
    · exact row_row_ne h.was h.b.marks (by decide) k hk e)
theorem beq_self_i (a : Int) : (a == a) = true := by simp

set_option maxRecDepth 100000 in
set_option maxHeartbeats 3200000 in
theorem back_walk {w : World} {va vb : Value} {la lb : List Rec} (ha : RdR w va la) (hb : RdR w vb lb) (fa : Fam la) (fb : Fam lb) (na : la.length ≤ 140737488355328) (nb : lb.length ≤ 140737488355328) :
    Calls Try.prog 6 #[va, vb] w fun e w' => e = .returned (.bool true) ∧ Below w.heap.size w w' := by
  obtain ⟨aa, ca, rfl⟩ := ha.len
  obtain ⟨ab, cb, rfl⟩ := hb.len
  have T0 := Bt.new w
  go_enter Try.func6, Try.ntmps6
  go_wp2
  go_loopw [6] (fun i wr => ∃ (k : Nat) (rv : Value), k ≤ la.length ∧ i = .int .i64 k ∧ Bt wr w.heap.size rv nilv (addAll [] (la.take k)) [] ∧ Below w.heap.size w wr ∧ New w.heap.size rv) (fun i _ => la.length - (intOf i).toNat)
  case atStart => exact ⟨0, _, Nat.zero_le _, rfl, T0, (Below.refl _ _).alloc (Nat.le_refl _) _, New.nil _⟩
  case round =>
    clear T0
    obtain ⟨k, rv, hk, rfl, T, hbel, hnew⟩ := hrel
    have hG := addAll_good Good.nil (la.take k)
    by_cases hlt : k < la.length
    · obtain ⟨b, off, cap, hv, hb1, hr⟩ := ha.at hlt
      cases hv
      obtain ⟨c0, c1, c2, c3⟩ := hr.upd (S := fun _ => False) (Upd.ofBelow hbel) hb1 (fun hh => hh)
      have HT := addAll_take [] la k hlt
      have HF := fa _ (List.getElem_mem hlt)
      generalize la[k] = r at *
      generalize addAll [] (la.take k) = rs at *
      have HA := fun W b rv (h : Bt W b rv nilv rs []) => add_any h hG r HF.1 HF.2
      have hlk : (k : Int) < (la.length : Int) := by omega
      generalize addE rs r = E at *
      obtain ⟨f, kd, key, val⟩ := r
      dsimp only at *
      have HT' : Hid (addAll [] (la.take (k + 1)) = addL rs ⟨f, kd, key, val⟩) := HT
      clear HT
      go_wp2_with (go_at_call 19; refine (HA _ _ _ T).mono ?_; rintro e w1 ⟨rv', rfl, g1, g2, g3⟩)
      go_roundw
      case rel => exact ⟨k + 1, rv', by omega, by go_num, by rw [HT'.out]; exact g1, Upd.bel hbel g2 (of_new (Nat.le_refl _) hnew), hnew.step hbel.size g3⟩
      case measure => simp [intOf]; omega
    · obtain rfl : k = la.length := by omega
      rw [List.take_length] at T hG
      have hFX := fine_all (rs := []) (by simp) fa
      generalize addAll [] la = X at *
      clear ha fa na
      have hgl := hG.len
      have hgs := hG.size
      go_wp2_with (first
        | (go_at_call 22; refine (save_any T1 (by simp)).mono ?_; rintro e w3 ⟨mv, rfl, g1, g2, g3⟩)
        | (go_at_call 21; refine (size_any T1.blk (by omega)).mono ?_; rintro e w2 ⟨rfl, rfl⟩)
        | (go_at_call 20; refine (records_any T (by omega)).mono ?_; rintro e w1 ⟨v1, rfl, ho1, hb1, hn1⟩; have T1 := T.below hb1))
      have S0 : BkS w w3 rv mv v1 X X := BkS.begin hbel T hnew hb1 ho1 hn1 g1 g2 g3
      clear T T1 g1 g2 g3 ho1 hn1 hb1 hbel hnew
      go_loopw [9] (fun i wr => ∃ (k : Nat) (rv : Value), k ≤ lb.length ∧ i = .int .i64 k ∧ BkS w wr rv mv v1 X (addAll X (lb.take k))) (fun i _ => lb.length - (intOf i).toNat)
      case atStart => exact ⟨0, _, Nat.zero_le _, rfl, S0⟩
      case round =>
        clear S0
        obtain ⟨k, rv, hk, rfl, S⟩ := hrel
        have hGK := addAll_good hG (lb.take k)
        by_cases hlt : k < lb.length
        · obtain ⟨b, off, cap, hv, hb1, hr⟩ := hb.at hlt
          cases hv
          obtain ⟨c0, c1, c2, c3⟩ := hr.upd (S := fun _ => False) (Upd.ofBelow S.bel) hb1 (fun hh => hh)
          have HT := addAll_take X lb k hlt
          have HF := fb _ (List.getElem_mem hlt)
          generalize lb[k] = r at *
          generalize addAll X (lb.take k) = rs at *
          have HA := fun W b rv mv ms (h : Bt W b rv mv rs ms) => add_any h hGK r HF.1 HF.2
          have hlk : (k : Int) < (lb.length : Int) := by omega
          generalize addE rs r = E at *
          obtain ⟨f, kd, key, val⟩ := r
          dsimp only at *
          have HT' : Hid (addAll X (lb.take (k + 1)) = addL rs ⟨f, kd, key, val⟩) := HT
          clear HT
          go_wp2_with (go_at_call 19; refine (HA _ _ _ _ _ S.b).mono ?_; rintro e w1 ⟨rv', rfl, g1, g2, g3⟩)
          go_roundw
          case rel => exact ⟨k + 1, rv', by omega, by go_num, by rw [HT'.out]; exact S.add g1 g2 g3⟩
          case measure => simp [intOf]; omega
        · obtain rfl : k = lb.length := by omega
          rw [List.take_length] at S hGK
          have hFK := fine_all hFX fb
          obtain ⟨t, ht⟩ := addAll_ext X lb
          have hXl : X.length ≤ (addAll X lb).length := by rw [ht]; simp
          have hXt : (addAll X lb).take X.length = X := by rw [ht]; simp
          generalize addAll X lb = Z at *
          have HB := back_any (ms := []) S.b hXl hGK hFK
          rw [hXt] at HB
          clear ht hXt hFK hb fb
          go_wp2_with (first
            | (go_at_call 12; refine (lives_any _).mono ?_; rintro e w9 ⟨rfl, hb9⟩)
            | (go_at_call 23; refine (back_none T7).mono ?_; rintro e w8 ⟨rfl, rfl⟩; have L8 := L7)
            | (go_at_call 21; refine (size_any T6.blk (by omega)).mono ?_; rintro e w7 ⟨rfl, rfl⟩; have T7 := T6; have L7 := L6)
            | (go_at_call 14; refine (same_yes R5 R4 (by omega)).mono ?_; rintro e w6 ⟨rfl, hb6⟩; have T6 := T5.below hb6; have L6 := bstep L5 hb6)
            | (go_at_call 20; refine (records_any T4 (by omega)).mono ?_; rintro e w5 ⟨v5, rfl, ho5, hb5, hn5⟩; have R5 := row_rd ho5; have R4 := R3.below hb5; have T5 := T4.below hb5; have L5 := bstep L4 hb5)
            | (go_at_call 23; refine HB.mono ?_; rintro e w4 ⟨rv4, mv4, rfl, g1, g2, g3, g4⟩; have T4 := g1; have L4 := S.back g2; have R3 := row_rd (S.keep g2)))
          go_ret
          exact ⟨rfl, bstep L8 hb9⟩
end Go.Proofs.Ytkpijoogaicodaa
