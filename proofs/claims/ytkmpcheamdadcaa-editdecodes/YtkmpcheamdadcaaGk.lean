/-
  EditDecodes' walk.
  Bytes as the form reads them.
-/
import Derived.Test.YtkmpcheamdadcaaGh
import Derived.Test.YtkmpcheamdadcaaGi
import Derived.Test.YtkmpcheamdadcaaZt
import Derived.Test.YtkmpcheamdadcaaZe
import Derived.Test.YtkmpcheamdadcaaWc
import Derived.Test.YtkmpcheamdadcaaGb
import Derived.OpenShut
namespace Go.Proofs.Ytkmpcheamdadcaa
open Go.RowKit
set_option linter.unusedVariables false
set_option linter.unusedSimpArgs false
theorem own_cap {w : World} {base : Nat} {a : Option Addr} {n cap : Nat} {l : List Int} (h : OwnB w base (.slice a n cap) l) : l.length ≤ cap := by
  rcases h with ⟨e, rfl⟩ | ⟨b, off, c, e, _, _, h3, _⟩
  · simp
  · cases e; exact h3
theorem own_blk {w : World} {base : Nat} {a : Option Addr} {n cap : Nat} {l : List Int} (h : OwnB w base (.slice a n cap) l) : ∀ p : Addr, a = some p → p.block < w.heap.size := by
  intro p hp
  subst hp
  exact (h.lt p.block rfl).2
theorem own_str {w : World} {base : Nat} {v : Value} {l : List Int} (h : OwnB w base v l) : (convert 28 9 v).run Try.prog w = .ok (.string (bstr l)) w := h.run_string (P := Try.prog) 28 9 Try.underlying28 Try.underlying5 Try.underlying9
theorem ed0_rd (w : World) : RdEd w nilE ed0 := ⟨.inl rfl, .inl rfl, fun _ => rfl, fun _ => rfl, by decide, by decide⟩
set_option maxRecDepth 100000 in
set_option maxHeartbeats 4000000 in
theorem decodes_walk {w : World} {a : Option Addr} {cap : Nat} {l : List Int} (h : Arg w a l.length cap l) (hcap : l.length ≤ cap) (hlt : ∀ p : Addr, a = some p → p.block < w.heap.size) :
    Calls Try.prog 4 #[.slice a l.length cap] w fun e w' => e = .returned (.bool true) ∧ Below w.heap.size w w' := by
  obtain ⟨i0, hi, hz0, hz1, hz2⟩ := info_parts info5
  have hA : Arg (w.alloc (.cells #[] 5)) a l.length cap l := h.below ((Below.refl _ _).alloc (Nat.le_refl _) _)
  have HL : Hid (([] : List Int).length + l.length ≤ 140737488355328) := by show _ ≤ _; have := h.2.2.1; simp; omega
  have hby : Byt l := h.2.1
  have hn : (l.length : Int) ≤ 140737488351232 := by have := h.2.2.1; omega
  cases hp : pEd l with
  | error c =>
    obtain ⟨x, hx⟩ : ∃ x, ed0 = x := ⟨_, rfl⟩
    have hc := (pEd_er hp).ne
    have hself : (c != c) = false := by simp
    have HD : ∀ {W : World} {e : Ending} {W' : World}, DecPost W (pEd l) e W' → ∃ P, e = .returned (.tuple #[.agg (edA P x), .int .i64 c]) ∧ RdEd W' P x ∧ Below W.heap.size W W' := by
      rintro W e W' ⟨⟨e', P, h1, _⟩ | ⟨c', h1, rfl⟩, hb⟩
      · rw [hp] at h1; cases h1
      · rw [hp] at h1; cases h1; exact ⟨nilE, by rw [← hx], by rw [← hx]; exact ed0_rd _, hb⟩
    have HS : Hid (∀ W P Q, RdEd W P x → RdEd W Q x → Calls Try.prog 13 #[.agg (edA P x), .agg (edA Q x)] W fun en w' => en = .returned (.bool true) ∧ Below W.heap.size W w') := fun W P Q h1 h2 => by rw [← sameB_self x]; exact rsame_any h1 h2
    have n1 : (x.name.toList != x.name.toList) = false := by simp
    have n2 : (x.name.toList == x.name.toList) = true := by simp
    have n3 : (x.log != x.log) = false := by simp
    have n4 : (x.next != x.next) = false := by simp
    have n5 : (x.seq != x.seq) = false := by simp
    clear hp hx
    go_enter Try.func4, Try.ntmps4
    go_wp2_with (first
      | (go_at_call 14; refine (lives_any _).mono ?_; rintro e w5 ⟨rfl, hb5⟩)
      | (have hq := HB3; clear hq; go_at_call 13; refine (HS.out _ _ _ (S1.below (al1 _ _)) (S2.below (al1 _ _))).mono ?_; rintro e w4 ⟨rfl, hb4⟩
         have b4 := bstep b3' hb4
         have HB4 : Hid True := trivial
         have X4 := (X3.alloc (edO P2 x)).upd (S := Non) (Upd.ofBelow hb4) (fun h => h)
         have Y4 := (ed_box w3 P2 x).upd (S := Non) (Upd.ofBelow hb4) (fun h => h)
         clear a0 a1 a2 a3 a4 a5 a6 a7 a8 a9 a10 a11 a12 la
         obtain ⟨a0, a1, a2, a3, a4, a5, a6, a7, a8, a9, a10, a11, a12, la⟩ := ed13 X4
         obtain ⟨d0, d1, d2, d3, d4, d5, d6, d7, d8, d9, d10, d11, d12, lb⟩ := ed13 Y4
         have T1 := (S1.below (al1 w3 (edO P2 x))).below hb4)
      | (have hq := HB2; clear hq; go_at_call 16; refine (rdecode_any (h.below b2') hcap (fun p hp => Nat.lt_of_lt_of_le (hlt p hp) b2'.size)).mono ?_; intro e w3 hd3; obtain ⟨P2, rfl, S2, hb3⟩ := HD hd3; clear hd3
         have b3 := bstep b2' hb3
         have b3' := bstep b3 (al1 w3 (edO P2 x))
         have HB3 : Hid True := trivial
         have S1 := (R1.below (al1 w2 (edO P1 x))).below hb3
         have X3 := (ed_box w2 P1 x).upd (S := Non) (Upd.ofBelow hb3) (fun h => h)
         obtain ⟨a0, a1, a2, a3, a4, a5, a6, a7, a8, a9, a10, a11, a12, la⟩ := ed13 X3)
      | (go_at_call 15; refine (decode_any hA1 hcp (own_blk hown')).mono ?_; intro e w2 hd2; obtain ⟨P1, rfl, R1, hb2⟩ := HD hd2; clear hd2; have b2 := bstep hbel hb2; have b2' := bstep b2 (al1 w2 (edO P1 x)); have HB2 : Hid True := trivial)
      | (at_builtin; refine OwnB.wpList_append rfl _ _ 28 28 rfl rfl (base := w.heap.size) (l := []) (own_empty w) i0 Try.underlying28 hi hz0 hz1 hz2 _ rfl l hA.src (by simp) HL.out ?_; intro v' w1 hown hgrow hat; obtain ⟨a', cap', rfl, hown', hA1, hA2, hbel⟩ := copy_arg h hown hgrow; have hcp := own_cap hown'; clear hown hgrow hat))
    go_ret
    exact ⟨rfl, bstep b4 hb5⟩
  | ok ed =>
    obtain ⟨hcan, hok, henc⟩ := pEd_canon hby hp
    have HD : ∀ {W : World} {e : Ending} {W' : World}, DecPost W (pEd l) e W' → ∃ P, e = .returned (.tuple #[.agg (edA P ed), .int .i64 0]) ∧ RdEd W' P ed ∧ Below W.heap.size W W' := by
      rintro W e W' ⟨⟨e', P, h1, h2, h3⟩ | ⟨c', h1, _⟩, hb⟩
      · rw [hp] at h1; cases h1; exact ⟨P, h2, h3, hb⟩
      · rw [hp] at h1; cases h1
    have HE : ∀ (W : World) (P : En), RdEd W P ed → Calls Try.prog 9 #[.agg (edA P ed)] W fun en w' => ∃ v, en = .returned (.tuple #[v, .int .i64 0]) ∧ OwnB w' W.heap.size v l ∧ Below W.heap.size W w' := fun W P hR => by
      have q := encode_any hR hok
      have q1 : canE ed = 0 := canE_iff.2 hcan
      have q2 : encR ed = l := by unfold encR; rw [if_pos q1, henc]
      rw [q1, q2] at q
      exact q
    clear henc
    have HS : Hid (∀ W P Q, RdEd W P ed → RdEd W Q ed → Calls Try.prog 13 #[.agg (edA P ed), .agg (edA Q ed)] W fun en w' => en = .returned (.bool true) ∧ Below W.heap.size W w') := fun W P Q h1 h2 => by rw [← sameB_self ed]; exact rsame_any h1 h2
    obtain ⟨S, hS⟩ : ∃ S, bstr l = S := ⟨_, rfl⟩
    have n6 : (S.toList == S.toList) = true := by simp
    have n1 : (ed.name.toList != ed.name.toList) = false := by simp
    have n2 : (ed.name.toList == ed.name.toList) = true := by simp
    have n3 : (ed.log != ed.log) = false := by simp
    have n4 : (ed.next != ed.next) = false := by simp
    have n5 : (ed.seq != ed.seq) = false := by simp
    clear hp
    go_enter Try.func4, Try.ntmps4
    go_wp2_with (first
      | (have hq := HB4; clear hq; go_at_call 9; refine (HE _ _ T1).mono ?_; rintro e w6 ⟨v6, rfl, ho6, hb6⟩; have b6 := bstep b4 hb6; have hs5 := own_str ho6; have hs6 := (h.below b6).str; rw [hS] at hs5 hs6)
      | (go_at_call 14; refine (lives_any _).mono ?_; rintro e w5 ⟨rfl, hb5⟩)
      | (have hq := HB3; clear hq; go_at_call 13; refine (HS.out _ _ _ (S1.below (al1 _ _)) (S2.below (al1 _ _))).mono ?_; rintro e w4 ⟨rfl, hb4⟩
         have b4 := bstep b3' hb4
         have HB4 : Hid True := trivial
         have X4 := (X3.alloc (edO P2 ed)).upd (S := Non) (Upd.ofBelow hb4) (fun h => h)
         have Y4 := (ed_box w3 P2 ed).upd (S := Non) (Upd.ofBelow hb4) (fun h => h)
         clear a0 a1 a2 a3 a4 a5 a6 a7 a8 a9 a10 a11 a12 la
         obtain ⟨a0, a1, a2, a3, a4, a5, a6, a7, a8, a9, a10, a11, a12, la⟩ := ed13 X4
         obtain ⟨d0, d1, d2, d3, d4, d5, d6, d7, d8, d9, d10, d11, d12, lb⟩ := ed13 Y4
         have T1 := (S1.below (al1 w3 (edO P2 ed))).below hb4)
      | (have hq := HB2; clear hq; go_at_call 16; refine (rdecode_any (h.below b2') hcap (fun p hp => Nat.lt_of_lt_of_le (hlt p hp) b2'.size)).mono ?_; intro e w3 hd3; obtain ⟨P2, rfl, S2, hb3⟩ := HD hd3; clear hd3
         have b3 := bstep b2' hb3
         have b3' := bstep b3 (al1 w3 (edO P2 ed))
         have HB3 : Hid True := trivial
         have S1 := (R1.below (al1 w2 (edO P1 ed))).below hb3
         have X3 := (ed_box w2 P1 ed).upd (S := Non) (Upd.ofBelow hb3) (fun h => h)
         obtain ⟨a0, a1, a2, a3, a4, a5, a6, a7, a8, a9, a10, a11, a12, la⟩ := ed13 X3)
      | (go_at_call 15; refine (decode_any hA1 hcp (own_blk hown')).mono ?_; intro e w2 hd2; obtain ⟨P1, rfl, R1, hb2⟩ := HD hd2; clear hd2; have b2 := bstep hbel hb2; have b2' := bstep b2 (al1 w2 (edO P1 ed)); have HB2 : Hid True := trivial)
      | (at_builtin; refine OwnB.wpList_append rfl _ _ 28 28 rfl rfl (base := w.heap.size) (l := []) (own_empty w) i0 Try.underlying28 hi hz0 hz1 hz2 _ rfl l hA.src (by simp) HL.out ?_; intro v' w1 hown hgrow hat; obtain ⟨a', cap', rfl, hown', hA1, hA2, hbel⟩ := copy_arg h hown hgrow; have hcp := own_cap hown'; clear hown hgrow hat))
    go_ret
    exact ⟨rfl, bstep b6 hb5⟩
end Go.Proofs.Ytkmpcheamdadcaa
namespace Go.Proofs.Ytkmpcheamdadcaa
open Go.RowKit
set_option linter.unusedVariables false
/-- A slice of bytes as the form reads it. -/
theorem arg_open {W : World} {x : Addr} {len cap : Nat} {zs : List Int} (hl : len ≤ cap) (hz : zs.length = cap) (hcell : ∀ i, i < zs.length → W.cell? (x.add i) = some (.int .u8 (zs.getD i 0)))
    (hwz : ∀ n ∈ zs, (Lit.int .u8 n).wf = true) (hb : len ≤ 140737488351232) : Arg W (some x) len cap (zs.take len) := by
  refine ⟨by simp; omega, fun n hn => ?_, hb, ?_⟩
  · have h := hwz n (List.mem_of_mem_take hn)
    simp [Lit.wf, IntKind.min, IntKind.max, IntKind.signed, IntKind.bits] at h
    omega
  · by_cases h0 : len = 0
    · left; subst h0; simp
    · right
      obtain ⟨b, off, spot⟩ := x
      have hc := hcell 0 (by omega)
      have hspot : spot = none := by simpa [Addr.add] using World.cell?_spot hc
      subst hspot
      have e : ∀ j, (⟨b, off, none⟩ : Addr).add j = ⟨b, off + j, none⟩ := fun j => by unfold Addr.add; split <;> simp_all
      refine ⟨b, off, rfl, ?_, fun j hj => ?_⟩
      · exact World.block_lt_of_cell? W ((⟨b, off, none⟩ : Addr).add 0) hc
      · have hj' : j < len := by simp at hj; omega
        have := hcell j (by omega)
        rw [e] at this
        rw [this, List.getD_eq_getElem?_getD, List.getElem?_eq_getElem (by omega)]
        simp
/-- A slice that came in lies in a block of the heap. -/
theorem okWide_lt {P : Program} {W : World} {base : Nat} {t e : TypeId} {a : Option Addr} {len cap : Nat} (ht : P.underlying t = some (.slice e)) (h : Value.okWide P W .any base t (.slice a len cap)) :
    ∀ k, Value.ownBlock (.slice a len cap) = some k → k < W.heap.size := by
  intro k hk
  simp only [Value.okWide, ht, Cell.okWide, Cell.ok] at h
  cases a with
  | none => simp [Value.ownBlock] at hk
  | some x =>
    obtain ⟨_, _, _, _, row, cells, hs, _⟩ := h
    have hkx : x.block = k := by simpa [Value.ownBlock] using hk
    subst hkx
    unfold World.shape? at hs
    rcases Nat.lt_or_ge x.block W.heap.size with hh | hh
    · exact hh
    · rw [Array.getElem?_eq_none hh] at hs; simp at hs
end Go.Proofs.Ytkmpcheamdadcaa
