import Derived.Test.YtkdjahgndkdnhaaN
import Derived.Maps.RangeWalk
namespace Go.Proofs.Ytkdjahgndkdnhaa
open Go.RowKit Go.Maps
set_option linter.unusedVariables false
set_option linter.unusedSimpArgs false
/-- The locks behind a task's failing. -/
def freeH (H : Int → Option Int) (n : Nat) : Int → Option Int := fun x => if H x = some (n : Int) then none else H x
/-- The locks in mid-loop. -/
def midH (H : Int → Option Int) (n : Nat) (left : Lit → Bool) : Int → Option Int := fun x => if H x = some (n : Int) ∧ left (.int .i64 x) = false then none else H x
structure RgI (w : World) (m r c : Nat) (H' : Int → Option Int) (D : DataW Unit) (left : Lit → Bool) (cnt : Nat) : Prop where
  rg : w.ranges Try.prog 3 (plainElem Try.prog 3) m r c D left cnt
  at_ : ∀ k, D.atKey (.int .i64 k) (.lit (.int .i64 0)) = .lit (.int .i64 ((H' k).getD 0))
  has : ∀ k, Maps.has D (.int .i64 k) = (H' k).isSome
theorem RgI.im {w : World} {m r c : Nat} {H' : Int → Option Int} {D : DataW Unit} {left : Lit → Bool} {cnt : Nat} (h : RgI w m r c H' D left cnt) : IM w m H' c D := ⟨h.rg.owns, h.at_, h.has⟩
section
variable {w : World} {b p : Nat} {rv : Value} {m : Nat} {ps : List Nat} {ts : List Tk} {t : Tk} {H : Int → Option Int} {st : Nat} {wi : Bool} {c : Nat}
theorem Sc.setTask {w' : World} {t' : Tk} (h : Sc w b rv m ps ts H st wi c) {n : Nat} (hp : ps[n]? = some p) (hP : Blk w p 85 t.c) (hP' : Blk w' p 85 t'.c) (U : Upd (fun j => j = p) w w') : Sc w' b rv m ps (ts.set n t') H st wi c := by
  obtain ⟨D, hD⟩ := h.map
  refine ⟨h.blk.upd U (fun e => hP.ne h.blk (by decide) e.symm), row_upd h.row U (fun k hk e => row_ne h.row hP (by decide) k hk e), h.tks.set h.nd hp hP' ?_, by simp [h.len], h.nd, D, hD.upd U (fun e => hD.ne hP e)⟩
  intro q hq hne cs hB
  exact hB.upd U hne
theorem mid_step {H : Int → Option Int} {n : Nat} {left : Lit → Bool} {x : Int} (hx : left (.int .i64 x) = true) (hH : H x ≠ some (n : Int)) : midH H n (fun z => left z && !z.sameKey (.int .i64 x)) = midH H n left := by
  funext y
  unfold midH
  by_cases e : y = x
  · subst e
    simp [hH]
  · have : (Lit.int .i64 y).sameKey (.int .i64 x) = false := Maps.sameKey_ne (by simpa using e)
    simp [this]
theorem mid_drop {H : Int → Option Int} {n : Nat} {left : Lit → Bool} {x : Int} (hx : left (.int .i64 x) = true) (hH : H x = some (n : Int)) : midH H n (fun z => (left z && !z.sameKey (.int .i64 x)) && !z.sameKey (.int .i64 x)) = fput (midH H n left) x none := by
  funext y
  unfold midH fput
  by_cases e : y = x
  · subst e
    have : (Lit.int .i64 y).sameKey (.int .i64 y) = true := WideAt.sameKey_self (isKeyI y)
    simp [hH, this]
  · have : (Lit.int .i64 y).sameKey (.int .i64 x) = false := Maps.sameKey_ne (by simpa using e)
    simp [this, e]
set_option maxRecDepth 100000 in
set_option maxHeartbeats 1600000 in
theorem fails_any (h : Sc w b rv m ps ts H st wi c) {n : Nat} (hn64 : ps.length ≤ 64) (ht : ts[n]? = some t) :
    Calls Try.prog 64 #[ptr b, .int .i64 n] w fun e w' => e = .returned (.tuple #[]) ∧ Sc w' b rv m ps (ts.set n ({ t with failed := true }.wished 4 0 st)) (freeH H n) st wi c ∧ Upd (fun k => k = m ∨ k ∈ ps) w w' := by
  obtain ⟨p, hp, P⟩ := h.task ht
  obtain ⟨gg, cap, hrv, hcell⟩ := h.at_ hp
  have hnl : n < ps.length := (List.getElem?_eq_some_iff.1 hp).1
  have hnl' : (n : Int) < (ps.length : Int) := by omega
  have hn0 : (0 : Int) ≤ (n : Int) := by omega
  have c0 := h.blk.cell1 0 _ rfl
  rw [hrv] at c0
  have p5 := P.cell1 5 _ rfl
  have z5 := P.frozen 5
  have nbp := P.ne h.blk (by decide)
  have P1 : Blk (w.setCell ⟨p, 5, none⟩ (.bool true)) p 85 ({ t with failed := true } : Tk).c := P.set 5 _
  have B1 := h.blk.other (a := ⟨p, 5, none⟩) nbp.symm (.bool true)
  have HW := wishes_any B1 P1 4 0
  go_enter Try.func64, Try.ntmps64
  go_wp2_with (first
    | (at_range; refine wpList_range_own _ rfl _ 68 rfl 3 3 law3 Try.underlying68 (plainElem Try.prog 3) m c D rfl hD.own ?_; intro w2 hrg hg2 hs2)
    | (go_at_call 63; refine HW.mono ?_; rintro e w1 ⟨rfl, hP, hU⟩
       have U1 : Upd (fun j => j = p) w w1 := ((Upd.refl (fun j => j = p) w).setCell (p := ⟨p, 5, none⟩) (fun _ => rfl) _).trans hU
       have S1 := h.setTask hp P hP U1
       obtain ⟨D, hD⟩ := S1.map
       have d1 := S1.blk.cell1 1 _ rfl
       clear HW P1 B1 hU))
  have U2 : Upd (fun k => k = m) w1 w2 := (Upd.refl (fun k => k = m) w1).grown hg2 (fun k hk => by cases hk)
  have hmid0 : midH H n (Maps.has D) = H := by
    funext y
    unfold midH
    rw [hD.has]
    split
    · rename_i hh; rw [hh.1] at hh; simp at hh
    · rfl
  have R0 : RgI w2 m w1.heap.size c (midH H n (Maps.has D)) D (Maps.has D) (Maps.size D) := ⟨hrg, by rw [hmid0]; exact hD.at_, by rw [hmid0]; exact hD.has⟩
  have lb1 := S1.blk.lt
  have hmem : p ∈ ps := List.mem_of_getElem? hp
  clear hrg hg2 hmid0
  go_frame
  go_loopw [5] (fun _ wr => ∃ (D' : DataW Unit) (left : Lit → Bool) (cnt : Nat), RgI wr m w1.heap.size c (midH H n left) D' left cnt ∧ Upd (fun k => k = m) w1 wr) (fun _ wr => wr.rangeLeft m w1.heap.size)
  case atStart => exact ⟨D, _, _, R0, U2⟩
  case round =>
    clear R0 U2
    obtain ⟨D', left, cnt, R, U⟩ := hrel
    obtain ⟨W, rfl⟩ : ∃ W, W = wr := ⟨_, rfl⟩
    go_wp2_with
      (at_next; refine wpList_next_ranges_ii _ rfl _ rfl 3 3 .i64 .i64 law3 Try.underlying3 Try.underlying3 m w1.heap.size c D' left cnt rfl R.rg ?_ ?_)
    · intro hc0 hl0
      go_wp2
      go_end0
      have hH : midH H n left = freeH H n := by
        funext y
        unfold midH freeH
        simp [hl0]
      refine ⟨rfl, S1.mapped (hH ▸ R.im) U, Upd.then (U1.mono (fun k _ hk => .inr (hk ▸ hmem))) U (fun i _ hi => .inl hi)⟩
    · intro x v w3 cnt' wx wv hlx hat hrg3 hlt hg3 hs3 hen
      have U3 : Upd (fun k => k = m) w1 w3 := Upd.then U ((Upd.refl (fun k => k = w1.heap.size) W).grown hg3 (fun k hk _ => by cases hk; rfl)) (fun i hi e => by have : i = w1.heap.size := e; omega)
      have hI : I64 x := by
        unfold I64
        simp [Lit.wf, IntKind.min, IntKind.max, IntKind.bits, IntKind.signed] at wx
        omega
      have hhas : (midH H n left x).isSome = true := by rw [← R.has]; exact Maps.has_true_of_atKey hat
      have hval : (midH H n left x).getD 0 = v := by
        have h1 := R.at_ x
        rw [hat] at h1
        simpa using h1.symm
      have hHx : H x = some v := by
        unfold midH at hhas hval
        rw [hlx] at hhas hval
        simp only [Bool.true_eq_false, and_false, if_false] at hhas hval
        obtain ⟨u, hu⟩ := Option.isSome_iff_exists.1 hhas
        rw [hu] at hval ⊢
        simp at hval
        rw [hval]
      have e1 := (S1.blk.upd U3 (fun e => (R.im).ne (S1.blk.upd U (fun e' => by
        obtain ⟨D0, hD0⟩ := S1.map
        exact hD0.ne S1.blk e'.symm)) e.symm)).cell1 1 _ rfl
      by_cases hv : v = (n : Int)
      · subst hv
        have hm := mid_drop (H := H) (n := n) hlx hHx
        have hq : ((n : Int) == (n : Int)) = true := by simp
        have A1 : ∀ k, (D'.del (.int .i64 x)).atKey (.int .i64 k) (.lit (.int .i64 0)) = .lit (.int .i64 ((fput (midH H n left) x none k).getD 0)) := by
          intro k
          by_cases e : k = x
          · subst e; rw [atKey_del_same]; simp [fput]
          · rw [atKey_del_other (by simpa using e), R.at_]; simp [fput, e]
        have A2 : ∀ k, Maps.has (D'.del (.int .i64 x)) (.int .i64 k) = (fput (midH H n left) x none k).isSome := by
          intro k
          by_cases e : k = x
          · subst e; rw [has_del_same]; simp [fput]
          · rw [has_del_other (by simpa using e), R.has]; simp [fput, e]
        rw [← hm] at A1 A2
        have A1' : Hid _ := A1
        have A2' : Hid _ := A2
        clear hm hHx hval hhas hat A1 A2
        go_wp2_with
          (at_delete; refine wpList_delete_ranges _ rfl _ _ 68 3 rfl 3 law3 Try.underlying68 (plainElem Try.prog 3) m w1.heap.size c D' _ cnt' rfl hrg3 (.int .i64 x) (.int .i64 x) rfl (key3 hI) ?_; intro w4 cnt4 hrg4 hle hturn; go_frame)
        have RR : RgI w4 m w1.heap.size c _ (D'.del (.int .i64 x)) _ cnt4 := ⟨hrg4, A1'.out, A2'.out⟩
        have U4 : Upd (fun k => k = m) w1 w4 := U3.grown hturn.grown (fun k hk _ => by cases hk; rfl)
        go_roundw
        case rel => exact ⟨_, _, cnt4, RR, U4⟩
        case measure => rw [RR.rg.left_eq, R.rg.left_eq]; omega
      · have hv' : (v == (n : Int)) = false := by simpa using hv
        have hm := mid_step (H := H) (n := n) hlx (by rw [hHx]; simpa using hv)
        have RR : RgI w3 m w1.heap.size c (midH H n (fun z => left z && !z.sameKey (.int .i64 x))) D' (fun z => left z && !z.sameKey (.int .i64 x)) cnt' := ⟨hrg3, by rw [hm]; exact R.at_, by rw [hm]; exact R.has⟩
        clear hm hHx hval hhas hat
        go_wp2
        go_roundw
        case rel => exact ⟨D', _, cnt', RR, U3⟩
        case measure => rw [RR.rg.left_eq, R.rg.left_eq]; omega
end
end Go.Proofs.Ytkdjahgndkdnhaa
