import Derived.Test.YtkdjahgndkdnhaaZe
import Derived.Shelf.SlSortCmp.NoneTotal
import Derived.Deep.Onto
namespace Go.Proofs.Ytkdjahgndkdnhaa
open Go.RowKit Go.Maps Go.Lib
set_option linter.unusedVariables false
set_option linter.unusedSimpArgs false
section
variable {w : World} {b p : Nat} {rv : Value} {m : Nat} {ps : List Nat} {ts : List Tk} {t : Tk} {H : Int → Option Int} {st : Nat} {wi : Bool} {c : Nat}
theorem sort_none (p : Option Addr) (cap : Nat) (fv : Value) (w : World) : Calls Try.prog 58 #[.slice p 0 cap, fv] w fun e w' => e = .returned (.tuple #[]) ∧ w' = w := by
  have L := Try.sortL
  have HS := AnyF.slices_SortFunc_none (P := Try.prog) (ρ := Try.sortL_ren) { L with } p cap fv w
  change Calls Try.prog 58 _ _ _ at HS
  exact HS
theorem sort_all (h : Sc w b rv m ps ts H st wi c) {B : Nat} (hB : Blk w B 25 [ptr b]) {l : List Nat} (hl : ∀ x ∈ l, x < ts.length) (hl64 : l.length ≤ 64) {a : Option Addr} {cp base : Nat} (hr : w.ownsRow base 3 1 (.slice a l.length cp) l.length (ic l)) :
    Calls Try.prog 58 #[.slice a l.length cp, .func (.func 59) #[] #[ptr B]] w fun e w' => e = .returned (.tuple #[]) ∧ ∃ l', l'.Perm l ∧ l'.Pairwise (fun x y => sinceOf ts x ≤ sinceOf ts y) ∧ w'.ownsRow base 3 1 (.slice a l.length cp) l.length (ic l') ∧ Upd (fun k => Value.ownBlock (.slice a l.length cp) = some k) w w' := by
  by_cases hne : l = []
  · subst hne
    refine (sort_none a cp _ w).mono ?_
    rintro e w' ⟨rfl, rfl⟩
    exact ⟨rfl, [], List.Perm.refl _, List.Pairwise.nil, hr, Upd.refl _ _⟩
  · exact sort_any h hB hl hne hl64 hr
theorem wait_mem {on : Int} {x : Nat} (h : x ∈ nums (waitB on) 0 ts) : ∃ t, ts[x]? = some t ∧ t.kind = 2 := by
  obtain ⟨j, t, hj, ht, hq⟩ := nums_iff.1 h
  obtain rfl : x = j := by omega
  refine ⟨t, ht, ?_⟩
  unfold waitB at hq
  simp at hq
  exact hq.1
theorem waitL_one (hA : Apt ts) {on : Int} {l : List Nat} (hp : l.Perm (nums (waitB on) 0 ts)) (hs : l.Pairwise (fun x y => sinceOf ts x ≤ sinceOf ts y)) : l = waitL ts on := by
  refine sorted_one (hp.trans (sortS_perm _ _).symm) hs (sortS_sorted _ _) ?_
  intro x hx y hy e
  obtain ⟨t, ht, kt⟩ := wait_mem (hp.mem_iff.1 hx)
  obtain ⟨u, hu, ku⟩ := wait_mem (hp.mem_iff.1 hy)
  rw [sinceOf_some ht, sinceOf_some hu] at e
  exact hA x y t u ht hu kt ku e
theorem waitL_mem {on : Int} {x : Nat} (h : x ∈ waitL ts on) : ∃ t, ts[x]? = some t ∧ t.kind = 2 := wait_mem ((sortS_perm _ _).mem_iff.1 h)
set_option maxRecDepth 100000 in
set_option maxHeartbeats 1600000 in
theorem waiting_any (h : Sc w b rv m ps ts H st wi c) (hl : ps.length ≤ 64) (hA : Apt ts) (on : Int) :
    Calls Try.prog 39 #[ptr b, .int .i64 on] w fun e w' => ∃ a cp, e = .returned (.slice a (waitL ts on).length cp) ∧ w'.ownsRow w.heap.size 3 1 (.slice a (waitL ts on).length cp) (waitL ts on).length (ic (waitL ts on)) ∧ Below w.heap.size w w' := by
  have hmf : ∀ (fn : Fn) (first cap : Array Value) (w : World), (Instr.makeFunc fn first cap).run Try.prog w = .ok (.func fn first cap) w := fun _ _ _ _ => rfl
  have al := fun (W : World) (o : Obj) => (Below.refl W.heap.size W).alloc (Nat.le_refl _) o
  have B0 := (Blk.new w 25 [ptr b]).alloc (.cells #[.int .i64 on] 3)
  have B1 := Blk.new (w.alloc (.cells #[ptr b] 25)) 3 [.int .i64 on]
  rw [World.size_alloc] at B1
  have hBw : Below w.heap.size w ((w.alloc (.cells #[ptr b] 25)).alloc (.cells #[.int .i64 on] 3)) := (al _ _).alloc (by simp) _
  have S1 := h.below hBw
  have HT := those_any2 S1 hl 57 #[] #[ptr (w.heap.size + 1)] (waitB on) (fun w p => by kernel_rfl) (fun W i p t hW hB hp ht => wait1_any hW (B1.upd (S := Non) (Upd.ofBelow hB) (fun h => h)) hp ht)
  obtain ⟨L0, hL0⟩ : ∃ L0, L0 = nums (waitB on) 0 ts := ⟨_, rfl⟩
  rw [← hL0] at HT
  have hlen : L0.length ≤ 64 := by
    rw [hL0]
    have := nums_len (waitB on) 0 ts
    have := h.len
    omega
  have hmem : ∀ x ∈ L0, x < ts.length := by
    intro x hx
    rw [hL0] at hx
    obtain ⟨t, ht, _⟩ := wait_mem hx
    exact (List.getElem?_eq_some_iff.1 ht).1
  have hw1 := fun (l : List Nat) (hp : l.Perm L0) hs => waitL_one hA (on := on) (hL0 ▸ hp) hs
  have hL0' : Hid _ := hL0
  clear hL0
  go_enter Try.func39, Try.ntmps39
  go_wp2_with (first
    | (go_at_call 47; refine HT.mono ?_; rintro e w2 ⟨v, rfl, hr, hB2⟩
       obtain ⟨a, cp, rfl⟩ := row_form hr
       have S2 := S1.below hB2
       have B2 := B0.upd (S := Non) (Upd.ofBelow hB2) (fun h => h)
       have hBw2 : Below w.heap.size w w2 := hBw.trans (hB2.mono hBw.size)
       clear HT)
    | (go_at_call 58; refine (sort_all S2 B2 hmem hlen hr).mono ?_; rintro e w3 ⟨rfl, l', hpm, hso, hr3, hU3⟩))
  go_ret
  have hl' := hw1 l' hpm hso
  subst hl'
  have hle : L0.length = (waitL ts on).length := hpm.length_eq.symm
  rw [hle] at hr3 ⊢
  refine ⟨a, cp, rfl, World.ownsRow.mono hr3 (by simp; omega), hBw2.trans ⟨hU3.os, hU3.tape, hU3.output, hU3.size, fun k hk => hU3.block k (Nat.lt_of_lt_of_le hk hBw2.size) (fun e => ?_)⟩⟩
  have := (hr.lt k e).1
  simp at this
  omega
set_option maxRecDepth 100000 in
set_option maxHeartbeats 800000 in
/-- Signal, where nobody waits. -/
theorem signal_none (h : Sc w b rv m ps ts H st wi c) (hl : ps.length ≤ 64) (hA : Apt ts) (on : Int) (hw : waitL ts on = []) :
    Calls Try.prog 34 #[ptr b, .int .i64 on] w fun e w' => e = .returned (.tuple #[.int .i64 0, .bool false]) ∧ Below w.heap.size w w' := by
  have HW := waiting_any h hl hA on
  rw [hw] at HW
  go_enter Try.func34, Try.ntmps34
  go_wp2_with (go_at_call 39; refine HW.mono ?_; rintro e w1 ⟨a, cp, rfl, hr, hB⟩)
  go_ret2
  exact ⟨rfl, hB⟩
set_option maxRecDepth 100000 in
set_option maxHeartbeats 800000 in
theorem signal_some (h : Sc w b rv m ps ts H st wi c) (hl : ps.length ≤ 64) (hA : Apt ts) (on : Int) {n : Nat} {l : List Nat} (hw : waitL ts on = n :: l) (ht : ts[n]? = some t) :
    Calls Try.prog 34 #[ptr b, .int .i64 on] w fun e w' => e = .returned (.tuple #[.int .i64 n, .bool true]) ∧ Sc w' b rv m ps (ts.set n t.goes) H st wi c ∧ Upd (fun k => k ∈ ps) w w' := by
  have HW := waiting_any h hl hA on
  rw [hw] at HW
  have hL : ((n :: l).length : Int) ≠ 0 := by simp; omega
  obtain ⟨N, hN⟩ : ∃ N, N = (n :: l).length := ⟨_, rfl⟩
  have hN0 : 0 < N := by rw [hN]; simp
  rw [← hN] at HW
  have hNe : ((N : Int) == 0) = false := beq_eq_false_iff_ne.2 (by omega)
  have hN1 : (0 : Int) < (N : Int) := by omega
  have hN' : Hid _ := hN
  clear hN hL
  go_enter Try.func34, Try.ntmps34
  go_wp2_with (first
    | (go_at_call 56; refine (tell_any (h.below hB) ht).mono ?_; rintro e w2 ⟨rfl, hS, hU⟩
       have hc2 : w2.cell? ⟨g, 0, none⟩ = some (.int .i64 n) := by
         rw [World.cell?_of_block (a := ⟨g, 0, none⟩) (hU.block g (World.block_lt_of_cell? _ _ hc) ?_)]
         · exact hc
         · intro hm
           exact (h.below hB).not_sbr hr (by decide) (by decide) (by decide) g rfl (.inr (.inr (.inr hm))))
    | (go_at_call 39; refine HW.mono ?_; rintro e w1 ⟨a, cp, rfl, hr, hB⟩
       obtain ⟨g, rfl, hc⟩ := ic_cell (l := n :: l) (i := 0) (x := n) (by rw [← hN'.out]; exact hr) rfl))
  go_ret2
  exact ⟨rfl, hS, Upd.trans (Upd.ofBelow hB) hU⟩
def goAt (ts : List Tk) (n : Nat) : List Tk := match ts[n]? with
  | some t => ts.set n t.goes
  | none => ts
def goAll (ts : List Tk) (l : List Nat) : List Tk := l.foldl goAt ts
theorem goAt_some {ts : List Tk} {n : Nat} {t : Tk} (h : ts[n]? = some t) : goAt ts n = ts.set n t.goes := by unfold goAt; rw [h]
theorem goAt_len (ts : List Tk) (n : Nat) : (goAt ts n).length = ts.length := by unfold goAt; split <;> simp
theorem goAll_len (ts : List Tk) (l : List Nat) : (goAll ts l).length = ts.length := by
  induction l generalizing ts with
  | nil => rfl
  | cons n l ih => unfold goAll at ih ⊢; rw [List.foldl_cons, ih, goAt_len]
set_option maxRecDepth 100000 in
set_option maxHeartbeats 800000 in
theorem broadcast_any (h : Sc w b rv m ps ts H st wi c) (hl : ps.length ≤ 64) (hA : Apt ts) (on : Int) :
    Calls Try.prog 36 #[ptr b, .int .i64 on] w fun e w' => e = .returned (.int .i64 (waitL ts on).length) ∧ Sc w' b rv m ps (goAll ts (waitL ts on)) H st wi c ∧ Upd (fun k => k ∈ ps) w w' := by
  have HW := waiting_any h hl hA on
  have hmem : ∀ n ∈ waitL ts on, n < ts.length := fun n hn => by
    obtain ⟨t, ht, _⟩ := waitL_mem hn
    exact (List.getElem?_eq_some_iff.1 ht).1
  have hlen : (waitL ts on).length ≤ 64 := by
    have h1 := (sortS_perm (sinceOf ts) (nums (waitB on) 0 ts)).length_eq
    have h2 := nums_len (waitB on) 0 ts
    have h3 := h.len
    unfold waitL
    omega
  generalize waitL ts on = L at *
  go_enter Try.func36, Try.ntmps36
  go_wp2_with (go_at_call 39; refine HW.mono ?_; rintro e w1 ⟨a, cp, rfl, hr, hB⟩)
  have S1 := h.below hB
  go_loopw [13] (fun i wr => ∃ j : Nat, j ≤ L.length ∧ i = .int .i64 j ∧ Sc wr b rv m ps (goAll ts (L.take j)) H st wi c ∧ Upd (fun k => k ∈ ps) w1 wr) (fun i _ => L.length - (intOf i).toNat)
  case atStart => exact ⟨0, Nat.zero_le _, rfl, S1, Upd.refl _ _⟩
  case round =>
    obtain ⟨j, hj, rfl, S, U⟩ := hrel
    by_cases hlt : j < L.length
    · have hlt' : (j : Int) < (L.length : Int) := by omega
      have hj0 : (0 : Int) ≤ (j : Int) := by omega
      have hx := List.getElem?_eq_getElem hlt
      have hxm := hmem _ (List.getElem_mem hlt)
      have hT := List.take_add_one (l := L) (i := j)
      rw [hx] at hT
      generalize L[j] = x at hx hxm hT
      have hr1 : wr.ownsRow w.heap.size 3 1 (.slice a L.length cp) L.length (ic L) := row_upd hr U (fun k hk hm => S1.not_sbr hr (by decide) (by decide) (by decide) k hk (.inr (.inr (.inr hm))))
      obtain ⟨g, rfl, hc⟩ := ic_cell hr1 hx
      have ht := List.getElem?_eq_getElem (l := goAll ts (L.take j)) (i := x) (by rw [goAll_len]; exact hxm)
      generalize (goAll ts (L.take j))[x]'(by rw [goAll_len]; exact hxm) = t at ht
      have hG : goAll ts (L.take (j + 1)) = (goAll ts (L.take j)).set x t.goes := by
        rw [hT]
        unfold goAll at ht ⊢
        rw [List.foldl_append]
        simp only [Option.toList_some, List.foldl_cons, List.foldl_nil]
        exact goAt_some ht
      have HTl := tell_any S ht
      rw [← hG] at HTl
      clear hG hT hx ht hr1
      go_wp2_with (go_at_call 56; refine HTl.mono ?_; rintro e w2 ⟨rfl, hS2, hU2⟩)
      go_roundw
      case rel => exact ⟨j + 1, by omega, by go_num, hS2, U.trans hU2⟩
      case measure => simp [intOf]; omega
    · obtain rfl : j = L.length := by omega
      rw [List.take_length] at S
      go_wp2
      go_ret
      exact ⟨rfl, S, Upd.trans (Upd.ofBelow hB) U⟩
end
end Go.Proofs.Ytkdjahgndkdnhaa
