import Derived.Test.YtkdjahgndkdnhaaB
namespace Go.Proofs.Ytkdjahgndkdnhaa
open Go.RowKit Go.Maps
set_option linter.unusedVariables false
set_option linter.unusedSimpArgs false

/-- May a task go? -/
def mayB (H : Int → Option Int) (st : Nat) (t : Tk) : Bool :=
  if t.kind = 0 then true else if t.kind = 1 then !(H t.on).isSome else if t.kind = 3 then decide ((st : Int) - t.since ≥ t.on) else false
structure TkOk (st : Nat) (t : Tk) : Prop where
  k64 : I64 t.kind
  o64 : I64 t.on
  s0 : 0 ≤ t.since
  s1 : t.since ≤ st
theorem w64 (x : Int) (h0 : -9223372036854775808 ≤ x) (h1 : x ≤ 9223372036854775807) : IntKind.i64.wrap x = x := by rw [IntKind.wrap_i64]; omega
section
variable {w : World} {b : Nat} {rv : Value} {m : Nat} {ps : List Nat} {ts : List Tk} {H : Int → Option Int} {st : Nat} {wi : Bool} {c : Nat}
set_option maxRecDepth 100000 in
set_option maxHeartbeats 1000000 in
theorem mayGo_any (h : Sc w b rv m ps ts H st wi c) (hst : st < 4000000000000000000) {i p : Nat} {t : Tk} (hp : ps[i]? = some p) (ht : ts[i]? = some t) (ok : TkOk st t) :
    Calls Try.prog 48 #[ptr b, ptr p] w fun e w' => e = .returned (.bool (mayB H st t)) ∧ Below w.heap.size w w' := by
  obtain ⟨D, hD⟩ := h.map
  have B := h.tks i p t hp ht
  have a1 := h.blk.cell1 1 _ rfl
  have a2 := h.blk.cell1 2 _ rfl
  have b2 := B.cell1 2 _ rfl
  have b3 := B.cell1 3 _ rfl
  have b4 := B.cell1 4 _ rfl
  have hl := hD.lookup ok.o64
  have hl' : (Instr.lookup 68 (.map (some m)) (.int .i64 t.on) true).run Try.prog w.drew = .ok (.tuple #[.int .i64 ((H t.on).getD 0), .bool (H t.on).isSome]) w.drew := (show IM w.drew m H c D from ⟨hD.own.drew, hD.at_, hD.has⟩).lookup ok.o64
  obtain ⟨_, ⟨o0, o1⟩, s0, s1⟩ := ok
  unfold mayB
  have hB0 := (Below.refl w.heap.size w)
  by_cases k0 : t.kind = 0
  · rw [k0] at b2 ⊢
    go_enter Try.func48, Try.ntmps48
    go_wp2
    go_ret
    exact ⟨rfl, hB0⟩
  · by_cases k1 : t.kind = 1
    · rw [k1] at b2 ⊢
      go_enter Try.func48, Try.ntmps48
      go_wp2
      go_region
      all_goals go_wp2
      all_goals go_ret
      all_goals exact ⟨by simp, hB0.drew⟩
    · by_cases k3 : t.kind = 3
      · rw [k3] at b2 ⊢
        have e1 : IntKind.i64.wrap ((st : Int) - t.since) = (st : Int) - t.since := w64 _ (by omega) (by omega)
        go_enter Try.func48, Try.ntmps48
        go_wp2
        go_region
        all_goals go_wp2
        all_goals go_ret
        all_goals exact ⟨by simp, hB0.drew⟩
      · have q0 : (t.kind == 0) = false := by simpa using k0
        have q1 : (t.kind == 1) = false := by simpa using k1
        have q3 : (t.kind == 3) = false := by simpa using k3
        go_enter Try.func48, Try.ntmps48
        go_wp2
        go_ret
        exact ⟨by simp [k0, k1, k3], hB0⟩
/-- The numbers of the tasks of which q holds, from i on. -/
def nums (q : Tk → Bool) : Nat → List Tk → List Nat
  | _, [] => []
  | i, t :: l => if q t then i :: nums q (i + 1) l else nums q (i + 1) l
def ic (l : List Nat) : List Value := l.map fun (n : Nat) => .int .i64 n
theorem nums_take (q : Tk → Bool) (i : Nat) (l : List Tk) (k : Nat) (t : Tk) (h : l[k]? = some t) : nums q i (l.take (k + 1)) = nums q i (l.take k) ++ (if q t then [i + k] else []) := by
  induction l generalizing i k with
  | nil => simp at h
  | cons x l ih =>
    cases k with
    | zero =>
      simp at h
      subst h
      simp [nums]
    | succ k =>
      simp only [List.getElem?_cons_succ] at h
      simp only [List.take_succ_cons, nums]
      rw [ih (i + 1) k h]
      have : i + 1 + k = i + (k + 1) := by omega
      rw [this]
      split <;> simp
theorem nums_len (q : Tk → Bool) (i : Nat) (l : List Tk) : (nums q i l).length ≤ l.length := by
  induction l generalizing i with
  | nil => simp [nums]
  | cons x l ih =>
    have := ih (i + 1)
    simp only [nums]
    split <;> simp <;> omega
set_option maxRecDepth 100000 in
set_option maxHeartbeats 1000000 in
theorem those_any (h : Sc w b rv m ps ts H st wi c) (hl : ps.length ≤ 64) (g : Nat) (bd cp : Array Value) (q : Tk → Bool)
    (hent : ∀ (w : World) (p : Nat), (callFunc g (bd.push (ptr p) ++ cp)).run Try.prog w = .ok (.enter g (bd.push (ptr p) ++ cp)) w)
    (hq : ∀ (W : World) (i p : Nat) (t : Tk), Sc W b rv m ps ts H st wi c → ps[i]? = some p → ts[i]? = some t → Calls Try.prog g (bd.push (ptr p) ++ cp) W fun e w' => e = .returned (.bool (q t)) ∧ Below W.heap.size W w') :
    Calls Try.prog 47 #[ptr b, .func (.func g) bd cp] w fun e w' => ∃ v, e = .returned v ∧ w'.ownsRow w.heap.size 3 1 v (nums q 0 ts).length (ic (nums q 0 ts)) ∧ Below w.heap.size w w' := by
  obtain ⟨ra, rc, hrv⟩ := h.rvlen
  have c0 := h.blk.cell1 0 _ rfl
  rw [hrv] at c0
  have hlen := h.len
  go_enter Try.func47, Try.ntmps47
  go_wp2
  go_loopw [5, 13] (fun l i wr => ∃ (k : Nat), k ≤ ps.length ∧ i = .int .i64 k ∧ wr.ownsRow w.heap.size 3 1 l (nums q 0 (ts.take k)).length (ic (nums q 0 (ts.take k))) ∧ Below w.heap.size w wr) (fun _ i _ => ps.length - (intOf i).toNat)
  case atStart => exact ⟨0, Nat.zero_le _, rfl, World.ownsRow_nil _ _ _ _, Below.refl _ _⟩
  case round =>
    obtain ⟨k, hk, rfl, hr, hB⟩ := hrel
    by_cases hlt : k < ps.length
    · have hp := List.getElem?_eq_getElem hlt
      have ht := List.getElem?_eq_getElem (l := ts) (i := k) (by omega)
      generalize ps[k] = p at hp
      generalize ts[k]'(by omega) = t at ht
      have h' := h.below hB
      have HQ := hq wr k p t h' hp ht
      obtain ⟨gg, cap, hrv2, hc⟩ := h'.at_ hp
      rw [hrv] at hrv2
      cases hrv2
      have HN := nums_take q 0 ts k t ht
      have hnl := nums_len q 0 (ts.take k)
      rw [List.length_take] at hnl
      have hb1 := h'.blk.lt
      generalize nums q 0 (ts.take k) = L at *
      go_wp2
      refine HQ.mono ?_
      rintro e w1 ⟨rfl, hB1⟩
      have hB2 : Below w.heap.size w w1 := hB.trans (hB1.mono hB.size)
      have hr1 := row_upd hr (S := Non) (Upd.ofBelow hB1) (fun _ _ hh => hh)
      obtain ⟨la, lc, rfl⟩ := row_form hr
      cases hqt : q t
      · rw [hqt] at HN
        simp only [Bool.false_eq_true, if_false, List.append_nil] at HN
        go_wp2
        go_roundw
        case rel => exact ⟨k + 1, by omega, by go_num, by rw [HN]; exact hr1, hB2⟩
        case measure => simp [intOf]; omega
      · rw [hqt] at HN
        simp only [if_true, Nat.zero_add] at HN
        go_wp2_with
          (at_builtin
           refine push1 rfl _ _ 30 3 (.int .i64 0) Try.underlying30 info3 rfl rfl rfl rfl (.int .i64 k) rfl (hr1.alloc _) (by simp) (by omega) (by rw [World.size_alloc]; have := hB2.size; omega) ?_
           intro oa oc w2 ho' hg hloc
           have hB3 : Below w.heap.size w w2 := (hB2.alloc hB2.size _).grown hg (by rw [World.size_alloc]; have := hB2.size; omega) (fun k hk => (hr1.lt k hk).1))
        go_roundw
        case rel => exact ⟨k + 1, by omega, by go_num, by rw [HN]; simpa [ic] using ho', hB3⟩
        case measure => simp [intOf]; omega
    · obtain rfl : k = ps.length := by omega
      rw [← hlen, List.take_length] at hr
      obtain ⟨la, lc, rfl⟩ := row_form hr
      go_wp2
      go_ret
      exact ⟨_, rfl, hr, hB⟩
end
end Go.Proofs.Ytkdjahgndkdnhaa
