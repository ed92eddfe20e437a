import Derived.Test.YtkdjahgndkdnhaaSo
import Derived.Test.YtkdjahgndkdnhaaZc
import Derived.Test.YtkdjahgndkdnhaaZd
import Derived.Test.YtkdjahgndkdnhaaJ
import Derived.Lib.OwnBridge
import Derived.Sort.OwnSorted
import Derived.Test.YtkdjahgndkdnhaaO
namespace Go.Proofs.Ytkdjahgndkdnhaa
open Go.RowKit Go.Maps Go.Lib
set_option linter.unusedVariables false
set_option linter.unusedSimpArgs false
section
variable {w : World} {b p : Nat} {rv : Value} {m : Nat} {ps : List Nat} {ts : List Tk} {t : Tk} {H : Int → Option Int} {st : Nat} {wi : Bool} {c : Nat}
set_option maxRecDepth 100000 in
set_option maxHeartbeats 1000000 in
theorem those_any2 (h : Sc w b rv m ps ts H st wi c) (hl : ps.length ≤ 64) (g : Nat) (bd cp : Array Value) (q : Tk → Bool)
    (hent : ∀ (w : World) (p : Nat), (callFunc g (bd.push (ptr p) ++ cp)).run Try.prog w = .ok (.enter g (bd.push (ptr p) ++ cp)) w)
    (hq : ∀ (W : World) (i p : Nat) (t : Tk), Sc W b rv m ps ts H st wi c → Below w.heap.size w W → ps[i]? = some p → ts[i]? = some t → Calls Try.prog g (bd.push (ptr p) ++ cp) W fun e w' => e = .returned (.bool (q t)) ∧ Below W.heap.size W w') :
    Calls Try.prog 47 #[ptr b, .func (.func g) bd cp] w fun e w' => ∃ v, e = .returned v ∧ w'.ownsRow w.heap.size 3 1 v (nums q 0 ts).length (ic (nums q 0 ts)) ∧ Below w.heap.size w w' := by
  obtain ⟨ra, rc, hrv⟩ := h.rvlen
  have c0 := h.blk.cell1 0 _ rfl
  rw [hrv] at c0
  have hlen := h.len
  go_enter Try.func47, Try.ntmps47
  go_wp2
  go_loopw [5, 13] (fun l i wr => ∃ (k : Nat), k ≤ ps.length ∧ i = .int .i64 k ∧ wr.ownsRow w.heap.size 3 1 l (nums q 0 (ts.take k)).length (ic (nums q 0 (ts.take k))) ∧ Below w.heap.size w wr) (fun _ i _ => ps.length - (intOf i).toNat)
  case atStart => exact ⟨0, Nat.zero_le _, rfl, World.ownsRow_nil _ _ _ _, Below.refl _ _⟩
  case round =>
    obtain ⟨k, hk, rfl, hr, hB⟩ := hrel
    by_cases hlt : k < ps.length
    · have hp := List.getElem?_eq_getElem hlt
      have ht := List.getElem?_eq_getElem (l := ts) (i := k) (by omega)
      generalize ps[k] = p at hp
      generalize ts[k]'(by omega) = t at ht
      have h' := h.below hB
      have HQ := hq wr k p t h' hB hp ht
      obtain ⟨gg, cap, hrv2, hc⟩ := h'.at_ hp
      rw [hrv] at hrv2
      cases hrv2
      have HN := nums_take q 0 ts k t ht
      have hnl := nums_len q 0 (ts.take k)
      rw [List.length_take] at hnl
      have hb1 := h'.blk.lt
      generalize nums q 0 (ts.take k) = L at *
      go_wp2
      refine HQ.mono ?_
      rintro e w1 ⟨rfl, hB1⟩
      have hB2 : Below w.heap.size w w1 := hB.trans (hB1.mono hB.size)
      have hr1 := row_upd hr (S := Non) (Upd.ofBelow hB1) (fun _ _ hh => hh)
      obtain ⟨la, lc, rfl⟩ := row_form hr
      cases hqt : q t
      · rw [hqt] at HN
        simp only [Bool.false_eq_true, if_false, List.append_nil] at HN
        go_wp2
        go_roundw
        case rel => exact ⟨k + 1, by omega, by go_num, by rw [HN]; exact hr1, hB2⟩
        case measure => simp [intOf]; omega
      · rw [hqt] at HN
        simp only [if_true, Nat.zero_add] at HN
        go_wp2_with
          (at_builtin
           refine push1 rfl _ _ 30 3 (.int .i64 0) Try.underlying30 info3 rfl rfl rfl rfl (.int .i64 k) rfl (hr1.alloc _) (by simp) (by omega) (by rw [World.size_alloc]; have := hB2.size; omega) ?_
           intro oa oc w2 ho' hg hloc
           have hB3 : Below w.heap.size w w2 := (hB2.alloc hB2.size _).grown hg (by rw [World.size_alloc]; have := hB2.size; omega) (fun k hk => (hr1.lt k hk).1))
        go_roundw
        case rel => exact ⟨k + 1, by omega, by go_num, by rw [HN]; simpa [ic] using ho', hB3⟩
        case measure => simp [intOf]; omega
    · obtain rfl : k = ps.length := by omega
      rw [← hlen, List.take_length] at hr
      obtain ⟨la, lc, rfl⟩ := row_form hr
      go_wp2
      go_ret
      exact ⟨_, rfl, hr, hB⟩
end
def sinceOf (ts : List Tk) (i : Nat) : Int := match ts[i]? with
  | some t => t.since
  | none => 0
/-- Who waits for something, the longest first. -/
def waitL (ts : List Tk) (on : Int) : List Nat := sortS (sinceOf ts) (nums (waitB on) 0 ts)
def encF {N : Nat} (i : Fin N) : Value := .int .i64 (i.val : Nat)
def cfF (ts : List Tk) {N : Nat} (i j : Fin N) : Int := cmpI (sinceOf ts i.val) (sinceOf ts j.val)
theorem lt_cf (ts : List Tk) {N : Nat} (i j : Fin N) : ltOf (cfF ts) i j = decide (sinceOf ts i.val < sinceOf ts j.val) := by
  unfold ltOf cfF cmpI
  by_cases h1 : sinceOf ts i.val < sinceOf ts j.val
  · simp [h1]
  · by_cases h2 : sinceOf ts j.val < sinceOf ts i.val <;> simp [h1, h2]
theorem swo_cf (ts : List Tk) {N : Nat} : Sort.SWO (ltOf (cfF ts (N := N))) where
  irrefl x := by rw [lt_cf]; simp
  trans x y z h1 h2 := by rw [lt_cf] at *; simp at *; omega
  ntrans x y z h1 h2 := by rw [lt_cf] at *; simp at *; omega
/-- No two that wait have begun at once. -/
theorem sortWorld_upd {α : Type} [Inhabited α] (enc : α → Value) (w : World) (g m : Nat) (dk : Array α) (os : Array Obj) : Upd (fun k => k = g) w (sortWorld enc w g 0 m dk os) := by
  unfold sortWorld
  refine ⟨rfl, rfl, rfl, by simp [Sort.ahead], fun k hk hne => ?_⟩
  rw [Sort.heap_grow_old _ _ (by simpa [Sort.ahead] using hk)]
  have : g ≠ k := fun e => hne e.symm
  simp [Sort.putRow, Sort.mapBlock, Sort.ahead, Array.getElem?_modify, this]
def Apt (ts : List Tk) : Prop := ∀ (i j : Nat) (t u : Tk), ts[i]? = some t → ts[j]? = some u → t.kind = 2 → u.kind = 2 → t.since = u.since → i = j
section
variable {w : World} {b p : Nat} {rv : Value} {m : Nat} {ps : List Nat} {ts : List Tk} {t : Tk} {H : Int → Option Int} {st : Nat} {wi : Bool} {c : Nat}
theorem sinceOf_some {i : Nat} (h : ts[i]? = some t) : sinceOf ts i = t.since := by unfold sinceOf; rw [h]
set_option maxHeartbeats 800000 in
theorem sort_any (h : Sc w b rv m ps ts H st wi c) {B : Nat} (hB : Blk w B 25 [ptr b]) {l : List Nat} (hl : ∀ x ∈ l, x < ts.length) (hne : l ≠ []) (hl64 : l.length ≤ 64) {a : Option Addr} {cp base : Nat} (hr : w.ownsRow base 3 1 (.slice a l.length cp) l.length (ic l)) :
    Calls Try.prog 58 #[.slice a l.length cp, .func (.func 59) #[] #[ptr B]] w fun e w' => e = .returned (.tuple #[]) ∧ ∃ l', l'.Perm l ∧ l'.Pairwise (fun x y => sinceOf ts x ≤ sinceOf ts y) ∧ w'.ownsRow base 3 1 (.slice a l.length cp) l.length (ic l') ∧ Upd (fun k => Value.ownBlock (.slice a l.length cp) = some k) w w' := by
  have hN : 0 < ts.length := by
    cases l with
    | nil => exact absurd rfl hne
    | cons x l => have := hl x (by simp); omega
  haveI : Inhabited (Fin ts.length) := ⟨⟨0, hN⟩⟩
  obtain ⟨zs, hzs⟩ : ∃ zs : List (Fin ts.length), zs.map (fun i => i.val) = l := ⟨l.pmap (fun x hx => ⟨x, hx⟩) hl, by simp [List.map_pmap]⟩
  have hic : ∀ ys : List (Fin ts.length), ys.map encF = ic (ys.map (fun i => i.val)) := fun ys => by simp [ic, encF]
  rw [← hzs, ← hic] at hr
  have hzl : zs.length = l.length := by rw [← hzs]; simp
  have hv : Value.slice a l.length cp ≠ .slice none 0 0 := by
    intro e
    injection e with _ e _
    exact hne (List.eq_nil_of_length_eq_zero e)
  rw [hzs] at hr
  obtain ⟨g, cap, hval, hbg, hgl, hnc, hcm, hzn, hH⟩ := holds_of_ownsRow hr hv
  injection hval with ea _ ec
  subst ea ec
  have hrg := h.not_sbr hr (by decide) (by decide) (by decide) g rfl
  have hgB : g ≠ B := row_ne hr hB (by decide) g rfl
  have hcmp : CmpReads Try.prog 59 #[ptr B] (encF (N := ts.length)) (cfF ts) g 0 zs.toArray.size w := by
    intro k os dk hs x y
    have U := sortWorld_upd (encF (N := ts.length)) w g k dk os
    have S' := h.upd U (fun k hk e => hrg ((show k = g from e) ▸ hk))
    have B' := hB.upd U (fun e => hgB e.symm)
    have e1 := List.getElem?_eq_getElem x.isLt
    have e2 := List.getElem?_eq_getElem y.isLt
    have := wait2_any S' B' e1 e2
    unfold cfF
    rw [sinceOf_some e1, sinceOf_some e2]
    exact this
  have HS := Any.slices_SortFunc Try.sortL encF (fun _ => rfl) (cfF ts) (swo_cf ts) 59 #[ptr B] g 0 cp zs.toArray w (fun args w => by kernel_rfl) hcmp.lays hH hgl (by simp; omega)
  change Calls Try.prog 58 _ _ _ at HS
  rw [show zs.toArray.size = l.length by simp [hzl]] at HS
  refine HS.mono ?_
  rintro e w' ⟨rfl, d', k, os, ⟨hps, _, hpp⟩, hso, rfl⟩
  have hds : d'.size = zs.length := by simpa using hps
  have hperm : d'.toList.Perm zs := by
    have e1 : (d'.extract 0 l.length).toList = d'.toList := by
      rw [Array.extract_eq_self_of_le (by omega)]
    have e2 : (zs.toArray.extract 0 l.length).toList = zs := by rw [← hzl]; simp
    rw [e1, e2] at hpp
    exact hpp
  refine ⟨rfl, d'.toList.map (fun i => i.val), hzs ▸ hperm.map _, ?_, ?_, ?_⟩
  · rw [List.pairwise_map, List.pairwise_iff_getElem]
    intro i j hi hj hij
    have hj' : j < d'.size := by simpa using hj
    have := hso i j (Nat.zero_le _) hij (by omega)
    rw [lt_cf] at this
    rw [getElem!_pos d' j hj', getElem!_pos d' i (by omega)] at this
    simp only [decide_eq_false_iff_not] at this
    simp only [Array.getElem_toList]
    omega
  · rw [← hic]
    have r1 := ownsRow_putRow (q := k) (k := l.length) (ys := d'.toList) hr (by simp [hds, hzl]) (Nat.le_refl _)
    rw [List.take_of_length_le (by simp [hds, hzl])] at r1
    refine row_upd r1 (S := Non) ?_ (fun _ _ h => h)
    refine ⟨rfl, rfl, rfl, by simp [sortWorld], fun j hj _ => ?_⟩
    unfold sortWorld
    rw [Sort.heap_grow_old _ _ (by simpa using hj)]
  · exact (sortWorld_upd encF w g k d' os).mono (fun i _ hi => by rw [hi]; rfl)
end
end Go.Proofs.Ytkdjahgndkdnhaa
