import Derived.Test.YtkdjahgndkdnhaaC
namespace Go.Proofs.Ytkdjahgndkdnhaa
open Go.RowKit Go.Maps
set_option linter.unusedVariables false
set_option linter.unusedSimpArgs false
section
variable {w : World} {b : Nat} {rv : Value} {m : Nat} {ps : List Nat} {ts : List Tk} {H : Int → Option Int} {st : Nat} {wi : Bool} {c : Nat}
set_option maxRecDepth 100000 in
set_option maxHeartbeats 1000000 in
theorem enabled_any (h : Sc w b rv m ps ts H st wi c) (hl : ps.length ≤ 64) (hst : st < 4000000000000000000) (ok : ∀ t ∈ ts, TkOk st t) :
    Calls Try.prog 19 #[ptr b] w fun e w' => ∃ a cp, e = .returned (.slice a (nums (mayB H st) 0 ts).length cp) ∧ w'.ownsRow w.heap.size 3 1 (.slice a (nums (mayB H st) 0 ts).length cp) (nums (mayB H st) 0 ts).length (ic (nums (mayB H st) 0 ts)) ∧ Below w.heap.size w w' := by
  have HT := those_any h hl 48 #[ptr b] #[] (mayB H st) (fun w p => by kernel_rfl) (fun W i p t hW hp ht => mayGo_any hW hst hp ht (ok t (List.mem_of_getElem? ht)))
  go_enter Try.func19, Try.ntmps19
  go_wp2_with
    (go_at_call 47; refine HT.mono ?_; rintro e w1 ⟨v, rfl, hr, hB⟩
     obtain ⟨a, cp, rfl⟩ := row_form hr)
  go_ret
  exact ⟨a, cp, rfl, hr, hB⟩
def aliveB (t : Tk) : Bool := t.kind != 4
set_option maxRecDepth 100000 in
set_option maxHeartbeats 1000000 in
theorem alive1_any (h : Sc w b rv m ps ts H st wi c) {i p : Nat} {t : Tk} (hp : ps[i]? = some p) (ht : ts[i]? = some t) :
    Calls Try.prog 50 #[ptr p] w fun e w' => e = .returned (.bool (aliveB t)) ∧ Below w.heap.size w w' := by
  have b2 := (h.tks i p t hp ht).cell1 2 _ rfl
  obtain ⟨B, hB⟩ : ∃ B, (t.kind != 4) = B := ⟨_, rfl⟩
  unfold aliveB
  go_enter Try.func50, Try.ntmps50
  go_wp2
  go_ret
  exact ⟨by simp [*], Below.refl _ _⟩
set_option maxRecDepth 100000 in
set_option maxHeartbeats 1000000 in
theorem alive_any (h : Sc w b rv m ps ts H st wi c) (hl : ps.length ≤ 64) :
    Calls Try.prog 24 #[ptr b] w fun e w' => ∃ a cp, e = .returned (.slice a (nums aliveB 0 ts).length cp) ∧ w'.ownsRow w.heap.size 3 1 (.slice a (nums aliveB 0 ts).length cp) (nums aliveB 0 ts).length (ic (nums aliveB 0 ts)) ∧ Below w.heap.size w w' := by
  have HT := those_any h hl 50 #[] #[] aliveB (fun w p => by kernel_rfl) (fun W i p t hW hp ht => alive1_any hW hp ht)
  go_enter Try.func24, Try.ntmps24
  go_wp2_with
    (go_at_call 47; refine HT.mono ?_; rintro e w1 ⟨v, rfl, hr, hB⟩
     obtain ⟨a, cp, rfl⟩ := row_form hr)
  go_ret
  exact ⟨a, cp, rfl, hr, hB⟩
def stirs (H : Int → Option Int) (st : Nat) (t : Tk) : Bool := t.kind == 3 || mayB H st t
def deadL (H : Int → Option Int) (st : Nat) (ts : List Tk) : List Nat := if ts.any (stirs H st) then [] else nums aliveB 0 ts
set_option maxRecDepth 100000 in
set_option maxHeartbeats 1000000 in
theorem dead_any (h : Sc w b rv m ps ts H st wi c) (hl : ps.length ≤ 64) (hst : st < 4000000000000000000) (ok : ∀ t ∈ ts, TkOk st t) :
    Calls Try.prog 25 #[ptr b] w fun e w' => ∃ a cp, e = .returned (.slice a (deadL H st ts).length cp) ∧ Below w.heap.size w w' := by
  obtain ⟨ra, rc, hrv⟩ := h.rvlen
  have c0 := h.blk.cell1 0 _ rfl
  rw [hrv] at c0
  have hlen := h.len
  go_enter Try.func25, Try.ntmps25
  go_wp2
  go_loopw [10] (fun i wr => ∃ (k : Nat), k ≤ ps.length ∧ i = .int .i64 k ∧ (ts.take k).any (stirs H st) = false ∧ Below w.heap.size w wr) (fun i _ => ps.length - (intOf i).toNat)
  case atStart => exact ⟨0, Nat.zero_le _, rfl, rfl, Below.refl _ _⟩
  case round =>
    obtain ⟨k, hk, rfl, hn, hB⟩ := hrel
    have h' := h.below hB
    by_cases hlt : k < ps.length
    · have hp := List.getElem?_eq_getElem hlt
      have ht := List.getElem?_eq_getElem (l := ts) (i := k) (by omega)
      generalize ps[k] = p at hp
      have HA : ts[k]'(by omega) ∈ ts := List.getElem_mem _
      generalize ts[k]'(by omega) = t at ht HA
      have HQ := mayGo_any h' hst hp ht (ok t HA)
      obtain ⟨gg, cap, hrv2, hc⟩ := h'.at_ hp
      rw [hrv] at hrv2
      cases hrv2
      have b2 := (h'.tks k p t hp ht).cell1 2 _ rfl
      have HN : (ts.take (k + 1)).any (stirs H st) = stirs H st t := by rw [List.take_add_one, ht, List.any_append, hn]; simp
      have HE : stirs H st t = true → deadL H st ts = [] := by
        intro e
        unfold deadL
        rw [if_pos (List.any_eq_true.2 ⟨t, HA, e⟩)]
      by_cases k3 : t.kind = 3
      · have HE' : Hid (deadL H st ts = []) := HE (by simp [stirs, k3])
        clear HN HE
        rw [k3] at b2
        go_wp2
        go_ret
        exact ⟨none, 0, by rw [HE'.out]; rfl, hB⟩
      · have q3 : (t.kind == 3) = false := by simpa using k3
        have HS : stirs H st t = mayB H st t := by unfold stirs; rw [q3]; rfl
        rw [HS] at HN HE
        clear HS
        cases hm : mayB H st t
        · rw [hm] at HN HQ
          have HN' : Hid ((ts.take (k + 1)).any (stirs H st) = false) := HN
          clear HN HE
          go_wp2_with (go_at_call 48; refine HQ.mono ?_; rintro e w1 ⟨rfl, hB1⟩)
          go_roundw
          case rel => exact ⟨k + 1, by omega, by go_num, HN'.out, hB.trans (hB1.mono hB.size)⟩
          case measure => simp [intOf]; omega
        · rw [hm] at HQ
          have HE' : Hid (deadL H st ts = []) := HE hm
          clear HN HE
          go_wp2_with (go_at_call 48; refine HQ.mono ?_; rintro e w1 ⟨rfl, hB1⟩)
          go_ret
          exact ⟨none, 0, by rw [HE'.out]; rfl, hB.trans (hB1.mono hB.size)⟩
    · obtain rfl : k = ps.length := by omega
      rw [← hlen, List.take_length] at hn
      have HE : Hid (deadL H st ts = nums aliveB 0 ts) := by unfold deadL Hid; rw [hn]; rfl
      have HA := alive_any h' hl
      clear hn
      go_wp2_with (go_at_call 24; refine HA.mono ?_; rintro e w1 ⟨a, cp, rfl, _, hB1⟩)
      go_ret
      exact ⟨a, cp, by rw [HE.out]; rfl, hB.trans (hB1.mono hB.size)⟩
end
end Go.Proofs.Ytkdjahgndkdnhaa
