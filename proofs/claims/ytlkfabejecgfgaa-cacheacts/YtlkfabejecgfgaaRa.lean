/-
  The reference's cache: rows of pointers, without.
-/
import Derived.Test.YtlkfabejecgfgaaGk
import Derived.LaidEqlPtr
namespace Go.Proofs.Ytlkfabejecgfgaa
open Go.RowKit Go.Maps
set_option linter.unusedVariables false
set_option linter.unusedSimpArgs false
def pc (o : Option Nat) : List Value := [.pointer (pa o)]
theorem pc_k : ∀ x, (pc x).length = 1 := fun _ => rfl
theorem pc_1 : ∀ x, ∀ u ∈ pc x, u.oneCell' = true := by
  intro x u hu
  simp [pc] at hu
  subst hu
  rfl
theorem info85 : (Try.prog.info? 85).map (fun i => (i.zero, i.size, i.bytes)) = some (some (.pointer none), 1, 8) := by kernel_rfl
/-- A row of pointers to items. -/
abbrev RowQ (w : World) (base : Nat) (v : Value) (l : List (Option Nat)) : Prop := w.ownsRow base 85 1 v l.length (cls pc l)
theorem rowq_cell {w : World} {base : Nat} {a : Option Addr} {n c : Nat} {l : List (Option Nat)} (h : RowQ w base (.slice a n c) l) {j : Nat} {o : Option Nat} (hj : l[j]? = some o) : ∃ g, a = some ⟨g, 0, none⟩ ∧ w.cell? ⟨g, j, none⟩ = some (.pointer (pa o)) := by
  obtain ⟨a', c', e1, _, hrd, ho⟩ := row_rd pc_k h
  injection e1 with e2 _ _
  rw [← e2] at hrd ho
  obtain ⟨g, o', rfl, hAt⟩ := hrd.at_ hj
  have ho2 := (ho g o' rfl).1
  subst ho2
  have := hAt 0 _ rfl
  simp only [Nat.zero_add, Nat.mul_one, Nat.add_zero] at this
  exact ⟨g, rfl, this⟩
theorem rowq_len {w : World} {base : Nat} {v : Value} {l : List (Option Nat)} (h : RowQ w base v l) : ∃ a c, v = .slice a l.length c := row_slice h
theorem info84 : ∃ j, Try.prog.info? 84 = some j ∧ j.size ≠ 0 := by
  have h : ((Try.prog.info? 84).map (fun j => decide (j.size ≠ 0))) = some true := by kernel_rfl
  cases hj : Try.prog.info? 84 with
  | none => rw [hj] at h; cases h
  | some j => rw [hj] at h; exact ⟨j, rfl, by simpa using h⟩
/-- Two items held against each other. -/
theorem neq_item {W : World} {a b : Nat} {ca cb : List Value} (ha : Blk W a 84 ca) (hb : Blk W b 84 cb) : (binOp .neq 85 (.pointer (some ⟨a, 0, none⟩)) (.pointer (some ⟨b, 0, none⟩))).run Try.prog W = .ok (.bool (decide (a ≠ b))) W := by
  obtain ⟨j, hj, hz⟩ := info84
  have h : (binOp .eql 85 (.pointer (some ⟨a, 0, none⟩)) (.pointer (some ⟨b, 0, none⟩))).run Try.prog W = .ok (.bool (decide (a = b))) W := by
    by_cases e : a = b
    · subst e
      rw [decide_eq_true rfl]
      exact run_eql_ptr_same W _ Try.underlying85 hj
    · rw [decide_eq_false e]
      exact run_eql_ptr_other W Try.underlying85 hj hz (fun h => e (by simpa using congrArg Addr.block h)) ha hb
  simp only [binOp] at h ⊢
  revert h
  cases hq : (Op.equal 85 (.pointer (some ⟨a, 0, none⟩)) (.pointer (some ⟨b, 0, none⟩))).run Try.prog W with
  | ok v w' =>
    intro h
    simp [hq] at h ⊢
    obtain ⟨h1, h2⟩ := h
    subst h2
    refine ⟨?_, rfl⟩
    rw [h1]
  | _ => intro h; simp [hq] at h
/-- Items but one. -/
def wo (l : List (Option Nat)) (b : Nat) : List (Option Nat) := l.filter (fun o => decide (o ≠ some b))
theorem wo_snoc (l : List (Option Nat)) (o : Option Nat) (b : Nat) : wo (l ++ [o]) b = if o = some b then wo l b else wo l b ++ [o] := by
  unfold wo
  rw [List.filter_append]
  by_cases h : o = some b
  · simp [h]
  · simp [h]
set_option maxRecDepth 100000 in
set_option maxHeartbeats 2000000 in
theorem without_any {w : World} {base : Nat} {v : Value} {l : List (Option Nat)} (h : RowQ w base v l) {b : Nat} {cb : List Value} (hb : Blk w b 84 cb) (hl : ∀ o ∈ l, ∃ a ca, o = some a ∧ Blk w a 84 ca) (hn : l.length ≤ 4000000000000) :
    Calls Try.prog 62 #[v, .pointer (some ⟨b, 0, none⟩)] w fun e w' => ∃ v', e = .returned v' ∧ RowQ w' w.heap.size v' (wo l b) ∧ Upd Non w w' := by
  obtain ⟨a, c, rfl⟩ := rowq_len h
  have R0 : RowQ (w.alloc (.cells #[] 85)) w.heap.size (.slice (some ⟨w.heap.size, 0, none⟩) 0 0) (wo (l.take 0) b) := World.ownsRow_made (base := w.heap.size) (e := 85) (size := 1) w #[] 0 (Nat.le_refl _) (by unfold maxLen; omega) rfl
  go_enter Try.func62, Try.ntmps62
  go_wp2_with fail
  go_loopg [5, 6] l.length (fun gh vv ii wr => ∃ m : Nat, gh = l.length - m ∧ ii = .int .i64 m ∧ m ≤ l.length ∧ RowQ wr w.heap.size vv (wo (l.take m) b) ∧ Upd Non w wr)
  case atStart => exact ⟨0, by omega, rfl, Nat.zero_le _, R0, (Upd.refl _ _).alloc _⟩
  case round =>
    clear R0
    obtain ⟨m, hgm, rfl, hm, hR, hU⟩ := hrel
    obtain ⟨ra, rcp, hrv⟩ := rowq_len hR
    obtain ⟨K, hK⟩ : ∃ K, (wo (l.take m) b).length = K := ⟨_, rfl⟩
    rw [hK] at hrv
    have hKl : K ≤ l.length := by
      rw [← hK]; unfold wo
      refine Nat.le_trans (List.length_filter_le _ _) ?_
      simp; omega
    by_cases hlt : m < l.length
    · have hlt' : (m : Int) < (l.length : Int) := by omega
      obtain ⟨o, ho⟩ : ∃ o, l[m]? = some o := ⟨_, List.getElem?_eq_getElem hlt⟩
      obtain ⟨y, cy, rfl, hy⟩ := hl o (List.mem_of_getElem? ho)
      obtain ⟨g, rfl, cg0⟩ := rowq_cell h ho
      have cg : wr.cell? ⟨g, m, none⟩ = some (.pointer (some ⟨y, 0, none⟩)) := cell_upd hU (fun e => e) cg0
      have hcmp := neq_item (hy.upd hU (fun e => e)) (hb.upd hU (fun e => e))
      have htk : l.take (m + 1) = l.take m ++ [some y] := by rw [List.take_add_one, ho]; rfl
      have hws := wo_snoc (l.take m) (some y) b
      rw [← htk] at hws
      subst hrv
      by_cases e : y = b
      · have hws' : Hid (wo (l.take (m + 1)) b = wo (l.take m) b) := by show wo (l.take (m + 1)) b = _; rw [hws, if_pos (by rw [e])]
        rw [decide_eq_false (fun hh => hh e)] at hcmp
        have hR' : Hid _ := hR
        have hU' : Hid _ := hU
        clear hR hU hws htk cg0 e hK
        go_wp2_with fail
        go_roundg (l.length - (m + 1))
        case measure => omega
        case rel => exact ⟨m + 1, rfl, by go_num, hlt, by rw [hws'.out]; exact hR'.out, hU'.out⟩
      · have hws' : wo (l.take (m + 1)) b = wo (l.take m) b ++ [some y] := by rw [hws, if_neg (by simpa using e)]
        rw [decide_eq_true e] at hcmp
        have BB : Blk (wr.alloc (.cells (pc (some y)).toArray 85)) wr.heap.size 85 (pc (some y)) := Blk.new wr 85 _
        obtain ⟨v', w9, hr9, hR9, hU9, ho9, _⟩ := push_g (P := Try.prog) pc_k pc_1 Try.underlying68 info85 rfl (by decide) (row_upd hR ((Upd.refl Non wr).alloc (.cells (pc (some y)).toArray 85)) (fun _ _ h => h)) (by have := hU.size; simp; omega) BB 68 (by rw [hK]; omega) (by rw [hK]; unfold maxLen; omega)
        rw [← hws'] at hR9
        have hA : Hid (Upd Non w w9) := (hU.alloc _).then hU9 (fun i hi hs => absurd (row_blk hR i hs).1 (by omega))
        obtain ⟨va, vc, hv'⟩ := rowq_len hR9
        have hlen : (wo (l.take (m + 1)) b).length = K + 1 := by rw [hws', List.length_append, hK]; rfl
        rw [hlen] at hv'
        subst hv'
        have hr8 : (Builtin.append_ #[68, 68] 68 #[.slice ra K rcp, .slice (some ⟨wr.heap.size, 0, none⟩) 1 1]).run Try.prog (wr.alloc (.cells #[.pointer (some ⟨y, 0, none⟩)] 85)) = .ok (.slice va (K + 1) vc) w9 := hr9
        have hR9' : Hid _ := hR9
        have cg1 := cg
        clear hr9 hR hU hws htk cg0 hU9 ho9 BB hR9 hK hlen hws'
        go_wp2_with (at_builtin; refine Lib.wpList_append_run _ rfl _ _ _ _ rfl _ _ rfl rfl _ _ hr8 ?_)
        go_roundg (l.length - (m + 1))
        case measure => omega
        case rel => exact ⟨m + 1, rfl, by go_num, hlt, hR9'.out, hA.out⟩
    · have hlt' : (m : Int) = (l.length : Int) := by omega
      obtain rfl : m = l.length := by omega
      rw [List.take_length] at hR
      have hR' : Hid _ := hR
      have hU' : Hid _ := hU
      subst hrv
      clear hR hU
      go_wp2_with fail
      go_ret
      exact ⟨_, rfl, hR'.out, hU'.out⟩
end Go.Proofs.Ytlkfabejecgfgaa
