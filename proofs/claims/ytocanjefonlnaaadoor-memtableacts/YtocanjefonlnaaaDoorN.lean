import Derived.Test.YtocanjefonlnaaaDoorZa
import Derived.Maps.AppendAt
import Derived.Lib.SliceRun
namespace Go.Proofs.YtocanjefonlnaaaDoor
open Go.RowKit Go.Maps
set_option linter.unusedVariables false
set_option linter.unusedSimpArgs false
theorem info5 : (Tryd.prog.info? 5).map (fun i => (i.zero, i.size, i.bytes)) = some (some (.int .u8 0), 1, 1) := by kernel_rfl
/-- Bytes as cells. -/
def bc (l : List Int) : List Value := l.map (Value.int .u8)
theorem bc_len (l : List Int) : (bc l).length = l.length := by simp [bc]
theorem bc_one (l : List Int) : ∀ u ∈ bc l, u.oneCell' = true := by
  intro u hu
  obtain ⟨_, _, rfl⟩ := List.mem_map.1 hu
  rfl
/-- A slice whose cells are these bytes, wherever it lies. -/
def RdB (w : World) (v : Value) (l : List Int) : Prop :=
  (v = .slice none 0 0 ∧ l = []) ∨ ∃ b off cap, v = .slice (some ⟨b, off, none⟩) l.length cap ∧ b < w.heap.size ∧ ∀ j u, (bc l)[j]? = some u → w.cell? ((⟨b, off, none⟩ : Addr).add j) = some u
/-- The same, in a row of its own. -/
def RowB (w : World) (v : Value) (l : List Int) : Prop := w.ownsRow 0 5 1 v l.length (bc l)
theorem RowB.rd {w : World} {v : Value} {l : List Int} (h : RowB w v l) : RdB w v l := by
  have hc := fun g hg => World.ownsRow.cells h (g := g) hg
  have hl := World.ownsRow.lt h
  rcases h.2 with ⟨rfl, h0⟩ | ⟨g, cap, cur, rfl, _⟩
  · exact .inl ⟨rfl, List.eq_nil_of_length_eq_zero h0⟩
  · exact .inr ⟨g, 0, cap, rfl, (hl g rfl).2, hc g rfl⟩
theorem RdB.upd {S : Nat → Prop} {w w' : World} {v : Value} {l : List Int} (h : RdB w v l) (u : Upd S w w') (hS : ∀ k, v.ownBlock = some k → ¬ S k) : RdB w' v l := by
  rcases h with h | ⟨b, off, cap, rfl, hb, hc⟩
  · exact .inl h
  · refine .inr ⟨b, off, cap, rfl, Nat.lt_of_lt_of_le hb u.size, fun j x hx => ?_⟩
    rw [← hc j x hx]
    exact World.cell?_of_block (by
      have e : ((⟨b, off, none⟩ : Addr).add j).block = b := by unfold Addr.add; split <;> rfl
      rw [e]; exact u.block b hb (hS b rfl))
theorem RowB.upd {S : Nat → Prop} {w w' : World} {v : Value} {l : List Int} (h : RowB w v l) (u : Upd S w w') (hS : ∀ k, v.ownBlock = some k → ¬ S k) : RowB w' v l := row_upd h u hS

set_option maxRecDepth 100000 in
set_option maxHeartbeats 1000000 in
theorem clone_any {w : World} {v : Value} {l : List Int} (h : RdB w v l) (hl : l.length ≤ 1000000000) :
    Calls Tryd.prog 22 #[v] w fun e w' => ∃ v', e = .returned v' ∧ RowB w' v' l ∧ Upd Non w w' ∧ (∀ k, v'.ownBlock = some k → w.heap.size ≤ k) := by
  obtain ⟨i0, hi, hz0, hz1, hz2⟩ := info_parts info5
  rcases h with ⟨rfl, rfl⟩ | ⟨b, off, cap, rfl, hb, hc⟩
  · have hq := Lib.run_eql_slice_nil (P := Tryd.prog) w 22 5 none 0 0 0 0 Tryd.underlying22
    go_enter Tryd.func22, Tryd.ntmps22
    go_wp2
    go_ret
    exact ⟨_, rfl, World.ownsRow_nil _ _ _ _, Upd.refl _ _, fun k hk => by cases hk⟩
  · have h1 : 0 + l.length ≤ maxLen := by unfold maxLen; omega
    have h2 : (0 + l.length) * 1 ≤ 140737488355328 := by omega
    have hc' : ∀ j u, (bc l)[j]? = some u → (w.alloc (.cells #[] 5)).cell? ((⟨b, off, none⟩ : Addr).add j) = some u := by
      intro j x hx
      rw [← hc j x hx]
      exact World.cell?_of_block (by
        have e : ((⟨b, off, none⟩ : Addr).add j).block = b := by unfold Addr.add; split <;> rfl
        rw [e]; exact Below.heap_alloc _ _ _ hb)
    have HC : Hid (∀ j u, (bc l)[j]? = some u → (w.alloc (.cells #[] 5)).cell? ((⟨b, off, none⟩ : Addr).add j) = some u) := hc'
    clear hc hc'
    have hq := Lib.run_eql_slice_nil (P := Tryd.prog) w 22 5 (some ⟨b, off, none⟩) l.length cap 0 0 Tryd.underlying22
    go_enter Tryd.func22, Tryd.ntmps22
    go_wp2_with
      (at_builtin; refine wpList_append_own_at _ rfl _ _ 22 rfl 0 5 i0 (.int .u8 0) 1 1 Tryd.underlying22 hi hz0 hz1 hz2 rfl (by decide) _ _ _ rfl (World.ownsRow_made w #[] 0 (Nat.zero_le _) (by unfold maxLen; omega) rfl) ⟨b, off, none⟩ l.length cap (bc l) rfl (by simp [bc_len]) HC.out (bc_one l) h1 h2 (Nat.zero_le _) ?_
       intro v' w1 ho' hg hnil hloc)
    go_ret
    simp only [Nat.zero_add, List.nil_append] at ho'
    refine ⟨_, rfl, ho', ((Upd.refl _ _).alloc _).grown hg (fun k hk hlt => ?_), ?_⟩
    · cases hk; exact absurd hlt (Nat.lt_irrefl _)
    · intro k hk
      have hk' : v'.ownBlock = some k := hk
      rcases hloc with h | h
      · have h' : v'.ownBlock = some w.heap.size := h
        rw [hk'] at h'; cases h'; exact Nat.le_refl _
      · have h' : v'.ownBlock = some (w.alloc (.cells #[] 5)).heap.size := h
        rw [hk'] at h'; cases h'; simp
theorem RdB.cut {w : World} {a : Option Addr} {n c : Nat} {l : List Int} (h : RdB w (.slice a n c) l) (m : Nat) (hm : m ≤ n) : RdB w (.slice a m c) (l.take m) := by
  rcases h with ⟨h1, rfl⟩ | ⟨b, off, cap, h1, hb, hc⟩
  · cases h1
    have : m = 0 := by omega
    subst this
    exact .inl ⟨rfl, rfl⟩
  · cases h1
    refine .inr ⟨b, off, c, by rw [List.length_take, Nat.min_eq_left hm], hb, fun j u hj => hc j u ?_⟩
    unfold bc at *
    rw [List.map_take, List.getElem?_take] at hj
    split at hj
    · exact hj
    · cases hj
theorem rowb_hts {w : World} {v : Value} {l : List Int} (h : RowB w v l) (hl : l.length ≤ 8192) (hb : ∀ y ∈ l, 0 ≤ y ∧ y < 256) : Hts w v := by
  rcases h.rd with ⟨rfl, rfl⟩ | ⟨b, off, cap, rfl, _, hc⟩
  · exact .inl ⟨_, _, rfl⟩
  · by_cases h0 : l.length = 0
    · exact .inl ⟨some ⟨b, off, none⟩, cap, by rw [h0]⟩
    · refine .inr ⟨b, off, l.length, cap, rfl, by omega, hl, fun j hj => ?_⟩
      have := hb l[j] (List.getElem_mem hj)
      refine ⟨l[j], this.1, this.2, ?_⟩
      have h2 := hc j (.int .u8 l[j]) (by unfold bc; rw [List.getElem?_map, List.getElem?_eq_getElem hj]; rfl)
      rw [add_at] at h2
      exact h2
/-- A table of nothing. -/
theorem tab_new {w : World} {T : Nat} {how : Int} {hv : Value} (hT : Blk w T 72 (tbC ⟨how, hv, 0, .slice none 0 0, 0, 0, 0⟩ fun _ => .pointer none)) (hh : Hts w hv) (B : Nat → Prop) (b1 : B T) (b2 : ∀ k, hv.ownBlock = some k → B k ∧ k < w.heap.size ∧ k ≠ T) : Tb w T B how ⟨[], [], 0, 0, 0⟩ := by
  refine ⟨⟨how, hv, 0, .slice none 0 0, 0, 0, 0⟩, [], rfl, rfl, rfl, rfl, rfl, rfl, ⟨hT, ?_, ?_, ?_, ?_, ?_, ?_⟩, World.ownsRow_nil _ _ _ _, hh, ?_, ?_, fun k hk => (b2 k hk).1, fun k hk => ⟨(b2 k hk).2.1, ?_, by simp [Value.ownBlock]⟩⟩
  · intro i n h; simp at h
  · intro i n h; simp at h
  · intro n h; simp at h
  · intro i j m n h; simp at h
  · intro i j m n h; simp at h
  · intro n h; simp at h
  · rintro k (rfl | ⟨m, hm, _⟩)
    · exact b1
    · simp at hm
  · intro k hk; cases hk
  · rintro (rfl | ⟨m, hm, _⟩)
    · exact (b2 _ hk).2.2 rfl
    · simp at hm
def newB (w w' : World) : Nat → Prop := fun k => w.heap.size ≤ k ∧ k < w'.heap.size
set_option maxRecDepth 100000 in
set_option maxHeartbeats 1000000 in
theorem new_no {w : World} {a : Option Addr} {n c : Nat} {how : Int} (h0 : ¬ how = 0) (h1 : ¬ how = 1) : Calls Tryd.prog 7 #[.int .i64 how, .slice a n c] w fun e w' => e = .returned (.tuple #[.pointer none, .int .i64 1]) ∧ w' = w := by
  have hb0 : (how != 0) = true := by simpa using h0
  have hb1 : (how != 1) = true := by simpa using h1
  clear h0 h1
  go_enter Tryd.func7, Tryd.ntmps7
  go_wp2_with fail
  go_ret2
  exact ⟨rfl, rfl⟩
set_option maxRecDepth 100000 in
set_option maxHeartbeats 1000000 in
theorem new_any {w : World} {a : Option Addr} {n c : Nat} {l : List Int} (h : RdB w (.slice a n c) l) (hnc : n ≤ c) (hn : n ≤ 4611686018427387904) (hb : ∀ y ∈ l, 0 ≤ y ∧ y < 256) {how : Int} (hhow : how = 0 ∨ how = 1) :
    Calls Tryd.prog 7 #[.int .i64 how, .slice a n c] w fun e w' => ∃ T, e = .returned (.tuple #[ptr T, .int .i64 0]) ∧ Tb w' T (newB w w') how ⟨[], [], 0, 0, 0⟩ ∧ Below w.heap.size w w' ∧ w.heap.size ≤ T := by
  have HC : Hid (∀ m, m ≤ n → m ≤ 8192 → Calls Tryd.prog 22 #[.slice a m c] w fun e w' => ∃ v', e = .returned v' ∧ RowB w' v' (l.take m) ∧ Upd Non w w' ∧ (∀ k, v'.ownBlock = some k → w.heap.size ≤ k)) := fun m hm hm2 => clone_any (h.cut m hm) (by simp; omega)
  have hcz : (n : Int) ≤ c := by omega
  have HEnd : Hid (∀ (m : Nat) (v' : Value) (w1 : World), m ≤ 8192 → RowB w1 v' (l.take m) → Upd Non w w1 → (∀ k, v'.ownBlock = some k → w.heap.size ≤ k) →
      Tb (w1.alloc (.cells #[.int .i64 how, v', .pointer none, .pointer none, .pointer none, .pointer none, .pointer none, .pointer none, .pointer none, .pointer none, .pointer none, .pointer none, .pointer none, .pointer none, .pointer none, .pointer none, .int .i64 0, .int .i64 how, .slice none 0 0, .int .i64 0, .int .u64 0, .int .u64 0] 72)) w1.heap.size (newB w (w1.alloc (.cells #[.int .i64 how, v', .pointer none, .pointer none, .pointer none, .pointer none, .pointer none, .pointer none, .pointer none, .pointer none, .pointer none, .pointer none, .pointer none, .pointer none, .pointer none, .pointer none, .int .i64 0, .int .i64 how, .slice none 0 0, .int .i64 0, .int .u64 0, .int .u64 0] 72))) how ⟨[], [], 0, 0, 0⟩) := by
    intro m v' w1 hm hr hu hk
    have hlt : ∀ k, v'.ownBlock = some k → k < w1.heap.size := fun k hk => (World.ownsRow.lt hr k hk).2
    refine tab_new (Blk.new w1 72 _) (rowb_hts (hr.upd (S := Non) ((Upd.refl _ _).alloc _) (fun _ _ h => h)) (by simp; omega) (fun y hy => hb y (List.mem_of_mem_take hy))) _ ⟨hu.size, by simp⟩ (fun k hk2 => ?_)
    have := hlt k hk2
    refine ⟨⟨hk k hk2, by simp; omega⟩, by simp; omega, by omega⟩
  have hhb : ((how != 0) = false ∧ (how != 1) = true) ∨ ((how != 0) = true ∧ (how != 1) = false) := by rcases hhow with rfl | rfl <;> simp
  clear h hb hhow
  by_cases hbig : n ≤ 8192
  · have hbz : (n : Int) ≤ 8192 := by omega
    have HC1 := HC.out n (Nat.le_refl _) hbig
    rcases hhb with ⟨g1, g2⟩ | ⟨g1, g2⟩
    all_goals
      go_enter Tryd.func7, Tryd.ntmps7
      go_wp2_with (go_at_call 22; refine HC1.mono ?_; rintro e w1 ⟨v', rfl, hro, hup, hloc⟩; obtain ⟨va, vc, hvv⟩ := row_slice hro; rw [List.length_take] at hvv; subst hvv)
      go_ret2
      exact ⟨w1.heap.size, rfl, HEnd.out n _ w1 hbig hro hup hloc, (hup.alloc _).below (fun _ h => h) (fun _ h => h.elim), hup.size⟩
  · have hbz : (8192 : Int) < n := by omega
    have HC1 := HC.out 8192 (by omega) (Nat.le_refl _)
    rcases hhb with ⟨g1, g2⟩ | ⟨g1, g2⟩
    all_goals
      go_enter Tryd.func7, Tryd.ntmps7
      go_wp2_with (go_at_call 22; refine HC1.mono ?_; rintro e w1 ⟨v', rfl, hro, hup, hloc⟩; obtain ⟨va, vc, hvv⟩ := row_slice hro; rw [List.length_take] at hvv; subst hvv)
      go_ret2
      exact ⟨w1.heap.size, rfl, HEnd.out 8192 _ w1 (Nat.le_refl _) hro hup hloc, (hup.alloc _).below (fun _ h => h) (fun _ h => h.elim), hup.size⟩
end Go.Proofs.YtocanjefonlnaaaDoor
