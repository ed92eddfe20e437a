import Derived.Test.YtjnlolibfcpbkaaDoorK
namespace Go.Proofs.YtjnlolibfcpbkaaDoor
open Go.RowKit Go.Maps
set_option linter.unusedVariables false
set_option linter.unusedSimpArgs false
theorem bcut_lo2 (a : Option Addr) (n cap m : Nat) (h : m ≤ n) (W : World) : (Instr.sliceAt 22 (.slice a n cap) (some (.int .i64 m)) none none).run Tryd.prog W = .ok (.slice (cutA a cap m) (n - m) (cap - m)) W := by
  have hs : (sizeOf 5).run Tryd.prog W = .ok 1 W := by kernel_rfl
  have hr := run_slice_l (P := Tryd.prog) W 22 a n cap slc22 .i64 (m : Int) (by omega) (by omega)
  rw [elem22, hs] at hr
  simp only [Result.andThen, sliced, Int.toNat_natCast] at hr
  rw [run_sliceAt_slice _ _ _ _ _ _ slc22, hr]
  unfold cutA
  cases a <;> split <;> simp
theorem lft_next (m : Nat) : lft (m + lft m) = 4096 := by unfold lft; omega
/-- A record that the reference has read. -/
def Lie2 (w : World) (nv lv v : Value) (l : List Int) : Prop :=
  ∃ ra cp, v = .slice ra l.length cp ∧ Arg w ra l.length cp l ∧ (l = [] ∨ ∃ B off, ra = some ⟨B, off, none⟩ ∧ nv.ownBlock ≠ some B ∧ lv.ownBlock ≠ some B)
/-- What the reference's Read has in hand. -/
structure Rq (w : World) (base : Nat) (s : St) (nv lv : Value) (svs : List Value) : Prop where
  own : OwnB w base nv s.now
  row : w.ownsRow base 22 1 lv s.recs.length svs
  rds : ∀ (i : Nat) (l : List Int), s.recs[i]? = some l → ∃ v, svs[i]? = some v ∧ Lie2 w nv lv v l
  nl : ∀ k, lv.ownBlock = some k → nv.ownBlock ≠ some k
  siz : base ≤ w.heap.size
  byt : Byt s.now
theorem Lie2.upd {S : Nat → Prop} {w w' : World} {nv lv v : Value} {l : List Int} (h : Lie2 w nv lv v l) (u : Upd S w w') (hS : ∀ B, nv.ownBlock ≠ some B → lv.ownBlock ≠ some B → ¬ S B) : Lie2 w' nv lv v l := by
  obtain ⟨ra, cp, rfl, hA, hd⟩ := h
  refine ⟨ra, cp, rfl, hA.upd u ?_, hd⟩
  intro B off e hn
  rcases hd with rfl | ⟨B', off', e', h1, h2⟩
  · exact absurd rfl hn
  · rw [e] at e'; cases e'; exact hS B h1 h2
theorem Lie2.lt {w : World} {nv lv v : Value} {l : List Int} (h : Lie2 w nv lv v l) : l = [] ∨ ∃ B off cp, v = .slice (some ⟨B, off, none⟩) l.length cp ∧ B < w.heap.size ∧ nv.ownBlock ≠ some B ∧ lv.ownBlock ≠ some B := by
  obtain ⟨ra, cp, rfl, hA, hd⟩ := h
  by_cases hn : l = []
  · exact .inl hn
  rcases hd with hd | ⟨B, off, e, h1, h2⟩
  · exact .inl hd
  · rcases hA.2.2.2 with h9 | ⟨b9, o9, e9, h9, _⟩
    · exact absurd h9 hn
    · rw [e] at e9; cases e9
      exact .inr ⟨B, off, cp, by rw [e], h9, h1, h2⟩
/-- What is in hand turns to other blocks, that are new or were the same. -/
theorem Lie2.swap {w : World} {nv lv nv' lv' v : Value} {l : List Int} {N : Nat} (h : Lie2 w nv lv v l) (hN : l ≠ [] → ∀ B off cp, v = .slice (some ⟨B, off, none⟩) l.length cp → B < N) (h1 : nv'.ownBlock = nv.ownBlock ∨ ∀ k, nv'.ownBlock = some k → N ≤ k) (h2 : lv'.ownBlock = lv.ownBlock ∨ ∀ k, lv'.ownBlock = some k → N ≤ k) : Lie2 w nv' lv' v l := by
  have hh := h.lt
  obtain ⟨ra, cp, e, hA, hd⟩ := h
  refine ⟨ra, cp, e, hA, ?_⟩
  by_cases hn : l = []
  · exact .inl hn
  rcases hh with hh | ⟨B, off, cp', e', hB, n1, n2⟩
  · exact .inl hh
  · have hBN := hN hn B off cp' e'
    rw [e] at e'
    cases e'
    refine .inr ⟨B, off, rfl, ?_, ?_⟩
    · rcases h1 with h1 | h1
      · rw [h1]; exact n1
      · intro e9; have := h1 B e9; omega
    · rcases h2 with h2 | h2
      · rw [h2]; exact n2
      · intro e9; have := h2 B e9; omega
theorem Rq.below {w w' : World} {base : Nat} {s : St} {nv lv : Value} {svs : List Value} (h : Rq w base s nv lv svs) (u : Below w.heap.size w w') : Rq w' base s nv lv svs :=
  ⟨h.own.below u (Nat.le_refl _), row_upd h.row (Upd.ofBelow (S := Non) u) (fun _ _ h => h), fun i l hl => (by
    obtain ⟨v, hv, hL⟩ := h.rds i l hl
    exact ⟨v, hv, hL.upd (S := Non) (Upd.ofBelow u) (fun _ _ _ h => h)⟩), h.nl, Nat.le_trans h.siz u.size, h.byt⟩
/-- The record in hand has got longer. -/
theorem Rq.put {w w4 : World} {base : Nat} {s : St} {nv lv : Value} {svs : List Value} (h : Rq w base s nv lv svs) {v' : Value} {l' : List Int} (ho : OwnB w4 base v' l') (hby : Byt l') (hg : w.grownBy w4 nv.ownBlock) (hat : v'.ownBlock = nv.ownBlock ∨ v'.ownBlock = some w.heap.size) :
    Rq w4 base { s with now := l' } v' lv svs ∧ Below base w w4 := by
  have u4 := Upd.ofGrown hg
  have hat' : v'.ownBlock = nv.ownBlock ∨ ∀ k, v'.ownBlock = some k → w.heap.size ≤ k := by
    rcases hat with e | e
    · exact .inl e
    · exact .inr (fun k hk => by rw [e] at hk; cases hk; exact Nat.le_refl _)
  refine ⟨⟨ho, row_upd h.row u4 (fun k hk e => h.nl k hk e), ?_, ?_, Nat.le_trans h.siz u4.size, hby⟩, ?_⟩
  · intro i l hl
    obtain ⟨v, hv, hL⟩ := h.rds i l hl
    refine ⟨v, hv, (hL.upd u4 (fun B h1 h2 e => h1 e)).swap (N := w.heap.size) ?_ hat' (.inl rfl)⟩
    intro hn B off cp e
    rcases hL.lt with h9 | ⟨B', off', cp', e', h9, _⟩
    · exact absurd h9 hn
    · rw [e] at e'; cases e'; exact h9
  · intro k hk
    rcases hat' with e | e
    · rw [e]; exact h.nl k hk
    · intro e2
      have := e k e2
      have := (h.row.lt k hk).2
      omega
  · exact u4.below (fun k hk => Nat.lt_of_lt_of_le hk h.siz) (fun k hk => (h.own.lt k hk).1)
/-- A record is whole: it goes to the others; a new one is begun. -/
theorem Rq.push {w w5 : World} {base : Nat} {s : St} {nv lv : Value} {svs : List Value} (h : Rq w base s nv lv svs) (hn : s.now.length ≤ 140737488351232) {o : Obj} {lv' : Value} (hrow : w5.ownsRow base 22 1 lv' (s.recs.length + 1) (svs ++ [nv])) (hg : (w.alloc o).grownBy w5 lv.ownBlock) (hat : lv'.ownBlock = lv.ownBlock ∨ lv'.ownBlock = some (w.alloc o).heap.size) {a' en' : Nat} {o' : Bool} :
    Rq (w5.alloc (.cells #[] 5)) base ⟨a', o', [], s.recs ++ [s.now], en'⟩ (.slice (some ⟨w5.heap.size, 0, none⟩) 0 0) lv' (svs ++ [nv]) ∧ Below base w (w5.alloc (.cells #[] 5)) := by
  have hsz : (w.alloc o).heap.size = w.heap.size + 1 := by simp
  have ua : Upd (fun k => lv.ownBlock = some k) w (w5.alloc (.cells #[] 5)) := (((Upd.refl _ w).alloc o).grown hg (fun k hk _ => hk)).alloc _
  have hs5 : w.heap.size ≤ w5.heap.size := by have := hg.size; rw [hsz] at this; omega
  have hat' : lv'.ownBlock = lv.ownBlock ∨ ∀ k, lv'.ownBlock = some k → w.heap.size ≤ k := by
    rcases hat with e | e
    · exact .inl e
    · exact .inr (fun k hk => by rw [e, hsz] at hk; cases hk; omega)
  have hnew : (Value.slice (some ⟨w5.heap.size, 0, none⟩) 0 0).ownBlock = nv.ownBlock ∨ ∀ k, (Value.slice (some ⟨w5.heap.size, 0, none⟩) 0 0).ownBlock = some k → w.heap.size ≤ k := .inr (fun k hk => by cases hk; exact hs5)
  have hsl : svs.length = s.recs.length := by have := h.row.1; omega
  refine ⟨⟨(own_empty w5).mono (Nat.le_trans h.siz hs5), ?_, ?_, ?_, Nat.le_trans h.siz ua.size, fun c hc => by cases hc⟩, ?_⟩
  · have := hrow.alloc (.cells #[] 5)
    simpa using this
  · intro i l hl
    by_cases hi : i < s.recs.length
    · have hl' : s.recs[i]? = some l := by
        have hl0 : (s.recs ++ [s.now])[i]? = some l := hl
        rwa [List.getElem?_append_left hi] at hl0
      obtain ⟨v, hv, hL⟩ := h.rds i l hl'
      refine ⟨v, by rw [List.getElem?_append_left (by omega)]; exact hv, (hL.upd ua (fun B h1 h2 e => h2 e)).swap (N := w.heap.size) ?_ hnew hat'⟩
      intro hn0 B off cp e
      rcases hL.lt with h9 | ⟨B', off', cp', e', h9, _⟩
      · exact absurd h9 hn0
      · rw [e] at e'; cases e'; exact h9
    · have hl0 : (s.recs ++ [s.now])[i]? = some l := hl
      have hi2 : i = s.recs.length := by
        have := (List.getElem?_eq_some_iff.1 hl0).1
        simp at this
        omega
      subst hi2
      simp at hl0
      subst hl0
      refine ⟨nv, by rw [← hsl]; simp, ?_⟩
      obtain ⟨ra, cp, e1, hA⟩ := h.own.arg h.byt hn
      have hnl : ∀ B off, ra = some ⟨B, off, none⟩ → nv.ownBlock = some B := by
        intro B off e; rw [e1, e]; rfl
      refine ⟨ra, cp, e1, hA.upd ua ?_, ?_⟩
      · intro B off e _ e2
        exact h.nl B e2 (hnl B off e)
      · rcases hA.2.2.2 with h9 | ⟨B, off, e9, h9, _⟩
        · exact .inl h9
        · refine .inr ⟨B, off, e9, ?_, ?_⟩
          · intro e; have e' : w5.heap.size = B := Option.some.inj e; omega
          · rcases hat' with e | e
            · rw [e]; exact fun e3 => h.nl B e3 (hnl B off e9)
            · intro e3; have := e B e3; omega
  · intro k hk e
    have e' : w5.heap.size = k := Option.some.inj e
    have := (hrow.lt k hk).2
    omega
  · exact ua.below (fun k hk => Nat.lt_of_lt_of_le hk h.siz) (fun k hk => (h.row.lt k hk).1)
theorem Rq.rdll {w : World} {base : Nat} {s : St} {nv lv : Value} {svs : List Value} (h : Rq w base s nv lv svs) : RdLL w lv s.recs := by
  obtain ⟨a, c, e⟩ := row_form h.row
  refine ⟨a, c, e, fun i l hl => ?_⟩
  have hi : i < s.recs.length := (List.getElem?_eq_some_iff.1 hl).1
  obtain ⟨v, hv, ra, cp, rfl, hA, _⟩ := h.rds i l hl
  have hr := h.row
  rcases hr.2 with ⟨_, h0⟩ | ⟨g, cap, cur, e2, _, hgg, _⟩
  · omega
  · rw [e] at e2
    cases e2
    refine ⟨g, ra, cp, rfl, (Array.getElem?_eq_some_iff.1 hgg).1, ?_, hA⟩
    have := hr.cells (g := g) (by rw [e]; rfl) i _ hv
    rw [add_at] at this
    simpa using this
end Go.Proofs.YtjnlolibfcpbkaaDoor
