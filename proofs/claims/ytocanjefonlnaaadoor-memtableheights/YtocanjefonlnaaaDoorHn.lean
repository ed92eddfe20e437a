import Derived.Test.YtocanjefonlnaaaDoorHl
namespace Go.Proofs.YtocanjefonlnaaaDoor
open Go.RowKit Go.Shelf
set_option linter.unusedVariables false
set_option linter.unusedSimpArgs false
theorem upd_cell {S : Nat → Prop} {w w' : World} (u : Upd S w w') {p : Addr} (hl : p.block < w.heap.size) (hs : ¬ S p.block) : w'.cell? p = w.cell? p := by
  unfold World.cell?; rw [u.block _ hl hs]
/-- A row that another's doings pass by reads as it did. -/
theorem Ap.reads {W0 : World} {bx rb : Nat} {l : List Ent} {W W' : World} (h : Ap W0 bx rb l W) {S : Nat → Prop} (u : Upd S W W') (h1 : ¬ S bx) (h2 : ¬ S rb) (h3 : ∀ k, W0.heap.size ≤ k → ¬ S k) : ∃ a cap, Blk W' bx 51 [.slice a l.length cap] ∧ RdE W' a l := by
  obtain ⟨v, g1, g2, g3⟩ := h.ex
  have r := row_upd g2 u (fun k hk => by
    rcases (g3 k hk).2 with e | e
    · rw [e]; exact h2
    · exact h3 k e)
  obtain ⟨a, cap, rfl, hr⟩ := row_rde r
  exact ⟨a, cap, g1.upd u h1, hr⟩
/-- A row that has not begun begins later. -/
theorem Ap.later {bx rb : Nat} {l : List Ent} {W W' : World} (h : Ap W bx rb l W) {S : Nat → Prop} (u : Upd S W W') (h1 : ¬ S bx) (h2 : ¬ S rb) : Ap W' bx rb l W' := by
  obtain ⟨v, g1, g2, g3⟩ := h.ex
  have e : ∀ k, v.ownBlock = some k → k = rb := fun k hk => by
    rcases (g3 k hk).2 with e | e
    · exact e
    · obtain ⟨c, t, f, hx⟩ := row_lt g2 k hk
      have := (Array.getElem?_eq_some_iff.1 hx).1
      omega
  exact ⟨⟨v, g1.upd u h1, row_upd g2 u (fun k hk => by rw [e k hk]; exact h2), fun k hk => ⟨(g3 k hk).1, .inl (e k hk)⟩⟩, Upd.refl _ _⟩
/-- All that is so where the second range begins. -/
structure Rh (w wr w5 W : World) (T1 T2 D B3 B4 : Nat) (st : Ms) (l : List Ent) : Prop where
  tr : Tr w W T1 T2 st st (fun k => wr.heap.size ≤ k)
  a0 : Ap w5 (wr.heap.size + 1 + 1) wr.heap.size l W
  a1 : Ap W (wr.heap.size + 1 + 1 + 1) (wr.heap.size + 1) [] W
  c3 : W.cell? ⟨B3, 0, none⟩ = some (ptr T1)
  c4 : Blk W B4 38 [.string ⟨#[255, 255, 255, 255, 255]⟩, .int .u64 0, .int .i64 0]
  mk1 : W.heap[D]? = some (.deferred (some []))
  hD : w5.heap.size ≤ D
  sz : wr.heap.size + 4 ≤ w5.heap.size
theorem Rh.mk' {w wr w5 W : World} {T1 T2 D B3 B4 : Nat} {st : Ms} {l : List Ent} (h : Rg w wr w5 T1 T2 st) (ha : Ap w5 (wr.heap.size + 1 + 1) wr.heap.size l W)
    (c3 : w5.cell? ⟨B3, 0, none⟩ = some (ptr T1)) (c4 : Blk w5 B4 38 [.string ⟨#[255, 255, 255, 255, 255]⟩, .int .u64 0, .int .i64 0]) (h3 : wr.heap.size + 4 ≤ B3) (h4 : wr.heap.size + 4 ≤ B4)
    (mk : W.heap[D]? = some (.deferred (some []))) (hD : w5.heap.size ≤ D) : Rh w wr w5 W T1 T2 D B3 B4 st l :=
  ⟨h.tr.upd (ha.up.mono (fun k _ hk => by omega)), ha, h.a1.later ha.up (by omega) (by omega), (upd_cell ha.up (block_lt_of_cell c3) (by show ¬ (B3 = _ ∨ B3 = _); omega)).trans c3, c4.upd ha.up (by omega), mk, hD, h.sz⟩
/-- All that is so behind both ranges. -/
structure Fi (w W : World) (T1 T2 D1 D2 x y : Nat) (st : Ms) (l : List Ent) (n : Nat) (a1 a2 : Option Addr) (c1 c2 : Nat) : Prop where
  ln : l.length = n
  two : Two w W T1 T2 st st
  b1 : Blk W x 51 [.slice a1 n c1]
  r1 : RdE W a1 l
  b2 : Blk W y 51 [.slice a2 n c2]
  r2 : RdE W a2 l.reverse
  m1 : W.heap[D1]? = some (.deferred (some []))
  m2 : W.heap[D2]? = some (.deferred (some []))
  ne : D1 ≠ D2
  o1 : w.heap.size ≤ D1
  o2 : w.heap.size ≤ D2
theorem Fi.mk' {w wr w5 W W3 : World} {T1 T2 D1 D2 B3 B4 : Nat} {st : Ms} {l : List Ent} (h : Rh w wr w5 W T1 T2 D1 B3 B4 st l) (ha : Ap W (wr.heap.size + 1 + 1 + 1) (wr.heap.size + 1) l.reverse W3) (m2 : W3.heap[D2]? = some (.deferred (some []))) (hD : W.heap.size ≤ D2) (hsz : w.heap.size ≤ wr.heap.size) :
    ∃ a1 c1 a2 c2, Fi w W3 T1 T2 D1 D2 (wr.heap.size + 1 + 1) (wr.heap.size + 1 + 1 + 1) st l l.length a1 a2 c1 c2 := by
  have hs := h.sz
  have hD1 := h.hD
  have hl1 : D1 < W.heap.size := (Array.getElem?_eq_some_iff.1 h.mk1).1
  obtain ⟨a1, c1, b1, r1⟩ := h.a0.reads ha.up (by omega) (by omega) (fun k hk => by omega)
  obtain ⟨a2, c2, b2, r2⟩ := ha.reads (Upd.refl Non _) id id (fun _ _ => id)
  rw [List.length_reverse] at b2
  exact ⟨a1, c1, a2, c2, rfl, (h.tr.upd (ha.up.mono (fun k _ hk => by omega))).two, b1, r1, b2, r2, (ha.up.block _ hl1 (by omega)).trans h.mk1, m2, by omega, by omega, by omega⟩
theorem rde_below {W W' : World} {a : Option Addr} {l : List Ent} (h : RdE W a l) (hb : Below W.heap.size W W') : RdE W' a l := by
  rcases h with h | ⟨b, off, e, h⟩
  · exact .inl h
  · refine .inr ⟨b, off, e, fun j x hx => ?_⟩
    obtain ⟨e0, e1, e2, e3⟩ := h j x hx
    exact ⟨(hb.cell (block_lt_of_cell e0)).trans e0, (hb.cell (block_lt_of_cell e1)).trans e1, (hb.cell (block_lt_of_cell e2)).trans e2, (hb.cell (block_lt_of_cell e3)).trans e3⟩
theorem Fi.step {w W W' : World} {T1 T2 D1 D2 x y : Nat} {st : Ms} {l : List Ent} {n : Nat} {a1 a2 : Option Addr} {c1 c2 : Nat} (h : Fi w W T1 T2 D1 D2 x y st l n a1 a2 c1 c2) (hb : Below W.heap.size W W') : Fi w W' T1 T2 D1 D2 x y st l n a1 a2 c1 c2 :=
  ⟨h.ln, h.two.step hb, h.b1.upd (S := Non) (Upd.ofBelow hb) id, rde_below h.r1 hb, h.b2.upd (S := Non) (Upd.ofBelow hb) id, rde_below h.r2 hb, (hb.block _ (Array.getElem?_eq_some_iff.1 h.m1).1).trans h.m1, (hb.block _ (Array.getElem?_eq_some_iff.1 h.m2).1).trans h.m2, h.ne, h.o1, h.o2⟩
/-- What Get tells of a table in that state. -/
def getX (st : Ms) (key : ByteArray) (seq : Int) := gV (look st.E key seq) (ovS 0 key seq st.R)
theorem Fi.get1 {w W : World} {T1 T2 D1 D2 x y : Nat} {st : Ms} {l : List Ent} {n : Nat} {a1 a2 : Option Addr} {c1 c2 : Nat} (h : Fi w W T1 T2 D1 D2 x y st l n a1 a2 c1 c2) (hI : Inv 0 st) (key : ByteArray) (seq : Int) :
    Calls Tryd.prog 13 #[ptr T1, .string key, .int .u64 seq] W fun e w' => e = .returned (gv (getX st key seq)) ∧ Fi w w' T1 T2 D1 D2 x y st l n a1 a2 c1 c2 := by
  obtain ⟨Ba, Bc, g1, _⟩ := h.two.ex
  unfold getX
  rw [← get_S hI]
  exact (get_tb g1 hI key seq).mono fun e w' hh => ⟨hh.1, h.step hh.2⟩
theorem Fi.get2 {w W : World} {T1 T2 D1 D2 x y : Nat} {st : Ms} {l : List Ent} {n : Nat} {a1 a2 : Option Addr} {c1 c2 : Nat} (h : Fi w W T1 T2 D1 D2 x y st l n a1 a2 c1 c2) (hI : Inv 0 st) (key : ByteArray) (seq : Int) :
    Calls Tryd.prog 13 #[ptr T2, .string key, .int .u64 seq] W fun e w' => e = .returned (gv (getX st key seq)) ∧ Fi w w' T1 T2 D1 D2 x y st l n a1 a2 c1 c2 := by
  obtain ⟨Bc, Ba, g1, _⟩ := h.two.swap.ex
  unfold getX
  rw [← get_S hI]
  exact (get_tb g1 hI key seq).mono fun e w' hh => ⟨hh.1, h.step hh.2⟩
theorem Two.plain {w wr : World} {Ta Tc : Nat} {sa sc : Ms} (h : Two w wr Ta Tc sa sc) : Tr w wr Ta Tc sa sc Non := by
  obtain ⟨Ba, Bc, h1, h2, h3, h4, h5⟩ := h.ex
  exact ⟨⟨Ba, Bc, h1, h2, fun k hk => ⟨(h3 k hk).1, (h3 k hk).2, id⟩, fun k hk => ⟨(h4 k hk).1, (h4 k hk).2, id⟩, h5⟩, h.bel, fun k hk => hk.elim⟩
theorem Fi.back {w W : World} {T1 T2 D1 D2 x y : Nat} {st : Ms} {l : List Ent} {n : Nat} {a1 a2 : Option Addr} {c1 c2 : Nat} (h : Fi w W T1 T2 D1 D2 x y st l n a1 a2 c1 c2) :
    Calls Tryd.prog 16 #[ptr T2, .agg #[.string ⟨#[255, 255, 255, 255, 255]⟩, .int .u64 0, .int .i64 0]] W fun e w' => ∃ B3 B4, e = .returned (.func (.func 53) #[] #[.pointer (some ⟨B3, 0, none⟩), .pointer (some ⟨B4, 0, none⟩)]) ∧ Fi w w' T1 T2 D1 D2 x y st l n a1 a2 c1 c2 ∧
      w'.cell? ⟨B3, 0, none⟩ = some (ptr T2) ∧ Blk w' B4 38 [.string ⟨#[255, 255, 255, 255, 255]⟩, .int .u64 0, .int .i64 0] := by
  have hT : T2 < W.heap.size := by
    obtain ⟨Ba, Bc, g1, g2, _⟩ := h.two.ex
    obtain ⟨C, L, _, _, _, _, _, _, hS, _⟩ := g2.ex
    exact hS.tab.lt
  refine (back_made hT _ _ _).mono ?_
  rintro e w' ⟨B3, B4, rfl, r1, r2, _, _, r5⟩
  exact ⟨B3, B4, rfl, h.step r5, r1, r2⟩
theorem Fi.goes {w W : World} {T1 T2 D1 D2 x y : Nat} {st : Ms} {l : List Ent} {n : Nat} {a1 a2 : Option Addr} {c1 c2 : Nat} (h : Fi w W T1 T2 D1 D2 x y st l n a1 a2 c1 c2) (hI : Inv 0 st) (hq : ∀ e ∈ st.E, 0 ≤ e.s) (hl : l = st.E.filter (upU U5)) {B3 B4 : Nat}
    (c3 : W.cell? ⟨B3, 0, none⟩ = some (ptr T2)) (c4 : Blk W B4 38 [.string ⟨#[255, 255, 255, 255, 255]⟩, .int .u64 0, .int .i64 0]) :
    Calls Tryd.prog 17 #[.func (.func 53) #[] #[.pointer (some ⟨B3, 0, none⟩), .pointer (some ⟨B4, 0, none⟩)], .slice a2 n c2, .int .i64 0] W fun e w' => e = .returned (.bool true) ∧ Fi w w' T1 T2 D1 D2 x y st l n a1 a2 c1 c2 := by
  obtain ⟨B, hB, hseq⟩ := h.two.swap.plain.back hI hq U5 c3 c4 4 (by omega)
  rw [← hl] at hseq
  have hn := hI.n
  unfold Ms.n at hn
  have hf := List.length_filter_le (upU U5) st.E
  rw [← hl] at hf
  have := goes_any l.reverse (fun k hk => (hB k hk).1) (fun args w => by kernel_rfl) hseq h.r2 c2 (by rw [List.length_reverse]; omega) 0
  rw [List.length_reverse, h.ln] at this
  exact this.mono fun e w' hh => ⟨hh.1, h.step hh.2⟩
theorem Fi.len1 {w W : World} {T1 T2 D1 D2 x y : Nat} {st : Ms} {l : List Ent} {n : Nat} {a1 a2 : Option Addr} {c1 c2 : Nat} (h : Fi w W T1 T2 D1 D2 x y st l n a1 a2 c1 c2) (hI : Inv 0 st) :
    Calls Tryd.prog 18 #[ptr T1] W fun e w' => e = .returned (.int .i64 ((st.E.length : Int) + st.R.length)) ∧ Fi w w' T1 T2 D1 D2 x y st l n a1 a2 c1 c2 := (h.two.len hI).mono fun e w' hh => ⟨hh.1, by rw [hh.2]; exact h.step (Below.refl _ _).drew⟩
theorem Fi.len2 {w W : World} {T1 T2 D1 D2 x y : Nat} {st : Ms} {l : List Ent} {n : Nat} {a1 a2 : Option Addr} {c1 c2 : Nat} (h : Fi w W T1 T2 D1 D2 x y st l n a1 a2 c1 c2) (hI : Inv 0 st) :
    Calls Tryd.prog 18 #[ptr T2] W fun e w' => e = .returned (.int .i64 ((st.E.length : Int) + st.R.length)) ∧ Fi w w' T1 T2 D1 D2 x y st l n a1 a2 c1 c2 := (h.two.swap.len hI).mono fun e w' hh => ⟨hh.1, by rw [hh.2]; exact h.step (Below.refl _ _).drew⟩
theorem Fi.size1 {w W : World} {T1 T2 D1 D2 x y : Nat} {st : Ms} {l : List Ent} {n : Nat} {a1 a2 : Option Addr} {c1 c2 : Nat} (h : Fi w W T1 T2 D1 D2 x y st l n a1 a2 c1 c2) :
    Calls Tryd.prog 19 #[ptr T1] W fun e w' => e = .returned (.int .i64 st.sz) ∧ Fi w w' T1 T2 D1 D2 x y st l n a1 a2 c1 c2 := h.two.size.mono fun e w' hh => ⟨hh.1, by rw [hh.2]; exact h⟩
theorem Fi.size2 {w W : World} {T1 T2 D1 D2 x y : Nat} {st : Ms} {l : List Ent} {n : Nat} {a1 a2 : Option Addr} {c1 c2 : Nat} (h : Fi w W T1 T2 D1 D2 x y st l n a1 a2 c1 c2) :
    Calls Tryd.prog 19 #[ptr T2] W fun e w' => e = .returned (.int .i64 st.sz) ∧ Fi w w' T1 T2 D1 D2 x y st l n a1 a2 c1 c2 := h.two.swap.size.mono fun e w' hh => ⟨hh.1, by rw [hh.2]; exact h⟩
theorem Fi.tombs1 {w W : World} {T1 T2 D1 D2 x y : Nat} {st : Ms} {l : List Ent} {n : Nat} {a1 a2 : Option Addr} {c1 c2 : Nat} (h : Fi w W T1 T2 D1 D2 x y st l n a1 a2 c1 c2) (hI : Inv 0 st) :
    Calls Tryd.prog 21 #[ptr T1] W fun e w' => ∃ v', e = .returned v' ∧ w'.ownsRow 0 81 3 v' st.R.length (tcs st.R) ∧ Fi w w' T1 T2 D1 D2 x y st l n a1 a2 c1 c2 := (h.two.tombs hI).mono fun e w' ⟨v', h1, h2, h3, _⟩ => ⟨v', h1, h2, h.step h3⟩
theorem Fi.tombs2 {w W : World} {T1 T2 D1 D2 x y : Nat} {st : Ms} {l : List Ent} {n : Nat} {a1 a2 : Option Addr} {c1 c2 : Nat} (h : Fi w W T1 T2 D1 D2 x y st l n a1 a2 c1 c2) (hI : Inv 0 st) {v : Value} (hv : W.ownsRow 0 81 3 v st.R.length (tcs st.R)) :
    Calls Tryd.prog 21 #[ptr T2] W fun e w' => ∃ v', e = .returned v' ∧ w'.ownsRow 0 81 3 v st.R.length (tcs st.R) ∧ w'.ownsRow 0 81 3 v' st.R.length (tcs st.R) ∧ Fi w w' T1 T2 D1 D2 x y st l n a1 a2 c1 c2 := (h.two.swap.tombs hI).mono fun e w' ⟨v', h1, h2, h3, _⟩ => ⟨v', h1, row_upd (S := Non) hv (Upd.ofBelow h3) (fun _ _ => id), h2, h.step h3⟩
end Go.Proofs.YtocanjefonlnaaaDoor
