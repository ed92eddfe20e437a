import Derived.Test.YtocanjefonlnaaaDoorLv
import Derived.Test.YtocanjefonlnaaaDoorZb
namespace Go.Proofs.YtocanjefonlnaaaDoor
open Go.RowKit
set_option linter.unusedVariables false
set_option linter.unusedSimpArgs false
/-- A record at a place. -/
def RAt (w : World) (b o : Nat) (r : Rec) : Prop := w.cell? ⟨b, o, none⟩ = some (.int .u32 r.fam) ∧ w.cell? ⟨b, o + 1, none⟩ = some (.int .i64 r.kind) ∧ w.cell? ⟨b, o + 2, none⟩ = some (.string r.key) ∧ w.cell? ⟨b, o + 3, none⟩ = some (.string r.val)
/-- A slice whose records are these, wherever it lies. -/
def RdR (w : World) (a : Option Addr) (l : List Rec) : Prop := l = [] ∨ ∃ b off, a = some ⟨b, off, none⟩ ∧ b < w.heap.size ∧ ∀ (j : Nat) (r : Rec), l[j]? = some r → RAt w b (off + j * 4) r
/-- The table behind k of the records, numbered from s on. -/
def run (how : Int) (l : List Rec) (s : Int) : Nat → Ms → Ms
  | 0, st => st
  | k + 1, st => match l[k]? with
    | some r => (addM how (run how l s k st) (s + k) r.kind r.key r.val).2
    | none => run how l s k st
theorem run_step (how : Int) (l : List Rec) (s : Int) (k : Nat) (st : Ms) (r : Rec) (h : l[k]? = some r) : run how l s (k + 1) st = (addM how (run how l s k st) (s + k) r.kind r.key r.val).2 := by
  rw [run, h]
theorem run_inv (how : Int) (l : List Rec) (s : Int) (hs : 0 ≤ s) (st : Ms) (h : Inv how st) : ∀ k, Inv how (run how l s k st)
  | 0 => h
  | k + 1 => by
    have ih := run_inv how l s hs st h k
    unfold run
    split
    · exact inv_add ih (by omega) _ _ _
    · exact ih
/-- What comes at a greater number is not seen. -/
theorem add_unseen (how : Int) (st : Ms) (seq k : Int) (key val : ByteArray) (ky : ByteArray) (i : Int) (h : i < seq) :
    look (addM how st seq k key val).2.E ky i = look st.E ky i ∧ ovS how ky i (addM how st seq k key val).2.R = ovS how ky i st.R := by
  rcases addM_way how st seq k key val with ⟨e, _⟩ | ⟨_, _, _, _, e⟩ | ⟨_, _, _, _, e⟩
  · rw [e]; exact ⟨rfl, rfl⟩
  · rw [e]
    exact ⟨rfl, ovS_tins how ky i st.R _ _ (by unfold ov; simp only [decide_eq_false_iff_not]; rintro ⟨_, h2, _⟩; have : seq ≤ i := h2; omega)⟩
  · rw [e]
    exact ⟨look_eins _ _ _ _ _ (by rintro ⟨_, h2⟩; have : seq ≤ i := h2; omega), rfl⟩
theorem run_unseen (how : Int) (l : List Rec) (s : Int) (st : Ms) (ky : ByteArray) (i : Int) (h : i < s) : ∀ k, look (run how l s k st).E ky i = look st.E ky i ∧ ovS how ky i (run how l s k st).R = ovS how ky i st.R
  | 0 => ⟨rfl, rfl⟩
  | k + 1 => by
    have ih := run_unseen how l s st ky i h k
    unfold run
    split
    · next r _ =>
      have := add_unseen how (run how l s k st) (s + k) r.kind r.key r.val ky i (by omega)
      exact ⟨this.1.trans ih.1, this.2.trans ih.2⟩
    · exact ih
/-- What Get tells of a table that stands well. -/
theorem get_S {how : Int} {st : Ms} (h : Inv how st) (key : ByteArray) (seq : Int) : getV how st.E st.R key seq (posE how st.E key seq 2) = gV (look st.E key seq) (ovS how key seq st.R) := by
  rw [getV_look h.se h.kd, ovr_S h.sr h.sq]
/-- Two tables, apart from each other. -/
structure Two (w wr : World) (Ta Tc : Nat) (sa sc : Ms) : Prop where
  ex : ∃ Ba Bc : Nat → Prop, Tb wr Ta Ba 0 sa ∧ Tb wr Tc Bc 0 sc ∧ (∀ k, Ba k → w.heap.size ≤ k ∧ k < wr.heap.size) ∧ (∀ k, Bc k → w.heap.size ≤ k ∧ k < wr.heap.size) ∧ (∀ k, Ba k → ¬ Bc k)
  bel : Below w.heap.size w wr
theorem Two.swap {w wr : World} {Ta Tc : Nat} {sa sc : Ms} (h : Two w wr Ta Tc sa sc) : Two w wr Tc Ta sc sa := by
  obtain ⟨Ba, Bc, h1, h2, h3, h4, h5⟩ := h.ex
  exact ⟨⟨Bc, Ba, h2, h1, h4, h3, fun k hk hk' => h5 k hk' hk⟩, h.bel⟩
theorem Two.step {w wr wr' : World} {Ta Tc : Nat} {sa sc : Ms} (h : Two w wr Ta Tc sa sc) (hb : Below wr.heap.size wr wr') : Two w wr' Ta Tc sa sc := by
  obtain ⟨Ba, Bc, h1, h2, h3, h4, h5⟩ := h.ex
  exact ⟨⟨Ba, Bc, h1.below hb, h2.below hb, fun k hk => ⟨(h3 k hk).1, Nat.lt_of_lt_of_le (h3 k hk).2 hb.size⟩, fun k hk => ⟨(h4 k hk).1, Nat.lt_of_lt_of_le (h4 k hk).2 hb.size⟩, h5⟩, h.bel.trans (hb.mono h.bel.size)⟩
theorem Two.add {w wr : World} (hz : Tz w) (h2 : 2 < w.heap.size) {Ta Tc : Nat} {sa sc : Ms} (h : Two w wr Ta Tc sa sc) (hI : Inv 0 sa) (seq f k : Int) (key val : ByteArray) :
    Calls Tryd.prog 12 #[ptr Ta, .int .u64 seq, recV f k key val] wr fun e w' => e = .returned (.int .i64 (addM 0 sa seq k key val).1) ∧ Two w w' Ta Tc (addM 0 sa seq k key val).2 sc := by
  obtain ⟨Ba, Bc, g1, g2, g3, g4, g5⟩ := h.ex
  refine (add_any g1 hI (tz_keep hz h.bel h2) (fun k hk => (g3 k hk).2) seq f k key val).mono ?_
  rintro e w' ⟨rfl, t1, u1⟩
  refine ⟨rfl, ⟨grB Ba wr w', Bc, t1, g2.upd u1 (fun k hk hk' => g5 k hk' hk), ?_, fun k hk => ⟨(g4 k hk).1, Nat.lt_of_lt_of_le (g4 k hk).2 u1.size⟩, ?_⟩, up_bel h.bel u1 (fun k hk => (g3 k hk).1) h.bel.size⟩
  · rintro k (hk | hk)
    · exact ⟨(g3 k hk).1, Nat.lt_of_lt_of_le (g3 k hk).2 u1.size⟩
    · exact ⟨Nat.le_trans h.bel.size hk.1, hk.2⟩
  · rintro k (hk | hk) hk'
    · exact g5 k hk hk'
    · have := (g4 k hk').2; omega
theorem Two.get {w wr : World} {Ta Tc : Nat} {sa sc : Ms} (h : Two w wr Ta Tc sa sc) (hI : Inv 0 sa) (key : ByteArray) (seq : Int) :
    Calls Tryd.prog 13 #[ptr Ta, .string key, .int .u64 seq] wr fun e w' => e = .returned (gv (gV (look sa.E key seq) (ovS 0 key seq sa.R))) ∧ Two w w' Ta Tc sa sc := by
  obtain ⟨Ba, Bc, g1, _⟩ := h.ex
  rw [← get_S hI]
  exact (get_tb g1 hI key seq).mono fun e w' hh => ⟨hh.1, h.step hh.2⟩
end Go.Proofs.YtocanjefonlnaaaDoor
