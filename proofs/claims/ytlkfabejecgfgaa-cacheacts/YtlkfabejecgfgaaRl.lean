/-
  Rows of pointers are joined; a new item.
-/
import Derived.Test.YtlkfabejecgfgaaRk
import Derived.Test.YtlkfabejecgfgaaRq
import Derived.Laws.OwnMore
namespace Go.Proofs.Ytlkfabejecgfgaa
open Go.RowKit Go.Maps
set_option linter.unusedVariables false
set_option linter.unusedSimpArgs false
theorem appq {w : World} {base b2 : Nat} {v u : Value} {l m : List (Option Nat)} (hv : RowQ w base v l) (hb : base ≤ w.heap.size) (hu : RowQ w b2 u m) (hn : l.length + m.length ≤ 8000000000001) (ty : TypeId) :
    ∃ v' w', (Builtin.append_ #[68, 68] ty #[v, u]).run Try.prog w = .ok v' w' ∧ RowQ w' base v' (l ++ m) ∧ Upd (fun k => v.ownBlock = some k) w w' := by
  obtain ⟨a, cap, rfl, hc, hrd, ho⟩ := row_rd pc_k hu
  cases a with
  | none =>
    rcases hu.2 with ⟨e, h1⟩ | ⟨g, cap', cur, e, _⟩
    · have hm : m = [] := by cases m with
        | nil => rfl
        | cons x t => simp at h1
      subst hm
      obtain ⟨i0, hi, hz0, hz1, hz2⟩ := info_parts info85
      injection e with _ _ e3
      have := run_append_owned_none (P := Try.prog) (w := w) base 68 ty 85 i0 1 Try.underlying68 hi v _ _ hv
      rw [e3]
      refine ⟨v, w, this, by simpa using hv, Upd.refl _ _⟩
    · cases e
  | some a =>
    rcases hrd with hm | ⟨g, o, ea, hat⟩
    · subst hm
      obtain ⟨v', w', h1, h2, h3, _⟩ := pushes_g (P := Try.prog) pc_k pc_1 Try.underlying68 info85 rfl (by decide) hv hb (a := a) (c := cap) (m := []) (by intro j u hu; simp [cls] at hu) ty (by simp at hn ⊢; omega) (by simp at hn ⊢; unfold maxLen; omega)
      exact ⟨v', w', h1, h2, h3⟩
    · cases ea
      obtain ⟨v', w', h1, h2, h3, _⟩ := pushes_g (P := Try.prog) pc_k pc_1 Try.underlying68 info85 rfl (by decide) hv hb (a := ⟨g, o, none⟩) (c := cap) (m := m) (rd_src pc_k (by decide) hat) ty (by omega) (by unfold maxLen; omega)
      exact ⟨v', w', h1, h2, h3⟩
/-- append, at such a step. -/
theorem step_append_q {w : World} {base b2 : Nat} {v u : Value} {l m : List (Option Nat)} {ops : Array Oper} {o : Oper} {a : Act} {K : Act → World → Prop} {Q : Exit → Act → World → Prop} {Ex : Prop} (hgd : o.guard = none) (s x : Operand)
    (ho : o.op = .call { callee := .builtin .append, args := #[s, x], argTypes := #[68, 68] }) (hs : a.eval s = v) (hx : a.eval x = u) (hv : RowQ w base v l) (hb : base ≤ w.heap.size) (hu : RowQ w b2 u m) (hn : l.length + m.length ≤ 8000000000001)
    (hK : ∀ v' w', RowQ w' base v' (l ++ m) → Upd (fun k => v.ownBlock = some k) w w' → K (a.put o.dst v') w') :
    if Region.wanted o (yielded ops a.tmps) = true then Oper.wp Try.prog o a w K Q else Ex := by
  have hw : Region.wanted o (yielded ops a.tmps) = true := by simp [Region.wanted, hgd]
  rw [if_pos hw]
  obtain ⟨v', w', hrun, h2, h3⟩ := appq hv hb hu hn o.type
  unfold Oper.wp execOp
  simp only [ho, resolve, invoke, builtin, Sem.run_bind, Sem.run_pure, Result.andThen_ok, List.map_toArray, List.map_cons, List.map_nil, hs, hx, hrun]
  exact hK v' w' h2 h3
theorem row0 (W : World) {b : Nat} (hb : b ≤ W.heap.size) : RowQ (W.alloc (.cells #[] 85)) b (.slice (some ⟨W.heap.size, 0, none⟩) 0 0) [] := World.ownsRow_made (base := b) (e := 85) (size := 1) W #[] 0 hb (by unfold maxLen; omega) rfl
theorem row1 (W : World) {b : Nat} (hb : b ≤ W.heap.size) (p : Nat) : RowQ (W.alloc (.cells #[.pointer (some ⟨p, 0, none⟩)] 85)) b (.slice (some ⟨W.heap.size, 0, none⟩) 1 1) [some p] := World.ownsRow_lit (base := b) (e := 85) (size := 1) W #[.pointer (some ⟨p, 0, none⟩)] 1 hb (by unfold maxLen; omega) rfl
/-- A further item. -/
def Lr.add (R : Lr) (i n b : Nat) : Lr := { R with bd := fun a c => if a = i ∧ c = n then b else R.bd a c }
section
variable {w : World} {R : Lr} {n room : Nat} {st : Bool} {vs : List Vw} {pv : Value} {P : List (Option (Nat × Nat))}
theorem bds_add {R : Lr} {i N b : Nat} {a : Nat} {l : List Nat} (h : a = i → ∀ j ∈ l, j < N) : bds (R.add i N b) a l = bds R a l := by
  unfold bds
  refine List.map_congr_left (fun j hj => ?_)
  unfold Lr.add
  simp only []
  rw [if_neg]
  rintro ⟨h1, h2⟩
  have := h h1 j hj
  omega
theorem bdp_add {R : Lr} {i N b : Nat} (h : ∀ j, some (i, j) ∈ P → j < N) : bdp (R.add i N b) P = bdp R P := by
  unfold bdp
  refine List.map_congr_left (fun o ho => ?_)
  cases o with
  | none => rfl
  | some ij =>
    unfold Lr.add
    simp only [Option.map_some]
    rw [if_neg]
    rintro ⟨h1, h2⟩
    obtain ⟨a, c⟩ := ij
    simp only [] at h1 h2
    subst h1
    have := h c ho
    omega
theorem Rf.addItem (h : Rf w R n room st vs pv P) {i : Nat} {v : Vw} (hv : vs[i]? = some v) (hPr : ∀ j, some (i, j) ∈ P → j < v.ent.length) (e : En) :
    Rf (w.alloc (.cells (itC e true).toArray 84)) (R.add i v.ent.length w.heap.size) n room st (vs.set i { v with ent := v.ent ++ [e], inn := fset v.inn v.ent.length true }) pv P ∧
    ∀ k, Rb (R.add i v.ent.length w.heap.size) (vs.set i { v with ent := v.ent ++ [e], inn := fset v.inn v.ent.length true }) pv k → Rb R vs pv k ∨ w.heap.size ≤ k := by
  have U : Upd Non w (w.alloc (.cells (itC e true).toArray 84)) := (Upd.refl Non w).alloc _
  have NB : Blk (w.alloc (.cells (itC e true).toArray 84)) w.heap.size 84 (itC e true) := Blk.new w 84 _
  have G := h.grow U
  have hll : ∀ a, a < n → (vat_ (vs.set i { v with ent := v.ent ++ [e], inn := fset v.inn v.ent.length true }) a).ll = (vat_ vs a).ll ∧ (vat_ (vs.set i { v with ent := v.ent ++ [e], inn := fset v.inn v.ent.length true }) a).wl = (vat_ vs a).wl := by
    intro a _
    rw [vset_at hv]
    split
    · rename_i ee; subst ee; rw [vws_get hv]; exact ⟨rfl, rfl⟩
    · exact ⟨rfl, rfl⟩
  have hold : ∀ (a b : Nat), ¬ (a = i ∧ b = v.ent.length) → (R.add i v.ent.length w.heap.size).bd a b = R.bd a b := fun a b hh => by unfold Lr.add; simp only []; rw [if_neg hh]
  have hnew : (R.add i v.ent.length w.heap.size).bd i v.ent.length = w.heap.size := by unfold Lr.add; simp
  have hsp : ∀ (a : Nat) (y : Vw) (b : Nat), (vs.set i { v with ent := v.ent ++ [e], inn := fset v.inn v.ent.length true })[a]? = some y → b < y.ent.length → (a = i ∧ b = v.ent.length) ∨ (¬ (a = i ∧ b = v.ent.length) ∧ ∃ y0, vs[a]? = some y0 ∧ b < y0.ent.length) := by
    intro a y b hy hb
    rw [vset_get hv] at hy
    split at hy
    · rename_i ee; cases hy; subst ee
      simp at hb
      by_cases c : b = v.ent.length
      · exact .inl ⟨rfl, c⟩
      · exact .inr ⟨fun hh => c hh.2, v, hv, by omega⟩
    · rename_i ee
      exact .inr ⟨fun hh => ee hh.1, y, hy, hb⟩
  refine ⟨⟨G.blk, by simpa using G.len, ?_, ?_, G.lw, ?_, ?_, ?_, ?_⟩, ?_⟩
  · obtain ⟨lc, hB, hl, hc⟩ := G.lr.ex
    refine ⟨lc, hB, hl, fun a ha => ?_⟩
    obtain ⟨u, h1, h2, h3⟩ := hc a ha
    refine ⟨u, h1, ?_, h3⟩
    rw [(hll a ha).1, bds_add (fun e j hj => by subst e; rw [vws_get hv] at hj; exact (h.llr a v hv).1 j hj)]
    exact h2
  · obtain ⟨lc, hB, hl, hc⟩ := G.wr.ex
    refine ⟨lc, hB, hl, fun a ha => ?_⟩
    obtain ⟨u, h1, h2, h3⟩ := hc a ha
    refine ⟨u, h1, ?_, h3⟩
    rw [(hll a ha).2, bds_add (fun e j hj => by subst e; rw [vws_get hv] at hj; exact (h.llr a v hv).2 j hj)]
    exact h2
  · rw [bdp_add hPr]; exact G.pr
  · intro a y b f hy hf
    rcases hsp a y b hy (lt_of_get hf) with ⟨h1, h2⟩ | ⟨h1, y0, h2, h3⟩
    · subst h1 h2
      rw [vset_get hv, if_pos rfl] at hy
      cases hy
      simp only [] at hf ⊢
      simp at hf
      subst hf
      have : fset v.inn v.ent.length true v.ent.length = true := by unfold fset; rw [if_pos rfl]
      rw [this, hnew]
      exact NB
    · rw [hold a b h1]
      rw [vset_get hv] at hy
      split at hy
      · rename_i ee; cases hy; subst ee
        rw [hv] at h2; cases h2
        simp only [] at hf ⊢
        rw [List.getElem?_append_left h3] at hf
        have : fset v.inn v.ent.length true b = v.inn b := by unfold fset; rw [if_neg (by omega)]
        rw [this]
        exact G.it a v b f hv hf
      · exact G.it a y b f hy hf
  · intro a y b a' y' b' hy hb hy' hb' hh
    rcases hsp a y b hy hb with ⟨h1, h2⟩ | ⟨h1, y0, h2, h3⟩
    · rcases hsp a' y' b' hy' hb' with ⟨k1, k2⟩ | ⟨k1, y1, k2, k3⟩
      · exact ⟨h1.trans k1.symm, h2.trans k2.symm⟩
      · subst h1 h2
        rw [hnew, hold a' b' k1] at hh
        have := (h.it a' y1 b' _ k2 (List.getElem?_eq_getElem k3)).lt
        omega
    · rcases hsp a' y' b' hy' hb' with ⟨k1, k2⟩ | ⟨k1, y1, k2, k3⟩
      · subst k1 k2
        rw [hnew, hold a b h1] at hh
        have := (h.it a y0 b _ h2 (List.getElem?_eq_getElem h3)).lt
        omega
      · rw [hold a b h1, hold a' b' k1] at hh
        exact h.inj a y0 b a' y1 b' h2 h3 k2 k3 hh
  · intro a y hy
    rw [vset_get hv] at hy
    split at hy
    · cases hy
      have := h.llr i v hv
      simp only [List.length_append, List.length_cons, List.length_nil]
      exact ⟨fun j hj => by have := this.1 j hj; omega, fun j hj => by have := this.2 j hj; omega⟩
    · exact h.llr a y hy
  · intro k hk
    rcases hk with e | e | e | e | ⟨a, y, b, hy, hb, e⟩
    · exact .inl (.inl e)
    · exact .inl (.inr (.inl e))
    · exact .inl (.inr (.inr (.inl e)))
    · exact .inl (.inr (.inr (.inr (.inl e))))
    · rcases hsp a y b hy hb with ⟨h1, h2⟩ | ⟨h1, y0, h2, h3⟩
      · subst h1 h2; rw [hnew] at e; exact .inr (by omega)
      · rw [hold a b h1] at e
        exact .inl (.inr (.inr (.inr (.inr ⟨a, y0, b, h2, h3, e⟩))))
end
end Go.Proofs.Ytlkfabejecgfgaa
