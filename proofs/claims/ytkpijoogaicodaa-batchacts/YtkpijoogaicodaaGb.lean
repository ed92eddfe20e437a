import Derived.Test.YtkpijoogaicodaaGa
namespace Go.Proofs.Ytkpijoogaicodaa
open Go.RowKit
set_option linter.unusedVariables false
set_option linter.unusedSimpArgs false

theorem row_set {w : World} {base : Nat} {e : TypeId} {size g n cap : Nat} {xs : List Value} (h : w.ownsRow base e size (.slice (some ⟨g, 0, none⟩) n cap) n xs) (i : Nat) (u : Value) : (w.setCell ⟨g, i, none⟩ u).ownsRow base e size (.slice (some ⟨g, 0, none⟩) n cap) n (xs.set i u) := by
  obtain ⟨hl, ⟨hv, _⟩ | ⟨g', cap', cur, hv, hb, hg, h2, h3, h4, h5⟩⟩ := h
  · cases hv
  · cases hv
    have hB : Blk w g e cur.toList := by unfold Blk; simpa using hg
    have hB2 := hB.set i u
    refine ⟨by rw [List.length_set]; exact hl, .inr ⟨g, cap, (cur.toList.set i u).toArray, rfl, hb, hB2, h2, h3, by simpa using h4, ?_⟩⟩
    rw [← h5]
    simp [List.take_set]
theorem rcs_set : ∀ (l : List Rec) (k : Nat) (r : Rec), k < l.length → rcs (l.set k r) = ((((rcs l).set (k * 4) (.int .u32 r.fam)).set (k * 4 + 1) (.int .i64 r.kind)).set (k * 4 + 2) (.string r.key)).set (k * 4 + 3) (.string r.val)
  | [], k, r, h => by simp at h
  | x :: l, 0, r, h => by simp [rcs, Rec.c]
  | x :: l, k + 1, r, h => by
    have ih := rcs_set l k r (by simpa using h)
    have e : (k + 1) * 4 = k * 4 + 1 + 1 + 1 + 1 := by omega
    simp only [List.set_cons_succ, rcs, Rec.c, e, List.cons_append, List.nil_append, ih]
theorem row_put {w : World} {base g n cap : Nat} {l : List Rec} (h : w.ownsRow base 31 4 (.slice (some ⟨g, 0, none⟩) n cap) n (rcs l)) (k : Nat) (hk : k < l.length) (r : Rec) :
    ((((w.setCell ⟨g, k * 4, none⟩ (.int .u32 r.fam)).setCell ⟨g, k * 4 + 1, none⟩ (.int .i64 r.kind)).setCell ⟨g, k * 4 + 2, none⟩ (.string r.key)).setCell ⟨g, k * 4 + 3, none⟩ (.string r.val)).ownsRow base 31 4 (.slice (some ⟨g, 0, none⟩) n cap) n (rcs (l.set k r)) := by
  rw [rcs_set l k r hk]
  exact row_set (row_set (row_set (row_set h _ _) _ _) _ _) _ _
/-- What the reference's Add answers, and what it leaves. -/
def qadE (rs l : List Rec) : Int := if fbad l ≠ 0 then fbad l else if 4096 < rs.length + l.length ∨ 4194304 < 12 + szs (rs ++ l) then 2 else 0
def qadL (rs l : List Rec) : List Rec := if qadE rs l = 0 then (rs ++ l).map plainR else rs
def QAddPost (w : World) (q : Nat) (rv mv : Value) (rs : List Rec) (ms : List Nat) (l : List Rec) : Ending → World → Prop := fun e w' => ∃ rv', e = .returned (.int .i64 (qadE rs l)) ∧ Qt w' q rv' mv (qadL rs l) ms ∧ Upd (fun k => k = q) w w' ∧ (rv' = rv ∨ ∀ j, rv'.ownBlock = some j → w.heap.size ≤ j)
theorem QAddPost.no {w w' : World} {q : Nat} {rv mv : Value} {rs : List Rec} {ms : List Nat} {l : List Rec} {E : Int} (h : Qt w q rv mv rs ms) (hE : qadE rs l = E) (h0 : E ≠ 0) (hb : Below w.heap.size w w') : QAddPost w q rv mv rs ms l (.returned (.int .i64 E)) w' := by
  subst hE
  refine ⟨rv, rfl, ?_, Upd.ofBelow hb, .inl rfl⟩
  unfold qadL
  rw [if_neg h0]
  exact h.below hb
def mixP (l : List Rec) (k : Nat) : List Rec := (l.take k).map plainR ++ l.drop k
theorem mixP_len (l : List Rec) (k : Nat) : (mixP l k).length = l.length := by simp [mixP]; omega
theorem mixP_zero (l : List Rec) : mixP l 0 = l := by simp [mixP]
theorem mixP_all (l : List Rec) : mixP l l.length = l.map plainR := by unfold mixP; rw [List.take_length, List.drop_length, List.append_nil]
theorem mixP_get (l : List Rec) (k : Nat) (h : k < l.length) : (mixP l k)[k]'(by rw [mixP_len]; exact h) = l[k] := by
  unfold mixP
  rw [List.getElem_append_right (by simp; omega)]
  simp
  congr 1
  omega
theorem mixP_step (l : List Rec) (k : Nat) (h : k < l.length) : (mixP l k).set k (plainR l[k]) = mixP l (k + 1) := by
  unfold mixP
  rw [List.set_append_right _ _ (by simp; omega)]
  have e : ((l.take k).map plainR).length = k := by simp; omega
  rw [e, Nat.sub_self, List.drop_eq_getElem_cons h, List.set_cons_zero, List.take_succ_eq_append_getElem h, List.map_append, List.append_assoc]
  rfl
end Go.Proofs.Ytkpijoogaicodaa
