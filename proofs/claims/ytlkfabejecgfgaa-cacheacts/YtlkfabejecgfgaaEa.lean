import Derived.Test.YtlkfabejecgfgaaD
import Derived.Deep.RegionLaw
import Derived.Deep.Quiet
import Derived.Deep.QuietTactic
namespace Go.Proofs.Ytlkfabejecgfgaa
open Go.RowKit Go.Maps
set_option linter.unusedVariables false
set_option linter.unusedSimpArgs false
section
variable {w : World} {ops : Array Oper} {o : Oper} {a : Act} {K : Act → World → Prop} {Q : Exit → Act → World → Prop} {E : Prop} {kt : TypeId} {α : Type} {kl : α → Lit} {b : Nat} {f : α → Option Nat} {D : DataW Unit}
theorem step_delete_km [DecidableEq α] (L : Keyed Try.prog kt) (inj : ∀ a c : α, kl a = kl c → a = c) (hg : o.guard = none) (m x : Operand) (t : TypeId) (hop : o.op = Op.call { callee := Callee.builtin Builtin.delete, args := #[m, x], argTypes := #[t, kt] })
    (e : TypeId) (ht : Try.prog.underlying t = some (.map kt e)) (hm : a.eval m = .map (some b)) (h : KM kt kl w b f D) {v : Value} (hx : a.eval x = v) {k : α} (hk : keyOf Try.prog kt v = some (kl k))
    (hK : ∀ w', KM kt kl w' b (fput f k none) (D.del (kl k)) → w.grownBy w' (some b) → K (a.put o.dst (.tuple #[])) w') :
    if Region.wanted o (yielded ops a.tmps) = true then Oper.wp Try.prog o a w K Q else E := by
  have hw : Region.wanted o (yielded ops a.tmps) = true := by simp [Region.wanted, hg]
  rw [if_pos hw]
  obtain ⟨w', hrun, r1, r2⟩ := h.drop L inj ht hk o.type
  unfold Oper.wp
  simp [execOp, hop, resolve, invoke, builtin, hm, hx, hrun, Result.andThen]
  exact hK w' r1 r2
end
/-- A shard's cells. -/
def shC (mb : Nat) (ad : Nat → Nat) (x : Xs) : List Value :=
  [.map (some mb), .pointer (pa (x.q.head?.map ad)), .pointer (pa (x.q.getLast?.map ad)), .int .u64 (hiT x.us : Nat), .int .u64 (loT x.us : Nat), .int .u64 (hiT x.pn : Nat), .int .u64 (loT x.pn : Nat)]
def Cel (rc : List Value) (o : Nat) (l : List Value) : Prop := ∀ (j : Nat) (v : Value), l[j]? = some v → rc[o + j]? = some v
theorem Cel.set {rc : List Value} {o : Nat} {l : List Value} (h : Cel rc o l) (i : Nat) (u : Value) : Cel (rc.set (o + i) u) o (l.set i u) := by
  intro j v hv
  by_cases c : i = j
  · subst c
    have hi : i < l.length := by
      have := (List.getElem?_eq_some_iff.1 hv).1
      simpa using this
    rw [List.getElem?_set_self hi] at hv
    have := h i _ (List.getElem?_eq_getElem hi)
    rw [List.getElem?_set_self (List.getElem?_eq_some_iff.1 this).1]
    exact hv
  · rw [List.getElem?_set_ne c] at hv
    rw [List.getElem?_set_ne (by omega)]
    exact h j v hv
/-- But for a shard's cells the row is as it was. -/
def Kp (o : Nat) (rc rc' : List Value) : Prop := rc'.length = rc.length ∧ ∀ k, k < o ∨ o + 7 ≤ k → rc'[k]? = rc[k]?
theorem Kp.refl (o : Nat) (rc : List Value) : Kp o rc rc := ⟨rfl, fun _ _ => rfl⟩
theorem Kp.trans {o : Nat} {a b c : List Value} (h : Kp o a b) (k : Kp o b c) : Kp o a c := ⟨k.1.trans h.1, fun i hi => (k.2 i hi).trans (h.2 i hi)⟩
theorem Kp.set {o : Nat} {a b : List Value} (h : Kp o a b) (i : Nat) (hi : i < 7) (u : Value) : Kp o a (b.set (o + i) u) :=
  ⟨by simpa using h.1, fun k hk => by rw [List.getElem?_set_ne (by omega)]; exact h.2 k hk⟩
def Wk (ent : List En) : Prop := ∀ (j : Nat) (e : En), ent[j]? = some e → e.key.size ≤ maxLen ∧ e.chg < 18446744073709551616 ∧ e.pins < 4611686018427387904
/-- A shard in memory. -/
structure Sm (w : World) (rb o mb : Nat) (rc : List Value) (ad : Nat → Nat) (x : Xs) : Prop where
  row : Blk w rb 66 rc
  cel : Cel rc o (shC mb ad x)
  map : ∃ D, PM w mb (fun k => (x.f k).map ad) D ∧ Maps.size D = x.cnt
  ent : Es w ad x.ent (prv x.q) (nxt x.q)
  inj : Inj ad x.ent.length
  nd : x.q.Nodup
  qr : ∀ j, j ∈ x.q → j < x.ent.length
  fr : ∀ k j, x.f k = some j → j < x.ent.length
  ub : x.us < 340282366920938463463374607431768211456
  pb : x.pn < 340282366920938463463374607431768211456
  wk : Wk x.ent
theorem pa_map (ad : Nat → Nat) (j : Nat) : pa (Option.map ad (some j)) = some ⟨ad j, 0, none⟩ := rfl
/-- The blocks of a shard. -/
def Sb (rb mb : Nat) (ad : Nat → Nat) (n : Nat) : Nat → Prop := fun k => k = mb ∨ Eb rb ad n k
theorem Sm.nemb {w : World} {rb o mb : Nat} {rc : List Value} {ad : Nat → Nat} {x : Xs} (h : Sm w rb o mb rc ad x) : ¬ Eb rb ad x.ent.length mb := by
  obtain ⟨D, hD, _⟩ := h.map
  rintro (e | ⟨i, hi, e⟩)
  · exact hD.ne h.row e
  · exact hD.ne (h.ent i _ (List.getElem?_eq_getElem hi)) e
section
variable {w : World} {rb o mb : Nat} {rc : List Value} {ad : Nat → Nat} {x : Xs}
theorem leave_any (h : Sm w rb o mb rc ad x) {j : Nat} (hj : j ∈ x.q) :
    Calls Try.prog 69 #[.pointer (some ⟨rb, o + 1, none⟩), .pointer (some ⟨ad j, 0, none⟩)] w fun e w' => e = .returned (.tuple #[]) ∧
      ∃ rc', Sm w' rb o mb rc' ad { x with q := x.q.erase j } ∧ Kp o rc rc' ∧ Upd (Eb rb ad x.ent.length) w w' := by
  obtain ⟨l1, l2, l3, l4⟩ := nxt_leave h.nd hj
  have R := leave_raw h.ent h.inj h.row (o := o + 1) (F := x.q.head?.map ad) (L := x.q.getLast?.map ad) (h.cel 1 _ rfl) (h.cel 2 _ rfl) (h.qr j hj) (fun a ha => ⟨h.qr a (prv_mem ha), prv_ne h.nd ha⟩) (fun a ha => ⟨h.qr a (nxt_mem ha), nxt_ne h.nd ha⟩) (fun a c ha hc => prv_nxt_ne h.nd ha hc)
  refine R.mono ?_
  rintro e w' ⟨he, hE, hB, hU⟩
  refine ⟨he, _, ⟨hB, ?_, ?_, ?_, h.inj, h.nd.erase _, fun k hk => h.qr k (List.mem_of_mem_erase hk), h.fr, h.ub, h.pb, h.wk⟩, ((Kp.refl o rc).set 1 (by omega) _).set 2 (by omega) _, hU⟩
  · have := (h.cel.set 1 (.pointer (pa (if prv x.q j = none then (nxt x.q j).map ad else x.q.head?.map ad)))).set 2 (.pointer (pa (if nxt x.q j = none then (prv x.q j).map ad else x.q.getLast?.map ad)))
    have e1 : (if prv x.q j = none then (nxt x.q j).map ad else x.q.head?.map ad) = (x.q.erase j).head?.map ad := by rw [l3]; split <;> rfl
    have e2 : (if nxt x.q j = none then (prv x.q j).map ad else x.q.getLast?.map ad) = (x.q.erase j).getLast?.map ad := by rw [l4]; split <;> rfl
    rw [e1, e2] at this ⊢
    exact this
  · obtain ⟨D, hD, hs⟩ := h.map
    exact ⟨D, hD.upd hU h.nemb, hs⟩
  · simp only []
    rw [l1, l2]; exact hE
theorem join_any (h : Sm w rb o mb rc ad x) {j : Nat} (hj : j < x.ent.length) (hq : j ∉ x.q) :
    Calls Try.prog 68 #[.pointer (some ⟨rb, o + 1, none⟩), .pointer (some ⟨ad j, 0, none⟩)] w fun e w' => e = .returned (.tuple #[]) ∧
      ∃ rc', Sm w' rb o mb rc' ad { x with q := x.q ++ [j] } ∧ Kp o rc rc' ∧ Upd (Eb rb ad x.ent.length) w w' := by
  obtain ⟨l1, l2, l3, l4⟩ := nxt_join h.nd hq
  have R := join_raw h.ent h.inj h.row (o := o + 1) (L := x.q.getLast?) (h.cel 1 _ rfl) (h.cel 2 _ rfl) hj (fun a ha => ⟨h.qr a (List.mem_of_getLast? ha), fun e => hq (e ▸ List.mem_of_getLast? ha)⟩)
  refine R.mono ?_
  rintro e w' ⟨he, hE, hB, hU⟩
  refine ⟨he, _, ⟨hB, ?_, ?_, ?_, h.inj, ?_, ?_, h.fr, h.ub, h.pb, h.wk⟩, ((Kp.refl o rc).set 1 (by omega) _).set 2 (by omega) _, hU⟩
  · have := (h.cel.set 1 (if x.q.getLast? = none then Value.pointer (some ⟨ad j, 0, none⟩) else Value.pointer (pa (x.q.head?.map ad)))).set 2 (.pointer (some ⟨ad j, 0, none⟩))
    have e1 : (if x.q.getLast? = none then Value.pointer (some ⟨ad j, 0, none⟩) else Value.pointer (pa (x.q.head?.map ad))) = .pointer (pa ((x.q ++ [j]).head?.map ad)) := by rw [l3]; split <;> rfl
    rw [e1] at this ⊢
    have e2 : (Value.pointer (some ⟨ad j, 0, none⟩)) = .pointer (pa ((x.q ++ [j]).getLast?.map ad)) := by rw [l4]; rfl
    rw [e2] at this ⊢
    exact this
  · obtain ⟨D, hD, hs⟩ := h.map
    exact ⟨D, hD.upd hU h.nemb, hs⟩
  · simp only []
    rw [l1, l2]; exact hE
  · refine List.nodup_append.2 ⟨h.nd, by simp, ?_⟩
    rintro a ha b hb rfl
    simp at hb
    subst hb
    exact hq ha
  · intro k hk
    rcases List.mem_append.1 hk with hk | hk
    · exact h.qr k hk
    · simp at hk; subst hk; exact hj
end
end Go.Proofs.Ytlkfabejecgfgaa
