/-
  The reference's shards and the program's: Put, Free.
-/
import Derived.Test.YtlkfabejecgfgaaRp
namespace Go.Proofs.Ytlkfabejecgfgaa
set_option linter.unusedVariables false
set_option linter.unusedSimpArgs false
section
variable {x : Xs} {v : Vw} {j : Nat} {e : En}
theorem wait_su (h : Su x) (hj : x.ent[j]? = some e) (hp : 0 < e.pins) (w1 : ¬ 1 < e.pins) (w2 : x.f e.key.data.toList = some j) : Su { x with ent := x.ent.set j { e with pins := e.pins - 1 }, q := x.q ++ [j], pn := takeT x.pn e.chg } := by
  have hjl := (List.getElem?_eq_some_iff.1 hj).1
  have h1 := sumN_one (n := x.ent.length) (j := j) (g := gP x) (g' := gP { x with ent := x.ent.set j { e with pins := e.pins - 1 }, q := x.q ++ [j], pn := takeT x.pn e.chg }) hjl (fun i hi hne => by
    unfold gP
    rw [at_set hj _ { x with ent := x.ent.set j { e with pins := e.pins - 1 }, q := x.q ++ [j], pn := takeT x.pn e.chg } rfl i, if_neg hne])
  have h2 : gP x j = e.chg := by unfold gP; rw [xat hj]; simp [hp]
  have h3 : gP { x with ent := x.ent.set j { e with pins := e.pins - 1 }, q := x.q ++ [j], pn := takeT x.pn e.chg } j = 0 := by
    unfold gP
    rw [at_set hj _ { x with ent := x.ent.set j { e with pins := e.pins - 1 }, q := x.q ++ [j], pn := takeT x.pn e.chg } rfl j, if_pos rfl]
    simp only []
    rw [if_neg (by omega)]
  have h4 : sumN x.ent.length (gU x) = sumN x.ent.length (gU { x with ent := x.ent.set j { e with pins := e.pins - 1 }, q := x.q ++ [j], pn := takeT x.pn e.chg }) := by
    refine sumN_congr (fun i hi => ?_)
    unfold gU live
    rw [at_set hj _ { x with ent := x.ent.set j { e with pins := e.pins - 1 }, q := x.q ++ [j], pn := takeT x.pn e.chg } rfl i]
    by_cases c : i = j
    · subst c; rw [if_pos rfl, xat hj, w2]; simp [w2]
    · rw [if_neg c]
  have b2 := h.pb
  have hce := h.c j e hj
  have hxp := h.p
  rw [h2, h3] at h1
  refine ⟨?_, ?_, chg_set h hj _, by simpa using h.n⟩
  · simp only [List.length_set]
    rw [← h4, ← h.u]
  · simp only [List.length_set]
    generalize sumN x.ent.length (gP { x with ent := x.ent.set j { e with pins := e.pins - 1 }, q := x.q ++ [j], pn := takeT x.pn e.chg }) = B at *
    generalize sumN x.ent.length (gP x) = A at *
    unfold takeT
    omega
/-- What a Put is made of. -/
theorem put_parts (I : Iv x) (k : ByteArray) (u : Value) (c : Nat) {y : Xs} (hy : y = match x.f k.data.toList with | some j => takeX x j | none => x) :
    y.f k.data.toList = none ∧ (putX x k u c).ent = y.ent ++ [⟨k, u, c, 1⟩] ∧ (putX x k u c).f = fput y.f k.data.toList (some y.ent.length) ∧ (putX x k u c).q = y.q := by
  have hent := (I.put k u c).2
  have hn' : (addE x ⟨k, u, c, 0⟩).ent[x.ent.length]? = some ⟨k, u, c, 0⟩ := by unfold addE; simp
  cases hf : x.f k.data.toList with
  | none =>
    rw [hf] at hy
    simp only [] at hy
    subst hy
    refine ⟨hf, hent, ?_, ?_⟩
    all_goals
      rw [putX_eq]; unfold put1; rw [xat hn']; simp only []
      have : (addE y ⟨k, u, c, 0⟩).f k.data.toList = none := hf
      rw [this]; rfl
  | some j =>
    rw [hf] at hy
    simp only [] at hy
    subst hy
    obtain ⟨e, h1, h2, _⟩ := I.old hf
    have hat : (addE x ⟨k, u, c, 0⟩).at j = e := xat (get_app h1)
    refine ⟨?_, hent, ?_, ?_⟩
    · unfold takeX; simp only [xat h1, h2]; simp [fput]
    all_goals
      rw [putX_eq]; unfold put1; rw [xat hn']; simp only []
      have hf' : (addE x ⟨k, u, c, 0⟩).f k.data.toList = some j := hf
      rw [hf']
      simp only []
      unfold takeX
      simp only [hat, xat h1]
      rfl
/-- A new one. -/
theorem Vx.put {z : Xs} (h : Vx v x) {k : ByteArray} {u : Value} {c : Nat} (h0 : x.f k.data.toList = none) (h1 : z.ent = x.ent ++ [⟨k, u, c, 1⟩]) (h2 : z.f = fput x.f k.data.toList (some x.ent.length)) (h3 : z.q = x.q) :
    Vx { ent := v.ent ++ [⟨k, u, c, 1⟩], inn := fset v.inn v.ent.length true, ll := v.ll ++ [v.ent.length], wl := v.wl } z := by
  have hatl : ∀ i, i < x.ent.length → z.at i = x.at i := fun i hi => at_lt (by rw [h1, List.getElem?_append_left hi])
  have hatn : z.at x.ent.length = ⟨k, u, c, 1⟩ := xat (by rw [h1]; simp)
  have hl : z.ent.length = x.ent.length + 1 := by rw [h1]; simp
  have hiff : ∀ (i : Nat) (kk : List UInt8), i < x.ent.length → ((z.f kk = some i) ↔ (x.f kk = some i)) := by
    intro i kk hi
    rw [h2]
    unfold fput
    split
    · rename_i hk
      rw [hk, h0]
      simp only [Option.some.injEq]
      constructor
      · intro hh; omega
      · intro hh; cases hh
    · exact Iff.rfl
  refine ⟨by rw [h1, h.e], ?_, by rw [h3]; exact h.q, fun i f hi => ?_⟩
  · show v.ll ++ [v.ent.length] = _
    rw [h.l, h.e]
    unfold LL
    rw [hl, List.range_succ, List.filter_append]
    congr 1
    · refine List.filter_congr (fun i hi => ?_)
      have hi := List.mem_range.1 hi
      unfold live
      rw [hatl i hi]
      simp only [hiff i _ hi]
    · have : live z x.ent.length = true := by unfold live; rw [hatn]; simp
      simp [this]
  · simp only []
    rw [h1] at hi
    by_cases ci : i < x.ent.length
    · rw [List.getElem?_append_left ci] at hi
      have : fset v.inn v.ent.length true i = v.inn i := by unfold fset; rw [if_neg (by rw [h.e]; omega)]
      rw [this, h.i i f hi]
      simp only [hiff i _ ci]
    · have : i = x.ent.length := by
        have := (List.getElem?_eq_some_iff.1 hi).1
        simp at this; omega
      subst this
      simp at hi
      subst hi
      have : fset v.inn v.ent.length true x.ent.length = true := by unfold fset; rw [if_pos (by rw [h.e])]
      rw [this, h2]
      unfold fput
      simp
/-- A pin less, and more are left. -/
theorem Vx.less {z : Xs} (h : Vx v x) (hj : x.ent[j]? = some e) (hl : live z j = live x j) (h1 : z.ent = x.ent.set j { e with pins := e.pins - 1 }) (h2 : z.f = x.f) : v.ent.set j { e with pins := e.pins - 1 } = z.ent ∧ v.ll = LL z ∧ ∀ (i : Nat) (f : En), z.ent[i]? = some f → v.inn i = decide (z.f f.key.data.toList = some i) := by
  have hat := at_set hj _ z h1
  refine ⟨by rw [h1, h.e], ?_, fun i f hi => ?_⟩
  · rw [h.l]
    refine (LL_same (by rw [h1]; simp) (fun i hi => ?_)).symm
    by_cases c : i = j
    · subst c; exact hl
    · unfold live; rw [hat i, if_neg c, h2]
  · rw [h2]
    rw [h1, set_get hj] at hi
    split at hi
    · rename_i c; cases hi; subst c; exact h.i i e hj
    · exact h.i i f hi
/-- A pin is given back. -/
theorem Vx.unpin (h : Vx v x) (I : Iv x) (S : Su x) (hj : x.ent[j]? = some e) (hp : 0 < e.pins) (r : Nat) :
    (1 < e.pins → Vx { v with ent := v.ent.set j { e with pins := e.pins - 1 } } (unpinX x j r)) ∧
    (e.pins = 1 → v.inn j = false → Vx (goneV { v with ent := v.ent.set j { e with pins := e.pins - 1 } } j) (unpinX x j r)) ∧
    (e.pins = 1 → v.inn j = true → Vx (vroom 0 r (v.wl ++ [j]).length { v with ent := v.ent.set j { e with pins := e.pins - 1 }, wl := v.wl ++ [j] }) (unpinX x j r)) := by
  have hin := h.i j e hj
  rcases unpinX_ways hj r with ⟨w1, w2⟩ | ⟨w1, w2, w3⟩ | ⟨w1, w2, w3⟩
  · refine ⟨fun _ => ?_, fun hh => absurd w1 (by omega), fun hh => absurd w1 (by omega)⟩
    rw [w2]
    obtain ⟨a1, a2, a3⟩ := h.less (z := { x with ent := x.ent.set j { e with pins := e.pins - 1 } }) hj (by
      unfold live
      rw [at_set hj _ { x with ent := x.ent.set j { e with pins := e.pins - 1 } } rfl j, if_pos rfl, xat hj]
      have : 0 < e.pins - 1 := by omega
      simp [hp, this]) rfl rfl
    exact ⟨a1, a2, h.q, a3⟩
  · refine ⟨fun hh => absurd hh w1, fun _ hh => ?_, fun _ _ => ?_⟩
    · rw [hin, w2] at hh; simp at hh
    · rw [w3]
      obtain ⟨a1, a2, a3⟩ := h.less (z := { x with ent := x.ent.set j { e with pins := e.pins - 1 }, q := x.q ++ [j], pn := takeT x.pn e.chg }) hj (by
        unfold live
        rw [at_set hj _ { x with ent := x.ent.set j { e with pins := e.pins - 1 }, q := x.q ++ [j], pn := takeT x.pn e.chg } rfl j, if_pos rfl, xat hj]
        simp [hp, w2]) rfl rfl
      have V : Vx { v with ent := v.ent.set j { e with pins := e.pins - 1 }, wl := v.wl ++ [j] } { x with ent := x.ent.set j { e with pins := e.pins - 1 }, q := x.q ++ [j], pn := takeT x.pn e.chg } := ⟨a1, a2, by rw [h.q], a3⟩
      have := V.room 0 r (v.wl ++ [j]).length (I.wait hj (by omega) w2 _) (wait_su S hj hp w1 w2)
      rw [h.q] at this ⊢
      exact this
  · refine ⟨fun hh => absurd hh w1, fun _ _ => ?_, fun _ hh => ?_⟩
    · rw [w3]
      have hat := at_set hj { e with pins := e.pins - 1 } { x with ent := x.ent.set j { e with pins := e.pins - 1 }, us := takeT x.us e.chg, pn := takeT x.pn e.chg } rfl
      have hne : j ∉ x.q := fun hq => by
        obtain ⟨e', h1, h2, _⟩ := (I.qe j).1 hq
        rw [hj] at h1; cases h1; omega
      have hin0 : v.inn j = false := by rw [hin]; simpa using w2
      refine ⟨by show v.ent.set j _ = _; rw [h.e], ?_, ?_, fun i f hi => ?_⟩
      · show woN v.ll j = _
        rw [h.l]
        refine (LL_gone (by simp) (fun i hi hne => ?_) ?_).symm
        · unfold live; rw [hat i, if_neg hne]
        · unfold live
          rw [hat j, if_pos rfl]
          have : ¬ 0 < e.pins - 1 := by omega
          simp [this, w2]
      · show woN v.wl j = _
        rw [h.q, woN_not hne]
      · show fset v.inn j false i = _
        simp only [] at hi
        rw [set_get hj] at hi
        split at hi
        · rename_i c; cases hi; subst c
          simp only []
          unfold fset; rw [if_pos rfl]
          simpa using w2
        · rename_i c
          unfold fset; rw [if_neg c]
          exact h.i i f hi
    · rw [hin] at hh
      exact absurd (of_decide_eq_true hh) w2
end
end Go.Proofs.Ytlkfabejecgfgaa
