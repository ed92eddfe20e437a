/-
  The reference's shards and the program's: mathematics.
-/
import Derived.Test.YtlkfabejecgfgaaRe
import Derived.Test.YtlkfabejecgfgaaPd
namespace Go.Proofs.Ytlkfabejecgfgaa
set_option linter.unusedVariables false
set_option linter.unusedSimpArgs false
/-- The entries that are there. -/
def LL (x : Xs) : List Nat := (List.range x.ent.length).filter (live x)
/-- A view is a shard's. -/
structure Vx (v : Vw) (x : Xs) : Prop where
  e : v.ent = x.ent
  l : v.ll = LL x
  q : v.wl = x.q
  i : ∀ (j : Nat) (e : En), x.ent[j]? = some e → v.inn j = decide (x.f e.key.data.toList = some j)
theorem foldl_sat : ∀ (l : List Nat) (g : Nat → Nat) (a : Nat), l.foldl (fun a j => plusT a (g j)) (tolT a) = tolT (a + (l.map g).sum)
  | [], g, a => by simp
  | j :: t, g, a => by
    simp only [List.foldl_cons, List.map_cons, List.sum_cons]
    have h1 : plusT (tolT a) (g j) = tolT (a + g j) := by
      unfold plusT tolT
      split <;> split <;> (try split) <;> omega
    rw [h1, foldl_sat t g (a + g j)]
    congr 1
    omega
theorem sum_filter (p : Nat → Bool) (g : Nat → Nat) : ∀ n, ((((List.range n).filter p)).map g).sum = sumN n (fun j => if p j then g j else 0)
  | 0 => rfl
  | n + 1 => by
    rw [List.range_succ, List.filter_append, List.map_append, List.sum_append, sum_filter p g n, sumN_succ]
    congr 1
    by_cases h : p n
    · simp [h]
    · simp [h]
/-- What the reference sums is what is used. -/
theorem sat_used {x : Xs} (h : Su x) : satS x.ent (LL x) = tolT x.us := by
  have h1 := foldl_sat (LL x) (fun j => (x.at j).chg) 0
  have h0 : tolT 0 = 0 := rfl
  rw [h0, Nat.zero_add] at h1
  have h2 : satS x.ent (LL x) = (LL x).foldl (fun a j => plusT a ((fun j => (x.at j).chg) j)) 0 := rfl
  rw [h2, h1]
  congr 1
  unfold LL
  rw [sum_filter, h.u]
  rfl
theorem exc_same {v : Vw} {x : Xs} (h : Vx v x) (hs : Su x) (c r : Nat) : excV v c r = excX x c r := by
  unfold excV excX
  rw [h.e, h.l, sat_used hs]
  have : plusT (tolT x.us) c = plusT c (tolT x.us) := by unfold plusT; rw [Nat.add_comm]
  rw [this]
theorem mem_LL {x : Xs} {j : Nat} : j ∈ LL x ↔ j < x.ent.length ∧ live x j = true := by
  unfold LL; rw [List.mem_filter, List.mem_range]
theorem woN_erase {q : List Nat} (hn : q.Nodup) (j : Nat) : woN q j = q.erase j := by
  unfold woN
  rw [hn.erase_eq_filter]
  congr 1
  funext a
  by_cases h : a = j
  · simp [h]
  · simp [h]
theorem woN_not {q : List Nat} {j : Nat} (h : j ∉ q) : woN q j = q := by
  unfold woN
  rw [List.filter_eq_self]
  intro a ha
  simp only [decide_eq_true_eq, ne_eq]
  rintro rfl
  exact h ha
/-- The list behind a change at one place. -/
theorem LL_gone {x y : Xs} (hl : y.ent.length = x.ent.length) {j : Nat} (ho : ∀ i, i < x.ent.length → i ≠ j → live y i = live x i) (hj : live y j = false) : LL y = woN (LL x) j := by
  unfold LL woN
  rw [hl, List.filter_filter]
  refine List.filter_congr (fun i hi => ?_)
  rw [List.mem_range] at hi
  by_cases c : i = j
  · subst c; rw [hj]; simp
  · rw [ho i hi c]; simp [c]
theorem LL_same {x y : Xs} (hl : y.ent.length = x.ent.length) (ho : ∀ i, i < x.ent.length → live y i = live x i) : LL y = LL x := by
  unfold LL
  rw [hl]
  exact List.filter_congr (fun i hi => ho i (List.mem_range.1 hi))
section
variable {x : Xs} {v : Vw} {j : Nat} {e : En}
theorem take_live (I : Iv x) (hj : x.ent[j]? = some e) (hf : x.f e.key.data.toList = some j) : (∀ i, i < x.ent.length → i ≠ j → live (takeX x j) i = live x i) ∧ live (takeX x j) j = decide (0 < e.pins) := by
  have ea := xat hj
  constructor
  · intro i hi hne
    unfold live
    rw [at_take]
    have : ((takeX x j).f (x.at i).key.data.toList = some i) ↔ (x.f (x.at i).key.data.toList = some i) := by
      unfold takeX; simp only [ea]
      unfold fput
      split
      · rename_i hk
        rw [hk, hf]
        simp only [Option.some.injEq]
        constructor
        · intro hh; cases hh
        · intro hh; exact absurd hh.symm hne
      · exact Iff.rfl
    simp only [this]
  · unfold live
    rw [at_take, ea]
    have : (takeX x j).f e.key.data.toList = none := by unfold takeX; simp only [ea]; simp [fput]
    rw [this]; simp
theorem take_inn (I : Iv x) (hj : x.ent[j]? = some e) (hf : x.f e.key.data.toList = some j) (i : Nat) (f : En) (hi : x.ent[i]? = some f) : decide ((takeX x j).f f.key.data.toList = some i) = if i = j then false else decide (x.f f.key.data.toList = some i) := by
  have ea := xat hj
  by_cases c : i = j
  · subst c
    rw [if_pos rfl]
    rw [hj] at hi; cases hi
    have : (takeX x i).f e.key.data.toList = none := by unfold takeX; simp only [ea]; simp [fput]
    rw [this]; simp
  · rw [if_neg c]
    unfold takeX; simp only [ea]
    unfold fput
    split
    · rename_i hk
      rw [hk, hf]
      have : ¬ j = i := fun hh => c hh.symm
      simp [this]
    · rfl
/-- An entry goes. -/
theorem Vx.gone (h : Vx v x) (I : Iv x) (hj : x.ent[j]? = some e) (hf : x.f e.key.data.toList = some j) (hp : e.pins = 0) : Vx (goneV v j) (takeX x j) := by
  obtain ⟨t1, t2⟩ := take_live I hj hf
  refine ⟨h.e, ?_, ?_, fun i f hi => ?_⟩
  · rw [LL_gone (x := x) (y := takeX x j) rfl t1 (by rw [t2, hp]; rfl)]
    unfold goneV; rw [← h.l]
  · have : (takeX x j).q = x.q.erase j := by unfold takeX; simp only [xat hj, if_pos hp]
    rw [this, ← woN_erase I.nd, ← h.q]; rfl
  · rw [take_inn I hj hf i f hi]
    unfold goneV fset
    simp only []
    split
    · rfl
    · exact h.i i f hi
/-- An entry is taken out. -/
theorem Vx.out (h : Vx v x) (I : Iv x) (hj : x.ent[j]? = some e) (hf : x.f e.key.data.toList = some j) : Vx (if e.pins = 0 then goneV v j else { v with inn := fset v.inn j false }) (takeX x j) := by
  by_cases hp : e.pins = 0
  · rw [if_pos hp]; exact h.gone I hj hf hp
  · rw [if_neg hp]
    obtain ⟨t1, t2⟩ := take_live I hj hf
    refine ⟨h.e, ?_, ?_, fun i f hi => ?_⟩
    · rw [LL_same (x := x) (y := takeX x j) rfl (fun i hi => ?_)]
      · exact h.l
      · by_cases c : i = j
        · subst c
          rw [t2]
          unfold live; rw [xat hj, hf]
          have : 0 < e.pins := by omega
          simp [this]
        · exact t1 i hi c
    · have : (takeX x j).q = x.q := by unfold takeX; simp only [xat hj, if_neg hp]
      rw [this]; exact h.q
    · rw [take_inn I hj hf i f hi]
      unfold fset
      simp only []
      split
      · rfl
      · exact h.i i f hi
end
/-- Room is made in both. -/
theorem Vx.room (c r : Nat) : ∀ (k : Nat) {v : Vw} {x : Xs}, Vx v x → Iv x → Su x → Vx (vroom c r k v) (roomX c r k x)
  | 0, v, x, h, _, _ => h
  | k + 1, v, x, h, I, S => by
    unfold vroom roomX
    rw [h.q]
    cases hq : x.q with
    | nil => exact h
    | cons j t =>
      simp only []
      rw [exc_same h S]
      split
      · obtain ⟨e, h1, h2, h3⟩ := I.head (j := j) (by rw [hq]; exact List.mem_cons_self)
        exact Vx.room c r k (h.gone I h1 h3 h2) (I.take h1 h3) (S.take I h1 h3)
      · exact h
section
variable {x : Xs} {v : Vw} {j : Nat} {e : En}
theorem LL_nodup (x : Xs) : (LL x).Nodup := (List.nodup_range).filter _
/-- What is found is what the map has. -/
theorem find_same (h : Vx v x) (I : Iv x) (key : ByteArray) : (v.ll.find? (fun j => v.inn j && decide ((v.ent.getD j ⟨⟨#[]⟩, .bool false, 0, 0⟩).key = key))) = x.f key.data.toList := by
  rw [h.l, h.e]
  cases hf : x.f key.data.toList with
  | none =>
    refine List.find?_eq_none.2 (fun i hi => ?_)
    obtain ⟨hl, _⟩ := mem_LL.1 hi
    have hg := List.getElem?_eq_getElem hl
    rw [h.i i _ hg]
    simp only [Bool.and_eq_true, decide_eq_true_eq, not_and]
    intro h1 h2
    rw [List.getD_eq_getElem?_getD, hg] at h2
    simp only [Option.getD_some] at h2
    rw [h2, hf] at h1
    cases h1
  | some j =>
    obtain ⟨e, h1, h2⟩ := I.fe _ _ hf
    have hke : e.key = key := by
      cases he1 : e.key with
      | mk d1 =>
        cases he2 : key with
        | mk d2 =>
          rw [he1, he2] at h2
          simpa using h2
    have hjm : j ∈ LL x := mem_LL.2 ⟨(List.getElem?_eq_some_iff.1 h1).1, by unfold live; rw [xat h1, hke, hf]; simp⟩
    have hp : (v.inn j && decide ((x.ent.getD j ⟨⟨#[]⟩, .bool false, 0, 0⟩).key = key)) = true := by
      rw [h.i j e h1, List.getD_eq_getElem?_getD, h1, hke, hf]; simp [hke]
    cases hr : (LL x).find? (fun j => v.inn j && decide ((x.ent.getD j ⟨⟨#[]⟩, .bool false, 0, 0⟩).key = key)) with
    | none =>
      have := List.find?_eq_none.1 hr j hjm
      rw [hp] at this; simp at this
    | some i =>
      have h3 := List.find?_some hr
      have h4 := List.mem_of_find?_eq_some hr
      obtain ⟨hl, _⟩ := mem_LL.1 h4
      have hg := List.getElem?_eq_getElem hl
      rw [h.i i _ hg] at h3
      simp only [Bool.and_eq_true, decide_eq_true_eq] at h3
      obtain ⟨h5, h6⟩ := h3
      rw [List.getD_eq_getElem?_getD, hg] at h6
      simp only [Option.getD_some] at h6
      rw [h6, hf] at h5
      exact h5.symm
/-- A pin more. -/
theorem Vx.pin (h : Vx v x) (I : Iv x) (hj : x.ent[j]? = some e) (hf : x.f e.key.data.toList = some j) : Vx { v with ent := v.ent.set j { e with pins := e.pins + 1 }, wl := woN v.wl j } (pinX x j) := by
  have he : (pinX x j).ent = x.ent.set j { e with pins := e.pins + 1 } := by unfold pinX; simp only [xat hj]
  have hyf : (pinX x j).f = x.f := rfl
  have hat := at_set hj _ (pinX x j) he
  refine ⟨by rw [he, h.e], ?_, ?_, fun i f hi => ?_⟩
  · show v.ll = _
    rw [h.l]
    refine (LL_same (by rw [he]; simp) (fun i hi => ?_)).symm
    unfold live
    rw [hat i, hyf]
    by_cases c : i = j
    · subst c; rw [if_pos rfl, xat hj, hf]; simp
    · rw [if_neg c]
  · show woN v.wl j = _
    rw [h.q]
    have : (pinX x j).q = if e.pins = 0 then x.q.erase j else x.q := by unfold pinX; simp only [xat hj]
    rw [this]
    split
    · exact woN_erase I.nd j
    · rename_i hp
      refine woN_not (fun hq => ?_)
      obtain ⟨e', h1, h2, _⟩ := (I.qe j).1 hq
      rw [hj] at h1; cases h1; exact hp h2
  · rw [hyf]
    rw [he, set_get hj] at hi
    split at hi
    · rename_i c; cases hi; subst c
      exact h.i i e hj
    · exact h.i i f hi
end
end Go.Proofs.Ytlkfabejecgfgaa
