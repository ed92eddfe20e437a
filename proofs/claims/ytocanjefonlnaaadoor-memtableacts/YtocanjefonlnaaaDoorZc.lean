import Derived.Test.YtocanjefonlnaaaDoorSe
namespace Go.Proofs.YtocanjefonlnaaaDoor
set_option linter.unusedVariables false
set_option linter.unusedSimpArgs false
abbrev topS : Int := 72057594037927935
/-- A record done to a map, as far as one key is asked. -/
def stepF (how : Int) (key : ByteArray) (a : ByteArray × Bool) (r : Rec) : ByteArray × Bool :=
  if r.kind = 1 then (if r.key = key then (r.val, true) else a)
  else if r.kind = 0 then (a.1, a.2 && decide (¬ r.key = key))
  else if r.kind = 2 then (a.1, a.2 && !(decide (cmpH how r.key key ≤ 0) && decide (cmpH how key r.val < 0)))
  else a
/-- What is seen of a key at the greatest number. -/
def vis (how : Int) (key : ByteArray) (st : Ms) : Prop := ∃ n, look st.E key topS = some n ∧ n.k = 1 ∧ ¬ ((ovS how key topS st.R).2 = true ∧ n.s < (ovS how key topS st.R).1)
structure Mp (how : Int) (key : ByteArray) (a : ByteArray × Bool) (st : Ms) : Prop where
  is : a.2 = true ↔ vis how key st
  val : ∀ n, look st.E key topS = some n → a.2 = true → n.v = a.1
structure Sb (st : Ms) (s : Int) : Prop where
  e : ∀ x ∈ st.E, x.s < s
  r : ∀ t ∈ st.R, t.s < s
theorem mp_nil (how : Int) (key : ByteArray) : Mp how key (⟨#[]⟩, false) st0 :=
  ⟨⟨fun h => by simp at h, fun ⟨n, h, _⟩ => by simp [look, st0] at h⟩, fun n h => by simp [look, st0] at h⟩
theorem sb_nil (s : Int) : Sb st0 s := ⟨fun x h => by simp [st0] at h, fun x h => by simp [st0] at h⟩
theorem sb_add {how : Int} {st : Ms} {s : Int} (h : Sb st s) (k : Int) (key val : ByteArray) : Sb (addM how st s k key val).2 (s + 1) := by
  rcases addM_way how st s k key val with ⟨e, _⟩ | ⟨_, _, _, _, e⟩ | ⟨_, _, _, _, e⟩
  · rw [e]; exact ⟨fun x hx => by have := h.e x hx; omega, fun x hx => by have := h.r x hx; omega⟩
  · rw [e]
    refine ⟨fun x hx => by have := h.e x hx; omega, fun x hx => ?_⟩
    rcases tins_mem hx with rfl | hx
    · show s < s + 1; omega
    · have := h.r x hx; omega
  · rw [e]
    refine ⟨fun x hx => ?_, fun x hx => by have := h.r x hx; omega⟩
    rcases eins_mem hx with rfl | hx
    · show s < s + 1; omega
    · have := h.e x hx; omega
theorem look_mem {E : List Ent} {key : ByteArray} {seq : Int} {n : Ent} (h : look E key seq = some n) : n ∈ E := List.mem_of_find?_eq_some h
/-- One record more, done to both. -/
theorem mp_step {how : Int} {key : ByteArray} {a : ByteArray × Bool} {st : Ms} {s : Int} (h : Mp how key a st) (hI : Inv how st) (hb : Sb st s) (hs : 0 < s) (hs2 : s ≤ topS) (r : Rec) (h0 : (addM how st s r.kind r.key r.val).1 = 0) :
    Mp how key (stepF how key a r) (addM how st s r.kind r.key r.val).2 ∧ (r.kind = 0 ∨ r.kind = 1 ∨ r.kind = 2) := by
  rcases addM_way how st s r.kind r.key r.val with ⟨_, e⟩ | ⟨hk, hc, _, _, e⟩ | ⟨hk, hc, _, hn, e⟩
  · exact absurd h0 e
  · refine ⟨?_, by omega⟩
    rw [e]
    have e1 : stepF how key a r = (a.1, a.2 && !(decide (cmpH how r.key key ≤ 0) && decide (cmpH how key r.val < 0))) := by
      unfold stepF; rw [if_neg (by omega), if_neg (by omega), if_pos hk]
    rw [e1]
    by_cases ho : ov how key topS ⟨r.key, r.val, s⟩ = true
    · have ho' := ho
      unfold ov at ho'
      simp only [decide_eq_true_eq] at ho'
      have hov : ovS how key topS (st.rk st.E (tins st.R (posT how st.R ⟨r.key, r.val, s⟩) ⟨r.key, r.val, s⟩) s r.key r.val).R = (s, true) := ovS_top how key topS st.R _ _ ho hs hb.r
      have hf : (a.2 && !(decide (cmpH how r.key key ≤ 0) && decide (cmpH how key r.val < 0))) = false := by simp [ho'.1, ho'.2.2]
      rw [hf]
      refine ⟨⟨fun h => by simp at h, ?_⟩, fun n _ h => by simp at h⟩
      rintro ⟨n, hn, _, hv⟩
      rw [hov] at hv
      exact absurd ⟨rfl, hb.e n (look_mem hn)⟩ hv
    · have ho2 : ov how key topS ⟨r.key, r.val, s⟩ = false := by simpa using ho
      have hov : ovS how key topS (st.rk st.E (tins st.R (posT how st.R ⟨r.key, r.val, s⟩) ⟨r.key, r.val, s⟩) s r.key r.val).R = ovS how key topS st.R := ovS_tins how key topS st.R _ _ ho2
      have hf : (decide (cmpH how r.key key ≤ 0) && decide (cmpH how key r.val < 0)) = false := by
        unfold ov at ho2
        simp only [decide_eq_false_iff_not] at ho2
        cases h1 : decide (cmpH how r.key key ≤ 0) with
        | false => rfl
        | true =>
          cases h2 : decide (cmpH how key r.val < 0) with
          | false => rfl
          | true => exact absurd ⟨of_decide_eq_true h1, hs2, of_decide_eq_true h2⟩ ho2
      rw [hf]
      simp only [Bool.not_false, Bool.and_true]
      refine ⟨?_, h.val⟩
      have := h.is
      unfold vis at this ⊢
      rw [hov]
      exact this
  · obtain ⟨k0, _, _⟩ := chk_ok hc
    refine ⟨?_, by omega⟩
    rw [e]
    have hcut := cutE_pos hI.se r.key s r.kind
    have hm : (ovS how key topS st.R).1 < s := mx_lt how key topS s hs st.R hb.r
    by_cases hu : r.key = key
    · subst hu
      have hl : look (st.rk (eins st.E (posE how st.E r.key s r.kind) ⟨r.key, s, r.kind, plainV r.kind r.val⟩) st.R s r.key (plainV r.kind r.val)).E r.key topS = some ⟨r.key, s, r.kind, plainV r.kind r.val⟩ := look_top (x := ⟨r.key, s, r.kind, plainV r.kind r.val⟩) hcut topS hs2 hb.e
      by_cases h1 : r.kind = 1
      · have e1 : stepF how r.key a r = (r.val, true) := by unfold stepF; rw [if_pos h1, if_pos rfl]
        rw [e1]
        refine ⟨⟨fun _ => ⟨_, hl, h1, ?_⟩, fun _ => rfl⟩, fun n hn _ => ?_⟩
        · rintro ⟨_, h2⟩
          have h2' : s < (ovS how r.key topS st.R).1 := h2
          omega
        · rw [hl] at hn
          cases hn
          show plainV r.kind r.val = r.val
          unfold plainV; rw [if_neg (by omega)]
      · have h2 : r.kind = 0 := by omega
        have e1 : stepF how r.key a r = (a.1, false) := by unfold stepF; rw [if_neg h1, if_pos h2]; simp
        rw [e1]
        refine ⟨⟨fun h => by simp at h, ?_⟩, fun n _ h => by simp at h⟩
        rintro ⟨n, hn, hn1, _⟩
        rw [hl] at hn
        cases hn
        exact absurd hn1 h1
    · have hl : look (st.rk (eins st.E (posE how st.E r.key s r.kind) ⟨r.key, s, r.kind, plainV r.kind r.val⟩) st.R s r.key (plainV r.kind r.val)).E key topS = look st.E key topS := look_eins _ _ _ _ _ (fun h => hu h.1)
      have e1 : stepF how key a r = a := by
        unfold stepF
        rcases k0 with h | h | h
        · rw [if_neg (by omega), if_pos h]; simp [hu]
        · rw [if_pos h, if_neg hu]
        · exact absurd h hk
      rw [e1]
      refine ⟨?_, fun n hn => h.val n (by rw [← hl]; exact hn)⟩
      have := h.is
      unfold vis at this ⊢
      rw [hl]
      exact this
/-- What the table holds, and what was done, behind k records. -/
def dn (how : Int) (l : List Rec) : Nat → List Rec
  | 0 => []
  | k + 1 => match l[k]? with
    | some r => if (addM how (run how l 1 k st0) (1 + k) r.kind r.key r.val).1 = 0 then dn how l k ++ [r] else dn how l k
    | none => dn how l k
theorem dn_yes {how : Int} {l : List Rec} {k : Nat} {r : Rec} (h : l[k]? = some r) (h0 : (addM how (run how l 1 k st0) (1 + k) r.kind r.key r.val).1 = 0) : dn how l (k + 1) = dn how l k ++ [r] := by
  rw [dn, h]; exact if_pos h0
theorem dn_no {how : Int} {l : List Rec} {k : Nat} {r : Rec} (h : l[k]? = some r) (h0 : ¬ (addM how (run how l 1 k st0) (1 + k) r.kind r.key r.val).1 = 0) : dn how l (k + 1) = dn how l k := by
  rw [dn, h]; exact if_neg h0
theorem dn_len (how : Int) (l : List Rec) : ∀ k, (dn how l k).length ≤ k
  | 0 => by simp [dn]
  | k + 1 => by
    have := dn_len how l k
    unfold dn
    split
    · split
      · simp; omega
      · omega
    · omega
theorem sb_run (how : Int) (l : List Rec) : ∀ k : Nat, Sb (run how l 1 k st0) (1 + k)
  | 0 => sb_nil _
  | k + 1 => by
    have ih := sb_run how l k
    unfold run
    have e : (1 : Int) + ((k + 1 : Nat) : Int) = 1 + (k : Int) + 1 := by omega
    rw [e]
    split
    · exact sb_add ih _ _ _
    · exact ⟨fun x hx => by have := ih.e x hx; omega, fun x hx => by have := ih.r x hx; omega⟩
theorem mp_run (how : Int) (l : List Rec) (key : ByteArray) : ∀ k : Nat, k ≤ 8192 → Mp how key ((dn how l k).foldl (stepF how key) (⟨#[]⟩, false)) (run how l 1 k st0) ∧ ∀ r ∈ dn how l k, r.kind = 0 ∨ r.kind = 1 ∨ r.kind = 2
  | 0, _ => ⟨mp_nil how key, fun r h => by simp [dn] at h⟩
  | k + 1, hk => by
    have ih := mp_run how l key k (by omega)
    have hi := run_inv how l 1 (by omega) st0 (inv_nil how) k
    cases e : l[k]? with
    | none =>
      have e1 : dn how l (k + 1) = dn how l k := by rw [dn, e]
      have e2 : run how l 1 (k + 1) st0 = run how l 1 k st0 := by rw [run, e]
      rw [e1, e2]; exact ih
    | some r =>
      rw [run_step how l 1 k st0 r e]
      by_cases h0 : (addM how (run how l 1 k st0) (1 + k) r.kind r.key r.val).1 = 0
      · rw [dn_yes e h0]
        have := mp_step ih.1 hi (sb_run how l k) (by omega) (by show (1 : Int) + k ≤ 72057594037927935; omega) r h0
        refine ⟨by rw [List.foldl_append]; exact this.1, fun x hx => ?_⟩
        rw [List.mem_append, List.mem_singleton] at hx
        rcases hx with hx | rfl
        · exact ih.2 x hx
        · exact this.2
      · rw [dn_no e h0]
        have : (addM how (run how l 1 k st0) (1 + k) r.kind r.key r.val).2 = run how l 1 k st0 := by
          rcases addM_way how (run how l 1 k st0) (1 + k) r.kind r.key r.val with ⟨e2, _⟩ | ⟨_, _, _, _, e2⟩ | ⟨_, _, _, _, e2⟩
          · exact e2
          · rw [e2] at h0; exact absurd rfl h0
          · rw [e2] at h0; exact absurd rfl h0
        rw [this]; exact ih
/-- Get of the last number against the map. -/
theorem mp_get {how : Int} {key : ByteArray} {a : ByteArray × Bool} {st : Ms} (h : Mp how key a st) (hI : Inv how st) : ((gV (look st.E key topS) (ovS how key topS st.R)).2.2 && ((gV (look st.E key topS) (ovS how key topS st.R)).2.1 == 1)) = a.2 ∧ (a.2 = true → (gV (look st.E key topS) (ovS how key topS st.R)).1 = a.1) := by
  have hi := h.is
  have hv := h.val
  unfold vis at hi
  generalize ovS how key topS st.R = o at *
  cases e : look st.E key topS with
  | none =>
    rw [e] at hi
    have : a.2 = false := by
      cases h2 : a.2 with
      | false => rfl
      | true => obtain ⟨n, hn, _⟩ := hi.1 h2; cases hn
    rw [this]
    by_cases ho : o.2 = true <;> simp [gV, ho]
  | some n =>
    rw [e] at hi hv
    unfold gV
    simp only
    by_cases ho : o.2 = true ∧ n.s < o.1
    · have : a.2 = false := by
        cases h2 : a.2 with
        | false => rfl
        | true => obtain ⟨m, hm, _, h3⟩ := hi.1 h2; cases hm; exact absurd ho h3
      rw [if_pos ho, this]; simp
    · rw [if_neg ho]
      refine ⟨?_, fun h2 => hv n rfl h2⟩
      rw [Bool.eq_iff_iff]
      simp only [Bool.true_and, beq_iff_eq]
      constructor
      · intro h1; exact hi.2 ⟨n, rfl, h1, ho⟩
      · intro h2; obtain ⟨m, hm, h1, _⟩ := hi.1 h2; cases hm; exact h1
end Go.Proofs.YtocanjefonlnaaaDoor
