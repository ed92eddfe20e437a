import Derived.Test.YtjnlolibfcpbkaaDoorE
namespace Go.Proofs.YtjnlolibfcpbkaaDoor
open Go.RowKit Go.Maps
set_option linter.unusedVariables false
set_option linter.unusedSimpArgs false
/-- Where a reading of a log stands. -/
structure St where
  at_ : Nat
  op : Bool
  now : List Int
  recs : List (List Int)
  en : Nat
def St0 : St := ⟨0, false, [], [], 0⟩
def zer (l : List Int) : Bool := l.all (· == 0)
def fin (k : Int) : Bool := k == 1 || k == 4
def beg (k : Int) : Bool := k == 1 || k == 2
def takeM (rc : Bool) (s : St) (k : Int) (f : List Int) : St :=
  if fin k = true then ⟨s.at_ + f.length, false, [], s.recs ++ [s.now ++ f.drop (hd rc)], s.at_ + f.length⟩ else ⟨s.at_ + f.length, true, s.now ++ f.drop (hd rc), s.recs, s.en⟩
def lookM (rc : Bool) (log : Int) (s : St) (f : List Int) : Except Int St :=
  if f.take 4 ≠ sealV f then .error (bd rc)
  else if kd rc (f[6]?.getD 0) = 0 then .error (bd rc)
  else if older rc log f = true then .error 2
  else if beg (kd rc (f[6]?.getD 0)) = s.op then .error (bd rc)
  else .ok (takeM rc s (kd rc (f[6]?.getD 0)) f)
def fragM (b : List Int) (rc : Bool) (log : Int) (s : St) : Except Int St :=
  if (b.drop s.at_).length < hd rc then .error 1
  else if lft s.at_ < hd rc + leN (b.drop s.at_) then .error (bd rc)
  else if (b.drop s.at_).length < hd rc + leN (b.drop s.at_) then .error 1
  else lookM rc log s ((b.drop s.at_).take (hd rc + leN (b.drop s.at_)))
def restM (b : List Int) (rc : Bool) (log : Int) (s : St) : Except Int St :=
  if zer (b.drop s.at_) = true then .error (qt s.op) else fragM b rc log s
def stepM (b : List Int) (rc : Bool) (log : Int) (s : St) : Except Int St :=
  if b.length < s.at_ + tl rc s.at_ ∧ zer (b.drop s.at_) = false then .error 1
  else restM b rc log { s with at_ := s.at_ + tl rc s.at_ }
/-- So many steps from the beginning. -/
def iterM (b : List Int) (rc : Bool) (log : Int) : Nat → Option St
  | 0 => some St0
  | n + 1 => match iterM b rc log n with
    | none => none
    | some s => match stepM b rc log s with
      | .ok s' => some s'
      | .error _ => none
def Reach (b : List Int) (rc : Bool) (log : Int) (s : St) : Prop := ∃ n, iterM b rc log n = some s
theorem Reach.zero (b : List Int) (rc : Bool) (log : Int) : Reach b rc log St0 := ⟨0, rfl⟩
theorem Reach.step {b : List Int} {rc : Bool} {log : Int} {s s' : St} (h : Reach b rc log s) (hs : stepM b rc log s = .ok s') : Reach b rc log s' := by
  obtain ⟨n, hn⟩ := h
  exact ⟨n + 1, by simp [iterM, hn, hs]⟩
theorem iterM_none {b : List Int} {rc : Bool} {log : Int} {n : Nat} (h : iterM b rc log n = none) (k : Nat) : iterM b rc log (n + k) = none := by
  induction k with
  | zero => exact h
  | succ k ih => rw [← Nat.add_assoc]; simp [iterM, ih]
theorem iterM_stop {b : List Int} {rc : Bool} {log : Int} {n : Nat} {s : St} {c : Int} (h : iterM b rc log n = some s) (hs : stepM b rc log s = .error c) {m : Nat} (hm : n < m) : iterM b rc log m = none := by
  have h1 : iterM b rc log (n + 1) = none := by simp [iterM, h, hs]
  have := iterM_none h1 (m - (n + 1))
  rwa [show n + 1 + (m - (n + 1)) = m by omega] at this
/-- It ends in one way alone. -/
theorem ends_one {b : List Int} {rc : Bool} {log : Int} {s t : St} {c d : Int} (h : Reach b rc log s) (hs : stepM b rc log s = .error c) (h' : Reach b rc log t) (ht : stepM b rc log t = .error d) : s = t ∧ c = d := by
  obtain ⟨n, hn⟩ := h
  obtain ⟨m, hm⟩ := h'
  have e : n = m := by
    rcases Nat.lt_trichotomy n m with h1 | h1 | h1
    · rw [iterM_stop hn hs h1] at hm; cases hm
    · exact h1
    · rw [iterM_stop hm ht h1] at hn; cases hn
  subst e
  rw [hn] at hm
  cases hm
  rw [hs] at ht
  cases ht
  exact ⟨rfl, rfl⟩
/-- What Read tells of bytes. -/
def Res (b : List Int) (log : Int) (recs : List (List Int)) (how : Int) (en : Nat) : Prop :=
  (1073741824 < b.length ∧ recs = [] ∧ how = 3 ∧ en = 0) ∨ (b.length ≤ 1073741824 ∧ ∃ t, Reach b (rcy b) log t ∧ stepM b (rcy b) log t = .error how ∧ recs = t.recs ∧ en = t.en)
theorem Res.one {b : List Int} {log : Int} {r r' : List (List Int)} {how how' : Int} {en en' : Nat} (h : Res b log r how en) (h' : Res b log r' how' en') : r = r' ∧ how = how' ∧ en = en' := by
  rcases h with ⟨h1, rfl, rfl, rfl⟩ | ⟨h1, t, ht, hs, rfl, rfl⟩ <;> rcases h' with ⟨h2, rfl, rfl, rfl⟩ | ⟨h2, t', ht', hs', rfl, rfl⟩
  · exact ⟨rfl, rfl, rfl⟩
  · omega
  · omega
  · obtain ⟨rfl, rfl⟩ := ends_one ht hs ht' hs'
    exact ⟨rfl, rfl, rfl⟩
theorem takeM_at (rc : Bool) (s : St) (k : Int) (f : List Int) : (takeM rc s k f).at_ = s.at_ + f.length := by unfold takeM; split <;> rfl
theorem lookM_at {rc : Bool} {log : Int} {s s' : St} {f : List Int} (h : lookM rc log s f = .ok s') : s'.at_ = s.at_ + f.length := by
  unfold lookM at h
  split at h
  · cases h
  split at h
  · cases h
  split at h
  · cases h
  split at h
  · cases h
  cases h
  exact takeM_at _ _ _ _
theorem fragM_at {b : List Int} {rc : Bool} {log : Int} {s s' : St} (h : fragM b rc log s = .ok s') : s.at_ < s'.at_ ∧ s'.at_ ≤ b.length := by
  have hh := hd_bd rc
  unfold fragM at h
  split at h
  · cases h
  split at h
  · cases h
  split at h
  · cases h
  rename_i h1 h2 h3
  have := lookM_at h
  rw [List.length_take] at this
  simp only [List.length_drop] at *
  omega
theorem stepM_at {b : List Int} {rc : Bool} {log : Int} {s s' : St} (h : stepM b rc log s = .ok s') : s.at_ < s'.at_ ∧ s'.at_ ≤ b.length := by
  unfold stepM at h
  split at h
  · cases h
  unfold restM at h
  split at h
  · cases h
  have := fragM_at h
  exact ⟨by have h1 := this.1; dsimp only at h1; omega, this.2⟩
/-- The bytes in the records read are no more than the bytes ahead. -/
def sz (l : List (List Int)) : Nat := (l.map List.length).sum
theorem takeM_sz (rc : Bool) (s : St) (k : Int) (f : List Int) (hf : hd rc ≤ f.length) (h : s.now.length ≤ s.at_ ∧ s.recs.length ≤ s.at_ ∧ s.en ≤ s.at_) : (takeM rc s k f).now.length ≤ (takeM rc s k f).at_ ∧ (takeM rc s k f).recs.length ≤ (takeM rc s k f).at_ ∧ (takeM rc s k f).en ≤ (takeM rc s k f).at_ := by
  have := hd_bd rc
  unfold takeM
  split <;> simp <;> omega
end Go.Proofs.YtjnlolibfcpbkaaDoor
