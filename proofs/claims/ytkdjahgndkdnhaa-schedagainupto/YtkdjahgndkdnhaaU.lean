import Derived.Test.YtkdjahgndkdnhaaJ
import Derived.Test.YtkdjahgndkdnhaaP
namespace Go.Proofs.Ytkdjahgndkdnhaa
set_option linter.unusedVariables false
set_option linter.unusedSimpArgs false
/-! Mathematics of SchedOrder: locks in rising order. -/
/-- Unlocks, each behind it a wish to go on. -/
def unl : List Nat → List (Int × Int)
  | [] => []
  | k :: s => (0, (k : Int)) :: (-1, 0) :: unl s
/-- What is left of a task that holds hs (the greatest first) and will take todo (rising). -/
def prog (hs todo : List Nat) : List (Int × Int) := todo.map (fun (k : Nat) => ((-2 : Int), (k : Int))) ++ unl (todo.reverse ++ hs)
theorem prog_cons (hs : List Nat) (t : Nat) (todo : List Nat) : prog hs (t :: todo) = (-2, (t : Int)) :: prog (t :: hs) todo := by
  unfold prog
  simp [List.append_assoc]
theorem prog_nil (hs : List Nat) : prog hs [] = unl hs := by simp [prog]
/-- Strictly falling. -/
def Falls (l : List Nat) : Prop := l.Pairwise (fun a b => b < a)
/-- A task's state: what it is, what it holds, what is left. -/
structure TkI (t : Tk) (q : Value) (hold : List Nat) (rest : List (Int × Int)) : Prop where
  ff : t.failed = false
  al : (t.kind = 0 ∧ t.on = 0 ∧ t.step = q ∧ ∃ todo, rest = prog hold todo ∧ Falls (todo.reverse ++ hold) ∧ ∀ x ∈ todo, x < 8) ∨ (t.kind = 1 ∧ t.step = q ∧ ∃ (w : Nat) (todo : List Nat), t.on = w ∧ w < 8 ∧ rest = prog (w :: hold) todo ∧ Falls (todo.reverse ++ w :: hold) ∧ ∀ x ∈ todo, x < 8) ∨ (t.kind = 4 ∧ hold = [])
/-- Who holds what. -/
structure HI (n : Nat) (H : Int → Option Int) (hold : Nat → List Nat) : Prop where
  a : ∀ i, i < n → ∀ h, h ∈ hold i → H h = some (i : Int)
  b : ∀ x v, H x = some v → ∃ i h, i < n ∧ v = (i : Int) ∧ h ∈ hold i ∧ x = (h : Int)
def fset {α : Type} (f : Nat → α) (i : Nat) (v : α) : Nat → α := fun j => if j = i then v else f j
theorem HI.lock {n : Nat} {H : Int → Option Int} {hold : Nat → List Nat} (h : HI n H hold) {i w : Nat} (hi : i < n) (hw : H w = none) : HI n (fput H w (some (i : Int))) (fset hold i (w :: hold i)) := by
  constructor
  · intro j hj x hx
    by_cases e : j = i
    · subst e
      simp only [fset, if_true, List.mem_cons] at hx
      rcases hx with rfl | hx
      · simp [fput]
      · have h1 := h.a j hj x hx
        have : (x : Int) ≠ (w : Int) := by intro e; rw [e, hw] at h1; cases h1
        simp [fput, this, h1]
    · simp only [fset, e, if_false] at hx
      have h1 := h.a j hj x hx
      have : (x : Int) ≠ (w : Int) := by intro e; rw [e, hw] at h1; cases h1
      simp [fput, this, h1]
  · intro x v hx
    by_cases e : x = (w : Int)
    · subst e
      simp [fput] at hx
      exact ⟨i, w, hi, hx.symm, by simp [fset], rfl⟩
    · simp [fput, e] at hx
      obtain ⟨j, y, hj, rfl, hy, rfl⟩ := h.b x v hx
      refine ⟨j, y, hj, rfl, ?_, rfl⟩
      by_cases e' : j = i
      · subst e'; simp [fset, hy]
      · simp [fset, e', hy]
theorem HI.unlock {n : Nat} {H : Int → Option Int} {hold : Nat → List Nat} (h : HI n H hold) {i w : Nat} {s : List Nat} (hi : i < n) (hs : hold i = w :: s) (hf : Falls (w :: s)) : HI n (fput H w none) (fset hold i s) := by
  have hw := h.a i hi w (by rw [hs]; simp)
  constructor
  · intro j hj x hx
    by_cases e : j = i
    · subst e
      simp only [fset, if_true] at hx
      have h1 := h.a j hj x (by rw [hs]; exact List.mem_cons_of_mem _ hx)
      have h2 : x < w := (List.pairwise_cons.1 hf).1 x hx
      have : (x : Int) ≠ (w : Int) := by omega
      simp [fput, this, h1]
    · simp only [fset, e, if_false] at hx
      have h1 := h.a j hj x hx
      have : (x : Int) ≠ (w : Int) := by
        intro e'
        rw [e', hw] at h1
        have : (i : Int) = (j : Int) := by simpa using h1
        omega
      simp [fput, this, h1]
  · intro x v hx
    by_cases e : x = (w : Int)
    · subst e; simp [fput] at hx
    · simp [fput, e] at hx
      obtain ⟨j, y, hj, rfl, hy, rfl⟩ := h.b x v hx
      refine ⟨j, y, hj, rfl, ?_, rfl⟩
      by_cases e' : j = i
      · subst e'
        rw [hs] at hy
        simp only [fset, if_true]
        rcases List.mem_cons.1 hy with rfl | hy
        · exact absurd rfl e
        · exact hy
      · simp [fset, e', hy]
theorem unH_held {H : Int → Option Int} {i w : Nat} (h : H w = some (i : Int)) : unH H i w = fput H w none ∧ unE H i w = 0 := by
  unfold unH unE; simp [h]
theorem stepR_neg {n : Nat} {a o : Int} {l : List (Int × Int)} {H : Int → Option Int} {T : List Int} {k : Nat} (h : a < 0) : stepR n ((a, o) :: l) H T k = ((-(a + 1), o), H, T, k + 1) := by rw [stepR, if_pos h]
theorem stepR_pos {n : Nat} {o : Int} {l : List (Int × Int)} {H : Int → Option Int} {T : List Int} {k : Nat} : stepR n ((0, o) :: l) H T k = stepR n l (unH H n o) (T ++ [unE H n o]) (k + 1) := by rw [stepR, if_neg (by omega)]
theorem fset_self {α : Type} (f : Nat → α) (i : Nat) : fset f i (f i) = f := by
  funext j; unfold fset; split
  · rename_i e; rw [e]
  · rfl
theorem fset_fset {α : Type} (f : Nat → α) (i : Nat) (u v : α) : fset (fset f i u) i v = fset f i v := by
  funext j; unfold fset; split <;> rfl
/-- What a step leaves. -/
structure Left (n i : Nat) (t : Tk) (q : Value) (hold : Nat → List Nat) (rest : List (Int × Int)) (T : List Int) (k0 : Nat) (R : (Int × Int) × (Int → Option Int) × List Int × Nat) (st : Nat) (hold' : List Nat) (used : Nat) : Prop where
  at_ : R.2.2.2 = k0 + used
  told : R.2.2.1 = T ∨ R.2.2.1 = T ++ [0]
  hi : HI n R.2.1 (fset hold i hold')
  tk : TkI (t.goes.wished R.1.1 R.1.2 st) q hold' (rest.drop used)
  us : used ≤ rest.length
  go : R.1.1 = 4 ∨ 1 ≤ used
  o64 : I64 R.1.2
  kk : R.1.1 = 0 ∨ R.1.1 = 1 ∨ R.1.1 = 4
theorem prog_step {n i : Nat} {t : Tk} {q : Value} {hold : Nat → List Nat} {H0 : Int → Option Int} {hs todo : List Nat} {T : List Int} {k0 st : Nat} (hi : i < n) (hst : t.step = q) (hf : t.failed = false) (h : HI n H0 (fset hold i hs)) (hfall : Falls (todo.reverse ++ hs)) (h8 : ∀ x ∈ todo, x < 8) :
    ∃ hold' used, Left n i t q hold (prog hs todo) T k0 (stepR i (prog hs todo) H0 T k0) st hold' used := by
  cases todo with
  | cons x todo =>
    refine ⟨hs, 1, ?_⟩
    rw [prog_cons, stepR_neg (by omega)]
    have hx := h8 x (by simp)
    refine ⟨rfl, .inl rfl, h, ⟨hf, .inr (.inl ⟨rfl, ?_, x, todo, rfl, hx, by simp, ?_, fun y hy => h8 y (List.mem_cons_of_mem _ hy)⟩)⟩, by simp, .inr (Nat.le_refl _), by unfold I64; dsimp only; omega, .inr (.inl rfl)⟩
    · simp [Tk.wished, Tk.goes, plainK, hst]
    · simpa [List.append_assoc] using hfall
  | nil =>
    rw [prog_nil]
    cases hs with
    | nil =>
      refine ⟨[], 0, ?_⟩
      simp only [unl, stepR]
      exact ⟨rfl, .inl rfl, h, ⟨hf, .inr (.inr ⟨rfl, rfl⟩)⟩, by simp, .inl rfl, by unfold I64; dsimp only; omega, .inr (.inr rfl)⟩
    | cons x s =>
      refine ⟨s, 2, ?_⟩
      have hF : Falls (x :: s) := by simpa using hfall
      have hx : H0 x = some (i : Int) := h.a i hi x (by simp [fset])
      obtain ⟨e1, e2⟩ := unH_held hx
      simp only [unl]
      rw [stepR_pos, stepR_neg (by omega), e1, e2]
      have h' := h.unlock (s := s) hi (by simp [fset]) hF
      rw [fset_fset] at h'
      refine ⟨rfl, .inr rfl, h', ⟨hf, .inl ⟨rfl, rfl, ?_, [], by simp [prog_nil], ?_, by simp⟩⟩, by simp, .inr (by omega), by unfold I64; dsimp only; omega, .inl rfl⟩
      · simp [Tk.wished, Tk.goes, plainK, hst]
      · exact (List.pairwise_cons.1 hF).2
/-- A step of a task that may go. -/
theorem tk_step {n i : Nat} {t : Tk} {q : Value} {hold : Nat → List Nat} {H : Int → Option Int} {rest : List (Int × Int)} {T : List Int} {k0 st st0 : Nat} (hi : i < n) (ht : TkI t q (hold i) rest) (h : HI n H hold) (hm : mayB H st0 t = true) :
    t.step = q ∧ ∃ hold' used, Left n i t q hold rest T k0 (stepR i rest (lockd H t i) T k0) st hold' used := by
  rcases ht.al with ⟨k0', o0, hs, todo, rfl, hf, h8⟩ | ⟨k1, hs, w, todo, ho, hw, rfl, hf, h8⟩ | ⟨k4, _⟩
  · refine ⟨hs, ?_⟩
    have e : lockd H t i = H := by unfold lockd; rw [k0']; simp
    rw [e]
    exact prog_step hi hs ht.ff (by rw [fset_self]; exact h) hf h8
  · refine ⟨hs, ?_⟩
    have e : lockd H t i = fput H w (some (i : Int)) := by unfold lockd; rw [k1, ho]; simp
    rw [e]
    have hn : H w = none := by
      unfold mayB at hm
      rw [k1, ho] at hm
      simpa using hm
    exact prog_step hi hs ht.ff (h.lock hi hn) hf h8
  · unfold mayB at hm
    rw [k4] at hm
    simp at hm
/-- Never dead. -/
theorem never_dead {n : Nat} {ts : Nat → Tk} {q : Nat → Value} {hold : Nat → List Nat} {rest : Nat → List (Int × Int)} {H : Int → Option Int} {st : Nat} (ht : ∀ i, i < n → TkI (ts i) (q i) (hold i) (rest i)) (h : HI n H hold) {i : Nat} (hi : i < n) (ha : (ts i).kind ≠ 4) : ∃ j, j < n ∧ mayB H st (ts j) = true := by
  apply Classical.byContradiction
  intro hno
  have hno' : ∀ j, j < n → mayB H st (ts j) = false := fun j hj => by
    cases e : mayB H st (ts j) with
    | false => rfl
    | true => exact absurd ⟨j, hj, e⟩ hno
  have key : ∀ d i (w : Nat), i < n → (ts i).kind = 1 → (ts i).on = w → w < 8 → 8 ≤ w + d → False := by
    intro d
    induction d with
    | zero => intro i w _ _ _ h1 h2; omega
    | succ d ih =>
      intro i w hi hk ho h1 h2
      have hm := hno' i hi
      unfold mayB at hm
      rw [hk, ho] at hm
      have hs : (H w).isSome = true := by simpa using hm
      obtain ⟨v, hv⟩ := Option.isSome_iff_exists.1 hs
      obtain ⟨j, y, hj, _, hy, hxy⟩ := h.b w v hv
      have : y = w := by omega
      subst this
      rcases (ht j hj).al with ⟨k0', _, _⟩ | ⟨k1, _, w', todo, ho', hw', _, hf, _⟩ | ⟨_, he⟩
      · have := hno' j hj
        unfold mayB at this
        rw [k0'] at this
        simp at this
      · have hlt : y < w' := (List.pairwise_cons.1 (List.pairwise_append.1 hf).2.1).1 y hy
        exact ih j w' hj k1 ho' hw' (by omega)
      · rw [he] at hy; simp at hy
  rcases (ht i hi).al with ⟨k0', _, _⟩ | ⟨k1, _, w', todo, ho', hw', _, hf, _⟩ | ⟨k4, _⟩
  · have := hno' i hi
    unfold mayB at this
    rw [k0'] at this
    simp at this
  · exact key 8 i w' hi k1 ho' hw' (by omega)
  · exact ha k4
def sumTo (f : Nat → Nat) : Nat → Nat
  | 0 => 0
  | n + 1 => sumTo f n + f n
theorem sumTo_congr {f g : Nat → Nat} : ∀ n, (∀ i, i < n → f i = g i) → sumTo f n = sumTo g n
  | 0, _ => rfl
  | n + 1, h => by simp only [sumTo]; rw [sumTo_congr n (fun i hi => h i (by omega)), h n (by omega)]
theorem sumTo_fset {f : Nat → Nat} {i v : Nat} : ∀ n, i < n → v + 1 ≤ f i → sumTo (fset f i v) n + 1 ≤ sumTo f n
  | 0, h, _ => by omega
  | n + 1, h, hv => by
    simp only [sumTo]
    by_cases e : i = n
    · subst e
      have : sumTo (fset f i v) i = sumTo f i := sumTo_congr i (fun j hj => by simp [fset, show j ≠ i by omega])
      rw [this]
      simp only [fset, if_true]
      omega
    · have h1 := sumTo_fset (f := f) (i := i) (v := v) n (by omega) hv
      have h2 : fset f i v n = f n := by simp [fset, show n ≠ i by omega]
      omega
theorem sumTo_pos {f : Nat → Nat} {i : Nat} : ∀ n, i < n → 1 ≤ f i → 1 ≤ sumTo f n
  | 0, h, _ => by omega
  | n + 1, h, hv => by
    simp only [sumTo]
    by_cases e : i = n
    · subst e; omega
    · have := sumTo_pos (f := f) (i := i) n (by omega) hv; omega
end Go.Proofs.Ytkdjahgndkdnhaa
