import Derived.Test.YtkdjahgndkdnhaaZk
namespace Go.Proofs.Ytkdjahgndkdnhaa
set_option linter.unusedVariables false
set_option linter.unusedSimpArgs false
/-! What a scheduler does hangs on no step's address: two schedulers of the same tasks go alike. -/
def Tk.bare (t : Tk) : Tk := { t with step := .nilFunc }
def bares (ts : List Tk) : List Tk := ts.map Tk.bare
def GR.bare (R : GR) : GR := { R with ts := bares R.ts }
theorem bares_get (ts : List Tk) (i : Nat) : (bares ts)[i]? = (ts[i]?).map Tk.bare := by unfold bares; rw [List.getElem?_map]
theorem bares_set (ts : List Tk) (i : Nat) (t : Tk) : (bares ts).set i t.bare = bares (ts.set i t) := by unfold bares; rw [List.map_set]
theorem bare_goes (t : Tk) : t.bare.goes = t.goes.bare := rfl
theorem bare_wished (t : Tk) (k o : Int) (st : Nat) : t.bare.wished k o st = (t.wished k o st).bare := by
  unfold Tk.bare Tk.wished
  simp
theorem nums_bare (q : Tk → Bool) (hq : ∀ t, q t.bare = q t) (ts : List Tk) : ∀ i, nums q i (bares ts) = nums q i ts := by
  induction ts with
  | nil => intro i; rfl
  | cons t ts ih =>
    intro i
    have e : bares (t :: ts) = t.bare :: bares ts := rfl
    rw [e]
    simp only [nums, hq, ih]
theorem may_bare (H : Int → Option Int) (st : Nat) (ts : List Tk) : nums (mayB H st) 0 (bares ts) = nums (mayB H st) 0 ts := nums_bare _ (fun _ => rfl) ts 0
theorem since_bare (ts : List Tk) : sinceOf (bares ts) = sinceOf ts := by
  funext i
  unfold sinceOf
  rw [bares_get]
  cases ts[i]? <;> rfl
theorem waitL_bare (ts : List Tk) (o : Int) : waitL (bares ts) o = waitL ts o := by
  unfold waitL
  rw [since_bare, nums_bare (waitB o) (fun _ => rfl)]
theorem goAt_bare (ts : List Tk) (n : Nat) : goAt (bares ts) n = bares (goAt ts n) := by
  unfold goAt
  rw [bares_get]
  cases h : ts[n]? with
  | none => simp
  | some t => simp only [Option.map_some, bare_goes, bares_set]
theorem goAll_bare (l : List Nat) : ∀ ts : List Tk, goAll (bares ts) l = bares (goAll ts l) := by
  induction l with
  | nil => intro ts; rfl
  | cons n l ih =>
    intro ts
    unfold goAll at ih ⊢
    rw [List.foldl_cons, List.foldl_cons, goAt_bare, ih]
theorem sigE_bare (ts : List Tk) (o : Int) : sigE (bares ts) o = sigE ts o := by unfold sigE; rw [waitL_bare]
theorem sigT_bare (ts : List Tk) (o : Int) : sigT (bares ts) o = bares (sigT ts o) := by
  unfold sigT
  rw [waitL_bare]
  cases waitL ts o with
  | nil => rfl
  | cons n l => exact goAt_bare ts n
theorem stepG_bare (n : Nat) : ∀ (l : List (Int × Int)) (ts : List Tk) (H : Int → Option Int) (T : List Int) (k : Nat), stepG n l (bares ts) H T k = (stepG n l ts H T k).bare
  | [], ts, H, T, k => rfl
  | (a, o) :: l, ts, H, T, k => by
    have ih := stepG_bare n l
    simp only [stepG, sigE_bare, sigT_bare, waitL_bare, goAll_bare, ih]
    split
    · rfl
    · split
      · rfl
      · split
        · rfl
        · split
          · rfl
          · split <;> rfl
theorem fin_bare (R : GR) (x st : Nat) : fin R.bare x st = (bares (fin R x st).1, (fin R x st).2.1, (fin R x st).2.2) := by
  unfold fin
  have e : R.bare.ts = bares R.ts := rfl
  have e2 : R.bare.wish = R.wish := rfl
  have e3 : R.bare.H = R.H := rfl
  rw [e, e2, e3, bares_get]
  cases h : R.ts[x]? with
  | none => rfl
  | some t =>
    cases hw : R.wish with
    | none =>
      simp only [Option.map_some]
      rw [show ({ t.bare with failed := true } : Tk) = ({ t with failed := true } : Tk).bare from rfl, bare_wished, bares_set]
    | some ko =>
      simp only [Option.map_some]
      rw [bare_wished, bares_set]
      rfl
/-- The scheduler as a machine. -/
structure MS where
  ts : List Tk
  H : Int → Option Int
  st : Nat
  T : List Int
  at_ : Nat → Nat
/-- A pick: what it tells (the task, the error), and the machine behind it. -/
def mpick (ls : Nat → List (Int × Int)) (s : MS) (j : Nat) : Option (Nat × Int × MS) :=
  match (nums (mayB s.H s.st) 0 s.ts)[j % (nums (mayB s.H s.st) 0 s.ts).length]? with
  | none => none
  | some x => match s.ts[x]? with
    | none => none
    | some t =>
      let R := stepG x ((ls x).drop (s.at_ x)) (s.ts.set x t.goes) (lockd s.H t x) s.T (s.at_ x)
      some (x, (fin R x s.st).2.2, ⟨(fin R x s.st).1, (fin R x s.st).2.1, s.st + 1, R.T, fset s.at_ x R.at_⟩)
def MS.bare (s : MS) : MS := { s with ts := bares s.ts }
theorem lockd_bare (H : Int → Option Int) (t : Tk) (x : Nat) : lockd H t.bare x = lockd H t x := rfl
/-- A pick hangs on no address. -/
theorem mpick_bare (ls : Nat → List (Int × Int)) (s : MS) (j : Nat) : mpick ls s.bare j = (mpick ls s j).map fun r => (r.1, r.2.1, r.2.2.bare) := by
  unfold mpick
  have e1 : s.bare.ts = bares s.ts := rfl
  have e2 : s.bare.H = s.H := rfl
  have e3 : s.bare.st = s.st := rfl
  have e4 : s.bare.T = s.T := rfl
  have e5 : s.bare.at_ = s.at_ := rfl
  rw [e1, e2, e3, e4, e5, may_bare]
  cases (nums (mayB s.H s.st) 0 s.ts)[j % (nums (mayB s.H s.st) 0 s.ts).length]? with
  | none => rfl
  | some x =>
    dsimp only
    rw [bares_get]
    cases s.ts[x]? with
    | none => rfl
    | some t =>
      simp only [Option.map_some, bare_goes, bares_set, lockd_bare, stepG_bare, fin_bare]
      rfl
/-- Two machines that are alike but for addresses tell the same, and are alike again. -/
theorem mpick_like (ls : Nat → List (Int × Int)) {s u : MS} (h : s.bare = u.bare) (j : Nat) : (mpick ls s j).map (fun r => (r.1, r.2.1, r.2.2.bare)) = (mpick ls u j).map (fun r => (r.1, r.2.1, r.2.2.bare)) := by
  rw [← mpick_bare, ← mpick_bare, h]
/-- Picks one behind another, until nobody may go. -/
def mruns (ls : Nat → List (Int × Int)) : MS → List Nat → MS × Nat
  | s, [] => (s, 0)
  | s, j :: l => match mpick ls s j with
    | none => (s, 0)
    | some r => ((mruns ls r.2.2 l).1, (mruns ls r.2.2 l).2 + 1)
theorem mpick_none {ls : Nat → List (Int × Int)} {s : MS} {j : Nat} (hl : ∀ x ∈ nums (mayB s.H s.st) 0 s.ts, x < s.ts.length) (h : mpick ls s j = none) : nums (mayB s.H s.st) 0 s.ts = [] := by
  unfold mpick at h
  generalize hL : nums (mayB s.H s.st) 0 s.ts = L at h hl
  cases L with
  | nil => rfl
  | cons a L =>
    exfalso
    have hlt : j % (a :: L).length < (a :: L).length := Nat.mod_lt _ (by simp)
    rw [List.getElem?_eq_getElem hlt] at h
    have hm : (a :: L)[j % (a :: L).length] ∈ a :: L := List.getElem_mem hlt
    have := hl _ hm
    dsimp only at h
    rw [List.getElem?_eq_getElem this] at h
    cases h
theorem mpick_empty {ls : Nat → List (Int × Int)} {s : MS} (h : nums (mayB s.H s.st) 0 s.ts = []) (j : Nat) : mpick ls s j = none := by
  unfold mpick
  rw [h]
  rfl
end Go.Proofs.Ytkdjahgndkdnhaa
