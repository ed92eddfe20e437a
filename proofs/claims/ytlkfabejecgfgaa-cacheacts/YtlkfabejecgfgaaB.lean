import Derived.Test.YtlkfabejecgfgaaA
namespace Go.Proofs.Ytlkfabejecgfgaa
set_option linter.unusedVariables false
set_option linter.unusedSimpArgs false
/-! Plain mathematics of a shard. -/
/-- An entry. -/
structure En where
  key : ByteArray
  val : Value
  chg : Nat
  pins : Nat
/-- A shard: its entries in the order in which they came, those that are in by their keys, how many; the queue; what is used, what is pinned. -/
structure Xs where
  ent : List En
  f : List UInt8 → Option Nat
  cnt : Nat
  q : List Nat
  us : Nat
  pn : Nat
/-- What stands behind j in a list. -/
def nxt : List Nat → Nat → Option Nat
  | [], _ => none
  | x :: r, j => if x = j then r.head? else nxt r j
def prv (l : List Nat) (j : Nat) : Option Nat := nxt l.reverse j
def fset {β : Type} (f : Nat → β) (k : Nat) (o : β) : Nat → β := fun x => if x = k then o else f x
theorem nd_rev {q : List Nat} (h : q.Nodup) : q.reverse.Nodup := by
  unfold List.Nodup at *
  rw [List.pairwise_reverse]
  exact h.imp Ne.symm
theorem nxt_not {A : List Nat} {k : Nat} (h : k ∉ A) : nxt A k = none := by
  induction A with
  | nil => rfl
  | cons x r ih =>
    simp only [List.mem_cons, not_or] at h
    unfold nxt
    rw [if_neg (fun e => h.1 e.symm)]
    exact ih h.2
theorem nxt_r {A B : List Nat} {k : Nat} (h : k ∉ A) : nxt (A ++ B) k = nxt B k := by
  induction A with
  | nil => rfl
  | cons x r ih =>
    simp only [List.mem_cons, not_or] at h
    simp only [List.cons_append]
    rw [nxt, if_neg (fun e => h.1 e.symm)]
    exact ih h.2
theorem nxt_l {A B : List Nat} {k : Nat} (h : k ∈ A) (hn : A.Nodup) : nxt (A ++ B) k = if A.getLast? = some k then B.head? else nxt A k := by
  induction A with
  | nil => cases h
  | cons x r ih =>
    obtain ⟨hx, hr⟩ := List.nodup_cons.1 hn
    by_cases e : x = k
    · subst e
      cases r with
      | nil => simp [nxt]
      | cons y r' =>
        have : (x :: y :: r').getLast? ≠ some x := by
          rw [List.getLast?_cons_cons]
          intro hh
          exact hx (List.mem_of_getLast? hh)
        rw [if_neg this]; simp [nxt]
    · have hk : k ∈ r := by simpa [Ne.symm e] using h
      simp only [List.cons_append]
      rw [nxt, if_neg e, ih hk hr]
      have : (x :: r).getLast? = r.getLast? := by
        cases r with
        | nil => cases hk
        | cons y r' => rw [List.getLast?_cons_cons]
      rw [this]
      simp [nxt, e]
theorem nxt_mid {A B : List Nat} {j : Nat} (h : j ∉ A) : nxt (A ++ j :: B) j = B.head? := by rw [nxt_r h]; simp [nxt]
/-- One leaves. -/
def nxA (n p : Nat → Option Nat) (j : Nat) : Nat → Option Nat := fset (match p j with | some a => fset n a (n j) | none => n) j none
theorem nxt_erase {A B : List Nat} {j : Nat} (hn : (A ++ j :: B).Nodup) : nxt (A ++ B) = nxA (nxt (A ++ j :: B)) (fun _ => A.getLast?) j := by
  have hj : j ∉ A := fun h => by
    have := List.nodup_append.1 hn
    exact this.2.2 _ h _ (List.mem_cons_self) rfl
  have hA : A.Nodup := (List.nodup_append.1 hn).1
  have hjB : j ∉ B := (List.nodup_cons.1 (List.nodup_append.1 hn).2.1).1
  funext k
  unfold nxA fset
  by_cases e : k = j
  · subst e
    rw [if_pos rfl, nxt_r hj, nxt_not hjB]
  · rw [if_neg e]
    by_cases hk : k ∈ A
    · rw [nxt_l hk hA]
      cases hl : A.getLast? with
      | none => rw [List.getLast?_eq_none_iff] at hl; subst hl; cases hk
      | some a =>
        simp only [Option.some.injEq]
        by_cases ea : k = a
        · subst ea; simp [nxt_mid hj]
        · rw [if_neg (fun h => ea h.symm), if_neg ea, nxt_l hk hA, hl]
          simp [Ne.symm ea]
    · rw [nxt_r hk]
      have h2 : nxt (A ++ j :: B) k = nxt B k := by rw [nxt_r hk]; simp [nxt, Ne.symm e]
      cases hl : A.getLast? with
      | none => simp only []; exact h2.symm
      | some a =>
        have : k ≠ a := fun h => hk (h ▸ List.mem_of_getLast? hl)
        simp only []
        rw [if_neg this]; exact h2.symm
theorem nodup_split {q : List Nat} {j : Nat} (h : j ∈ q) : ∃ A B, q = A ++ j :: B := List.append_of_mem h
theorem erase_split {A B : List Nat} {j : Nat} (hn : (A ++ j :: B).Nodup) : (A ++ j :: B).erase j = A ++ B := by
  have hj : j ∉ A := fun h => (List.nodup_append.1 hn).2.2 _ h _ List.mem_cons_self rfl
  rw [List.erase_append_right _ hj]; simp
theorem nxt_leave {q : List Nat} (hn : q.Nodup) {j : Nat} (h : j ∈ q) : nxt (q.erase j) = nxA (nxt q) (prv q) j ∧ prv (q.erase j) = nxA (prv q) (nxt q) j ∧
    (q.erase j).head? = (if prv q j = none then nxt q j else q.head?) ∧ (q.erase j).getLast? = (if nxt q j = none then prv q j else q.getLast?) := by
  obtain ⟨A, B, rfl⟩ := nodup_split h
  have hj : j ∉ A := fun h => (List.nodup_append.1 hn).2.2 _ h _ List.mem_cons_self rfl
  have hjB : j ∉ B := (List.nodup_cons.1 (List.nodup_append.1 hn).2.1).1
  have hrev : (A ++ j :: B).reverse = B.reverse ++ j :: A.reverse := by simp
  have hp : prv (A ++ j :: B) j = A.getLast? := by unfold prv; rw [hrev, nxt_mid (by simpa using hjB)]; simp
  have hx : nxt (A ++ j :: B) j = B.head? := nxt_mid hj
  rw [erase_split hn]
  have hn' : (B.reverse ++ j :: A.reverse).Nodup := by rw [← hrev]; exact nd_rev hn
  refine ⟨?_, ?_, ?_, ?_⟩
  · rw [nxt_erase hn]; unfold nxA; rw [hp]
  · have := nxt_erase hn'
    unfold prv
    rw [hrev]
    rw [show (A ++ B).reverse = B.reverse ++ A.reverse by simp, this]
    unfold nxA; rw [hx]; simp
  · rw [hp, hx]
    cases A with
    | nil => simp
    | cons a A' => simp [List.getLast?_cons]
  · rw [hp, hx]
    cases B with
    | nil => simp
    | cons b B' => simp [List.getLast?_append]
/-- One joins. -/
def nxJ (n : Nat → Option Nat) (l : Option Nat) (j : Nat) : Nat → Option Nat := match l with | some a => fset n a (some j) | none => n
theorem nxt_join {q : List Nat} (hn : q.Nodup) {j : Nat} (h : j ∉ q) : nxt (q ++ [j]) = nxJ (nxt q) q.getLast? j ∧ prv (q ++ [j]) = fset (prv q) j q.getLast? ∧
    (q ++ [j]).head? = (if q.getLast? = none then some j else q.head?) ∧ (q ++ [j]).getLast? = some j := by
  refine ⟨?_, ?_, ?_, ?_⟩
  · funext k
    unfold nxJ fset
    by_cases hk : k ∈ q
    · rw [nxt_l hk hn]
      cases hl : q.getLast? with
      | none => rw [List.getLast?_eq_none_iff] at hl; subst hl; cases hk
      | some a =>
        simp only [Option.some.injEq]
        by_cases e : k = a
        · subst e; simp
        · rw [if_neg (fun h => e h.symm), if_neg e]
    · rw [nxt_r hk]
      have : nxt [j] k = none := by simp [nxt]
      rw [this]
      cases hl : q.getLast? with
      | none => simp only []; exact (nxt_not hk).symm
      | some a =>
        have : k ≠ a := fun h => hk (h ▸ List.mem_of_getLast? hl)
        simp only []
        rw [if_neg this, nxt_not hk]
  · funext k
    unfold prv fset
    rw [show (q ++ [j]).reverse = j :: q.reverse by simp, nxt]
    by_cases e : k = j
    · subst e; simp
    · rw [if_neg (Ne.symm e), if_neg e]
  · cases q with
    | nil => simp
    | cons a r => simp [List.getLast?_cons]
  · simp
theorem prv_not {A : List Nat} {k : Nat} (h : k ∉ A) : prv A k = none := nxt_not (by simpa using h)
theorem nxt_mem {q : List Nat} {j k : Nat} (h : nxt q j = some k) : k ∈ q := by
  induction q with
  | nil => cases h
  | cons x r ih =>
    unfold nxt at h
    split at h
    · exact List.mem_cons_of_mem _ (List.mem_of_mem_head? h)
    · exact List.mem_cons_of_mem _ (ih h)
theorem prv_mem {q : List Nat} {j k : Nat} (h : prv q j = some k) : k ∈ q := by simpa using nxt_mem h
theorem nxt_ne {q : List Nat} (hn : q.Nodup) {j k : Nat} (h : nxt q j = some k) : k ≠ j := by
  induction q with
  | nil => cases h
  | cons x r ih =>
    obtain ⟨hx, hr⟩ := List.nodup_cons.1 hn
    unfold nxt at h
    split at h
    · rename_i e
      subst e
      rintro rfl
      exact hx (List.mem_of_mem_head? h)
    · exact ih hr h
theorem prv_ne {q : List Nat} (hn : q.Nodup) {j k : Nat} (h : prv q j = some k) : k ≠ j := nxt_ne (nd_rev hn) h
theorem prv_nxt_ne {q : List Nat} (hn : q.Nodup) {j a c : Nat} (h : prv q j = some a) (h' : nxt q j = some c) : a ≠ c := by
  by_cases hj : j ∈ q
  · obtain ⟨A, B, rfl⟩ := nodup_split hj
    have hjA : j ∉ A := fun h => (List.nodup_append.1 hn).2.2 _ h _ List.mem_cons_self rfl
    have hjB : j ∉ B := (List.nodup_cons.1 (List.nodup_append.1 hn).2.1).1
    have hp : prv (A ++ j :: B) j = A.getLast? := by
      unfold prv; rw [show (A ++ j :: B).reverse = B.reverse ++ j :: A.reverse by simp, nxt_mid (by simpa using hjB)]; simp
    rw [hp] at h
    rw [nxt_mid hjA] at h'
    have h1 := List.mem_of_getLast? h
    have h2 := List.mem_of_mem_head? h'
    exact (List.nodup_append.1 hn).2.2 _ h1 _ (List.mem_cons_of_mem _ h2)
  · rw [nxt_not hj] at h'; cases h'
/-! Sums of 128 bits. -/
def addT (u c : Nat) : Nat := (u + c) % 340282366920938463463374607431768211456
def takeT (u c : Nat) : Nat := (u + 340282366920938463463374607431768211456 - c) % 340282366920938463463374607431768211456
def tolT (u : Nat) : Nat := if 18446744073709551615 < u then 18446744073709551615 else u
def plusT (a b : Nat) : Nat := tolT (a + b)
def hiT (u : Nat) : Nat := u / 18446744073709551616
def loT (u : Nat) : Nat := u % 18446744073709551616
/-! What the program does with a shard. -/
def Xs.at (x : Xs) (j : Nat) : En := x.ent.getD j ⟨⟨#[]⟩, .bool false, 0, 0⟩
def takeX (x : Xs) (j : Nat) : Xs :=
  let e := x.at j
  { x with f := fput x.f e.key.data.toList none, cnt := x.cnt - (if (x.f e.key.data.toList).isSome then 1 else 0), q := if e.pins = 0 then x.q.erase j else x.q, us := if e.pins = 0 then takeT x.us e.chg else x.us }
def excX (x : Xs) (c r : Nat) : Bool := decide (r < plusT c (tolT x.us))
def roomX (c r : Nat) : Nat → Xs → Xs
  | 0, x => x
  | n + 1, x => match x.q with
    | [] => x
    | j :: _ => if excX x c r then roomX c r n (takeX x j) else x
/-- The entry n, which is new, is taken in. -/
def put1 (x : Xs) (n : Nat) : Xs :=
  let e := x.at n
  let y := match x.f e.key.data.toList with | some j => takeX x j | none => x
  { y with ent := y.ent.set n { e with pins := 1 }, f := fput y.f e.key.data.toList (some n), cnt := y.cnt + 1, us := addT y.us e.chg, pn := addT y.pn e.chg }
def putX (x : Xs) (k : ByteArray) (v : Value) (c : Nat) : Xs := put1 { x with ent := x.ent ++ [⟨k, v, c, 0⟩] } x.ent.length
def setE (x : Xs) (j : Nat) (e : En) : Xs := { x with ent := x.ent.set j e }
def pinX (x : Xs) (j : Nat) : Xs :=
  let e := x.at j
  { x with ent := x.ent.set j { e with pins := e.pins + 1 }, q := if e.pins = 0 then x.q.erase j else x.q, pn := if e.pins = 0 then addT x.pn e.chg else x.pn }
def unpinX (x : Xs) (j r : Nat) : Xs :=
  let e := x.at j
  let y := { x with ent := x.ent.set j { e with pins := e.pins - 1 } }
  if 1 < e.pins then y
  else
    let z := { y with pn := takeT y.pn e.chg }
    if z.f e.key.data.toList = some j then
      let v := { z with q := z.q ++ [j] }
      roomX 0 r v.q.length v
    else { z with us := takeT z.us e.chg }
end Go.Proofs.Ytlkfabejecgfgaa
