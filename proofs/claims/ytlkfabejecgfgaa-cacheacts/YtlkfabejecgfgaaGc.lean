import Derived.Test.YtlkfabejecgfgaaGb
import Derived.Test.YtlkfabejecgfgaaGk
namespace Go.Proofs.Ytlkfabejecgfgaa
open Go.RowKit Go.Maps
set_option linter.unusedVariables false
set_option linter.unusedSimpArgs false
theorem nd_le : ∀ (n : Nat) (q : List Nat), q.Nodup → (∀ j ∈ q, j < n) → q.length ≤ n
  | 0, q, _, h => by
    cases q with
    | nil => simp
    | cons a r => have := h a List.mem_cons_self; omega
  | n + 1, q, hn, h => by
    have := nd_le n (q.erase n) (hn.erase _) (fun j hj => by
      have h1 := (nd_mem_erase hn).1 hj
      have h2 := h j h1.2
      omega)
    by_cases hm : n ∈ q
    · rw [List.length_erase_of_mem hm] at this; omega
    · rw [List.erase_of_not_mem hm] at this; omega
theorem Iv.qle {x : Xs} (h : Iv x) : x.q.length ≤ x.ent.length := nd_le _ _ h.nd (fun j hj => by
  obtain ⟨e, h1, _⟩ := (h.qe j).1 hj
  exact (List.getElem?_eq_some_iff.1 h1).1)
/-- A shard behind a Put, and a Free of its pin. -/
def pf (x : Xs) (r : Nat) (k : ByteArray) (v : Value) (ch : Nat) (fr : Bool) : Xs :=
  if fr then unpinX (putX (roomX ch r x.q.length x) k v ch) x.ent.length r else putX (roomX ch r x.q.length x) k v ch
theorem x_set {s : Cs} {i : Nat} {x x' : Xs} (hi : s.xs[i]? = some x) (P : List (Option (Nat × Nat))) (a : Nat) : ({ s with xs := s.xs.set i x', P := P } : Cs).x a = if a = i then x' else s.x a := by
  unfold Cs.x
  simp only [List.getD_eq_getElem?_getD]
  rw [xget hi]
  split <;> rfl
theorem put_x {s : Cs} (c : Ci s) {k : ByteArray} {v : Value} {ch : Nat} (hk : ¬ 1024 < k.size) (hst : s.st = false) :
    (putC s k v ch).1 = (s.P.length : Int) + 1 ∧ (putC s k v ch).2.1 = 0 ∧ (∀ a, (putC s k v ch).2.2.x a = if a = s.ix k.data.toList then pf (s.x (s.ix k.data.toList)) s.r k v ch false else s.x a) ∧ (putC s k v ch).2.2.r = s.r ∧ (putC s k v ch).2.2.st = s.st ∧ (putC s k v ch).2.2.xs.length = s.xs.length ∧
    (putC s k v ch).2.2.P = s.P ++ [some (s.ix k.data.toList, (s.x (s.ix k.data.toList)).ent.length)] := by
  have hi := c.ix k.data.toList
  have he1 := (Iv.room ch s.r (s.x (s.ix k.data.toList)).q.length _ (c.iv _ _ hi)).2
  have hX : roomX ch s.r (s.x (s.ix k.data.toList)).q.length (s.x (s.ix k.data.toList)) = s.rm (s.ix k.data.toList) ch := rfl
  rw [hX] at he1
  unfold putC
  rw [if_neg hk, hst, Bool.false_and, if_neg (by simp)]
  refine ⟨rfl, rfl, fun a => ?_, rfl, hst, ?_, ?_⟩
  · exact x_set hi _ a
  · simp [Cs.give, Cs.setx]
  · simp only [Cs.give, Cs.setx, he1]
theorem free_x {s : Cs} (c : Ci s) {i j : Nat} {P0 : List (Option (Nat × Nat))} (hP : s.P = P0 ++ [some (i, j)]) :
    (freeC s ((P0.length : Int) + 1)).1 = 0 ∧ (∀ a, (freeC s ((P0.length : Int) + 1)).2.x a = if a = i then unpinX (s.x i) j s.r else s.x a) ∧ (freeC s ((P0.length : Int) + 1)).2.r = s.r ∧ (freeC s ((P0.length : Int) + 1)).2.st = s.st ∧ (freeC s ((P0.length : Int) + 1)).2.xs.length = s.xs.length := by
  have hpin : s.pin ((P0.length : Int) + 1) = some (i, j) := by
    unfold Cs.pin
    rw [if_pos (by omega), show ((P0.length : Int) + 1 - 1).toNat = P0.length by omega, hP, List.getD_eq_getElem?_getD]
    simp
  obtain ⟨x, hx, _⟩ := c.pr i j (by rw [hP]; simp)
  unfold freeC
  rw [hpin]
  refine ⟨rfl, fun a => ?_, rfl, rfl, by simp [Cs.setx, Cs.unp]⟩
  exact x_set (s := s) hx _ a
/-- Values are numbers. -/
def Vi (x : Xs) : Prop := ∀ (j : Nat) (e : En), x.ent[j]? = some e → ∃ z, e.val = .int .u64 z
theorem pf_ent {x : Xs} (I : Iv x) (r : Nat) (k : ByteArray) (v : Value) (ch : Nat) (fr : Bool) : (pf x r k v ch fr).ent = x.ent ++ [⟨k, v, ch, if fr then 0 else 1⟩] := by
  obtain ⟨I1, he1⟩ := Iv.room ch r x.q.length _ I
  obtain ⟨I2, he2⟩ := I1.put k v ch
  rw [he1] at he2
  unfold pf
  cases fr with
  | false => simp only [Bool.false_eq_true, if_false]; exact he2
  | true =>
    have hj : (putX (roomX ch r x.q.length x) k v ch).ent[x.ent.length]? = some ⟨k, v, ch, 1⟩ := by rw [he2]; simp
    simp only [if_true]
    rw [(I2.unpin hj (by simp) r).2, he2]
    simp
theorem pf_vi {x : Xs} (I : Iv x) (h : Vi x) (r : Nat) (k : ByteArray) (z : Int) (ch : Nat) (fr : Bool) : Vi (pf x r k (.int .u64 z) ch fr) := by
  intro j e hj
  rw [pf_ent I] at hj
  by_cases c : j < x.ent.length
  · rw [List.getElem?_append_left c] at hj; exact h j e hj
  · have : j = x.ent.length := by
      have := (List.getElem?_eq_some_iff.1 hj).1
      simp at this; omega
    subst this
    simp at hj
    subst hj
    exact ⟨z, rfl⟩
/-- Two caches, apart. -/
structure Pr (w0 wr : World) (Lc Ld : Lo) (s t : Cs) : Prop where
  c : K0 w0 wr Lc s
  d : K0 w0 wr Ld t
  dj : ∀ k, Cb Lc s k → ¬ Cb Ld t k
/-- One shard of two caches is the same. -/
structure Rl (s t : Cs) (i : Nat) : Prop where
  n : s.xs.length = 3
  m : t.xs.length = 3
  r : s.r = t.r
  s1 : s.st = false
  t1 : t.st = false
  x : s.x i = t.x i
  v : Vi (s.x i)
theorem getv {s : Cs} (c : Ci s) (k : List UInt8) (hv : Vi (s.x (s.ix k))) : ∃ z, (getC s k).2.1 = .int .u64 z := by
  unfold getC
  cases hf : (s.x (s.ix k)).f k with
  | none => exact ⟨0, rfl⟩
  | some j =>
    obtain ⟨e, h1, h2, _⟩ := (c.iv _ _ (c.ix k)).old hf
    obtain ⟨z, hz⟩ := hv j e h1
    exact ⟨z, by simp only [xat h1]; exact hz⟩
theorem get_eq {s t : Cs} {k : List UInt8} (hi : s.ix k = t.ix k) (h : s.x (s.ix k) = t.x (t.ix k)) : (getC s k).2.1 = (getC t k).2.1 ∧ (getC s k).2.2.1 = (getC t k).2.2.1 := by
  unfold getC
  rw [← h]
  cases hf : (s.x (s.ix k)).f k with
  | none => exact ⟨rfl, rfl⟩
  | some j => exact ⟨rfl, rfl⟩
theorem Pr.c1 {w0 wr w' : World} {Lc Lc' Ld : Lo} {s s' t : Cs} (h : Pr w0 wr Lc Ld s t) (K : K0 w0 w' Lc' s') (U : Upd (Cb Lc s) wr w') (hE : ∀ k, Cb Lc' s' k → Cb Lc s k ∨ wr.heap.size ≤ k) : Pr w0 w' Lc' Ld s' t := by
  refine ⟨K, h.d.upd U (fun k hk hk' => h.dj k hk' hk) (fun k hk => h.c.own k hk), fun k hk hk' => ?_⟩
  rcases hE k hk with e | e
  · exact h.dj k e hk'
  · have := h.d.ca.lt hk'; omega
theorem Pr.symm {w0 wr : World} {Lc Ld : Lo} {s t : Cs} (h : Pr w0 wr Lc Ld s t) : Pr w0 wr Ld Lc t s := ⟨h.d, h.c, fun k hk hk' => h.dj k hk' hk⟩
theorem Pr.d1 {w0 wr w' : World} {Lc Ld Ld' : Lo} {s t t' : Cs} (h : Pr w0 wr Lc Ld s t) (K : K0 w0 w' Ld' t') (U : Upd (Cb Ld t) wr w') (hE : ∀ k, Cb Ld' t' k → Cb Ld t k ∨ wr.heap.size ≤ k) : Pr w0 w' Lc Ld' s t' := (h.symm.c1 K U hE).symm
theorem Pr.upd {S : Nat → Prop} {w0 wr w' : World} {Lc Ld : Lo} {s t : Cs} (h : Pr w0 wr Lc Ld s t) (U : Upd S wr w') (h1 : ∀ k, Cb Lc s k → ¬ S k) (h2 : ∀ k, Cb Ld t k → ¬ S k) (h3 : ∀ k, S k → w0.heap.size ≤ k) : Pr w0 w' Lc Ld s t := ⟨h.c.upd U h1 h3, h.d.upd U h2 h3, h.dj⟩
/-- Put, and maybe Free, of one cache: as a shard sees it. -/
structure Pf (s s' : Cs) (k : ByteArray) (v : Value) (ch : Nat) (fr : Bool) : Prop where
  x : ∀ a, s'.x a = if a = s.ix k.data.toList then pf (s.x (s.ix k.data.toList)) s.r k v ch fr else s.x a
  r : s'.r = s.r
  st : s'.st = s.st
  n : s'.xs.length = s.xs.length
  P : s'.P.length = s.P.length + 1
theorem pf_put {s : Cs} (c : Ci s) {k : ByteArray} {v : Value} {ch : Nat} (hk : ¬ 1024 < k.size) (hst : s.st = false) : Pf s (putC s k v ch).2.2 k v ch false := by
  obtain ⟨_, _, q3, q4, q5, q6, q7⟩ := put_x c (v := v) (ch := ch) hk hst
  exact ⟨q3, q4, q5, q6, by rw [q7]; simp⟩
theorem pf_free {s : Cs} (c : Ci s) {k : ByteArray} {v : Value} {ch : Nat} (hk : ¬ 1024 < k.size) (hst : s.st = false) : (freeC (putC s k v ch).2.2 ((s.P.length : Int) + 1)).1 = 0 ∧ Pf s (freeC (putC s k v ch).2.2 ((s.P.length : Int) + 1)).2 k v ch true := by
  obtain ⟨_, _, q3, q4, q5, q6, q7⟩ := put_x c (v := v) (ch := ch) hk hst
  obtain ⟨r1, r2, r3, r4, r5⟩ := free_x (c.putc k v ch) q7
  refine ⟨r1, fun a => ?_, r3.trans q4, r4.trans q5, r5.trans q6, by rw [free_P, q7]; simp⟩
  rw [r2, q3, q4, if_pos rfl]
  split
  · rename_i e; unfold pf; simp
  · rename_i e; rw [q3, if_neg e]
/-- In another shard. -/
theorem Rl.other {s s' t : Cs} {i : Nat} (h : Rl s t i) {k : ByteArray} {v : Value} {ch : Nat} {fr : Bool} (p : Pf s s' k v ch fr) (hne : shd 3 k.data.toList ≠ i) : Rl s' t i := by
  have e : s'.x i = s.x i := by
    rw [p.x, if_neg]
    unfold Cs.ix; rw [h.n]; exact fun hh => hne hh.symm
  exact ⟨p.n.trans h.n, h.m, p.r.trans h.r, p.st.trans h.s1, h.t1, e.trans h.x, by rw [e]; exact h.v⟩
/-- In the same shard, both. -/
theorem Rl.both {s s' t t' : Cs} {i : Nat} (h : Rl s t i) (c : Ci s) {k : ByteArray} {z : Int} {ch : Nat} {fr : Bool} (p : Pf s s' k (.int .u64 z) ch fr) (q : Pf t t' k (.int .u64 z) ch fr) (he : shd 3 k.data.toList = i) : Rl s' t' i := by
  have e1 : s.ix k.data.toList = i := by unfold Cs.ix; rw [h.n]; exact he
  have e2 : t.ix k.data.toList = i := by unfold Cs.ix; rw [h.m]; exact he
  have f1 : s'.x i = pf (s.x i) s.r k (.int .u64 z) ch fr := by rw [p.x, e1, if_pos rfl]
  have f2 : t'.x i = pf (t.x i) t.r k (.int .u64 z) ch fr := by rw [q.x, e2, if_pos rfl]
  have hi := c.ix k.data.toList
  rw [e1] at hi
  exact ⟨p.n.trans h.n, q.n.trans h.m, p.r.trans (h.r.trans q.r.symm), p.st.trans h.s1, q.st.trans h.t1, by rw [f1, f2, h.x, h.r], by rw [f1]; exact pf_vi (c.iv _ _ hi) h.v _ _ _ _ _⟩
end Go.Proofs.Ytlkfabejecgfgaa
