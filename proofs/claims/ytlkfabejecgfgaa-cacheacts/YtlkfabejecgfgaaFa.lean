import Derived.Test.YtlkfabejecgfgaaEe
import Derived.Test.YtlkfabejecgfgaaPa
namespace Go.Proofs.Ytlkfabejecgfgaa
open Go.RowKit Go.Maps
set_option linter.unusedVariables false
set_option linter.unusedSimpArgs false
/-- A key's number. -/
def hstep (H : Int) (b : UInt8) : Int := bits .xor .u32 H ((b.toNat : Int) % 4294967296) * 16777619 % 4294967296
def hash (l : List UInt8) : Int := l.foldl hstep 2166136261
theorem hash_bd (l : List UInt8) : 0 ≤ hash l ∧ hash l < 4294967296 := by
  unfold hash
  generalize hs : (2166136261 : Int) = s
  have h0 : 0 ≤ s ∧ s < 4294967296 := by omega
  clear hs
  induction l generalizing s with
  | nil => exact h0
  | cons a r ih =>
    refine ih _ ?_
    unfold hstep
    omega
/-- A key's shard, of n. -/
def shd (n : Nat) (l : List UInt8) : Nat := (hash l % n).toNat
theorem shd_lt {n : Nat} (hn : 1 ≤ n) (l : List UInt8) : shd n l < n := by
  unfold shd
  have h1 := Int.emod_lt_of_pos (hash l) (b := n) (by omega)
  have h2 := Int.emod_nonneg (hash l) (b := n) (by omega)
  omega
theorem hash_snoc (l : List UInt8) (b : UInt8) : hash (l ++ [b]) = hstep (hash l) b := by unfold hash; simp
theorem bytes_get (k : ByteArray) {m : Nat} (h : m < k.size) : k.data.toList[m]? = some k[m] := by
  have hs : k.data.size = k.size := rfl
  rw [List.getElem?_eq_getElem (by simp; omega)]
  simp
  rfl
set_option maxRecDepth 100000 in
set_option maxHeartbeats 1000000 in
theorem shard_raw {w : World} {cb rb n : Nat} {cs : List Value} (h : Blk w cb 58 cs) (h0 : cs[0]? = some (.slice (some ⟨rb, 0, none⟩) n n)) (hn : 1 ≤ n) (hn' : n ≤ 64) (k : ByteArray) (hk : k.size ≤ maxLen) :
    Calls Try.prog 11 #[.pointer (some ⟨cb, 0, none⟩), .string k] w fun e w' => e = .returned (.int .i64 (shd n k.data.toList)) ∧ w' = w := by
  have c0 := h.cell1 0 _ h0
  have hk' : k.size ≤ 9223372036854775807 := hk
  go_enter Try.func11, Try.ntmps11
  go_wp2_with fail
  go_loopw [5, 9] (fun hh i wr => ∃ (m : Nat), i = .int .i64 m ∧ hh = .int .u32 (hash (k.data.toList.take m)) ∧ m ≤ k.size ∧ wr = w) (fun hh i wr => match i with | .int _ z => k.size - z.toNat | _ => 0)
  case atStart => exact ⟨0, rfl, rfl, by omega, rfl⟩
  case round =>
    obtain ⟨m, rfl, rfl, hm, hwr⟩ := hrel
    subst hwr
    by_cases hlt : m < k.size
    · have hlt' : (m : Int) < k.size := by omega
      have e1 : Hid (hash (k.data.toList.take (m + 1)) = hstep (hash (k.data.toList.take m)) k[m]) := by
        show hash (k.data.toList.take (m + 1)) = _
        rw [List.take_add_one, bytes_get k hlt]
        exact hash_snoc _ _
      obtain ⟨H, hH⟩ : ∃ H, hash (k.data.toList.take m) = H := ⟨_, rfl⟩
      rw [hH] at e1 ⊢
      clear hH
      go_wp2_with fail
      refine ⟨⟨m + 1, rfl, ?_, hlt, trivial⟩, ?_⟩
      · rw [e1.out]; rfl
      · simp only []; omega
    · have hlt' : (m : Int) = k.size := by omega
      have e1 : k.data.toList.take m = k.data.toList := List.take_of_length_le (by
        have hs : k.data.size = k.size := rfl
        simp; omega)
      rw [e1]
      obtain ⟨b1, b2⟩ := hash_bd k.data.toList
      have e2 : Hid (((shd n k.data.toList : Nat) : Int) = wrap64 (hash k.data.toList % n)) := by
        show ((shd n k.data.toList : Nat) : Int) = wrap64 (hash k.data.toList % n)
        have h1 := Int.emod_lt_of_pos (hash k.data.toList) (b := n) (by omega)
        have h2 := Int.emod_nonneg (hash k.data.toList) (b := n) (by omega)
        unfold shd wrap64
        generalize hash k.data.toList % n = z at *
        omega
      obtain ⟨H, hH⟩ : ∃ H, hash k.data.toList = H := ⟨_, rfl⟩
      rw [hH] at e2 b1 b2 ⊢
      clear hH e1
      go_wp2_with fail
      go_ret
      refine ⟨?_, rfl⟩
      rw [e2.out]
      rfl
/-! A cache. -/
/-- A cache: the room of each shard, whether it is strict, its shards, its pins (shard and place of the entry). -/
structure Cs where
  r : Nat
  st : Bool
  xs : List Xs
  P : List (Option (Nat × Nat))
/-- A pin's entry. -/
def Cs.pin (s : Cs) (k : Int) : Option (Nat × Nat) := if 1 ≤ k then s.P.getD (k - 1).toNat none else none
/-- Where a cache lies. -/
structure Lo where
  cb : Nat
  rb : Nat
  pb : Nat
  mbs : Nat → Nat
  ads : Nat → Nat → Nat
def caC (L : Lo) (s : Cs) : List Value := [.slice (some ⟨L.rb, 0, none⟩) s.xs.length s.xs.length, .int .u64 s.r, .bool s.st, .map (some L.pb), .int .i64 s.P.length]
/-- What holds of a cache, whatever was done. -/
structure Ci (s : Cs) : Prop where
  n1 : 1 ≤ s.xs.length
  n2 : s.xs.length ≤ 64
  rb : s.r < 18446744073709551616
  iv : ∀ (i : Nat) (x : Xs), s.xs[i]? = some x → Iv x
  pc : ∀ (i : Nat) (x : Xs) (j : Nat) (e : En), s.xs[i]? = some x → x.ent[j]? = some e → e.pins = s.P.count (some (i, j))
  pr : ∀ i j, some (i, j) ∈ s.P → ∃ x, s.xs[i]? = some x ∧ j < x.ent.length
  ks : ∀ (i : Nat) (x : Xs) (j : Nat) (e : En), s.xs[i]? = some x → x.ent[j]? = some e → shd s.xs.length e.key.data.toList = i
  el : ∀ (i : Nat) (x : Xs), s.xs[i]? = some x → x.ent.length ≤ s.P.length
/-- A cache in memory. -/
structure Ca (w : World) (L : Lo) (s : Cs) : Prop where
  blk : Blk w L.cb 58 (caC L s)
  row : ∃ rc, rc.length = s.xs.length * 7 ∧ ∀ (i : Nat) (x : Xs), s.xs[i]? = some x → Sm w L.rb (i * 7) (L.mbs i) rc (L.ads i) x
  pin : ∃ D, IM w L.pb (fun k => (s.pin k).map (fun ij => L.ads ij.1 ij.2)) D ∧ Maps.size D ≤ s.P.length
  mm : ∀ i i', i < s.xs.length → i' < s.xs.length → L.mbs i = L.mbs i' → i = i'
  mp : ∀ i, i < s.xs.length → L.mbs i ≠ L.pb
  aa : ∀ (i i' : Nat) (x x' : Xs) (j j' : Nat), s.xs[i]? = some x → s.xs[i']? = some x' → j < x.ent.length → j' < x'.ent.length → i ≠ i' → L.ads i j ≠ L.ads i' j'
/-- A cache's blocks. -/
def Cb (L : Lo) (s : Cs) : Nat → Prop := fun k => k = L.cb ∨ k = L.pb ∨ ∃ (i : Nat) (x : Xs), s.xs[i]? = some x ∧ Sb L.rb (L.mbs i) (L.ads i) x.ent.length k
theorem xget {xs : List Xs} {i i' : Nat} {x x' : Xs} (hi : xs[i]? = some x) : (xs.set i x')[i']? = if i' = i then some x' else xs[i']? := by
  by_cases c : i' = i
  · subst c; rw [if_pos rfl, List.getElem?_set_self (List.getElem?_eq_some_iff.1 hi).1]
  · rw [if_neg c, List.getElem?_set_ne (Ne.symm c)]
theorem Ca.ne1 {w : World} {L : Lo} {s : Cs} (h : Ca w L s) {i : Nat} {x : Xs} (hi : s.xs[i]? = some x) {k : Nat} (hk : Sb L.rb (L.mbs i) (L.ads i) x.ent.length k) : k ≠ L.cb ∧ k ≠ L.pb := by
  obtain ⟨rc, _, hS⟩ := h.row
  have S := hS i x hi
  obtain ⟨D, hD, _⟩ := S.map
  obtain ⟨D', hD', _⟩ := h.pin
  rcases hk with e | e | ⟨j, hj, e⟩
  · subst e
    exact ⟨hD.ne h.blk, h.mp i (List.getElem?_eq_some_iff.1 hi).1⟩
  · subst e
    exact ⟨S.row.ne h.blk (by decide), fun e => hD'.ne S.row e.symm⟩
  · subst e
    have := S.ent j _ (List.getElem?_eq_getElem hj)
    exact ⟨this.ne h.blk (by decide), fun e => hD'.ne this e.symm⟩
/-- One shard was turned. -/
theorem Ca.shard {w w' : World} {L : Lo} {s : Cs} (h : Ca w L s) {i : Nat} {x x' : Xs} {rc rc' : List Value} (hi : s.xs[i]? = some x) (hrc : ∀ (i : Nat) (x : Xs), s.xs[i]? = some x → Sm w L.rb (i * 7) (L.mbs i) rc (L.ads i) x) (hrl : rc.length = s.xs.length * 7)
    (S' : Sm w' L.rb (i * 7) (L.mbs i) rc' (L.ads i) x') (hel : x'.ent.length = x.ent.length) (hK : Kp (i * 7) rc rc') (hU : Upd (Sb L.rb (L.mbs i) (L.ads i) x.ent.length) w w') : Ca w' L { s with xs := s.xs.set i x' } := by
  have hil := (List.getElem?_eq_some_iff.1 hi).1
  refine ⟨?_, ⟨rc', by rw [hK.1, hrl]; simp, ?_⟩, ?_, by simpa using h.mm, by simpa using h.mp, ?_⟩
  · have := h.blk.upd hU (fun hk => (h.ne1 hi hk).1 rfl)
    unfold caC at this ⊢
    simpa using this
  · intro i' y hy
    simp only [xget hi] at hy
    by_cases c : i' = i
    · subst c
      rw [if_pos rfl] at hy
      cases hy
      exact S'
    · rw [if_neg c] at hy
      have S := hrc i' y hy
      have hil' := (List.getElem?_eq_some_iff.1 hy).1
      obtain ⟨D, hD, hs⟩ := S.map
      refine ⟨S'.row, ?_, ⟨D, hD.upd hU ?_, hs⟩, S.ent.upd hU ?_, S.inj, S.nd, S.qr, S.fr, S.ub, S.pb, S.wk⟩
      · intro j v hv
        have hj : j < 7 := by
          have := (List.getElem?_eq_some_iff.1 hv).1
          simpa [shC] using this
        rw [hK.2 _ (by omega)]
        exact S.cel j v hv
      · rintro (e | e | ⟨j, hj, e⟩)
        · exact c (h.mm _ _ hil' hil e)
        · exact hD.ne S.row e
        · exact hD.ne ((hrc i x hi).ent j _ (List.getElem?_eq_getElem hj)) e
      · rintro j hj (e | e | ⟨j', hj', e⟩)
        · obtain ⟨D', hD', _⟩ := (hrc i x hi).map
          exact hD'.ne (S.ent j _ (List.getElem?_eq_getElem hj)) e.symm
        · exact (S.ent.rb S.row hj) e.symm
        · exact h.aa i' i y x j j' hy hi hj hj' c e
  · obtain ⟨D, hD, hs⟩ := h.pin
    exact ⟨D, hD.upd hU (fun hk => (h.ne1 hi hk).2 rfl), hs⟩
  · intro a b y z j j' ha hb hj hj' hab
    simp only [xget hi] at ha hb
    have ha' : ∃ y', s.xs[a]? = some y' ∧ y'.ent.length = y.ent.length := by
      split at ha
      · rename_i e; cases ha; subst e; exact ⟨x, hi, hel.symm⟩
      · exact ⟨y, ha, rfl⟩
    have hb' : ∃ y', s.xs[b]? = some y' ∧ y'.ent.length = z.ent.length := by
      split at hb
      · rename_i e; cases hb; subst e; exact ⟨x, hi, hel.symm⟩
      · exact ⟨z, hb, rfl⟩
    obtain ⟨y', h1, h2⟩ := ha'
    obtain ⟨z', h3, h4⟩ := hb'
    exact h.aa a b y' z' j j' h1 h3 (by omega) (by omega) hab
theorem Cb.sub {L : Lo} {s : Cs} {i : Nat} {x : Xs} (hi : s.xs[i]? = some x) {k : Nat} (hk : Sb L.rb (L.mbs i) (L.ads i) x.ent.length k) : Cb L s k := .inr (.inr ⟨i, x, hi, hk⟩)
end Go.Proofs.Ytlkfabejecgfgaa
