/-
  Mathematics: what is written of an entry is read again.
  Mathematics of places.
-/
import Derived.Test.YtbnllobofndckaaMv
import Derived.Test.YtbnllobofndckaaRn
import Derived.Test.YtbnllobofndckaaBd
import Derived.Test.YtbnllobofndckaaPq
namespace Go.Proofs.Ytbnllobofndckaa
open Go.RowKit
set_option linter.unusedVariables false
set_option linter.unusedSimpArgs false
theorem com_take : ∀ a b : List Int, a.take (com a b) = b.take (com a b)
  | [], _ => by simp [com]
  | _ :: _, [] => by simp [com]
  | x :: a, y :: b => by
    unfold com
    split
    · next h => rw [List.take_succ_cons, List.take_succ_cons, com_take a b, h]
    · simp
theorem check_parts {u : ByteArray} {s k : Int} (h : checkV u s k = 0) : 0 ≤ k ∧ k ≤ 2 ∧ s ≤ 72057594037927935 ∧ u.size ≤ 1024 := by
  unfold checkV at h
  split at h
  · cases h
  · split at h
    · cases h
    · omega
theorem bstr_sb (u : ByteArray) : bstr (sb u) = u := by
  have h := foldl_push_byteCells u.data.toList ByteArray.empty
  have e0 : ByteArray.empty.data = #[] := rfl
  rw [e0] at h
  simp at h
  exact h
theorem sb_bd (u : ByteArray) : ∀ n ∈ sb u, 0 ≤ n ∧ n < 256 := by
  intro n hn
  obtain ⟨c, _, rfl⟩ := List.mem_map.1 hn
  have := c.toNat_lt
  omega
/-- A key's bytes are read as the key. -/
theorem kb_dec {e : Ent} (h : checkV e.u e.s e.k = 0) (hs : 0 ≤ e.s) : e.kb.length = e.u.size + 8 ∧ decU e.u.size e.kb = e.u ∧ decN e.u.size e.kb / 256 = e.s ∧ decN e.u.size e.kb % 256 = e.k := by
  obtain ⟨k0, k1, s1, hu⟩ := check_parts h
  have e2 : decN e.u.size e.kb = e.s * 256 + e.k := by
    unfold decN Ent.kb; rw [List.drop_left' (sb_len e.u)]
    exact leV_byts 8 _ (by omega) (by show e.s * 256 + e.k < 256 ^ 8; omega)
  refine ⟨?_, ?_, ?_, ?_⟩
  · unfold Ent.kb; rw [List.length_append, sb_len, byts_len]
  · unfold decU Ent.kb; rw [List.take_left' (sb_len e.u), bstr_sb]
  · rw [e2]; omega
  · rw [e2]; omega
theorem kA_at {l : List Ent} {i : Nat} {e : Ent} (h : l[i]? = some e) : kA l i = e.kb := by unfold kA; rw [h]
theorem vA_at {l : List Ent} {i : Nat} {e : Ent} (h : l[i]? = some e) : vA l i = e.v := by unfold vA; rw [h]
theorem kA_bd (l : List Ent) (i : Nat) : ∀ n ∈ kA l i, 0 ≤ n ∧ n < 256 := by
  unfold kA
  split
  · exact kb_bd _
  · simp
theorem kP_bd (l : List Ent) (i : Nat) : ∀ n ∈ kP l i, 0 ≤ n ∧ n < 256 := by
  cases i with
  | zero => simp [kP]
  | succ i => exact kA_bd l i
theorem cA_pre (r : Nat) (l : List Ent) (i : Nat) : cA r l i ≤ (kP l i).length ∧ (kP l i).take (cA r l i) = (kA l i).take (cA r l i) := by
  unfold cA
  split
  · simp
  · exact ⟨(com_le _ _).1, com_take _ _⟩
/-- What next finds in the bytes of an entry. -/
structure Nx (l ky : List Int) (cm ln vn n1 n2 n3 : Nat) (K v t : List Int) : Prop where
  rd : ∀ i, i < 3 → rvG (l.drop (o3 n1 n2 n3 i)) 0 0 = (((ptN cm ln vn i : Nat) : Int), ((ptN n1 n2 n3 i : Nat) : Int), 0)
  le : ∀ i, i < 3 → o3 n1 n2 n3 i + ptN n1 n2 n3 i ≤ l.length
  cm_le : cm ≤ ky.length
  len : o3 n1 n2 n3 3 + ln + vn ≤ l.length
  key : K = ky.take cm ++ (l.drop (o3 n1 n2 n3 3)).take ln
  val : (l.drop (o3 n1 n2 n3 3 + ln)).take vn = v
  rest : l.drop (o3 n1 n2 n3 3 + ln + vn) = t
theorem drop_one (a b : List Int) : (a ++ b).drop a.length = b := List.drop_left
theorem nx_wA {r : Nat} {l : List Ent} {i : Nat} {e : Ent} (he : l[i]? = some e) (hf : Fit l) (t : List Int) :
    Nx (wA r l i ++ t) (kP l i) (cA r l i) (e.kb.length - cA r l i) e.v.size (vz (cA r l i)) (vz (e.kb.length - cA r l i)) (vz e.v.size) e.kb (sb e.v) t := by
  have hm := hf e (List.mem_of_getElem? he)
  have hkl := kb_len hm.1
  have hc1 := cA_le r l i
  rw [kA_at he] at hc1
  obtain ⟨hp1, hp2⟩ := cA_pre r l i
  rw [kA_at he] at hp2
  obtain ⟨cm, hcm⟩ : ∃ cm, cA r l i = cm := ⟨_, rfl⟩
  have hw : wA r l i ++ t = vL 10 cm ++ (vL 10 ((e.kb.length - cm : Nat) : Int) ++ (vL 10 e.v.size ++ (e.kb.drop cm ++ (sb e.v ++ t)))) := by
    unfold wA pcB
    rw [kA_at he, vA_at he, hcm, List.length_drop]
    simp only [List.append_assoc]
  rw [hw, hcm]
  rw [hcm] at hc1 hp1 hp2
  obtain ⟨n1, hn1⟩ : ∃ n1, vz cm = n1 := ⟨_, rfl⟩
  obtain ⟨n2, hn2⟩ : ∃ n2, vz (e.kb.length - cm) = n2 := ⟨_, rfl⟩
  obtain ⟨n3, hn3⟩ : ∃ n3, vz e.v.size = n3 := ⟨_, rfl⟩
  have z1 : n1 = (vL 10 cm).length := hn1.symm
  have z2 : n2 = (vL 10 ((e.kb.length - cm : Nat) : Int)).length := hn2.symm
  have z3 : n3 = (vL 10 e.v.size).length := hn3.symm
  rw [hn1, hn2, hn3]
  have lk : (e.kb.drop cm).length = e.kb.length - cm := List.length_drop
  have lv : (sb e.v).length = e.v.size := sb_len _
  have d1 : ∀ x : List Int, (vL 10 cm ++ x).drop (n1) = x := fun x => by rw [z1]; exact drop_one _ _
  have d2 : ∀ x : List Int, (vL 10 ((e.kb.length - cm : Nat) : Int) ++ x).drop (n2) = x := fun x => by rw [z2]; exact drop_one _ _
  have d3 : ∀ x : List Int, (vL 10 e.v.size ++ x).drop (n3) = x := fun x => by rw [z3]; exact drop_one _ _
  have d4 : ∀ x : List Int, (e.kb.drop cm ++ x).drop (e.kb.length - cm) = x := fun x => by rw [← lk]; exact drop_one _ _
  have d5 : ∀ x : List Int, (sb e.v ++ x).drop e.v.size = x := fun x => by rw [← lv]; exact drop_one _ _
  have D2 : ∀ x y : List Int, (vL 10 cm ++ (vL 10 ((e.kb.length - cm : Nat) : Int) ++ x)).drop (n1 + n2) = x := fun x _ => by rw [← List.drop_drop, d1, d2]
  have D3 : ∀ x : List Int, (vL 10 cm ++ (vL 10 ((e.kb.length - cm : Nat) : Int) ++ (vL 10 e.v.size ++ x))).drop (n1 + n2 + n3) = x := fun x => by rw [← List.drop_drop, D2 _ [], d3]
  have len0 : (vL 10 cm ++ (vL 10 ((e.kb.length - cm : Nat) : Int) ++ (vL 10 e.v.size ++ (e.kb.drop cm ++ (sb e.v ++ t))))).length = n1 + n2 + n3 + (e.kb.length - cm) + e.v.size + t.length := by
    simp only [List.length_append, lk, lv, ← z1, ← z2, ← z3]; omega
  refine ⟨fun j hj => ?_, fun j hj => ?_, hp1, ?_, ?_, ?_, ?_⟩
  · rcases j with _ | _ | _ | j
    · have := rvG_enc cm (vL 10 ((e.kb.length - cm : Nat) : Int) ++ (vL 10 e.v.size ++ (e.kb.drop cm ++ (sb e.v ++ t)))) (by omega) (by omega)
      rw [← z1] at this; exact this
    · show rvG (List.drop (n1) _) 0 0 = _
      rw [d1]
      have := rvG_enc ((e.kb.length - cm : Nat) : Int) (vL 10 e.v.size ++ (e.kb.drop cm ++ (sb e.v ++ t))) (by omega) (by omega)
      rw [← z2] at this; exact this
    · show rvG (List.drop (n1 + n2) _) 0 0 = _
      rw [D2 _ []]
      have := rvG_enc e.v.size (e.kb.drop cm ++ (sb e.v ++ t)) (by omega) (by have := hm.2.2; omega)
      rw [← z3] at this; exact this
    · omega
  · rw [len0]
    rcases j with _ | _ | _ | j
    · show 0 + n1 ≤ _; omega
    · show n1 + n2 ≤ _; omega
    · show n1 + n2 + n3 ≤ _; omega
    · omega
  · rw [len0]; show n1 + n2 + n3 + (e.kb.length - cm) + e.v.size ≤ _; omega
  · show _ = _ ++ (List.drop (n1 + n2 + n3) _).take _
    rw [D3, List.take_left' lk, hp2, List.take_append_drop]
  · show (List.drop (n1 + n2 + n3 + (e.kb.length - cm)) _).take _ = _
    rw [← List.drop_drop, D3, d4, List.take_left' lv]
  · show List.drop (n1 + n2 + n3 + (e.kb.length - cm) + e.v.size) _ = _
    rw [← List.drop_drop, ← List.drop_drop, D3, d4, d5]
/-- What is left to be read from an entry on. -/
def rs (r : Nat) (l : List Ent) (i : Nat) : List Int := (bt r l l.length).drop (bt r l i).length
theorem bt_pre (r : Nat) (l : List Ent) : ∀ (n i : Nat), i ≤ n → ∃ t, bt r l n = bt r l i ++ t
  | 0, i, h => ⟨[], by rw [show i = 0 by omega]; simp⟩
  | n + 1, i, h => by
    by_cases e : i = n + 1
    · exact ⟨[], by rw [e]; simp⟩
    · obtain ⟨t, ht⟩ := bt_pre r l n i (by omega)
      refine ⟨t ++ wA r l n, ?_⟩
      show bt r l n ++ wA r l n = _
      rw [ht, List.append_assoc]
theorem rs_step {r : Nat} {l : List Ent} {i : Nat} (h : i < l.length) : rs r l i = wA r l i ++ rs r l (i + 1) := by
  obtain ⟨t, ht⟩ := bt_pre r l l.length (i + 1) h
  unfold rs
  rw [ht]
  have e : bt r l (i + 1) = bt r l i ++ wA r l i := rfl
  rw [drop_one, e, List.append_assoc, drop_one]
theorem rs_zero (r : Nat) (l : List Ent) : rs r l 0 = bt r l l.length := rfl
theorem rs_end (r : Nat) (l : List Ent) : rs r l l.length = [] := by unfold rs; simp
theorem wA_ne (r : Nat) (l : List Ent) (i : Nat) : 0 < (wA r l i).length := by
  unfold wA
  rw [pcB_len]
  unfold pcZ
  have : 0 < vz (cA r l i) := by
    unfold vz vL
    split <;> simp
  omega
theorem rs_len {r : Nat} {l : List Ent} {i : Nat} (h : i ≤ l.length) : (rs r l i).length + (bt r l i).length = (bt r l l.length).length := by
  obtain ⟨t, ht⟩ := bt_pre r l l.length i h
  unfold rs
  rw [ht, drop_one, List.length_append]; omega
theorem rs_pos {r : Nat} {l : List Ent} {i : Nat} (h : i < l.length) : 0 < (rs r l i).length := by
  rw [rs_step h, List.length_append]
  have := wA_ne r l i
  omega
/-- An entry of what was written is read. -/
theorem next_wA {os bs : Nat} {w : World} {rb : Nat} {r : Nat} {l : List Ent} {i : Nat} {e : Ent} (he : l[i]? = some e) (hf : Fit l) (hl : (bt r l l.length).length ≤ 1099511627776) {ra : Option Addr} {rc : Nat} {kv : Value} {u : ByteArray} {s k : Int} {vv : Value} (h : Rst os bs w rb (rs r l i) (kP l i) ra rc kv u s k vv) :
    Calls Try.prog 54 #[ptr rb] w fun x w' => x = .returned (.int .i64 (cA r l i)) ∧ ∃ kv' rx cx ry cy, Rst os bs w' rb (rs r l (i + 1)) (kP l (i + 1)) ry cy kv' e.u e.s e.k (.slice rx e.v.size cx) ∧ Arg w' rx e.v.size cx (sb e.v) ∧ Upd (fun j => j = rb ∨ kv.ownBlock = some j) w w' := by
  have hi : i < l.length := (List.getElem?_eq_some_iff.1 he).1
  have hm := hf e (List.mem_of_getElem? he)
  have hrl := rs_len (r := r) (l := l) (i := i) (by omega)
  have hX := nx_wA (r := r) he hf (rs r l (i + 1))
  rw [← rs_step hi] at hX
  obtain ⟨d1, d2, d3, d4⟩ := kb_dec hm.1 hm.2.1
  have hkp : (kP l i).length ≤ 1099511627776 := by
    cases i with
    | zero => simp [kP]
    | succ j =>
      show (kA l j).length ≤ _
      unfold kA
      split
      · next x hx => have := (kb_len (hf x (List.mem_of_getElem? hx)).1).1; omega
      · simp
  have := next_ok h (cm := cA r l i) (ln := e.kb.length - cA r l i) (vn := e.v.size) hX.rd hX.le hX.cm_le hkp (by omega) hX.len hm.2.2 (kP_bd l i) hX.key d1 (by rw [d2, d3, d4]; exact hm.1)
  rw [d2, d3, d4, hX.val, hX.rest] at this
  have ek : e.kb = kP l (i + 1) := (kA_at he).symm
  rw [ek] at this
  exact this
end Go.Proofs.Ytbnllobofndckaa
namespace Go.Proofs.Ytbnllobofndckaa
open Go.RowKit
set_option linter.unusedVariables false
set_option linter.unusedSimpArgs false
theorem wn_succ (r n : Nat) : wn r (n + 1) = wn r n + (if n % r = 0 then 1 else 0) := rfl
theorem wn_mono (r : Nat) {i n : Nat} (h : i ≤ n) : wn r i ≤ wn r n := by
  induction n with
  | zero => rw [show i = 0 by omega]; exact Nat.le_refl _
  | succ n ih =>
    by_cases e : i = n + 1
    · rw [e]; exact Nat.le_refl _
    · have h1 := ih (by omega)
      rw [wn_succ]
      omega
theorem bt_lt (r : Nat) (l : List Ent) {i n : Nat} (h : i < n) : (bt r l i).length < (bt r l n).length := by
  obtain ⟨t, ht⟩ := bt_pre r l n (i + 1) h
  rw [ht, List.length_append]
  have e : bt r l (i + 1) = bt r l i ++ wA r l i := rfl
  rw [e, List.length_append]
  have := wA_ne r l i
  omega
/-- At a whole one stands its place. -/
theorem pI_here (r : Nat) (l : List Ent) : ∀ (n i : Nat), i < n → i % r = 0 → (pI r l n)[wn r i]? = some (bt r l i).length
  | 0, i, h, _ => by omega
  | n + 1, i, h, hr => by
    unfold pI
    by_cases e : i = n
    · subst e
      rw [List.getElem?_append_right (by rw [pI_len]; exact Nat.le_refl _), pI_len, if_pos hr, Nat.sub_self]; rfl
    · have ih := pI_here r l n i (by omega) hr
      rw [List.getElem?_append_left (List.getElem?_eq_some_iff.1 ih).1]; exact ih
/-- Elsewhere the next place is further on. -/
theorem pI_next (r : Nat) (l : List Ent) : ∀ (n i x : Nat), i ≤ n → i % r ≠ 0 → (pI r l n)[wn r i]? = some x → (bt r l i).length < x
  | 0, i, x, h, hr, hx => by simp [pI] at hx
  | n + 1, i, x, h, hr, hx => by
    unfold pI at hx
    rcases Nat.lt_or_ge (wn r i) (wn r n) with hlt | hge
    · rw [List.getElem?_append_left (by rw [pI_len]; exact hlt)] at hx
      by_cases e : i = n + 1
      · subst e
        have := wn_mono r (show n ≤ n + 1 by omega)
        omega
      · exact pI_next r l n i x (by omega) hr hx
    · rw [List.getElem?_append_right (by rw [pI_len]; exact hge), pI_len] at hx
      by_cases hn : n % r = 0
      · rw [if_pos hn] at hx
        have hi : i < n ∨ i = n + 1 := by
          rcases Nat.lt_or_ge i n with h1 | h1
          · exact .inl h1
          · by_cases e : i = n
            · subst e; exact absurd hn hr
            · right; omega
        rcases hi with hi | hi
        · cases hk : wn r i - wn r n with
          | zero =>
            rw [hk] at hx
            simp at hx
            subst hx
            exact bt_lt r l hi
          | succ m => rw [hk] at hx; simp at hx
        · subst hi
          have : wn r (n + 1) = wn r n + 1 := by
            show wn r n + (if n % r = 0 then 1 else 0) = _
            rw [if_pos hn]
          rw [this] at hx
          simp at hx
      · rw [if_neg hn] at hx
        simp at hx
/-- The places of a block. -/
def plc (r : Nat) (l : List Ent) : List Nat := if l.length = 0 then [0] else pI r l l.length
theorem plc_head (r : Nat) (l : List Ent) : (plc r l)[0]? = some 0 := by
  unfold plc
  split
  · rfl
  · have := pI_here r l l.length 0 (by omega) (Nat.zero_mod r)
    exact this
theorem plc_len (r : Nat) (hr : 1 ≤ r) (l : List Ent) : (plc r l).length = max ((l.length + r - 1) / r) 1 := by
  unfold plc
  split
  · next h => rw [h, Nat.zero_add, Nat.div_eq_of_lt (by omega)]; rfl
  · next h =>
    rw [pI_len, ← wn_div r hr, Nat.max_eq_left (wn_pos r _ (by omega))]
theorem wr8_plc (r : Nat) (l : List Ent) : wr8 r l = bt r l l.length ++ pbs (plc r l) ++ byts 4 ((plc r l).length : Nat) := by
  unfold wr8 plc
  by_cases h : l.length = 0
  · rw [if_pos h, if_pos h, if_pos h]; simp [pbs]
  · rw [if_neg h, if_neg h, if_neg h, pI_len]
    rw [← pI_pl r l l.length]
theorem plc_bd {r : Nat} {l : List Ent} (hb : (bt r l l.length).length ≤ 4194304) : ∀ x ∈ plc r l, x ≤ 4194304 := by
  intro x hx
  unfold plc at hx
  split at hx
  · simp at hx; omega
  · have key : ∀ n, n ≤ l.length → ∀ x ∈ pI r l n, x ≤ 4194304 := by
      intro n
      induction n with
      | zero => intro _ x hx; simp [pI] at hx
      | succ n ih =>
        intro hn x hx
        unfold pI at hx
        rcases List.mem_append.1 hx with hx | hx
        · exact ih (by omega) x hx
        · split at hx
          · simp at hx
            subst hx
            have := bt_lt r l (show n < l.length by omega)
            omega
          · simp at hx
    exact key _ (Nat.le_refl _) x hx
/-- What is left of the places at an entry. -/
theorem plc_step {r : Nat} (hr : 1 ≤ r) {l : List Ent} {i : Nat} (hi : i < l.length) :
    (i % r = 0 ∧ ∃ t, (plc r l).drop (wn r i) = (bt r l i).length :: t ∧ (plc r l).drop (wn r (i + 1)) = t) ∨ (i % r ≠ 0 ∧ (plc r l).drop (wn r (i + 1)) = (plc r l).drop (wn r i) ∧ ∀ x t, (plc r l).drop (wn r i) = x :: t → (bt r l i).length < x) := by
  have hp : plc r l = pI r l l.length := by unfold plc; rw [if_neg (by omega)]
  rw [hp]
  by_cases h : i % r = 0
  · left
    refine ⟨h, ?_⟩
    have h1 := pI_here r l l.length i hi h
    obtain ⟨hlt, he⟩ := List.getElem?_eq_some_iff.1 h1
    refine ⟨(pI r l l.length).drop (wn r i + 1), by rw [List.drop_eq_getElem_cons hlt, he], ?_⟩
    show List.drop (wn r i + (if i % r = 0 then 1 else 0)) _ = _
    rw [if_pos h]
  · right
    refine ⟨h, ?_, fun x t hx => ?_⟩
    · show List.drop (wn r i + (if i % r = 0 then 1 else 0)) _ = _
      rw [if_neg h]; rfl
    · refine pI_next r l l.length i x (by omega) h ?_
      have h2 : ((pI r l l.length).drop (wn r i))[0]? = some x := by rw [hx]; rfl
      rw [List.getElem?_drop] at h2
      simpa using h2
theorem plc_end {r : Nat} {l : List Ent} (h : l.length ≠ 0) : (plc r l).drop (wn r l.length) = [] := by
  unfold plc
  rw [if_neg h, List.drop_eq_nil_of_le (by rw [pI_len]; exact Nat.le_refl _)]
end Go.Proofs.Ytbnllobofndckaa
