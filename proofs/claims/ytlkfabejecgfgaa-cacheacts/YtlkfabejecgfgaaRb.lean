/-
  The reference's cache in memory; plus, used, Shard, pin.
-/
import Derived.Test.YtlkfabejecgfgaaRa
import Derived.Test.YtlkfabejecgfgaaPc
namespace Go.Proofs.Ytlkfabejecgfgaa
open Go.RowKit Go.Maps
set_option linter.unusedVariables false
set_option linter.unusedSimpArgs false
/-- A shard as the reference has it. -/
structure Vw where
  ent : List En
  inn : Nat → Bool
  ll : List Nat
  wl : List Nat
structure Lr where
  cb : Nat
  lb : Nat
  wb : Nat
  bd : Nat → Nat → Nat
def itC (e : En) (b : Bool) : List Value := [.string e.key, e.val, .int .u64 e.chg, .bool b, .int .i64 e.pins]
def rfC (R : Lr) (n room : Nat) (st : Bool) (pv : Value) : List Value := [.int .i64 n, .int .u64 room, .bool st, .slice (some ⟨R.lb, 0, none⟩) n n, .slice (some ⟨R.wb, 0, none⟩) n n, pv]
def bds (R : Lr) (i : Nat) (l : List Nat) : List (Option Nat) := l.map (fun j => some (R.bd i j))
def bdp (R : Lr) (P : List (Option (Nat × Nat))) : List (Option Nat) := P.map (fun o => o.map (fun ij => R.bd ij.1 ij.2))
/-- A row of rows. -/
structure Rr (w : World) (R : Lr) (b n : Nat) (pv : Value) (ls : Nat → List Nat) : Prop where
  ex : ∃ lc, Blk w b 68 lc ∧ lc.length = n ∧ ∀ i, i < n → ∃ u, lc[i]? = some u ∧ RowQ w 0 u (bds R i (ls i)) ∧ ∀ k, u.ownBlock = some k → pv.ownBlock ≠ some k
def v0 : Vw := ⟨[], fun _ => false, [], []⟩
def vat_ (vs : List Vw) (i : Nat) : Vw := vs.getD i v0
theorem vws_get {vs : List Vw} {i : Nat} {v : Vw} (h : vs[i]? = some v) : vat_ vs i = v := by unfold vat_; rw [List.getD_eq_getElem?_getD, h]; rfl
/-- The reference's cache in memory. -/
structure Rf (w : World) (R : Lr) (n room : Nat) (st : Bool) (vs : List Vw) (pv : Value) (P : List (Option (Nat × Nat))) : Prop where
  blk : Blk w R.cb 70 (rfC R n room st pv)
  len : vs.length = n
  lr : Rr w R R.lb n pv (fun i => (vat_ vs i).ll)
  wr : Rr w R R.wb n pv (fun i => (vat_ vs i).wl)
  lw : R.lb ≠ R.wb
  pr : RowQ w 0 pv (bdp R P)
  it : ∀ (i : Nat) (v : Vw) (j : Nat) (e : En), vs[i]? = some v → v.ent[j]? = some e → Blk w (R.bd i j) 84 (itC e (v.inn j))
  inj : ∀ (i : Nat) (v : Vw) (j : Nat) (i' : Nat) (v' : Vw) (j' : Nat), vs[i]? = some v → j < v.ent.length → vs[i']? = some v' → j' < v'.ent.length → R.bd i j = R.bd i' j' → i = i' ∧ j = j'
  llr : ∀ (i : Nat) (v : Vw), vs[i]? = some v → (∀ j ∈ v.ll, j < v.ent.length) ∧ (∀ j ∈ v.wl, j < v.ent.length)
/-- The blocks that the reference writes. -/
def Rb (R : Lr) (vs : List Vw) (pv : Value) : Nat → Prop := fun k => k = R.cb ∨ k = R.lb ∨ k = R.wb ∨ pv.ownBlock = some k ∨ ∃ (i : Nat) (v : Vw) (j : Nat), vs[i]? = some v ∧ j < v.ent.length ∧ k = R.bd i j
section
variable {w : World} {R : Lr} {n room : Nat} {st : Bool} {vs : List Vw} {pv : Value} {P : List (Option (Nat × Nat))}
/-- A row of rows is kept. -/
theorem Rr.upd {S : Nat → Prop} {w' : World} {b : Nat} {ls : Nat → List Nat} (h : Rr w R b n pv ls) (U : Upd S w w') (hb : ¬ S b) (hr : ∀ k u l, RowQ w 0 u l → u.ownBlock = some k → pv.ownBlock ≠ some k → ¬ S k) : Rr w' R b n pv ls := by
  obtain ⟨lc, hB, hl, hc⟩ := h.ex
  refine ⟨lc, hB.upd U hb, hl, fun i hi => ?_⟩
  obtain ⟨u, h1, h2, h3⟩ := hc i hi
  exact ⟨u, h1, row_upd h2 U (fun k hk => hr k u _ h2 hk (h3 k hk)), h3⟩
/-- New blocks alone. -/
theorem Rf.grow {w' : World} (h : Rf w R n room st vs pv P) (U : Upd Non w w') : Rf w' R n room st vs pv P :=
  ⟨h.blk.upd U (fun e => e), h.len, h.lr.upd U (fun e => e) (fun _ _ _ _ _ _ e => e), h.wr.upd U (fun e => e) (fun _ _ _ _ _ _ e => e), h.lw, row_upd h.pr U (fun _ _ e => e), fun i v j e hv hj => (h.it i v j e hv hj).upd U (fun e => e), h.inj, h.llr⟩
theorem Rf.drewN (h : Rf w R n room st vs pv P) (m : Nat) : Rf (w.drewN m) R n room st vs pv P := h.grow ⟨rfl, rfl, rfl, Nat.le_refl _, fun _ _ _ => rfl⟩
set_option maxRecDepth 100000 in
set_option maxHeartbeats 1000000 in
theorem rplus_any (w : World) (a b : Nat) (ha : a < 18446744073709551616) (hb : b < 18446744073709551616) : Calls Try.prog 57 #[.int .u64 a, .int .u64 b] w fun e w' => e = .returned (.int .u64 (plusT a b)) ∧ w' = w := by
  by_cases hc : a + b < 18446744073709551616
  · have e : ((plusT a b : Nat) : Int) = (a : Int) + b := by unfold plusT tolT; rw [if_neg (by omega)]; omega
    have hw : IntKind.u64.wrap ((a : Int) + b) = (a : Int) + b := by
      show ((a : Int) + b) % 18446744073709551616 = _
      omega
    have hlt : ¬ (a : Int) + b < a := by omega
    rw [e]; clear e
    go_enter Try.func57, Try.ntmps57
    go_wp2_with fail
    go_ret
    exact ⟨rfl, rfl⟩
  · have e : ((plusT a b : Nat) : Int) = 18446744073709551615 := by unfold plusT tolT; rw [if_pos (by omega)]; omega
    have hw : IntKind.u64.wrap ((a : Int) + b) = (a : Int) + b - 18446744073709551616 := by
      show ((a : Int) + b) % 18446744073709551616 = _
      omega
    have hlt : (a : Int) + b - 18446744073709551616 < a := by omega
    rw [e]; clear e
    obtain ⟨z, hz⟩ : ∃ z : Int, (a : Int) + b - 18446744073709551616 = z := ⟨_, rfl⟩
    rw [hz] at hw hlt
    clear hz
    go_enter Try.func57, Try.ntmps57
    go_wp2_with fail
    go_ret
    exact ⟨rfl, rfl⟩
/-- A sum of charges that stops. -/
def satS (ent : List En) (l : List Nat) : Nat := l.foldl (fun a j => plusT a (ent.getD j ⟨⟨#[]⟩, .bool false, 0, 0⟩).chg) 0
theorem satS_lt (ent : List En) (l : List Nat) : satS ent l < 18446744073709551616 := by
  unfold satS
  rcases List.eq_nil_or_concat l with rfl | ⟨r, x, rfl⟩
  · simp
  · simp only [List.concat_eq_append, List.foldl_append, List.foldl_cons, List.foldl_nil]; exact plusT_lt _ _
set_option maxRecDepth 100000 in
set_option maxHeartbeats 2000000 in
theorem used_any (h : Rf w R n room st vs pv P) {i : Nat} {v : Vw} (hv : vs[i]? = some v) (hc : ∀ (j : Nat) (e : En), v.ent[j]? = some e → e.chg < 18446744073709551616) (hn : n ≤ 64) (hll : v.ll.length ≤ 4000000000000) :
    Calls Try.prog 58 #[.pointer (some ⟨R.cb, 0, none⟩), .int .i64 i] w fun e w' => e = .returned (.int .u64 (satS v.ent v.ll)) ∧ w' = w := by
  obtain ⟨lc, hB, hl, hlc⟩ := h.lr.ex
  have hi : i < n := by rw [← h.len]; exact (List.getElem?_eq_some_iff.1 hv).1
  obtain ⟨u, hu, hR, _⟩ := hlc i hi
  rw [vws_get hv] at hR
  obtain ⟨a, c, hua⟩ := rowq_len hR
  have hbl : (bds R i v.ll).length = v.ll.length := by unfold bds; simp
  rw [hbl] at hua
  subst hua
  have c3 := h.blk.cell1 3 _ rfl
  have ci := hB.cell1 i _ hu
  have hi' : (i : Int) < n := by omega
  have hall : Hid (satS v.ent v.ll = satS v.ent (v.ll.take v.ll.length)) := by show satS v.ent v.ll = _; rw [List.take_length]
  obtain ⟨N, hN⟩ : ∃ N, v.ll.length = N := ⟨_, rfl⟩
  rw [hN] at ci hall hll
  go_enter Try.func58, Try.ntmps58
  go_wp2_with fail
  go_loopw [5, 6] (fun aa ii wr => ∃ m : Nat, ii = .int .i64 m ∧ aa = .int .u64 (satS v.ent (v.ll.take m)) ∧ m ≤ N ∧ wr = w) (fun aa ii wr => match ii with | .int _ z => N - z.toNat | _ => 0)
  case atStart => exact ⟨0, rfl, rfl, Nat.zero_le _, rfl⟩
  case round =>
    obtain ⟨m, rfl, rfl, hm, hwr⟩ := hrel
    subst hwr
    by_cases hlt : m < N
    · have hlt' : (m : Int) < N := by omega
      obtain ⟨j, hj⟩ : ∃ j, v.ll[m]? = some j := ⟨_, List.getElem?_eq_getElem (by omega)⟩
      have hjl := (h.llr i v hv).1 j (List.mem_of_getElem? hj)
      obtain ⟨e, he⟩ : ∃ e, v.ent[j]? = some e := ⟨_, List.getElem?_eq_getElem hjl⟩
      obtain ⟨g, rfl, cg⟩ := rowq_cell hR (j := m) (o := some (R.bd i j)) (by unfold bds; rw [List.getElem?_map, hj]; rfl)
      have cc := (h.it i v j e hv he).cell1 2 _ rfl
      have H2 := rplus_any wr (satS v.ent (v.ll.take m)) e.chg (satS_lt _ _) (hc j e he)
      have e1 : Hid (satS v.ent (v.ll.take (m + 1)) = plusT (satS v.ent (v.ll.take m)) e.chg) := by
        show satS v.ent (v.ll.take (m + 1)) = _
        unfold satS
        rw [List.take_add_one, hj]
        simp [List.getD_eq_getElem?_getD, he]
      generalize hA : satS v.ent (v.ll.take m) = A at *
      generalize hPP : plusT A e.chg = PP at *
      go_wp2_with (go_at_call 57; refine H2.mono ?_; rintro e w1 ⟨rfl, hw⟩; have hw' := hw.symm; subst hw')
      go_roundw
      case rel => exact ⟨m + 1, by go_num, by rw [e1.out], hlt, by trivial⟩
      case measure => simp only []; omega
    · have hlt' : (m : Int) = N := by omega
      obtain rfl : m = N := by omega
      generalize satS v.ent (v.ll.take m) = A at *
      go_wp2_with fail
      go_ret
      rw [hall.out]
      exact ⟨rfl, rfl⟩
set_option maxRecDepth 100000 in
set_option maxHeartbeats 1000000 in
theorem rshard_any (h : Rf w R n room st vs pv P) (hn : 1 ≤ n) (hn' : n ≤ 64) (k : ByteArray) (hk : k.size ≤ maxLen) :
    Calls Try.prog 12 #[.pointer (some ⟨R.cb, 0, none⟩), .string k] w fun e w' => e = .returned (.int .i64 (shd n k.data.toList)) ∧ w' = w := by
  have c0 := h.blk.cell1 0 _ rfl
  have hk' : k.size ≤ 9223372036854775807 := hk
  go_enter Try.func12, Try.ntmps12
  go_wp2_with fail
  go_loopw [5, 6] (fun hh i wr => ∃ (m : Nat), i = .int .i64 m ∧ hh = .int .u32 (hash (k.data.toList.take m)) ∧ m ≤ k.size ∧ wr = w) (fun hh i wr => match i with | .int _ z => k.size - z.toNat | _ => 0)
  case atStart => exact ⟨0, rfl, rfl, by omega, rfl⟩
  case round =>
    obtain ⟨m, rfl, rfl, hm, hwr⟩ := hrel
    subst hwr
    by_cases hlt : m < k.size
    · have hlt' : (m : Int) < k.size := by omega
      have e1 : Hid (hash (k.data.toList.take (m + 1)) = hstep (hash (k.data.toList.take m)) k[m]) := by
        show hash (k.data.toList.take (m + 1)) = _
        rw [List.take_add_one, bytes_get k hlt]
        exact hash_snoc _ _
      obtain ⟨H, hH⟩ : ∃ H, hash (k.data.toList.take m) = H := ⟨_, rfl⟩
      rw [hH] at e1 ⊢
      clear hH
      go_wp2_with fail
      refine ⟨⟨m + 1, rfl, ?_, hlt, trivial⟩, ?_⟩
      · rw [e1.out]; rfl
      · simp only []; omega
    · have hlt' : (m : Int) = k.size := by omega
      have e1 : k.data.toList.take m = k.data.toList := List.take_of_length_le (by
        have hs : k.data.size = k.size := rfl
        simp; omega)
      rw [e1]
      obtain ⟨b1, b2⟩ := hash_bd k.data.toList
      have e2 : Hid (((shd n k.data.toList : Nat) : Int) = wrap64 (hash k.data.toList % n)) := by
        show ((shd n k.data.toList : Nat) : Int) = wrap64 (hash k.data.toList % n)
        have h1 := Int.emod_lt_of_pos (hash k.data.toList) (b := n) (by omega)
        have h2 := Int.emod_nonneg (hash k.data.toList) (b := n) (by omega)
        unfold shd wrap64
        generalize hash k.data.toList % n = z at *
        omega
      obtain ⟨H, hH⟩ : ∃ H, hash k.data.toList = H := ⟨_, rfl⟩
      rw [hH] at e2 b1 b2 ⊢
      clear hH e1
      go_wp2_with fail
      go_ret
      refine ⟨?_, rfl⟩
      rw [e2.out]
      rfl
end
end Go.Proofs.Ytlkfabejecgfgaa
