/-
  The reference against the same cache: pin, Value, Drop, Room.
-/
import Derived.Test.YtlkfabejecgfgaaRh
import Derived.Test.YtlkfabejecgfgaaRp
import Derived.Test.YtlkfabejecgfgaaGc
import Derived.Test.YtlkfabejecgfgaaFg
namespace Go.Proofs.Ytlkfabejecgfgaa
open Go.RowKit Go.Maps
set_option linter.unusedVariables false
set_option linter.unusedSimpArgs false
/-- The reference has this cache. -/
structure Rx (w : World) (R : Lr) (room : Nat) (vs : List Vw) (pv : Value) (s : Cs) : Prop where
  rf : Rf w R s.xs.length room s.st vs pv s.P
  rr : s.r = room / s.xs.length
  rm : room < 18446744073709551616
  vx : ∀ (i : Nat) (v : Vw) (x : Xs), vs[i]? = some v → s.xs[i]? = some x → Vx v x
  su : ∀ (i : Nat) (x : Xs), s.xs[i]? = some x → Su x
  pl : s.P.length ≤ 4000000000000
section
variable {w : World} {R : Lr} {room : Nat} {vs : List Vw} {pv : Value} {s : Cs}
theorem Rx.grow {w' : World} (h : Rx w R room vs pv s) (U : Upd Non w w') : Rx w' R room vs pv s := ⟨h.rf.grow U, h.rr, h.rm, h.vx, h.su, h.pl⟩
theorem Rx.drewN (h : Rx w R room vs pv s) (m : Nat) : Rx (w.drewN m) R room vs pv s := ⟨h.rf.drewN m, h.rr, h.rm, h.vx, h.su, h.pl⟩
/-- A shard and its view. -/
theorem Rx.get (h : Rx w R room vs pv s) (c : Ci s) {i : Nat} {x : Xs} (hx : s.xs[i]? = some x) : ∃ v, vs[i]? = some v ∧ Vx v x ∧ v.ll.length ≤ 4000000000000 ∧ v.wl.length ≤ 4000000000000 := by
  have hi : i < vs.length := by rw [h.rf.len]; exact (List.getElem?_eq_some_iff.1 hx).1
  have hv := List.getElem?_eq_getElem hi
  have V := h.vx i _ x hv hx
  refine ⟨_, hv, V, ?_, ?_⟩
  · rw [V.l]
    have h1 : (LL x).length ≤ x.ent.length := by unfold LL; exact Nat.le_trans (List.length_filter_le _ _) (by simp)
    have := c.el i x hx
    have := h.pl
    omega
  · rw [V.q]
    have := (c.iv i x hx).qle
    have := c.el i x hx
    have := h.pl
    omega
/-- One shard is another one in both. -/
theorem Rx.setx {R' : Lr} (h : Rx w R room vs pv s) {w' : World} {i : Nat} {x x' : Xs} {v v' : Vw} {pv' : Value} {P' : List (Option (Nat × Nat))} (hx : s.xs[i]? = some x) (hv : vs[i]? = some v) (F : Rf w' R' s.xs.length room s.st (vs.set i v') pv' P') (V : Vx v' x') (S : Su x') (hP : P'.length ≤ 4000000000000) :
    Rx w' R' room (vs.set i v') pv' { s with xs := s.xs.set i x', P := P' } := by
  refine ⟨by simpa using F, by simpa using h.rr, h.rm, fun a y z hy hz => ?_, fun a z hz => ?_, hP⟩
  · rw [vset_get hv] at hy
    simp only [] at hz
    rw [xget hx] at hz
    split at hy
    · rename_i e; rw [if_pos e] at hz; cases hy; cases hz; exact V
    · rename_i e; rw [if_neg e] at hz; exact h.vx a y z hy hz
  · simp only [] at hz
    rw [xget hx] at hz
    split at hz
    · cases hz; exact S
    · exact h.su a z hz
theorem pin_get {p : Int} (hp : 1 ≤ p) (hp' : p ≤ s.P.length) : s.P[(p - 1).toNat]? = some (s.pin p) := by
  unfold Cs.pin
  rw [if_pos hp, List.getD_eq_getElem?_getD]
  have : (p - 1).toNat < s.P.length := by omega
  rw [List.getElem?_eq_getElem this]; rfl
set_option maxRecDepth 100000 in
set_option maxHeartbeats 2000000 in
theorem rpin_any (h : Rx w R room vs pv s) {p : Int} (hp : I64 p) :
    Calls Try.prog 63 #[.pointer (some ⟨R.cb, 0, none⟩), .int .i64 p] w fun r w' => r = .returned (.pointer (pa ((s.pin p).map (fun ij => R.bd ij.1 ij.2)))) ∧ w' = w := by
  obtain ⟨pp, pcp, hpv⟩ := rowq_len h.rf.pr
  rw [bdp_len] at hpv
  have hR := h.rf.pr
  have c5 := h.rf.blk.cell1 5 _ rfl
  have hpl := h.pl
  rw [hpv] at c5
  by_cases h1 : p < 1
  · have e : Hid (s.pin p = none) := by show s.pin p = none; unfold Cs.pin; rw [if_neg (by omega)]
    clear hR hpv
    go_enter Try.func63, Try.ntmps63
    go_wp2_with fail
    go_ret
    rw [e.out]; exact ⟨rfl, rfl⟩
  · have h1' : 1 ≤ p := by omega
    obtain ⟨N, hN⟩ : ∃ N, s.P.length = N := ⟨_, rfl⟩
    rw [hN] at c5 hpl
    by_cases h2 : (N : Int) < p
    · have e : Hid (s.pin p = none) := by
        show s.pin p = none
        unfold Cs.pin
        rw [if_pos h1', List.getD_eq_getElem?_getD, List.getElem?_eq_none (by omega)]; rfl
      clear hR hpv
      go_enter Try.func63, Try.ntmps63
      go_wp2_with fail
      go_ret
      rw [e.out]; exact ⟨rfl, rfl⟩
    · have hg := pin_get (s := s) h1' (by omega)
      rw [hpv] at hR
      obtain ⟨m, hm⟩ : ∃ m : Nat, (p - 1).toNat = m := ⟨_, rfl⟩
      rw [hm] at hg
      have hpm : p = (m : Int) + 1 := by omega
      obtain ⟨g, hg', cg⟩ := rowq_cell hR (j := m) (o := (s.pin p).map (fun ij => R.bd ij.1 ij.2)) (by unfold bdp; rw [List.getElem?_map, hg]; rfl)
      subst hg'
      obtain ⟨o, ho⟩ : ∃ o, (s.pin p).map (fun ij => R.bd ij.1 ij.2) = o := ⟨_, rfl⟩
      rw [ho] at cg ⊢
      clear ho hg
      have hmN : m < N := by omega
      have hmN' : (m : Int) < N := by omega
      subst hpm
      have e1 : (m : Int) + 1 - 1 = m := by omega
      clear hR hpv
      go_enter Try.func63, Try.ntmps63
      go_wp2_with fail
      go_ret
      exact ⟨rfl, rfl⟩
set_option maxRecDepth 100000 in
set_option maxHeartbeats 2000000 in
theorem rvalue_none (h : Rx w R room vs pv s) {p : Int} (hp : I64 p) (h0 : s.pin p = none) :
    Calls Try.prog 33 #[.pointer (some ⟨R.cb, 0, none⟩), .int .i64 p] w fun r w' => r = .returned (.tuple #[.int .u64 0, .int .i64 111]) ∧ w' = w := by
  have H := rpin_any h hp
  rw [h0] at H
  go_enter Try.func33, Try.ntmps33
  go_wp2_with (go_at_call 63; refine H.mono ?_; rintro e' w1 ⟨rfl, hw⟩; have hw' := hw.symm; subst hw')
  refine bodyPost_ret (v := .tuple #[.int .u64 0, .int .i64 111]) (by simp [results, Try.results33, go_sem]) rfl ⟨rfl, rfl⟩
set_option maxRecDepth 100000 in
set_option maxHeartbeats 2000000 in
theorem rvalue_some (h : Rx w R room vs pv s) (c : Ci s) {p : Int} (hp : I64 p) {i j : Nat} (h0 : s.pin p = some (i, j)) {x : Xs} {e : En} (hx : s.xs[i]? = some x) (he : x.ent[j]? = some e) :
    Calls Try.prog 33 #[.pointer (some ⟨R.cb, 0, none⟩), .int .i64 p] w fun r w' => r = .returned (.tuple #[e.val, .int .i64 0]) ∧ w' = w := by
  have H := rpin_any h hp
  rw [h0] at H
  obtain ⟨v, hv, V, _, _⟩ := h.get c hx
  have hI := h.rf.it i v j e hv (by rw [V.e]; exact he)
  have c1 := hI.cell1 1 _ rfl
  go_enter Try.func33, Try.ntmps33
  go_wp2_with (go_at_call 63; refine H.mono ?_; rintro e' w1 ⟨rfl, hw⟩; have hw' := hw.symm; subst hw')
  refine bodyPost_ret (v := .tuple #[e.val, .int .i64 0]) (by simp [results, Try.results33, go_sem]) rfl ⟨rfl, rfl⟩
/-- What an operation of the reference leaves. -/
def Ro (w : World) (R : Lr) (vs : List Vw) (pv : Value) (w' : World) (room' : Nat) (s' : Cs) : Prop :=
  ∃ R' vs' pv', R'.cb = R.cb ∧ Rx w' R' room' vs' pv' s' ∧ Upd (Rb R vs pv) w w' ∧ ∀ k, Rb R' vs' pv' k → Rb R vs pv k ∨ w.heap.size ≤ k
theorem Ro.same (h : Rx w R room vs pv s) (m : Nat) : Ro w R vs pv (w.drewN m) room s := ⟨R, vs, pv, rfl, h.drewN m, ⟨rfl, rfl, rfl, Nat.le_refl _, fun _ _ _ => rfl⟩, fun k hk => .inl hk⟩
theorem Ro.drew {w' : World} {room' : Nat} {s' : Cs} {m : Nat} (h : Ro (w.drewN m) R vs pv w' room' s') : Ro w R vs pv w' room' s' := by
  obtain ⟨R', vs', pv', h1, h2, h3, h4⟩ := h
  exact ⟨R', vs', pv', h1, h2, (⟨rfl, rfl, rfl, Nat.le_refl _, fun _ _ _ => rfl⟩ : Upd (Rb R vs pv) w (w.drewN m)).trans h3, h4⟩
theorem Vx.outv {v : Vw} {x : Xs} {j : Nat} {e : En} (h : Vx v x) (I : Iv x) (hj : x.ent[j]? = some e) (hf : x.f e.key.data.toList = some j) : Vx (outV v j) (takeX x j) := by
  have := h.out I hj hf
  unfold outV
  rw [vw_at (by rw [h.e]; exact hj)]
  exact this
theorem outv_ent (v : Vw) (j : Nat) : (outV v j).ent = v.ent := by unfold outV; split <;> rfl
theorem find_f {v : Vw} {x : Xs} (h : Vx v x) (I : Iv x) (key : ByteArray) : findV v key v.ll = x.f key.data.toList := find_same h I key
set_option maxRecDepth 100000 in
set_option maxHeartbeats 4000000 in
theorem rdrop_any (h : Rx w R room vs pv s) (c : Ci s) {k : ByteArray} (hk : k.size ≤ maxLen) :
    Calls Try.prog 34 #[.pointer (some ⟨R.cb, 0, none⟩), .string k] w fun r w' => r = .returned (.bool (dropC s k.data.toList).1) ∧ Ro w R vs pv w' room (dropC s k.data.toList).2 := by
  have hx := c.ix k.data.toList
  obtain ⟨v, hv, V, hl1, hl2⟩ := h.get c hx
  have HF := find_any h.rf c.n1 c.n2 hk hv hl1
  rw [find_f V (c.iv _ _ hx)] at HF
  have hix : s.ix k.data.toList = shd s.xs.length k.data.toList := rfl
  cases hf : (s.x (s.ix k.data.toList)).f k.data.toList with
  | none =>
    have e1 : dropC s k.data.toList = (false, s) := by unfold dropC; rw [hf]
    rw [e1]
    rw [hf] at HF
    have h' : Hid _ := h
    clear h
    go_enter Try.func34, Try.ntmps34
    go_wp2_with (go_at_call 59; refine HF.mono ?_; rintro e' w1 ⟨rfl, m, rfl⟩)
    go_ret
    exact ⟨rfl, Ro.same h'.out m⟩
  | some j =>
    have e1 : dropC s k.data.toList = (true, s.setx (s.ix k.data.toList) (takeX (s.x (s.ix k.data.toList)) j)) := by unfold dropC; rw [hf]
    rw [e1]
    rw [hf] at HF
    obtain ⟨e, he, hke⟩ := (c.iv _ _ hx).fe _ _ hf
    have hev : v.ent[j]? = some e := by rw [V.e]; exact he
    have HS : Hid (∀ m, _) := fun m => rshard_any (h.rf.drewN m) c.n1 c.n2 k hk
    have HO : Hid (∀ m, _) := fun m => out_any (h.rf.drewN m) hv hev c.n2 hl1 hl2
    have FIN : Hid (∀ m w', Rf w' R s.xs.length room s.st (vs.set (s.ix k.data.toList) (outV v j)) pv s.P → Upd (Rb R vs pv) (w.drewN m) w' → Ro w R vs pv w' room (s.setx (s.ix k.data.toList) (takeX (s.x (s.ix k.data.toList)) j))) := fun m w' F U =>
      Ro.drew (m := m) ⟨R, _, pv, rfl, h.setx hx hv F (V.outv (c.iv _ _ hx) he (by rw [hke]; exact hf)) ((h.su _ _ hx).take (c.iv _ _ hx) he (by rw [hke]; exact hf)) h.pl, U, fun a ha => .inl (Rb.set hv (by rw [outv_ent]) ha)⟩
    rw [hix] at HO FIN
    clear h
    rw [hix]
    generalize shd s.xs.length k.data.toList = i at *
    go_enter Try.func34, Try.ntmps34
    go_wp2_with (first | (go_at_call 59; refine HF.mono ?_; rintro e' w1 ⟨rfl, m, rfl⟩) | (go_at_call 12; refine (HS.out m).mono ?_; rintro e' w2 ⟨rfl, hw⟩; have hw' := hw.symm; subst hw'; have HOm := HO.out m) | (go_at_call 60; refine HOm.mono ?_; rintro e' w3 ⟨rfl, F3, U3⟩))
    go_ret
    exact ⟨rfl, FIN.out m _ F3 U3⟩
end
end Go.Proofs.Ytlkfabejecgfgaa
