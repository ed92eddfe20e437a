import Derived.Test.YtlkfabejecgfgaaFb
namespace Go.Proofs.Ytlkfabejecgfgaa
open Go.RowKit Go.Maps
set_option linter.unusedVariables false
set_option linter.unusedSimpArgs false
def x0 : Xs := ⟨[], fun _ => none, 0, [], 0, 0⟩
def Cs.ix (s : Cs) (k : List UInt8) : Nat := shd s.xs.length k
def Cs.x (s : Cs) (i : Nat) : Xs := s.xs.getD i x0
def Cs.setx (s : Cs) (i : Nat) (x : Xs) : Cs := { s with xs := s.xs.set i x }
theorem xs_get {s : Cs} {i : Nat} {x : Xs} (h : s.xs[i]? = some x) : s.x i = x := by unfold Cs.x; rw [List.getD_eq_getElem?_getD, h]; rfl
theorem Ci.ix {s : Cs} (c : Ci s) (k : List UInt8) : s.xs[s.ix k]? = some (s.x (s.ix k)) := by
  have hl := shd_lt c.n1 k
  have : s.xs[s.ix k]? = some _ := List.getElem?_eq_getElem hl
  rw [this, xs_get this]
def dropC (s : Cs) (k : List UInt8) : Bool × Cs :=
  match (s.x (s.ix k)).f k with
  | none => (false, s)
  | some j => (true, s.setx (s.ix k) (takeX (s.x (s.ix k)) j))
def zv : Value := .int .u64 0
def getC (s : Cs) (k : List UInt8) : Int × Value × Bool × Cs :=
  match (s.x (s.ix k)).f k with
  | none => (0, zv, false, s)
  | some j => ((s.P.length : Int) + 1, ((s.x (s.ix k)).at j).val, true, (s.setx (s.ix k) (pinX (s.x (s.ix k)) j)).give (s.ix k, j))
section
variable {w : World} {L : Lo} {s : Cs}
theorem Ca.drew (h : Ca w L s) : Ca w.drew L s := by
  obtain ⟨rc, hrl, hS⟩ := h.row
  obtain ⟨D, hD, hs⟩ := h.pin
  exact ⟨h.blk, ⟨rc, hrl, fun i x hi => (hS i x hi).drew⟩, ⟨D, hD.upd (Upd.drew (Upd.refl Non w)) (fun e => e), hs⟩, h.mm, h.mp, h.aa⟩
set_option maxRecDepth 100000 in
set_option maxHeartbeats 1000000 in
theorem drop_any (h : Ca w L s) (c : Ci s) {k : ByteArray} (hk : k.size ≤ maxLen) :
    Calls Try.prog 19 #[.pointer (some ⟨L.cb, 0, none⟩), .string k] w fun e w' => e = .returned (.bool (dropC s k.data.toList).1) ∧ Ca w' L (dropC s k.data.toList).2 ∧ Upd (Cb L s) w w' := by
  have HO := of_any h c hk
  have hi := c.ix k.data.toList
  obtain ⟨rc, hrl, hS⟩ := h.drew.row
  have S := hS _ _ hi
  have r0 := S.row.cell1 (s.ix k.data.toList * 7) _ (S.cel 0 _ rfl)
  obtain ⟨D, hD, hs⟩ := S.map
  have hl := hD.lookok law9 Try.underlying59 (zero60 _) (key9 hk)
  have I := c.iv _ _ hi
  unfold dropC
  change Calls _ _ _ _ fun e w' => _
  have eix : shd s.xs.length k.data.toList = s.ix k.data.toList := rfl
  rw [eix] at HO
  cases hf : (s.x (s.ix k.data.toList)).f k.data.toList with
  | none =>
    simp only []
    simp only [hf] at hl
    have C1 : Hid (Ca w.drew L s) := h.drew
    clear hS S hi I eix
    go_enter Try.func19, Try.ntmps19
    go_wp2_with (go_at_call 38; refine HO.mono ?_; rintro e w1 ⟨rfl, hw⟩; have hw' := hw.symm; subst hw')
    go_ret
    exact ⟨rfl, C1.out, (Upd.refl _ _).drew⟩
  | some j =>
    simp only []
    simp only [hf] at hl
    obtain ⟨e, he, hke, hpq⟩ := I.old hf
    have HT := takeOut_any S he hpq
    go_enter Try.func19, Try.ntmps19
    go_wp2_with (first
      | (go_at_call 38; refine HO.mono ?_; rintro e w1 ⟨rfl, hw⟩; have hw' := hw.symm; subst hw')
      | (go_at_call 47; refine HT.mono ?_; rintro e w2 ⟨rfl, rc2, S2, K2, U2⟩))
    go_ret
    exact ⟨rfl, h.drew.shard hi hS hrl S2 rfl K2 U2, (Upd.drew (Upd.refl _ _)).trans (U2.mono (fun k _ hk => Cb.sub hi hk))⟩
set_option maxRecDepth 100000 in
set_option maxHeartbeats 1000000 in
theorem get_any (h : Ca w L s) (c : Ci s) {k : ByteArray} (hk : k.size ≤ maxLen) (hP : s.P.length < 1152921504606846976) :
    Calls Try.prog 18 #[.pointer (some ⟨L.cb, 0, none⟩), .string k] w fun e w' => e = .returned (.tuple #[.int .i64 (getC s k.data.toList).1, (getC s k.data.toList).2.1, .bool (getC s k.data.toList).2.2.1]) ∧ Ca w' L (getC s k.data.toList).2.2.2 ∧ Upd (Cb L s) w w' := by
  have HO := of_any h c hk
  have hi := c.ix k.data.toList
  obtain ⟨rc, hrl, hS⟩ := h.drew.row
  have S := hS _ _ hi
  have r0 := S.row.cell1 (s.ix k.data.toList * 7) _ (S.cel 0 _ rfl)
  obtain ⟨D, hD, hs⟩ := S.map
  have hl := hD.lookok law9 Try.underlying59 (zero60 _) (key9 hk)
  have I := c.iv _ _ hi
  unfold getC
  have eix : shd s.xs.length k.data.toList = s.ix k.data.toList := rfl
  rw [eix] at HO
  cases hf : (s.x (s.ix k.data.toList)).f k.data.toList with
  | none =>
    simp only []
    simp only [hf] at hl
    have C1 : Hid (Ca w.drew L s) := h.drew
    clear hS S hi I eix
    go_enter Try.func18, Try.ntmps18
    go_wp2_with (go_at_call 38; refine HO.mono ?_; rintro e w1 ⟨rfl, hw⟩; have hw' := hw.symm; subst hw')
    refine bodyPost_ret (v := .tuple #[.int .i64 0, zv, .bool false]) (by simp [results, Try.results18, go_sem, zv]) rfl ⟨rfl, C1.out, (Upd.refl _ _).drew⟩
  | some j =>
    simp only []
    simp only [hf] at hl
    obtain ⟨e, he, hke, hpq⟩ := I.old hf
    rw [at_of he]
    have hpl : e.pins + 1 < 4611686018427387904 := by
      have h1 := c.pc _ _ _ _ hi he
      have h2 := List.count_le_length (a := some (s.ix k.data.toList, j)) (l := s.P)
      omega
    have HT := pin_any S he hpq hpl
    have hel : (pinX (s.x (s.ix k.data.toList)) j).ent = (s.x (s.ix k.data.toList)).ent.set j { e with pins := e.pins + 1 } := by unfold pinX; simp only [at_of he]
    have hge : (pinX (s.x (s.ix k.data.toList)) j).ent[j]? = some { e with pins := e.pins + 1 } := by rw [hel]; exact List.getElem?_set_self (lt_of_get he)
    have hell : (pinX (s.x (s.ix k.data.toList)) j).ent.length = (s.x (s.ix k.data.toList)).ent.length := by rw [hel]; simp
    go_enter Try.func18, Try.ntmps18
    go_wp2_with (first
      | (go_at_call 38; refine HO.mono ?_; rintro e w1 ⟨rfl, hw⟩; have hw' := hw.symm; subst hw')
      | (go_at_call 46; refine HT.mono ?_; rintro e' w2 ⟨rfl, rc2, S2, K2, U2⟩
         have C2 := h.drew.shard hi hS hrl S2 hell K2 U2
         have HG := give_any C2.drew (s.ix k.data.toList, j) (by simp only []; omega)
         have d1 : w2.cell? ⟨L.ads (s.ix k.data.toList) j, 1, none⟩ = some e.val := (S2.ent j _ hge).cell1 1 _ rfl))
    have hix : { s with xs := s.xs.set (s.ix k.data.toList) (pinX (s.x (s.ix k.data.toList)) j) } = s.setx (s.ix k.data.toList) (pinX (s.x (s.ix k.data.toList)) j) := rfl
    rw [hix] at C2 HG
    have hi2 : (s.setx (s.ix k.data.toList) (pinX (s.x (s.ix k.data.toList)) j)).xs[s.ix k.data.toList]? = some (pinX (s.x (s.ix k.data.toList)) j) := by unfold Cs.setx; rw [xget hi, if_pos rfl]
    have U2' : Hid (Upd (Cb L s) w w2.drew) := ((Upd.drew (Upd.refl _ _)).trans (U2.mono (fun k _ hk => Cb.sub hi hk))).drew
    clear hix HO HT hl
    go_region_with (go_at_call 42; refine HG.mono ?_; rintro e' w3 ⟨rfl, C3, U3⟩
                    have d3 : w3.cell? ⟨L.ads (s.ix k.data.toList) j, 1, none⟩ = some e.val := by
                      obtain ⟨rc3, _, hS3⟩ := C3.row
                      exact ((hS3 _ _ hi2).ent j _ hge).cell1 1 _ rfl)
    all_goals
      go_wp2
      refine bodyPost_ret (v := .tuple #[.int .i64 ((s.P.length : Int) + 1), e.val, .bool true]) (by simp [results, Try.results18, go_sem]) rfl ⟨rfl, C3, U2'.out.trans (U3.mono (fun k _ hk => hk.elim .inl (fun e => .inr (.inl e))))⟩
end
end Go.Proofs.Ytlkfabejecgfgaa
