import Derived.Test.YtocanjefonlnaaaDoorO
import Derived.OwnWalk
namespace Go.Proofs.YtocanjefonlnaaaDoor
open Go.RowKit
set_option linter.unusedVariables false
set_option linter.unusedSimpArgs false
/-- The first entry that is not ahead of a key is number p. -/
structure CutE (how : Int) (E : List Ent) (U : ByteArray) (S K : Int) (p : Nat) : Prop where
  le : p ≤ E.length
  lo : ∀ i e, i < p → E[i]? = some e → okey how e U S K < 0
  hi : ∀ i e, p ≤ i → E[i]? = some e → ¬ okey how e U S K < 0
theorem CutE.cut {how : Int} {L : List Nd} {U : ByteArray} {S K : Int} {p : Nat} (h : CutE how (L.map (·.e)) U S K p) : Cut how L U S K p :=
  ⟨by simpa using h.le, fun i n hi hn => h.lo i n.e hi (by rw [List.getElem?_map, hn]; rfl), fun i n hi hn => h.hi i n.e hi (by rw [List.getElem?_map, hn]; rfl)⟩
/-- A table in memory: its entries, its tombstones, what it counts; B: the blocks that are its own. -/
structure Tab (w : World) (T : Nat) (B : Nat → Prop) (how : Int) (E : List Ent) (R : List Tm) (sz fi la : Int) : Prop where
  ex : ∃ (C : Tc) (L : List Nd), C.how = how ∧ C.sz = sz ∧ C.fi = fi ∧ C.la = la ∧ C.cnt = E.length ∧ L.map (·.e) = E ∧ Sk w T C L (lnF L) (atq L) ∧ w.ownsRow 0 81 3 C.rv R.length (tcs R) ∧ Hts w C.hv ∧
    (∀ k, SkB T L k → B k) ∧ (∀ k, C.rv.ownBlock = some k → B k) ∧ (∀ k, C.hv.ownBlock = some k → B k) ∧ (∀ k, C.hv.ownBlock = some k → k < w.heap.size ∧ ¬ SkB T L k ∧ C.rv.ownBlock ≠ some k)
/-- What Get tells. -/
def getV (how : Int) (E : List Ent) (R : List Tm) (key : ByteArray) (seq : Int) (p : Nat) : ByteArray × Int × Bool :=
  match E[p]? with
  | some n => if n.u = key then (if (ovr how key seq R (0, false)).2 = true ∧ n.s < (ovr how key seq R (0, false)).1 then (⟨#[]⟩, 2, true) else (n.v, n.k, true)) else (if (ovr how key seq R (0, false)).2 = true then (⟨#[]⟩, 2, true) else (⟨#[]⟩, 0, false))
  | none => if (ovr how key seq R (0, false)).2 = true then (⟨#[]⟩, 2, true) else (⟨#[]⟩, 0, false)
abbrev gv (x : ByteArray × Int × Bool) : Value := .tuple #[.string x.1, .int .i64 x.2.1, .bool x.2.2]
set_option maxRecDepth 100000 in
set_option maxHeartbeats 2000000 in
theorem get_any {w : World} {T : Nat} {B : Nat → Prop} {how : Int} {E : List Ent} {R : List Tm} {sz fi la : Int} (h : Tab w T B how E R sz fi la) (key : ByteArray) (seq : Int) (p : Nat) (hc : CutE how E key seq 2 p) (hl : R.length ≤ 10000) :
    Calls Tryd.prog 13 #[ptr T, .string key, .int .u64 seq] w fun e w' => e = .returned (gv (getV how E R key seq p)) ∧ Below w.heap.size w w' := by
  obtain ⟨C, L, rfl, rfl, rfl, rfl, hcnt, rfl, hS, hRow, hH, _⟩ := h.ex
  clear h
  have HF : Hid (Calls Tryd.prog 34 #[ptr T, .agg #[.string key, .int .u64 seq, .int .i64 2]] w fun e w' => e = .returned (pv (L[p]?)) ∧ Below w.heap.size w w') := from_any hS key seq 2 p hc.cut
  have HO : Hid (∀ W, Below w.heap.size w W → Calls Tryd.prog 35 #[rptr T, .string key, .int .u64 seq] W fun e w' => e = .returned (.tuple #[.int .u64 (ovr C.how key seq R (0, false)).1, .bool (ovr C.how key seq R (0, false)).2]) ∧ Below W.heap.size W w') := fun W hb =>
    over_any (keepc hb (hS.tab.cell1 17 _ rfl)) (keepc hb (hS.tab.cell1 18 _ rfl)) ((row_rdt hRow).below hb) key seq hl
  have HG : Hid (getV C.how (L.map (·.e)) R key seq p = match L[p]? with
    | some n => if n.e.u = key then (if (ovr C.how key seq R (0, false)).2 = true ∧ n.e.s < (ovr C.how key seq R (0, false)).1 then (⟨#[]⟩, 2, true) else (n.e.v, n.e.k, true)) else (if (ovr C.how key seq R (0, false)).2 = true then (⟨#[]⟩, 2, true) else (⟨#[]⟩, 0, false))
    | none => if (ovr C.how key seq R (0, false)).2 = true then (⟨#[]⟩, 2, true) else (⟨#[]⟩, 0, false)) := by
    show _ = _
    unfold getV
    rw [List.getElem?_map]
    cases L[p]? <;> rfl
  have HN : Hid (∀ n W, L[p]? = some n → Below w.heap.size w W → Blk W n.b 88 (ndC n (pv (atq L p)))) := fun n W hn hb => (hS.nod p n hn).upd (S := Non) (Upd.ofBelow hb) (fun x => x)
  obtain ⟨GV, hGV⟩ : ∃ GV, getV C.how (L.map (·.e)) R key seq p = GV := ⟨_, rfl⟩
  rw [hGV] at HG ⊢
  clear hGV
  obtain ⟨om, ob, hob⟩ : ∃ om ob, ovr C.how key seq R (0, false) = (om, ob) := ⟨_, _, rfl⟩
  rw [hob] at HO HG
  have hT := hS.tab.lt
  clear hS hRow hH hc hob
  cases hlp : L[p]? with
  | none =>
    rw [hlp, show pv (none : Option Nd) = .pointer none from rfl] at HF
    rw [hlp] at HG
    cases ob with
    | true =>
      have HGV : Hid (GV = (⟨#[]⟩, 2, true)) := HG.out
      clear HG HN hlp
      go_enter Tryd.func13, Tryd.ntmps13
      go_wp2_with (first
        | (go_at_call 34; refine HF.out.mono ?_; rintro e w1 ⟨rfl, hb1⟩)
        | (go_at_call 35; refine (HO.out _ hb1).mono ?_; rintro e w2 ⟨rfl, hb2⟩))
      go_ret3
      rw [HGV.out]
      exact ⟨rfl, hb1.trans (hb2.mono hb1.size)⟩
    | false =>
      have HGV : Hid (GV = (⟨#[]⟩, 0, false)) := HG.out
      clear HG HN hlp
      go_enter Tryd.func13, Tryd.ntmps13
      go_wp2_with (first
        | (go_at_call 34; refine HF.out.mono ?_; rintro e w1 ⟨rfl, hb1⟩)
        | (go_at_call 35; refine (HO.out _ hb1).mono ?_; rintro e w2 ⟨rfl, hb2⟩))
      go_ret3
      rw [HGV.out]
      exact ⟨rfl, hb1.trans (hb2.mono hb1.size)⟩
  | some n =>
    rw [hlp, show pv (some n : Option Nd) = .pointer (some ⟨n.b, 0, none⟩) from rfl] at HF
    rw [hlp] at HG
    by_cases hu : n.e.u = key
    · have hub : (n.e.u.toList == key.toList) = true := by rw [bytes_beq]; simp [hu]
      have HU : Hid (n.e.u = key) := hu
      clear hu
      cases ob with
      | true =>
        by_cases ho : n.e.s < om
        · have HGV : Hid (GV = (⟨#[]⟩, 2, true)) := by show _ = _; rw [HG.out]; simp [HU.out, ho]
          clear HG
          go_enter Tryd.func13, Tryd.ntmps13
          go_wp2_with (first
        | (go_at_call 34; refine HF.out.mono ?_; rintro e w1 ⟨rfl, hb1⟩; have bn := HN.out n w1 hlp hb1; have m0 := bn.cell1 0 _ rfl; clear bn)
        | (go_at_call 35; refine (HO.out _ hb1).mono ?_; rintro e w2 ⟨rfl, hb2⟩; have bn := HN.out n w2 hlp (hb1.trans (hb2.mono hb1.size)); have q0 := bn.cell1 0 _ rfl; have q1 := bn.cell1 1 _ rfl; have q2 := bn.cell1 2 _ rfl; have q3 := bn.cell1 3 _ rfl; clear bn))
          go_ret3
          rw [HGV.out]
          exact ⟨rfl, (hb1.trans (hb2.mono hb1.size))⟩
        · have HGV : Hid (GV = (n.e.v, n.e.k, true)) := by show _ = _; rw [HG.out]; simp [HU.out, ho]
          clear HG
          go_enter Tryd.func13, Tryd.ntmps13
          go_wp2_with (first
        | (go_at_call 34; refine HF.out.mono ?_; rintro e w1 ⟨rfl, hb1⟩; have bn := HN.out n w1 hlp hb1; have m0 := bn.cell1 0 _ rfl; clear bn)
        | (go_at_call 35; refine (HO.out _ hb1).mono ?_; rintro e w2 ⟨rfl, hb2⟩; have bn := HN.out n w2 hlp (hb1.trans (hb2.mono hb1.size)); have q0 := bn.cell1 0 _ rfl; have q1 := bn.cell1 1 _ rfl; have q2 := bn.cell1 2 _ rfl; have q3 := bn.cell1 3 _ rfl; clear bn))
          go_region
          go_wp2_with fail
          go_ret3
          rw [HGV.out]
          exact ⟨rfl, (hb1.trans (hb2.mono hb1.size)).drew⟩
      | false =>
        have HGV : Hid (GV = (n.e.v, n.e.k, true)) := by show _ = _; rw [HG.out]; simp [HU.out]
        clear HG
        go_enter Tryd.func13, Tryd.ntmps13
        go_wp2_with (first
        | (go_at_call 34; refine HF.out.mono ?_; rintro e w1 ⟨rfl, hb1⟩; have bn := HN.out n w1 hlp hb1; have m0 := bn.cell1 0 _ rfl; clear bn)
        | (go_at_call 35; refine (HO.out _ hb1).mono ?_; rintro e w2 ⟨rfl, hb2⟩; have bn := HN.out n w2 hlp (hb1.trans (hb2.mono hb1.size)); have q0 := bn.cell1 0 _ rfl; have q1 := bn.cell1 1 _ rfl; have q2 := bn.cell1 2 _ rfl; have q3 := bn.cell1 3 _ rfl; clear bn))
        go_region
        go_wp2_with fail
        go_ret3
        rw [HGV.out]
        exact ⟨rfl, (hb1.trans (hb2.mono hb1.size)).drew⟩
    · have hub : (n.e.u.toList == key.toList) = false := by rw [bytes_beq]; simp [hu]
      have HU : Hid (¬ n.e.u = key) := hu
      clear hu
      cases ob with
      | true =>
        have HGV : Hid (GV = (⟨#[]⟩, 2, true)) := by show _ = _; rw [HG.out]; simp [HU.out]
        clear HG
        go_enter Tryd.func13, Tryd.ntmps13
        go_wp2_with (first
        | (go_at_call 34; refine HF.out.mono ?_; rintro e w1 ⟨rfl, hb1⟩; have bn := HN.out n w1 hlp hb1; have m0 := bn.cell1 0 _ rfl; clear bn)
        | (go_at_call 35; refine (HO.out _ hb1).mono ?_; rintro e w2 ⟨rfl, hb2⟩; have bn := HN.out n w2 hlp (hb1.trans (hb2.mono hb1.size)); have q0 := bn.cell1 0 _ rfl; have q1 := bn.cell1 1 _ rfl; have q2 := bn.cell1 2 _ rfl; have q3 := bn.cell1 3 _ rfl; clear bn))
        go_ret3
        rw [HGV.out]
        exact ⟨rfl, (hb1.trans (hb2.mono hb1.size))⟩
      | false =>
        have HGV : Hid (GV = (⟨#[]⟩, 0, false)) := by show _ = _; rw [HG.out]; simp [HU.out]
        clear HG
        go_enter Tryd.func13, Tryd.ntmps13
        go_wp2_with (first
        | (go_at_call 34; refine HF.out.mono ?_; rintro e w1 ⟨rfl, hb1⟩; have bn := HN.out n w1 hlp hb1; have m0 := bn.cell1 0 _ rfl; clear bn)
        | (go_at_call 35; refine (HO.out _ hb1).mono ?_; rintro e w2 ⟨rfl, hb2⟩; have bn := HN.out n w2 hlp (hb1.trans (hb2.mono hb1.size)); have q0 := bn.cell1 0 _ rfl; have q1 := bn.cell1 1 _ rfl; have q2 := bn.cell1 2 _ rfl; have q3 := bn.cell1 3 _ rfl; clear bn))
        go_ret3
        rw [HGV.out]
        exact ⟨rfl, (hb1.trans (hb2.mono hb1.size))⟩
end Go.Proofs.YtocanjefonlnaaaDoor
