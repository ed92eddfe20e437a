/-
  For every comparator, every list of records and every list of keys the law MemtableMap returns true and leaves its arguments as they read: with numbers that rise Get of the last one is what a map tells to which the records were done one by one.
  Conditions: none beyond the form's own reach; the two tables of package math/bits are as the program's text lays them (the card ties them; the walk reads the one of 64 numbers).
-/
import Derived.Test.YtocanjefonlnaaaDoorFr
import Derived.Test.YtocanjefonlnaaaDoorMp
import Derived.Deep.Strs
namespace Go.Proofs.YtocanjefonlnaaaDoor.memtableMap
open Go.ChangeShapes Go.WideShapes Go.ChangeAt Go.RowKit
open Go.ChangeMaps (open_string shut_string)
set_option linter.unusedVariables false

theorem strs_open {W : World} {x : Addr} {len m : Nat} {Sx : Nat → ByteArray} (hl : len ≤ m) (h : ∀ i, i < m → W.cell? (x.add i) = some (.string (Sx i))) : RdS W (some x) ((List.range len).map Sx) := by
  by_cases h0 : len = 0
  · left; subst h0; rfl
  · right
    obtain ⟨b, off, spot⟩ := x
    have hc := h 0 (by omega)
    have hspot : spot = none := by simpa [Addr.add] using World.cell?_spot hc
    subst hspot
    have hlt := World.block_lt_of_cell? W _ hc
    rw [add_at] at hlt
    refine ⟨b, off, rfl, hlt, fun j s hj => ?_⟩
    have hj' : j < len := by have := (List.getElem?_eq_some_iff.1 hj).1; simpa using this
    rw [List.getElem?_map, List.getElem?_range hj'] at hj
    simp at hj
    subst hj
    have := h j (by omega)
    rw [add_at] at this
    exact this
theorem own : ownKnob Tryd.prog.godebug = none := by kernel_rfl
theorem laidOut : laidOutB Tryd.prog = true := by kernel_rfl
/-- The cells of the two tables. -/
def cells0 : Array Value := (tab32.map fun n => Value.int .u8 n).toArray
def cells1 : Array Value := (tab64.map fun n => Value.int .u8 n).toArray
/-- A world in which they lie so. -/
noncomputable def laidWorld (os : Os) : World :=
  let w0 := World.holding Tryd.prog os ⟨#[], #[], []⟩
  { w0 with heap := (w0.heap.modify 1 fun
      | .cells _ t frozen => .cells cells0 t frozen
      | o => o).modify 2 fun
      | .cells _ t frozen => .cells cells1 t frozen
      | o => o }
set_option maxRecDepth 100000 in
theorem laidWorld_met (os : Os) (args : Array Value) : laidMetH Tryd.prog Rows.memtableMapRow.laid ((laidWorld os).forCall (fun _ _ => 0) ⟨#[], args, []⟩).memory :=
  laidMetH_of_parts (laidMet_of_run' 8 (by kernel_rfl) (by kernel_rfl)) (by kernel_rfl)

set_option maxRecDepth 100000 in
theorem lifted (os : Os) (started : os.Started) (H : Type) (enc : TypeId × Value → H) :
    ReturnsInHanded {} Tryd.checked os 5 .any (fun w args => (Rows.memtableMapSpec.pre enc Tryd.prog Tryd.f5 [] false w args ∧ laidMetH Tryd.prog Rows.memtableMapRow.laid w) ∧ sizedMet enc Tryd.prog Tryd.f5 (OpenSpec.ofChange Rows.memtableMapSpec) false w args)
      (Rows.memtableMapSpec.post enc Tryd.prog Tryd.f5 false true false false) := by
  refine returnsInHanded_of_change_and (C := Tryd.checked) (X := fun w _ => laidMetH Tryd.prog Rows.memtableMapRow.laid w) (fun _ _ _ hh h => h.of_heap hh) own started (by kernel_rfl) Tryd.func5
    (ChangeSpec.witness_at (enc := enc) (C := Tryd.checked) (os := os) (X := fun w _ => laidMetH Tryd.prog Rows.memtableMapRow.laid w) false (laidWorld os) #[.int .i64 0, .slice none 0 0, .slice none 0 0] 8 rfl (by kernel_rfl) (by kernel_rfl) (by kernel_rfl) (by kernel_rfl) (by kernel_rfl) (laidWorld_met os _)) ?_
  intro W base args ds gs before hval0 hW hcnd hsz hX _
  have hval : ∀ (j : Nat) t v, Tryd.f5.params[j]? = some t → args[j]? = some v → Value.okWide Tryd.prog W .any base t v := hval0
  have hW' := hW
  obtain ⟨p, q, hA0, hV, rfl, hfz, hnd⟩ := hW
  have hA : DataW.TrodAll enc Tryd.prog W 0 (fun _ => true) true Tryd.f5.params.toList args.toList ds p := hA0
  rw [Tryd.params5] at hA hval
  obtain ⟨v0, vs0, d0, ds0, p0, q0, hargs, rfl, rfl, h0, r0⟩ := trodAll_cons hA
  obtain ⟨v1, vs1, d1, ds1, p1, q1, rfl, rfl, rfl, h1, r1⟩ := trodAll_cons r0
  obtain ⟨v2, vs2, d2, ds2, p2, q2, rfl, rfl, rfl, h2, r2⟩ := trodAll_cons r1
  obtain ⟨rfl, rfl, rfl⟩ := trodAll_nil r2
  obtain rfl : args = #[v0, v1, v2] := by cases args; simp_all
  obtain ⟨rfl, rfl⟩ := trodVars_none hV
  have hby : Tryd.checked.prog.bytesOf 36 = 48 := by kernel_rfl
  have hz := tz_of_laid hX
  have h2w : 2 < W.heap.size := by
    obtain ⟨y, _, _, hy⟩ := hz 0 (by decide)
    exact World.block_lt_of_cell? W _ hy
  obtain ⟨how, rfl, rfl, rfl, wh⟩ := open_int Tryd.underlying3 (hval 0 3 v0 rfl rfl) h0
  obtain ⟨a1, len1, cap1, rfl⟩ := okWide_slice Tryd.underlying43 (hval 1 43 v1 rfl rfl)
  have k1 := h1
  have lt1 : ∀ x ∈ p1, x.block < W.heap.size := by obtain ⟨m, hm⟩ := k1; exact DataW.trod_lt m _ _ _ hm
  obtain ⟨l1, e1, w1, n1⟩ : ∃ l : List Rec, l.length = len1 ∧ RdR W a1 l ∧ l.length ≤ 281474976710656 := by
    obtain ⟨fuel, hf⟩ := h1
    have hf' : DataW.trod enc Tryd.prog W 0 (fun _ => true) true fuel 43 [.slice a1 len1 cap1] = some (d1, p1) := hf
    obtain ⟨l, q1, q2, q3⟩ := recs_open hf'
    refine ⟨l, q1, q2, ?_⟩
    rcases q3 with rfl | ⟨es, sp, hx, he⟩
    · simp
    · have hx' : d1 = .slice es sp := hx
      subst hx'
      have hs := sized_slice hsz (j := 1) (t := 43) (e := 36) rfl rfl Tryd.underlying43
      rw [hby] at hs
      simp only [reachBytes] at hs
      omega
  obtain ⟨a2, len2, cap2, rfl⟩ := okWide_slice Tryd.underlying48 (hval 2 48 v2 rfl rfl)
  have k2 := h2
  have lt2 : ∀ x ∈ p2, x.block < W.heap.size := by obtain ⟨m, hm⟩ := k2; exact DataW.trod_lt m _ _ _ hm
  obtain ⟨l2, e2, w2, n2⟩ : ∃ l : List ByteArray, l.length = len2 ∧ RdS W a2 l ∧ l.length ≤ 281474976710656 := by
    obtain ⟨fuel, hf⟩ := h2
    rcases Go.Deep.open_strs Tryd.underlying48 Tryd.underlying9 (by kernel_rfl) hf with ⟨hcs, _⟩ | ⟨x, l, c, m, Sx, hcs, _, hl, hm, hmm, hx, hcell⟩
    · simp [Value.cells] at hcs
      obtain ⟨rfl, rfl, rfl⟩ := hcs
      exact ⟨[], rfl, .inl rfl, by simp⟩
    · simp [Value.cells] at hcs
      obtain ⟨rfl, rfl, rfl⟩ := hcs
      have hlm : len2 ≤ m := by rw [hmm]; split <;> omega
      refine ⟨(List.range len2).map Sx, by simp, strs_open hlm (fun i hi => (hcell i hi).1), ?_⟩
      have hd : d2 = _ := congrArg Prod.fst hx
      subst hd
      have hs := sized_slice hsz (j := 2) (t := 48) (e := 9) rfl rfl Tryd.underlying48
      have hby9 : Tryd.checked.prog.bytesOf 9 = 16 := by kernel_rfl
      rw [hby9] at hs
      simp [reachBytes] at hs
      simp
      omega
  clear hA0 hval0
  subst e1 e2
  have walk : Calls Tryd.prog 5 #[.int .i64 how, .slice a1 l1.length cap1, .slice a2 l2.length cap2] W fun e w' => e = .returned (.bool true) ∧ Below W.heap.size W w' := by
    by_cases h0 : how = 0
    · exact map_walk hz h2w (.inl h0) w1 w2 cap1 cap2 n1 n2
    · by_cases h1 : how = 1
      · exact map_walk hz h2w (.inr h1) w1 w2 cap1 cap2 n1 n2
      · exact map_no hz h2w h0 h1 _ _ _ _ _ _
  refine walk.mono fun e W' ⟨he, bel⟩ => ?_
  subst he
  exact ⟨_, rfl, _, _, _, [], _, [], hW', trodAll_mk1 (shut_bool Tryd.underlying4 _), (trodAll_cons_mk (shut_int Tryd.underlying3 wh) (trodAll_cons_mk (Below.trod laidOut (by kernel_rfl) (of_decide_eq_true (by kernel_rfl)) k1 bel lt1) (trodAll_cons_mk (Below.trod laidOut (by kernel_rfl) (of_decide_eq_true (by kernel_rfl)) k2 bel lt2) trodAll_mk0))), rfl, bel.frame _, fun h => by cases h⟩

theorem over : Rows.MemtableMapSaid :=
  OpenClaim.holds_of_wide 5 Tryd.f5 rfl rfl rfl rfl rfl rfl rfl ⟨rfl, rfl, rfl, rfl, rfl⟩ rfl rfl rfl rfl rfl (by kernel_rfl) Tryd.func5 (by kernel_rfl)
    (of_decide_eq_true (by kernel_rfl)) (by unfold Func.isWrapper; first | (rw [if_pos (by decide +kernel)]; kernel_rfl) | (rw [if_neg (by decide +kernel)]; exact ⟨rfl, rfl⟩))
    (fun os started H enc _ => lifted os started H enc)

theorem card : Rows.MemtableMapCardSaid :=
  Claim7.holds_tied_plain_at .later [] [.data, .data] true (true, "2e2844580ad39b5616dfbdabf77b395088bb151c4a32277a092be836ad15a964") false
    over (fun _ h => by cases h) (by kernel_rfl) (fun _ h => by cases h) memtableMap_row_tie rfl ⟨rfl, rfl⟩ (by kernel_rfl) rfl
    (fun f fn hf hfn => by
      obtain rfl : f = 5 := Option.some.inj ((show Tryd.prog.funcNamed "sediment/sedimentlaw07.MemtableMap" = some 5 by kernel_rfl).symm.trans hf) |>.symm
      obtain rfl : fn = Tryd.f5 := (Option.some.inj (Tryd.func5.symm.trans hfn)).symm
      exact ⟨by kernel_rfl, fun j t ht => by
        rw [Tryd.params5] at ht
        have h3 : t = 3 ∨ t = 43 ∨ t = 48 := by
          rcases j with _ | _ | _ | j
          · left; simpa using ht.symm
          · right; left; simpa using ht.symm
          · right; right; simpa using ht.symm
          · simp at ht
        rcases h3 with rfl | rfl | rfl
        · exact (show Tryd.prog.wantsStandIn 3 = false by kernel_rfl)
        · exact (show Tryd.prog.wantsStandIn 43 = false by kernel_rfl)
        · exact (show Tryd.prog.wantsStandIn 48 = false by kernel_rfl)⟩)
    (by kernel_rfl)
end Go.Proofs.YtocanjefonlnaaaDoor.memtableMap
namespace Go.Proofs.YtocanjefonlnaaaDoor
/-- The statement. -/
theorem memtableMapCard_holds : Rows.MemtableMapCardSaid := memtableMap.card
#print axioms memtableMapCard_holds
end Go.Proofs.YtocanjefonlnaaaDoor
