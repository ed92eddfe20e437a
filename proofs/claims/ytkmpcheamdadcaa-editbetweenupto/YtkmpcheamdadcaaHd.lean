/-
  missing f61: the tables of one list that another one has not.
-/
import Derived.Test.YtkmpcheamdadcaaHc
import Derived.Test.YtkmpcheamdadcaaVe
namespace Go.Proofs.Ytkmpcheamdadcaa
open Go.RowKit Go.Maps
set_option linter.unusedVariables false
set_option linter.unusedSimpArgs false
def misB (l m : List Fi) : List Fi := l.filter fun f => !hasB m f
theorem misB_snoc_yes {l m : List Fi} {f : Fi} (h : hasB m f = false) : misB (l ++ [f]) m = misB l m ++ [f] := by
  unfold misB; simp [h]
theorem misB_snoc_no {l m : List Fi} {f : Fi} (h : hasB m f = true) : misB (l ++ [f]) m = misB l m := by
  unfold misB; simp [h]
theorem misB_len (l m : List Fi) : (misB l m).length ≤ l.length := List.length_filter_le _ _
theorem make131 (n : Int) (w : World) : (Instr.makeMap 131 (some (.int .i64 n))).run Try.prog w = .ok (.map (some w.heap.size)) (w.alloc (.map #[] 0)) := by
  simp [Instr.makeMap, run_underlying Try.underlying131, asInt, asIntOf, Result.andThen]
theorem rowF_nil (w : World) (b : Nat) : RowF w b (.slice none 0 0) [] := World.ownsRow_nil _ _ _ _
/-- An append at a plain region's list, of whatever element: what its run tells. -/
theorem wpList_appt {v u v' : Value} {t : TypeId} {w w' : World} {ops : Array Oper} {rest : List Oper} {o : Oper} {a : Act} {Q : Exit → Act → World → Prop} (hgd : o.guard = none) (s x : Operand)
    (ho : o.op = .call { callee := .builtin .append, args := #[s, x], argTypes := #[t, t] }) (hs : a.eval s = v) (hx : a.eval x = u) (hr : (Builtin.append_ #[t, t] o.type #[v, u]).run Try.prog w = .ok v' w')
    (hK : wpList Try.prog ops Q rest (a.put o.dst v') w') : wpList Try.prog ops Q (o :: rest) a w := by
  refine wpList_plain hgd fun _ hKK => ?_
  unfold Oper.wp execOp
  simp only [ho, resolve, invoke, builtin, Sem.run_bind, Sem.run_pure, Result.andThen_ok, List.map_toArray, List.map_cons, List.map_nil, hs, hx, hr]
  exact hKK _ _ hK
set_option maxRecDepth 100000 in
set_option maxHeartbeats 4000000 in
theorem missing_any {w : World} {a b : Option Addr} {ca cb : Nat} {l m : List Fi} (h : RdF w a l) (k : RdF w b m) (hl : l.length * 96 ≤ 140737488355328) (hm : m.length * 96 ≤ 140737488355328) (hkl : ∀ f ∈ l, FKy f) (hkm : ∀ f ∈ m, FKy f) :
    Calls Try.prog 61 #[.slice a l.length ca, .slice b m.length cb] w fun e w' => (∃ v, e = .returned v ∧ RowF w' (w.heap.size + 1) v (misB l m)) ∧ Below w.heap.size w w' := by
  have HR : Hid (RdF w a l ∧ RdF w b m) := ⟨h, k⟩
  have HK : Hid ((∀ f ∈ l, FKy f) ∧ ∀ f ∈ m, FKy f) := ⟨hkl, hkm⟩
  obtain ⟨N, hN⟩ : ∃ N, Hid (l.length = N) := ⟨_, rfl⟩
  obtain ⟨M, hM⟩ : ∃ M, Hid (m.length = M) := ⟨_, rfl⟩
  rw [hN.out] at hl ⊢
  rw [hM.out] at hm ⊢
  clear h k hkl hkm
  have F0 := FS.made w
  have hmk := fun W => make131 (M : Int) W
  have hMz : (M : Int) ≤ 1466015503701 := by omega
  have hNz : (N : Int) ≤ 1466015503701 := by omega
  have HMl : Hid (M < maxLen) := by show _ < _; unfold maxLen; omega
  go_enter Try.func61, Try.ntmps61
  go_wp2
  clear hmk
  go_loopw [18] (fun i wr => ∃ k : Nat, k ≤ M ∧ i = .int .i64 k ∧ Hid (FS wr w.heap.size (m.take k)) ∧ Hid (Below w.heap.size w wr)) (fun i _ => ((M : Int) - intOf i).toNat)
  case atStart => exact ⟨0, Nat.zero_le _, rfl, F0, al1 _ _⟩
  case round =>
    clear F0
    obtain ⟨k, hk, rfl, HF, HB⟩ := hrel
    rcases Nat.lt_or_ge k M with hkM | hkM
    · have hkz : (k : Int) < (M : Int) := by omega
      obtain ⟨g, hg⟩ : ∃ g, m[k]? = some g := ⟨_, List.getElem?_eq_getElem (by rw [hM.out]; exact hkM)⟩
      obtain ⟨ga, oa, e1, hat1⟩ := (HR.out.2.below HB.out).at_ hg
      obtain ⟨y0, y1, y2, y3, y4, y5, y6, y7, y8, y9⟩ := hat1.f
      have hgk := HK.out.2 g (List.mem_of_getElem? hg)
      have HS : Hid (m.take (k + 1) = m.take k ++ [g]) := take_snoc' hg
      obtain ⟨w2, hst, F2, hg2⟩ := (HF.out.below (al1 wr g.o)).store (by rw [List.length_take, hM.out]; have := HMl.out; omega) hgk
      subst e1
      have lF := HF.out.lt
      have HB2 : Hid (Below w.heap.size w w2) := (bstep HB.out (al1 wr g.o)).grown hg2 (by have := HB.out.size; simp; omega) (by intro k hk; cases hk; exact Nat.le_refl _)
      have HF2 : Hid (FS w2 w.heap.size (m.take (k + 1))) := by show FS _ _ _; rw [HS.out]; exact F2
      clear hg hat1 F2 hg2 HS
      go_wp2
      go_roundw
      case rel => exact ⟨k + 1, by omega, by go_num, HF2, HB2⟩
      case measure => simp [intOf]; omega
    · obtain rfl : k = M := by omega
      have hz : ¬ ((k : Int) < k) := by omega
      have HFm : Hid (FS wr w.heap.size m) := by
        have := HF.out
        rw [List.take_of_length_le (by rw [hM.out]; exact Nat.le_refl _)] at this
        exact this
      clear HF
      obtain ⟨W5, rfl⟩ : ∃ W5, W5 = wr := ⟨_, rfl⟩
      go_wp2
      clear hz
      go_loopw [8, 28] (fun v i wr => ∃ (k : Nat) (a' : Option Addr) (n c : Nat), k ≤ N ∧ i = .int .i64 k ∧ v = .slice a' n c ∧ Hid (RowF wr (w.heap.size + 1) (.slice a' n c) (misB (l.take k) m)) ∧ Hid (FS wr w.heap.size m) ∧ Hid (Below w.heap.size w wr)) (fun _ i _ => ((N : Int) - intOf i).toNat)
      case atStart => exact ⟨0, none, 0, 0, Nat.zero_le _, rfl, rfl, rowF_nil _ _, HFm, HB.out⟩
      case round =>
        clear HB HFm
        obtain ⟨k, a', n, c, hk, rfl, rfl, HRo, HF, HB⟩ := hrel
        rcases Nat.lt_or_ge k N with hkN | hkN
        · have hkz : (k : Int) < (N : Int) := by omega
          obtain ⟨g, hg⟩ : ∃ g, l[k]? = some g := ⟨_, List.getElem?_eq_getElem (by rw [hN.out]; exact hkN)⟩
          obtain ⟨ga, oa, e1, hat1⟩ := (HR.out.1.below HB.out).at_ hg
          obtain ⟨y0, y1, y2, y3, y4, y5, y6, y7, y8, y9⟩ := hat1.f
          have hgk := HK.out.1 g (List.mem_of_getElem? hg)
          have HS : Hid (l.take (k + 1) = l.take k ++ [g]) := take_snoc' hg
          have hlk := (HF.out.below (al1 wr g.o)).look hgk
          have HF2 := (HF.out.below (al1 wr g.o)).below (al1 _ (.cells #[] 98))
          have lF := HF.out.lt
          subst e1
          have hml : (misB (l.take k) m).length ≤ k := Nat.le_trans (misB_len _ _) (by rw [List.length_take]; omega)
          clear hg hat1
          cases hh : hasB m g
          · rw [hh] at hlk
            have HM2 : Hid (misB (l.take (k + 1)) m = misB (l.take k) m ++ [g]) := by show _ = _; rw [HS.out]; exact misB_snoc_yes hh
            have X := box_new ((wr.alloc g.o).alloc (.cells #[] 98)) g
            have b3 : Below wr.heap.size wr (((wr.alloc g.o).alloc (.cells #[] 98)).alloc g.o) := bstep (bstep (al1 _ _) (al1 _ _)) (al1 _ _)
            have hro := row_upd (S := Non) HRo.out (Upd.ofBelow b3) (fun _ _ h => h)
            obtain ⟨v', w', hr, ho, hu, hv, _⟩ := push_g fi_k fi_1 (t := 38) Try.underlying38 info50 rfl (by decide) hro (by have := HF.out.lt; have := b3.size; omega) X 38 (by omega) (by unfold maxLen; omega)
            obtain ⟨a2, c2, hv2⟩ := row_slice ho
            subst hv2
            have hbl := fun k hk => row_blk HRo.out k hk
            have HF3 : Hid (FS w' w.heap.size m) := (HF2.below (al1 _ g.o)).upd hu (fun hk => by have := hbl _ hk; omega)
            have HB3 : Hid (Below w.heap.size w w') := Upd.bel (bstep HB.out b3) hu (fun k hk => by have := (hbl k hk).1; omega) (bstep HB.out b3).size
            have hnl : (RowF w' (w.heap.size + 1) (.slice a2 (misB (l.take k) m ++ [g]).length c2) (misB (l.take (k + 1)) m)) := by rw [HM2.out]; exact ho
            obtain ⟨n2, hn2⟩ : ∃ n2, (misB (l.take k) m ++ [g]).length = n2 := ⟨_, rfl⟩
            rw [hn2] at hnl hr
            have HO3 : Hid (RowF w' (w.heap.size + 1) (.slice a2 n2 c2) (misB (l.take (k + 1)) m)) := hnl
            simp only [World.size_alloc] at hr
            clear ho hro hu hv HF2 hnl hn2 X b3 HM2 hh
            go_wp2_with (at_builtin; refine wpList_appt rfl _ _ rfl rfl rfl hr ?_)
            go_roundw
            case rel => exact ⟨k + 1, a2, n2, c2, by omega, by go_num, rfl, HO3, HF3, HB3⟩
            case measure => simp [intOf]; omega
          · rw [hh] at hlk
            have HM2 : Hid (misB (l.take (k + 1)) m = misB (l.take k) m) := by show _ = _; rw [HS.out]; exact misB_snoc_no hh
            have b3 : Below wr.heap.size wr ((wr.alloc g.o).alloc (.cells #[] 98)) := bstep (al1 _ _) (al1 _ _)
            have HO3 : Hid (RowF ((wr.alloc g.o).alloc (.cells #[] 98)) (w.heap.size + 1) (.slice a' n c) (misB (l.take (k + 1)) m)) := by
              show RowF _ _ _ _
              rw [HM2.out]
              exact row_upd (S := Non) HRo.out (Upd.ofBelow b3) (fun _ _ h => h)
            have HB3 : Hid (Below w.heap.size w ((wr.alloc g.o).alloc (.cells #[] 98))) := bstep HB.out b3
            have HF3 : Hid (FS ((wr.alloc g.o).alloc (.cells #[] 98)) w.heap.size m) := HF2
            clear HF2 b3 HM2 hh
            go_wp2
            go_roundw
            case rel => exact ⟨k + 1, a', n, c, by omega, by go_num, rfl, HO3, HF3, HB3⟩
            case measure => simp [intOf]; omega
        · obtain rfl : k = N := by omega
          have hz : ¬ ((k : Int) < k) := by omega
          have HO3 : Hid (RowF wr (w.heap.size + 1) (.slice a' n c) (misB l m)) := by
            have := HRo.out
            rw [List.take_of_length_le (by rw [hN.out]; exact Nat.le_refl _)] at this
            exact this
          go_wp2
          go_ret
          exact ⟨⟨_, rfl, HO3.out⟩, HB.out⟩
end Go.Proofs.Ytkmpcheamdadcaa
