/-
  Acts, as the form reads them.
  Both tell the same.
  The law's walk.
  For every comparator, every slice of bytes and every list of acts the law MemtableActs returns true and leaves its arguments as they read: whatever is put in, asked and gone through, a table is two sorted lists, as the document says.
  Conditions: none beyond the form's own reach; the two tables of package math/bits are as the program's text lays them (the card ties them; the walk reads the one of 64 numbers).
-/
import Derived.Test.YtocanjefonlnaaaDoorIp
import Derived.Test.YtocanjefonlnaaaDoorFr
import Derived.Deep.Strs
import Derived.Test.YtocanjefonlnaaaDoorHd
import Derived.Test.YtocanjefonlnaaaDoorHi
import Derived.Test.YtocanjefonlnaaaDoorIa
import Derived.Test.YtocanjefonlnaaaDoorLv
namespace Go.Proofs.YtocanjefonlnaaaDoor
open Go.RowKit Go.ChangeShapes Go.WideShapes Go.ChangeAt
set_option linter.unusedVariables false
set_option linter.unusedSimpArgs false
theorem cells40 : Tryd.prog.cellsOf 40 = 10 := by kernel_rfl
theorem cells38 : Tryd.prog.cellsOf 38 = 3 := by kernel_rfl
theorem cells33 : Tryd.prog.cellsOf 33 = 1 := by kernel_rfl
theorem list10 {cs : List Value} (h : cs.length = 10) : ∃ c0 c1 c2 c3 c4 c5 c6 c7 c8 c9, cs = [c0, c1, c2, c3, c4, c5, c6, c7, c8, c9] := by
  match cs, h with
  | [c0, c1, c2, c3, c4, c5, c6, c7, c8, c9], _ => exact ⟨c0, c1, c2, c3, c4, c5, c6, c7, c8, c9, rfl⟩
instance : Inhabited Am := ⟨⟨0, 0, 0, 0, 0, ⟨#[]⟩, ⟨#[]⟩, ⟨#[]⟩, 0, 0⟩⟩
set_option maxRecDepth 100000 in
theorem act_open {H : Type} {enc : TypeId × Value → H} {W : World} {base : Nat} {spare : Nat → Bool} {held : Bool} {n : Nat} {cs : List Value} {y : DataW H × List MemPlace} (h : DataW.trod enc Tryd.prog W base spare held n 40 cs = some y) :
    ∃ t : Am, cs = t.c ∧ AmOk t := by
  obtain ⟨xs, m, _, _, hl, hlen, hf⟩ := DataW.trod_struct Tryd.underlying40 h
  rw [cells40] at hl
  obtain ⟨c0, c1, c2, c3, c4, c5, c6, c7, c8, c9, rfl⟩ := list10 hl
  match xs, hlen with
  | [y0, y1, y2, y3, y4], _ =>
    have h0 : DataW.trod enc Tryd.prog W base spare held m 3 (List.take (Tryd.prog.cellsOf 3) (List.drop 0 [c0, c1, c2, c3, c4, c5, c6, c7, c8, c9])) = some y0 := hf 0 _ rfl
    have h1 : DataW.trod enc Tryd.prog W base spare held m 3 (List.take (Tryd.prog.cellsOf 3) (List.drop 1 [c0, c1, c2, c3, c4, c5, c6, c7, c8, c9])) = some y1 := hf 1 _ rfl
    have h2 : DataW.trod enc Tryd.prog W base spare held m 33 (List.take (Tryd.prog.cellsOf 33) (List.drop 2 [c0, c1, c2, c3, c4, c5, c6, c7, c8, c9])) = some y2 := hf 2 _ rfl
    have h3 : DataW.trod enc Tryd.prog W base spare held m 36 (List.take (Tryd.prog.cellsOf 36) (List.drop 3 [c0, c1, c2, c3, c4, c5, c6, c7, c8, c9])) = some y3 := hf 3 _ rfl
    have h4 : DataW.trod enc Tryd.prog W base spare held m 38 (List.take (Tryd.prog.cellsOf 38) (List.drop 7 [c0, c1, c2, c3, c4, c5, c6, c7, c8, c9])) = some y4 := hf 4 _ rfl
    simp only [cells9, cells33, cells3, cells36, cells38, List.drop_zero, List.drop_succ_cons, List.take_succ_cons, List.take_zero] at h0 h1 h2 h3 h4
    obtain ⟨ak, e0, _, w0⟩ := DataW.trod_int Tryd.underlying3 h0
    obtain ⟨stop, e1, _, w1⟩ := DataW.trod_int Tryd.underlying3 h1
    obtain ⟨seq, e2, _, w2⟩ := DataW.trod_int Tryd.underlying33 h2
    obtain ⟨r, er, _, _, _, rv⟩ := rec_open h3
    obtain ⟨z0, z1, z2, m2, _, _, k0, k1, k2⟩ := Go.Deep.trod_struct3 Tryd.underlying38 h4
    simp only [cells9, cells33, cells3, List.drop_zero, List.drop_succ_cons, List.take_succ_cons, List.take_zero] at k0 k1 k2
    obtain ⟨u, e7, _, _⟩ := DataW.trod_string Tryd.underlying9 k0
    obtain ⟨s, e8, _, _⟩ := DataW.trod_int Tryd.underlying33 k1
    obtain ⟨kd, e9, _, _⟩ := DataW.trod_int Tryd.underlying3 k2
    obtain ⟨rf, rk, rkey, rval⟩ := r
    simp [Rec.c] at e0 e1 e2 er e7 e8 e9
    obtain ⟨e3, e4, e5, e6⟩ := er
    subst e0 e1 e2 e3 e4 e5 e6 e7 e8 e9
    exact ⟨⟨ak, stop, seq, rf, rk, rkey, rval, u, s, kd⟩, rfl, (bounds_u64 w2).1, by unfold maxLen at rv; exact rv⟩
set_option maxRecDepth 100000 in
/-- A slice of acts, as the form reads it. -/
theorem acts_open {H : Type} {enc : TypeId × Value → H} {W : World} {held : Bool} {n : Nat} {a : Option Addr} {len cap : Nat} {x : DataW H × List MemPlace} (h : DataW.trod enc Tryd.prog W 0 (fun _ => true) held n 23 [.slice a len cap] = some x) :
    ∃ l : List Am, l.length = len ∧ Rg.Rd Am.c 10 W a l ∧ (∀ t ∈ l, AmOk t) ∧ (l = [] ∨ ∃ es sp, x.1 = .slice es sp ∧ es.length = l.length) := by
  rcases Go.Deep.open_slice Tryd.underlying23 h with ⟨h0, _⟩ | ⟨a', len', cap', m, n', D, Pl, hcs, hb, hl, hm, hmm, hx, hcell⟩
  · simp only [List.cons.injEq, Value.slice.injEq, and_true] at h0
    obtain ⟨rfl, rfl, rfl⟩ := h0
    exact ⟨[], rfl, .inl rfl, by simp, .inl rfl⟩
  · simp only [List.cons.injEq, Value.slice.injEq, and_true] at hcs
    obtain ⟨rfl, rfl, rfl⟩ := hcs
    simp only [if_true] at hmm
    subst hmm
    rw [cells40] at hcell
    obtain ⟨R, hR⟩ := Go.Deep.choose_lt (α := Am) (n := len) (p := fun i r => (∀ j, j < 10 → W.cell? (a'.add (i * 10 + j)) = r.c[j]?) ∧ AmOk r) (fun i hi => by
      obtain ⟨cs', h1, h2⟩ := hcell i (by omega)
      obtain ⟨_, _, hc⟩ := World.cells?_some h1
      obtain ⟨r, rfl, hr⟩ := act_open h2
      refine ⟨r, fun j hj => ?_, hr⟩
      have := hc j hj
      rw [Go.Deep.add_add] at this
      exact this)
    refine ⟨(List.range len).map R, by simp, ?_, fun t ht => ?_, .inr ⟨_, _, by rw [hx], by simp⟩⟩
    · by_cases hz : len = 0
      · subst hz
        exact .inl rfl
      · right
        obtain ⟨b, off, spot⟩ := a'
        have hc0 := (hR 0 (by omega)).1 0 (by decide)
        have hspot : spot = none := by
          have : W.cell? ((⟨b, off, spot⟩ : Addr).add (0 * 10 + 0)) = some (.int .i64 (R 0).ak) := hc0
          simpa [Addr.add] using World.cell?_spot this
        subst hspot
        refine ⟨b, off, rfl, fun j r hj i v hv => ?_⟩
        have hj' : j < len := by have := (List.getElem?_eq_some_iff.1 hj).1; simpa using this
        rw [List.getElem?_map, List.getElem?_range hj'] at hj
        simp at hj
        subst hj
        have hi : i < 10 := (List.getElem?_eq_some_iff.1 hv).1
        have hc := (hR j hj').1 i hi
        rw [add_at] at hc
        rw [Nat.add_assoc, hc]; exact hv
    · obtain ⟨i, hi, rfl⟩ := List.mem_map.1 ht
      exact (hR i (List.mem_range.1 hi)).2
end Go.Proofs.YtocanjefonlnaaaDoor
namespace Go.Proofs.YtocanjefonlnaaaDoor
open Go.RowKit
set_option linter.unusedVariables false
set_option linter.unusedSimpArgs false
set_option maxRecDepth 100000 in
set_option maxHeartbeats 8000000 in
theorem tells_any {w0 w : World} {T D : Nat} {B : Nat → Prop} {how : Int} {st : Ms} (h : Tw w0 w T D B how st st) (hI : Inv how st) (hE : Ends st) :
    Calls Tryd.prog 11 #[ptr T, ptr D] w fun e w' => e = .returned (.bool true) ∧ Below w.heap.size w w' := by
  have hln := hI.n
  unfold Ms.n at hln
  obtain ⟨la, lc, ta, tc, hR, hlc, htc, hl0, ht0, _⟩ := h.r.ex
  have HEn := rends_any hR (by omega) (by omega)
  have e1 : lst (st.E.map (·.s) ++ st.R.map (·.s)) = st.fi := (lst_is _).one hE.l
  have e2 : mst (st.E.map (·.s) ++ st.R.map (·.s)) = st.la := (mst_is _).one hE.m
  rw [e1, e2] at HEn
  clear e1 e2
  obtain ⟨N, hN⟩ : ∃ N, st.E.length = N := ⟨_, rfl⟩
  obtain ⟨M, hM⟩ : ∃ M, st.R.length = M := ⟨_, rfl⟩
  have HB : Hid (∀ W, Below w.heap.size w W → W.cell? ⟨D, 1, none⟩ = some (.slice la N lc) ∧ W.cell? ⟨D, 2, none⟩ = some (.slice ta M tc) ∧ W.cell? ⟨D, 3, none⟩ = some (.int .i64 st.sz)) := fun W hW => by
    have hb := (hR.below hW).blk
    rw [hN, hM] at hb
    exact ⟨hb.cell1 1 _ rfl, hb.cell1 2 _ rfl, hb.cell1 3 _ rfl⟩
  have HTo : Hid (∀ W, Below w.heap.size w W → Calls Tryd.prog 21 #[ptr T] W fun e w' => ∃ va vc, e = .returned (.slice va M vc) ∧ w'.ownsRow 0 81 3 (.slice va M vc) M (tcs st.R) ∧ Below W.heap.size W w' ∧ (∀ k, Value.ownBlock (.slice va M vc) = some k → W.heap.size ≤ k)) := fun W hW => by
    refine (tombs_tb (h.below hW).t (by omega)).mono ?_
    rintro e w' ⟨v', rfl, h1, h2, h3⟩
    rw [hM] at h1
    obtain ⟨a, c, e⟩ := row_slice h1
    subst e
    exact ⟨a, c, rfl, h1, h2, h3⟩
  have HSa : Hid (∀ W va vc, Below w.heap.size w W → W.ownsRow 0 81 3 (.slice va M vc) M (tcs st.R) → Calls Tryd.prog 20 #[.slice va M vc, .slice ta M tc] W fun e w' => e = .returned (.bool true) ∧ Below W.heap.size W w') := fun W va vc hW hr => by
    have r2 := (hR.below hW).rdt
    rw [← hM] at hr ⊢
    exact tombs_same (row_rdt hr) r2 (by omega)
  have HLe : Hid (∀ W, Below w.heap.size w W → Calls Tryd.prog 18 #[ptr T] W fun e w' => e = .returned (.int .i64 ((N : Int) + M)) ∧ w' = W.drew) := fun W hW => by
    have := tb_len (h.below hW).t (by unfold Ms.n; omega)
    unfold Ms.n at this
    rw [hN, hM] at this
    have e : ((N + M : Nat) : Int) = (N : Int) + M := by omega
    rw [e] at this
    exact this
  have HSz : Hid (∀ W, Below w.heap.size w W → Calls Tryd.prog 19 #[ptr T] W fun e w' => e = .returned (.int .i64 st.sz) ∧ w' = W) := fun W hW => size_tb (h.below hW).t
  have HFi : Hid (∀ W, Below w.heap.size w W → Calls Tryd.prog 29 #[ptr T] W fun e w' => e = .returned (.int .u64 st.fi) ∧ w' = W) := fun W hW => first_tb (h.below hW).t
  have HLa : Hid (∀ W, Below w.heap.size w W → Calls Tryd.prog 30 #[ptr T] W fun e w' => e = .returned (.int .u64 st.la) ∧ w' = W) := fun W hW => last_tb (h.below hW).t
  rw [hN, hM] at hln
  clear h hR hlc htc hl0 ht0 hE hI
  go_enter Tryd.func11, Tryd.ntmps11
  go_upto_region 3 with (first
    | (go_at_call 28; refine HEn.mono ?_; rintro e w2 ⟨rfl, hb2⟩; have HT2 := HTo.out _ hb2; clear HEn)
    | (go_at_call 21; refine HT2.mono ?_; rintro e w3 ⟨va, vc, rfl, hr3, hb3', hn3⟩; have hb3 : Below w.heap.size w w3 := hb2.trans (hb3'.mono hb2.size); clear HT2))
  obtain ⟨c1, c2, c3⟩ := HB.out _ hb3
  have hb3d : Below w.heap.size w w3.drew := hb3.drew
  have HS3 := HSa.out w3.drew va vc hb3d (row_upd hr3 (Upd.drew (Upd.refl Non w3)) (fun _ _ h => h))
  have hw1 : IntKind.i64.wrap ((N : Int) + M) = (N : Int) + M := by rw [IntKind.wrap_i64]; omega
  have hw2 : wrap64 ((N : Int) + M) = (N : Int) + M := by unfold wrap64; omega
  have hw3 : (((N : Int) + M) == ((N : Int) + M)) = true := by simp
  go_cut [8] (fun v wc => v = .bool true ∧ Hid (Below w3.heap.size w3 wc))
  case first =>
    go_region_held_law (fun w' => w'.cell? ⟨D, 1, none⟩ = some (.slice la N lc) ∧ w'.cell? ⟨D, 2, none⟩ = some (.slice ta M tc) ∧ w'.cell? ⟨D, 3, none⟩ = some (.int .i64 st.sz))
      (first
        | (go_keep; done)
        | exact HB.out _ (hb3.trans (hb5.mono hb3.size))
        | exact HB.out _ (hb3.trans (hb4.mono hb3.size)))
      (first
        | (go_at_call 20; refine HS3.mono ?_; rintro e w4 ⟨rfl, hb4'⟩; have hb4 : Below w3.heap.size w3 w4 := ((Below.refl _ w3).drew).trans hb4'; have HL4 := HLe.out _ (hb3.trans (hb4.mono hb3.size)); clear HS3)
        | (go_at_call 18; refine HL4.mono ?_; rintro e w5 ⟨rfl, hw5⟩; have hb5 : Below w3.heap.size w3 w5 := by rw [hw5]; exact hb4.drew
           have H19 := HSz.out _ (hb3.trans (hb5.mono hb3.size))
           have H29 := HFi.out _ (hb3.trans (hb5.mono hb3.size))
           have H30 := HLa.out _ (hb3.trans (hb5.mono hb3.size))
           clear hw5 HL4)
        | (go_at_call 19; refine H19.mono ?_; rintro e w6 ⟨rfl, hw⟩; have hw' := hw.symm; subst hw')
        | (go_at_call 29; refine H29.mono ?_; rintro e w6 ⟨rfl, hw⟩; have hw' := hw.symm; subst hw')
        | (go_at_call 30; refine H30.mono ?_; rintro e w6 ⟨rfl, hw⟩; have hw' := hw.symm; subst hw'))
    go_wp2_with fail
    go_meet
    case rel => exact ⟨rfl, hb5⟩
  case rest =>
    obtain ⟨rfl, hh⟩ := hcut
    have hb4 := hh.out
    have hr4 := row_upd hr3 (Upd.ofBelow (S := Non) hb4) (fun _ _ h => h)
    clear c1 c2 c3 HS3 hb3d hr3 hh
    obtain ⟨g, hg⟩ : ∃ g, 0 < M → va = some ⟨g, 0, none⟩ ∧ w.heap.size ≤ g ∧ ∃ cs, Blk wc g 81 cs ∧ M * 3 ≤ cs.length := by
      by_cases hM0 : 0 < M
      · rcases hr4.2 with ⟨e, h1⟩ | ⟨g, cap, cur, e, hb, hgg, h5, h6⟩
        · omega
        · injection e with e3 _ _
          refine ⟨g, fun _ => ⟨e3, ?_, cur.toList, ?_, ?_⟩⟩
          · have := hn3 g (by rw [e3]; rfl)
            have := hb2.size
            omega
          · unfold Blk; simpa using hgg
          · have h7 := h6.2.1
            have h8 := Nat.mul_le_mul_right 3 h5
            rw [Array.length_toList, h7]; exact h8
      · exact ⟨0, fun h => absurd h hM0⟩
    have hb5 : Below w.heap.size w wc := hb3.trans (hb4.mono hb3.size)
    clear hr4 hn3 hb4 hb3' hw1 hw2 hw3
    go_wp2_with fail
    go_loopw [9] (fun v wr => ∃ i : Nat, v = .int .i64 i ∧ i ≤ M ∧ Hid (Below w.heap.size w wr) ∧ Hid (0 < M → ∃ cs, Blk wr g 81 cs ∧ M * 3 ≤ cs.length)) (fun v wr => M - (intOf v).toNat)
    case atStart => exact ⟨0, rfl, Nat.zero_le _, hb5, fun h => (hg h).2.2⟩
    case round =>
      obtain ⟨i, rfl, hi, hB, hC⟩ := hrel
      by_cases hlt : i < M
      · have hlt' : (i : Int) < (M : Int) := by omega
        obtain ⟨hva, hgs, _⟩ := hg (by omega)
        obtain ⟨cs, hBk, hcl⟩ := hC.out (by omega)
        subst hva
        have k0 := hBk.cell1 (i * 3) _ (List.getElem?_eq_getElem (by omega))
        have k1 := hBk.cell1 (i * 3 + 1) _ (List.getElem?_eq_getElem (by omega))
        have k2 := hBk.cell1 (i * 3 + 2) _ (List.getElem?_eq_getElem (by omega))
        have f0 := hBk.frozen (i * 3)
        have f1 := hBk.frozen (i * 3 + 1)
        have f2 := hBk.frozen (i * 3 + 2)
        generalize cs[i * 3]'(by omega) = u0 at *
        generalize cs[i * 3 + 1]'(by omega) = u1 at *
        generalize cs[i * 3 + 2]'(by omega) = u2 at *
        go_wp2_with fail
        go_roundw
        case rel => exact ⟨i + 1, by go_num, hlt, ((hB.out.setCell (by simpa using hgs) _).setCell (by simpa using hgs) _).setCell (by simpa using hgs) _, fun _ => ⟨_, ((hBk.set _ _).set _ _).set _ _, by simpa using hcl⟩⟩
        case measure => first | (simp [intOf]; done) | (simp [intOf]; omega)
      · have hlt' : (i : Int) = (M : Int) := by omega
        obtain rfl : i = M := by omega
        obtain ⟨c1, c2, c3⟩ := HB.out _ hB.out
        have HT6 := HTo.out wr.drew hB.out.drew
        go_upto_region 8 with fail
        go_region_held_law (fun w' => w'.cell? ⟨D, 2, none⟩ = some (.slice ta i tc))
          (first
            | (go_keep; done)
            | exact (HB.out _ hb8).2.1
            | exact (HB.out _ hb7).2.1)
          (first
            | (go_at_call 21; refine HT6.mono ?_; rintro e w7 ⟨va', vc', rfl, hr7, hb7', hn7⟩; have hb7 : Below w.heap.size w w7 := hB.out.drew.trans (hb7'.mono hB.out.drew.size); have HS7 := HSa.out _ _ _ hb7 hr7; clear HT6)
            | (go_at_call 20; refine HS7.mono ?_; rintro e w8 ⟨rfl, hb8'⟩; have hb8 : Below w.heap.size w w8 := hb7.trans (hb8'.mono hb7.size); clear HS7))
        go_wp2_with fail
        go_ret
        exact ⟨rfl, hb8⟩
end Go.Proofs.YtocanjefonlnaaaDoor
namespace Go.Proofs.YtocanjefonlnaaaDoor
open Go.RowKit Go.Shelf
set_option linter.unusedVariables false
set_option linter.unusedSimpArgs false
theorem info5h : (Tryd.prog.info? 5).map (fun i => (i.zero, i.size, i.bytes)) = some (some (.int .u8 0), 1, 1) := by kernel_rfl
/-- A slice of bytes as an argument. -/
def RdA (w : World) (a : Option Addr) (l : List Int) : Prop := l = [] ∨ ∃ b off, a = some ⟨b, off, none⟩ ∧ b < w.heap.size ∧ ∀ j u, (bc l)[j]? = some u → w.cell? ((⟨b, off, none⟩ : Addr).add j) = some u
/-- A copy of bytes: append([]byte{}, l...). -/
theorem bytes_copy {w : World} {a : Option Addr} {cap : Nat} {l : List Int} (ty : TypeId) (h : RdA w a l) (hl : l.length ≤ 140737488355328) :
    ∃ av cv w', (Builtin.append_ #[22, 22] ty #[.slice (some ⟨w.heap.size, 0, none⟩) 0 0, .slice a l.length cap]).run Tryd.prog (w.alloc (.cells #[] 5)) = .ok (.slice av l.length cv) w' ∧ RdB w' (.slice av l.length cv) l ∧ l.length ≤ cv ∧ Below w.heap.size w w' := by
  obtain ⟨i0, hi, hz0, hz1, hz2⟩ := info_parts info5h
  have hB0 : Below w.heap.size w (w.alloc (.cells #[] 5)) := (Below.refl _ w).alloc (Nat.le_refl _) _
  rcases h with rfl | ⟨b, off, rfl, hlt, hc⟩
  · have hsrc : Src Tryd.prog i0.size 22 (.slice a 0 cap) 0 [] (w.alloc (.cells #[] 5)) := by
      cases a with
      | none => exact Src.ofNil _ Tryd.underlying22 cap
      | some x => exact Src.ofSlice _ Tryd.underlying22 x 0 cap [] (by simp) (by simp) (by simp)
    have := run_append_room_src (P := Tryd.prog) (w.alloc (.cells #[] 5)) 22 22 ty 5 i0 Tryd.underlying22 hi w.heap.size 0 0 0 _ 0 [] hsrc (Nat.le_refl _) (by simp) (by simp)
    refine ⟨_, _, _, this, .inr ⟨w.heap.size, 0, _, rfl, by simp [World.setCells], by simp [bc]⟩, Nat.le_refl _, by simpa [World.setCells] using hB0⟩
  · have hown : (w.alloc (.cells #[] 5)).ownsRow 0 5 1 (.slice (some ⟨w.heap.size, 0, none⟩) 0 0) 0 [] := ⟨rfl, .inr ⟨w.heap.size, 0, #[], rfl, Nat.zero_le _, heap_alloc_new w _, Nat.le_refl _, by unfold maxLen; omega, rfl, rfl⟩⟩
    obtain ⟨v', w', hr, h2, h3, h4, h5⟩ := run_append_own_at (P := Tryd.prog) (w.alloc (.cells #[] 5)) 0 22 ty 5 i0 (.int .u8 0) 1 1 Tryd.underlying22 hi hz0 hz1 hz2 rfl (by decide) _ 0 [] hown ⟨b, off, none⟩ l.length cap (bc l) (by simp [bc]) (by
      intro j u hu
      rw [← hc j u hu]
      exact World.cell?_of_block (by
        have e : ((⟨b, off, none⟩ : Addr).add j).block = b := by unfold Addr.add; split <;> rfl
        rw [e]; exact Below.heap_alloc _ _ _ hlt)) (bc_one l) (by unfold maxLen; omega) (by omega) (Nat.zero_le _)
    rw [Nat.zero_add, List.nil_append] at h2
    have h2' : RowB w' v' l := h2
    have hb : Below w.heap.size w w' := hB0.grown h3 (by simp) (by intro k hk; cases hk; exact Nat.le_refl _)
    have hrd := h2'.rd
    rcases h2'.2 with ⟨rfl, h0⟩ | ⟨g, cv, cur, rfl, h6, h7, h8, _⟩
    · rw [h0] at hr ⊢; exact ⟨none, 0, w', hr, hrd, Nat.le_refl _, hb⟩
    · exact ⟨_, cv, w', hr, hrd, h8, hb⟩
/-- .. at a step of a walk. -/
theorem wpl_bytes {ops : Array Oper} {rest : List Oper} {o : Oper} {a : Act} {Q : Exit → Act → World → Prop} {w : World} (hgd : o.guard = none) {d : Nat} (hd : o.dst = some d) (s x : Operand)
    (ho : o.op = .call { callee := .builtin .append, args := #[s, x], argTypes := #[22, 22] }) {aa : Option Addr} {cap : Nat} {l : List Int} (hs : a.eval s = .slice (some ⟨w.heap.size, 0, none⟩) 0 0) (hx : a.eval x = .slice aa l.length cap) (hS : RdA w aa l) (hl : l.length ≤ 140737488355328)
    (h : ∀ av cv w', RdB w' (.slice av l.length cv) l → l.length ≤ cv → Below w.heap.size w w' → wpList Tryd.prog ops Q rest (a.put (some d) (.slice av l.length cv)) w') : wpList Tryd.prog ops Q (o :: rest) a (w.alloc (.cells #[] 5)) := by
  refine wpList_plain hgd fun K hK => ?_
  obtain ⟨av, cv, w', hr, h2, h3, h4⟩ := bytes_copy o.type hS hl (cap := cap)
  unfold Oper.wp execOp
  simp only [ho, resolve, invoke, builtin, Sem.run_bind, Sem.run_pure, Result.andThen_ok, List.map_toArray, List.map_cons, List.map_nil, hs, hx, hr]
  refine hK _ _ ?_
  rw [hd]
  exact h av cv w' h2 h3 h4
end Go.Proofs.YtocanjefonlnaaaDoor
namespace Go.Proofs.YtocanjefonlnaaaDoor
open Go.RowKit
set_option linter.unusedVariables false
set_option linter.unusedSimpArgs false
theorem step_call10 {ops : Array Oper} {o : Oper} {a : Act} {w : World} {K : Act → World → Prop} {Q : Exit → Act → World → Prop} {Ex : Prop} (hw : Region.wanted o (yielded ops a.tmps) = true) {d : Nat} (hd : o.dst = some d) (x y z : Operand) (ts : Array TypeId)
    (ho : o.op = .call { callee := .value (.func 10), args := #[x, y, z], argTypes := ts }) (u v q : Value) (hx : a.eval x = u) (hy : a.eval y = v) (hz : a.eval z = q) {R : Ending → World → Prop} (hc : Calls Tryd.prog 10 #[u, v, q] w R)
    (h : ∀ e w', R e w' → ∃ r, e = .returned r ∧ K (a.put (some d) r) w') :
    if Region.wanted o (yielded ops a.tmps) = true then Oper.wp Tryd.prog o a w K Q else Ex := by
  rw [if_pos hw]
  have he := enters_of (P := Tryd.prog) Tryd.func10 (by kernel_rfl) rfl #[u, v, q]
  unfold Oper.wp execOp
  simp only [ho, resolve, invoke, Sem.run_bind, Sem.run_pure, Result.andThen_ok, List.map_toArray, List.map_cons, List.map_nil, hx, hy, hz, go_sem]
  show Oper.upon Tryd.prog o a K Q (Sem.run Tryd.prog (callFunc 10 (#[] ++ #[a.eval x, a.eval y, a.eval z] ++ #[])) w)
  rw [show (#[] ++ #[a.eval x, a.eval y, a.eval z] ++ #[] : Array Value) = #[u, v, q] by simp [hx, hy, hz], he, Oper.upon_enter]
  refine hc.mono ?_
  intro e w' hR
  obtain ⟨r, rfl, hk⟩ := h e w' hR
  show K (a.put o.dst r) w'
  rw [hd]; exact hk
theorem Dn.bel {w0 : World} {T D : Nat} {how : Int} {w' : World} (h : Dn w0 T D how w') : Below w0.heap.size w0 w' := by
  obtain ⟨B, st, t, _, _⟩ := h
  exact t.bel
set_option maxRecDepth 100000 in
set_option maxHeartbeats 8000000 in
theorem macts_walk {w : World} (hz : Tz w) (h2 : 2 < w.heap.size) (how : Int) {ha : Option Addr} {hl : List Int} (hc : Nat) (HH : RdA w ha hl) (hhl : hl.length ≤ 140737488355328) (hbb : ∀ y ∈ hl, 0 ≤ y ∧ y < 256) {aa : Option Addr} (ac : Nat) {xs : List Am} (hx : Rg.Rd Am.c 10 w aa xs) (hok : ∀ x ∈ xs, AmOk x) (hln : xs.length ≤ 140737488355328) :
    Calls Tryd.prog 3 #[.int .i64 how, .slice ha hl.length hc, .slice aa xs.length ac] w fun e w' => e = .returned (.bool true) ∧ Below w.heap.size w w' := by
  have HH' : Hid _ := HH
  clear HH
  by_cases hh : how = 0 ∨ how = 1
  · have HN : Hid (∀ av cv w1, RdB w1 (.slice av hl.length cv) hl → hl.length ≤ cv → Below w.heap.size w w1 → Calls Tryd.prog 7 #[.int .i64 how, .slice av hl.length cv] w1 fun e w' => ∃ T, e = .returned (.tuple #[ptr T, .int .i64 0]) ∧ Tb w' T (newB w1 w') how ⟨[], [], 0, 0, 0⟩ ∧ Below w1.heap.size w1 w' ∧ w1.heap.size ≤ T) := fun av cv w1 h1 h3 h4 => new_any h1 h3 (by omega) hbb hh
    have HM := fun W => rnew_yes hh W
    go_enter Tryd.func3, Tryd.ntmps3
    go_upto_region 3 with (first
      | (at_builtin; refine wpl_bytes rfl rfl _ _ rfl rfl rfl HH'.out hhl ?_; intro av cv w1 hrd hcv hb1; have HN1 := HN.out _ _ _ hrd hcv hb1)
      | (go_at_call 7; refine HN1.mono ?_; rintro e w2 ⟨T, rfl, hT, hb2, hT2⟩; clear HN1)
      | (go_at_call 8; refine (HM _).mono ?_; rintro e w3 ⟨rfl, hw3⟩))
    have hw4 : Below w.heap.size w w2 := hb1.trans (hb2.mono hb1.size)
    have T0 : Tw w (w2.alloc (.cells #[.int .i64 how, .slice none 0 0, .slice none 0 0, .int .i64 0] 74)) T w2.heap.size (newB w1 w2) how ⟨[], [], 0, 0, 0⟩ ⟨[], [], 0, 0, 0⟩ := by
      have ba : Below w2.heap.size w2 (w2.alloc (.cells #[.int .i64 how, .slice none 0 0, .slice none 0 0, .int .i64 0] 74)) := (Below.refl _ _).alloc (Nat.le_refl _) _
      refine ⟨hT.below ba, ⟨none, 0, none, 0, ⟨Blk.new w2 74 _, .inl rfl, .inl ⟨rfl, rfl⟩⟩, Nat.le_refl _, Nat.le_refl _, fun _ => ⟨rfl, rfl⟩, fun _ => ⟨rfl, rfl⟩, (fun _ _ e => by cases e), (fun _ _ e => by cases e)⟩, fun k hk => Nat.lt_of_lt_of_le hk.2 ba.size, fun k hk => Nat.le_trans hb1.size hk.1, hw4.size, fun hk => by have := hk.2; omega, hw4.trans (ba.mono hw4.size), hz⟩
    have D0 : Dn w T w2.heap.size how (w2.alloc (.cells #[.int .i64 how, .slice none 0 0, .slice none 0 0, .int .i64 0] 74)) := ⟨_, _, T0, inv_nil how, Ends.nil⟩
    clear T0 hT hrd HN HM HH'
    obtain ⟨D, hD⟩ : ∃ D, w2.heap.size = D := ⟨_, rfl⟩
    rw [hD] at D0
    rw [hD]
    generalize w2.alloc (.cells #[.int .i64 how, .slice none 0 0, .slice none 0 0, .int .i64 0] 74) = w4 at *
    go_wp2_with fail
    go_loopw [11] (fun v wr => ∃ k : Nat, v = .int .i64 k ∧ k ≤ xs.length ∧ Hid (Dn w T D how wr)) (fun v wr => xs.length - (intOf v).toNat)
    case atStart => exact ⟨0, rfl, Nat.zero_le _, D0⟩
    case round =>
      clear D0
      obtain ⟨k, rfl, hkl, HDn⟩ := hrel
      have hbw := HDn.out.bel
      by_cases hlt : k < xs.length
      · have hlt' : (k : Int) < (xs.length : Int) := by omega
        obtain ⟨b, off, haa, hat⟩ : ∃ b off, aa = some ⟨b, off, none⟩ ∧ Rg.At Am.c w b (off + k * 10) xs[k] := by
          rcases hx with e | ⟨g, o, e, hh⟩
          · rw [e] at hlt; simp at hlt
          · exact ⟨g, o, e, hh k _ (List.getElem?_eq_getElem hlt)⟩
        subst haa
        have hxk := hok _ (List.getElem_mem hlt)
        obtain ⟨B1, s1, t1, i1, n1⟩ := HDn.out
        have HD := does_any t1 i1 n1 hxk
        generalize xs[k] = x at *
        obtain ⟨ak, stop, seq, f, rk, rkey, rval, U, S, K⟩ := x
        dsimp only at HD
        have KP : Hid (∀ W, Below w.heap.size w W → W.cell? ⟨b, off + k * 10, none⟩ = some (.int .i64 ak) ∧ W.cell? ⟨b, off + k * 10 + 1, none⟩ = some (.int .i64 stop) ∧ W.cell? ⟨b, off + k * 10 + 2, none⟩ = some (.int .u64 seq) ∧ W.cell? ⟨b, off + k * 10 + 3, none⟩ = some (.int .u32 f) ∧ W.cell? ⟨b, off + k * 10 + 4, none⟩ = some (.int .i64 rk) ∧ W.cell? ⟨b, off + k * 10 + 5, none⟩ = some (.string rkey) ∧ W.cell? ⟨b, off + k * 10 + 6, none⟩ = some (.string rval) ∧ W.cell? ⟨b, off + k * 10 + 7, none⟩ = some (.string U) ∧ W.cell? ⟨b, off + k * 10 + 8, none⟩ = some (.int .u64 S) ∧ W.cell? ⟨b, off + k * 10 + 9, none⟩ = some (.int .i64 K)) := fun W hW => ⟨keepc hW (hat 0 _ rfl), keepc hW (hat 1 _ rfl), keepc hW (hat 2 _ rfl), keepc hW (hat 3 _ rfl), keepc hW (hat 4 _ rfl), keepc hW (hat 5 _ rfl), keepc hW (hat 6 _ rfl), keepc hW (hat 7 _ rfl), keepc hW (hat 8 _ rfl), keepc hW (hat 9 _ rfl)⟩
        obtain ⟨a0, a1, a2, a3, a4, a5, a6, a7, a8, a9⟩ := KP.out _ hbw
        clear hat hxk t1 i1 n1
        have hk6 : k % 6 = 0 ∨ k % 6 = 1 ∨ k % 6 = 2 ∨ k % 6 = 3 ∨ k % 6 = 4 ∨ k % 6 = 5 := by omega
        rcases hk6 with hk6 | hk6 | hk6 | hk6 | hk6 | hk6
        · have hk6' : (k : Int).tmod 6 = 0 := by rw [Int.tmod_eq_emod_of_nonneg (by omega)]; omega
          clear hk6
          go_wp2_with (first
            | (go_at_call 10; refine HD.mono ?_; rintro e w3 ⟨rfl, D3'⟩
               have D3 : Hid _ := D3'
               obtain ⟨B3, s3, t3, i3, e3⟩ := D3'
               have HT := tells_any t3 i3 e3
               have T3 : Hid _ := t3
               clear HD t3)
            | (go_at_call 11; refine HT.mono ?_; rintro e w4 ⟨rfl, hb4⟩
               have D4 : Hid (Dn w T D how w4) := ⟨B3, s3, T3.out.below hb4, i3, e3⟩
               clear HT))
          go_roundw
          case rel => exact ⟨k + 1, by go_num, hlt, D3.out⟩
          case measure => first | (simp [intOf]; done) | (simp [intOf]; omega)
        · have hk6' : (k : Int).tmod 6 = 1 := by rw [Int.tmod_eq_emod_of_nonneg (by omega)]; omega
          clear hk6
          go_wp2_with (first
            | (go_at_call 10; refine HD.mono ?_; rintro e w3 ⟨rfl, D3'⟩
               have D3 : Hid _ := D3'
               obtain ⟨B3, s3, t3, i3, e3⟩ := D3'
               have HT := tells_any t3 i3 e3
               have T3 : Hid _ := t3
               clear HD t3)
            | (go_at_call 11; refine HT.mono ?_; rintro e w4 ⟨rfl, hb4⟩
               have D4 : Hid (Dn w T D how w4) := ⟨B3, s3, T3.out.below hb4, i3, e3⟩
               clear HT))
          go_roundw
          case rel => exact ⟨k + 1, by go_num, hlt, D3.out⟩
          case measure => first | (simp [intOf]; done) | (simp [intOf]; omega)
        · have hk6' : (k : Int).tmod 6 = 2 := by rw [Int.tmod_eq_emod_of_nonneg (by omega)]; omega
          clear hk6
          go_wp2_with (first
            | (go_at_call 10; refine HD.mono ?_; rintro e w3 ⟨rfl, D3'⟩
               have D3 : Hid _ := D3'
               obtain ⟨B3, s3, t3, i3, e3⟩ := D3'
               have HT := tells_any t3 i3 e3
               have T3 : Hid _ := t3
               clear HD t3)
            | (go_at_call 11; refine HT.mono ?_; rintro e w4 ⟨rfl, hb4⟩
               have D4 : Hid (Dn w T D how w4) := ⟨B3, s3, T3.out.below hb4, i3, e3⟩
               clear HT))
          go_roundw
          case rel => exact ⟨k + 1, by go_num, hlt, D3.out⟩
          case measure => first | (simp [intOf]; done) | (simp [intOf]; omega)
        · have hk6' : (k : Int).tmod 6 = 3 := by rw [Int.tmod_eq_emod_of_nonneg (by omega)]; omega
          clear hk6
          go_wp2_with (first
            | (go_at_call 10; refine HD.mono ?_; rintro e w3 ⟨rfl, D3'⟩
               have D3 : Hid _ := D3'
               obtain ⟨B3, s3, t3, i3, e3⟩ := D3'
               have HT := tells_any t3 i3 e3
               have T3 : Hid _ := t3
               clear HD t3)
            | (go_at_call 11; refine HT.mono ?_; rintro e w4 ⟨rfl, hb4⟩
               have D4 : Hid (Dn w T D how w4) := ⟨B3, s3, T3.out.below hb4, i3, e3⟩
               clear HT))
          go_roundw
          case rel => exact ⟨k + 1, by go_num, hlt, D3.out⟩
          case measure => first | (simp [intOf]; done) | (simp [intOf]; omega)
        · have hk6' : (k : Int).tmod 6 = 4 := by rw [Int.tmod_eq_emod_of_nonneg (by omega)]; omega
          clear hk6
          go_wp2_with (first
            | (go_at_call 10; refine HD.mono ?_; rintro e w3 ⟨rfl, D3'⟩
               have D3 : Hid _ := D3'
               obtain ⟨B3, s3, t3, i3, e3⟩ := D3'
               have HT := tells_any t3 i3 e3
               have T3 : Hid _ := t3
               clear HD t3)
            | (go_at_call 11; refine HT.mono ?_; rintro e w4 ⟨rfl, hb4⟩
               have D4 : Hid (Dn w T D how w4) := ⟨B3, s3, T3.out.below hb4, i3, e3⟩
               clear HT))
          go_roundw
          case rel => exact ⟨k + 1, by go_num, hlt, D3.out⟩
          case measure => first | (simp [intOf]; done) | (simp [intOf]; omega)
        · have hk6' : (k : Int).tmod 6 = 5 := by rw [Int.tmod_eq_emod_of_nonneg (by omega)]; omega
          clear hk6
          go_wp2_with (first
            | (go_at_call 10; refine HD.mono ?_; rintro e w3 ⟨rfl, D3'⟩
               have D3 : Hid _ := D3'
               obtain ⟨B3, s3, t3, i3, e3⟩ := D3'
               have HT := tells_any t3 i3 e3
               have T3 : Hid _ := t3
               clear HD t3)
            | (go_at_call 11; refine HT.mono ?_; rintro e w4 ⟨rfl, hb4⟩
               have D4 : Hid (Dn w T D how w4) := ⟨B3, s3, T3.out.below hb4, i3, e3⟩
               clear HT))
          go_roundw
          case rel => exact ⟨k + 1, by go_num, hlt, D4.out⟩
          case measure => first | (simp [intOf]; done) | (simp [intOf]; omega)
      · have hlt' : (k : Int) = (xs.length : Int) := by omega
        obtain rfl : k = xs.length := by omega
        obtain ⟨B1, s1, t1, i1, n1⟩ := HDn.out
        have HT := tells_any t1 i1 n1
        have HLv : Hid (∀ W, Below w.heap.size w W → Calls Tryd.prog 9 #[] W fun e w' => e = .returned (.bool true) ∧ Below W.heap.size W w') := fun W hW => lives_any (hz.below hW) (Nat.lt_of_lt_of_le h2 hW.size)
        clear t1 i1 n1
        go_wp2_with (first
          | (go_at_call 11; refine HT.mono ?_; rintro e w5 ⟨rfl, hb5'⟩; have hb5 : Below w.heap.size w w5 := hbw.trans (hb5'.mono hbw.size); have HL := HLv.out _ hb5; clear HT)
          | (go_at_call 9; refine HL.mono ?_; rintro e w6 ⟨rfl, hb6⟩))
        go_ret
        exact ⟨rfl, hb5.trans (hb6.mono hb5.size)⟩
  · have h0 : ¬ how = 0 := fun e => hh (.inl e)
    have h1 : ¬ how = 1 := fun e => hh (.inr e)
    have HM := fun W => rnew_no h0 h1 W
    have HLv : Hid (∀ W, Below w.heap.size w W → Calls Tryd.prog 9 #[] W fun e w' => e = .returned (.bool true) ∧ Below W.heap.size W w') := fun W hW => lives_any (hz.below hW) (Nat.lt_of_lt_of_le h2 hW.size)
    have HNo : Hid (∀ av cv w1, Calls Tryd.prog 7 #[.int .i64 how, .slice av hl.length cv] w1 fun e w' => e = .returned (.tuple #[.pointer none, .int .i64 1]) ∧ w' = w1) := fun av cv w1 => new_no h0 h1
    clear hh h0 h1
    go_enter Tryd.func3, Tryd.ntmps3
    go_wp2_with (first
      | (at_builtin; refine wpl_bytes rfl rfl _ _ rfl rfl rfl HH'.out hhl ?_; intro av cv w1 hrd hcv hb1; have HN1 := HNo.out av cv w1; have HL := HLv.out _ hb1)
      | (go_at_call 7; refine HN1.mono ?_; rintro e w2 ⟨rfl, hw⟩; have hw' := hw.symm; subst hw'; clear HN1)
      | (go_at_call 8; refine (HM _).mono ?_; rintro e w3 ⟨rfl, hw⟩; have hw' := hw.symm; subst hw')
      | (go_at_call 9; refine HL.mono ?_; rintro e w6 ⟨rfl, hb6⟩))
    go_ret
    exact ⟨rfl, hb1.trans (hb6.mono hb1.size)⟩
end Go.Proofs.YtocanjefonlnaaaDoor
namespace Go.Proofs.YtocanjefonlnaaaDoor.memtableActs
open Go.ChangeShapes Go.WideShapes Go.ChangeAt Go.RowKit
open Go.ChangeMaps (open_string shut_string)
set_option linter.unusedVariables false

/-- A slice of bytes as the form reads it. -/
theorem arga_open {W : World} {x : Addr} {len cap : Nat} {zs : List Int} (hl : len ≤ cap) (hz : zs.length = cap) (hcell : ∀ i, i < zs.length → W.cell? (x.add i) = some (.int .u8 (zs.getD i 0))) : RdA W (some x) (zs.take len) := by
  by_cases h0 : len = 0
  · left; subst h0; simp
  · right
    obtain ⟨b, off, spot⟩ := x
    have hc := hcell 0 (by omega)
    have hspot : spot = none := by simpa [Addr.add] using World.cell?_spot hc
    subst hspot
    have hlt := World.block_lt_of_cell? W _ hc
    rw [add_at] at hlt
    refine ⟨b, off, rfl, hlt, fun j u hj => ?_⟩
    have hj' : j < (zs.take len).length := by
      have := (List.getElem?_eq_some_iff.1 hj).1
      simpa [bc] using this
    have hjl : j < len := by rw [List.length_take] at hj'; omega
    have := hcell j (by omega)
    rw [this]
    unfold bc at hj
    rw [List.getElem?_map, List.getElem?_take_of_lt hjl, List.getElem?_eq_getElem (by omega)] at hj
    simp at hj
    rw [← hj, List.getD_eq_getElem?_getD, List.getElem?_eq_getElem (by omega)]
    rfl
theorem own : ownKnob Tryd.prog.godebug = none := by kernel_rfl
theorem laidOut : laidOutB Tryd.prog = true := by kernel_rfl
/-- The cells of the two tables. -/
def cells0 : Array Value := (tab32.map fun n => Value.int .u8 n).toArray
def cells1 : Array Value := (tab64.map fun n => Value.int .u8 n).toArray
/-- A world in which they lie so. -/
noncomputable def laidWorld (os : Os) : World :=
  let w0 := World.holding Tryd.prog os ⟨#[], #[], []⟩
  { w0 with heap := (w0.heap.modify 1 fun
      | .cells _ t frozen => .cells cells0 t frozen
      | o => o).modify 2 fun
      | .cells _ t frozen => .cells cells1 t frozen
      | o => o }
set_option maxRecDepth 100000 in
theorem laidWorld_met (os : Os) (args : Array Value) : laidMetH Tryd.prog Rows.memtableActsRow.laid ((laidWorld os).forCall (fun _ _ => 0) ⟨#[], args, []⟩).memory :=
  laidMetH_of_parts (laidMet_of_run' 8 (by kernel_rfl) (by kernel_rfl)) (by kernel_rfl)

set_option maxRecDepth 100000 in
theorem lifted (os : Os) (started : os.Started) (H : Type) (enc : TypeId × Value → H) :
    ReturnsInHanded {} Tryd.checked os 3 .any (fun w args => (Rows.memtableActsSpec.pre enc Tryd.prog Tryd.f3 [] false w args ∧ laidMetH Tryd.prog Rows.memtableActsRow.laid w) ∧ sizedMet enc Tryd.prog Tryd.f3 (OpenSpec.ofChange Rows.memtableActsSpec) false w args)
      (Rows.memtableActsSpec.post enc Tryd.prog Tryd.f3 false true false false) := by
  refine returnsInHanded_of_change_and (C := Tryd.checked) (X := fun w _ => laidMetH Tryd.prog Rows.memtableActsRow.laid w) (fun _ _ _ hh h => h.of_heap hh) own started (by kernel_rfl) Tryd.func3
    (ChangeSpec.witness_at (enc := enc) (C := Tryd.checked) (os := os) (X := fun w _ => laidMetH Tryd.prog Rows.memtableActsRow.laid w) false (laidWorld os) #[.int .i64 0, .slice none 0 0, .slice none 0 0] 8 rfl (by kernel_rfl) (by kernel_rfl) (by kernel_rfl) (by kernel_rfl) (by kernel_rfl) (laidWorld_met os _)) ?_
  intro W base args ds gs before hval0 hW hcnd hsz hX _
  have hval : ∀ (j : Nat) t v, Tryd.f3.params[j]? = some t → args[j]? = some v → Value.okWide Tryd.prog W .any base t v := hval0
  have hW' := hW
  obtain ⟨p, q, hA0, hV, rfl, hfz, hnd⟩ := hW
  have hA : DataW.TrodAll enc Tryd.prog W 0 (fun _ => true) true Tryd.f3.params.toList args.toList ds p := hA0
  rw [Tryd.params3] at hA hval
  obtain ⟨v0, vs0, d0, ds0, p0, q0, hargs, rfl, rfl, h0, r0⟩ := trodAll_cons hA
  obtain ⟨v1, vs1, d1, ds1, p1, q1, rfl, rfl, rfl, h1, r1⟩ := trodAll_cons r0
  obtain ⟨v2, vs2, d2, ds2, p2, q2, rfl, rfl, rfl, h2, r2⟩ := trodAll_cons r1
  obtain ⟨rfl, rfl, rfl⟩ := trodAll_nil r2
  obtain rfl : args = #[v0, v1, v2] := by cases args; simp_all
  obtain ⟨rfl, rfl⟩ := trodVars_none hV
  have hz := tz_of_laid hX
  have h2w : 2 < W.heap.size := by
    obtain ⟨y, _, _, hy⟩ := hz 0 (by decide)
    exact World.block_lt_of_cell? W _ hy
  obtain ⟨how, rfl, rfl, rfl, wh⟩ := open_int Tryd.underlying3 (hval 0 3 v0 rfl rfl) h0
  obtain ⟨a1, len1, cap1, rfl⟩ := okWide_slice Tryd.underlying22 (hval 1 22 v1 rfl rfl)
  have k1 := h1
  have lt1 : ∀ x ∈ p1, x.block < W.heap.size := by obtain ⟨m, hm⟩ := k1; exact DataW.trod_lt m _ _ _ hm
  obtain ⟨l1, e1, w1, y1, n1⟩ : ∃ l : List Int, l.length = len1 ∧ RdA W a1 l ∧ (∀ y ∈ l, 0 ≤ y ∧ y < 256) ∧ l.length ≤ 140737488355328 := by
    obtain ⟨fuel, hf⟩ := h1
    rcases open_ints Tryd.underlying22 Tryd.underlying5 (by kernel_rfl) hf with ⟨hcs, _⟩ | ⟨x, l, c, zs, hcs, _, hl, hm, hz, hx, hcell, hwz⟩
    · simp [Value.cells] at hcs
      obtain ⟨rfl, rfl, rfl⟩ := hcs
      exact ⟨[], rfl, .inl rfl, by simp, by simp⟩
    · simp [Value.cells] at hcs
      obtain ⟨rfl, rfl, rfl⟩ := hcs
      have hz' : zs.length = cap1 := by simpa using hz
      have hlen : (zs.take len1).length = len1 := by rw [List.length_take]; omega
      refine ⟨zs.take len1, hlen, arga_open hl hz' hcell, fun n hn => ?_, ?_⟩
      · have h := hwz n (List.mem_of_mem_take hn)
        simp [Lit.wf, IntKind.min, IntKind.max, IntKind.signed, IntKind.bits] at h
        omega
      have hd : d1 = .slice (lits .u8 (zs.take len1)) (lits .u8 (zs.drop len1)) := congrArg Prod.fst hx
      subst hd
      have hs := sized_slice hsz (j := 1) (t := 22) (e := 5) rfl rfl Tryd.underlying22
      have hby : Tryd.checked.prog.bytesOf 5 = 1 := by kernel_rfl
      rw [hby] at hs
      simp [lits, reachBytes] at hs
      rw [hlen]
      omega
  obtain ⟨a2, len2, cap2, rfl⟩ := okWide_slice Tryd.underlying23 (hval 2 23 v2 rfl rfl)
  have k2 := h2
  have lt2 : ∀ x ∈ p2, x.block < W.heap.size := by obtain ⟨m, hm⟩ := k2; exact DataW.trod_lt m _ _ _ hm
  obtain ⟨l2, e2, w2, o2, n2⟩ : ∃ l : List Am, l.length = len2 ∧ Rg.Rd Am.c 10 W a2 l ∧ (∀ t ∈ l, AmOk t) ∧ l.length ≤ 140737488355328 := by
    obtain ⟨fuel, hf⟩ := h2
    have hf' : DataW.trod enc Tryd.prog W 0 (fun _ => true) true fuel 23 [.slice a2 len2 cap2] = some (d2, p2) := hf
    obtain ⟨l, q1, q2, q4, q3⟩ := acts_open hf'
    refine ⟨l, q1, q2, q4, ?_⟩
    rcases q3 with rfl | ⟨es, sp, hx, he⟩
    · simp
    · have hx' : d2 = .slice es sp := hx
      subst hx'
      have hs := sized_slice hsz (j := 2) (t := 23) (e := 40) rfl rfl Tryd.underlying23
      have hby : Tryd.checked.prog.bytesOf 40 = 104 := by kernel_rfl
      rw [hby] at hs
      simp only [reachBytes] at hs
      omega
  clear hA0 hval0
  subst e1 e2
  refine (macts_walk hz h2w how cap1 w1 n1 y1 cap2 w2 o2 n2).mono fun e W' ⟨he, bel⟩ => ?_
  subst he
  exact ⟨_, rfl, _, _, _, [], _, [], hW', trodAll_mk1 (shut_bool Tryd.underlying4 _), (trodAll_cons_mk (shut_int Tryd.underlying3 wh) (trodAll_cons_mk (Below.trod laidOut (by kernel_rfl) (of_decide_eq_true (by kernel_rfl)) k1 bel lt1) (trodAll_cons_mk (Below.trod laidOut (by kernel_rfl) (of_decide_eq_true (by kernel_rfl)) k2 bel lt2) trodAll_mk0))), rfl, bel.frame _, fun h => by cases h⟩

theorem over : Rows.MemtableActsSaid :=
  OpenClaim.holds_of_wide 3 Tryd.f3 rfl rfl rfl rfl rfl rfl rfl ⟨rfl, rfl, rfl, rfl, rfl⟩ rfl rfl rfl rfl rfl (by kernel_rfl) Tryd.func3 (by kernel_rfl)
    (of_decide_eq_true (by kernel_rfl)) (by unfold Func.isWrapper; first | (rw [if_pos (by decide +kernel)]; kernel_rfl) | (rw [if_neg (by decide +kernel)]; exact ⟨rfl, rfl⟩))
    (fun os started H enc _ => lifted os started H enc)

theorem card : Rows.MemtableActsCardSaid :=
  Claim7.holds_tied_plain_at .later [] [.data, .data] true (true, "2e2844580ad39b5616dfbdabf77b395088bb151c4a32277a092be836ad15a964") false
    over (fun _ h => by cases h) (by kernel_rfl) (fun _ h => by cases h) memtableActs_row_tie rfl ⟨rfl, rfl⟩ (by kernel_rfl) rfl
    (fun f fn hf hfn => by
      obtain rfl : f = 3 := Option.some.inj ((show Tryd.prog.funcNamed "sediment/sedimentlaw07.MemtableActs" = some 3 by kernel_rfl).symm.trans hf) |>.symm
      obtain rfl : fn = Tryd.f3 := (Option.some.inj (Tryd.func3.symm.trans hfn)).symm
      exact ⟨by kernel_rfl, fun j t ht => by
        rw [Tryd.params3] at ht
        have h3 : t = 3 ∨ t = 22 ∨ t = 23 := by
          rcases j with _ | _ | _ | j
          · left; simpa using ht.symm
          · right; left; simpa using ht.symm
          · right; right; simpa using ht.symm
          · simp at ht
        rcases h3 with rfl | rfl | rfl
        · exact (show Tryd.prog.wantsStandIn 3 = false by kernel_rfl)
        · exact (show Tryd.prog.wantsStandIn 22 = false by kernel_rfl)
        · exact (show Tryd.prog.wantsStandIn 23 = false by kernel_rfl)⟩)
    (by kernel_rfl)
end Go.Proofs.YtocanjefonlnaaaDoor.memtableActs
namespace Go.Proofs.YtocanjefonlnaaaDoor
/-- The statement. -/
theorem memtableActsCard_holds : Rows.MemtableActsCardSaid := memtableActs.card
#print axioms memtableActsCard_holds
end Go.Proofs.YtocanjefonlnaaaDoor
