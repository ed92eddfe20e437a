/-
  One call by both.
-/
import Derived.Test.YtlkfabejecgfgaaYa
import Derived.Deep.DeepCutAuto
import Derived.Deep.RegionHeldLaw
import Derived.BigQuiet
import Derived.Deep.LoopGhost
namespace Go.Proofs.Ytlkfabejecgfgaa
open Go.RowKit Go.Maps
set_option linter.unusedVariables false
set_option linter.unusedSimpArgs false
theorem i64_wrap (z : Int) : I64 (wrap64 z) := by unfold I64 wrap64; omega
theorem put_P (s : Cs) (k : ByteArray) (z : Value) (ch : Nat) : (putC s k z ch).2.2.P.length ≤ s.P.length + 1 := by
  rcases put_ways s k z ch with ⟨_, _, h⟩ | ⟨_, _, _, _, h⟩ | ⟨_, _, _, h⟩
  · rw [h]; omega
  · rw [h]; omega
  · omega
section
variable {w0 w : World} {L : Lo} {s : Cs} {R : Lr} {room : Nat} {vs : List Vw} {pv : Value}
theorem get_V (C : Cw s) (c : Ci s) (k : List UInt8) : ∃ z : Int, (getC s k).2.1 = .int .u64 z := by
  unfold getC
  have hi := c.ix k
  cases hf : (s.x (s.ix k)).f k with
  | none => exact ⟨0, rfl⟩
  | some j =>
    obtain ⟨e, h1, h2, _⟩ := (c.iv _ _ hi).old hf
    obtain ⟨z, hz⟩ := ((C _ _ hi).2 j e h1).2
    refine ⟨z, ?_⟩
    simp only []
    rw [xat h1]; exact hz
theorem both_value (D : Du w0 w L R room vs pv s s) (C : Cw s) {p : Int} (hp : I64 p) : ∃ (z e : Int), Calls Try.prog 21 #[.pointer (some ⟨L.cb, 0, none⟩), .int .i64 p] w (fun r w' => r = .returned (.tuple #[.int .u64 z, .int .i64 e]) ∧ w' = w) ∧
    Calls Try.prog 33 #[.pointer (some ⟨R.cb, 0, none⟩), .int .i64 p] w (fun r w' => r = .returned (.tuple #[.int .u64 z, .int .i64 e]) ∧ w' = w) := by
  cases h0 : s.pin p with
  | none => exact ⟨0, 111, value_none D.k.ca hp h0, rvalue_none D.r hp h0⟩
  | some ij =>
    obtain ⟨i, j⟩ := ij
    obtain ⟨hp1, hpl, hpg⟩ := pin_I64 h0
    obtain ⟨x, hx, hj⟩ := D.k.ci.pr i j (List.mem_of_getElem? hpg)
    have he := List.getElem?_eq_getElem hj
    obtain ⟨z, hz⟩ := ((C _ _ hx).2 j _ he).2
    have h1 := value_some D.k.ca hp h0 hx he
    have h2 := rvalue_some D.r D.k.ci hp h0 hx he
    rw [hz] at h1 h2
    exact ⟨z, 0, h1, h2⟩
set_option maxRecDepth 100000 in
set_option maxHeartbeats 8000000 in
theorem does_any (D : Du w0 w L R room vs pv s s) (C : Cw s) (hP : s.P.length + 1 ≤ 4000000000000) {x : Ac} (hx : AcOk x) :
    Calls Try.prog 10 #[.pointer (some ⟨L.cb, 0, none⟩), .pointer (some ⟨R.cb, 0, none⟩), .agg #[.int .i64 x.ak, .int .i64 x.pn, .string x.key, .int .u64 x.v, .int .u64 x.n]] w fun e w' => e = .returned (.bool true) ∧ ∃ s', Dv w0 w' L.cb R.cb (s.P.length + 1) s' := by
  obtain ⟨ak, pn, ky, zv, nn⟩ := x
  obtain ⟨o1, o2, o3, o4, o5, o6⟩ := hx
  dsimp only at *
  obtain ⟨w1, hw1⟩ : ∃ W, w.alloc (.cells #[.int .i64 ak, .int .i64 pn, .string ky, .int .u64 zv, .int .u64 nn] 36) = W := ⟨_, rfl⟩
  have U1 : Upd Non w w1 := by rw [← hw1]; exact (Upd.refl _ _).alloc _
  have X1 : Blk w1 w.heap.size 36 [.int .i64 ak, .int .i64 pn, .string ky, .int .u64 zv, .int .u64 nn] := by rw [← hw1]; exact Blk.new w 36 _
  have D1 := D.grow U1
  obtain ⟨pp, pcp, hpv⟩ := rowq_len D1.r.rf.pr
  rw [bdp_len] at hpv
  have c5 := D1.r.rf.blk.cell1 5 _ rfl
  rw [hpv] at c5
  have b1 := X1.cell1 1 _ rfl
  obtain ⟨N, hN⟩ : ∃ N, s.P.length = N := ⟨_, rfl⟩
  rw [hN] at c5
  obtain ⟨cb, hcb⟩ : ∃ cb, L.cb = cb := ⟨_, rfl⟩
  obtain ⟨rb, hrb⟩ : ∃ rb, R.cb = rb := ⟨_, rfl⟩
  obtain ⟨bx, hbx⟩ : ∃ bx, w.heap.size = bx := ⟨_, rfl⟩
  rw [hrb] at c5
  rw [hcb, hrb]
  rw [hbx] at b1 X1
  have D1' : Hid _ := D1
  have X1' : Hid _ := X1
  clear D1 X1 D U1 hpv
  go_enter Try.func10, Try.ntmps10
  go_wp2_with fail
  first | go_quiet (fail) | go_big_quiet (fail)
  have D2 := D1'.out.drewN nq
  have X2 : Blk (w1.drewN nq) bx 36 [.int .i64 ak, .int .i64 pn, .string ky, .int .u64 zv, .int .u64 nn] := X1'.out
  clear D1' X1' hw1 c5 b1
  generalize w1.drewN nq = w2 at *
  have hpI : I64 (wrap64 ((N : Int) - pn)) := i64_wrap _
  generalize wrap64 ((N : Int) - pn) = p at *
  have b0 := X2.cell1 0 _ rfl
  have b2 := X2.cell1 2 _ rfl
  have b3 := X2.cell1 3 _ rfl
  have b4 := X2.cell1 4 _ rfl
  have ci := D2.k.ci
  by_cases z0 : ak = 0
  · subst z0
    have HP := k_put D2.k (k := ky) (z := zv) (ch := nn) o6 o3 (by omega)
    rw [hcb] at HP
    have HRa : ∀ W, Rx W R room vs pv s → Calls Try.prog 30 #[.pointer (some ⟨rb, 0, none⟩), .string ky, .int .u64 zv, .int .u64 nn] W fun r w' => r = .returned (.tuple #[.int .i64 (putC s ky (.int .u64 zv) nn).1, .int .i64 (putC s ky (.int .u64 zv) nn).2.1]) ∧ Ro W R vs pv w' room (putC s ky (.int .u64 zv) nn).2.2 := fun W hW => by
      rw [← hrb]; exact rput_any hW ci o3 o6 hP
    have C3 := C.putc ci ky zv nn
    have P3 : (putC s ky (.int .u64 zv) nn).2.2.P.length ≤ s.P.length + 1 := put_P s ky (.int .u64 zv) nn
    generalize putC s ky (.int .u64 zv) nn = q at *
    obtain ⟨q1, q2, s3⟩ := q
    dsimp only at *
    go_wp2_with (first
      | (go_at_call 14; refine HP.mono ?_; rintro e w3 ⟨rfl, L3, K3, hcb3, U3, E3⟩
         have D3 := D2.c1 K3 U3
         have X3 := X2.upd U3 (D2.box_c X2)
         have c2 := X3.cell1 2 _ rfl
         have c3 := X3.cell1 3 _ rfl
         have c4 := X3.cell1 4 _ rfl
         have HR := HRa _ D3.r
         clear HP)
      | (go_at_call 30; refine HR.mono ?_; rintro e w4 ⟨rfl, H4⟩
         clear HR))
    go_ret
    obtain ⟨R4, vs4, pv4, hrb4, D4⟩ := D3.r1 H4
    exact ⟨rfl, _, D4.dv hcb3 (hrb4.trans hrb) rfl C3 P3⟩
  by_cases z1 : ak = 1
  · subst z1
    have HP := k_get D2.k (k := ky) o3 (by omega)
    rw [hcb] at HP
    have HRa : ∀ W, Rx W R room vs pv s → Calls Try.prog 31 #[.pointer (some ⟨rb, 0, none⟩), .string ky] W fun r w' => r = .returned (.tuple #[.int .i64 (getC s ky.data.toList).1, (getC s ky.data.toList).2.1, .bool (getC s ky.data.toList).2.2.1]) ∧ Ro W R vs pv w' room (getC s ky.data.toList).2.2.2 := fun W hW => by
      rw [← hrb]; exact rget_any hW ci o3 hP
    have C3 := C.getc ci ky.data.toList
    have P3 := get_P s ky.data.toList
    obtain ⟨gz, hgz⟩ := get_V C ci ky.data.toList
    generalize getC s ky.data.toList = q at *
    obtain ⟨q1, q2, q3, s3⟩ := q
    dsimp only at *
    subst hgz
    go_wp2_with (first
      | (go_at_call 18; refine HP.mono ?_; rintro e w3 ⟨rfl, K3, U3⟩
         have D3 := D2.c1 K3 U3
         have X3 := X2.upd U3 (D2.box_c X2)
         have c2 := X3.cell1 2 _ rfl
         have HR := HRa _ D3.r
         clear HP)
      | (go_at_call 31; refine HR.mono ?_; rintro e w4 ⟨rfl, H4⟩
         clear HR))
    go_ret
    obtain ⟨R4, vs4, pv4, hrb4, D4⟩ := D3.r1 H4
    exact ⟨rfl, _, D4.dv hcb (hrb4.trans hrb) rfl C3 P3⟩
  by_cases z2 : ak = 2
  · subst z2
    have HP := k_free D2.k hpI
    rw [hcb] at HP
    have HRa : ∀ W, Rx W R room vs pv s → Calls Try.prog 32 #[.pointer (some ⟨rb, 0, none⟩), .int .i64 p] W fun r w' => r = .returned (.int .i64 (freeC s p).1) ∧ Ro W R vs pv w' room (freeC s p).2 := fun W hW => by
      rw [← hrb]; exact rfree_any hW ci (fun i x j e h1 h2 => Nat.le_trans ((C i x h1).2 j e h2).1 (by unfold maxLen; omega)) hpI
    have C3 := C.freec ci p
    have P3 : (freeC s p).2.P.length ≤ s.P.length + 1 := by rw [free_P]; omega
    generalize freeC s p = q at *
    obtain ⟨q1, s3⟩ := q
    dsimp only at *
    go_wp2_with (first
      | (go_at_call 16; refine HP.mono ?_; rintro e w3 ⟨rfl, K3, U3⟩
         have D3 := D2.c1 K3 U3
         have HR := HRa _ D3.r
         clear HP)
      | (go_at_call 32; refine HR.mono ?_; rintro e w4 ⟨rfl, H4⟩
         clear HR))
    go_ret
    obtain ⟨R4, vs4, pv4, hrb4, D4⟩ := D3.r1 H4
    exact ⟨rfl, _, D4.dv hcb (hrb4.trans hrb) rfl C3 P3⟩
  by_cases z3 : ak = 3
  · subst z3
    obtain ⟨vz, ve, HP, HR⟩ := both_value D2 C hpI
    rw [hcb] at HP
    rw [hrb] at HR
    go_wp2_with (first
      | (go_at_call 21; refine HP.mono ?_; rintro e w3 ⟨rfl, hw⟩; have hw' := hw.symm; subst hw'; clear HP)
      | (go_at_call 33; refine HR.mono ?_; rintro e w3 ⟨rfl, hw⟩; have hw' := hw.symm; subst hw'; clear HR))
    go_ret
    exact ⟨rfl, _, D2.dv hcb hrb rfl C (by omega)⟩
  by_cases z4 : ak = 4
  · subst z4
    have D2d : Du w0 w2.drew L R room vs pv s s := D2.grow (Upd.drew (Upd.refl Non w2))
    have HP := k_drop D2d.k (k := ky) o3
    rw [hcb] at HP
    have HRa : ∀ W, Rx W R room vs pv s → Calls Try.prog 34 #[.pointer (some ⟨rb, 0, none⟩), .string ky] W fun r w' => r = .returned (.bool (dropC s ky.data.toList).1) ∧ Ro W R vs pv w' room (dropC s ky.data.toList).2 := fun W hW => by
      rw [← hrb]; exact rdrop_any hW ci o3
    have C3 := C.drop ci ky.data.toList
    have P3 : (dropC s ky.data.toList).2.P.length ≤ s.P.length + 1 := by rw [drop_P]; omega
    generalize dropC s ky.data.toList = q at *
    obtain ⟨q1, s3⟩ := q
    dsimp only at *
    have X2' : Hid (Blk w2.drew bx 36 [.int .i64 4, .int .i64 pn, .string ky, .int .u64 zv, .int .u64 nn]) := X2.drew
    clear X2
    go_wp2_with fail
    go_region_held_law (fun w' => w'.cell? ⟨bx, 2, none⟩ = some (.string ky))
      (first
        | (go_keep; done)
        | exact Blk.cell1 X4.out 2 _ rfl
        | exact Blk.cell1 X3.out 2 _ rfl)
      (first
        | (go_at_call 19; refine HP.mono ?_; rintro e w3 ⟨rfl, K3, U3⟩
           have D3 := D2d.c1 K3 U3
           have X3 : Hid (Blk w3 bx 36 [.int .i64 4, .int .i64 pn, .string ky, .int .u64 zv, .int .u64 nn]) := X2'.out.upd U3 (D2d.box_c X2'.out)
           have HR := HRa _ D3.r
           clear HP)
        | (go_at_call 34; refine HR.mono ?_; rintro e w4 ⟨rfl, H4⟩
           have X4 : Hid (Blk w4 bx 36 [.int .i64 4, .int .i64 pn, .string ky, .int .u64 zv, .int .u64 nn]) := D3.box_ro X3.out H4
           clear HR))
    go_wp2_with fail
    go_ret
    obtain ⟨R4, vs4, pv4, hrb4, D4⟩ := D3.r1 H4
    exact ⟨rfl, _, D4.dv hcb (hrb4.trans hrb) rfl C3 P3⟩
  by_cases z5 : ak = 5
  · subst z5
    have HP := k_room D2.k (room := nn) o6
    rw [hcb] at HP
    have HRa : ∀ W, Rx W R room vs pv s → Calls Try.prog 35 #[.pointer (some ⟨rb, 0, none⟩), .int .u64 nn] W fun r w' => r = .returned (.tuple #[]) ∧ Ro W R vs pv w' nn (roomC s nn) := fun W hW => by
      rw [← hrb]; exact rroom_any hW ci o6
    have C3 := C.roomc ci nn
    have P3 : (roomC s nn).P.length ≤ s.P.length + 1 := by show s.P.length ≤ _; omega
    generalize roomC s nn = s3 at *
    go_wp2_with (first
      | (go_at_call 20; refine HP.mono ?_; rintro e w3 ⟨rfl, K3, U3⟩
         have D3 := D2.c1 K3 U3
         have X3 := X2.upd U3 (D2.box_c X2)
         have c4 := X3.cell1 4 _ rfl
         have HR := HRa _ D3.r
         clear HP)
      | (go_at_call 35; refine HR.mono ?_; rintro e w4 ⟨rfl, H4⟩
         clear HR))
    go_ret
    obtain ⟨R4, vs4, pv4, hrb4, D4⟩ := D3.r1 H4
    exact ⟨rfl, _, D4.dv hcb (hrb4.trans hrb) rfl C3 P3⟩
  go_wp2_with fail
  go_ret
  exact ⟨rfl, _, D2.dv hcb hrb rfl C (by omega)⟩
end
end Go.Proofs.Ytlkfabejecgfgaa
