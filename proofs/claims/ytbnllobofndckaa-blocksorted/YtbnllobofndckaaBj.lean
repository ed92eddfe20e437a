/-
  behind: the first whole entry behind a key.
  behind: sort.Search over the whole entries.
-/
import Derived.Test.YtbnllobofndckaaBh
import Derived.Deep.LoopGhost
import Derived.Laws.EntriesVeiled
namespace Go.Proofs.Ytbnllobofndckaa
open Go.RowKit
set_option linter.unusedVariables false
set_option linter.unusedSimpArgs false
theorem bcut_lou (a : Option Addr) (n cap m : Nat) (h : m ≤ n) (W : World) : (Instr.sliceAt 23 (.slice a n cap) (some (.int .u32 m)) none none).run Try.prog W = .ok (.slice (cutA a cap m) (n - m) (cap - m)) W := by
  have hs : (sizeOf 5).run Try.prog W = .ok 1 W := by kernel_rfl
  have hr := run_slice_l (P := Try.prog) W 23 a n cap slc23 .u32 (m : Int) (by omega) (by omega)
  rw [elem23, hs] at hr
  simp only [Result.andThen, sliced, Int.toNat_natCast] at hr
  rw [run_sliceAt_slice _ _ _ _ _ _ slc23, hr]
  unfold cutA
  cases a <;> split <;> simp
/-- What lies at a whole entry. -/
theorem Bl.whole {w : World} {xb : Nat} {how : Int} {r : Nat} {l : List Ent} {ba : Option Addr} {LB bcap : Nat} {pa : Option Addr} {PN pc N : Nat} (h : Bl w xb how r l ba LB bcap pa PN pc N) (hr : 1 ≤ r) (hl : l.length ≠ 0) {j : Nat} (hj : j < PN) :
    ∃ (g o m : Nat), pa = some ⟨g, o, none⟩ ∧ g < w.heap.size ∧ w.cell? ⟨g, o + j, none⟩ = some (.int .u32 m) ∧ m ≤ LB ∧ (rs r l (j * r)).length = LB - m ∧ Arg w (cutA ba bcap m) (LB - m) (bcap - m) (rs r l (j * r)) ∧ m ≤ bcap ∧ j * r < l.length ∧ (rs r l (j * r) ≠ [] → ∀ b off, cutA ba bcap m = some ⟨b, off, none⟩ → b < w.heap.size) := by
  have hj2 := plc_in hr hl (j := j) (by rw [h.pl]; exact hj)
  have hp := plc_at hr (l := l) hj2
  obtain ⟨g, o, e, hat⟩ := h.rd.at_ hp
  have hc := hat.n
  rw [Nat.mul_one] at hc
  have hm : (bt r l (j * r)).length ≤ LB := by
    have := bt_lt r l hj2
    have h2 : (bt r l l.length).length = LB := h.arg.1
    omega
  have hA := h.arg.lo (m := (bt r l (j * r)).length) hm h.cap
  refine ⟨g, o, _, e, G.cell_lt hc, hc, hm, ?_, hA, by have := h.cap; omega, hj2, fun hne b off eb => ?_⟩
  · have := rs_len (r := r) (l := l) (i := j * r) (by omega)
    have h2 : (bt r l l.length).length = LB := h.arg.1
    omega
  · rcases hA.2.2.2 with h3 | ⟨b', o', e', hlt, _⟩
    · exact absurd h3 hne
    · rw [e'] at eb; cases eb; exact hlt
set_option maxRecDepth 100000 in
set_option maxHeartbeats 1000000 in
theorem beh1_any {w : World} {xb c1 c2 : Nat} {how : Int} {r : Nat} {l : List Ent} {ba : Option Addr} {LB bcap : Nat} {pa : Option Addr} {PN pc N : Nat} (h : Bl w xb how r l ba LB bcap pa PN pc N) (hS : Srt how l) (hr : 1 ≤ r) (hl : l.length ≠ 0) (h1 : w.cell? ⟨c1, 0, none⟩ = some (ptr xb)) (K : Ent) (h2 : Blk w c2 33 [.string K.u, .int .u64 K.s, .int .i64 K.k]) {j : Nat} (hj : j < PN) :
    Calls Try.prog 79 #[.int .i64 j, ptr c1, ptr c2] w fun e w' => e = .returned (.bool (wbh how r l K j)) ∧ Below w.heap.size w w' := by
  obtain ⟨g, o, m, rfl, hg, hgc, hm, hrl, hA, hmc, hj2, hold⟩ := h.whole hr hl hj
  obtain ⟨e, he⟩ : ∃ e, l[j * r]? = some e := ⟨_, List.getElem?_eq_getElem hj2⟩
  have hwb : wbh how r l K j = decide (0 < ordE how e K) := by unfold wbh; rw [he]
  rw [hwb]
  obtain ⟨od, hod⟩ : ∃ od, Hid (ordE how e K = od) := ⟨_, rfl⟩
  have HOr : Hid (∀ W, Calls Try.prog 22 #[.int .i64 how, .agg #[.string e.u, .int .u64 e.s, .int .i64 e.k], .agg #[.string K.u, .int .u64 K.s, .int .i64 K.k]] W fun x w' => x = .returned (.int .i64 od) ∧ Below W.heap.size W w') := fun W => by rw [← hod.out]; exact cord_bel how e K W
  rw [hod.out]
  have hcu := fun W => bcut_lou ba LB bcap m hm W
  have x0 := h.blk.cell1 0 _ rfl
  have x1 := h.blk.cell1 1 _ rfl
  have x2 := h.blk.cell1 2 _ rfl
  have hjP : (j : Int) < (PN : Int) := by omega
  have hlt1 : c1 < w.heap.size := G.cell_lt h1
  have hlt2 : xb < w.heap.size := h.blk.lt
  have hne1 : ¬ w.heap.size = c1 := by omega
  have hne2 : ¬ w.heap.size = xb := by omega
  have hne3 : ¬ w.heap.size = g := by omega
  have HNx : Hid (Calls Try.prog 54 #[ptr w.heap.size] (w.alloc (.cells #[.slice (cutA ba bcap m) (LB - m) (bcap - m), .slice none 0 0, .string ⟨#[]⟩, .int .u64 0, .int .i64 0, .slice none 0 0] 88)).drew fun x w' => ∃ cm, x = .returned (.int .i64 cm) ∧ ∃ kv' rx cx ry cy, Rst w.heap.size w.heap.size w' w.heap.size (rs r l (j * r + 1)) (kP l (j * r + 1)) ry cy kv' e.u e.s e.k (.slice rx e.v.size cx) ∧ Below w.heap.size w w') := by
    have hA' := hA
    rw [← hrl] at hA' ⊢
    have hR := (rst_new (os := w.heap.size) (bs := w.heap.size) (W := w) (Nat.le_refl _) (Nat.le_refl _) hA' (by rw [hrl]; have := h.cap; omega) hold).below ((Below.refl _ _).drew)
    have hbl : (bt r l l.length).length = LB := h.arg.1
    have hbg := h.big
    have hBX : Below w.heap.size w (w.alloc (.cells #[.slice (cutA ba bcap m) (rs r l (j * r)).length (bcap - m), .slice none 0 0, .string ⟨#[]⟩, .int .u64 0, .int .i64 0, .slice none 0 0] 88)).drew := ((Below.refl _ _).alloc (Nat.le_refl _) _).drew
    refine (next_wh he (Nat.mul_mod_left j r) hS.fit (by omega) hR).mono ?_
    rintro x w' ⟨rfl, kv', rx, cx, ry, cy, q1, q2, q3⟩
    refine ⟨_, rfl, kv', rx, cx, ry, cy, q1, hBX.trans (q3.below (fun j hj => Nat.lt_of_lt_of_le hj hBX.size) (fun j hj => ?_))⟩
    rcases hj with hk | hk
    · omega
    · cases hk
  have HC : Hid (w.cell? ⟨c1, 0, none⟩ = some (ptr xb) ∧ Blk w c2 33 [.string K.u, .int .u64 K.s, .int .i64 K.k] ∧ Blk w xb 76 [.int .i64 how, .slice ba LB bcap, .slice (some ⟨g, o, none⟩) PN pc, .int .i64 N]) := ⟨h1, h2, h.blk⟩
  clear h hA hold he hwb hS hrl h2
  go_enter Try.func79, Try.ntmps79
  go_wp2_with fail
  go_region
  have HK2 : Hid (∀ W, Below w.heap.size w W → W.cell? ⟨c1, 0, none⟩ = some (ptr xb) ∧ W.cell? ⟨xb, 0, none⟩ = some (.int .i64 how) ∧ W.cell? ⟨c2, 0, none⟩ = some (.string K.u) ∧ W.cell? ⟨c2, 1, none⟩ = some (.int .u64 K.s) ∧ W.cell? ⟨c2, 2, none⟩ = some (.int .i64 K.k)) := fun W hW => by
    have hB2 := HC.out.2.1.lt
    refine ⟨?_, ?_, ?_, ?_, ?_⟩
    · rw [hW.cell (p := ⟨c1, 0, none⟩) hlt1]; exact HC.out.1
    · rw [hW.cell (p := ⟨xb, 0, none⟩) hlt2]; exact HC.out.2.2.cell1 0 _ rfl
    · rw [hW.cell (p := ⟨c2, 0, none⟩) hB2]; exact HC.out.2.1.cell1 0 _ rfl
    · rw [hW.cell (p := ⟨c2, 1, none⟩) hB2]; exact HC.out.2.1.cell1 1 _ rfl
    · rw [hW.cell (p := ⟨c2, 2, none⟩) hB2]; exact HC.out.2.1.cell1 2 _ rfl
  clear h1 x0 x1 x2 hgc
  go_upto_region 3 with (go_at_call 54; refine HNx.out.mono ?_; rintro x w2 ⟨cm, rfl, kv', rx, cx, ry, cy, q1, q2⟩
                         obtain ⟨k1, k2, k3, k4, k5⟩ := HK2.out w2 q2
                         have k6 := q1.blk.cell1 2 _ rfl; have k7 := q1.blk.cell1 3 _ rfl; have k8 := q1.blk.cell1 4 _ rfl
                         have HQ : Hid (Below w.heap.size w w2 ∧ w.heap.size < w2.heap.size) := ⟨q2, q1.blk.lt⟩
                         have HR9 : Hid (∀ W, Below w2.heap.size w2 W → W.cell? ⟨w.heap.size, 2, none⟩ = some (.string e.u) ∧ W.cell? ⟨w.heap.size, 3, none⟩ = some (.int .u64 e.s) ∧ W.cell? ⟨w.heap.size, 4, none⟩ = some (.int .i64 e.k)) := fun W hW => by
                           have := (q1.below hW).blk
                           exact ⟨this.cell1 2 _ rfl, this.cell1 3 _ rfl, this.cell1 4 _ rfl⟩
                         clear q1 q2)
  have HKp : Hid (∀ W, Below w2.drew.heap.size w2.drew W → (W.cell? ⟨c1, 0, none⟩ = some (ptr xb) ∧ W.cell? ⟨xb, 0, none⟩ = some (.int .i64 how) ∧ W.cell? ⟨c2, 0, none⟩ = some (.string K.u) ∧ W.cell? ⟨c2, 1, none⟩ = some (.int .u64 K.s) ∧ W.cell? ⟨c2, 2, none⟩ = some (.int .i64 K.k)) ∧ W.cell? ⟨w.heap.size, 2, none⟩ = some (.string e.u) ∧ W.cell? ⟨w.heap.size, 3, none⟩ = some (.int .u64 e.s) ∧ W.cell? ⟨w.heap.size, 4, none⟩ = some (.int .i64 e.k)) := fun W hW => by
    have hW' : Below w2.heap.size w2 W := ((Below.refl _ _).drew).trans hW
    exact ⟨HK2.out W (HQ.out.1.trans (hW'.mono HQ.out.1.size)), HR9.out W hW'⟩
  go_region_held_law (fun w' => (w'.cell? ⟨c1, 0, none⟩ = some (ptr xb) ∧ w'.cell? ⟨xb, 0, none⟩ = some (.int .i64 how) ∧ w'.cell? ⟨c2, 0, none⟩ = some (.string K.u) ∧ w'.cell? ⟨c2, 1, none⟩ = some (.int .u64 K.s) ∧ w'.cell? ⟨c2, 2, none⟩ = some (.int .i64 K.k)) ∧ w'.cell? ⟨w.heap.size, 2, none⟩ = some (.string e.u) ∧ w'.cell? ⟨w.heap.size, 3, none⟩ = some (.int .u64 e.s) ∧ w'.cell? ⟨w.heap.size, 4, none⟩ = some (.int .i64 e.k))
    (first | (go_keep; done) | exact HKp.out _ hb5)
    ((go_at_call 22; refine (HOr.out _).mono ?_; rintro x w5 ⟨rfl, hb5⟩))
  have hb6 : Hid (Below w.heap.size w w5) := HQ.out.1.trans ((((Below.refl _ _).drew).trans hb5).mono HQ.out.1.size)
  clear hb5
  go_wp2
  go_ret
  exact ⟨rfl, hb6.out⟩
end Go.Proofs.Ytbnllobofndckaa
namespace Go.Proofs.Ytbnllobofndckaa
open Go.RowKit
set_option linter.unusedVariables false
set_option linter.unusedSimpArgs false
set_option maxRecDepth 100000 in
set_option maxHeartbeats 1000000 in
theorem search78 {w : World} {n p c1 c2 : Nat} (hp : p ≤ n) (hn : n ≤ 100000) (hf : ∀ (W : World) (i : Nat), Below w.heap.size w W → i < n → Calls Try.prog 79 #[.int .i64 i, ptr c1, ptr c2] W fun e w' => e = .returned (.bool (decide (p ≤ i))) ∧ Below W.heap.size W w') :
    Calls Try.prog 78 #[.int .i64 n, .func (.func 79) #[] #[ptr c1, ptr c2]] w fun e w' => e = .returned (.int .i64 p) ∧ Below w.heap.size w w' := by
  have HF : Hid (∀ (W : World) (i : Nat), Below w.heap.size w W → i < n → Calls Try.prog 79 #[.int .i64 i, ptr c1, ptr c2] W fun e w' => e = .returned (.bool (decide (p ≤ i))) ∧ Below W.heap.size W w') := hf
  clear hf
  go_enter Try.func78, Try.ntmps78
  go_wp2_with fail
  go_loopg [5, 6] n (fun k s5 s6 wr => ∃ i j : Nat, k = j - i ∧ s5 = .int .i64 i ∧ s6 = .int .i64 j ∧ i ≤ p ∧ p ≤ j ∧ j ≤ n ∧ Hid (Below w.heap.size w wr))
  case atStart => exact ⟨0, n, rfl, rfl, rfl, Nat.zero_le _, hp, Nat.le_refl _, Below.refl _ _⟩
  case round =>
    obtain ⟨i, j, rfl, rfl, rfl, hip, hpj, hjN, HI⟩ := hrel
    by_cases hij : i < j
    · have hijz : (i : Int) < (j : Int) := by omega
      obtain ⟨m, hm⟩ : ∃ m, (i + j) / 2 = m := ⟨_, rfl⟩
      have hm1 : i ≤ m ∧ m < j := by omega
      have hw1 : IntKind.i64.wrap ((i : Int) + j) = (i : Int) + j := by rw [IntKind.wrap_i64]; omega
      have hw2 : IntKind.u64.wrap ((i : Int) + j) = (i : Int) + j := by rw [IntKind.wrap_u64]; omega
      have hdv : ((i : Int) + j) / 2 = m := by omega
      have hw3 : IntKind.i64.wrap (m : Int) = m := by rw [IntKind.wrap_i64]; omega
      have HC : Hid (Calls Try.prog 79 #[.int .i64 m, ptr c1, ptr c2] wr fun e w' => e = .returned (.bool (decide (p ≤ m))) ∧ Below wr.heap.size wr w') := HF.out wr m HI.out (by omega)
      clear hm
      rcases Nat.lt_or_ge m p with hmp | hmp
      · have hd : decide (p ≤ m) = false := by simp; omega
        rw [hd] at HC
        clear hd
        go_wp2_with (go_at_call 79; refine HC.out.mono ?_; rintro e w1 ⟨rfl, hb1⟩; have HI2 : Hid (Below w.heap.size w w1) := HI.out.trans (hb1.mono HI.out.size); clear hb1)
        go_roundg (j - (m + 1))
        case rel => exact ⟨m + 1, j, rfl, by go_num, rfl, by omega, hpj, hjN, HI2.out⟩
        case measure => omega
      · have hd : decide (p ≤ m) = true := by simp; omega
        rw [hd] at HC
        clear hd
        go_wp2_with (go_at_call 79; refine HC.out.mono ?_; rintro e w1 ⟨rfl, hb1⟩; have HI2 : Hid (Below w.heap.size w w1) := HI.out.trans (hb1.mono HI.out.size); clear hb1)
        go_roundg (m - i)
        case rel => exact ⟨i, m, rfl, rfl, rfl, hip, hmp, by omega, HI2.out⟩
        case measure => omega
    · obtain rfl : i = p := by omega
      obtain rfl : j = i := by omega
      go_wp2_with fail
      go_ret
      exact ⟨rfl, HI.out⟩
set_option maxRecDepth 100000 in
set_option maxHeartbeats 1000000 in
theorem behind_any {w : World} {xb : Nat} {how : Int} {r : Nat} {l : List Ent} {ba : Option Addr} {LB bcap : Nat} {pa : Option Addr} {PN pc N : Nat} (h : Bl w xb how r l ba LB bcap pa PN pc N) (hS : Srt how l) (hr : 1 ≤ r) (K : Ent) (hP : PN ≤ 100000) :
    Calls Try.prog 52 #[ptr xb, .agg #[.string K.u, .int .u64 K.s, .int .i64 K.k]] w fun e w' => e = .returned (.int .i64 (if l.length = 0 then 0 else bhn how r l K : Nat)) ∧ Below w.heap.size w w' := by
  have hmf : ∀ (fn : Fn) (first cap : Array Value) (w : World), (Instr.makeFunc fn first cap).run Try.prog w = .ok (.func fn first cap) w := fun _ _ _ _ => rfl
  have hb2 : Below w.heap.size w ((w.alloc (.cells #[ptr xb] 38)).alloc (.cells #[.string K.u, .int .u64 K.s, .int .i64 K.k] 33)) := ((Below.refl _ _).alloc (Nat.le_refl _) _).alloc (by simp) _
  have b1 := (Blk.new w 38 [ptr xb]).alloc (.cells #[.string K.u, .int .u64 K.s, .int .i64 K.k] 33)
  have b2 := Blk.new (w.alloc (.cells #[ptr xb] 38)) 33 [.string K.u, .int .u64 K.s, .int .i64 K.k]
  rw [World.size_alloc] at b2
  have hB := h.below hb2
  by_cases hl : l.length = 0
  · have x3 := hB.blk.cell1 3 _ rfl
    rw [← h.n, hl] at x3
    rw [if_pos hl]
    clear hB h b1 b2
    go_enter Try.func52, Try.ntmps52
    go_wp2_with fail
    go_ret
    exact ⟨rfl, hb2⟩
  · have x3 := hB.blk.cell1 3 _ rfl
    have x2 := hB.blk.cell1 2 _ rfl
    have hN0 : ¬ N = 0 := by rw [← h.n]; exact hl
    have hN1 : ¬ (N : Int) = 0 := by omega
    rw [if_neg hl]
    have HSe : Hid (Calls Try.prog 78 #[.int .i64 PN, .func (.func 79) #[] #[ptr w.heap.size, ptr (w.heap.size + 1)]] ((w.alloc (.cells #[ptr xb] 38)).alloc (.cells #[.string K.u, .int .u64 K.s, .int .i64 K.k] 33)) fun e w' => e = .returned (.int .i64 (bhn how r l K)) ∧ Below w.heap.size w w') := by
      refine (search78 (by rw [← h.pl]; exact bhn_le how r l K) hP (fun W i hW hi => ?_)).mono ?_
      · have hW' := hb2.trans (hW.mono hb2.size)
        rw [← bhn_spec hr hS hl K (by rw [h.pl]; exact hi)]
        refine beh1_any (hB.below hW) hS hr hl ?_ K (b2.upd (S := Non) (Upd.ofBelow hW) id) hi
        exact (b1.upd (S := Non) (Upd.ofBelow hW) id).cell1 0 _ rfl
      · rintro e w' ⟨rfl, hb⟩
        exact ⟨rfl, hb2.trans (hb.mono hb2.size)⟩
    clear hB h b1 b2 hl
    go_enter Try.func52, Try.ntmps52
    go_wp2_with (go_at_call 78; refine HSe.out.mono ?_; rintro e w1 ⟨rfl, hb1⟩)
    go_ret
    exact ⟨rfl, hb1⟩
end Go.Proofs.Ytbnllobofndckaa
