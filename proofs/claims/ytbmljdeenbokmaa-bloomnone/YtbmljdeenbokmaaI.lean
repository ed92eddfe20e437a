/-
  BloomNone: the walk where a filter comes of it.
-/
import Derived.Test.YtbmljdeenbokmaaH
namespace Go.Proofs.Ytbmljdeenbokmaa
open Go.RowKit Go.Maps
set_option linter.unusedVariables false
set_option linter.unusedSimpArgs false
set_option maxRecDepth 100000 in
set_option maxHeartbeats 2000000 in
theorem none_main (a : Option Addr) (cap : Nat) (ks : List ByteArray) (b : Int) (ma : Option Addr) (mc : Nat) (ms : List Int) (w : World) (hS : Strs w a ks) (hl : ks.length * 16 ≤ 140737488351232) (hb0 : 0 ≤ b) (hb1 : b < 256) (hlen : ks.length ≤ 1048576) (hM : Arg16 w ma ms) :
    Calls Try.prog 4 #[.slice a ks.length cap, .int .u8 b, .slice ma ms.length mc] w fun e w' => e = .returned (.bool true) ∧ Below w.heap.size w w' := by
  have h1 : 1 ≤ 1 + b % 64 := by omega
  have h2 : 1 + b % 64 ≤ 64 := by omega
  have HS : Hid (Strs w a ks) := hS
  have HL : Hid (ks.length * 16 ≤ 140737488355328) := by show _ ≤ _; omega
  have hml := hM.2.1
  have HMM : Hid (Arg16 w ma ms) := hM
  have HB : Hid (∀ (W : World) (av : Option Addr) (cv : Nat), Strs W av ks → Calls Try.prog 7 #[.slice av ks.length cv, .int .i64 (1 + b % 64)] W fun e w' => e = .returned (.tuple #[.slice (some ⟨W.heap.size, 0, none⟩) (bld ks (1 + b % 64)).length (bld ks (1 + b % 64)).length, .int .i64 0]) ∧ Row w' W.heap.size (bld ks (1 + b % 64)) ∧ Below W.heap.size W w') := fun W av cv h =>
    build_ok av cv ks (1 + b % 64) W h hlen h1 h2
  obtain ⟨f, hf⟩ : ∃ f, bld ks (1 + b % 64) = f := ⟨_, rfl⟩
  have hfb : Byt f := by rw [← hf]; exact bld_byt _ _
  have hfc : chkB f = true := by rw [← hf]; exact bld_chk _ _ hlen h2
  have HMB : Hid (∀ k ∈ ks, mayB f k = true) := fun k hk => by rw [← hf]; exact may_built ks _ hlen h2 hk
  rw [hf] at HB
  clear hf hM hS
  obtain ⟨n, hn⟩ : ∃ n, f.length = n + 1 := by
    refine ⟨f.length - 1, ?_⟩
    simp only [chkB, isf, Bool.and_eq_true, decide_eq_true_eq] at hfc
    omega
  have hn8 : 8 ≤ n ∧ n ≤ 16777215 := by
    simp only [chkB, isf, Bool.and_eq_true, decide_eq_true_eq] at hfc
    omega
  obtain ⟨hn8, hn9⟩ := hn8
  rw [hn] at HB
  have HFL : Hid (f.length = n + 1) := hn
  have HFC : Hid (chkB f = true) := hfc
  have HFB : Hid (Byt f) := hfb
  clear hn hfc hfb
  go_enter Try.func4, Try.ntmps4
  go_wp2_with (first
    | (refine wpl_copy (by rfl) rfl _ _ (by rfl) (by rfl) (by rfl) (HS.out.below hb1) HL.out ?_; intro av cv w2 hS2 hb2)
    | (go_at_call 7; refine (HB.out _ _ _ hS2).mono ?_; rintro e w3 ⟨rfl, hr3, hb3⟩)
    | (go_at_call 21; refine (lives_any _).mono ?_; rintro e w1 ⟨rfl, hb1⟩))
  have hB2 := hb1.trans (hb2.mono hb1.size)
  have hB3 := hB2.trans (hb3.mono hB2.size)
  have hwz := hB2.size
  obtain ⟨B, hB⟩ : ∃ B, w2.heap.size = B := ⟨_, rfl⟩
  rw [hB] at hr3 hwz ⊢
  go_loopw [9] (fun i wr => ∃ (k : Nat) (g : List Int), k ≤ ms.length ∧ i = .int .i64 k ∧ Row wr B g ∧ Sup f g ∧ Below w.heap.size w wr) (fun i _ => (ms.length - intOf i).toNat)
  case atStart => exact ⟨0, f, by omega, rfl, hr3, Sup.refl HFB.out, hB3⟩
  case round =>
    obtain ⟨k, g, hk, rfl, hrg, hsup, hbr⟩ := hrel
    by_cases hlt : k < ms.length
    · obtain ⟨hmb, _, hM⟩ := HMM.out
      obtain ⟨mb, moff, rfl, hmlt, hmc⟩ : ∃ b off, ma = some ⟨b, off, none⟩ ∧ b < w.heap.size ∧ ∀ j, j < ms.length → w.cell? ⟨b, off + j, none⟩ = some (.int .u16 (ms.getD j 0)) := by
        rcases hM with rfl | hM
        · simp at hlt
        · exact hM
      clear hM
      have hck : wr.drew.cell? ⟨mb, moff + k, none⟩ = some (.int .u16 (ms.getD k 0)) := (hbr.cell (p := ⟨mb, moff + k, none⟩) hmlt).trans (hmc k hlt)
      have hxb := hmb (ms.getD k 0) (by rw [List.getD_eq_getElem?_getD, List.getElem?_eq_getElem hlt]; exact List.getElem_mem hlt)
      obtain ⟨x, hx⟩ : ∃ x, ms.getD k 0 = x := ⟨_, rfl⟩
      rw [hx] at hck hxb
      clear hx hmc hmb
      obtain ⟨hx0, hx1⟩ := hxb
      obtain ⟨q, hq⟩ : ∃ q : Nat, x % (n : Int) = q := ⟨(x % (n : Int)).toNat, by have := Int.emod_nonneg x (show (n : Int) ≠ 0 by omega); omega⟩
      have hqn : q < n := by have := Int.emod_lt_of_pos x (show (0 : Int) < n by omega); omega
      have hgl : g.length = n + 1 := by rw [hsup.len]; exact HFL.out
      obtain ⟨y, hy⟩ : ∃ y, g.getD q 0 = y := ⟨_, rfl⟩
      have hyb := byt_get hsup.byt q
      have hcq0 := hrg.cell q (by omega)
      rw [hy] at hcq0 hyb
      obtain ⟨hy0, hy1⟩ := hyb
      have hcq : wr.drew.cell? ⟨B, q, none⟩ = some (.int .u8 y) := hcq0
      have hfq : wr.drew.frozen? ⟨B, q, none⟩ = false := hrg.frozen q
      have hqi : ((q : Int) < (n : Int) + 1) = True := eq_true (by omega)
      have hw1 : IntKind.i64.wrap x = x := by simp [IntKind.wrap, IntKind.bits, IntKind.signed]; omega
      have hp8 : ((8 * (q : Int) + x % 8) / 8).toNat = q := by omega
      have hpm : (8 * (q : Int) + x % 8) % 8 = x % 8 := by omega
      have HG : Hid (setb g (8 * (q : Int) + x % 8) = g.set q (bits .or .u8 y (2 ^ (x % 8).toNat % 256))) := by
        show _ = _
        unfold setb mk; rw [hp8, hpm, hy]
      have HSU : Hid (Sup f (setb g (8 * (q : Int) + x % 8))) := hsup.set (by omega) (by rw [hp8, HFL.out]; omega)
      have HB0 : Hid (w.heap.size ≤ B) := hwz
      clear hp8 hpm hgl hy
      go_wp2
      go_region
      go_wp2
      go_roundw
      case rel => exact ⟨k + 1, setb g (8 * (q : Int) + x % 8), by omega, by go_num, by rw [HG.out]; exact hrg.set q _, HSU.out, (hbr.setCell (p := ⟨B, q, none⟩) HB0.out _).drew⟩
      case measure => simp [intOf]; omega
    · have hq0 : ¬ ((k : Int) < ms.length) := by omega
      have HGL : Hid (g.length = n + 1) := hsup.len.trans HFL.out
      have HA : Hid (∀ W, Row W B g → Arg W (some ⟨B, 0, none⟩) (n + 1) g) := fun W h => by
        have := h.arg hsup.byt (by rw [HGL.out]; omega)
        rwa [HGL.out] at this
      have HC : Hid (chk g = 0) := chk_yes (hsup.chk.trans HFC.out)
      have HMG : Hid (∀ k ∈ ks, mayB g k = true) := fun k hk => may_sup hsup HFC.out (HMB.out k hk)
      go_wp2_with (go_at_call 17; refine (check_any _ (n + 1) (n + 1) g _ (HA.out _ hrg)).mono ?_; rw [HC.out]; rintro e w4 ⟨rfl, hw3⟩; have hw4 := hw3.symm; subst hw4; clear hw3)
      obtain ⟨W0, hW0⟩ : ∃ W0, W0 = wr := ⟨_, rfl⟩
      rw [← hW0] at hrg hbr ⊢
      clear hW0
      go_loopw [10] (fun i wr => ∃ (k : Nat), k ≤ ks.length ∧ i = .int .i64 k ∧ Row wr B g ∧ Below w.heap.size w wr) (fun i _ => (ks.length - intOf i).toNat)
      case atStart => exact ⟨0, by omega, rfl, hrg, hbr⟩
      case round =>
        obtain ⟨j, hj, rfl, hrj, hbj⟩ := hrel
        by_cases hlj : j < ks.length
        · obtain ⟨hks, hS⟩ := HS.out
          obtain ⟨kb, koff, rfl, hklt, hkc⟩ : ∃ b off, a = some ⟨b, off, none⟩ ∧ b < w.heap.size ∧ ∀ j, (h : j < ks.length) → w.cell? ⟨b, off + j, none⟩ = some (.string ks[j]) := by
            rcases hS with rfl | hS
            · simp at hlj
            · exact hS
          clear hS
          have hck := (hbj.cell (p := ⟨kb, koff + j, none⟩) hklt).trans (hkc j hlj)
          have hkz := hks ks[j] (List.getElem_mem hlj)
          have HMJ : Hid (mayB g ks[j] = true) := HMG.out _ (List.getElem_mem hlj)
          clear hkc hks
          go_wp2_with (go_at_call 19; refine (may_any _ (n + 1) (n + 1) g ks[j] _ hkz (HA.out _ hrj)).mono ?_; rw [HMJ.out]; rintro e w5 ⟨rfl, hb5⟩)
          go_roundw
          case rel => exact ⟨j + 1, by omega, by go_num, hrj.below hb5, hbj.trans (hb5.mono hbj.size)⟩
          case measure => simp [intOf]; omega
        · have hq1 : ¬ ((j : Int) < ks.length) := by omega
          go_wp2
          go_ret
          exact ⟨rfl, hbj⟩
end Go.Proofs.Ytbmljdeenbokmaa
