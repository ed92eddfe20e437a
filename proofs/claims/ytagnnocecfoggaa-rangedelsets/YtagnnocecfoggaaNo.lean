/-
  Next: the program's.
-/
import Derived.Test.YtagnnocecfoggaaNn
namespace Go.Proofs.Ytagnnocecfoggaa
open Go.RowKit
set_option linter.unusedVariables false
set_option linter.unusedSimpArgs false
theorem nextF_find {how : Int} {k : ByteArray} {L : List Fg} (h : ∀ f ∈ L, kl how f.b f.e = true) : nextF how k L = match L.find? (fun f => kl how k f.e) with | some f => (if kl how k f.b = true then (f.b, true) else (f.e, true)) | none => (⟨#[]⟩, false) := by
  induction L with
  | nil => rfl
  | cons f L ih =>
    have ih := ih fun f hf => h f (by simp [hf])
    have hb := h f (by simp)
    rw [List.find?_cons]
    unfold nextF
    cases e : kl how k f.e
    · have e2 : kl how k f.b = false := by
        cases e2 : kl how k f.b
        · rfl
        · rw [(kl_sto how).tr _ _ _ e2 hb] at e; cases e
      rw [e2]
      simpa using ih
    · cases e3 : kl how k f.b <;> simp [e3]
set_option maxRecDepth 100000 in
set_option maxHeartbeats 1000000 in
theorem Next_any {w : World} {S : Nat} {how : Int} {a : Option Addr} {c : Nat} {L : List Fg} (h : St w S how a c L) (hg : FrG how L) (key : ByteArray) :
    Calls Try.prog 16 #[ptr S, .string key] w fun e w' => e = .returned (.tuple #[.string (nextF how key L).1, .bool (nextF how key L).2]) ∧ Below w.heap.size w w' := by
  have HR := reach_any h hg.o key hg.len
  have HSt : Hid (∀ w', Below w.heap.size w w' → St w' S how a c L) := fun w' hb => h.below hb
  obtain ⟨R, hR⟩ : ∃ R, Hid (nextF how key L = R) := ⟨_, rfl⟩
  rw [hR.out]
  have HM : Hid (R = match L[rch how L key]? with | some f => (if kl how key f.b = true then (f.b, true) else (f.e, true)) | none => (⟨#[]⟩, false)) := by
    show _ = _
    rw [← hR.out, nextF_find hg.o.be, find_findIdx]
    unfold rch
    cases L[L.findIdx fun f => kl how key f.e]? <;> rfl
  have hil : rch how L key ≤ L.length := List.findIdx_le_length
  generalize rch how L key = i at *
  obtain ⟨N, hN⟩ : ∃ N, Hid (N = L.length) := ⟨_, rfl⟩
  have hl := hg.len
  rw [← hN.out] at hil hl
  clear h
  rcases Nat.lt_or_ge i N with hiN | hiN
  · obtain ⟨f, hf⟩ : ∃ f, L[i]? = some f := ⟨_, List.getElem?_eq_getElem (by rw [← hN.out]; exact hiN)⟩
    have hne : ((i : Int) == N) = false := by simp; omega
    have hiz : (i : Int) < N := by omega
    have HMf : Hid (R = if kl how key f.b = true then (f.b, true) else (f.e, true)) := by have := HM.out; rw [hf] at this; exact this
    have HW : Hid (∀ w', Below w.heap.size w w' → ∃ g o pa pk, a = some ⟨g, o, none⟩ ∧ w'.cell? ⟨S, 0, none⟩ = some (.int .i64 how) ∧ w'.cell? ⟨S, 1, none⟩ = some (.slice (some ⟨g, o, none⟩) N c) ∧ w'.cell? ⟨g, o + i * 3, none⟩ = some (.string f.b) ∧ w'.cell? ⟨g, o + i * 3 + 1, none⟩ = some (.string f.e) ∧ w'.cell? ⟨g, o + i * 3 + 2, none⟩ = some (.slice pa f.q.length pk)) := fun w' hb => by
      have h' := HSt.out w' hb
      obtain ⟨g, o, pa, pk, e, t0, t1, t2, t3⟩ := h'.rd.at_ hf
      refine ⟨g, o, pa, pk, e, h'.blk.cell1 0 _ rfl, ?_, t0, t1, t2⟩
      have := h'.blk.cell1 1 _ rfl
      rw [e, ← hN.out] at this
      exact this
    have HA : Hid (∀ w' v, Below w.heap.size w w' → Below w.heap.size w (w'.alloc v)) := fun w' v hb => hb.alloc hb.size _
    clear hf HM hg
    obtain ⟨QN, hQN⟩ : ∃ QN, f.q.length = QN := ⟨_, rfl⟩
    rw [hQN] at HW
    go_enter Try.func16, Try.ntmps16
    go_upto_region 4 with (go_at_call 41; refine HR.mono ?_; rintro e w1 ⟨rfl, hb1⟩; obtain ⟨g, o, pa, pk, rfl, s0, s1, t0, t1, t2⟩ := HW.out w1 hb1; have HB1 : Hid (Below w.heap.size w w1) := hb1; clear hb1)
    obtain ⟨W1, hW1⟩ : ∃ W1, W1 = w1.alloc (.cells #[.string f.b, .string f.e, .slice pa QN pk] 63) := ⟨_, rfl⟩
    have hX : Blk W1 w1.heap.size 63 [.string f.b, .string f.e, .slice pa QN pk] := by rw [hW1]; exact Blk.new w1 63 _
    have x0 := hX.cell1 0 _ rfl
    have x1 := hX.cell1 1 _ rfl
    have y0 : W1.cell? ⟨S, 0, none⟩ = some (.int .i64 how) := by rw [hW1]; exact cell_below ((Below.refl _ _).alloc (Nat.le_refl _) _) s0
    have HB2 : Hid (Below w.heap.size w W1) := by rw [hW1]; exact HA.out _ _ HB1.out
    clear hX
    cases hk : kl how key f.b
    · have hc : decide (0 < cmpH how f.b key) = false := by rw [gt_of]; exact hk
      go_upto_region 5 with fail
      rw [← hW1]
      clear hW1 t0 t1 t2 s0 s1
      go_quiet ((go_at_call 42; exact Calls.quiet_of_same (ccmp_any _ _ _ _)))
      go_wp2_with fail
      go_ret2
      refine ⟨?_, belN HB2.out _⟩
      rw [HMf.out, hk]
      rfl
    · have hc : decide (0 < cmpH how f.b key) = true := by rw [gt_of]; exact hk
      go_upto_region 5 with fail
      rw [← hW1]
      clear hW1 t0 t1 t2 s0 s1
      go_quiet ((go_at_call 42; exact Calls.quiet_of_same (ccmp_any _ _ _ _)))
      go_wp2_with fail
      go_ret2
      refine ⟨?_, belN HB2.out _⟩
      rw [HMf.out, hk]
      rfl
  · obtain rfl : i = N := by omega
    have hR0 : R = (⟨#[]⟩, false) := by have := HM.out; rw [List.getElem?_eq_none (by rw [← hN.out]; omega)] at this; exact this
    have hee : ((i : Int) == i) = true := by simp
    have HW : Hid (∀ w', Below w.heap.size w w' → w'.cell? ⟨S, 0, none⟩ = some (.int .i64 how) ∧ w'.cell? ⟨S, 1, none⟩ = some (.slice a i c)) := fun w' hb => by
      have h' := HSt.out w' hb
      have := h'.blk.cell1 1 _ rfl
      rw [← hN.out] at this
      exact ⟨h'.blk.cell1 0 _ rfl, this⟩
    clear hg HM
    go_enter Try.func16, Try.ntmps16
    go_wp2_with (go_at_call 41; refine HR.mono ?_; rintro e w1 ⟨rfl, hb1⟩; obtain ⟨s0, s1⟩ := HW.out w1 hb1; have HB1 : Hid (Below w.heap.size w w1) := hb1; clear hb1)
    go_ret2
    exact ⟨by rw [hR0]; rfl, HB1.out⟩
end Go.Proofs.Ytagnnocecfoggaa
