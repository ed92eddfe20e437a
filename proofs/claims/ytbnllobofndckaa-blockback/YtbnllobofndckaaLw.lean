import Derived.Test.YtbnllobofndckaaSm
namespace Go.Proofs.Ytbnllobofndckaa
open Go.RowKit
set_option linter.unusedVariables false
set_option linter.unusedSimpArgs false
set_option maxRecDepth 100000 in
theorem one_eq : bstr (bldB 0 1 []) = ⟨#[0, 0, 0, 0, 1, 0, 0, 0]⟩ := by kernel_rfl
set_option maxRecDepth 100000 in
theorem one_err : bldE 0 1 [] = 0 := by kernel_rfl
set_option maxRecDepth 100000 in
set_option maxHeartbeats 2000000 in
theorem bytes_walk {w : World} {a : Option Addr} {l : List Ent} (hl : RdE w a l) (hs : ∀ e ∈ l, 0 ≤ e.s) (how r : Int) (c : Nat) (hN : l.length * 48 ≤ 140737488355328) :
    Calls Try.prog 3 #[.int .i64 how, .int .i64 r, .slice a l.length c] w fun e w' => e = .returned (.bool true) ∧ Below w.heap.size w w' := by
  obtain ⟨N, hNN⟩ : ∃ N, Hid (l.length = N) := ⟨_, rfl⟩
  obtain ⟨w1, av, cv, w2, hmk, hrun, hin, hb2⟩ := ents_copy hl c hN
  have HL : Hid (RdE w a l) := hl
  have HI : Hid (RdE w2 av l) := hin
  have HB2 : Hid (Below w.heap.size w w2) := hb2
  obtain ⟨E, hE⟩ : ∃ E, Hid (bldE how r l = E) := ⟨_, rfl⟩
  obtain ⟨V, hV⟩ : ∃ V, Hid (sizV r l = V) := ⟨_, rfl⟩
  obtain ⟨G, hG⟩ : ∃ G, Hid (sizE r l = G) := ⟨_, rfl⟩
  obtain ⟨B, hB⟩ : ∃ B, Hid (bldB how r l = B) := ⟨_, rfl⟩
  obtain ⟨S, hS⟩ : ∃ S, Hid (bstr B = S) := ⟨_, rfl⟩
  have HBu : Hid (∀ W a' c', RdE W a' l → Calls Try.prog 7 #[.int .i64 how, .int .i64 r, .slice a' N c'] W fun e w' => ∃ v, e = .returned (.tuple #[v, .int .i64 E]) ∧ OwnB w' W.heap.size v B ∧ Below W.heap.size W w') := fun W a' c' h => by
    have := build_any h hs how r c' (by omega)
    rw [hNN.out, hE.out, hB.out] at this; exact this
  have HRb : Hid (∀ W a' c', RdE W a' l → Calls Try.prog 8 #[.int .i64 how, .int .i64 r, .slice a' N c'] W fun e w' => ∃ v, e = .returned (.tuple #[v, .int .i64 E]) ∧ OwnB w' W.heap.size v B ∧ Below W.heap.size W w') := fun W a' c' h => by
    have := rbuild_any h hs how r c' (by omega)
    rw [hNN.out, hE.out, hB.out] at this; exact this
  have HSz : Hid (∀ W a' c', RdE W a' l → Calls Try.prog 9 #[.int .i64 r, .slice a' N c'] W fun e w' => e = .returned (.tuple #[.int .i64 V, .int .i64 G]) ∧ Below W.heap.size W w') := fun W a' c' h => by
    have := size9_any h hs r c' (by omega)
    rw [hNN.out, hV.out, hG.out] at this; exact this
  have HRz : Hid (∀ W a' c', RdE W a' l → Calls Try.prog 10 #[.int .i64 r, .slice a' N c'] W fun e w' => e = .returned (.tuple #[.int .i64 V, .int .i64 G]) ∧ Below W.heap.size W w') := fun W a' c' h => by
    have := rsize_any h hs r c' (by omega)
    rw [hNN.out, hV.out, hG.out] at this; exact this
  have HOn : Hid (∀ W, Calls Try.prog 7 #[.int .i64 0, .int .i64 1, .slice none 0 0] W fun e w' => ∃ v, e = .returned (.tuple #[v, .int .i64 0]) ∧ OwnB w' W.heap.size v (bldB 0 1 []) ∧ Below W.heap.size W w') := fun W => by
    have := build_any (w := W) (a := none) (l := []) (.inl rfl) (by simp) 0 1 0 (by simp)
    rw [one_err] at this; exact this
  have HSm : Hid (∀ W a1 a2 c1 c2, RdE W a1 l → RdE W a2 l → Calls Try.prog 11 #[.slice a1 N c1, .slice a2 N c2] W fun e w' => e = .returned (.bool true) ∧ Below W.heap.size W w') := fun W a1 a2 c1 c2 h1 h2 => by
    have := same_any h1 h2 c1 c2 (by omega)
    rw [hNN.out] at this; exact this
  have HCv : Hid (∀ (W : World) (base : Nat) (v : Value) (L : List Int), OwnB W base v L → (convert 23 9 v).run Try.prog W = .ok (.string (bstr L)) W) := fun W base v L h => h.run_string 23 9 Try.underlying23 Try.underlying5 Try.underlying9
  rw [hNN.out] at hmk hrun hN ⊢
  clear hl hs hin hb2
  go_enter Try.func3, Try.ntmps3
  go_wp2_with (first
    | (go_at_call 11; have hq := b7; clear hq; refine (HSm.out _ _ _ _ _ (HI.out.below b37) (HL.out.below b7)).mono ?_; rintro e w8 ⟨rfl, b78⟩; have b8 := b7.trans (b78.mono b7.size)
       have hcv3 : (convert 23 9 v7).run Try.prog w8 = .ok (.string ⟨#[0, 0, 0, 0, 1, 0, 0, 0]⟩) w8 := by have := HCv.out _ _ _ _ (o7.below b78 (Nat.le_refl _)); rw [one_eq] at this; exact this)
    | (go_at_call 7; have hq := b6; clear hq; refine (HOn.out _).mono ?_; rintro e w7 ⟨v7, rfl, o7, b67⟩; have b7 := b6.trans (b67.mono b6.size); have b37 := b26.trans (b67.mono b26.size)
       have hcv1 : (convert 23 9 v3).run Try.prog w7 = .ok (.string S) w7 := by have := HCv.out _ _ _ _ ((o3.below b36 (Nat.le_refl _)).below b67 (Nat.le_refl _)); rw [hS.out] at this; exact this
       have hcv2 : (convert 23 9 v4).run Try.prog w7 = .ok (.string S) w7 := by have := HCv.out _ _ _ _ ((o4.below b46 (Nat.le_refl _)).below b67 (Nat.le_refl _)); rw [hS.out] at this; exact this)
    | (go_at_call 10; have hq := b5; clear hq; refine (HRz.out _ _ _ (HL.out.below b5)).mono ?_; rintro e w6 ⟨rfl, b56⟩; have b6 := b5.trans (b56.mono b5.size); have b26 := b25.trans (b56.mono b25.size); have b36 := b35.trans (b56.mono b35.size); have b46 := b45.trans (b56.mono b45.size))
    | (go_at_call 9; have hq := b4; clear hq; refine (HSz.out _ _ _ (HI.out.below b24)).mono ?_; rintro e w5 ⟨rfl, b45⟩; have b5 := b4.trans (b45.mono b4.size); have b25 := b24.trans (b45.mono b24.size); have b35 := b34.trans (b45.mono b34.size))
    | (go_at_call 8; have hq := b3; clear hq; refine (HRb.out _ _ _ (HL.out.below b3)).mono ?_; rintro e w4 ⟨v4, rfl, o4, b34⟩; have b4 := b3.trans (b34.mono b3.size); have b24 := b23.trans (b34.mono b23.size))
    | (go_at_call 7; refine (HBu.out _ _ _ HI.out).mono ?_; rintro e w3 ⟨v3, rfl, o3, b23⟩; have b3 := HB2.out.trans (b23.mono HB2.out.size))
    | (at_builtin; refine wpList_append_run rfl (.tmp 21) (.tmp 22) 22 22 rfl rfl rfl hrun ?_))
  go_ret
  exact ⟨rfl, b8⟩
end Go.Proofs.Ytbnllobofndckaa
