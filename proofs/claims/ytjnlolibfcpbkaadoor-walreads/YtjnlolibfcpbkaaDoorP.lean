import Derived.Test.YtjnlolibfcpbkaaDoorO
namespace Go.Proofs.YtjnlolibfcpbkaaDoor
open Go.RowKit Go.Maps
set_option linter.unusedVariables false
set_option linter.unusedSimpArgs false
def LL : List Int := sealV frF ++ frF.drop 4
theorem LL_len : LL.length = 10 := by unfold LL; rw [List.length_append, seal_len]; rfl
theorem LL_byt : Byt LL := by
  intro n hn
  rcases List.mem_append.1 hn with hn | hn
  · exact byts_bd 4 _ n hn
  · simp [frF] at hn
    omega
theorem LL_step : stepM LL false 7 St0 = .ok ⟨10, false, [], [[97, 98, 99]], 10⟩ := by kernel_rfl
theorem LL_end : stepM LL false 7 ⟨10, false, [], [[97, 98, 99]], 10⟩ = .error 0 := by kernel_rfl
theorem LL_rc : rcy LL = false := by kernel_rfl
theorem LL_res : Res LL 7 [[97, 98, 99]] 0 10 := by
  refine .inr ⟨by rw [LL_len]; decide, ⟨10, false, [], [[97, 98, 99]], 10⟩, ?_, ?_, rfl, rfl⟩
  · rw [LL_rc]; exact (Reach.zero _ _ _).step LL_step
  · rw [LL_rc]; exact LL_end
theorem abc_str : bstr [97, 98, 99] = ⟨#[97, 98, 99]⟩ := by decide +kernel
theorem own_LL {w : World} {base P : Nat} {v : Value} (h : OwnB w base v LL) (hP : P < base) : ∃ a c n, v = .slice a n c ∧ n = 10 ∧ Arg w a 10 c LL ∧ 10 ≤ c ∧ (∀ B off, a = some ⟨B, off, none⟩ → B ≠ P) := by
  rcases h with ⟨_, h0⟩ | ⟨b, off, cap, rfl, h1, h2, h3, h4, h5, h6⟩
  · have := LL_len; rw [h0] at this; cases this
  · have e := LL_len
    refine ⟨_, cap, _, rfl, e, ⟨e, LL_byt, by decide, .inr ⟨b, off, rfl, h2, h5⟩⟩, by omega, ?_⟩
    intro B' off' e'
    cases e'
    omega
set_option maxRecDepth 100000 in
set_option maxHeartbeats 2000000 in
theorem add_abc {w : World} {P B off cp : Nat} (hP : Blk w P 50 [.int .u32 7, .bool false, .int .i64 0]) (hB : B < w.heap.size) (hcp : 3 ≤ cp) (h0 : w.cell? ⟨B, off, none⟩ = some (.int .u8 97)) (h1 : w.cell? ⟨B, off + 1, none⟩ = some (.int .u8 98)) (h2 : w.cell? ⟨B, off + 2, none⟩ = some (.int .u8 99)) :
    Calls Tryd.prog 20 #[ptr P, .slice (some ⟨B, off, none⟩) 3 cp] w fun e w' => ∃ a c, e = .returned (.tuple #[.slice a 10 c, .int .i64 0]) ∧ Arg w' a 10 c LL ∧ 10 ≤ c ∧ w'.cell? ⟨P, 2, none⟩ = some (.int .i64 10) ∧ P < w'.heap.size ∧ Upd (fun k => k = P) w w' := by
  have HF := frags_abc hP hB hcp h0 h1 h2
  have c2 := hP.cell1 2 _ rfl
  have hlt := hP.lt
  clear h0 h1 h2
  go_enter Tryd.func20, Tryd.ntmps20
  go_wp2_with (go_at_call 36; refine HF.mono ?_; rintro e w1 ⟨v, rfl, ho, hB1⟩
               have hP1 := hP.upd (S := Non) (Upd.ofBelow hB1) (fun h => h)
               have c2' := hP1.cell1 2 _ rfl
               have f2' := hP1.frozen 2
               obtain ⟨a, c, n, rfl, hn, hA, hc10, hne⟩ := own_LL ho hlt
               subst hn)
  go_ret2
  have us : Upd (fun k => k = P) w1 (w1.setCell ⟨P, 2, none⟩ (.int .i64 10)) := Upd.setCell (S := fun k => k = P) (p := ⟨P, 2, none⟩) (Upd.refl _ _) (fun _ => rfl) _
  exact ⟨a, c, rfl, hA.upd us (fun B' off' e _ h9 => hne B' off' e h9), hc10, (hP1.set 2 _).cell1 2 _ rfl, Nat.lt_of_lt_of_le hlt (Nat.le_trans hB1.size us.size), (Upd.ofBelow hB1).then us (fun i _ h => h)⟩
end Go.Proofs.YtjnlolibfcpbkaaDoor
