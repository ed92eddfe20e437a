import Derived.Test.YtkpijoogaicodaaEc
namespace Go.Proofs.Ytkpijoogaicodaa
open Go.RowKit
set_option linter.unusedVariables false
set_option linter.unusedSimpArgs false

theorem Upd.bel {S : Nat → Prop} {w W w' : World} (hb : Below w.heap.size w W) (u : Upd S W w') (hS : ∀ k, S k → w.heap.size ≤ k) : Below w.heap.size w w' :=
  hb.trans (u.below (fun k hk => Nat.lt_of_lt_of_le hk hb.size) hS)
/-- What Add leaves. -/
def AddPost (w : World) (b : Nat) (rv mv : Value) (rs : List Rec) (ms : List Nat) (r : Rec) : Ending → World → Prop := fun e w' => ∃ rv', e = .returned (.int .i64 (addE rs r)) ∧ Bt w' b rv' mv (addL rs r) ms ∧ Upd (Of b rv) w w' ∧ (rv'.ownBlock = rv.ownBlock ∨ ∀ j, rv'.ownBlock = some j → w.heap.size ≤ j)
set_option maxRecDepth 100000 in
set_option maxHeartbeats 400000 in
theorem put_any {w : World} {b : Nat} {rv mv : Value} {rs : List Rec} {ms : List Nat} (h : Bt w b rv mv rs ms) (hg : Good rs) (f : Int) (key val : ByteArray) (f0 : 0 ≤ f) (f1 : f < 4294967296) :
    Calls Try.prog 39 #[ptr b, .int .u32 f, .string key, .string val] w (AddPost w b rv mv rs ms ⟨f, 1, key, val⟩) := by
  have HA := add_any h hg ⟨f, 1, key, val⟩ f0 f1
  dsimp only at HA
  go_enter Try.func39, Try.ntmps39
  go_wp2_with (go_at_call 19; refine HA.mono ?_; rintro e w' ⟨rv', rfl, h1, h2, h3⟩)
  go_ret
  exact ⟨rv', rfl, h1, h2, h3⟩
def liveR : Rec := ⟨0, 1, ⟨#[97]⟩, ⟨#[98]⟩⟩
theorem live_e : addE [] liveR = 0 := by decide +kernel
theorem live_l : addL [] liveR = [liveR] := by
  unfold addL; rw [if_pos live_e]; rfl
theorem live_enc : encE 5 [liveR] = 0 := by decide +kernel
theorem live_numb : numb 5 ([liveR].length : Nat) = true := by decide +kernel
theorem live_bytes : bstr (encB 5 [liveR]) = ⟨#[5, 0, 0, 0, 0, 0, 0, 0, 1, 0, 0, 0, 1, 0, 1, 97, 1, 98]⟩ := by decide +kernel
theorem live_szs : szs [liveR] = 6 := by decide +kernel
theorem live_fam : Fam [liveR] := by
  intro r hr
  simp at hr
  subst hr
  exact ⟨by decide, by decide⟩
set_option maxRecDepth 100000 in
set_option maxHeartbeats 1000000 in
theorem lives_any (w : World) :
    Calls Try.prog 12 #[] w fun e w' => e = .returned (.bool true) ∧ Below w.heap.size w w' := by
  have H0 := Bt.new w
  have HP := put_any H0 Good.nil 0 ⟨#[97]⟩ ⟨#[98]⟩ (by decide) (by decide)
  go_enter Try.func12, Try.ntmps12
  go_wp2_with (first
    | (go_at_call 39
       refine HP.mono ?_
       rintro e w1 ⟨rv, rfl, hB, hU, hloc⟩
       have e1 : addE [] ⟨0, 1, ⟨#[97]⟩, ⟨#[98]⟩⟩ = 0 := live_e
       have e2 : addL [] ⟨0, 1, ⟨#[97]⟩, ⟨#[98]⟩⟩ = [liveR] := live_l
       rw [e2] at hB
       rw [e1]
       clear e1 e2 HP)
    | (go_at_call 20; refine (records_any hB (by decide)).mono ?_; rintro e w2 ⟨v2, rfl, ho2, hb2, hn2⟩)
    | (go_at_call 8
       refine (encode_yes 5 (row_rd ho2) live_fam (by decide) (by decide) live_numb (by decide)).mono ?_
       rw [live_enc, if_pos rfl]
       rintro e w3 ⟨v3, rfl, ho3, hb3⟩
       have hstr := ho3.str
       rw [live_bytes] at hstr
       have hsz := size_any ((hB.below hb2).below hb3).blk (by rw [live_szs]; decide)
       rw [live_szs] at hsz)
    | (go_at_call 21; refine hsz.mono ?_; rintro e w' ⟨rfl, rfl⟩))
  go_ret
  have b1 := Upd.bel ((Below.refl w.heap.size w).alloc (Nat.le_refl _) _) hU (by
    rintro k (rfl | hk)
    · exact Nat.le_refl _
    · cases hk)
  exact ⟨rfl, bstep (bstep b1 hb2) hb3⟩
end Go.Proofs.Ytkpijoogaicodaa
