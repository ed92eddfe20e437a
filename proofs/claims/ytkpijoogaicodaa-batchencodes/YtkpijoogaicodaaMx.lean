import Derived.Test.YtkpijoogaicodaaMw
namespace Go.Proofs.Ytkpijoogaicodaa
open Go.RowKit
set_option linter.unusedVariables false
set_option linter.unusedSimpArgs false

theorem pVar_enc {most n : Int} (rest : List Int) (n0 : 0 ≤ n) (n1 : n ≤ most) (n2 : n < 18446744073709551616) : pVar most (vL 10 n ++ rest) = .ok (n, rest) := by
  unfold pVar
  rw [rvG_enc n rest n0 n2]
  dsimp only
  rw [if_neg (by simp), if_neg (by omega), Int.toNat_natCast, List.drop_left]
theorem pText_enc {most : Int} (s : ByteArray) (rest : List Int) (h : (s.size : Int) ≤ most) (h2 : most < 18446744073709551616) : pText most (txt s ++ rest) = .ok (sb s, rest) := by
  unfold pText txt
  rw [List.append_assoc, pVar_enc _ (by omega) h (by omega)]
  dsimp only
  have hl : (sb s).length = s.size := sb_len s
  rw [if_neg (by simp [hl]; omega), Int.toNat_natCast, ← hl, List.take_left, List.drop_left]
theorem pRec_enc {r : Rec} (rest : List Int) (f0 : 0 ≤ r.fam) (f1 : r.fam < 4294967296) (h : rchk r = 0) : pRec (encR r ++ rest) = .ok (plainR r, rest) := by
  have hz := rchk_zero h
  obtain ⟨f, k, key, val⟩ := r
  dsimp only at *
  by_cases hk : k = 0
  · have e : encR ⟨f, k, key, val⟩ ++ rest = k :: (vL 10 f ++ (txt key ++ rest)) := by simp [encR, hk]
    rw [e]
    simp only [pRec]
    rw [if_neg (by omega), pVar_enc _ f0 (by omega) (by omega)]
    dsimp only
    rw [pText_enc key rest (by omega) (by decide)]
    dsimp only
    rw [if_pos hk, bstr_sb]
    simp [plainR, hk]
  · have e : encR ⟨f, k, key, val⟩ ++ rest = k :: (vL 10 f ++ (txt key ++ (txt val ++ rest))) := by simp [encR, hk]
    have hm : (val.size : Int) ≤ mostV k := by
      unfold rchk chk at h
      dsimp only at h
      rw [if_neg (by omega), if_neg (by omega)] at h
      split at h
      · cases h
      · rename_i hh
        by_cases hx : mostV k < (val.size : Int)
        · exact absurd ⟨hk, hx⟩ hh
        · omega
    have hm2 : mostV k < 18446744073709551616 := by unfold mostV; split <;> decide
    rw [e]
    simp only [pRec]
    rw [if_neg (by omega), pVar_enc _ f0 (by omega) (by omega)]
    dsimp only
    rw [pText_enc key _ (by omega) (by decide)]
    dsimp only
    rw [if_neg hk, pText_enc val rest hm hm2]
    dsimp only
    rw [bstr_sb, bstr_sb]
    simp [plainR, hk]
theorem pMany_enc : ∀ (l : List Rec) (rest : List Int), (∀ r ∈ l, rchk r = 0 ∧ 0 ≤ r.fam ∧ r.fam < 4294967296) → pMany l.length (encs l ++ rest) = .ok (l.map plainR, rest)
  | [], rest, h => by simp [pMany, encs]
  | r :: l, rest, h => by
    have hr := h r (by simp)
    simp only [List.length_cons, pMany, encs]
    rw [List.append_assoc, pRec_enc _ hr.2.1 hr.2.2 hr.1]
    dsimp only
    rw [pMany_enc l rest (fun x hx => h x (by simp [hx]))]
    rfl
theorem vL_byt : ∀ (f : Nat) (m : Int), 0 ≤ m → m < 128 ^ (f + 1) → Byt (vL f m)
  | 0, m, h0, h1 => by
    intro c hc
    simp [vL] at hc
    subst hc
    simp at h1; omega
  | f + 1, m, h0, h1 => by
    by_cases h : m < 128
    · rw [vL_last _ _ h]
      intro c hc
      simp at hc
      omega
    · rw [vL_more _ _ (by omega)]
      intro c hc
      rcases List.mem_cons.1 hc with rfl | hc
      · omega
      · exact vL_byt f (m / 128) (by omega) (by rw [Int.pow_succ] at h1; omega) c hc
theorem byt_app {l m : List Int} (h : Byt l) (k : Byt m) : Byt (l ++ m) := fun c hc => by
  rcases List.mem_append.1 hc with hc | hc
  · exact h c hc
  · exact k c hc
theorem vL10_byt {m : Int} (h0 : 0 ≤ m) (h1 : m < 18446744073709551616) : Byt (vL 10 m) := by
  have p : (128 : Int) ^ (10 + 1) = 151115727451828646838272 := by decide
  exact vL_byt 10 m h0 (by omega)
theorem txt_byt (s : ByteArray) (h : s.size ≤ 100000) : Byt (txt s) := byt_app (vL10_byt (by omega) (by omega)) (sb_bd s)
theorem encR_byt {r : Rec} (f0 : 0 ≤ r.fam) (f1 : r.fam < 4294967296) (h : rchk r = 0) : Byt (encR r) := by
  have hz := rchk_zero h
  unfold encR
  refine byt_app (byt_app (byt_app ?_ (vL10_byt f0 (by omega))) (txt_byt _ (by omega))) ?_
  · intro c hc; simp at hc; omega
  · split
    · intro c hc; simp at hc
    · rename_i hk; exact txt_byt _ (by have := hz.2.1 hk; omega)
theorem encs_byt : ∀ (l : List Rec), (∀ r ∈ l, rchk r = 0 ∧ 0 ≤ r.fam ∧ r.fam < 4294967296) → Byt (encs l)
  | [], h => by intro c hc; simp [encs] at hc
  | r :: l, h => by
    have hr := h r (by simp)
    exact byt_app (encR_byt hr.2.1 hr.2.2 hr.1) (encs_byt l (fun x hx => h x (by simp [hx])))
theorem encE_zero {s : Int} {l : List Rec} (h : encE s l = 0) : numb s l.length = true ∧ l.length ≤ 4096 ∧ (∀ r ∈ l, rchk r = 0) ∧ 12 + szs l ≤ 4194304 := by
  unfold encE at h
  split at h
  · cases h
  · rename_i h1
    split at h
    · cases h
    · split at h
      · rename_i h3; exact absurd h h3
      · rename_i h3
        split at h
        · cases h
        · exact ⟨by simpa using h1, by omega, fbad_all (by simpa using h3), by omega⟩
theorem encB_byt {s : Int} {l : List Rec} (hF : Fam l) (h : encE s l = 0) : Byt (encB s l) := by
  obtain ⟨h1, h2, h3, h4⟩ := encE_zero h
  exact byt_app (byt_app (byts_bd _ _) (byts_bd _ _)) (encs_byt l fun r hr => ⟨h3 r hr, hF r hr⟩)
theorem encB_len {s : Int} {l : List Rec} (h : encE s l = 0) : (encB s l).length ≤ 4194304 := by
  obtain ⟨h1, h2, h3, h4⟩ := encE_zero h
  unfold encB
  simp only [List.length_append, byts_len, encs_len]
  omega
/-- What is written is read back. -/
theorem enc_dec {s : Int} {l : List Rec} (hF : Fam l) (s0 : 0 ≤ s) (s1 : s < 18446744073709551616) (h : encE s l = 0) : pAll (encB s l) = .ok (s, l.map plainR) := by
  obtain ⟨h1, h2, h3, h4⟩ := encE_zero h
  have hl := encB_len h
  have hl2 : (encB s l).length = 12 + szs l := by
    unfold encB
    simp only [List.length_append, byts_len, encs_len]
  have e0 : encB s l = byts 8 s ++ (byts 4 l.length ++ encs l) := by unfold encB; rw [List.append_assoc]
  have t8 : (encB s l).take 8 = byts 8 s := by rw [e0]; exact List.take_left' (byts_len _ _)
  have d8 : (encB s l).drop 8 = byts 4 l.length ++ encs l := by rw [e0]; exact List.drop_left' (byts_len _ _)
  have t4 : (byts 4 (l.length : Int) ++ encs l).take 4 = byts 4 l.length := List.take_left' (byts_len _ _)
  have d4 : (byts 4 (l.length : Int) ++ encs l).drop 4 = encs l := List.drop_left' (byts_len _ _)
  have v8 : leV (byts 8 s) = s := leV_byts 8 s s0 (by simpa using s1)
  have p4 : (256 : Int) ^ 4 = 4294967296 := by decide
  have v4 : leV (byts 4 (l.length : Int)) = l.length := leV_byts 4 _ (by omega) (by omega)
  have hn0 : numb s 0 = true := by
    unfold numb at h1 ⊢
    simp only [decide_eq_true_eq] at h1 ⊢
    exact ⟨h1.1, .inl (by trivial)⟩
  unfold pAll
  rw [if_neg (by omega)]
  unfold pBody pHead
  rw [if_neg (by omega), t8, d8, v8, if_neg (by rw [hn0]; decide), t4, d4, v4, if_neg (by simp [byts_len]), if_pos ⟨by omega, h1⟩]
  dsimp only
  have hm := pMany_enc l [] (fun r hr => ⟨h3 r hr, hF r hr⟩)
  rw [List.append_nil] at hm
  rw [Int.toNat_natCast, hm]
  rfl
end Go.Proofs.Ytkpijoogaicodaa
