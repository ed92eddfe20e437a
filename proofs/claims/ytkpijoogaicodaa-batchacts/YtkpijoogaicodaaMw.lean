import Derived.Test.YtkpijoogaicodaaRf
import Derived.Test.YtkpijoogaicodaaLi
namespace Go.Proofs.Ytkpijoogaicodaa
set_option linter.unusedVariables false
set_option linter.unusedSimpArgs false

theorem bstr_sb (u : ByteArray) : bstr (sb u) = u := by
  have h := foldl_push_byteCells u.data.toList ByteArray.empty
  have e0 : ByteArray.empty.data = #[] := rfl
  rw [e0] at h
  simp at h
  exact h
theorem sb_bd (u : ByteArray) : ∀ n ∈ sb u, 0 ≤ n ∧ n < 256 := by
  intro n hn
  obtain ⟨c, _, rfl⟩ := List.mem_map.1 hn
  have := c.toNat_lt
  omega
theorem bstr_go : ∀ (l : List Int) (r : ByteArray), (∀ c ∈ l, 0 ≤ c ∧ c < 256) → sb (l.foldl (fun r n => r.push (UInt8.ofNat n.toNat)) r) = sb r ++ l
  | [], r, _ => by simp
  | c :: l, r, h => by
    have hc := h c (by simp)
    rw [List.foldl_cons, bstr_go l _ (fun x hx => h x (by simp [hx]))]
    have e : sb (r.push (UInt8.ofNat c.toNat)) = sb r ++ [c] := by
      unfold sb
      simp only [ByteArray.push, Array.toList_push, List.map_append, List.map_cons, List.map_nil]
      congr 2
      rw [UInt8.toNat_ofNat']
      omega
    rw [e]; simp
theorem sb_bstr (l : List Int) (h : ∀ c ∈ l, 0 ≤ c ∧ c < 256) : sb (bstr l) = l := by
  unfold bstr
  rw [bstr_go l _ h]
  rfl
theorem bstr_size (l : List Int) (h : ∀ c ∈ l, 0 ≤ c ∧ c < 256) : (bstr l).size = l.length := by
  rw [← sb_len, sb_bstr l h]
def Byt (l : List Int) : Prop := ∀ c ∈ l, 0 ≤ c ∧ c < 256
theorem Byt.right {l m : List Int} (h : Byt (l ++ m)) : Byt m := fun c hc => h c (by simp [hc])
theorem Byt.left {l m : List Int} (h : Byt (l ++ m)) : Byt l := fun c hc => h c (by simp [hc])
theorem pVar_canon {most n : Int} {l l' : List Int} (hb : Byt l) (h : pVar most l = .ok (n, l')) : l = vL 10 n ++ l' ∧ 0 ≤ n ∧ n ≤ most := by
  rcases pVar_cases most l with ⟨v, s, hR, s1, s2, v0, v1, v2, hp'⟩ | ⟨v, s, hR, v2, v0, v1, hp'⟩ | ⟨c', hc', hR, hp'⟩
  · rw [h] at hp'
    simp only [Except.ok.injEq, Prod.mk.injEq] at hp'
    obtain ⟨rfl, rfl⟩ := hp'
    obtain ⟨s', hs', _, hv, _⟩ := rvG_canon hb hR
    have : s' = s := by omega
    subst this
    exact ⟨by rw [hv, List.take_append_drop], v0, v2⟩
  · rw [h] at hp'; cases hp'
  · rw [h] at hp'; cases hp'
theorem pText_canon {most : Int} {l t l' : List Int} (hb : Byt l) (h : pText most l = .ok (t, l')) : l = txt (bstr t) ++ l' ∧ ((bstr t).size : Int) ≤ most := by
  unfold pText at h
  cases hv : pVar most l with
  | error c => rw [hv] at h; cases h
  | ok x =>
    obtain ⟨n, l1⟩ := x
    rw [hv] at h
    dsimp only at h
    obtain ⟨hl, n0, n1⟩ := pVar_canon hb hv
    by_cases hlen : (l1.length : Int) < n
    · rw [if_pos hlen] at h; cases h
    · rw [if_neg hlen] at h
      cases h
      have hb1 : Byt l1 := by rw [hl] at hb; exact hb.right
      have hbt : Byt (l1.take n.toNat) := fun c hc => hb1 c (List.mem_of_mem_take hc)
      have hsz := bstr_size _ hbt
      have hlt : (l1.take n.toNat).length = n.toNat := by rw [List.length_take]; omega
      refine ⟨?_, by rw [hsz, hlt]; omega⟩
      unfold txt
      rw [hsz, sb_bstr _ hbt, hlt, List.append_assoc, List.take_append_drop]
      rw [show ((n.toNat : Nat) : Int) = n by omega]
      exact hl
theorem pRec_canon {l l' : List Int} {r : Rec} (hb : Byt l) (h : pRec l = .ok (r, l')) : l = encR r ++ l' ∧ rchk r = 0 ∧ 0 ≤ r.fam ∧ r.fam < 4294967296 := by
  cases l with
  | nil => cases h
  | cons k l1 =>
    have hk0' := hb k (by simp)
    have hb1 : Byt l1 := fun c hc => hb c (by simp [hc])
    unfold pRec at h
    dsimp only at h
    by_cases hk : 2 < k
    · rw [if_pos hk] at h; cases h
    · rw [if_neg hk] at h
      cases h2 : pVar 4294967295 l1 with
      | error c2 => rw [h2] at h; cases h
      | ok x2 =>
        obtain ⟨f, l2⟩ := x2
        rw [h2] at h
        dsimp only at h
        obtain ⟨e2, f0, f1⟩ := pVar_canon hb1 h2
        have hb2 : Byt l2 := by rw [e2] at hb1; exact hb1.right
        cases h3 : pText 1024 l2 with
        | error c3 => rw [h3] at h; cases h
        | ok x3 =>
          obtain ⟨key, l3⟩ := x3
          rw [h3] at h
          dsimp only at h
          obtain ⟨e3, g3⟩ := pText_canon hb2 h3
          have hb3 : Byt l3 := by rw [e3] at hb2; exact hb2.right
          by_cases hk0 : k = 0
          · rw [if_pos hk0] at h
            cases h
            refine ⟨?_, ?_, f0, (show f < 4294967296 by omega)⟩
            · simp only [encR, hk0, if_true, List.append_nil]
              rw [e2, e3]; simp
            · unfold rchk chk
              simp only
              rw [if_neg (by omega), if_neg (by omega), if_neg (fun hh => hh.1 hk0)]
          · rw [if_neg hk0] at h
            cases h4 : pText (mostV k) l3 with
            | error c4 => rw [h4] at h; cases h
            | ok x4 =>
              obtain ⟨val, l4⟩ := x4
              rw [h4] at h
              cases h
              obtain ⟨e4, g4⟩ := pText_canon hb3 h4
              refine ⟨?_, ?_, f0, (show f < 4294967296 by omega)⟩
              · simp only [encR, if_neg hk0]
                rw [e2, e3, e4]; simp
              · unfold rchk chk
                simp only
                rw [if_neg (by omega), if_neg (by omega), if_neg (fun hh => by have := hh.2; omega)]
theorem pMany_canon : ∀ (n : Nat) (l l' : List Int) (rs : List Rec), Byt l → pMany n l = .ok (rs, l') → l = encs rs ++ l' ∧ rs.length = n ∧ (∀ r ∈ rs, rchk r = 0 ∧ 0 ≤ r.fam ∧ r.fam < 4294967296)
  | 0, l, l', rs, hb, h => by
    simp only [pMany, Except.ok.injEq, Prod.mk.injEq] at h
    obtain ⟨rfl, rfl⟩ := h
    simp [encs]
  | n + 1, l, l', rs, hb, h => by
    unfold pMany at h
    cases h1 : pRec l with
    | error c => rw [h1] at h; cases h
    | ok x =>
      obtain ⟨r, l1⟩ := x
      rw [h1] at h
      dsimp only at h
      obtain ⟨e1, g1, g2, g3⟩ := pRec_canon hb h1
      have hb1 : Byt l1 := by rw [e1] at hb; exact hb.right
      cases h2 : pMany n l1 with
      | error c => rw [h2] at h; cases h
      | ok y =>
        obtain ⟨rs', l2⟩ := y
        rw [h2] at h
        cases h
        obtain ⟨e2, g4, g5⟩ := pMany_canon n l1 _ rs' hb1 h2
        refine ⟨by rw [e1, e2]; simp [encs], by simp [g4], ?_⟩
        intro x hx
        rcases List.mem_cons.1 hx with rfl | hx
        · exact ⟨g1, g2, g3⟩
        · exact g5 x hx
theorem fbad_zero {l : List Rec} (h : ∀ r ∈ l, rchk r = 0) : fbad l = 0 := by
  induction l with
  | nil => rfl
  | cons r l ih => unfold fbad; rw [if_pos (h r (by simp))]; exact ih (fun x hx => h x (by simp [hx]))
/-- What is read is written as it was. -/
theorem dec_enc {l : List Int} {s : Int} {rs : List Rec} (hb : Byt l) (h : pAll l = .ok (s, rs)) : encE s rs = 0 ∧ encB s rs = l ∧ Fam rs ∧ rs.length ≤ 4096 ∧ numb s rs.length = true ∧ 0 ≤ s ∧ s < 18446744073709551616 := by
  unfold pAll at h
  by_cases hl : 4194304 < l.length
  · rw [if_pos hl] at h; cases h
  · rw [if_neg hl] at h
    unfold pBody at h
    cases hh : pHead l with
    | error c => rw [hh] at h; cases h
    | ok x =>
      obtain ⟨⟨s', n⟩, l1⟩ := x
      rw [hh] at h
      dsimp only at h
      obtain ⟨h12, s0, s1, n0, n1, hnb, es, en, el⟩ := pHead_bd hb hh
      have hb1 : Byt l1 := by rw [el]; exact fun c hc => hb c (List.mem_of_mem_drop (List.mem_of_mem_drop hc))
      cases hm : pMany n.toNat l1 with
      | error c => rw [hm] at h; cases h
      | ok y =>
        obtain ⟨rs', l2⟩ := y
        rw [hm] at h
        dsimp only at h
        obtain ⟨e2, g4, g5⟩ := pMany_canon _ _ _ _ hb1 hm
        by_cases hl2 : l2 = []
        · rw [if_pos hl2] at h
          cases h
          subst hl2
          have hn : (rs.length : Int) = n := by rw [g4]; omega
          have hlB : encB s rs = l := by
            unfold encB
            rw [hn]
            have b8 : byts 8 s = l.take 8 := by
              have := byts_leV (l.take 8) (fun c hc => hb c (List.mem_of_mem_take hc))
              rw [show (l.take 8).length = 8 by simp; omega] at this
              rw [es]; exact this
            have b4 : byts 4 n = (l.drop 8).take 4 := by
              have := byts_leV ((l.drop 8).take 4) (fun c hc => hb c (List.mem_of_mem_drop (List.mem_of_mem_take hc)))
              rw [show ((l.drop 8).take 4).length = 4 by simp; omega] at this
              rw [en]; exact this
            have e3 : encs rs = (l.drop 8).drop 4 := by rw [← el]; rw [List.append_nil] at e2; exact e2.symm
            rw [b8, b4, e3, List.append_assoc, List.take_append_drop, List.take_append_drop]
          have hnb' : numb s rs.length = true := by rw [hn]; exact hnb
          have hsz : 12 + szs rs = l.length := by
            rw [← hlB]
            unfold encB
            simp only [List.length_append, byts_len, encs_len]
          refine ⟨?_, hlB, fun r hr => (g5 r hr).2, by omega, hnb', s0, s1⟩
          unfold encE
          rw [if_neg (by rw [hnb']; decide), if_neg (by omega), if_neg (by rw [fbad_zero (fun r hr => (g5 r hr).1)]; decide), if_neg (by omega)]
        · rw [if_neg hl2] at h; cases h
end Go.Proofs.Ytkpijoogaicodaa
