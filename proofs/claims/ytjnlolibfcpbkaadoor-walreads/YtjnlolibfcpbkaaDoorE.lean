import Derived.Test.YtjnlolibfcpbkaaDoorC
namespace Go.Proofs.YtjnlolibfcpbkaaDoor
open Go.RowKit Go.Maps
set_option linter.unusedVariables false
set_option linter.unusedSimpArgs false
theorem bstr_go : ∀ (l : List Int) (r : ByteArray), (∀ c ∈ l, 0 ≤ c ∧ c < 256) → sb (l.foldl (fun r n => r.push (UInt8.ofNat n.toNat)) r) = sb r ++ l
  | [], r, _ => by simp
  | c :: l, r, h => by
    have hc := h c (by simp)
    rw [List.foldl_cons, bstr_go l _ (fun x hx => h x (by simp [hx]))]
    have e : sb (r.push (UInt8.ofNat c.toNat)) = sb r ++ [c] := by
      unfold sb
      simp only [ByteArray.push, Array.toList_push, List.map_append, List.map_cons, List.map_nil]
      congr 2
      rw [UInt8.toNat_ofNat']
      omega
    rw [e]; simp
theorem sb_bstr (l : List Int) (h : ∀ c ∈ l, 0 ≤ c ∧ c < 256) : sb (bstr l) = l := by
  unfold bstr
  rw [bstr_go l _ h]
  rfl
theorem Arg.str {w : World} {a : Option Addr} {len cap : Nat} {l : List Int} (h : Arg w a len cap l) : (convert 22 9 (.slice a len cap)).run Tryd.prog w = .ok (.string (bstr l)) w := by
  obtain ⟨rfl, h2, h3, h4⟩ := h
  rcases h4 with rfl | ⟨b, off, rfl, hlt, hc⟩
  · rw [run_convert_bytes_string w 22 9 5 _ _ _ Tryd.underlying22 Tryd.underlying5 Tryd.underlying9]
    cases a with
    | none => simp [Conv.bytesToString, bstr]
    | some x => exact run_bytesToString w x 0 cap [] (run_loadCells_list (P := Tryd.prog) w x [] (by simp))
  · exact run_string_at w 22 9 Tryd.underlying22 Tryd.underlying5 Tryd.underlying9 b off cap l hc
theorem OwnB.str {w : World} {base : Nat} {v : Value} {l : List Int} (h : OwnB w base v l) : (convert 22 9 v).run Tryd.prog w = .ok (.string (bstr l)) w :=
  h.run_string (P := Tryd.prog) 22 9 Tryd.underlying22 Tryd.underlying5 Tryd.underlying9
theorem fxA_bc (s : Nat) (n : Int) : fxA s n s = (bc ((List.range s).map (byteAt n))).toArray := by
  unfold fxA bc
  rw [List.map_map]
  congr 1
  apply List.map_congr_left
  intro i hi
  rw [if_pos (List.mem_range.1 hi)]; rfl
theorem cfixed32_own (n : Int) (w : World) (h0 : 0 ≤ n) (h1 : n < 4294967296) :
    Calls Tryd.prog 48 #[.int .u32 n] w fun e w' => ∃ v, e = .returned v ∧ OwnB w' w.heap.size v (byts 4 n) ∧ Below w.heap.size w w' := by
  refine (cfixed32_any n w h0 h1).mono ?_
  rintro e w' ⟨rfl, rfl⟩
  refine ⟨_, rfl, ?_, (Below.refl _ _).alloc (Nat.le_refl _) _⟩
  have := OwnB.ofBlock w w.heap.size (byts 4 n) [] (fxA 4 n 4) (0, 0) (by rw [fxA_bc, List.append_nil]; rfl) (Nat.le_refl _) (.inl rfl) (by rw [byts_len]; simp [maxLen]) 4 (by rw [byts_len]; rfl)
  rw [byts_len] at this
  exact this
def Byt (l : List Int) : Prop := ∀ c ∈ l, 0 ≤ c ∧ c < 256
theorem bstr_eq {l m : List Int} (hl : Byt l) (hm : Byt m) : ((bstr l).toList == (bstr m).toList) = decide (l = m) := by
  by_cases h : l = m
  · subst h; simp
  · have : (bstr l).toList ≠ (bstr m).toList := fun e => h (by
      rw [ByteArray.toList_eq, ByteArray.toList_eq] at e
      rw [← sb_bstr l hl, ← sb_bstr m hm]
      unfold sb
      rw [e])
    simp [h, this]
theorem equal_any {a a' : Option Addr} {len len' cap cap' : Nat} {l m : List Int} {w : World} (h : Arg w a len cap l) (h' : Arg w a' len' cap' m) :
    Calls Tryd.prog 40 #[.slice a len cap, .slice a' len' cap'] w fun e w' => e = .returned (.bool (decide (l = m))) ∧ w' = w := by
  have s1 := h.str
  have s2 := h'.str
  rw [← bstr_eq h.2.1 h'.2.1]
  go_enter Tryd.func40, Tryd.ntmps40
  go_wp2
  go_ret
  exact ⟨rfl, rfl⟩
/-- What a fragment's first bytes should be. -/
def sealV (f : List Int) : List Int := byts 4 (maskV (crcSum (f.drop 6)))
theorem crcSum_bd (l : List Int) : 0 ≤ crcSum l ∧ crcSum l < 4294967296 := by
  have a := bits_lo_u32 .xor IntKind.u32.max (crcReg l)
  have b := bits_hi_u32 .xor IntKind.u32.max (crcReg l)
  unfold crcSum
  omega
set_option maxHeartbeats 1000000 in
theorem seal_any {a : Option Addr} {len cap : Nat} {l : List Int} {w : World} (h : Arg w a len cap l) (h6 : 6 ≤ len) (hcap : len ≤ cap) :
    Calls Tryd.prog 41 #[.slice a len cap] w fun e w' => ∃ v, e = .returned v ∧ OwnB w' w.heap.size v (sealV l) ∧ Below w.heap.size w w' := by
  obtain ⟨B, off, X, rfl, hB, _⟩ := h.at (k := 0) (by omega)
  have CL := bcut_lo B off len cap 6 h6
  have HA := h.lo h6 hcap
  have HS := csum_arg _ _ _ _ w HA
  have hb := crcSum_bd (l.drop 6)
  have HM := cmask_any (crcSum (l.drop 6)) w hb.1 hb.2
  have HF := cfixed32_own (maskV (crcSum (l.drop 6))) w (maskV_lo _) (maskV_hi _)
  unfold sealV
  generalize crcSum (l.drop 6) = S at *
  go_enter Tryd.func41, Tryd.ntmps41
  go_wp2_with (first
    | (go_at_call 50; refine HS.mono ?_; rintro e w1 ⟨rfl, rfl⟩)
    | (go_at_call 49; refine HM.mono ?_; rintro e w2 ⟨rfl, rfl⟩)
    | (go_at_call 48; refine HF.mono ?_; rintro e w3 ⟨v, rfl, ho, hB3⟩))
  all_goals
    go_ret
    exact ⟨_, rfl, ho, hB3⟩
theorem byts_leV : ∀ (l : List Int), Byt l → byts l.length (leV l) = l
  | [], _ => by simp [byts]
  | x :: l, h => by
    have hx := h x (by simp)
    have ih := byts_leV l (fun c hc => h c (by simp [hc]))
    have hb := (leV_bd l (fun c hc => h c (by simp [hc]))).1
    have e : leV (x :: l) = x + 256 * leV l := rfl
    rw [List.length_cons, byts_succ, e]
    have e1 : (x + 256 * leV l) % 256 = x := by omega
    have e2 : (x + 256 * leV l) / 256 = leV l := by omega
    rw [e1, e2, ih]
theorem seal_iff {f : List Int} (hb : Byt f) (h4 : 4 ≤ f.length) : (f.take 4 = sealV f) ↔ maskV (crcSum (f.drop 6)) = leV (f.take 4) := by
  have ht : (f.take 4).length = 4 := by simp; omega
  unfold sealV
  constructor
  · intro h
    rw [h, leV_byts 4 _ (maskV_lo _) (by have := maskV_hi (crcSum (f.drop 6)); simpa using this)]
  · intro h
    rw [h]
    have := byts_leV (f.take 4) (take_bd hb 4)
    rw [ht] at this
    exact this.symm
/-- A fragment of an older log. -/
def older (rc : Bool) (log : Int) (f : List Int) : Bool := rc && (rfV 4 (f.drop 7) != log)
set_option maxHeartbeats 1000000 in
theorem older_any {w : World} {rb : Nat} {bv : Value} {log : Int} {rc : Bool} {sol at_ : Nat} {op : Bool} {rv lv : Value} {en : Nat} (h : Blk w rb 44 (rdC bv log rc sol at_ op rv lv en))
    {a : Option Addr} {len cap : Nat} {f : List Int} (ha : Arg w a len cap f) (h7 : 7 ≤ len) (hcap : len ≤ cap) :
    Calls Tryd.prog 42 #[ptr rb, .slice a len cap] w fun e w' => e = .returned (.bool (older rc log f)) ∧ Below w.heap.size w w' := by
  have c1 := h.cell1 1 _ rfl
  have c2 := h.cell1 2 _ rfl
  cases rc
  · go_enter Tryd.func42, Tryd.ntmps42
    go_wp2
    go_ret
    exact ⟨rfl, Below.refl _ _⟩
  · obtain ⟨B, off, X, rfl, hB, _⟩ := ha.at (k := 0) (by omega)
    have CL := bcut_lo B off len cap 7 h7
    have HA := ha.lo h7 hcap
    have HR := crf32_any _ _ _ _ w HA (by omega)
    have hlt := h.lt
    unfold older
    generalize rfV 4 (f.drop 7) = V at *
    generalize rfE 4 (f.drop 7) = E at *
    go_enter Tryd.func42, Tryd.ntmps42
    go_wp2_with (go_at_call 51; refine HR.mono ?_; rintro e w1 ⟨rfl, hB1⟩; have c1' := (hB1.cell (p := ⟨rb, 1, none⟩) hlt).trans c1)
    all_goals
      go_ret
      exact ⟨rfl, hB1⟩
end Go.Proofs.YtjnlolibfcpbkaaDoor
