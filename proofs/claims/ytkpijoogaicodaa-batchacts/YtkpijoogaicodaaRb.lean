import Derived.Test.YtkpijoogaicodaaMv
namespace Go.Proofs.Ytkpijoogaicodaa
open Go.RowKit
set_option linter.unusedVariables false
set_option linter.unusedSimpArgs false

/-- What ReadVarint can answer. -/
theorem rvG_cases : ∀ (l : List Int) (i : Nat) (n : Int), (∃ v : Int, ∃ s : Nat, rvG l i n = (v, (i : Int) + s, 0) ∧ 1 ≤ s ∧ s ≤ l.length ∧ 0 ≤ v ∧ v < 18446744073709551616) ∨ rvG l i n = (0, 0, 3) ∨ rvG l i n = (0, 0, 4)
  | [], i, n => .inr (.inr rfl)
  | c :: l, i, n => by
    unfold rvG
    split
    · exact .inr (.inl rfl)
    · split
      · exact .inr (.inl rfl)
      · split
        · exact .inl ⟨_, 1, rfl, by omega, by simp, (grp_bd n c i).1, (grp_bd n c i).2⟩
        · rcases rvG_cases l (i + 1) (grp n c i) with ⟨v, s, h, h1, h2, h3, h4⟩ | h | h
          · exact .inl ⟨v, s + 1, by rw [h]; congr 2; omega, by omega, by simpa using h2, h3, h4⟩
          · exact .inr (.inl h)
          · exact .inr (.inr h)
def pVar (most : Int) (l : List Int) : Except Int (Int × List Int) :=
  if (rvG l 0 0).2.2 ≠ 0 then .error (rvG l 0 0).2.2 else if most < (rvG l 0 0).1 then .error 3 else .ok ((rvG l 0 0).1, l.drop (rvG l 0 0).2.1.toNat)
/-- How a number can be read. -/
theorem pVar_cases (most : Int) (l : List Int) : (∃ (v : Int) (s : Nat), rvG l 0 0 = (v, (s : Int), 0) ∧ 1 ≤ s ∧ s ≤ l.length ∧ 0 ≤ v ∧ v < 18446744073709551616 ∧ v ≤ most ∧ pVar most l = .ok (v, l.drop s)) ∨
    (∃ (v : Int) (s : Nat), rvG l 0 0 = (v, (s : Int), 0) ∧ most < v ∧ 0 ≤ v ∧ v < 18446744073709551616 ∧ pVar most l = .error 3) ∨ (∃ c, (c = 3 ∨ c = 4) ∧ rvG l 0 0 = (0, 0, c) ∧ pVar most l = .error c) := by
  unfold pVar
  rcases rvG_cases l 0 0 with ⟨v, s, h, h1, h2, h3, h4⟩ | h | h
  · have h' : rvG l 0 0 = (v, (s : Int), 0) := by rw [h]; congr 2; omega
    rw [h']
    by_cases hm : most < v
    · exact .inr (.inl ⟨v, s, rfl, hm, h3, h4, by simp [hm]⟩)
    · exact .inl ⟨v, s, rfl, h1, h2, h3, h4, by omega, by simp [hm]⟩
  · rw [h]; exact .inr (.inr ⟨3, .inl rfl, rfl, by simp⟩)
  · rw [h]; exact .inr (.inr ⟨4, .inr rfl, rfl, by simp⟩)

/-- The reader goes on. -/
theorem rdr_adv {w : World} {rb : Nat} {l : List Int} {a : Option Addr} {cap : Nat} (hB : Blk w rb 85 [.slice a l.length cap]) (hA : Arg w a l.length cap l) (hcap : l.length ≤ cap) (hlt : ∀ k, Value.ownBlock (.slice a l.length cap) = some k → k + 3 < rb) (n : Nat) (hn : n ≤ l.length) :
    Rdr (w.setCell ⟨rb, 0, none⟩ (.slice (cutBA a cap n) (l.length - n) (cap - n))) rb (l.drop n) ∧ Upd (At rb) w (w.setCell ⟨rb, 0, none⟩ (.slice (cutBA a cap n) (l.length - n) (cap - n))) := by
  have U : Upd (At rb) w (w.setCell ⟨rb, 0, none⟩ (.slice (cutBA a cap n) (l.length - n) (cap - n))) := Upd.setCell (p := ⟨rb, 0, none⟩) (Upd.refl (At rb) w) (fun _ => rfl) _
  have hS : ∀ k, Value.ownBlock (.slice a l.length cap) = some k → ¬ At rb k := fun k hk e => by have := hlt k hk; unfold At at e; omega
  refine ⟨⟨cutBA a cap n, cap - n, ?_, ?_, by rw [List.length_drop]; omega, ?_⟩, U⟩
  · rw [List.length_drop]; exact hB.set 0 _
  · rw [List.length_drop]; exact (hA.drop n hn hcap).upd U (fun k hk => hS k (by rw [cutBA_own _ _ _ _ _ l.length cap] at hk; exact hk))
  · intro k hk
    rw [cutBA_own _ _ _ _ _ l.length cap] at hk
    exact hlt k hk
theorem bne0 {c : Int} (h : c = 3 ∨ c = 4) : (c != 0) = true := by rcases h with rfl | rfl <;> rfl
set_option maxRecDepth 100000 in
set_option maxHeartbeats 1000000 in
theorem varint_ok {w : World} {rb : Nat} {l l' : List Int} {n most : Int} (h : Rdr w rb l) (m0 : 0 ≤ most) (m1 : most < 18446744073709551616) (hp : pVar most l = .ok (n, l')) :
    Calls Try.prog 75 #[ptr rb, .int .u64 most] w fun e w' => e = .returned (.int .u64 n) ∧ Rdr w' rb l' ∧ Upd (At rb) w w' := by
  obtain ⟨a, cap, hB, hA, hcap, hlt⟩ := h
  rcases pVar_cases most l with ⟨v, s, hR, s1, s2, v0, v1, v2, hp'⟩ | ⟨v, s, hR, _, _, _, hp'⟩ | ⟨c, _, hR, hp'⟩
  · rw [hp] at hp'
    simp only [Except.ok.injEq, Prod.mk.injEq] at hp'
    obtain ⟨rfl, rfl⟩ := hp'
    have c0 := hB.cell1 0 _ rfl
    have f0 := hB.frozen 0
    have h1 := bcut_lo a l.length cap s s2
    have HC := crv_any a l.length cap l w hA
    rw [hR] at HC
    dsimp only at HC
    clear hR hp
    go_enter Try.func75, Try.ntmps75
    go_wp2_with (first
      | (go_at_call 81; refine HC.mono ?_; rintro e w' ⟨rfl, rfl⟩)
      | (go_at_call 73; refine (must_yes _).mono ?_; rintro e w' ⟨rfl, rfl⟩))
    go_ret
    exact ⟨rfl, rdr_adv hB hA hcap hlt s s2⟩
  · rw [hp] at hp'; cases hp'
  · rw [hp] at hp'; cases hp'
set_option maxRecDepth 100000 in
set_option maxHeartbeats 1000000 in
theorem varint_err {w : World} {rb : Nat} {l : List Int} {most c : Int} (h : Rdr w rb l) (m0 : 0 ≤ most) (m1 : most < 18446744073709551616) (hp : pVar most l = .error c) :
    Calls Try.prog 75 #[ptr rb, .int .u64 most] w fun e w' => e = pnk c ∧ w' = w := by
  obtain ⟨a, cap, hB, hA, hcap, hlt⟩ := h
  have c0 := hB.cell1 0 _ rfl
  have HC := crv_any a l.length cap l w hA
  rcases pVar_cases most l with ⟨v, s, hR, s1, s2, v0, v1, v2, hp'⟩ | ⟨v, s, hR, v2, v0, v1, hp'⟩ | ⟨c', hc', hR, hp'⟩
  · rw [hp] at hp'; cases hp'
  · rw [hp] at hp'
    cases hp'
    rw [hR] at HC
    dsimp only at HC
    have dv : decide (v ≤ most) = false := by simpa using v2
    clear hR hp
    go_enter Try.func75, Try.ntmps75
    go_wp2_with (first
      | (go_at_call 81; refine HC.mono ?_; rintro e w' ⟨rfl, rfl⟩)
      | (go_at_call 73; refine (must_no _).mono ?_; rintro e w' ⟨rfl, rfl⟩))
    exact ⟨rfl, rfl, rfl⟩
  · rw [hp] at hp'
    cases hp'
    have tc := bne0 hc'
    rw [hR] at HC
    dsimp only at HC
    clear hR hp hc'
    go_enter Try.func75, Try.ntmps75
    go_wp2_with (go_at_call 81; refine HC.mono ?_; rintro e w' ⟨rfl, rfl⟩)
    exact ⟨rfl, rfl, rfl⟩
theorem Arg.str {w : World} {a : Option Addr} {len cap : Nat} {l : List Int} (h : Arg w a len cap l) : (convert 24 9 (.slice a len cap)).run Try.prog w = .ok (.string (bstr l)) w := by
  obtain ⟨rfl, h2, h3, h4⟩ := h
  rcases h4 with rfl | ⟨b, off, rfl, hlt, hc⟩
  · rw [run_convert_bytes_string w 24 9 5 _ _ _ Try.underlying24 Try.underlying5 Try.underlying9]
    cases a with
    | none => simp [Conv.bytesToString, bstr]
    | some x => exact run_bytesToString w x 0 cap [] (run_loadCells_list (P := Try.prog) w x [] (by simp))
  · exact run_string_at w 24 9 Try.underlying24 Try.underlying5 Try.underlying9 b off cap l hc
def pText (most : Int) (l : List Int) : Except Int (List Int × List Int) := match pVar most l with
  | .error c => .error c
  | .ok (n, l') => if (l'.length : Int) < n then .error 4 else .ok (l'.take n.toNat, l'.drop n.toNat)
theorem pVar_bd {most n : Int} {l l' : List Int} (h : pVar most l = .ok (n, l')) : 0 ≤ n ∧ n ≤ most := by
  rcases pVar_cases most l with ⟨v, s, hR, s1, s2, v0, v1, v2, hp'⟩ | ⟨v, s, hR, v2, v0, v1, hp'⟩ | ⟨c', hc', hR, hp'⟩
  · rw [h] at hp'
    simp only [Except.ok.injEq, Prod.mk.injEq] at hp'
    obtain ⟨rfl, rfl⟩ := hp'
    exact ⟨v0, v2⟩
  · rw [h] at hp'; cases hp'
  · rw [h] at hp'; cases hp'
set_option maxRecDepth 100000 in
set_option maxHeartbeats 1000000 in
theorem text_ok {w : World} {rb : Nat} {l t l' : List Int} {most : Int} (h : Rdr w rb l) (m0 : 0 ≤ most) (m1 : most ≤ 100000) (hp : pText most l = .ok (t, l')) :
    Calls Try.prog 76 #[ptr rb, .int .i64 most] w fun e w' => e = .returned (.string (bstr t)) ∧ Rdr w' rb l' ∧ Upd (At rb) w w' := by
  unfold pText at hp
  cases hv : pVar most l with
  | error c => rw [hv] at hp; cases hp
  | ok x =>
    obtain ⟨n, l1⟩ := x
    rw [hv] at hp
    obtain ⟨n0, n1⟩ := pVar_bd hv
    dsimp only at hp
    by_cases hlen : (l1.length : Int) < n
    · rw [if_pos hlen] at hp; cases hp
    · rw [if_neg hlen] at hp
      cases hp
      obtain ⟨N, rfl⟩ := Int.eq_ofNat_of_zero_le n0
      have hN : N ≤ l1.length := by omega
      rw [Int.toNat_natCast]
      have HV := varint_ok h m0 (by omega) hv
      go_enter Try.func76, Try.ntmps76
      go_wp2_with (first
        | (go_at_call 75; refine HV.mono ?_; rintro e w1 ⟨rfl, hr1, hu1⟩)
        | (go_at_call 72; refine (take_yes hr1 N hN).mono ?_; rintro e w2 ⟨a2, cap2, rfl, hA2, hc2, hr2, hu2⟩; have hstr := hA2.str))
      go_ret
      exact ⟨rfl, hr2, hu1.trans hu2⟩
set_option maxRecDepth 100000 in
set_option maxHeartbeats 1000000 in
theorem text_err {w : World} {rb : Nat} {l : List Int} {most c : Int} (h : Rdr w rb l) (m0 : 0 ≤ most) (m1 : most ≤ 100000) (hp : pText most l = .error c) :
    Calls Try.prog 76 #[ptr rb, .int .i64 most] w fun e w' => e = pnk c ∧ Upd (At rb) w w' := by
  unfold pText at hp
  cases hv : pVar most l with
  | error c' =>
    rw [hv] at hp
    cases hp
    have HV := varint_err h m0 (by omega) hv
    go_enter Try.func76, Try.ntmps76
    go_wp2_with (go_at_call 75; refine HV.mono ?_; rintro e w1 ⟨rfl, rfl⟩)
    exact ⟨rfl, rfl, Upd.refl _ _⟩
  | ok x =>
    obtain ⟨n, l1⟩ := x
    rw [hv] at hp
    obtain ⟨n0, n1⟩ := pVar_bd hv
    dsimp only at hp
    by_cases hlen : (l1.length : Int) < n
    · rw [if_pos hlen] at hp
      cases hp
      obtain ⟨N, rfl⟩ := Int.eq_ofNat_of_zero_le n0
      have hN : l1.length < N := by omega
      have HV := varint_ok h m0 (by omega) hv
      go_enter Try.func76, Try.ntmps76
      go_wp2_with (first
        | (go_at_call 75; refine HV.mono ?_; rintro e w1 ⟨rfl, hr1, hu1⟩)
        | (go_at_call 72; refine (take_no hr1 N hN).mono ?_; rintro e w2 ⟨rfl, rfl⟩))
      exact ⟨rfl, rfl, hu1⟩
    · rw [if_neg hlen] at hp; cases hp

def pRec : List Int → Except Int (Rec × List Int)
  | [] => .error 4
  | k :: l1 => if 2 < k then .error 3 else match pVar 4294967295 l1 with
    | .error c => .error c
    | .ok (f, l2) => match pText 1024 l2 with
      | .error c => .error c
      | .ok (key, l3) => if k = 0 then .ok (⟨f, k, bstr key, ⟨#[]⟩⟩, l3) else match pText (mostV k) l3 with
        | .error c => .error c
        | .ok (val, l4) => .ok (⟨f, k, bstr key, bstr val⟩, l4)
theorem mostV_bd (k : Int) : 0 ≤ mostV k ∧ mostV k ≤ 100000 := by unfold mostV; split <;> omega
/-- The byte that take(1) hands back. -/
theorem Arg.first {w : World} {a : Option Addr} {cap : Nat} {k : Int} {l : List Int} (h : Arg w a 1 cap ((k :: l).take 1)) : ∃ b off, a = some ⟨b, off, none⟩ ∧ w.cell? ⟨b, off, none⟩ = some (.int .u8 k) := by
  obtain ⟨h1, h2, h3, h4⟩ := h
  rcases h4 with h4 | ⟨b, off, rfl, hlt, hc⟩
  · simp at h4
  · exact ⟨b, off, rfl, by have := hc 0 (by simp); simpa using this⟩
theorem Rdr.bytes {w : World} {rb : Nat} {l : List Int} (h : Rdr w rb l) : ∀ c ∈ l, 0 ≤ c ∧ c < 256 := by
  obtain ⟨a, cap, _, hA, _⟩ := h
  exact hA.2.1
theorem Rdr.alloc {w : World} {rb : Nat} {l : List Int} (h : Rdr w rb l) (o : Obj) : Rdr (w.alloc o) rb l := h.below ((Below.refl _ _).alloc (Nat.le_refl _) _)
theorem upd_new {S : Nat → Prop} {w W w' : World} (h : Upd S w W) {B : Nat} (hB : w.heap.size ≤ B) (i : Nat) (v : Value) : Upd S w (W.setCell ⟨B, i, none⟩ v) := Upd.setCell (p := ⟨B, i, none⟩) h (fun hh => absurd hh (by simp; omega)) v
theorem Rdr.other {w : World} {rb B : Nat} {l : List Int} (h : Rdr w rb l) (hB : w.heap.size ≤ B) (i : Nat) (v : Value) : Rdr (w.setCell ⟨B, i, none⟩ v) rb l := by
  obtain ⟨a, cap, h1, h2, h3, h4⟩ := h
  have U : Upd (At B) w (w.setCell ⟨B, i, none⟩ v) := Upd.setCell (p := ⟨B, i, none⟩) (Upd.refl (At B) w) (fun _ => rfl) _
  refine ⟨a, cap, h1.upd U (fun e => by unfold At at e; have := h1.lt; omega), h2.upd U (fun k hk e => by unfold At at e; have := h4 k hk; have := h1.lt; omega), h3, h4⟩
theorem Rdr.lt {w : World} {rb : Nat} {l : List Int} (h : Rdr w rb l) : rb < w.heap.size := by
  obtain ⟨a, cap, hB, _⟩ := h
  exact hB.lt
def zr4 : List Value := [.int .u32 0, .int .i64 0, .string ⟨#[]⟩, .string ⟨#[]⟩]
/-- The result's variable, behind what the reader did. -/
theorem res_kept {w w' : World} {rb : Nat} (hlt : rb < w.heap.size) (u : Upd (At rb) (w.alloc (.cells #[.int .u32 0, .int .i64 0, .string ⟨#[]⟩, .string ⟨#[]⟩] 31)) w') : Blk w' w.heap.size 31 zr4 :=
  (Blk.new w 31 zr4).upd u (fun e => by unfold At at e; omega)
/-- Four stores into it. -/
def four (w : World) (B : Nat) (f k : Int) (key val : ByteArray) : World := (((w.setCell ⟨B, 0, none⟩ (.int .u32 f)).setCell ⟨B, 1, none⟩ (.int .i64 k)).setCell ⟨B, 2, none⟩ (.string key)).setCell ⟨B, 3, none⟩ (.string val)
theorem four_rdr {w W : World} {rb B : Nat} {l : List Int} {f k : Int} {key val : ByteArray} (h : Rdr W rb l) (hB : B ≠ rb) (hlt : ∀ b, b + 3 < rb → b ≠ B) : Rdr (four W B f k key val) rb l := by
  obtain ⟨a, cap, h1, h2, h3, h4⟩ := h
  have U : Upd (At B) W (four W B f k key val) := by
    unfold four
    exact Upd.setCell (p := ⟨B, 3, none⟩) (Upd.setCell (p := ⟨B, 2, none⟩) (Upd.setCell (p := ⟨B, 1, none⟩) (Upd.setCell (p := ⟨B, 0, none⟩) (Upd.refl (At B) W) (fun _ => rfl) _) (fun _ => rfl) _) (fun _ => rfl) _) (fun _ => rfl) _
  exact ⟨a, cap, h1.upd U (fun e => hB e.symm), h2.upd U (fun k hk e => hlt k (h4 k hk) e), h3, h4⟩
theorem four_upd {w W : World} {rb B : Nat} {f k : Int} {key val : ByteArray} (u : Upd (At rb) w W) (hB : w.heap.size ≤ B) : Upd (At rb) w (four W B f k key val) := by
  unfold four
  exact Upd.setCell (p := ⟨B, 3, none⟩) (Upd.setCell (p := ⟨B, 2, none⟩) (Upd.setCell (p := ⟨B, 1, none⟩) (Upd.setCell (p := ⟨B, 0, none⟩) u (fun hh => absurd hh (Nat.not_lt.2 hB)) _) (fun hh => absurd hh (Nat.not_lt.2 hB)) _) (fun hh => absurd hh (Nat.not_lt.2 hB)) _) (fun hh => absurd hh (Nat.not_lt.2 hB)) _
set_option maxRecDepth 100000 in
set_option maxHeartbeats 2000000 in
theorem record_put {w : World} {rb : Nat} {k : Int} {l1 l2 l3 l4 key val : List Int} {f : Int} (h : Rdr w rb (k :: l1)) (hk : ¬ 2 < k) (hk0 : ¬ k = 0) (h2 : pVar 4294967295 l1 = .ok (f, l2)) (h3 : pText 1024 l2 = .ok (key, l3)) (h4 : pText (mostV k) l3 = .ok (val, l4)) :
    Calls Try.prog 61 #[ptr rb] w fun e w' => e = .returned (recV f k (bstr key) (bstr val)) ∧ Rdr w' rb l4 ∧ Upd (At rb) w w' := by
  obtain ⟨f0, f1⟩ := pVar_bd h2
  have hkb := h.bytes k (by simp)
  have HK := isKind_yes (k := k) (by omega)
  have HV := hasValue_yes hk0
  have hm := mostV_bd k
  have hlt := h.lt
  clear hk hk0
  go_enter Try.func61, Try.ntmps61
  go_wp2_with (first
    | (go_at_call 76; refine (text_ok hr4 hm.1 hm.2 h4).mono ?_; rintro e w5 ⟨rfl, hr5, hu5⟩; have Z := res_kept hlt (((hu2.trans hu3).trans hu4).trans hu5); have d0 := Z.cell1 0 _ rfl; have d1 := Z.cell1 1 _ rfl; have d2 := Z.cell1 2 _ rfl; have d3 := Z.cell1 3 _ rfl; have z0 := Z.frozen 0; have z1 := Z.frozen 1; have z2 := Z.frozen 2; have z3 := Z.frozen 3)
    | (go_at_call 37; refine (mostValue_any k _).mono ?_; rintro e w' ⟨rfl, rfl⟩)
    | (go_at_call 36; refine (HV _).mono ?_; rintro e w' ⟨rfl, rfl⟩)
    | (go_at_call 76; refine (text_ok hr3 (by decide) (by decide) h3).mono ?_; rintro e w4 ⟨rfl, hr4, hu4⟩)
    | (go_at_call 75; refine (varint_ok hr2 (by decide) (by decide) h2).mono ?_; rintro e w3 ⟨rfl, hr3, hu3⟩)
    | (go_at_call 73; refine (must_yes _).mono ?_; rintro e w' ⟨rfl, rfl⟩)
    | (go_at_call 35; refine (HK _).mono ?_; rintro e w' ⟨rfl, rfl⟩)
    | (go_at_call 72; refine (take_yes (h.alloc _) 1 (by simp)).mono ?_; rintro e w2 ⟨a2, cap2, rfl, hA2, hc2, hr2, hu2⟩; obtain ⟨b2, off2, rfl, cb⟩ := hA2.first; clear hA2))
  refine bodyPost_ret (v := recV f k (bstr key) (bstr val)) (by simp [results, Try.results61, go_sem, *]) rfl ⟨rfl, ?_⟩
  have U := ((Upd.refl (At rb) w).alloc (.cells #[.int .u32 0, .int .i64 0, .string ⟨#[]⟩, .string ⟨#[]⟩] 31)).trans (((hu2.trans hu3).trans hu4).trans hu5)
  exact ⟨four_rdr (w := w) hr5 (by omega) (fun b hb => by omega), four_upd U (Nat.le_refl _)⟩
set_option maxRecDepth 100000 in
set_option maxHeartbeats 2000000 in
theorem record_del {w : World} {rb : Nat} {k : Int} {l1 l2 l3 key : List Int} {f : Int} (h : Rdr w rb (k :: l1)) (hk0 : k = 0) (h2 : pVar 4294967295 l1 = .ok (f, l2)) (h3 : pText 1024 l2 = .ok (key, l3)) :
    Calls Try.prog 61 #[ptr rb] w fun e w' => e = .returned (recV f k (bstr key) ⟨#[]⟩) ∧ Rdr w' rb l3 ∧ Upd (At rb) w w' := by
  obtain ⟨f0, f1⟩ := pVar_bd h2
  have hkb := h.bytes k (by simp)
  have HK := isKind_yes (k := k) (by omega)
  have HV := hasValue_no hk0
  have hlt := h.lt
  clear hk0
  go_enter Try.func61, Try.ntmps61
  go_wp2_with (first
    | (go_at_call 36; refine (HV _).mono ?_; rintro e w' ⟨rfl, rfl⟩)
    | (go_at_call 76; refine (text_ok hr3 (by decide) (by decide) h3).mono ?_; rintro e w4 ⟨rfl, hr4, hu4⟩; have Z := res_kept hlt ((hu2.trans hu3).trans hu4); have d0 := Z.cell1 0 _ rfl; have d1 := Z.cell1 1 _ rfl; have d2 := Z.cell1 2 _ rfl; have d3 := Z.cell1 3 _ rfl; have z0 := Z.frozen 0; have z1 := Z.frozen 1; have z2 := Z.frozen 2; have z3 := Z.frozen 3)
    | (go_at_call 75; refine (varint_ok hr2 (by decide) (by decide) h2).mono ?_; rintro e w3 ⟨rfl, hr3, hu3⟩)
    | (go_at_call 73; refine (must_yes _).mono ?_; rintro e w' ⟨rfl, rfl⟩)
    | (go_at_call 35; refine (HK _).mono ?_; rintro e w' ⟨rfl, rfl⟩)
    | (go_at_call 72; refine (take_yes (h.alloc _) 1 (by simp)).mono ?_; rintro e w2 ⟨a2, cap2, rfl, hA2, hc2, hr2, hu2⟩; obtain ⟨b2, off2, rfl, cb⟩ := hA2.first; clear hA2))
  refine bodyPost_ret (v := recV f k (bstr key) ⟨#[]⟩) (by simp [results, Try.results61, go_sem, *]) rfl ⟨rfl, ?_⟩
  have U := ((Upd.refl (At rb) w).alloc (.cells #[.int .u32 0, .int .i64 0, .string ⟨#[]⟩, .string ⟨#[]⟩] 31)).trans ((hu2.trans hu3).trans hu4)
  exact ⟨four_rdr (w := w) hr4 (by omega) (fun b hb => by omega), four_upd U (Nat.le_refl _)⟩
end Go.Proofs.Ytkpijoogaicodaa
