import Derived.Test.YtkpijoogaicodaaRb
namespace Go.Proofs.Ytkpijoogaicodaa
open Go.RowKit
set_option linter.unusedVariables false
set_option linter.unusedSimpArgs false

theorem new_upd {S : Nat → Prop} {w w' : World} {o : Obj} (u : Upd S (w.alloc o) w') : Upd S w w' := ((Upd.refl S w).alloc o).trans u
set_option maxRecDepth 100000 in
set_option maxHeartbeats 2000000 in
theorem record_err {w : World} {rb : Nat} {l : List Int} {c : Int} (h : Rdr w rb l) (hp : pRec l = .error c) :
    Calls Try.prog 61 #[ptr rb] w fun e w' => e = pnk c ∧ Upd (At rb) w w' := by
  have al := fun (o : Obj) => (Upd.refl (At rb) w).alloc o
  cases l with
  | nil =>
    cases hp
    go_enter Try.func61, Try.ntmps61
    go_wp2_with (go_at_call 72; refine (take_no (h.alloc _) 1 (by simp)).mono ?_; rintro e w2 ⟨rfl, rfl⟩)
    exact ⟨rfl, rfl, al _⟩
  | cons k l1 =>
    have hkb := h.bytes k (by simp)
    unfold pRec at hp
    dsimp only at hp
    by_cases hk : 2 < k
    · rw [if_pos hk] at hp
      cases hp
      have HK := isKind_no (k := k) (by omega)
      go_enter Try.func61, Try.ntmps61
      go_wp2_with (first
        | (go_at_call 73; refine (must_no _).mono ?_; rintro e w' ⟨rfl, rfl⟩)
        | (go_at_call 35; refine (HK _).mono ?_; rintro e w' ⟨rfl, rfl⟩)
        | (go_at_call 72; refine (take_yes (h.alloc _) 1 (by simp)).mono ?_; rintro e w2 ⟨a2, cap2, rfl, hA2, hc2, hr2, hu2⟩; obtain ⟨b2, off2, rfl, cb⟩ := hA2.first; clear hA2))
      exact ⟨rfl, rfl, new_upd hu2⟩
    · rw [if_neg hk] at hp
      have HK := isKind_yes (k := k) (by omega)
      cases h2 : pVar 4294967295 l1 with
      | error c2 =>
        rw [h2] at hp
        cases hp
        clear hk
        go_enter Try.func61, Try.ntmps61
        go_wp2_with (first
          | (go_at_call 75; refine (varint_err hr2 (by decide) (by decide) h2).mono ?_; rintro e w3 ⟨rfl, rfl⟩)
          | (go_at_call 73; refine (must_yes _).mono ?_; rintro e w' ⟨rfl, rfl⟩)
          | (go_at_call 35; refine (HK _).mono ?_; rintro e w' ⟨rfl, rfl⟩)
          | (go_at_call 72; refine (take_yes (h.alloc _) 1 (by simp)).mono ?_; rintro e w2 ⟨a2, cap2, rfl, hA2, hc2, hr2, hu2⟩; obtain ⟨b2, off2, rfl, cb⟩ := hA2.first; clear hA2))
        exact ⟨rfl, rfl, new_upd hu2⟩
      | ok x2 =>
        obtain ⟨f, l2⟩ := x2
        rw [h2] at hp
        dsimp only at hp
        obtain ⟨f0, f1⟩ := pVar_bd h2
        cases h3 : pText 1024 l2 with
        | error c3 =>
          rw [h3] at hp
          cases hp
          clear hk
          go_enter Try.func61, Try.ntmps61
          go_wp2_with (first
            | (go_at_call 76; refine (text_err hr3 (by decide) (by decide) h3).mono ?_; rintro e w4 ⟨rfl, hu4⟩)
            | (go_at_call 75; refine (varint_ok hr2 (by decide) (by decide) h2).mono ?_; rintro e w3 ⟨rfl, hr3, hu3⟩)
            | (go_at_call 73; refine (must_yes _).mono ?_; rintro e w' ⟨rfl, rfl⟩)
            | (go_at_call 35; refine (HK _).mono ?_; rintro e w' ⟨rfl, rfl⟩)
            | (go_at_call 72; refine (take_yes (h.alloc _) 1 (by simp)).mono ?_; rintro e w2 ⟨a2, cap2, rfl, hA2, hc2, hr2, hu2⟩; obtain ⟨b2, off2, rfl, cb⟩ := hA2.first; clear hA2))
          exact ⟨rfl, rfl, new_upd ((hu2.trans hu3).trans hu4)⟩
        | ok x3 =>
          obtain ⟨key, l3⟩ := x3
          rw [h3] at hp
          dsimp only at hp
          by_cases hk0 : k = 0
          · rw [if_pos hk0] at hp; cases hp
          · rw [if_neg hk0] at hp
            have HV := hasValue_yes hk0
            have hm := mostV_bd k
            cases h4 : pText (mostV k) l3 with
            | error c4 =>
              rw [h4] at hp
              cases hp
              clear hk hk0
              go_enter Try.func61, Try.ntmps61
              go_wp2_with (first
                | (go_at_call 76; refine (text_err hr4 hm.1 hm.2 h4).mono ?_; rintro e w5 ⟨rfl, hu5⟩)
                | (go_at_call 37; refine (mostValue_any k _).mono ?_; rintro e w' ⟨rfl, rfl⟩)
                | (go_at_call 36; refine (HV _).mono ?_; rintro e w' ⟨rfl, rfl⟩)
                | (go_at_call 76; refine (text_ok hr3 (by decide) (by decide) h3).mono ?_; rintro e w4 ⟨rfl, hr4, hu4⟩)
                | (go_at_call 75; refine (varint_ok hr2 (by decide) (by decide) h2).mono ?_; rintro e w3 ⟨rfl, hr3, hu3⟩)
                | (go_at_call 73; refine (must_yes _).mono ?_; rintro e w' ⟨rfl, rfl⟩)
                | (go_at_call 35; refine (HK _).mono ?_; rintro e w' ⟨rfl, rfl⟩)
                | (go_at_call 72; refine (take_yes (h.alloc _) 1 (by simp)).mono ?_; rintro e w2 ⟨a2, cap2, rfl, hA2, hc2, hr2, hu2⟩; obtain ⟨b2, off2, rfl, cb⟩ := hA2.first; clear hA2))
              exact ⟨rfl, rfl, new_upd (((hu2.trans hu3).trans hu4).trans hu5)⟩
            | ok x4 => obtain ⟨val, l4⟩ := x4; rw [h4] at hp; cases hp
theorem record_ok {w : World} {rb : Nat} {l l' : List Int} {r : Rec} (h : Rdr w rb l) (hp : pRec l = .ok (r, l')) :
    Calls Try.prog 61 #[ptr rb] w fun e w' => e = .returned (recV r.fam r.kind r.key r.val) ∧ Rdr w' rb l' ∧ Upd (At rb) w w' := by
  cases l with
  | nil => cases hp
  | cons k l1 =>
    unfold pRec at hp
    dsimp only at hp
    by_cases hk : 2 < k
    · rw [if_pos hk] at hp; cases hp
    · rw [if_neg hk] at hp
      cases h2 : pVar 4294967295 l1 with
      | error c2 => rw [h2] at hp; cases hp
      | ok x2 =>
        obtain ⟨f, l2⟩ := x2
        rw [h2] at hp
        dsimp only at hp
        cases h3 : pText 1024 l2 with
        | error c3 => rw [h3] at hp; cases hp
        | ok x3 =>
          obtain ⟨key, l3⟩ := x3
          rw [h3] at hp
          dsimp only at hp
          by_cases hk0 : k = 0
          · rw [if_pos hk0] at hp
            cases hp
            exact record_del h hk0 h2 h3
          · rw [if_neg hk0] at hp
            cases h4 : pText (mostV k) l3 with
            | error c4 => rw [h4] at hp; cases hp
            | ok x4 =>
              obtain ⟨val, l4⟩ := x4
              rw [h4] at hp
              cases hp
              exact record_put h hk hk0 h2 h3 h4
set_option maxRecDepth 100000 in
set_option maxHeartbeats 1000000 in
theorem end_ok {w : World} {rb : Nat} (h : Rdr w rb []) : Calls Try.prog 62 #[ptr rb] w fun e w' => e = .returned (.tuple #[]) ∧ w' = w := by
  obtain ⟨a, cap, hB, hA, hcap, hlt⟩ := h
  have c0 := hB.cell1 0 _ rfl
  have c0' : w.cell? ⟨rb, 0, none⟩ = some (.slice a 0 cap) := c0
  clear c0
  go_enter Try.func62, Try.ntmps62
  go_wp2
  go_end0
  exact ⟨rfl, rfl⟩
set_option maxRecDepth 100000 in
set_option maxHeartbeats 1000000 in
theorem end_err {w : World} {rb : Nat} {l : List Int} (h : Rdr w rb l) (hl : 0 < l.length) : Calls Try.prog 62 #[ptr rb] w fun e w' => e = pnk 5 ∧ w' = w := by
  obtain ⟨a, cap, hB, hA, hcap, hlt⟩ := h
  have c0 := hB.cell1 0 _ rfl
  have hl' : (0 : Int) < (l.length : Int) := by omega
  go_enter Try.func62, Try.ntmps62
  go_wp2
  exact ⟨rfl, rfl, rfl⟩
def pHead (l : List Int) : Except Int ((Int × Int) × List Int) :=
  if l.length < 8 then .error 4 else if numb (leV (l.take 8)) 0 = false then .error 3 else if (l.drop 8).length < 4 then .error 4 else
    if leV ((l.drop 8).take 4) ≤ 4096 ∧ numb (leV (l.take 8)) (leV ((l.drop 8).take 4)) = true then .ok ((leV (l.take 8), leV ((l.drop 8).take 4)), (l.drop 8).drop 4) else .error 3
theorem fix8 {l : List Int} (hb : ∀ c ∈ l, 0 ≤ c ∧ c < 256) (h : 8 ≤ l.length) : rfV 8 (l.take 8) = leV (l.take 8) ∧ rfE 8 (l.take 8) = 0 ∧ 0 ≤ leV (l.take 8) ∧ leV (l.take 8) < 18446744073709551616 := by
  have hl : (l.take 8).length = 8 := by simp; omega
  have hbd := leV_bd (l.take 8) (take_bd hb 8)
  rw [hl] at hbd
  refine ⟨by unfold rfV; rw [if_neg (by omega), List.take_take]; rfl, by unfold rfE; rw [if_neg (by omega)], hbd.1, ?_⟩
  have := hbd.2
  simpa using this
theorem fix4 {l : List Int} (hb : ∀ c ∈ l, 0 ≤ c ∧ c < 256) (h : 4 ≤ l.length) : rfV 4 (l.take 4) = leV (l.take 4) ∧ rfE 4 (l.take 4) = 0 ∧ 0 ≤ leV (l.take 4) ∧ leV (l.take 4) < 4294967296 := by
  have hl : (l.take 4).length = 4 := by simp; omega
  have hbd := leV_bd (l.take 4) (take_bd hb 4)
  rw [hl] at hbd
  refine ⟨by unfold rfV; rw [if_neg (by omega), List.take_take]; rfl, by unfold rfE; rw [if_neg (by omega)], hbd.1, ?_⟩
  have := hbd.2
  simpa using this
theorem numb0 {seq n : Int} (h : numb seq n = true) : numb seq 0 = true := by
  unfold numb at *; simp at *; omega
set_option maxRecDepth 100000 in
set_option maxHeartbeats 2000000 in
theorem head_any {w : World} {rb : Nat} {l : List Int} (h : Rdr w rb l) :
    Calls Try.prog 60 #[ptr rb] w fun e w' => (∃ s n l', pHead l = .ok ((s, n), l') ∧ e = .returned (.tuple #[.int .u64 s, .int .i64 n]) ∧ Rdr w' rb l' ∧ Upd (At rb) w w' ∧ 0 ≤ s ∧ s < 18446744073709551616 ∧ 0 ≤ n ∧ n ≤ 4096) ∨ (∃ c, pHead l = .error c ∧ e = pnk c ∧ Upd (At rb) w w') := by
  have hby := h.bytes
  by_cases h8 : l.length < 8
  · have hp : pHead l = .error 4 := by unfold pHead; rw [if_pos h8]
    go_enter Try.func60, Try.ntmps60
    go_wp2_with (go_at_call 72; refine (take_no h 8 h8).mono ?_; rintro e w2 ⟨rfl, rfl⟩)
    exact ⟨rfl, .inr ⟨4, hp, rfl, Upd.refl _ _⟩⟩
  · obtain ⟨e1, e2, s0, s1⟩ := fix8 hby (by omega)
    have hp1 : pHead l = if numb (leV (l.take 8)) 0 = false then .error 3 else if (l.drop 8).length < 4 then .error 4 else
        if leV ((l.drop 8).take 4) ≤ 4096 ∧ numb (leV (l.take 8)) (leV ((l.drop 8).take 4)) = true then .ok ((leV (l.take 8), leV ((l.drop 8).take 4)), (l.drop 8).drop 4) else .error 3 := by
      rw [pHead, if_neg h8]
    have HF8 := fun W a cap (hA : Arg W a 8 cap (l.take 8)) (hc : 8 ≤ cap) => crf64_any a 8 cap (l.take 8) W hA hc
    rw [e1, e2] at HF8
    clear e1 e2
    generalize leV (l.take 8) = seq at *
    have HP : Hid (pHead l = if numb seq 0 = false then .error 3 else if (l.drop 8).length < 4 then .error 4 else
        if leV ((l.drop 8).take 4) ≤ 4096 ∧ numb seq (leV ((l.drop 8).take 4)) = true then .ok ((seq, leV ((l.drop 8).take 4)), (l.drop 8).drop 4) else .error 3) := hp1
    clear hp1
    have HN := fun W n n0 n1 => numbered_any seq n W s0 s1 n0 n1
    have HN0 := fun W => HN W 0 (by decide) (by decide)
    by_cases hn0 : numb seq 0 = false
    · rw [hn0] at HN0
      clear HN
      go_enter Try.func60, Try.ntmps60
      go_wp2_with (first
        | (go_at_call 73; refine (must_no _).mono ?_; rintro e w' ⟨rfl, rfl⟩)
        | (go_at_call 26; refine (HN0 _).mono ?_; rintro e w' ⟨rfl, rfl⟩)
        | (go_at_call 71; refine (HF8 _ _ _ hA2 hc2).mono ?_; rintro e w3 ⟨rfl, hb3⟩)
        | (go_at_call 72; refine (take_yes h 8 (by omega)).mono ?_; rintro e w2 ⟨a2, cap2, rfl, hA2, hc2, hr2, hu2⟩))
      refine ⟨rfl, .inr ⟨3, by rw [HP.out, if_pos hn0], rfl, hu2.trans (Upd.ofBelow hb3)⟩⟩
    · have hn1 : numb seq 0 = true := by simpa using hn0
      rw [hn1] at HN0
      have HP2 : Hid (pHead l = if (l.drop 8).length < 4 then .error 4 else
        if leV ((l.drop 8).take 4) ≤ 4096 ∧ numb seq (leV ((l.drop 8).take 4)) = true then .ok ((seq, leV ((l.drop 8).take 4)), (l.drop 8).drop 4) else .error 3) := by
        show _ = _
        rw [HP.out, if_neg hn0]
      clear HP hn0 hn1
      have hby1 : ∀ c ∈ l.drop 8, 0 ≤ c ∧ c < 256 := fun c hc => hby c (List.mem_of_mem_drop hc)
      by_cases h4 : (l.drop 8).length < 4
      · clear HN
        go_enter Try.func60, Try.ntmps60
        go_wp2_with (first
          | (go_at_call 72; refine (take_no hr3 4 h4).mono ?_; rintro e w4 ⟨rfl, rfl⟩)
          | (go_at_call 73; refine (must_yes _).mono ?_; rintro e w' ⟨rfl, rfl⟩)
          | (go_at_call 26; refine (HN0 _).mono ?_; rintro e w' ⟨rfl, rfl⟩)
          | (go_at_call 71; refine (HF8 _ _ _ hA2 hc2).mono ?_; rintro e w3 ⟨rfl, hb3⟩; have hr3 := hr2.below hb3)
          | (go_at_call 72; refine (take_yes h 8 (by omega)).mono ?_; rintro e w2 ⟨a2, cap2, rfl, hA2, hc2, hr2, hu2⟩))
        refine ⟨rfl, .inr ⟨4, by rw [HP2.out, if_pos h4], rfl, hu2.trans (Upd.ofBelow hb3)⟩⟩
      · obtain ⟨e1, e2, m0, m1⟩ := fix4 hby1 (by omega)
        have HP3 : Hid (pHead l = if leV ((l.drop 8).take 4) ≤ 4096 ∧ numb seq (leV ((l.drop 8).take 4)) = true then .ok ((seq, leV ((l.drop 8).take 4)), (l.drop 8).drop 4) else .error 3) := by
          show _ = _
          rw [HP2.out, if_neg h4]
        have HF4 := fun W a cap (hA : Arg W a 4 cap ((l.drop 8).take 4)) (hc : 4 ≤ cap) => crf32_any a 4 cap ((l.drop 8).take 4) W hA hc
        rw [e1, e2] at HF4
        clear e1 e2 HP2
        have h4' : 4 ≤ (l.drop 8).length := by omega
        clear h4
        generalize leV ((l.drop 8).take 4) = many at *
        have HNm := fun W => HN W many m0 (by omega)
        clear HN
        by_cases hm : many ≤ 4096
        · cases hb : numb seq many with
          | true =>
            rw [hb] at HNm
            have HQ : Hid (pHead l = .ok ((seq, many), (l.drop 8).drop 4)) := by show _ = _; rw [HP3.out, if_pos ⟨hm, hb⟩]
            clear HP3 hb
            go_enter Try.func60, Try.ntmps60
            go_wp2_with (first
              | (go_at_call_of 26 (Value.int IntKind.u64 many); refine (HNm _).mono ?_; rintro e w' ⟨rfl, rfl⟩)
              | (go_at_call 74; refine (HF4 _ _ _ hA4 hc4).mono ?_; rintro e w5 ⟨rfl, hb5⟩; have hr5 := hr4.below hb5)
              | (go_at_call 72; refine (take_yes hr3 4 h4').mono ?_; rintro e w4 ⟨a4, cap4, rfl, hA4, hc4, hr4, hu4⟩)
              | (go_at_call 73; refine (must_yes _).mono ?_; rintro e w' ⟨rfl, rfl⟩)
              | (go_at_call 26; refine (HN0 _).mono ?_; rintro e w' ⟨rfl, rfl⟩)
              | (go_at_call 71; refine (HF8 _ _ _ hA2 hc2).mono ?_; rintro e w3 ⟨rfl, hb3⟩; have hr3 := hr2.below hb3)
              | (go_at_call 72; refine (take_yes h 8 (by omega)).mono ?_; rintro e w2 ⟨a2, cap2, rfl, hA2, hc2, hr2, hu2⟩))
            go_ret2
            exact .inl ⟨seq, many, _, HQ.out, rfl, hr5, ((hu2.trans (Upd.ofBelow hb3)).trans hu4).trans (Upd.ofBelow hb5), s0, s1, m0, hm⟩
          | false =>
            rw [hb] at HNm
            have HQ : Hid (pHead l = .error 3) := by show _ = _; rw [HP3.out, if_neg (by rw [hb]; simp)]
            clear HP3 hb
            go_enter Try.func60, Try.ntmps60
            go_wp2_with (first
              | (go_at_call_of 73 (Value.bool false); refine (must_no _).mono ?_; rintro e w' ⟨rfl, rfl⟩)
              | (go_at_call_of 26 (Value.int IntKind.u64 many); refine (HNm _).mono ?_; rintro e w' ⟨rfl, rfl⟩)
              | (go_at_call 74; refine (HF4 _ _ _ hA4 hc4).mono ?_; rintro e w5 ⟨rfl, hb5⟩; have hr5 := hr4.below hb5)
              | (go_at_call 72; refine (take_yes hr3 4 h4').mono ?_; rintro e w4 ⟨a4, cap4, rfl, hA4, hc4, hr4, hu4⟩)
              | (go_at_call 73; refine (must_yes _).mono ?_; rintro e w' ⟨rfl, rfl⟩)
              | (go_at_call 26; refine (HN0 _).mono ?_; rintro e w' ⟨rfl, rfl⟩)
              | (go_at_call 71; refine (HF8 _ _ _ hA2 hc2).mono ?_; rintro e w3 ⟨rfl, hb3⟩; have hr3 := hr2.below hb3)
              | (go_at_call 72; refine (take_yes h 8 (by omega)).mono ?_; rintro e w2 ⟨a2, cap2, rfl, hA2, hc2, hr2, hu2⟩))
            exact ⟨rfl, .inr ⟨3, HQ.out, rfl, ((hu2.trans (Upd.ofBelow hb3)).trans hu4).trans (Upd.ofBelow hb5)⟩⟩
        · have HQ : Hid (pHead l = .error 3) := by show _ = _; rw [HP3.out, if_neg (fun hh => hm hh.1)]
          have dm : decide (many ≤ 4096) = false := by simpa using hm
          clear HP3 HNm
          go_enter Try.func60, Try.ntmps60
          go_wp2_with (first
            | (go_at_call_of 73 (Value.bool false); refine (must_no _).mono ?_; rintro e w' ⟨rfl, rfl⟩)
            | (go_at_call 74; refine (HF4 _ _ _ hA4 hc4).mono ?_; rintro e w5 ⟨rfl, hb5⟩; have hr5 := hr4.below hb5)
            | (go_at_call 72; refine (take_yes hr3 4 h4').mono ?_; rintro e w4 ⟨a4, cap4, rfl, hA4, hc4, hr4, hu4⟩)
            | (go_at_call 73; refine (must_yes _).mono ?_; rintro e w' ⟨rfl, rfl⟩)
            | (go_at_call 26; refine (HN0 _).mono ?_; rintro e w' ⟨rfl, rfl⟩)
            | (go_at_call 71; refine (HF8 _ _ _ hA2 hc2).mono ?_; rintro e w3 ⟨rfl, hb3⟩; have hr3 := hr2.below hb3)
            | (go_at_call 72; refine (take_yes h 8 (by omega)).mono ?_; rintro e w2 ⟨a2, cap2, rfl, hA2, hc2, hr2, hu2⟩))
          exact ⟨rfl, .inr ⟨3, HQ.out, rfl, ((hu2.trans (Upd.ofBelow hb3)).trans hu4).trans (Upd.ofBelow hb5)⟩⟩
end Go.Proofs.Ytkpijoogaicodaa
