import Derived.Test.YtkpijoogaicodaaGb
namespace Go.Proofs.Ytkpijoogaicodaa
open Go.RowKit
set_option linter.unusedVariables false
set_option linter.unusedSimpArgs false

theorem row_cells {w : World} {g n cap : Nat} {l : List Rec} (h : w.ownsRow 0 31 4 (.slice (some ⟨g, 0, none⟩) n cap) n (rcs l)) (hn : n = l.length) (k : Nat) (hk : k < l.length) :
    RAt w g (k * 4) l[k] ∧ (∀ i, w.frozen? ⟨g, i, none⟩ = false) ∧ g < w.heap.size := by
  subst hn
  have hr := row_rat h k hk
  rw [Nat.zero_add] at hr
  refine ⟨hr, fun i => ?_, (h.lt g rfl).2⟩
  obtain ⟨hl, ⟨hv, _⟩ | ⟨g', cap', cur, hv, hb, hg, h2, h3, h4, h5⟩⟩ := h
  · cases hv
  · cases hv
    simp [World.frozen?, hg]
set_option maxRecDepth 100000 in
set_option maxHeartbeats 800000 in
theorem qadd_any {w : World} {q : Nat} {rv mv v : Value} {rs l : List Rec} {ms : List Nat} (h : Qt w q rv mv rs ms) (hv : RdR w v l) (hF : Fam l) (hV : ∀ r ∈ l, (r.val.size : Int) ≤ 9223372036854775807) (hR : ∀ r ∈ rs, Fine r) (hn1 : rs.length ≤ 1000000) (hn2 : l.length * 48 ≤ 140737388355328) :
    Calls Try.prog 45 #[ptr q, v] w (QAddPost w q rv mv rs ms l) := by
  obtain ⟨a, c, rfl⟩ := hv.len
  obtain ⟨ra, rc, rfl⟩ := h.row.len
  have HN1 : Hid ((([] : List Rec).length + rs.length) * 48 ≤ 140737488355328) := by show _ ≤ _; simp; omega
  have HN2 : Hid ((rs.length + l.length) * 48 ≤ 140737488355328) := by show _ ≤ _; omega
  have hl' : (l.length : Int) ≤ 140737488355328 := by omega
  have hl2 : (rs.length : Int) ≤ 1000000 := by omega
  have HE1 : Hid (qadE rs l = if fbad l ≠ 0 then fbad l else if 4096 < rs.length + l.length ∨ 4194304 < 12 + szs (rs ++ l) then 2 else 0) := rfl
  clear hn2
  go_enter Try.func45, Try.ntmps45
  go_wp2
  go_loopw [5] (fun i wr => ∃ k : Nat, k ≤ l.length ∧ i = .int .i64 k ∧ Hid (fbad (l.drop k) = fbad l) ∧ Below w.heap.size w wr) (fun i _ => l.length - (intOf i).toNat)
  case atStart => exact ⟨0, Nat.zero_le _, rfl, rfl, Below.refl _ _⟩
  case round =>
    obtain ⟨k, hk, rfl, HB, hbel⟩ := hrel
    by_cases hlt : k < l.length
    · obtain ⟨b, off, cap, hv', hb, c0, c1, c2, c3⟩ := (hv.below hbel).at hlt
      cases hv'
      have HT := fbad_step l k hlt
      have hVk := hV _ (List.getElem_mem hlt)
      generalize l[k] = r at *
      obtain ⟨f, kd, key, val⟩ := r
      dsimp only at *
      have HC := fun w => qcheck_any f kd key val w hVk
      have HT' : Hid (fbad (l.drop k) = if chk kd key val = 0 then fbad (l.drop (k + 1)) else chk kd key val) := HT
      clear HT hVk
      generalize chk kd key val = m at *
      by_cases hm : m = 0
      · have tm : (m != 0) = false := by simpa using hm
        have HM : Hid (m = 0) := hm
        clear hm
        go_wp2_with (go_at_call 11; refine (HC _).mono ?_; rintro e w1 ⟨rfl, hb1⟩)
        go_roundw
        case rel => exact ⟨k + 1, by omega, by go_num, by show _ = _; rw [← HB.out, HT'.out, if_pos HM.out], bstep hbel hb1⟩
        case measure => simp [intOf]; omega
      · have tm : (m != 0) = true := by simpa using hm
        have HM : Hid (¬ m = 0) := hm
        clear hm
        go_wp2_with (go_at_call 11; refine (HC _).mono ?_; rintro e w1 ⟨rfl, hb1⟩)
        go_ret
        refine QAddPost.no h ?_ HM.out (bstep hbel hb1)
        rw [HE1.out, ← HB.out, HT'.out, if_neg HM.out, if_pos HM.out]
    · obtain rfl : k = l.length := by omega
      have HF : fbad l = 0 := by rw [← HB.out, List.drop_length]; rfl
      have hall := fbad_all HF
      have hfine : ∀ r ∈ rs ++ l, Fine r := fun r hr => by
        rcases List.mem_append.1 hr with hr | hr
        · exact hR r hr
        · exact fine_of (hF r hr).1 (hF r hr).2 (hall r hr)
      have HE2 : Hid (qadE rs l = if 4096 < rs.length + l.length ∨ 4194304 < 12 + szs (rs ++ l) then 2 else 0) := by
        show _ = _
        rw [HE1.out, if_neg (by rw [HF]; decide)]
      clear HE1 HB HF hall hV hF hR
      obtain ⟨X, hX⟩ : ∃ X, rs ++ l = X := ⟨_, rfl⟩
      have hXl : X.length = rs.length + l.length := by rw [← hX, List.length_append]
      rw [hX] at hfine HE2
      have HX : Hid (rs ++ l = X) := hX
      clear hX
      have h1 := h.below hbel
      have lb := h1.blk.lt
      have x0 := h1.blk.cell1 0 _ rfl
      have H0 : (wr.alloc (.cells #[] 31)).ownsRow 0 31 4 (.slice (some ⟨wr.heap.size, 0, none⟩) 0 0) ([] : List Rec).length (rcs ([] : List Rec)) :=
        World.ownsRow_made (base := 0) (e := 31) (size := 4) wr #[] 0 (Nat.zero_le _) (by unfold maxLen; omega) rfl
      have R0 : RdR (wr.alloc (.cells #[] 31)) (.slice ra rs.length rc) rs := h1.row.below ((Below.refl _ _).alloc (Nat.le_refl _) _)
      have V0 : Below w.heap.size w (wr.alloc (.cells #[] 31)) := hbel.alloc hbel.size _
      have hwr := hbel.size
      have hXl' : Hid (X.length = rs.length + l.length) := hXl
      by_cases hbig : 4096 < rs.length + l.length
      · have tb : (4096 : Int) < (X.length : Int) := by omega
        have HQ : Hid (qadE rs l = 2) := by show _ = _; rw [HE2.out, if_pos (.inl hbig)]
        clear hXl
        go_wp2_with (first
          | (at_builtin
             refine wpList_append_rows (rs := rs) (l := l) rfl _ _ rfl rfl rfl ho2 (Nat.zero_le _) (hv.below V2) HN2.out ?_
             intro v3 w3 ho3 hg3 hl3
             rw [HX.out] at ho3
             have V3 : Below w.heap.size w w3 := Upd.bel V2 ((Upd.refl _ _).grown hg3 (fun k hk _ => hk)) n2
             obtain ⟨a3, c3, rfl⟩ := row_len ho3)
          | (at_builtin
             refine wpList_append_rows (rs := []) (l := rs) rfl _ _ rfl rfl rfl H0 (Nat.zero_le _) R0 HN1.out ?_
             intro v2 w2 ho2 hg2 hl2
             rw [List.nil_append] at ho2
             have V2 : Below w.heap.size w w2 := Upd.bel V0 ((Upd.refl _ _).grown hg2 (fun k hk _ => hk)) (fun k hk => by cases hk; exact hwr)
             have n2 : ∀ k, v2.ownBlock = some k → w.heap.size ≤ k := (fun k hk => by
               rcases hl2 with e | e
               · rw [e] at hk; cases hk; exact hwr
               · rw [e] at hk; cases hk; exact V0.size)))
        go_ret
        exact QAddPost.no h HQ.out (by decide) V3
      · have tb : ¬ (4096 : Int) < (X.length : Int) := by omega
        have HS := fun (W : World) (v : Value) (hh : RdR W v X) => sizes_any hh (by omega) hfine
        have hsb := fine_szs hfine
        obtain ⟨n, hn⟩ : ∃ n, 12 + szs X = n := ⟨_, rfl⟩
        rw [hn] at HS
        have HSN : Hid (12 + szs X = n) := hn
        have hn9 : (n : Int) ≤ 2000000000 := by omega
        clear hn hsb hXl
        by_cases hbs : 4194304 < (n : Int)
        · have HQ : Hid (qadE rs l = 2) := by show _ = _; rw [HE2.out, if_pos (.inr (by rw [HSN.out]; omega))]
          go_wp2_with (first
            | (go_at_call 32; refine (HS _ _ (row_rd ho3)).mono ?_; rintro e w4 ⟨rfl, hb4⟩; have V4 := bstep V3 hb4; have ho4 := row_upd ho3 (Upd.ofBelow hb4) (S := Non) (fun _ _ hh => hh))
            | (at_builtin
               refine wpList_append_rows (rs := rs) (l := l) rfl _ _ rfl rfl rfl ho2 (Nat.zero_le _) (hv.below V2) HN2.out ?_
               intro v3 w3 ho3 hg3 hl3
               rw [HX.out] at ho3
               have V3 : Below w.heap.size w w3 := Upd.bel V2 ((Upd.refl _ _).grown hg3 (fun k hk _ => hk)) n2
               have n3 : ∀ k, v3.ownBlock = some k → w.heap.size ≤ k := (fun k hk => by
                 rcases hl3 with e | e
                 · rw [e] at hk; exact n2 k hk
                 · rw [e] at hk; cases hk; exact V2.size)
               obtain ⟨a3, c3, rfl⟩ := row_len ho3)
            | (at_builtin
               refine wpList_append_rows (rs := []) (l := rs) rfl _ _ rfl rfl rfl H0 (Nat.zero_le _) R0 HN1.out ?_
               intro v2 w2 ho2 hg2 hl2
               rw [List.nil_append] at ho2
               have V2 : Below w.heap.size w w2 := Upd.bel V0 ((Upd.refl _ _).grown hg2 (fun k hk _ => hk)) (fun k hk => by cases hk; exact hwr)
               have n2 : ∀ k, v2.ownBlock = some k → w.heap.size ≤ k := (fun k hk => by
                 rcases hl2 with e | e
                 · rw [e] at hk; cases hk; exact hwr
                 · rw [e] at hk; cases hk; exact V0.size)))
          go_ret
          exact QAddPost.no h HQ.out (by decide) V4
        · have HQ : Hid (qadE rs l = 0) := by show _ = _; rw [HE2.out, HSN.out, if_neg (by omega)]
          go_wp2_with (first
            | (go_at_call 32; refine (HS _ _ (row_rd ho3)).mono ?_; rintro e w4 ⟨rfl, hb4⟩; have V4 := bstep V3 hb4; have ho4 := row_upd ho3 (Upd.ofBelow hb4) (S := Non) (fun _ _ hh => hh))
            | (at_builtin
               refine wpList_append_rows (rs := rs) (l := l) rfl _ _ rfl rfl rfl ho2 (Nat.zero_le _) (hv.below V2) HN2.out ?_
               intro v3 w3 ho3 hg3 hl3
               rw [HX.out] at ho3
               have V3 : Below w.heap.size w w3 := Upd.bel V2 ((Upd.refl _ _).grown hg3 (fun k hk _ => hk)) n2
               have n3 : ∀ k, v3.ownBlock = some k → w.heap.size ≤ k := (fun k hk => by
                 rcases hl3 with e | e
                 · rw [e] at hk; exact n2 k hk
                 · rw [e] at hk; cases hk; exact V2.size)
               obtain ⟨a3, c3, rfl⟩ := row_len ho3)
            | (at_builtin
               refine wpList_append_rows (rs := []) (l := rs) rfl _ _ rfl rfl rfl H0 (Nat.zero_le _) R0 HN1.out ?_
               intro v2 w2 ho2 hg2 hl2
               rw [List.nil_append] at ho2
               have V2 : Below w.heap.size w w2 := Upd.bel V0 ((Upd.refl _ _).grown hg2 (fun k hk _ => hk)) (fun k hk => by cases hk; exact hwr)
               have n2 : ∀ k, v2.ownBlock = some k → w.heap.size ≤ k := (fun k hk => by
                 rcases hl2 with e | e
                 · rw [e] at hk; cases hk; exact hwr
                 · rw [e] at hk; cases hk; exact V0.size)))
          have hXX : Hid (qadL rs l = X.map plainR) := by show _ = _; unfold qadL; rw [if_pos HQ.out, HX.out]
          have hX5 : X.length ≤ 4096 := by have := hXl'.out; omega
          have ho4' : w4.ownsRow 0 31 4 (.slice a3 X.length c3) X.length (rcs (mixP X 0)) := by rw [mixP_zero]; exact ho4
          clear ho4 ho3 ho2 hb4 V3 V2 hg3 hl3 hg2 n2 HS hbs tb hbig
          go_loopw [8] (fun i wr => ∃ k : Nat, k ≤ X.length ∧ i = .int .i64 k ∧ wr.ownsRow 0 31 4 (.slice a3 X.length c3) X.length (rcs (mixP X k)) ∧ Below w.heap.size w wr) (fun i _ => X.length - (intOf i).toNat)
          case atStart => exact ⟨0, Nat.zero_le _, rfl, ho4', V4⟩
          case round =>
            clear ho4' V4
            obtain ⟨k, hk, rfl, ho, hb⟩ := hrel
            by_cases hlt : k < X.length
            · have hlm : k < (mixP X k).length := by rw [mixP_len]; exact hlt
              have hmg := mixP_get X k hlt
              have hms := mixP_step X k hlt
              have HC := fun w => qplain_any X[k] w
              rcases ho.2 with ⟨hv', h0⟩ | ⟨g, cap, cur, hv', _⟩
              · omega
              · cases hv'
                obtain ⟨⟨c0, c1, c2, c3'⟩, _, lg⟩ := row_cells ho (mixP_len X k).symm k hlm
                rw [hmg] at c0 c1 c2 c3'
                have HP : Hid (∀ (W : World), W.ownsRow 0 31 4 (.slice (some ⟨g, 0, none⟩) X.length c3) X.length (rcs (mixP X k)) → ((((W.setCell ⟨g, k * 4, none⟩ (.int .u32 (plainR X[k]).fam)).setCell ⟨g, k * 4 + 1, none⟩ (.int .i64 (plainR X[k]).kind)).setCell ⟨g, k * 4 + 2, none⟩ (.string (plainR X[k]).key)).setCell ⟨g, k * 4 + 3, none⟩ (.string (plainR X[k]).val)).ownsRow 0 31 4 (.slice (some ⟨g, 0, none⟩) X.length c3) X.length (rcs (mixP X (k + 1)))) := by
                  show ∀ _, _
                  intro W hW
                  rw [← hms]
                  exact row_put hW k hlm _
                have HCE : Hid (∀ (W : World), W.ownsRow 0 31 4 (.slice (some ⟨g, 0, none⟩) X.length c3) X.length (rcs (mixP X k)) → RAt W g (k * 4) X[k] ∧ (∀ i, W.frozen? ⟨g, i, none⟩ = false) ∧ g < W.heap.size) := by
                  show ∀ _, _
                  intro W hW
                  have := row_cells hW (mixP_len X k).symm k hlm
                  rw [hmg] at this
                  exact this
                clear hmg hms hlm
                generalize plainR X[k] = p at *
                generalize X[k] = r at *
                obtain ⟨f, kd, key, val⟩ := r
                obtain ⟨f', kd', key', val'⟩ := p
                dsimp only at *
                have hlk : (k : Int) < (X.length : Int) := by omega
                have hgn := n3 g rfl
                go_wp2_with (go_at_call 41; refine (HC _).mono ?_; rintro e w5 ⟨rfl, hb5⟩; have ho5 := row_upd ho (Upd.ofBelow hb5) (S := Non) (fun _ _ hh => hh); obtain ⟨⟨d0, d1, d2, d3⟩, fz, lg5⟩ := HCE.out _ ho5; have z0 := fz (k * 4); have z1 := fz (k * 4 + 1); have z2 := fz (k * 4 + 2); have z3 := fz (k * 4 + 3); dsimp only at d0 d1 d2 d3)
                go_roundw
                case rel =>
                  have b5 := bstep hb hb5
                  exact ⟨k + 1, by omega, by go_num, HP.out _ ho5, (((b5.setCell (p := ⟨g, k * 4, none⟩) hgn _).setCell (p := ⟨g, k * 4 + 1, none⟩) hgn _).setCell (p := ⟨g, k * 4 + 2, none⟩) hgn _).setCell (p := ⟨g, k * 4 + 3, none⟩) hgn _⟩
                case measure => simp [intOf]; omega
            · obtain rfl : k = X.length := by omega
              rw [mixP_all] at ho
              have hq := h.below hb
              have y0 := hq.blk.cell1 0 _ rfl
              have y1 := hq.blk.frozen 0
              have hlm : (X.map plainR).length = X.length := by simp
              have hrd : RdR wr (.slice a3 X.length c3) (X.map plainR) := row_rd (by rw [hlm]; exact ho)
              have hlq := h.blk.lt
              have hcp : X.length ≤ c3 := by
                rcases ho.2 with ⟨e, h0⟩ | ⟨g, cap, cur, e, _, _, h2, _⟩
                · rw [h0]; exact Nat.zero_le _
                · cases e; exact h2
              clear hlm
              go_wp2
              go_ret
              have U2 : Upd (fun k => k = q) wr (wr.setCell ⟨q, 0, none⟩ (.slice a3 X.length c3)) := Upd.setCell (p := ⟨q, 0, none⟩) (Upd.refl (fun k => k = q) wr) (fun _ => rfl) _
              have hne : ∀ k, (Value.slice a3 X.length c3).ownBlock = some k → ¬ k = q := fun k hk e => by have := n3 k hk; omega
              refine ⟨.slice a3 X.length c3, by rw [HQ.out]; rfl, ?_, (Upd.ofBelow hb).trans U2, .inr n3⟩
              rw [hXX.out]
              exact ⟨hq.blk.set 0 _, hrd.upd U2 hne, row_upd hq.marks U2 (fun k hk e => row_ne hq.marks hq.blk (by decide) k hk e), fun e => hne q e rfl, fun a n c e => by cases e; exact hcp, fun k hk => Nat.lt_of_lt_of_le (ho.lt k hk).2 U2.size⟩
end Go.Proofs.Ytkpijoogaicodaa
