import Derived.Test.YtkpijoogaicodaaFc
import Derived.Test.YtkpijoogaicodaaMx
import Derived.Test.YtkpijoogaicodaaDe
namespace Go.Proofs.Ytkpijoogaicodaa
open Go.RowKit
set_option linter.unusedVariables false
set_option linter.unusedSimpArgs false

def EncPost (w : World) (seq : Int) (l : List Rec) : Ending → World → Prop := fun e w' => ∃ v', e = .returned (.tuple #[v', .int .i64 (encE seq l)]) ∧ OwnB w' w.heap.size v' (if encE seq l = 0 then encB seq l else []) ∧ Below w.heap.size w w'
theorem encE_no1 {seq : Int} {l : List Rec} (h : numb seq l.length = false) : encE seq l = 1 := by unfold encE; rw [if_pos h]
theorem encE_no2 {seq : Int} {l : List Rec} (h : numb seq l.length = true) (hl : 4096 < l.length) : encE seq l = 2 := by unfold encE; rw [if_neg (by rw [h]; decide), if_pos (by omega)]
theorem encode_all (seq : Int) {v : Value} {l : List Rec} {w : World} (h : RdR w v l) (hF : Fam l) (hl : l.length ≤ 140737488355328) (s0 : 0 ≤ seq) (s1 : seq < 18446744073709551616) : Calls Try.prog 8 #[.int .u64 seq, v] w (EncPost w seq l) := by
  cases hnb : numb seq l.length with
  | false =>
    obtain ⟨a, c, rfl⟩ := h.len
    refine (encode_no1 seq a l.length c w s0 s1 (by omega) hnb).mono ?_
    rintro e w' ⟨rfl, rfl⟩
    have he := encE_no1 hnb
    exact ⟨_, by rw [he], by rw [he]; exact OwnB.nil _ _, Below.refl _ _⟩
  | true =>
    by_cases h4 : 4096 < l.length
    · obtain ⟨a, c, rfl⟩ := h.len
      refine (encode_no2 seq a l.length c w s0 s1 (by omega) hnb (by omega)).mono ?_
      rintro e w' ⟨rfl, rfl⟩
      have he := encE_no2 hnb h4
      exact ⟨_, by rw [he], by rw [he]; exact OwnB.nil _ _, Below.refl _ _⟩
    · exact encode_yes seq h hF s0 s1 hnb (by omega)
theorem qencode_all (seq : Int) {v : Value} {l : List Rec} {w : World} (h : RdR w v l) (hF : Fam l) (hV : ∀ r ∈ l, (r.val.size : Int) ≤ 9223372036854775807) (hl : l.length ≤ 140737488355328) (s0 : 0 ≤ seq) (s1 : seq < 18446744073709551616) : Calls Try.prog 9 #[.int .u64 seq, v] w (EncPost w seq l) := by
  cases hnb : numb seq l.length with
  | false =>
    obtain ⟨a, c, rfl⟩ := h.len
    refine (qencode_no1 seq a l.length c w s0 s1 (by omega) hnb).mono ?_
    rintro e w' ⟨rfl, rfl⟩
    have he := encE_no1 hnb
    exact ⟨_, by rw [he], by rw [he]; exact OwnB.nil _ _, Below.refl _ _⟩
  | true =>
    by_cases h4 : 4096 < l.length
    · obtain ⟨a, c, rfl⟩ := h.len
      refine (qencode_no2 seq a l.length c w s0 s1 (by omega) hnb (by omega)).mono ?_
      rintro e w' ⟨rfl, rfl⟩
      have he := encE_no2 hnb h4
      exact ⟨_, by rw [he], by rw [he]; exact OwnB.nil _ _, Below.refl _ _⟩
    · exact qencode_yes seq h hF hV s0 s1 hnb (by omega)

set_option maxRecDepth 100000 in
set_option maxHeartbeats 3200000 in
theorem encodes_walk (seq : Int) {w : World} {v : Value} {l : List Rec} (h : RdR w v l) (hF : Fam l) (hV : ∀ r ∈ l, (r.val.size : Int) ≤ 9223372036854775807) (hn48 : (([] : List Rec).length + l.length) * 48 ≤ 140737488355328) (s0 : 0 ≤ seq) (s1 : seq < 18446744073709551616) :
    Calls Try.prog 3 #[.int .u64 seq, v] w fun e w' => e = .returned (.bool true) ∧ Below w.heap.size w w' := by
  have hl : l.length ≤ 140737488355328 := by simp at hn48; omega
  have HN : Hid ((([] : List Rec).length + l.length) * 48 ≤ 140737488355328) := hn48
  clear hn48
  obtain ⟨a, c, rfl⟩ := h.len
  have H0 : (w.alloc (.cells #[] 31)).ownsRow 0 31 4 (.slice (some ⟨w.heap.size, 0, none⟩) 0 0) ([] : List Rec).length (rcs ([] : List Rec)) :=
    World.ownsRow_made (base := 0) (e := 31) (size := 4) w #[] 0 (Nat.zero_le _) (by unfold maxLen; omega) rfl
  have hR1 : RdR (w.alloc (.cells #[] 31)) (.slice a l.length c) l := h.below ((Below.refl _ _).alloc (Nat.le_refl _) _)
  have HE := fun (W : World) (v : Value) (hv : RdR W v l) => encode_all seq hv hF hl s0 s1
  have HQ := fun (W : World) (v : Value) (hv : RdR W v l) => qencode_all seq hv hF hV hl s0 s1
  obtain ⟨E, hE⟩ : ∃ E, encE seq l = E := ⟨_, rfl⟩
  obtain ⟨L, hL⟩ : ∃ L, (if encE seq l = 0 then encB seq l else []) = L := ⟨_, rfl⟩
  unfold EncPost at HE HQ
  rw [hL, hE] at HE HQ
  have HEE : Hid (encE seq l = E) := hE
  have HLL : Hid ((if encE seq l = 0 then encB seq l else []) = L) := hL
  clear hE hL
  have tE : (E != E) = false := by simp
  have hlI : (l.length : Int) ≤ 140737488355328 := by omega
  have HDD : Hid (encE seq l = 0 → pAll (encB seq l) = .ok (seq, l.map plainR)) := fun h => enc_dec hF s0 s1 h
  clear s1
  go_enter Try.func3, Try.ntmps3
  go_wp2_with (first
    | (go_at_call 9; refine (HQ _ _ (h.below b2)).mono ?_; rintro e w3 ⟨v3, rfl, ho3, hb3⟩; have b3 := bstep b2 hb3; have ho2' := ho2.below hb3 (Nat.le_refl _); have hs2 := ho2'.str; have hs3 := ho3.str)
    | (go_at_call 8; refine (HE _ _ (row_rd ho1)).mono ?_; rintro e w2 ⟨v2, rfl, ho2, hb2⟩; have b2 := bstep b1 hb2)
    | (at_builtin
       refine wpList_append_rows (rs := []) (l := l) rfl _ _ rfl rfl rfl H0 (Nat.zero_le _) hR1 HN.out ?_
       intro v1 w1 ho1 hg1 hl1
       rw [List.nil_append] at ho1
       have b1 : Below w.heap.size w w1 := Upd.bel ((Below.refl w.heap.size w).alloc (Nat.le_refl _) _) ((Upd.refl _ _).grown hg1 (fun k hk _ => hk)) (fun k hk => by cases hk; exact Nat.le_refl _)))
  clear hs2 hs3 ho3 ho2 HE HQ H0 hR1 ho1 hg1 hl1 b1 b2 hb3 hb2
  go_loopw [9] (fun i wr => ∃ k : Nat, k ≤ l.length ∧ i = .int .i64 k ∧ Below w3.heap.size w3 wr) (fun i _ => l.length - (intOf i).toNat)
  case atStart => exact ⟨0, Nat.zero_le _, rfl, Below.refl _ _⟩
  case round =>
    obtain ⟨k, hk, rfl, hbel⟩ := hrel
    have B := bstep b3 hbel
    by_cases hlt : k < l.length
    · obtain ⟨b, off, cap, hv, hb, c0, c1, c2, c3⟩ := (h.below B).at hlt
      cases hv
      have hVk := hV _ (List.getElem_mem hlt)
      generalize l[k] = r at *
      obtain ⟨f, kd, key, val⟩ := r
      dsimp only at *
      have H1 := fun w => check_any f kd key val w
      have H2 := fun w => qcheck_any f kd key val w hVk
      generalize chk kd key val = m at *
      have tm : (m != m) = false := by simp
      have hlk : (k : Int) < (l.length : Int) := by omega
      clear hVk
      go_wp2
      go_cut [53] from 37 to 53 (fun t wc => t = .bool false ∧ Below w3.heap.size w3 wc)
      case first =>
        go_region_held_law (fun w' => w'.cell? ⟨b, off + k * 4, none⟩ = some (.int .u32 f) ∧ w'.cell? ⟨b, off + k * 4 + 1, none⟩ = some (.int .i64 kd) ∧ w'.cell? ⟨b, off + k * 4 + 2, none⟩ = some (.string key) ∧ w'.cell? ⟨b, off + k * 4 + 3, none⟩ = some (.string val))
          (first
            | (go_keep; done)
            | exact ⟨(hb7.cell (p := ⟨b, off + k * 4, none⟩) lt6).trans r6.1, (hb7.cell (p := ⟨b, off + k * 4 + 1, none⟩) lt6).trans r6.2.1, (hb7.cell (p := ⟨b, off + k * 4 + 2, none⟩) lt6).trans r6.2.2.1, (hb7.cell (p := ⟨b, off + k * 4 + 3, none⟩) lt6).trans r6.2.2.2⟩
            | exact r6)
          (first
            | (go_at_call 11; refine (H2 _).mono ?_; rintro e w7 ⟨rfl, hb7⟩)
            | (go_at_call 10; refine (H1 _).mono ?_; rintro e w6 ⟨rfl, hb6⟩; have lt6 : b < w6.heap.size := Nat.lt_of_lt_of_le hb hb6.size; have r6 : w6.cell? ⟨b, off + k * 4, none⟩ = some (.int .u32 f) ∧ w6.cell? ⟨b, off + k * 4 + 1, none⟩ = some (.int .i64 kd) ∧ w6.cell? ⟨b, off + k * 4 + 2, none⟩ = some (.string key) ∧ w6.cell? ⟨b, off + k * 4 + 3, none⟩ = some (.string val) := ⟨(hb6.cell (p := ⟨b, off + k * 4, none⟩) hb).trans c0, (hb6.cell (p := ⟨b, off + k * 4 + 1, none⟩) hb).trans c1, (hb6.cell (p := ⟨b, off + k * 4 + 2, none⟩) hb).trans c2, (hb6.cell (p := ⟨b, off + k * 4 + 3, none⟩) hb).trans c3⟩))
        go_wp2
        go_meet
        case rel => exact ⟨rfl, bstep (bstep hbel.drew hb6) hb7⟩
      case rest =>
        obtain ⟨rfl, hbel⟩ := hcut
        go_wp2
        go_roundw
        case rel => exact ⟨k + 1, by omega, by go_num, hbel⟩
        case measure => simp [intOf]; omega
    · obtain rfl : k = l.length := by omega
      by_cases hE : E = 0
      · have tz : (E != 0) = false := by simpa using hE
        have hE0 : encE seq l = 0 := by rw [HEE.out, hE]
        have hLB : encB seq l = L := by rw [← HLL.out, if_pos hE0]
        have hby := encB_byt hF hE0
        have hln := encB_len hE0
        have hdec := HDD.out hE0
        obtain ⟨_, hl4, _, _⟩ := encE_zero hE0
        rw [hLB] at hby hln hdec
        have ho4 := ho2'.below hbel (Nat.le_refl _)
        obtain ⟨a2, cap2, hv2, A2⟩ := ho4.arg hby (by omega)
        subst hv2
        have HC := decode_any A2 (own_cap ho4) (fun k hk => (ho4.lt k hk).2)
        have HD : ∀ {W : World} {e : Ending} {W' : World}, DecPost W L e W' → ∃ lv, e = .returned (.tuple #[.int .u64 seq, lv, .int .i64 0]) ∧ RdR W' lv (l.map plainR) ∧ Below W.heap.size W W' := by
          rintro W e W' ⟨h1, ⟨c', h2, rfl⟩ | ⟨s, rs, lv, h2, rfl, h3, h4⟩⟩
          · rw [hdec] at h2; cases h2
          · rw [hdec] at h2; cases h2; exact ⟨lv, rfl, row_rd h3, h1⟩
        have hl5 : (l.map plainR).length ≤ 1000000 := by simp; omega
        have ts : (seq == seq) = true := by simp
        clear hdec hby hln hLB hE0 hE HDD HLL HEE ho2' ho4 A2
        go_wp2_with (first
          | (go_at_call 12; refine (lives_any _).mono ?_; rintro e w9 ⟨rfl, hb9⟩)
          | (go_at_call 14; refine (same_yes R6 Q6 hl5).mono ?_; rintro e w8 ⟨rfl, hb8⟩; have b8 := bstep b6 hb8)
          | (go_at_call 15; refine (plain_any (h.below b5) (by omega)).mono ?_; rintro e w6 ⟨v6, rfl, Q6, hb6⟩; have R6 := R5.below hb6; have b6 := bstep b5 hb6)
          | (go_at_call 13; refine HC.mono ?_; intro e w5 hd5; obtain ⟨lv, rfl, R5, hb5⟩ := HD hd5; clear hd5; have b5 := bstep B hb5))
        go_ret
        exact ⟨rfl, bstep b8 hb9⟩
      · have tz : (E != 0) = true := by simpa using hE
        clear hE
        go_wp2_with (go_at_call 12; refine (lives_any _).mono ?_; rintro e w9 ⟨rfl, hb9⟩)
        go_ret
        exact ⟨rfl, bstep B hb9⟩
end Go.Proofs.Ytkpijoogaicodaa
