import Derived.Test.YtkpijoogaicodaaEa
import Derived.Test.YtkpijoogaicodaaEb
import Derived.Laws.MakeOwn
namespace Go.Proofs.Ytkpijoogaicodaa
open Go.RowKit
set_option linter.unusedVariables false
set_option linter.unusedSimpArgs false

def mkZ (n : Nat) : Array Value := madeCells (Value.int .u8 0).cells n
theorem mkcap (n : Nat) (hn : n ≤ 5000000) (w : World) : (Instr.makeSlice 24 (.int .i64 0) (.int .i64 (12 + (n : Int)))).run Try.prog w = .ok (.slice (some ⟨w.heap.size, 0, none⟩) 0 (12 + n)) (w.alloc (.cells (mkZ (12 + n)) 5)) := by
  obtain ⟨i0, hi, hz0, hz1, hz2⟩ := info_parts info5
  have h := run_makeSlice (P := Try.prog) w 24 5 i0 (.int .u8 0) Try.underlying24 hi hz0 .i64 .i64 0 (12 + (n : Int)) (Int.le_refl _) (by omega) (by rw [hz1]; omega) (by rw [hz2]; omega) (by omega)
  rw [hz1] at h
  have e : (12 + (n : Int)).toNat = 12 + n := by omega
  rw [e] at h
  simpa [mkZ] using h
theorem mkcap_own (n : Nat) (hn : n ≤ 5000000) (w : World) : OwnB (w.alloc (.cells (mkZ (12 + n)) 5)) w.heap.size (.slice (some ⟨w.heap.size, 0, none⟩) 0 (12 + n)) [] := by
  have hs : (mkZ (12 + n)).toList.length = 12 + n := by
    rw [Array.length_toList, mkZ, size_madeCells]
  exact OwnB.ofBlock w w.heap.size [] (mkZ (12 + n)).toList _ (0, 0) (by simp [bc]) (Nat.le_refl _) (.inl rfl) (by rw [hs]; simp [maxLen]; omega) (12 + n) (by rw [hs]; simp)
theorem AppB.below {n : Nat} {w W w' : World} {base : Nat} {v v' : Value} {l l0 : List Int} (k : AppB W w' base v v' l) (hb : Below n w W) (hn : n ≤ W.heap.size) (ho : OwnB W base v l0) (hbase : n ≤ base) : Below n w w' :=
  ⟨k.upd.os.trans hb.os, k.upd.tape.trans hb.tape, k.upd.output.trans hb.output, Nat.le_trans hb.size k.upd.size, fun i hi => (k.upd.block i (Nat.lt_of_lt_of_le hi hn) (fun hs => by have := (ho.lt i hs).1; omega)).trans (hb.block i hi)⟩
theorem cfixed32_ownN (n : Nat) (w : World) (h1 : n ≤ 100000) :
    Calls Try.prog 29 #[.int .u32 (n : Int)] w fun e w' => ∃ v, e = .returned v ∧ OwnB w' w.heap.size v (byts 4 n) ∧ Below w.heap.size w w' := by
  have := cfixed32_own n w (by omega)
  rw [show (n : Int) % 4294967296 = n by omega] at this
  exact this
/-- The first record that can't be. -/
def fbad : List Rec → Int
  | [] => 0
  | r :: l => if rchk r = 0 then fbad l else rchk r
theorem fbad_step (l : List Rec) (k : Nat) (h : k < l.length) : fbad (l.drop k) = if rchk l[k] = 0 then fbad (l.drop (k + 1)) else rchk l[k] := by
  rw [List.drop_eq_getElem_cons h]; rfl
theorem fbad_all {l : List Rec} (h : fbad l = 0) : ∀ r ∈ l, rchk r = 0 := by
  induction l with
  | nil => simp
  | cons r l ih =>
    unfold fbad at h
    split at h
    · rename_i hr
      intro x hx
      rcases List.mem_cons.1 hx with rfl | hx
      · exact hr
      · exact ih h x hx
    · rename_i hr; exact absurd h hr
theorem fine_of {r : Rec} (f0 : 0 ≤ r.fam) (f1 : r.fam < 4294967296) (h : rchk r = 0) : Fine r :=
  have hz := rchk_zero h
  ⟨f0, f1, by omega, fun hk => by have := hz.2.1 hk; omega⟩
/-- Encode's answer. -/
def encE (seq : Int) (l : List Rec) : Int := if numb seq l.length = false then 1 else if 4096 < l.length then 2 else if fbad l ≠ 0 then fbad l else if 4194304 < 12 + szs l then 2 else 0
def encB (seq : Int) (l : List Rec) : List Int := byts 8 seq ++ byts 4 l.length ++ encs l
def Fam (l : List Rec) : Prop := ∀ r ∈ l, 0 ≤ r.fam ∧ r.fam < 4294967296

set_option maxRecDepth 100000 in
set_option maxHeartbeats 1000000 in
theorem encode_no1 (seq : Int) (a : Option Addr) (n c : Nat) (w : World) (s0 : 0 ≤ seq) (s1 : seq < 18446744073709551616) (hn : (n : Int) < 9223372036854775808) (h : numb seq n = false) :
    Calls Try.prog 8 #[.int .u64 seq, .slice a n c] w fun e w' => e = .returned (.tuple #[.slice none 0 0, .int .i64 1]) ∧ w' = w := by
  have HN := numbered_any seq n w s0 s1 (by omega) (by omega)
  rw [h] at HN
  go_enter Try.func8, Try.ntmps8
  go_wp2_with (go_at_call 26; refine HN.mono ?_; rintro e w' ⟨rfl, rfl⟩)
  go_ret2
  exact ⟨rfl, rfl⟩
set_option maxRecDepth 100000 in
set_option maxHeartbeats 1000000 in
theorem encode_no2 (seq : Int) (a : Option Addr) (n c : Nat) (w : World) (s0 : 0 ≤ seq) (s1 : seq < 18446744073709551616) (hn : (n : Int) < 9223372036854775808) (h : numb seq n = true) (hl : 4096 < (n : Int)) :
    Calls Try.prog 8 #[.int .u64 seq, .slice a n c] w fun e w' => e = .returned (.tuple #[.slice none 0 0, .int .i64 2]) ∧ w' = w := by
  have HN := numbered_any seq n w s0 s1 (by omega) (by omega)
  rw [h] at HN
  go_enter Try.func8, Try.ntmps8
  go_wp2_with (go_at_call 26; refine HN.mono ?_; rintro e w' ⟨rfl, rfl⟩)
  go_ret2
  exact ⟨rfl, rfl⟩

set_option maxRecDepth 100000 in
set_option maxHeartbeats 3200000 in
theorem encode_yes (seq : Int) {v : Value} {l : List Rec} {w : World} (h : RdR w v l) (hF : Fam l) (s0 : 0 ≤ seq) (s1 : seq < 18446744073709551616) (hnb : numb seq l.length = true) (hl : l.length ≤ 4096) :
    Calls Try.prog 8 #[.int .u64 seq, v] w fun e w' => ∃ v', e = .returned (.tuple #[v', .int .i64 (encE seq l)]) ∧ OwnB w' w.heap.size v' (if encE seq l = 0 then encB seq l else []) ∧ Below w.heap.size w w' := by
  obtain ⟨a, c, rfl⟩ := h.len
  have HN := numbered_any seq l.length w s0 s1 (by omega) (by omega)
  rw [hnb] at HN
  obtain ⟨E, hE⟩ : ∃ E, encE seq l = E := ⟨_, rfl⟩
  obtain ⟨L, hL⟩ : ∃ L, (if encE seq l = 0 then encB seq l else []) = L := ⟨_, rfl⟩
  rw [hL, hE]
  have HE : Hid (encE seq l = E) := hE
  have HLL : Hid ((if encE seq l = 0 then encB seq l else []) = L) := hL
  have HE1 : Hid (encE seq l = if fbad l ≠ 0 then fbad l else if 4194304 < 12 + szs l then 2 else 0) := by
    show _ = _
    unfold encE; rw [if_neg (by rw [hnb]; decide), if_neg (by omega)]
  clear hE hL hnb
  have hl' : (l.length : Int) ≤ 4096 := by omega
  go_enter Try.func8, Try.ntmps8
  go_wp2_with (go_at_call 26; refine HN.mono ?_; rintro e w' ⟨rfl, rfl⟩)
  go_loopw [24] (fun i wr => ∃ k : Nat, k ≤ l.length ∧ i = .int .i64 k ∧ Hid (fbad (l.drop k) = fbad l) ∧ Below w'.heap.size w' wr) (fun i _ => l.length - (intOf i).toNat)
  case atStart => exact ⟨0, Nat.zero_le _, rfl, rfl, Below.refl _ _⟩
  case round =>
    obtain ⟨k, hk, rfl, HB, hbel⟩ := hrel
    by_cases hlt : k < l.length
    · obtain ⟨b, off, cap, hv, hb, c0, c1, c2, c3⟩ := (h.below hbel).at hlt
      cases hv
      have HT := fbad_step l k hlt
      generalize l[k] = r at *
      obtain ⟨f, kd, key, val⟩ := r
      dsimp only at *
      have HC := fun w => check_any f kd key val w
      have HT' : Hid (fbad (l.drop k) = if chk kd key val = 0 then fbad (l.drop (k + 1)) else chk kd key val) := HT
      clear HT
      generalize chk kd key val = m at *
      by_cases hm : m = 0
      · have tm : (m != 0) = false := by simpa using hm
        have HM : Hid (m = 0) := hm
        clear hm
        go_wp2_with (go_at_call 10; refine (HC _).mono ?_; rintro e w1 ⟨rfl, hb1⟩)
        go_roundw
        case rel => exact ⟨k + 1, by omega, by go_num, by show _ = _; rw [← HB.out, HT'.out, if_pos HM.out], bstep (hbel.alloc hbel.size _) hb1⟩
        case measure => simp [intOf]; omega
      · have tm : (m != 0) = true := by simpa using hm
        have HM : Hid (¬ m = 0) := hm
        clear hm
        go_wp2_with (go_at_call 10; refine (HC _).mono ?_; rintro e w1 ⟨rfl, hb1⟩)
        go_ret2
        have q : E = m := by
          rw [← HE.out, HE1.out, ← HB.out, HT'.out, if_neg HM.out, if_pos HM.out]
        subst q
        have q2 : L = [] := by rw [← HLL.out, if_neg (by rw [HE.out]; exact HM.out)]
        subst q2
        exact ⟨_, rfl, OwnB.nil _ _, bstep (hbel.alloc hbel.size _) hb1⟩
    · obtain rfl : k = l.length := by omega
      have HF : fbad l = 0 := by rw [← HB.out, List.drop_length]; rfl
      have hall := fbad_all HF
      have hfine : ∀ r ∈ l, Fine r := fun r hr => fine_of (hF r hr).1 (hF r hr).2 (hall r hr)
      have hkind : ∀ r ∈ l, 0 ≤ r.kind ∧ r.kind ≤ 2 := fun r hr => (rchk_zero (hall r hr)).2.2
      have HSZ := recordsSize_any (h.below hbel) (by omega) hfine
      have hsb := fine_szs hfine
      have HE2 : Hid (encE seq l = if 4194304 < 12 + szs l then 2 else 0) := by
        show _ = _
        rw [HE1.out, if_neg (by rw [HF]; decide)]
      clear HE1 HB HF hall
      obtain ⟨n, hn⟩ : ∃ n, szs l = n := ⟨_, rfl⟩
      rw [hn] at HSZ hsb
      have HSN : Hid (szs l = n) := hn
      have hn1 : (n : Int) ≤ 2000000000 := by omega
      clear hn hsb
      by_cases hbig : 4194304 < 12 + (n : Int)
      · go_wp2_with (go_at_call 27; refine HSZ.mono ?_; rintro e w1 ⟨rfl, hb1⟩)
        go_ret2
        have q : E = 2 := by rw [← HE.out, HE2.out, HSN.out, if_pos (by omega)]
        subst q
        have q2 : L = [] := by rw [← HLL.out, if_neg (by rw [HE.out]; decide)]
        subst q2
        exact ⟨_, rfl, OwnB.nil _ _, bstep hbel hb1⟩
      · obtain ⟨i0, hi, hz0, hz1, hz2⟩ := info_parts info5
        have hmk := mkcap n (by omega)
        have hmo := fun w => mkcap_own n (by omega) w
        have HX1 : Hid (([] : List Int).length + (byts 8 seq).length ≤ 140737488355328) := by show _ ≤ _; rw [byts_len]; decide
        have HX2 : Hid (([] ++ byts 8 seq : List Int).length + (byts 4 (l.length : Int)).length ≤ 140737488355328) := by show _ ≤ _; rw [List.nil_append, byts_len, byts_len]; decide
        go_wp2_with (first
          | (go_at_call 27; refine HSZ.mono ?_; rintro e w1 ⟨rfl, hb1⟩; have B1 := bstep hbel hb1; have M1 := hmo w1)
          | (go_at_call 28; refine (cfixed64_own' seq _ s0 s1).mono ?_; rintro e w2 ⟨v2, rfl, ho2, hb2⟩; have M2 := M1.below hb2 (Nat.le_refl _); have B2 := bstep (B1.alloc B1.size _) hb2)
          | (at_builtin
             refine OwnB.wpList_append rfl _ _ 24 24 rfl rfl (base := w1.heap.size) (l := []) M2 i0 Try.underlying24 hi hz0 hz1 hz2 v2 rfl (byts 8 seq) ho2.src (by have := hb2.size; simp at this; omega) HX1.out ?_
             intro v3 w3 ho3 hg3 hl3
             have B3 := (AppB.grow ho3 hg3 hl3).below B2 B2.size M2 B1.size
             have Z3 : w1.heap.size < w3.heap.size := (by have := hb2.size; simp at this; have := hg3.size; omega))
          | (go_at_call 29; refine (cfixed32_ownN l.length _ (by omega)).mono ?_; rintro e w4 ⟨v4, rfl, ho4, hb4⟩; have M4 := ho3.below hb4 (Nat.le_refl _); have B4 := bstep B3 hb4)
          | (at_builtin
             refine OwnB.wpList_append rfl _ _ 24 24 rfl rfl (base := w1.heap.size) (v := v3) (l := [] ++ byts 8 seq) M4 i0 Try.underlying24 hi hz0 hz1 hz2 v4 rfl (byts 4 l.length) ho4.src (by have := hb4.size; omega) HX2.out ?_
             intro v5 w5 ho5 hg5 hl5
             have B5 := (AppB.grow ho5 hg5 hl5).below B4 B4.size M4 B1.size
             have Z5 : w1.heap.size < w5.heap.size := (by have := hb4.size; have := hg5.size; omega)))
        have H0 : OwnB w5 w1.heap.size v5 (byts 8 seq ++ byts 4 l.length ++ encs (l.take 0)) := by simpa [encs] using ho5
        have B1' := B1.size
        clear hg3 hl3 hg5 hl5 ho5 M4 ho4 M2 ho2 M1 hmo hmk ho3
        go_loopw [10, 53] (fun v i wr => ∃ k : Nat, k ≤ l.length ∧ i = .int .i64 k ∧ OwnB wr w1.heap.size v (byts 8 seq ++ byts 4 l.length ++ encs (l.take k)) ∧ Below w'.heap.size w' wr ∧ w1.heap.size ≤ wr.heap.size) (fun _ i _ => l.length - (intOf i).toNat)
        case atStart => exact ⟨0, Nat.zero_le _, rfl, H0, B5, Nat.le_of_lt Z5⟩
        case round =>
          obtain ⟨k, hk, rfl, ho, hb6, hz6⟩ := hrel
          by_cases hlt : k < l.length
          · obtain ⟨b, off, cap, hv, hb, c0, c1, c2, c3⟩ := (h.below hb6).at hlt
            cases hv
            have HT : encs (l.take (k + 1)) = encs (l.take k) ++ encR l[k] := by rw [List.take_succ_eq_append_getElem hlt, encs_app]; simp [encs]
            have hle : (byts 8 seq ++ byts 4 l.length ++ encs (l.take k)).length ≤ 9000000 := by
              rw [List.length_append, List.length_append, byts_len, byts_len, encs_len]
              have := szs_take_le l k
              have := HSN.out
              omega
            have HFn := hfine _ (List.getElem_mem hlt)
            have HKd := hkind _ (List.getElem_mem hlt)
            generalize l[k] = r at *
            have HC := fun w0 v0 (hh : OwnB w0 w1.heap.size v0 (byts 8 seq ++ byts 4 l.length ++ encs (l.take k))) (hz : w1.heap.size ≤ w0.heap.size) => appendRecord_any (w := w0) hh hz r HFn.f0 HFn.f1 HKd.1 HKd.2 HFn.key HFn.val hle
            obtain ⟨f, kd, key, val⟩ := r
            dsimp only at *
            have HT' : Hid (encs (l.take (k + 1)) = encs (l.take k) ++ encR ⟨f, kd, key, val⟩) := HT
            clear HT hle
            go_wp2_with (go_at_call 30; refine (HC _ _ (ho.alloc _) (by simp; omega)).mono ?_; rintro e w7 ⟨v7, rfl, A7⟩)
            go_roundw
            case rel => exact ⟨k + 1, by omega, by go_num, by rw [HT'.out, ← List.append_assoc]; exact A7.own, A7.below (hb6.alloc hb6.size _) (by have := hb6.size; simp; omega) (ho.alloc _) B1', by have := A7.upd.size; simp at this; omega⟩
            case measure => simp [intOf]; omega
          · obtain rfl : k = l.length := by omega
            go_wp2
            go_ret2
            have q : E = 0 := by rw [← HE.out, HE2.out, HSN.out, if_neg (by omega)]
            subst q
            have q2 : L = byts 8 seq ++ byts 4 l.length ++ encs (l.take l.length) := by rw [← HLL.out, if_pos HE.out, List.take_length]; rfl
            subst q2
            exact ⟨_, rfl, ho.mono B1', hb6⟩
end Go.Proofs.Ytkpijoogaicodaa
namespace Go.Proofs.Ytkpijoogaicodaa
open Go.RowKit
set_option linter.unusedVariables false
set_option linter.unusedSimpArgs false

theorem Upd.bel {S : Nat → Prop} {w W w' : World} (hb : Below w.heap.size w W) (u : Upd S W w') (hS : ∀ k, S k → w.heap.size ≤ k) : Below w.heap.size w w' :=
  hb.trans (u.below (fun k hk => Nat.lt_of_lt_of_le hk hb.size) hS)
/-- What Add leaves. -/
def AddPost (w : World) (b : Nat) (rv mv : Value) (rs : List Rec) (ms : List Nat) (r : Rec) : Ending → World → Prop := fun e w' => ∃ rv', e = .returned (.int .i64 (addE rs r)) ∧ Bt w' b rv' mv (addL rs r) ms ∧ Upd (Of b rv) w w' ∧ (rv'.ownBlock = rv.ownBlock ∨ ∀ j, rv'.ownBlock = some j → w.heap.size ≤ j)
set_option maxRecDepth 100000 in
set_option maxHeartbeats 400000 in
theorem put_any {w : World} {b : Nat} {rv mv : Value} {rs : List Rec} {ms : List Nat} (h : Bt w b rv mv rs ms) (hg : Good rs) (f : Int) (key val : ByteArray) (f0 : 0 ≤ f) (f1 : f < 4294967296) :
    Calls Try.prog 39 #[ptr b, .int .u32 f, .string key, .string val] w (AddPost w b rv mv rs ms ⟨f, 1, key, val⟩) := by
  have HA := add_any h hg ⟨f, 1, key, val⟩ f0 f1
  dsimp only at HA
  go_enter Try.func39, Try.ntmps39
  go_wp2_with (go_at_call 19; refine HA.mono ?_; rintro e w' ⟨rv', rfl, h1, h2, h3⟩)
  go_ret
  exact ⟨rv', rfl, h1, h2, h3⟩
def liveR : Rec := ⟨0, 1, ⟨#[97]⟩, ⟨#[98]⟩⟩
theorem live_e : addE [] liveR = 0 := by decide +kernel
theorem live_l : addL [] liveR = [liveR] := by
  unfold addL; rw [if_pos live_e]; rfl
theorem live_enc : encE 5 [liveR] = 0 := by decide +kernel
theorem live_numb : numb 5 ([liveR].length : Nat) = true := by decide +kernel
theorem live_bytes : bstr (encB 5 [liveR]) = ⟨#[5, 0, 0, 0, 0, 0, 0, 0, 1, 0, 0, 0, 1, 0, 1, 97, 1, 98]⟩ := by decide +kernel
theorem live_szs : szs [liveR] = 6 := by decide +kernel
theorem live_fam : Fam [liveR] := by
  intro r hr
  simp at hr
  subst hr
  exact ⟨by decide, by decide⟩
set_option maxRecDepth 100000 in
set_option maxHeartbeats 1000000 in
theorem lives_any (w : World) :
    Calls Try.prog 12 #[] w fun e w' => e = .returned (.bool true) ∧ Below w.heap.size w w' := by
  have H0 := Bt.new w
  have HP := put_any H0 Good.nil 0 ⟨#[97]⟩ ⟨#[98]⟩ (by decide) (by decide)
  go_enter Try.func12, Try.ntmps12
  go_wp2_with (first
    | (go_at_call 39
       refine HP.mono ?_
       rintro e w1 ⟨rv, rfl, hB, hU, hloc⟩
       have e1 : addE [] ⟨0, 1, ⟨#[97]⟩, ⟨#[98]⟩⟩ = 0 := live_e
       have e2 : addL [] ⟨0, 1, ⟨#[97]⟩, ⟨#[98]⟩⟩ = [liveR] := live_l
       rw [e2] at hB
       rw [e1]
       clear e1 e2 HP)
    | (go_at_call 20; refine (records_any hB (by decide)).mono ?_; rintro e w2 ⟨v2, rfl, ho2, hb2, hn2⟩)
    | (go_at_call 8
       refine (encode_yes 5 (row_rd ho2) live_fam (by decide) (by decide) live_numb (by decide)).mono ?_
       rw [live_enc, if_pos rfl]
       rintro e w3 ⟨v3, rfl, ho3, hb3⟩
       have hstr := ho3.str
       rw [live_bytes] at hstr
       have hsz := size_any ((hB.below hb2).below hb3).blk (by rw [live_szs]; decide)
       rw [live_szs] at hsz)
    | (go_at_call 21; refine hsz.mono ?_; rintro e w' ⟨rfl, rfl⟩))
  go_ret
  have b1 := Upd.bel ((Below.refl w.heap.size w).alloc (Nat.le_refl _) _) hU (by
    rintro k (rfl | hk)
    · exact Nat.le_refl _
    · cases hk)
  exact ⟨rfl, bstep (bstep b1 hb2) hb3⟩
end Go.Proofs.Ytkpijoogaicodaa
