import Derived.Test.YtkpijoogaicodaaQd
import Derived.Test.YtkpijoogaicodaaRf
import Derived.Deep.QuietTactic
import Derived.BigQuiet
namespace Go.Proofs.Ytkpijoogaicodaa
open Go.RowKit
set_option linter.unusedVariables false
set_option linter.unusedSimpArgs false

set_option maxRecDepth 100000 in
set_option maxHeartbeats 1000000 in
theorem qnumb_any (seq n : Int) (w : World) (s0 : 0 ≤ seq) (s1 : seq < 18446744073709551616) (n0 : 0 ≤ n) (n1 : n < 9223372036854775808) :
    Calls Try.prog 31 #[.int .u64 seq, .int .i64 n] w fun e w' => e = .returned (.bool (numb seq n)) ∧ w' = w := by
  by_cases h1 : seq ≤ 72057594037927935
  · by_cases h2 : n = 0
    · have e : numb seq n = true := by unfold numb; simp; omega
      rw [e]
      have t2 : (n == 0) = true := by simpa using h2
      clear e h2
      go_enter Try.func31, Try.ntmps31
      go_wp2
      go_ret
      exact ⟨rfl, rfl⟩
    · have t2 : (n == 0) = false := by simpa using h2
      by_cases h3 : n - 1 ≤ 72057594037927935 - seq
      · have e : numb seq n = true := by unfold numb; simp; omega
        rw [e]
        have q0 : 1 ≤ n := by omega
        clear e h2
        go_enter Try.func31, Try.ntmps31
        go_wp2
        go_ret
        exact ⟨rfl, rfl⟩
      · have e : numb seq n = false := by unfold numb; simp; omega
        rw [e]
        have q0 : 1 ≤ n := by omega
        clear e h2
        go_enter Try.func31, Try.ntmps31
        go_wp2
        go_ret
        exact ⟨rfl, rfl⟩
  · have e : numb seq n = false := by unfold numb; simp; omega
    rw [e]
    clear e
    go_enter Try.func31, Try.ntmps31
    go_wp2
    go_ret
    exact ⟨rfl, rfl⟩
theorem one_rd' (w : World) (n : Nat) (hn : n = w.heap.size) (r : Rec) : RdR (w.alloc (.cells #[.int .u32 r.fam, .int .i64 r.kind, .string r.key, .string r.val] 31)) (.slice (some ⟨n, 0, none⟩) 1 1) [r] := by
  subst hn; exact one_rd w r
/-- The variables of the reference's Decode. -/
structure Dq (w W : World) (lv : Value) (rs : List Rec) (why : Int) (l : List Int) : Prop where
  bel : Below w.heap.size w W
  rd : RdQ W w.heap.size why l
  row : W.ownsRow 0 31 4 lv rs.length (rcs rs)
  new : ∀ k, lv.ownBlock = some k → w.heap.size < k
theorem Dq.read {w W W' : World} {lv : Value} {rs : List Rec} {why why' : Int} {l l' : List Int} (h : Dq w W lv rs why l) (hr : RdQ W' w.heap.size why' l') (u : Upd (At w.heap.size) W W') : Dq w W' lv rs why' l' :=
  ⟨Upd.bel h.bel u (fun k hk => by unfold At at hk; omega), hr, row_upd h.row u (fun k hk e => by have := h.new k hk; unfold At at e; omega), h.new⟩
theorem Dq.behind {w W W' : World} {lv : Value} {rs : List Rec} {why : Int} {l : List Int} (h : Dq w W lv rs why l) (hb : Below W.heap.size W W') : Dq w W' lv rs why l :=
  ⟨bstep h.bel hb, h.rd.below hb, row_upd h.row (S := Non) (Upd.ofBelow hb) (fun _ _ hh => hh), h.new⟩
theorem Dq.grow {w W W' : World} {lv lv' : Value} {rs rs' : List Rec} {why : Int} {l : List Int} (h : Dq w W lv rs why l) (ho : W'.ownsRow 0 31 4 lv' rs'.length (rcs rs')) (u : Upd (fun k => lv.ownBlock = some k) W W') (hl : lv'.ownBlock = lv.ownBlock ∨ ∀ j, lv'.ownBlock = some j → W.heap.size ≤ j) : Dq w W' lv' rs' why l := by
  have hq := h.rd.lt
  refine ⟨Upd.bel h.bel u (fun k hk => Nat.le_of_lt (h.new k hk)), ?_, ho, ?_⟩
  · obtain ⟨a, cap, h1, h2, h3, h4⟩ := h.rd
    exact ⟨a, cap, h1.upd u (fun e => by have := h.new _ e; omega), h2.upd u (fun k hk e => by have := h4 k hk; have := h.new k e; omega), h3, h4⟩
  · intro k hk
    rcases hl with e | e
    · rw [e] at hk; exact h.new k hk
    · have := e k hk; omega
set_option maxRecDepth 100000 in
set_option maxHeartbeats 3200000 in
theorem qdecode_any {w : World} {a : Option Addr} {cap : Nat} {l : List Int} (hA : Arg w a l.length cap l) (hcap : l.length ≤ cap) (hlt : ∀ k, Value.ownBlock (.slice a l.length cap) = some k → k < w.heap.size) :
    Calls Try.prog 16 #[.slice a l.length cap] w (DecPost w l) := by
  have hby := hA.2.1
  by_cases hl : 4194304 < l.length
  · have hp : pAll l = .error 2 := by unfold pAll; rw [if_pos hl]
    have hl' : (4194304 : Int) < (l.length : Int) := by omega
    go_enter Try.func16, Try.ntmps16
    go_wp2
    go_ret3
    exact ⟨Below.refl _ _, .inl ⟨2, hp, rfl⟩⟩
  · have hp : pAll l = pBody l := by unfold pAll; rw [if_neg hl]
    have hl' : ¬ (4194304 : Int) < (l.length : Int) := by omega
    unfold DecPost
    rw [hp]
    clear hp hl
    have HR8 := rrf8 a l.length cap l w hA
    by_cases h8 : l.length < 8
    · have hb : pBody l = .error 4 := by unfold pBody pHead; rw [if_pos h8]
      have e2 : rfE 8 l = 4 := by unfold rfE; rw [if_pos h8]
      have e1 : rfV 8 l = 0 := by unfold rfV; rw [if_pos h8]
      rw [e1, e2] at HR8
      clear e1 e2
      go_enter Try.func16, Try.ntmps16
      go_wp2_with (go_at_call 42; refine HR8.mono ?_; rintro e w' ⟨rfl, rfl⟩)
      go_ret3
      exact ⟨Below.refl _ _, .inl ⟨4, hb, rfl⟩⟩
    · have e2 : rfE 8 l = 0 := by unfold rfE; rw [if_neg h8]
      have e1 : rfV 8 l = leV (l.take 8) := by unfold rfV; rw [if_neg h8]
      obtain ⟨_, _, s0, s1⟩ := fix8 hby (by omega)
      rw [e1, e2] at HR8
      have HPH : Hid (pHead l = if numb (leV (l.take 8)) 0 = false then .error 3 else if (l.drop 8).length < 4 then .error 4 else
        if leV ((l.drop 8).take 4) ≤ 4096 ∧ numb (leV (l.take 8)) (leV ((l.drop 8).take 4)) = true then .ok ((leV (l.take 8), leV ((l.drop 8).take 4)), (l.drop 8).drop 4) else .error 3) := by
        show _ = _
        rw [pHead, if_neg h8]
      clear e1 e2
      generalize leV (l.take 8) = seq at *
      have hA8 := hA.drop 8 (by omega) hcap
      have HR4 := rrf4 _ _ _ _ w hA8
      have k8 : ∀ W, (Instr.sliceAt 24 (.slice a l.length cap) (some (.int .i64 8)) none none).run Try.prog W = .ok (.slice (cutBA a cap 8) (l.length - 8) (cap - 8)) W := bcut_lo a l.length cap 8 (by omega)
      by_cases hq : 72057594037927935 < seq
      · have hb : pBody l = .error 3 := by
          unfold pBody
          rw [HPH.out, if_pos (by unfold numb; simp; omega)]
        clear HPH
        go_enter Try.func16, Try.ntmps16
        go_wp2_with (go_at_call_of 42 (Value.int IntKind.i64 8); refine HR8.mono ?_; rintro e w' ⟨rfl, rfl⟩)
        go_ret3
        exact ⟨Below.refl _ _, .inl ⟨3, hb, rfl⟩⟩
      · have hn0 : numb seq 0 = true := by unfold numb; simp; omega
        have HP2 : Hid (pHead l = if (l.drop 8).length < 4 then .error 4 else
          if leV ((l.drop 8).take 4) ≤ 4096 ∧ numb seq (leV ((l.drop 8).take 4)) = true then .ok ((seq, leV ((l.drop 8).take 4)), (l.drop 8).drop 4) else .error 3) := by
          show _ = _
          rw [HPH.out, if_neg (by rw [hn0]; decide)]
        clear HPH hn0
        have hl8 : (l.drop 8).length = l.length - 8 := List.length_drop
        by_cases h4 : (l.drop 8).length < 4
        · have hb : pBody l = .error 4 := by unfold pBody; rw [HP2.out, if_pos h4]
          have e2 : rfE 4 (l.drop 8) = 4 := by unfold rfE; rw [if_pos h4]
          have e1 : rfV 4 (l.drop 8) = 0 := by unfold rfV; rw [if_pos h4]
          rw [e1, e2] at HR4
          clear e1 e2 HP2 hl8
          go_enter Try.func16, Try.ntmps16
          go_wp2_with (first
            | (go_at_call_of 42 (Value.int IntKind.i64 8); refine HR8.mono ?_; rintro e w' ⟨rfl, rfl⟩)
            | (go_at_call 42; refine HR4.mono ?_; rintro e w' ⟨rfl, rfl⟩))
          go_ret3
          exact ⟨Below.refl _ _, .inl ⟨4, hb, rfl⟩⟩
        · have e2 : rfE 4 (l.drop 8) = 0 := by unfold rfE; rw [if_neg h4]
          have e1 : rfV 4 (l.drop 8) = leV ((l.drop 8).take 4) := by unfold rfV; rw [if_neg h4]
          obtain ⟨_, _, m0, m1⟩ := fix4 (l := l.drop 8) (fun c hc => hby c (List.mem_of_mem_drop hc)) (by omega)
          have HP3 : Hid (pHead l = if leV ((l.drop 8).take 4) ≤ 4096 ∧ numb seq (leV ((l.drop 8).take 4)) = true then .ok ((seq, leV ((l.drop 8).take 4)), (l.drop 8).drop 4) else .error 3) := by
            show _ = _
            rw [HP2.out, if_neg h4]
          rw [e1, e2] at HR4
          clear e1 e2 HP2
          generalize leV ((l.drop 8).take 4) = many at *
          have k12 : ∀ W, (Instr.sliceAt 24 (.slice a l.length cap) (some (.int .i64 12)) none none).run Try.prog W = .ok (.slice (cutBA a cap 12) (l.length - 12) (cap - 12)) W := bcut_lo a l.length cap 12 (by omega)
          have hA12 := hA.drop 12 (by omega) hcap
          have hd12 : (l.drop 8).drop 4 = l.drop 12 := by rw [List.drop_drop]
          have hl12 : (l.drop 12).length = l.length - 12 := List.length_drop
          by_cases hm : 4096 < many
          · have hb : pBody l = .error 3 := by unfold pBody; rw [HP3.out, if_neg (by omega)]
            clear HP3 hl8 hl12 hd12
            go_enter Try.func16, Try.ntmps16
            go_wp2_with (first
              | (go_at_call_of 42 (Value.int IntKind.i64 8); refine HR8.mono ?_; rintro e w' ⟨rfl, rfl⟩)
              | (go_at_call 42; refine HR4.mono ?_; rintro e w' ⟨rfl, rfl⟩))
            go_ret3
            exact ⟨Below.refl _ _, .inl ⟨3, hb, rfl⟩⟩
          · have HN := qnumb_any seq many w s0 s1 m0 (by omega)
            cases hnb : numb seq many with
            | false =>
              have hb : pBody l = .error 3 := by unfold pBody; rw [HP3.out, if_neg (by rw [hnb]; simp)]
              rw [hnb] at HN
              clear HP3 hl8 hl12 hd12 hnb
              go_enter Try.func16, Try.ntmps16
              go_wp2_with (first
                | (go_at_call 31; refine HN.mono ?_; rintro e w' ⟨rfl, rfl⟩)
                | (go_at_call_of 42 (Value.int IntKind.i64 8); refine HR8.mono ?_; rintro e w' ⟨rfl, rfl⟩)
                | (go_at_call 42; refine HR4.mono ?_; rintro e w' ⟨rfl, rfl⟩))
              go_ret3
              exact ⟨Below.refl _ _, .inl ⟨3, hb, rfl⟩⟩
            | true =>
              rw [hnb] at HN
              obtain ⟨N, rfl⟩ := Int.eq_ofNat_of_zero_le m0
              have HPB : Hid (pBody l = match pMany N (l.drop 12) with | .error c => .error c | .ok (rs, l2) => if l2 = [] then .ok (seq, rs) else .error 5) := by
                show _ = _
                unfold pBody
                rw [HP3.out, if_pos ⟨by omega, hnb⟩, hd12]
                rfl
              have hq0 : RdQ ((w.alloc (.cells #[.slice (cutBA a cap 12) (l.length - 12) (cap - 12), .int .i64 0] 73)).alloc (.cells #[] 31)) w.heap.size 0 (l.drop 12) := by
                have hb := bstep ((Below.refl w.heap.size w).alloc (Nat.le_refl _) (.cells #[.slice (cutBA a cap 12) (l.length - 12) (cap - 12), .int .i64 0] 73)) ((Below.refl _ _).alloc (Nat.le_refl _) (.cells #[] 31))
                refine ⟨cutBA a cap 12, cap - 12, ?_, ?_, by omega, fun k hk => ?_⟩
                · rw [hl12]; exact (Blk.new w 73 [.slice (cutBA a cap 12) (l.length - 12) (cap - 12), .int .i64 0]).alloc _
                · rw [hl12]; exact hA12.below hb
                · rw [cutBA_own _ _ _ _ _ l.length cap] at hk; exact hlt k hk
              have D0 : Dq w ((w.alloc (.cells #[.slice (cutBA a cap 12) (l.length - 12) (cap - 12), .int .i64 0] 73)).alloc (.cells #[] 31)) (.slice (some ⟨w.heap.size + 1, 0, none⟩) 0 0) [] 0 (l.drop 12) := by
                have hmade := World.ownsRow_made (base := 0) (e := 31) (size := 4) (w.alloc (.cells #[.slice (cutBA a cap 12) (l.length - 12) (cap - 12), .int .i64 0] 73)) #[] 0 (Nat.zero_le _) (by unfold maxLen; omega) rfl
                rw [World.size_alloc] at hmade
                exact ⟨bstep ((Below.refl w.heap.size w).alloc (Nat.le_refl _) _) ((Below.refl _ _).alloc (Nat.le_refl _) _), hq0, hmade, fun k hk => by simp [Value.ownBlock] at hk; omega⟩
              have hN1 : (N : Int) ≤ 4096 := by omega
              clear HP3 hl8 hl12 hd12 hnb hq0 hA12 hA8 m1
              generalize l.drop 12 = l1 at *
              go_enter Try.func16, Try.ntmps16
              go_wp2_with (first
                | (go_at_call 31; refine HN.mono ?_; rintro e w' ⟨rfl, rfl⟩)
                | (go_at_call_of 42 (Value.int IntKind.i64 8); refine HR8.mono ?_; rintro e w' ⟨rfl, rfl⟩)
                | (go_at_call 42; refine HR4.mono ?_; rintro e w' ⟨rfl, rfl⟩))
              go_loopw [9, 10] (fun lv i wr => ∃ (k m : Nat) (rs : List Rec) (l' : List Int), k + m = N ∧ i = .int .i64 k ∧ Dq w' wr lv rs 0 l' ∧ Hid (rs.length = k) ∧ Hid (pMany N l1 = pAcc rs m l')) (fun _ i _ => N - (intOf i).toNat)
              case atStart => exact ⟨0, N, [], l1, by omega, rfl, D0, rfl, (pAcc_nil _ _).symm⟩
              case round =>
                clear D0 HR8 HR4 HN
                obtain ⟨k, m, rs, l', hkm, rfl, D, hrl, HM⟩ := hrel
                have hkN : (k : Int) ≤ 4096 := by omega
                by_cases hlt' : k < N
                · obtain ⟨m', rfl⟩ : ∃ m', m = m' + 1 := ⟨m - 1, by omega⟩
                  have hlk : (k : Int) < (N : Int) := by omega
                  cases hpr : pRec l' with
                  | error c =>
                    have hpb : pBody l = .error c := by rw [HPB.out, HM.out, pAcc_err hpr]
                    have HC := qrecord_err D.rd hpr
                    clear HM HPB hpr
                    go_wp2_with (go_at_call 43; refine HC.mono ?_; rintro e w2 ⟨⟨f, kd, key, val, rfl⟩, tc, ⟨l2, hq2⟩, hu2⟩; have D2 := D.read hq2 hu2; have D3 := D2.behind ((Below.refl _ _).alloc (Nat.le_refl _) (.cells #[.int .u32 f, .int .i64 kd, .string key, .string val] 31)); obtain ⟨a2, cap2, hB2, _⟩ := D2.rd; have y1 := hB2.cell1 1 _ rfl; have ly := hB2.lt)
                    go_quiet (fail)
                    go_wp2
                    go_ret3
                    exact ⟨belN D3.bel _, .inl ⟨c, hpb, rfl⟩⟩
                  | ok x =>
                    obtain ⟨r, l''⟩ := x
                    have HM' : Hid (pMany N l1 = pAcc (rs ++ [r]) m' l'') := by show _ = _; rw [HM.out, pAcc_ok hpr]
                    have HC := qrecord_ok D.rd hpr
                    have hn48 : (rs.length + [r].length) * 48 ≤ 140737488355328 := by have := hrl.out; simp; omega
                    clear hpr HM
                    obtain ⟨f, kd, key, val⟩ := r
                    dsimp only at HC
                    go_wp2_with (first
                      | (go_at_call 43; refine HC.mono ?_; rintro e w2 ⟨rfl, hq2, hu2⟩; have D2 := D.read hq2 hu2; have D3 := D2.behind ((Below.refl _ _).alloc (Nat.le_refl _) (.cells #[.int .u32 f, .int .i64 kd, .string key, .string val] 31)); obtain ⟨a2, cap2, hB2, _⟩ := D2.rd; have y1 := hB2.cell1 1 _ rfl; have ly := hB2.lt)
                      | (at_builtin
                         refine wpList_append_rows (rs := rs) (l := [⟨f, kd, key, val⟩]) rfl _ _ rfl rfl rfl (D3.row.alloc _) (Nat.zero_le _) (one_rd' _ _ (by simp) ⟨f, kd, key, val⟩) hn48 ?_
                         intro v' w3 ho3 hg3 hl3
                         have D4 := (D3.behind ((Below.refl _ _).alloc (Nat.le_refl _) (.cells #[.int .u32 f, .int .i64 kd, .string key, .string val] 31))).grow ho3 ((Upd.refl _ _).grown hg3 (fun k hk _ => hk)) (by
                           rcases hl3 with e | e
                           · exact .inl e
                           · exact .inr fun j hj => by rw [e] at hj; cases hj; exact Nat.le_refl _)))
                    go_roundw
                    case rel => exact ⟨k + 1, m', rs ++ [⟨f, kd, key, val⟩], l'', by omega, by go_num, D4, by show _ = _; have := hrl.out; simp; omega, HM'⟩
                    case measure => simp [intOf]; omega
                · obtain rfl : m = 0 := by omega
                  have hkN' : k = N := by omega
                  have hpm : pMany N l1 = .ok (rs, l') := by rw [HM.out, pAcc_zero]
                  have hpb1 : pBody l = if l' = [] then .ok (seq, rs) else .error 5 := by rw [HPB.out, hpm]
                  subst hkN'
                  obtain ⟨a2, cap2, hB2, _⟩ := D.rd
                  by_cases hl'' : l' = []
                  · have hpb : pBody l = .ok (seq, rs) := by rw [hpb1, if_pos hl'']
                    subst hl''
                    have y0 : wr.cell? ⟨w'.heap.size, 0, none⟩ = some (.slice a2 0 cap2) := hB2.cell1 0 _ rfl
                    clear hpb1 hpm HM HPB
                    go_wp2
                    go_ret3
                    exact ⟨D.bel, .inr ⟨seq, rs, _, hpb, rfl, D.row, fun k hk => Nat.le_of_lt (D.new k hk)⟩⟩
                  · have hpb : pBody l = .error 5 := by rw [hpb1, if_neg hl'']
                    have y0 := hB2.cell1 0 _ rfl
                    have hpos : (0 : Int) < (l'.length : Int) := by cases l' with | nil => exact absurd rfl hl'' | cons x y => simp
                    clear hpb1 hpm HM HPB hl''
                    go_wp2
                    go_ret3
                    exact ⟨D.bel, .inl ⟨5, hpb, rfl⟩⟩
end Go.Proofs.Ytkpijoogaicodaa
