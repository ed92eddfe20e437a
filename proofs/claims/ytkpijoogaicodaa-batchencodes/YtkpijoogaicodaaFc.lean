import Derived.Test.YtkpijoogaicodaaFb
namespace Go.Proofs.Ytkpijoogaicodaa
open Go.RowKit
set_option linter.unusedVariables false
set_option linter.unusedSimpArgs false

/-- The bytes so far, and the box of the record. -/
structure Es (w W : World) (base B : Nat) (v : Value) (L : List Int) (r : Rec) : Prop where
  own : OwnB W base v L
  bel : Below w.heap.size w W
  box : RBox B r.fam r.kind r.key r.val W
  lt : B < W.heap.size
  ne : v.ownBlock ≠ some B
  bs : base ≤ B
  wb : w.heap.size ≤ base
theorem Es.step {w W W' : World} {base B : Nat} {v : Value} {L : List Int} {r : Rec} (h : Es w W base B v L r) (hb : Below W.heap.size W W') : Es w W' base B v L r :=
  ⟨h.own.below hb (Nat.le_refl _), bstep h.bel hb, rkeep hb h.lt h.box, Nat.lt_of_lt_of_le h.lt hb.size, h.ne, h.bs, h.wb⟩
theorem Es.alloc {w W : World} {base B : Nat} {v : Value} {L : List Int} {r : Rec} (h : Es w W base B v L r) (o : Obj) : Es w (W.alloc o) base B v L r := h.step ((Below.refl _ _).alloc (Nat.le_refl _) _)
theorem Es.drew {w W : World} {base B : Nat} {v : Value} {L : List Int} {r : Rec} (h : Es w W base B v L r) : Es w W.drew base B v L r := h.step ((Below.refl _ _).drew)
theorem Es.grow {w W W' : World} {base B : Nat} {v v' : Value} {L L' : List Int} {r : Rec} (h : Es w W base B v L r) (ho : OwnB W' base v' L') (hg : W.grownBy W' v.ownBlock) (hl : v'.ownBlock = v.ownBlock ∨ v'.ownBlock = some W.heap.size) : Es w W' base B v' L' r :=
  ⟨ho, (AppB.grow ho hg hl).below h.bel h.bel.size h.own h.wb, rkeepU ((Upd.refl _ _).grown hg (fun k hk _ => hk)) h.lt h.ne h.box, Nat.lt_of_lt_of_le h.lt hg.size, (AppB.grow ho hg hl).ne h.ne h.lt, h.bs, h.wb⟩

theorem src_one_d (W : World) (n : Nat) (hn : n = W.heap.size) (x : Int) : Src Try.prog 1 24 (.slice (some ⟨n, 0, none⟩) 1 1) [x].length (bc [x]) (W.alloc (.cells #[.int .u8 x] 5)).drew := by
  subst hn
  refine Src.ofSlice _ Try.underlying24 ⟨W.heap.size, 0, none⟩ 1 1 (bc [x]) rfl ?_ (bc_one _)
  intro j u hu
  obtain ⟨hj, rfl⟩ := bc_get [x] j u hu
  have : j = 0 := by simp at hj; omega
  subst this
  exact World.cell?_alloc_new W #[.int .u8 x] 5 0

theorem OwnB.step_append_d {w : World} {base : Nat} {v : Value} {l : List Int} {ops : Array Oper} {o : Oper} {a : Act} {K : Act → World → Prop} {Q : Exit → Act → World → Prop} {E : Prop} {d : Nat} (hgd : o.guard = none) (hd : o.dst = some d) (s x : Operand) (t tx : TypeId)
    (ho : o.op = .call { callee := .builtin .append, args := #[s, x], argTypes := #[t, tx] }) (hs : a.eval s = v) (h : OwnB w base v l) (i : TypeInfo) (ht : Try.prog.underlying t = some (.slice 5)) (hi : Try.prog.info? 5 = some i)
    (hz : i.zero = some (.int .u8 0)) (hsize : i.size = 1) (hby : i.bytes = 1) (xv : Value) (hx : a.eval x = xv) (m : List Int) (hsrc : Src Try.prog 1 tx xv m.length (bc m) w) (hbase : base ≤ w.heap.size)
    (hb : l.length + m.length ≤ 140737488355328)
    (hK : ∀ v' w', OwnB w' base v' (l ++ m) → w.grownBy w' v.ownBlock → (v'.ownBlock = v.ownBlock ∨ v'.ownBlock = some w.heap.size) → K (a.put (some d) v') w') :
    if Region.wanted o (yielded ops a.tmps) = true then Oper.wp Try.prog o a w K Q else E :=
  OwnB.step_append hgd s x t tx ho hs h i ht hi hz hsize hby xv hx m hsrc hbase hb (by rw [hd]; exact hK)

set_option maxRecDepth 100000 in
set_option maxHeartbeats 3200000 in
theorem qencode_yes (seq : Int) {v : Value} {l : List Rec} {w : World} (h : RdR w v l) (hF : Fam l) (hV : ∀ r ∈ l, (r.val.size : Int) ≤ 9223372036854775807) (s0 : 0 ≤ seq) (s1 : seq < 18446744073709551616) (hnb : numb seq l.length = true) (hl : l.length ≤ 4096) :
    Calls Try.prog 9 #[.int .u64 seq, v] w fun e w' => ∃ v', e = .returned (.tuple #[v', .int .i64 (encE seq l)]) ∧ OwnB w' w.heap.size v' (if encE seq l = 0 then encB seq l else []) ∧ Below w.heap.size w w' := by
  obtain ⟨a, c, rfl⟩ := h.len
  have HN := qnumb_any seq l.length w s0 s1 (by omega) (by omega)
  rw [hnb] at HN
  obtain ⟨E, hE⟩ : ∃ E, encE seq l = E := ⟨_, rfl⟩
  obtain ⟨L, hL⟩ : ∃ L, (if encE seq l = 0 then encB seq l else []) = L := ⟨_, rfl⟩
  rw [hL, hE]
  have HE : Hid (encE seq l = E) := hE
  have HLL : Hid ((if encE seq l = 0 then encB seq l else []) = L) := hL
  have HE1 : Hid (encE seq l = if fbad l ≠ 0 then fbad l else if 4194304 < 12 + szs l then 2 else 0) := by
    show _ = _
    unfold encE; rw [if_neg (by rw [hnb]; decide), if_neg (by omega)]
  clear hE hL hnb
  have hl' : (l.length : Int) ≤ 4096 := by omega
  go_enter Try.func9, Try.ntmps9
  go_wp2_with (go_at_call 31; refine HN.mono ?_; rintro e w' ⟨rfl, rfl⟩)
  go_loopw [6] (fun i wr => ∃ k : Nat, k ≤ l.length ∧ i = .int .i64 k ∧ Hid (fbad (l.drop k) = fbad l) ∧ Below w'.heap.size w' wr) (fun i _ => l.length - (intOf i).toNat)
  case atStart => exact ⟨0, Nat.zero_le _, rfl, rfl, Below.refl _ _⟩
  case round =>
    obtain ⟨k, hk, rfl, HB, hbel⟩ := hrel
    by_cases hlt : k < l.length
    · obtain ⟨b, off, cap, hv, hb, c0, c1, c2, c3⟩ := (h.below hbel).at hlt
      cases hv
      have HT := fbad_step l k hlt
      have hVk := hV _ (List.getElem_mem hlt)
      generalize l[k] = r at *
      obtain ⟨f, kd, key, val⟩ := r
      dsimp only at *
      have HC := fun w => qcheck_any f kd key val w hVk
      have HT' : Hid (fbad (l.drop k) = if chk kd key val = 0 then fbad (l.drop (k + 1)) else chk kd key val) := HT
      clear HT hVk
      generalize chk kd key val = m at *
      by_cases hm : m = 0
      · have tm : (m != 0) = false := by simpa using hm
        have HM : Hid (m = 0) := hm
        clear hm
        go_wp2_with (go_at_call 11; refine (HC _).mono ?_; rintro e w1 ⟨rfl, hb1⟩)
        go_roundw
        case rel => exact ⟨k + 1, by omega, by go_num, by show _ = _; rw [← HB.out, HT'.out, if_pos HM.out], bstep hbel hb1⟩
        case measure => simp [intOf]; omega
      · have tm : (m != 0) = true := by simpa using hm
        have HM : Hid (¬ m = 0) := hm
        clear hm
        go_wp2_with (go_at_call 11; refine (HC _).mono ?_; rintro e w1 ⟨rfl, hb1⟩)
        go_ret2
        have q : E = m := by
          rw [← HE.out, HE1.out, ← HB.out, HT'.out, if_neg HM.out, if_pos HM.out]
        subst q
        have q2 : L = [] := by rw [← HLL.out, if_neg (by rw [HE.out]; exact HM.out)]
        subst q2
        exact ⟨_, rfl, OwnB.nil _ _, bstep hbel hb1⟩
    · obtain rfl : k = l.length := by omega
      have HF : fbad l = 0 := by rw [← HB.out, List.drop_length]; rfl
      have hall := fbad_all HF
      have hfine : ∀ r ∈ l, Fine r := fun r hr => fine_of (hF r hr).1 (hF r hr).2 (hall r hr)
      have hkind : ∀ r ∈ l, 0 ≤ r.kind ∧ r.kind ≤ 2 := fun r hr => (rchk_zero (hall r hr)).2.2
      have HSZ := sizes_any (h.below hbel) (by omega) hfine
      have hsb := fine_szs hfine
      have HE2 : Hid (encE seq l = if 4194304 < 12 + szs l then 2 else 0) := by
        show _ = _
        rw [HE1.out, if_neg (by rw [HF]; decide)]
      clear HE1 HB HF hall hV
      obtain ⟨n, hn⟩ : ∃ n, 12 + szs l = n := ⟨_, rfl⟩
      rw [hn] at HSZ
      have HSN : Hid (12 + szs l = n) := hn
      have hn1 : (n : Int) ≤ 2000000000 := by omega
      clear hn hsb
      by_cases hbig : 4194304 < (n : Int)
      · go_wp2_with (go_at_call 32; refine HSZ.mono ?_; rintro e w1 ⟨rfl, hb1⟩)
        go_ret2
        have q : E = 2 := by rw [← HE.out, HE2.out, HSN.out, if_pos (by omega)]
        subst q
        have q2 : L = [] := by rw [← HLL.out, if_neg (by rw [HE.out]; decide)]
        subst q2
        exact ⟨_, rfl, OwnB.nil _ _, bstep hbel hb1⟩
      · obtain ⟨i0, hi, hz0, hz1, hz2⟩ := info_parts info5
        have HX2 : Hid ((byts 8 seq : List Int).length + (byts 4 (l.length : Int)).length ≤ 140737488355328) := by show _ ≤ _; rw [byts_len, byts_len]; decide
        have el : IntKind.u64.wrap (l.length : Int) = l.length := by rw [IntKind.wrap_u64]; omega
        go_wp2_with (first
          | (at_builtin
             refine OwnB.wpList_append rfl _ _ 24 24 rfl rfl (base := w1.heap.size) (v := v2) (l := byts 8 seq) M3 i0 Try.underlying24 hi hz0 hz1 hz2 v3 rfl (byts 4 l.length) ho3.src (by have := hb2.size; have := hb3.size; omega) HX2.out ?_
             intro v5 w5 ho5 hg5 hl5
             have B5 := (AppB.grow ho5 hg5 hl5).below B3 B3.size M3 B1.size
             have Z5 : w1.heap.size ≤ w5.heap.size := (by have := hb2.size; have := hb3.size; have := hg5.size; omega))
          | (go_at_call_of 33 (Value.int IntKind.i64 4); refine (rfixed4 l.length _ (by omega) (by omega)).mono ?_; rintro e w3 ⟨v3, rfl, ho3, hb3⟩; have M3 := ho2.below hb3 (Nat.le_refl _); have B3 := bstep B2 hb3)
          | (go_at_call_of 33 (Value.int IntKind.i64 8); refine (rfixed8 seq _ s0 s1).mono ?_; rintro e w2 ⟨v2, rfl, ho2, hb2⟩; have B2 := bstep B1 hb2)
          | (go_at_call 32; refine HSZ.mono ?_; rintro e w1 ⟨rfl, hb1⟩; have B1 := bstep hbel hb1))
        have H0 : OwnB w5 w1.heap.size v5 (byts 8 seq ++ byts 4 l.length ++ encs (l.take 0)) := by simpa [encs] using ho5
        have B1' := B1.size
        clear hg5 hl5 ho5 M3 ho3 ho2 hb2 hb3 B2 B3 B1 hb1 HSZ hbel
        go_loopw [8, 9] (fun v i wr => ∃ k : Nat, k ≤ l.length ∧ i = .int .i64 k ∧ OwnB wr w1.heap.size v (byts 8 seq ++ byts 4 l.length ++ encs (l.take k)) ∧ Below w'.heap.size w' wr ∧ w1.heap.size ≤ wr.heap.size) (fun _ i _ => l.length - (intOf i).toNat)
        case atStart => exact ⟨0, Nat.zero_le _, rfl, H0, B5, Z5⟩
        case round =>
          clear H0 B5 Z5
          obtain ⟨k, hk, rfl, ho, hb6, hz6⟩ := hrel
          by_cases hlt : k < l.length
          · obtain ⟨b, off, cap, hv, hb, c0, c1, c2, c3⟩ := (h.below hb6).at hlt
            cases hv
            have HT : encs (l.take (k + 1)) = encs (l.take k) ++ encR l[k] := by rw [List.take_succ_eq_append_getElem hlt, encs_app]; simp [encs]
            have hle : (byts 8 seq ++ byts 4 l.length ++ encs (l.take k)).length ≤ 9000000 := by
              rw [List.length_append, List.length_append, byts_len, byts_len, encs_len]
              have := szs_take_le l k
              have := HSN.out
              omega
            have HFn := hfine _ (List.getElem_mem hlt)
            have HKd := hkind _ (List.getElem_mem hlt)
            generalize l[k] = r at *
            obtain ⟨f, kd, key, val⟩ := r
            have f0 := HFn.f0
            have f1 := HFn.f1
            have fk := HFn.key
            have fv := HFn.val
            dsimp only at *
            have HT' : Hid (encs (l.take (k + 1)) = encs (l.take k) ++ encR ⟨f, kd, key, val⟩) := HT
            clear HT HFn
            generalize hX : byts 8 seq ++ byts 4 l.length ++ encs (l.take k) = X at *
            have S0 : Es w' (wr.alloc (.cells #[.int .u32 f, .int .i64 kd, .string key, .string val] 31)) w1.heap.size wr.heap.size _ X ⟨f, kd, key, val⟩ :=
              ⟨ho.alloc _, hb6.alloc hb6.size _, rnew' _ _ _ _ _, by simp, ho.ne (Nat.le_refl _), hz6, B1'⟩
            have ek : IntKind.u8.wrap kd = kd := by rw [IntKind.wrap_u8]; omega
            have ef : IntKind.u64.wrap f = f := by rw [IntKind.wrap_u64]; omega
            have es : IntKind.u64.wrap (key.size : Int) = key.size := by rw [IntKind.wrap_u64]; omega
            clear ho hb6
            have HL1 : Hid (X.length + [kd].length ≤ 140737488355328) := by show _ ≤ _; simp; omega
            have HL2 : Hid ((X ++ [kd]).length + (vL 10 f).length ≤ 140737488355328) := by show _ ≤ _; have := vs_bd f; unfold vs at this; simp; omega
            have HL3 : Hid ((X ++ [kd] ++ vL 10 f).length + (vL 10 key.size).length ≤ 140737488355328) := by show _ ≤ _; have := vs_bd f; have := vs_bd key.size; unfold vs at *; simp; omega
            have HL4 : Hid ((X ++ [kd] ++ vL 10 f ++ vL 10 key.size).length + (sb key).length ≤ 140737488355328) := by show _ ≤ _; have := vs_bd f; have := vs_bd key.size; unfold vs at *; simp [sb_len]; omega
            have HL5 : Hid (¬ kd = 0 → (X ++ [kd] ++ vL 10 f ++ vL 10 key.size ++ sb key).length + (vL 10 val.size).length ≤ 140737488355328) := by show _ → _; intro hk; have := fv hk; have := vs_bd f; have := vs_bd key.size; have := vs_bd val.size; unfold vs at *; simp [sb_len]; omega
            have HL6 : Hid (¬ kd = 0 → (X ++ [kd] ++ vL 10 f ++ vL 10 key.size ++ sb key ++ vL 10 val.size).length + (sb val).length ≤ 140737488355328) := by show _ → _; intro hk; have := fv hk; have := vs_bd f; have := vs_bd key.size; have := vs_bd val.size; unfold vs at *; simp [sb_len]; omega
            have HX : Hid (byts 8 seq ++ byts 4 l.length ++ encs (l.take k) = X) := hX
            clear hX hle
            go_wp2
            go_cut [8] from 43 to 86 (fun v wc => Es w' wc w1.heap.size wr.heap.size v (X ++ [kd] ++ vL 10 f) ⟨f, kd, key, val⟩)
            case first =>
              go_region_held_law (fun w' => w'.cell? ⟨wr.heap.size, 0, none⟩ = some (.int .u32 f) ∧ w'.cell? ⟨wr.heap.size, 1, none⟩ = some (.int .i64 kd) ∧ w'.cell? ⟨wr.heap.size, 2, none⟩ = some (.string key) ∧ w'.cell? ⟨wr.heap.size, 3, none⟩ = some (.string val))
                (first
                  | (go_keep; done)
                  | exact S3.box
                  | exact S2.box
                  | exact S1.box)
                (first
                  | (refine OwnB.step_append_d (by rfl) (by rfl) _ _ _ _ (by rfl) (by rfl) (base := w1.heap.size) (v := v1) (l := X ++ [kd]) S2.own i0 Try.underlying24 hi hz0 hz1 hz2 v4 (by rfl) (vL 10 f) ho4.src (by have := S2.bs; have := S2.lt; omega) HL2.out ?_; intro v6 w6 ho6 hg6 hl6; have S3 := S2.grow ho6 hg6 hl6)
                  | (go_at_call 34; refine (rvarint_any f _ (by omega) (by omega)).mono ?_; rintro e w4 ⟨v4, rfl, ho4, hb4⟩; have S2 := S1.step hb4)
                  | (refine OwnB.step_append_d (by rfl) (by rfl) _ _ _ _ (by rfl) (by rfl) (base := w1.heap.size) (l := X) (S0.alloc _).drew.own i0 Try.underlying24 hi hz0 hz1 hz2 _ (by rfl) [kd] (src_one_d _ _ (by simp) _) (by simp; omega) HL1.out ?_; intro v1 w2' ho1 hg1 hl1; have S1 := (S0.alloc _).drew.grow ho1 hg1 hl1))
              go_wp2
              go_meet
              case rel => exact S3
            case rest =>
              clear S0
              have T0 := hcut
              clear hcut
              obtain ⟨c0, c1, c2, c3⟩ := T0.box
              have lt0 := T0.lt
              dsimp only at c0 c1 c2 c3
              go_wp2
              go_cut [8] from 43 to 86 (fun v wc => Es w' wc w1.heap.size wr.heap.size v (X ++ [kd] ++ vL 10 f ++ vL 10 key.size ++ sb key) ⟨f, kd, key, val⟩)
              case first =>
                go_region_held_law (fun w' => w'.cell? ⟨wr.heap.size, 0, none⟩ = some (.int .u32 f) ∧ w'.cell? ⟨wr.heap.size, 1, none⟩ = some (.int .i64 kd) ∧ w'.cell? ⟨wr.heap.size, 2, none⟩ = some (.string key) ∧ w'.cell? ⟨wr.heap.size, 3, none⟩ = some (.string val))
                  (first
                    | (go_keep; done)
                    | exact T3.box
                    | exact T2.box
                    | exact T1.box)
                  (first
                    | (refine OwnB.step_append_d (by rfl) (by rfl) _ _ _ _ (by rfl) (by rfl) (base := w1.heap.size) (v := v6) (l := X ++ [kd] ++ vL 10 f ++ vL 10 key.size) T2.own i0 Try.underlying24 hi hz0 hz1 hz2 _ (by rfl) (sb key) (src_str _ key) (by have := T2.bs; have := T2.lt; omega) HL4.out ?_; intro v7 w7 ho7 hg7 hl7; have T3 := T2.grow ho7 hg7 hl7)
                    | (refine OwnB.step_append_d (by rfl) (by rfl) _ _ _ _ (by rfl) (by rfl) (base := w1.heap.size) (l := X ++ [kd] ++ vL 10 f) T1.own i0 Try.underlying24 hi hz0 hz1 hz2 v4 (by rfl) (vL 10 key.size) ho4.src (by have := T1.bs; have := T1.lt; omega) HL3.out ?_; intro v6 w6 ho6 hg6 hl6; have T2 := T1.grow ho6 hg6 hl6)
                    | (go_at_call 34; refine (rvarint_any key.size _ (by omega) (by omega)).mono ?_; rintro e w4 ⟨v4, rfl, ho4, hb4⟩; have T1 := T0.drew.step hb4))
                go_wp2
                go_meet
                case rel => exact T3
              case rest =>
                clear T0 c0 c1 c2 c3 lt0
                have U0 := hcut
                clear hcut
                obtain ⟨c0, c1, c2, c3⟩ := U0.box
                have lt0 := U0.lt
                dsimp only at c0 c1 c2 c3
                by_cases hkd : kd = 0
                · have tk : (kd != 0) = false := by simpa using hkd
                  have HQ : Hid (byts 8 seq ++ byts 4 l.length ++ encs (l.take (k + 1)) = X ++ [kd] ++ vL 10 f ++ vL 10 key.size ++ sb key) := by show _ = _; rw [HT'.out, ← List.append_assoc, HX.out]; simp [encR, txt, hkd]
                  clear hkd
                  go_wp2
                  go_roundw
                  case rel => exact ⟨k + 1, by omega, by go_num, by rw [HQ.out]; exact U0.own, U0.bel, by have := U0.bs; have := U0.lt; omega⟩
                  case measure => simp [intOf]; omega
                · have tk : (kd != 0) = true := by simpa using hkd
                  have HQ : Hid (byts 8 seq ++ byts 4 l.length ++ encs (l.take (k + 1)) = X ++ [kd] ++ vL 10 f ++ vL 10 key.size ++ sb key ++ vL 10 val.size ++ sb val) := by show _ = _; rw [HT'.out, ← List.append_assoc, HX.out]; simp [encR, txt, hkd]
                  have fv1 := fv hkd
                  have HL5' := HL5.out hkd
                  have HL6' := HL6.out hkd
                  have HL7 : Hid ((X ++ [kd] ++ vL 10 f ++ vL 10 key.size ++ sb key).length + (vL 10 val.size).length ≤ 140737488355328) := HL5'
                  have HL8 : Hid ((X ++ [kd] ++ vL 10 f ++ vL 10 key.size ++ sb key ++ vL 10 val.size).length + (sb val).length ≤ 140737488355328) := HL6'
                  have ev : IntKind.u64.wrap (val.size : Int) = val.size := by rw [IntKind.wrap_u64]; omega
                  clear hkd HL5' HL6' HL5 HL6 fv
                  go_wp2
                  go_region_held_law (fun w' => w'.cell? ⟨wr.heap.size, 0, none⟩ = some (.int .u32 f) ∧ w'.cell? ⟨wr.heap.size, 1, none⟩ = some (.int .i64 kd) ∧ w'.cell? ⟨wr.heap.size, 2, none⟩ = some (.string key) ∧ w'.cell? ⟨wr.heap.size, 3, none⟩ = some (.string val))
                    (first
                      | (go_keep; done)
                      | exact U3.box
                      | exact U2.box
                      | exact U1.box)
                    (first
                      | (refine OwnB.step_append_d (by rfl) (by rfl) _ _ _ _ (by rfl) (by rfl) (base := w1.heap.size) (v := v6) (l := X ++ [kd] ++ vL 10 f ++ vL 10 key.size ++ sb key ++ vL 10 val.size) U2.own i0 Try.underlying24 hi hz0 hz1 hz2 _ (by rfl) (sb val) (src_str _ val) (by have := U2.bs; have := U2.lt; omega) HL8.out ?_; intro v7 w7 ho7 hg7 hl7; have U3 := U2.grow ho7 hg7 hl7)
                      | (refine OwnB.step_append_d (by rfl) (by rfl) _ _ _ _ (by rfl) (by rfl) (base := w1.heap.size) (l := X ++ [kd] ++ vL 10 f ++ vL 10 key.size ++ sb key) U1.own i0 Try.underlying24 hi hz0 hz1 hz2 v4 (by rfl) (vL 10 val.size) ho4.src (by have := U1.bs; have := U1.lt; omega) HL7.out ?_; intro v6 w6 ho6 hg6 hl6; have U2 := U1.grow ho6 hg6 hl6)
                      | (go_at_call 34; refine (rvarint_any val.size _ (by omega) (by omega)).mono ?_; rintro e w4 ⟨v4, rfl, ho4, hb4⟩; have U1 := U0.drew.step hb4))
                  go_wp2
                  go_roundw
                  case rel => exact ⟨k + 1, by omega, by go_num, by rw [HQ.out]; exact U3.own, U3.bel, by have := U3.bs; have := U3.lt; omega⟩
                  case measure => simp [intOf]; omega
          · obtain rfl : k = l.length := by omega
            go_wp2
            go_ret2
            have q : E = 0 := by rw [← HE.out, HE2.out, HSN.out, if_neg (by omega)]
            subst q
            have q2 : L = byts 8 seq ++ byts 4 l.length ++ encs (l.take l.length) := by rw [← HLL.out, if_pos HE.out, List.take_length]; rfl
            subst q2
            exact ⟨_, rfl, ho.mono B1', hb6⟩
end Go.Proofs.Ytkpijoogaicodaa
