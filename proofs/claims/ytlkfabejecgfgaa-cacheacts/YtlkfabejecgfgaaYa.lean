/-
  How many are in: the count is a sum.
  The reference's Sums.
  The three sums of the reference are those of the shards; the count and the keys' lengths are kept by all calls.
  The program's cache and the reference's, side by side.
-/
import Derived.Test.YtlkfabejecgfgaaRq
import Derived.Test.YtlkfabejecgfgaaRj
import Derived.Deep.LoopGhost
import Derived.Test.YtlkfabejecgfgaaFi
import Derived.Test.YtlkfabejecgfgaaPb
import Derived.Test.YtlkfabejecgfgaaRn
import Derived.Test.YtlkfabejecgfgaaRs
import Derived.Test.YtlkfabejecgfgaaRt
import Derived.Test.YtlkfabejecgfgaaRk
import Derived.Test.YtlkfabejecgfgaaGk
import Derived.Test.YtlkfabejecgfgaaGb
namespace Go.Proofs.Ytlkfabejecgfgaa
set_option linter.unusedVariables false
set_option linter.unusedSimpArgs false
def gC (x : Xs) (j : Nat) : Nat := if x.f (x.at j).key.data.toList = some j then 1 else 0
def Cn (x : Xs) : Prop := x.cnt = sumN x.ent.length (gC x)
section
variable {x : Xs} {j : Nat} {e : En}
theorem Cn.take (h : Cn x) (I : Iv x) (hj : x.ent[j]? = some e) (hf : x.f e.key.data.toList = some j) : Cn (takeX x j) := by
  have hjl := (List.getElem?_eq_some_iff.1 hj).1
  have hc : (takeX x j).cnt = x.cnt - 1 := by unfold takeX; simp only [xat hj, hf]; rfl
  have hn : (takeX x j).f e.key.data.toList = none := by unfold takeX; simp only [xat hj]; simp [fput]
  have h1 := sumN_one (n := x.ent.length) (j := j) (g := gC x) (g' := gC (takeX x j)) hjl (fun i hi hne => by
    unfold gC
    rw [at_take]
    have : ((takeX x j).f (x.at i).key.data.toList = some i) ↔ (x.f (x.at i).key.data.toList = some i) := by
      unfold takeX; simp only [xat hj]
      unfold fput
      split
      · rename_i hk
        rw [hk, hf]
        simp only [Option.some.injEq]
        constructor
        · intro hh; cases hh
        · intro hh; exact absurd hh.symm hne
      · exact Iff.rfl
    simp only [this])
  have h2 : gC x j = 1 := by unfold gC; rw [xat hj, hf]; simp
  have h3 : gC (takeX x j) j = 0 := by unfold gC; rw [at_take, xat hj, hn]; simp
  unfold Cn at *
  show (takeX x j).cnt = sumN x.ent.length (gC (takeX x j))
  omega
theorem Cn.room (c r : Nat) : ∀ (n : Nat) (x : Xs), Iv x → Cn x → Cn (roomX c r n x)
  | 0, x, _, h => h
  | n + 1, x, I, h => by
    unfold roomX
    cases hq : x.q with
    | nil => exact h
    | cons j t =>
      simp only []
      split
      · obtain ⟨e, h1, h2, h3⟩ := I.head (j := j) (by rw [hq]; exact List.mem_cons_self)
        exact Cn.room c r n _ (I.take h1 h3) (h.take I h1 h3)
      · exact h
theorem Cn.same {y : Xs} (h : Cn x) (hl : y.ent.length = x.ent.length) (hk : ∀ i, i < x.ent.length → (y.at i).key = (x.at i).key) (hf : y.f = x.f) (hc : y.cnt = x.cnt) : Cn y := by
  unfold Cn at *
  rw [hc, h, hl]
  refine sumN_congr (fun i hi => ?_)
  unfold gC
  rw [hk i hi, hf]
theorem Cn.put (h : Cn x) (I : Iv x) (k : ByteArray) (v : Value) (c : Nat) : Cn (putX x k v c) := by
  obtain ⟨y, hy⟩ : ∃ y, y = (match x.f k.data.toList with | some j => takeX x j | none => x) := ⟨_, rfl⟩
  obtain ⟨p1, p2, p3, p4⟩ := put_parts I k v c hy
  have hcy : Cn y ∧ y.ent = x.ent := by
    cases hf : x.f k.data.toList with
    | none => rw [hf] at hy; simp only [] at hy; subst hy; exact ⟨h, rfl⟩
    | some j =>
      rw [hf] at hy; simp only [] at hy; subst hy
      obtain ⟨e, h1, h2, _⟩ := I.old hf
      exact ⟨h.take I h1 (by rw [h2]; exact hf), rfl⟩
  have hct : (putX x k v c).cnt = y.cnt + 1 := by
    have hn' : (addE x ⟨k, v, c, 0⟩).ent[x.ent.length]? = some ⟨k, v, c, 0⟩ := by unfold addE; simp
    cases hf : x.f k.data.toList with
    | none =>
      rw [hf] at hy; simp only [] at hy; subst hy
      rw [putX_eq]; unfold put1; rw [xat hn']; simp only []
      have : (addE y ⟨k, v, c, 0⟩).f k.data.toList = none := hf
      rw [this]; rfl
    | some j =>
      rw [hf] at hy; simp only [] at hy; subst hy
      obtain ⟨e, h1, h2, _⟩ := I.old hf
      have hat : (addE x ⟨k, v, c, 0⟩).at j = e := xat (get_app h1)
      rw [putX_eq]; unfold put1; rw [xat hn']; simp only []
      have hf' : (addE x ⟨k, v, c, 0⟩).f k.data.toList = some j := hf
      rw [hf']
      simp only []
      unfold takeX
      simp only [hat, xat h1]
      rfl
  have hatl : ∀ i, i < y.ent.length → (putX x k v c).at i = y.at i := fun i hi => at_lt (by rw [p2, List.getElem?_append_left hi])
  have hatn : (putX x k v c).at y.ent.length = ⟨k, v, c, 1⟩ := xat (by rw [p2]; simp)
  have hl : (putX x k v c).ent.length = y.ent.length + 1 := by rw [p2]; simp
  have h0 := hcy.1
  unfold Cn at *
  rw [hct, hl, sumN_succ, h0]
  congr 1
  · refine sumN_congr (fun i hi => ?_)
    unfold gC
    rw [hatl i hi, p3]
    have hiff : (fput y.f k.data.toList (some y.ent.length) (y.at i).key.data.toList = some i) ↔ (y.f (y.at i).key.data.toList = some i) := by
      unfold fput
      split
      · rename_i hk
        rw [hk, p1]
        simp only [Option.some.injEq]
        constructor
        · intro hh; omega
        · intro hh; cases hh
      · exact Iff.rfl
    simp only [hiff]
  · unfold gC
    rw [hatn, p3]; simp [fput]
theorem Cn.pin (h : Cn x) (hj : x.ent[j]? = some e) : Cn (pinX x j) := by
  have he : (pinX x j).ent = x.ent.set j { e with pins := e.pins + 1 } := by unfold pinX; simp only [xat hj]
  refine h.same (by rw [he]; simp) (fun i hi => ?_) rfl rfl
  rw [at_set hj _ (pinX x j) he i]
  split
  · rename_i c; subst c; rw [xat hj]
  · rfl
theorem Cn.unpin (h : Cn x) (I : Iv x) (hj : x.ent[j]? = some e) (hp : 0 < e.pins) (r : Nat) : Cn (unpinX x j r) := by
  have M : ∀ y : Xs, y.ent = x.ent.set j { e with pins := e.pins - 1 } → y.f = x.f → y.cnt = x.cnt → Cn y := by
    intro y hy hyf hc
    refine h.same (by rw [hy]; simp) (fun i hi => ?_) hyf hc
    rw [at_set hj _ y hy i]
    split
    · rename_i c; subst c; rw [xat hj]
    · rfl
  rcases unpinX_ways hj r with ⟨w1, w2⟩ | ⟨w1, w2, w3⟩ | ⟨w1, w2, w3⟩
  · rw [w2]; exact M _ rfl rfl rfl
  · rw [w3]; exact Cn.room 0 r _ _ (I.wait hj (by omega) w2 _) (M _ rfl rfl rfl)
  · rw [w3]; exact M _ rfl rfl rfl
theorem cn0 : Cn ⟨[], fun _ => none, 0, [], 0, 0⟩ := rfl
end
end Go.Proofs.Ytlkfabejecgfgaa
namespace Go.Proofs.Ytlkfabejecgfgaa
open Go.RowKit Go.Maps
set_option linter.unusedVariables false
set_option linter.unusedSimpArgs false
/-- Three sums. -/
structure T3 where
  u : Nat
  p : Nat
  c : Nat
def T3.step (t : T3) (e : En) (b : Bool) : T3 := ⟨plusT t.u e.chg, if 0 < e.pins then plusT t.p e.chg else t.p, if b then t.c + 1 else t.c⟩
def shS (v : Vw) (t : T3) (l : List Nat) : T3 := l.foldl (fun t j => t.step (v.at j) (v.inn j)) t
def toS (vs : List Vw) : T3 := vs.foldl (fun t v => shS v t v.ll) ⟨0, 0, 0⟩
theorem shS_snoc (v : Vw) (t : T3) (l : List Nat) (j : Nat) : shS v t (l ++ [j]) = (shS v t l).step (v.at j) (v.inn j) := by unfold shS; simp
theorem shS_bd (v : Vw) (t : T3) (h1 : t.u < 18446744073709551616) (h2 : t.p < 18446744073709551616) : ∀ (n : Nat) (l : List Nat), l.length = n → (shS v t l).u < 18446744073709551616 ∧ (shS v t l).p < 18446744073709551616 ∧ (shS v t l).c ≤ t.c + n := by
  intro n
  induction n with
  | zero => intro l hl; obtain rfl := List.eq_nil_of_length_eq_zero hl; exact ⟨h1, h2, Nat.le_refl _⟩
  | succ n ih =>
    intro l hl
    rcases List.eq_nil_or_concat l with rfl | ⟨r, x, rfl⟩
    · simp at hl
    · rw [List.concat_eq_append] at hl ⊢
      obtain ⟨a, b, c⟩ := ih r (by simpa using hl)
      rw [shS_snoc]
      unfold T3.step
      refine ⟨plusT_lt _ _, ?_, ?_⟩
      · simp only []; split
        · exact plusT_lt _ _
        · exact b
      · simp only []; split <;> omega
theorem toS_snoc (vs : List Vw) (v : Vw) : toS (vs ++ [v]) = shS v (toS vs) v.ll := by unfold toS; simp
theorem toS_bd : ∀ (n : Nat) (vs : List Vw), vs.length = n → (∀ v ∈ vs, v.ll.length ≤ 4000000000000) → (toS vs).u < 18446744073709551616 ∧ (toS vs).p < 18446744073709551616 ∧ (toS vs).c ≤ n * 4000000000000 := by
  intro n
  induction n with
  | zero => intro l hl _; obtain rfl := List.eq_nil_of_length_eq_zero hl; exact ⟨by decide, by decide, by decide⟩
  | succ n ih =>
    intro l hl hv
    rcases List.eq_nil_or_concat l with rfl | ⟨r, x, rfl⟩
    · simp at hl
    · rw [List.concat_eq_append] at hl hv ⊢
      obtain ⟨a, b, c⟩ := ih r (by simpa using hl) (fun v hh => hv v (List.mem_append_left _ hh))
      rw [toS_snoc]
      obtain ⟨a', b', c'⟩ := shS_bd x (toS r) a b _ x.ll rfl
      have := hv x (by simp)
      exact ⟨a', b', by omega⟩
section
variable {w : World} {R : Lr} {n room : Nat} {st : Bool} {vs : List Vw} {pv : Value} {P : List (Option (Nat × Nat))}
set_option maxRecDepth 100000 in
set_option maxHeartbeats 8000000 in
theorem sums_any (h : Rf w R n room st vs pv P) (hn : n ≤ 64) (hll : ∀ v ∈ vs, v.ll.length ≤ 4000000000000) (hc : ∀ (i : Nat) (v : Vw) (j : Nat) (e : En), vs[i]? = some v → v.ent[j]? = some e → e.chg < 18446744073709551616) :
    Calls Try.prog 36 #[.pointer (some ⟨R.cb, 0, none⟩)] w fun e w' => e = .returned (.tuple #[.int .u64 (toS vs).u, .int .u64 (toS vs).p, .int .i64 (toS vs).c]) ∧ w' = w := by
  have hlen := h.len
  have c0 := h.blk.cell1 0 _ rfl
  have c3 := h.blk.cell1 3 _ rfl
  have hall : Hid (toS vs = toS (vs.take n)) := by show toS vs = _; rw [← hlen, List.take_length]
  obtain ⟨lc, hB, hl, hlc⟩ := h.lr.ex
  go_enter Try.func36, Try.ntmps36
  go_wp2_with fail
  go_loopw [5, 6, 7, 8] (fun uu pp cc ii wr => ∃ m : Nat, ii = .int .i64 m ∧ uu = .int .u64 (toS (vs.take m)).u ∧ pp = .int .u64 (toS (vs.take m)).p ∧ cc = .int .i64 (toS (vs.take m)).c ∧ m ≤ n ∧ wr = w) (fun uu pp cc ii wr => match ii with | .int _ z => n - z.toNat | _ => 0)
  case atStart => exact ⟨0, rfl, rfl, rfl, rfl, Nat.zero_le _, rfl⟩
  case round =>
    obtain ⟨m, rfl, rfl, rfl, rfl, hm, hwr⟩ := hrel
    subst hwr
    by_cases hlt : m < n
    · have hlt' : (m : Int) < n := by omega
      obtain ⟨v, hv⟩ : ∃ v, vs[m]? = some v := ⟨_, List.getElem?_eq_getElem (by omega)⟩
      obtain ⟨u, hu, hR, _⟩ := hlc m hlt
      rw [vws_get hv] at hR
      obtain ⟨a, c, hua⟩ := rowq_len hR
      have hbl : (bds R m v.ll).length = v.ll.length := by unfold bds; simp
      rw [hbl] at hua
      subst hua
      have ci := hB.cell1 m _ hu
      have hvl := hll v (List.mem_of_getElem? hv)
      obtain ⟨b1, b2, b3⟩ := toS_bd m (vs.take m) (by simp; omega) (fun v hh => hll v (List.mem_of_mem_take hh))
      have e1 : Hid (toS (vs.take (m + 1)) = shS v (toS (vs.take m)) v.ll) := by
        show toS (vs.take (m + 1)) = _
        rw [List.take_add_one, hv]; exact toS_snoc _ _
      have hall2 : Hid (shS v (toS (vs.take m)) v.ll = shS v (toS (vs.take m)) (v.ll.take v.ll.length)) := by show _ = _; rw [List.take_length]
      obtain ⟨N, hN⟩ : ∃ N, v.ll.length = N := ⟨_, rfl⟩
      rw [hN] at ci hall2 hvl
      obtain ⟨T, hT⟩ : ∃ T, toS (vs.take m) = T := ⟨_, rfl⟩
      rw [hT] at e1 hall2 b1 b2 b3
      rw [hT]
      clear hT
      go_wp2_with fail
      go_loopw [5, 6, 7, 9] (fun uu pp cc ii wr' => ∃ b : Nat, ii = .int .i64 b ∧ uu = .int .u64 (shS v T (v.ll.take b)).u ∧ pp = .int .u64 (shS v T (v.ll.take b)).p ∧ cc = .int .i64 (shS v T (v.ll.take b)).c ∧ b ≤ N ∧ wr' = wr) (fun uu pp cc ii wr' => match ii with | .int _ z => N - z.toNat | _ => 0)
      case atStart => exact ⟨0, rfl, rfl, rfl, rfl, Nat.zero_le _, rfl⟩
      case round =>
        obtain ⟨b, rfl, rfl, rfl, rfl, hb, hwr⟩ := hrel
        subst hwr
        obtain ⟨d1, d2, d3⟩ := shS_bd v T b1 b2 b (v.ll.take b) (by simp; omega)
        by_cases hlt2 : b < N
        · have hlt2' : (b : Int) < N := by omega
          obtain ⟨j, hj⟩ : ∃ j, v.ll[b]? = some j := ⟨_, List.getElem?_eq_getElem (by omega)⟩
          have hjl := (h.llr m v hv).1 j (List.mem_of_getElem? hj)
          obtain ⟨e, he⟩ : ∃ e, v.ent[j]? = some e := ⟨_, List.getElem?_eq_getElem hjl⟩
          obtain ⟨g, hg, cg⟩ := rowq_cell hR (j := b) (o := some (R.bd m j)) (by unfold bds; rw [List.getElem?_map, hj]; rfl)
          subst hg
          have I := h.it m v j e hv he
          have k2 := I.cell1 2 _ rfl
          have k3 := I.cell1 3 _ rfl
          have k4 := I.cell1 4 _ rfl
          have e2 : Hid (shS v T (v.ll.take (b + 1)) = (shS v T (v.ll.take b)).step e (v.inn j)) := by
            show shS v T (v.ll.take (b + 1)) = _
            rw [List.take_add_one, hj]
            have := shS_snoc v T (v.ll.take b) j
            rw [vw_at he] at this; exact this
          obtain ⟨Z, hZ⟩ : ∃ Z, shS v T (v.ll.take b) = Z := ⟨_, rfl⟩
          rw [hZ] at e2 d1 d2 d3
          rw [hZ]
          clear hZ
          have H1 := fun W => rplus_any W Z.u e.chg d1 (hc m v j e hv he)
          have H2 := fun W => rplus_any W Z.p e.chg d2 (hc m v j e hv he)
          clear hall e1 hall2 I
          by_cases hp : 0 < e.pins
          · have hp' : (0 : Int) < (e.pins : Nat) := by omega
            cases hin : v.inn j with
            | true =>
              have hs : shS v T (v.ll.take (b + 1)) = ⟨plusT Z.u e.chg, plusT Z.p e.chg, Z.c + 1⟩ := by
                rw [e2.out]
                unfold T3.step
                rw [if_pos hp, hin]
                rfl
              have hs' : Hid _ := hs
              clear hs e2
              rw [hin] at k3
              clear hc hll hR hlc hB hu hv hj hjl he c0 hlen h hbl hp hin b1 b2
              generalize plusT Z.u e.chg = A at *
              generalize plusT Z.p e.chg = B at *
              obtain ⟨zu, zp, zc⟩ := Z
              simp only [] at H1 H2 d1 d2 d3 hs' ⊢
              generalize e.chg = ec at *
              have hzc : zc < 300000000000000 := by omega
              clear b3 d3
              go_wp2_with (first | (go_at_call_of 57 (Value.int .u64 (zu : Int)); refine (H1 _).mono ?_; rintro e' w1 ⟨rfl, hw⟩; have hw' := hw.symm; subst hw') | (go_at_call_of 57 (Value.int .u64 (zp : Int)); refine (H2 _).mono ?_; rintro e' w1 ⟨rfl, hw⟩; have hw' := hw.symm; subst hw'))
              go_roundw
              case rel => exact ⟨b + 1, by go_num, by rw [hs'.out], by rw [hs'.out], by rw [hs'.out]; (try go_num), hlt2, by trivial⟩
              case measure => simp only []; omega
            | false =>
              have hs : shS v T (v.ll.take (b + 1)) = ⟨plusT Z.u e.chg, plusT Z.p e.chg, Z.c⟩ := by
                rw [e2.out]
                unfold T3.step
                rw [if_pos hp, hin]
                rfl
              have hs' : Hid _ := hs
              clear hs e2
              rw [hin] at k3
              clear hc hll hR hlc hB hu hv hj hjl he c0 hlen h hbl hp hin b1 b2
              generalize plusT Z.u e.chg = A at *
              generalize plusT Z.p e.chg = B at *
              obtain ⟨zu, zp, zc⟩ := Z
              simp only [] at H1 H2 d1 d2 d3 hs' ⊢
              generalize e.chg = ec at *
              go_wp2_with (first | (go_at_call_of 57 (Value.int .u64 (zu : Int)); refine (H1 _).mono ?_; rintro e' w1 ⟨rfl, hw⟩; have hw' := hw.symm; subst hw') | (go_at_call_of 57 (Value.int .u64 (zp : Int)); refine (H2 _).mono ?_; rintro e' w1 ⟨rfl, hw⟩; have hw' := hw.symm; subst hw'))
              go_roundw
              case rel => exact ⟨b + 1, by go_num, by rw [hs'.out], by rw [hs'.out], by rw [hs'.out]; (try go_num), hlt2, by trivial⟩
              case measure => simp only []; omega
          · have hp' : ¬ (0 : Int) < (e.pins : Nat) := by omega
            cases hin : v.inn j with
            | true =>
              have hs : shS v T (v.ll.take (b + 1)) = ⟨plusT Z.u e.chg, Z.p, Z.c + 1⟩ := by
                rw [e2.out]
                unfold T3.step
                rw [if_neg hp, hin]
                rfl
              have hs' : Hid _ := hs
              clear hs e2
              rw [hin] at k3
              clear hc hll hR hlc hB hu hv hj hjl he c0 hlen h hbl hp hin b1 b2
              generalize plusT Z.u e.chg = A at *
              obtain ⟨zu, zp, zc⟩ := Z
              simp only [] at H1 H2 d1 d2 d3 hs' ⊢
              generalize e.chg = ec at *
              clear H2 d2
              have hzc : zc < 300000000000000 := by omega
              clear b3 d3
              go_wp2_with ((go_at_call 57; refine (H1 _).mono ?_; rintro e' w1 ⟨rfl, hw⟩; have hw' := hw.symm; subst hw'))
              go_roundw
              case rel => exact ⟨b + 1, by go_num, by rw [hs'.out], by rw [hs'.out], by rw [hs'.out]; (try go_num), hlt2, by trivial⟩
              case measure => simp only []; omega
            | false =>
              have hs : shS v T (v.ll.take (b + 1)) = ⟨plusT Z.u e.chg, Z.p, Z.c⟩ := by
                rw [e2.out]
                unfold T3.step
                rw [if_neg hp, hin]
                rfl
              have hs' : Hid _ := hs
              clear hs e2
              rw [hin] at k3
              clear hc hll hR hlc hB hu hv hj hjl he c0 hlen h hbl hp hin b1 b2
              generalize plusT Z.u e.chg = A at *
              obtain ⟨zu, zp, zc⟩ := Z
              simp only [] at H1 H2 d1 d2 d3 hs' ⊢
              generalize e.chg = ec at *
              clear H2 d2
              go_wp2_with ((go_at_call 57; refine (H1 _).mono ?_; rintro e' w1 ⟨rfl, hw⟩; have hw' := hw.symm; subst hw'))
              go_roundw
              case rel => exact ⟨b + 1, by go_num, by rw [hs'.out], by rw [hs'.out], by rw [hs'.out]; (try go_num), hlt2, by trivial⟩
              case measure => simp only []; omega
        · have hlt2' : (b : Int) = N := by omega
          obtain rfl : b = N := by omega
          have e3 : Hid (toS (vs.take (m + 1)) = shS v T (v.ll.take b)) := by show toS (vs.take (m + 1)) = _; rw [e1.out, hall2.out]
          obtain ⟨Z, hZ⟩ : ∃ Z, shS v T (v.ll.take b) = Z := ⟨_, rfl⟩
          rw [hZ] at e3 d1 d2 d3
          rw [hZ]
          clear hZ e1 hall2 hall
          go_wp2_with fail
          go_roundw
          case rel => exact ⟨m + 1, by go_num, by rw [e3.out], by rw [e3.out], by rw [e3.out], hlt, by trivial⟩
          case measure => simp only []; omega
    · have hlt' : (m : Int) = n := by omega
      obtain rfl : m = n := by omega
      obtain ⟨Z, hZ⟩ : ∃ Z, toS (vs.take m) = Z := ⟨_, rfl⟩
      rw [hZ] at hall ⊢
      clear hZ
      go_wp2_with fail
      refine bodyPost_ret (v := .tuple #[.int .u64 Z.u, .int .u64 Z.p, .int .i64 Z.c]) (by simp [results, Try.results36, go_sem]) rfl ⟨by rw [hall.out], rfl⟩
end
end Go.Proofs.Ytlkfabejecgfgaa
namespace Go.Proofs.Ytlkfabejecgfgaa
set_option linter.unusedVariables false
set_option linter.unusedSimpArgs false
def Kz (x : Xs) : Prop := ∀ (j : Nat) (e : En), x.ent[j]? = some e → e.key.size ≤ 1024 ∧ ∃ z : Int, e.val = .int .u64 z
/-- What is kept beside. -/
def Cw (s : Cs) : Prop := ∀ (i : Nat) (x : Xs), s.xs[i]? = some x → Cn x ∧ Kz x
section
variable {s : Cs}
theorem Cw.setx (h : Cw s) {i : Nat} {x x' : Xs} {P' : List (Option (Nat × Nat))} (hi : s.xs[i]? = some x) (h1 : Cn x') (h2 : Kz x') : Cw { s with xs := s.xs.set i x', P := P' } := by
  intro a y hy
  simp only [xget hi] at hy
  split at hy
  · cases hy; exact ⟨h1, h2⟩
  · exact h a y hy
theorem Kz.same {x x' : Xs} (h : Kz x) (he : x'.ent = x.ent) : Kz x' := fun j e hj => h j e (by rw [← he]; exact hj)
theorem Kz.set {x x' : Xs} (h : Kz x) {j : Nat} {e e' : En} (hj : x.ent[j]? = some e) (hk : e'.key = e.key) (hv : e'.val = e.val) (he : x'.ent = x.ent.set j e') : Kz x' := by
  intro a b hb
  rw [he, set_get hj] at hb
  split at hb
  · cases hb; rw [hk, hv]; exact h j e hj
  · exact h a b hb
theorem Cw.drop (h : Cw s) (c : Ci s) (k : List UInt8) : Cw (dropC s k).2 := by
  unfold dropC
  have hi := c.ix k
  cases hf : (s.x (s.ix k)).f k with
  | none => exact h
  | some j =>
    obtain ⟨e, h1, h2, _⟩ := (c.iv _ _ hi).old hf
    exact h.setx (P' := s.P) hi ((h _ _ hi).1.take (c.iv _ _ hi) h1 (by rw [h2]; exact hf)) ((h _ _ hi).2.same rfl)
theorem Cw.getc (h : Cw s) (c : Ci s) (k : List UInt8) : Cw (getC s k).2.2.2 := by
  unfold getC
  have hi := c.ix k
  cases hf : (s.x (s.ix k)).f k with
  | none => exact h
  | some j =>
    obtain ⟨e, h1, h2, _⟩ := (c.iv _ _ hi).old hf
    obtain ⟨I, he⟩ := (c.iv _ _ hi).pin h1 (by rw [h2]; exact hf)
    exact h.setx (P' := s.P ++ [some (s.ix k, j)]) hi ((h _ _ hi).1.pin h1) (Kz.set (h _ _ hi).2 h1 (e' := { e with pins := e.pins + 1 }) rfl rfl he)
theorem Cw.putc (h : Cw s) (c : Ci s) (k : ByteArray) (z : Int) (ch : Nat) : Cw (putC s k (.int .u64 z) ch).2.2 := by
  unfold putC
  split
  · exact h
  · rename_i hk
    have hi := c.ix k.data.toList
    obtain ⟨I1, he1⟩ := Iv.room ch s.r (s.x (s.ix k.data.toList)).q.length _ (c.iv _ _ hi)
    have C1 := Cn.room ch s.r (s.x (s.ix k.data.toList)).q.length _ (c.iv _ _ hi) (h _ _ hi).1
    have hX : roomX ch s.r (s.x (s.ix k.data.toList)).q.length (s.x (s.ix k.data.toList)) = s.rm (s.ix k.data.toList) ch := rfl
    rw [hX] at I1 he1 C1
    have K1 : Kz (s.rm (s.ix k.data.toList) ch) := (h _ _ hi).2.same he1
    split
    · exact h.setx (P' := s.P) hi C1 K1
    · obtain ⟨I2, he2⟩ := I1.put k (.int .u64 z) ch
      refine h.setx (P' := s.P ++ [some (s.ix k.data.toList, (s.rm (s.ix k.data.toList) ch).ent.length)]) hi (C1.put I1 k (.int .u64 z) ch) ?_
      intro j e hj
      rw [he2] at hj
      by_cases cj : j < (s.rm (s.ix k.data.toList) ch).ent.length
      · rw [List.getElem?_append_left cj] at hj
        exact K1 j e hj
      · have e1 : j = (s.rm (s.ix k.data.toList) ch).ent.length := by
          have := (List.getElem?_eq_some_iff.1 hj).1
          simp at this; omega
        subst e1
        simp at hj
        subst hj
        exact ⟨Nat.le_of_not_lt hk, z, rfl⟩
theorem Cw.freec (h : Cw s) (c : Ci s) (p : Int) : Cw (freeC s p).2 := by
  unfold freeC
  cases hp : s.pin p with
  | none => exact h
  | some ij =>
    obtain ⟨i, j⟩ := ij
    obtain ⟨hp1, hpl, hpg⟩ := pin_I64 hp
    obtain ⟨x, hx, hj⟩ := c.pr i j (List.mem_of_getElem? hpg)
    have exi : s.x i = x := xs_get hx
    simp only [exi]
    obtain ⟨e, he⟩ : ∃ e, x.ent[j]? = some e := ⟨_, List.getElem?_eq_getElem hj⟩
    have hpc := c.pc i x j e hx he
    have hpos : 0 < e.pins := by rw [hpc]; exact List.count_pos_iff.2 (List.mem_of_getElem? hpg)
    obtain ⟨I, hE⟩ := (c.iv i x hx).unpin he hpos s.r
    exact h.setx (P' := s.P.set (p - 1).toNat none) hx ((h _ _ hx).1.unpin (c.iv i x hx) he hpos s.r) (Kz.set (h _ _ hx).2 he (e' := { e with pins := e.pins - 1 }) rfl rfl hE)
theorem Cw.roomc (h : Cw s) (c : Ci s) (room : Nat) : Cw (roomC s room) := by
  intro i y hy
  unfold roomC at hy
  simp only [List.getElem?_map] at hy
  cases hx : s.xs[i]? with
  | none => rw [hx] at hy; cases hy
  | some x =>
    rw [hx] at hy
    obtain rfl : rmX (room / s.xs.length) x = y := by simpa using hy
    exact ⟨Cn.room 0 _ _ x (c.iv i x hx) (h i x hx).1, (h i x hx).2.same (rm_ent _ (c.iv i x hx))⟩
theorem Cw.new {n room : Nat} {st : Bool} : Cw (newC n room st) := by
  intro i x hx
  obtain ⟨rfl, _⟩ := rep_get hx
  exact ⟨cn0, fun j e hj => by simp [x0] at hj⟩
theorem tolPl (a g : Nat) : plusT (tolT a) g = tolT (a + g) := by
  unfold plusT tolT
  split <;> split <;> (try split) <;> omega
theorem tol_tol (a g : Nat) : tolT (a + tolT g) = tolT (a + g) := by
  unfold tolT
  split <;> split <;> (try split) <;> omega
theorem tol_id {a : Nat} (h : a < 18446744073709551616) : tolT a = a := by unfold tolT; rw [if_neg (by omega)]
theorem shS_tol (v : Vw) : ∀ (l : List Nat) (a b c : Nat), shS v ⟨tolT a, tolT b, c⟩ l = ⟨tolT (a + (l.map (fun j => (v.at j).chg)).sum), tolT (b + (l.map (fun j => if 0 < (v.at j).pins then (v.at j).chg else 0)).sum), c + (l.map (fun j => if v.inn j then 1 else 0)).sum⟩
  | [], a, b, c => by simp [shS]
  | j :: t, a, b, c => by
    have h1 : shS v ⟨tolT a, tolT b, c⟩ (j :: t) = shS v (T3.step ⟨tolT a, tolT b, c⟩ (v.at j) (v.inn j)) t := rfl
    have h2 : T3.step ⟨tolT a, tolT b, c⟩ (v.at j) (v.inn j) = ⟨tolT (a + (v.at j).chg), tolT (b + if 0 < (v.at j).pins then (v.at j).chg else 0), c + if v.inn j then 1 else 0⟩ := by
      unfold T3.step
      simp only [tolPl]
      congr 1
      · split <;> simp
      · split <;> simp
    rw [h1, h2, shS_tol v t]
    simp only [List.map_cons, List.sum_cons, Nat.add_assoc]
theorem shS_x {v : Vw} {x : Xs} (V : Vx v x) (S : Su x) (C : Cn x) (a b c : Nat) : shS v ⟨tolT a, tolT b, c⟩ v.ll = ⟨tolT (a + x.us), tolT (b + x.pn), c + x.cnt⟩ := by
  have hat : ∀ j, v.at j = x.at j := fun j => by unfold Vw.at Xs.at; rw [V.e]
  rw [shS_tol, V.l]
  unfold LL
  rw [sum_filter, sum_filter, sum_filter, S.u, S.p, C]
  have e1 : sumN x.ent.length (fun j => if live x j then (v.at j).chg else 0) = sumN x.ent.length (gU x) := sumN_congr fun j hj => by unfold gU; simp only [hat]
  have e2 : sumN x.ent.length (fun j => if live x j then (if 0 < (v.at j).pins then (v.at j).chg else 0) else 0) = sumN x.ent.length (gP x) := sumN_congr fun j hj => by
    unfold gP; simp only [hat]
    by_cases hp : 0 < (x.at j).pins
    · have : live x j = true := by unfold live; simp [hp]
      simp [this]
    · simp [hp]
  have e3 : sumN x.ent.length (fun j => if live x j then (if v.inn j then 1 else 0) else 0) = sumN x.ent.length (gC x) := sumN_congr fun j hj => by
    unfold gC
    have hg := List.getElem?_eq_getElem hj
    rw [V.i j _ hg, xat hg]
    by_cases hf : x.f x.ent[j].key.data.toList = some j
    · have : live x j = true := by unfold live; rw [xat hg]; simp [hf]
      simp [this, hf]
    · simp [hf]
  rw [e1, e2, e3]
theorem toS_x {w : World} {R : Lr} {room : Nat} {vs : List Vw} {pv : Value} (h : Rx w R room vs pv s) (C : Cw s) : ∀ m, m ≤ s.xs.length → toS (vs.take m) = ⟨sumU (s.xs.take m), sumP (s.xs.take m), sumC (s.xs.take m)⟩
  | 0, _ => rfl
  | m + 1, hm => by
    have hx := List.getElem?_eq_getElem (l := s.xs) (i := m) (by omega)
    have hv := List.getElem?_eq_getElem (l := vs) (i := m) (by rw [h.rf.len]; omega)
    rw [sumU_snoc hx, sumP_snoc hx, sumC_snoc hx]
    have h1 : vs.take (m + 1) = vs.take m ++ [vs[m]'(by rw [h.rf.len]; omega)] := by rw [List.take_add_one, hv]; rfl
    rw [h1, toS_snoc, toS_x h C m (by omega)]
    have h2 := shS_x (h.vx m _ _ hv hx) (h.su m _ hx) (C m _ hx).1 (sumU (s.xs.take m)) (sumP (s.xs.take m)) (sumC (s.xs.take m))
    rw [tol_id (sumU_lt _), tol_id (sumP_lt _)] at h2
    rw [h2]
    unfold plusT
    rw [tol_tol, tol_tol]
theorem toS_all {w : World} {R : Lr} {room : Nat} {vs : List Vw} {pv : Value} (h : Rx w R room vs pv s) (C : Cw s) : toS vs = ⟨sumU s.xs, sumP s.xs, sumC s.xs⟩ := by
  have := toS_x h C s.xs.length (Nat.le_refl _)
  rw [List.take_length] at this
  rw [← this, ← h.rf.len, List.take_length]
/-- The count of all is small. -/
theorem sumC_bd (c : Ci s) (hP : s.P.length ≤ 4000000000000) : ∀ m, m ≤ s.xs.length → sumC (s.xs.take m) ≤ m * 4000000000000
  | 0, _ => by simp [sumC]
  | m + 1, hm => by
    have hx := List.getElem?_eq_getElem (l := s.xs) (i := m) (by omega)
    rw [sumC_snoc hx]
    have := sumC_bd c hP m (by omega)
    have := (c.iv m _ hx).ct
    have := c.el m _ hx
    omega
theorem rsums_any {w : World} {R : Lr} {room : Nat} {vs : List Vw} {pv : Value} (h : Rx w R room vs pv s) (c : Ci s) (C : Cw s) :
    Calls Try.prog 36 #[.pointer (some ⟨R.cb, 0, none⟩)] w fun e w' => e = .returned (.tuple #[.int .u64 (sumU s.xs), .int .u64 (sumP s.xs), .int .i64 (sumC s.xs)]) ∧ w' = w := by
  have H := sums_any h.rf c.n2 (fun v hv => by
    obtain ⟨i, hi⟩ := List.getElem?_of_mem hv
    have hx := List.getElem?_eq_getElem (l := s.xs) (i := i) (by rw [← h.rf.len]; exact (List.getElem?_eq_some_iff.1 hi).1)
    obtain ⟨v', hv', _, hl, _⟩ := h.get c hx
    rw [hi] at hv'; cases hv'; exact hl) (fun i v j e hv he => by
    have hx := List.getElem?_eq_getElem (l := s.xs) (i := i) (by rw [← h.rf.len]; exact (List.getElem?_eq_some_iff.1 hv).1)
    have V := h.vx i v _ hv hx
    exact (h.su i _ hx).c j e (by rw [← V.e]; exact he))
  rw [toS_all h C] at H
  exact H
end
end Go.Proofs.Ytlkfabejecgfgaa
namespace Go.Proofs.Ytlkfabejecgfgaa
open Go.RowKit Go.Maps
set_option linter.unusedVariables false
set_option linter.unusedSimpArgs false
section
variable {w w' : World} {L : Lo} {s t : Cs} {R : Lr} {n room : Nat} {st : Bool} {vs : List Vw} {pv : Value} {P : List (Option (Nat × Nat))}
theorem km_blk {kt : TypeId} {α : Type} {kl : α → Lit} {b : Nat} {f : α → Option Nat} {D : DataW Unit} (h : KM kt kl w b f D) {ty : TypeId} {cs : List Value} (hB : Blk w b ty cs) : False := by
  obtain ⟨n', es, clock, hb, _⟩ := h.own
  unfold Blk at hB
  rw [hB] at hb
  cases hb
/-- A block of another type is not the cache's. -/
theorem cb_b (h : Ca w L s) {k : Nat} {ty : TypeId} {cs : List Value} (hB : Blk w k ty cs) (h1 : ty ≠ 58) (h2 : ty ≠ 66) (h3 : ty ≠ 91) : ¬ Cb L s k := by
  intro hk
  rcases hk with e | e | ⟨i, x, hx, hb⟩
  · exact hB.ne h.blk h1 e
  · obtain ⟨D, hD, _⟩ := h.pin
    subst e
    exact km_blk hD hB
  · obtain ⟨rc, _, hS⟩ := h.row
    have S := hS i x hx
    rcases hb with e | e | ⟨j, hj, e⟩
    · obtain ⟨D, hD, _⟩ := S.map
      subst e
      exact km_blk hD hB
    · exact hB.ne S.row (by assumption) e
    · exact hB.ne (S.ent j _ (List.getElem?_eq_getElem hj)) (by assumption) e
theorem cb_q (h : Ca w L s) {base : Nat} {v : Value} {m : Nat} {xs : List Value} (hR : w.ownsRow base 85 1 v m xs) {k : Nat} (hv : v.ownBlock = some k) : ¬ Cb L s k := by
  intro hk
  have hm : ∀ {kt : TypeId} {α : Type} {kl : α → Lit} {b : Nat} {f : α → Option Nat} {D : DataW Unit}, KM kt kl w b f D → k ≠ b := by
    rintro kt α kl b f D hD rfl
    obtain ⟨n', es, clock, hb, _⟩ := hD.own
    rcases hR.2 with ⟨rfl, _⟩ | ⟨g, cap, cur, rfl, _, hgg, _⟩
    · cases hv
    · simp [Value.ownBlock] at hv
      subst hv
      rw [hgg] at hb
      cases hb
  rcases hk with e | e | ⟨i, x, hx, hb⟩
  · exact row_ne hR h.blk (by decide) k hv e
  · obtain ⟨D, hD, _⟩ := h.pin
    exact hm hD e
  · obtain ⟨rc, _, hS⟩ := h.row
    have S := hS i x hx
    rcases hb with e | e | ⟨j, hj, e⟩
    · obtain ⟨D, hD, _⟩ := S.map
      exact hm hD e
    · exact row_ne hR S.row (by decide) k hv e
    · exact row_ne hR (S.ent j _ (List.getElem?_eq_getElem hj)) (by decide) k hv e
/-- A block of another type is not the reference's. -/
theorem rb_b (h : Rf w R n room st vs pv P) {k : Nat} {ty : TypeId} {cs : List Value} (hB : Blk w k ty cs) (h1 : ty ≠ 70) (h2 : ty ≠ 68) (h3 : ty ≠ 84) (h4 : 85 ≠ ty) : ¬ Rb R vs pv k := by
  intro hk
  obtain ⟨lc, hL, _⟩ := h.lr.ex
  obtain ⟨wc, hW, _⟩ := h.wr.ex
  rcases hk with e | e | e | e | ⟨i, v, j, hv, hj, e⟩
  · exact hB.ne h.blk h1 e
  · exact hB.ne hL h2 e
  · exact hB.ne hW h2 e
  · exact row_ne h.pr hB h4 k e rfl
  · exact hB.ne (h.it i v j _ hv (List.getElem?_eq_getElem hj)) h3 e
theorem rb_cb (h : Ca w L s) (hf : Rf w R n room st vs pv P) {k : Nat} (hk : Rb R vs pv k) : ¬ Cb L s k := by
  obtain ⟨lc, hL, _⟩ := hf.lr.ex
  obtain ⟨wc, hW, _⟩ := hf.wr.ex
  rcases hk with e | e | e | e | ⟨i, v, j, hv, hj, e⟩
  · subst e; exact cb_b h hf.blk (by decide) (by decide) (by decide)
  · subst e; exact cb_b h hL (by decide) (by decide) (by decide)
  · subst e; exact cb_b h hW (by decide) (by decide) (by decide)
  · exact cb_q h hf.pr e
  · subst e; exact cb_b h (hf.it i v j _ hv (List.getElem?_eq_getElem hj)) (by decide) (by decide) (by decide)
/-- The cache's doings pass the reference by. -/
theorem Rf.updc (h : Rf w R n room st vs pv P) (hc : Ca w L s) (U : Upd (Cb L s) w w') : Rf w' R n room st vs pv P := by
  obtain ⟨lc, hL, _⟩ := h.lr.ex
  obtain ⟨wc, hW, _⟩ := h.wr.ex
  exact ⟨h.blk.upd U (cb_b hc h.blk (by decide) (by decide) (by decide)), h.len, h.lr.upd U (cb_b hc hL (by decide) (by decide) (by decide)) (fun k u l hq hu _ => cb_q hc hq hu),
    h.wr.upd U (cb_b hc hW (by decide) (by decide) (by decide)) (fun k u l hq hu _ => cb_q hc hq hu), h.lw, row_upd h.pr U (fun k e => cb_q hc h.pr e),
    fun i v j e hv hj => (h.it i v j e hv hj).upd U (cb_b hc (h.it i v j e hv hj) (by decide) (by decide) (by decide)), h.inj, h.llr⟩
/-- The two side by side: the program's at s, the reference's at t. -/
structure Du (w0 wr : World) (L : Lo) (R : Lr) (room : Nat) (vs : List Vw) (pv : Value) (s t : Cs) : Prop where
  k : K0 w0 wr L s
  r : Rx wr R room vs pv t
  o : ∀ k, Rb R vs pv k → w0.heap.size ≤ k
variable {w0 : World}
theorem Du.grow (h : Du w0 w L R room vs pv s t) (U : Upd Non w w') : Du w0 w' L R room vs pv s t :=
  ⟨h.k.upd U (fun _ _ e => e) (fun _ e => e.elim), h.r.grow U, h.o⟩
theorem Du.drewN (h : Du w0 w L R room vs pv s t) (m : Nat) : Du w0 (w.drewN m) L R room vs pv s t := h.grow ⟨rfl, rfl, rfl, Nat.le_refl _, fun _ _ _ => rfl⟩
theorem Du.c1 (h : Du w0 w L R room vs pv s t) {L' : Lo} {s' : Cs} (K : K0 w0 w' L' s') (U : Upd (Cb L s) w w') : Du w0 w' L' R room vs pv s' t :=
  ⟨K, ⟨h.r.rf.updc h.k.ca U, h.r.rr, h.r.rm, h.r.vx, h.r.su, h.r.pl⟩, h.o⟩
theorem Du.r1 (h : Du w0 w L R room vs pv s t) {room' : Nat} {t' : Cs} (H : Ro w R vs pv w' room' t') : ∃ R' vs' pv', R'.cb = R.cb ∧ Du w0 w' L R' room' vs' pv' s t' := by
  obtain ⟨R', vs', pv', e, X, U, hn⟩ := H
  refine ⟨R', vs', pv', e, h.k.upd U (fun k hk hr => rb_cb h.k.ca h.r.rf hr hk) h.o, X, fun k hk => ?_⟩
  rcases hn k hk with h1 | h1
  · exact h.o k h1
  · exact Nat.le_trans h.k.bel.size h1
theorem Du.box_c (h : Du w0 w L R room vs pv s t) {b : Nat} {cs : List Value} (X : Blk w b 36 cs) : ¬ Cb L s b := cb_b h.k.ca X (by decide) (by decide) (by decide)
theorem Du.box_r (h : Du w0 w L R room vs pv s t) {b : Nat} {cs : List Value} (X : Blk w b 36 cs) : ¬ Rb R vs pv b := rb_b h.r.rf X (by decide) (by decide) (by decide) (by decide)
theorem Du.box_ro (h : Du w0 w L R room vs pv s t) {b : Nat} {cs : List Value} (X : Blk w b 36 cs) {room' : Nat} {t' : Cs} (H : Ro w R vs pv w' room' t') : Blk w' b 36 cs := by
  obtain ⟨R', vs', pv', e, X', U, hn⟩ := H
  exact X.upd U (h.box_r X)
/-- Both at one cache, wherever they lie. -/
def Dv (w0 wr : World) (cb rb n : Nat) (s : Cs) : Prop := ∃ (L : Lo) (R : Lr) (room : Nat) (vs : List Vw) (pv : Value), L.cb = cb ∧ R.cb = rb ∧ Du w0 wr L R room vs pv s s ∧ Cw s ∧ s.P.length ≤ n
theorem Dv.grow {cb rb m : Nat} (h : Dv w0 w cb rb m s) (U : Upd Non w w') : Dv w0 w' cb rb m s := by
  obtain ⟨L, R, room, vs, pv, h1, h2, h3, h4, h5⟩ := h
  exact ⟨L, R, room, vs, pv, h1, h2, h3.grow U, h4, h5⟩
theorem Dv.bel {cb rb m : Nat} (h : Dv w0 w cb rb m s) : Below w0.heap.size w0 w := by
  obtain ⟨L, R, room, vs, pv, h1, h2, h3, h4, h5⟩ := h
  exact h3.k.bel
/-- Behind both calls. -/
theorem Du.dv (h : Du w0 w L R room vs pv s t) {cb rb m : Nat} (h1 : L.cb = cb) (h2 : R.cb = rb) (e : s = t) (C : Cw s) (hP : s.P.length ≤ m) : Dv w0 w cb rb m s := by
  subst e
  exact ⟨L, R, room, vs, pv, h1, h2, h, C, hP⟩
set_option maxRecDepth 100000 in
set_option maxHeartbeats 2000000 in
theorem rnew_no (w : World) {n : Int} (hn : n < 1 ∨ 64 < n) {room : Nat} {st : Bool} :
    Calls Try.prog 8 #[.int .i64 n, .int .u64 room, .bool st] w fun e w' => e = .returned (.tuple #[.pointer none, .int .i64 1]) ∧ w' = w := by
  by_cases h1 : n < 1
  · go_enter Try.func8, Try.ntmps8
    go_wp2_with fail
    refine bodyPost_ret (v := .tuple #[.pointer none, .int .i64 1]) (by simp [results, Try.results8, go_sem]) rfl ⟨rfl, rfl⟩
  · have h2 : 64 < n := by omega
    clear hn
    go_enter Try.func8, Try.ntmps8
    go_wp2_with fail
    refine bodyPost_ret (v := .tuple #[.pointer none, .int .i64 1]) (by simp [results, Try.results8, go_sem]) rfl ⟨rfl, rfl⟩
theorem Du.new {w : World} {n room : Nat} {st : Bool} {w1 w2 : World} {L : Lo} {R : Lr} {vs : List Vw} {pv : Value} (K : K0 w w1 L (newC n room st)) (X : Rx w2 R room vs pv (newC n room st)) (U : Upd Non w1 w2) (hn : ∀ k, Rb R vs pv k → w1.heap.size ≤ k) : Dv w w2 L.cb R.cb 0 (newC n room st) :=
  ⟨L, R, room, vs, pv, rfl, rfl, ⟨K.upd U (fun _ _ e => e) (fun _ e => e.elim), X, fun k hk => Nat.le_trans K.bel.size (hn k hk)⟩, Cw.new, Nat.le_refl _⟩
end
end Go.Proofs.Ytlkfabejecgfgaa
