/-
  The closures of split; added; pieces in memory; between.
-/
import Derived.Test.YtagnnocecfoggaaLy
import Derived.Deep.RegionHeldLaw
import Derived.Deep.RegionLaw
namespace Go.Proofs.Ytagnnocecfoggaa
open Go.RowKit
set_option linter.unusedVariables false
set_option linter.unusedSimpArgs false
/-- A piece: its keys, and where its numbers lie. -/
structure Pc where
  b : ByteArray
  e : ByteArray
  a : Option Addr
  n : Nat
  k : Nat
deriving Inhabited
abbrev Pc.s (p : Pc) : Value := .slice p.a p.n p.k
def Pc.c (p : Pc) : List Value := [.string p.b, .string p.e, .slice p.a p.n p.k]
abbrev Pc.v (p : Pc) : Value := .agg #[.string p.b, .string p.e, .slice p.a p.n p.k]
theorem pc_k : ∀ t : Pc, t.c.length = 3 := fun _ => rfl
theorem pc_1 : ∀ t : Pc, ∀ u ∈ t.c, u.oneCell' = true := fun t u hu => by simp [Pc.c] at hu; rcases hu with rfl | rfl | rfl <;> rfl
abbrev RowP (w : World) (base : Nat) (v : Value) (l : List Pc) : Prop := w.ownsRow base 63 3 v l.length (cls Pc.c l)
abbrev RowU (w : World) (base : Nat) (v : Value) (l : List Int) : Prop := w.ownsRow base 38 1 v l.length (cls uc l)
abbrev RowS (w : World) (base : Nat) (v : Value) (l : List ByteArray) : Prop := w.ownsRow base 9 1 v l.length (cls sc l)
theorem At.p {w : World} {g o : Nat} {t : Pc} (h : At Pc.c w g o t) : w.cell? ⟨g, o, none⟩ = some (.string t.b) ∧ w.cell? ⟨g, o + 1, none⟩ = some (.string t.e) ∧ w.cell? ⟨g, o + 2, none⟩ = some (.slice t.a t.n t.k) := ⟨h 0 _ rfl, h 1 _ rfl, h 2 _ rfl⟩
theorem At.s1 {w : World} {g o : Nat} {t : ByteArray} (h : At sc w g o t) : w.cell? ⟨g, o, none⟩ = some (.string t) := h 0 _ rfl
theorem At.u1 {w : World} {g o : Nat} {t : Int} (h : At uc w g o t) : w.cell? ⟨g, o, none⟩ = some (.int .u64 t) := h 0 _ rfl
set_option maxHeartbeats 400000 in
theorem bykey_any {w : World} {B : Nat} {how : Int} (h : w.cell? ⟨B, 0, none⟩ = some (.int .i64 how)) (a b : ByteArray) :
    Calls Try.prog 46 #[.string a, .string b, ptr B] w fun e w' => e = .returned (.int .i64 (cmpH how a b)) ∧ w' = w := by
  go_enter Try.func46, Try.ntmps46
  go_wp2_with (go_at_call 42; refine (ccmp_any _ _ _ _).mono ?_; rintro e w' ⟨rfl, rfl⟩)
  go_ret
  exact ⟨rfl, rfl⟩
set_option maxHeartbeats 400000 in
theorem byseq_any (w : World) (a b : Tm) :
    Calls Try.prog 50 #[a.v, b.v] w fun e w' => e = .returned (.int .i64 (cmpI b.s a.s)) ∧ w' = (w.alloc (.cells #[.string a.b, .string a.e, .int .u64 a.s] 56)).alloc (.cells #[.string b.b, .string b.e, .int .u64 b.s] 56) := by
  go_enter Try.func50, Try.ntmps50
  go_wp2_with (go_at_call 51; refine (cmpu_any _ _ _).mono ?_; rintro e w' ⟨rfl, rfl⟩)
  go_ret
  exact ⟨rfl, rfl⟩
abbrev bkv (B : Nat) : Value := .func (.func 46) #[] #[ptr B]
set_option maxHeartbeats 400000 in
theorem bybegin_any {w : World} {B C : Nat} {how : Int} (hB : w.cell? ⟨B, 0, none⟩ = some (.int .i64 how)) (hC : w.cell? ⟨C, 0, none⟩ = some (bkv B)) (p : Pc) (k : ByteArray) :
    Calls Try.prog 53 #[p.v, .string k, ptr C] w fun e w' => e = .returned (.int .i64 (cmpH how p.b k)) ∧ Below w.heap.size w w' := by
  have hb0 : Below w.heap.size w (w.alloc (.cells #[.string p.b, .string p.e, .slice p.a p.n p.k] 63)) := (Below.refl _ _).alloc (Nat.le_refl _) _
  have hB' := cell_below hb0 hB
  have hC' := cell_below hb0 hC
  have HB : Hid (Below w.heap.size w (w.alloc (.cells #[.string p.b, .string p.e, .slice p.a p.n p.k] 63))) := hb0
  clear hb0
  go_enter Try.func53, Try.ntmps53
  go_wp2_with (go_at_call 46; refine (bykey_any hB' _ _).mono ?_; rintro e w' ⟨rfl, rfl⟩)
  go_ret
  exact ⟨rfl, HB.out⟩
set_option maxHeartbeats 400000 in
theorem isnone_any (w : World) (p : Pc) :
    Calls Try.prog 56 #[p.v] w fun e w' => e = .returned (.bool (decide (p.n = 0))) ∧ w' = w.alloc (.cells #[.string p.b, .string p.e, .slice p.a p.n p.k] 63) := by
  obtain ⟨R, hR⟩ : ∃ R, Hid (decide (p.n = 0) = R) := ⟨_, rfl⟩
  rw [hR.out]
  go_enter Try.func56, Try.ntmps56
  go_wp2_with fail
  go_ret
  refine ⟨?_, rfl⟩
  rw [← hR.out]
  show Ending.returned (Value.bool ((p.n : Int) == 0)) = _
  congr 2
  rw [Bool.eq_iff_iff]; simp
/-- One more number, if it is not the last one. -/
def addQ (q : List Int) (s : Int) : List Int := if q.getLast? = some s then q else q ++ [s]
theorem pushU {w : World} {base : Nat} {v : Value} {l : List Int} (h : RowU w base v l) (hb : base ≤ w.heap.size) {vb : Nat} {x : Int} {tb : TypeId} (hv : Blk w vb tb (uc x)) (ty : TypeId) (hl : l.length ≤ 10000000) :
    ∃ v' w', (Builtin.append_ #[61, 61] ty #[v, .slice (some ⟨vb, 0, none⟩) 1 1]).run Try.prog w = .ok v' w' ∧ RowU w' base v' (l ++ [x]) ∧ Upd (fun k => v.ownBlock = some k) w w' ∧ (v'.ownBlock = v.ownBlock ∨ v'.ownBlock = some w.heap.size) ∧ v' ≠ .slice none 0 0 :=
  push_g uc_k uc_1 Try.underlying61 info38 rfl (by decide) h hb hv ty (by omega) (by unfold maxLen; omega)
set_option maxRecDepth 100000 in
set_option maxHeartbeats 1000000 in
theorem added_any {w : World} {base : Nat} {v : Value} {q : List Int} (h : RowU w base v q) (hb : base ≤ w.heap.size) (s : Int) (hl : q.length ≤ 10000) :
    Calls Try.prog 54 #[v, .int .u64 s] w fun e w' => ∃ v', e = .returned v' ∧ RowU w' base v' (addQ q s) ∧ Upd (fun k => v.ownBlock = some k) w w' ∧ (v'.ownBlock = v.ownBlock ∨ ∃ k, v'.ownBlock = some k ∧ w.heap.size ≤ k) := by
  have H : Hid (RowU w base v q) := h
  obtain ⟨a, cp, hv, _, hrd, hoff⟩ := row_rd uc_k h
  have HP0 : Hid (∀ W, W = w.alloc (.cells #[.int .u64 s] 38) → ∃ v' w', (Builtin.append_ #[61, 61] 61 #[v, .slice (some ⟨w.heap.size, 0, none⟩) 1 1]).run Try.prog W = .ok v' w' ∧ RowU w' base v' (q ++ [s]) ∧ Upd (fun k => v.ownBlock = some k) w w' ∧ (v'.ownBlock = v.ownBlock ∨ ∃ k, v'.ownBlock = some k ∧ w.heap.size ≤ k)) := by
    rintro W rfl
    have hb1 : Below w.heap.size w (w.alloc (.cells #[.int .u64 s] 38)) := (Below.refl _ _).alloc (Nat.le_refl _) _
    obtain ⟨v', w', h1, h2, h3, h4, _⟩ := pushU (x := s) (row_upd h (S := Non) (Upd.ofBelow hb1) (fun _ _ h => h)) (by simp; omega) (Blk.new w 38 (uc s)) 61 (by omega)
    refine ⟨v', w', h1, h2, (Upd.ofBelow hb1).then h3 (fun _ _ h => h), ?_⟩
    rcases h4 with h4 | h4
    · exact .inl h4
    · exact .inr ⟨_, h4, by simp⟩
  obtain ⟨N, hN⟩ : ∃ N, Hid (N = q.length) := ⟨_, rfl⟩
  rw [← hN.out] at hv hl
  subst hv
  clear h
  rcases Nat.eq_zero_or_pos N with h0 | hpos
  · subst h0
    clear hoff
    have hq : q = [] := List.eq_nil_of_length_eq_zero hN.out.symm
    obtain ⟨v', w', hr, g1, g2, g3⟩ := HP0.out _ rfl
    have HP : Hid (RowU w' base v' (q ++ [s]) ∧ Upd (fun k => (Value.slice a 0 cp).ownBlock = some k) w w' ∧ (v'.ownBlock = (Value.slice a 0 cp).ownBlock ∨ ∃ k, v'.ownBlock = some k ∧ w.heap.size ≤ k)) := ⟨g1, g2, g3⟩
    clear g1 g2 g3
    go_enter Try.func54, Try.ntmps54
    go_wp2_with (at_builtin; refine Lib.wpList_append_run _ rfl _ _ _ _ rfl _ _ rfl rfl _ _ hr ?_)
    go_ret
    refine ⟨v', rfl, ?_⟩
    rw [show addQ q s = q ++ [s] by rw [hq]; rfl]
    exact HP.out
  · obtain ⟨m, hm⟩ : ∃ m, N = m + 1 := ⟨N - 1, by omega⟩
    obtain ⟨x, hx⟩ : ∃ x, q[m]? = some x := ⟨q[m]'(by rw [← hN.out]; omega), List.getElem?_eq_getElem _⟩
    have hlast : q.getLast? = some x := by rw [List.getLast?_eq_getElem?, ← hN.out, hm]; exact hx
    obtain ⟨g, o, rfl, hat⟩ := hrd.at_ hx
    obtain ⟨rfl, _⟩ := hoff g o rfl
    clear hoff
    have hc := hat.u1
    rw [Nat.mul_one, Nat.zero_add] at hc
    have hz0 : (0 : Int) < N := by omega
    have hz1 : (N : Int) - 1 = m := by omega
    have hz2 : (m : Int) < N := by omega
    have hw1 : IntKind.i64.wrap (m : Int) = m := by rw [IntKind.wrap_i64]; omega
    clear hm hpos hat
    by_cases hxs : x = s
    · subst hxs
      have HP : Hid (addQ q x = q) := by show _ = _; unfold addQ; rw [if_pos hlast]
      clear HP0
      go_enter Try.func54, Try.ntmps54
      go_wp2_with fail
      go_ret
      rw [HP.out]
      exact ⟨_, rfl, H.out, Upd.refl _ _, .inl rfl⟩
    · have hne : (x == s) = false := by simp [hxs]
      have HQ : Hid (addQ q s = q ++ [s]) := by show _ = _; unfold addQ; rw [if_neg (by rw [hlast]; simp [hxs])]
      obtain ⟨v', w', hr, g1, g2, g3⟩ := HP0.out _ rfl
      have HP : Hid (RowU w' base v' (q ++ [s]) ∧ Upd (fun k => (Value.slice (some ⟨g, 0, none⟩) N cp).ownBlock = some k) w w' ∧ (v'.ownBlock = (Value.slice (some ⟨g, 0, none⟩) N cp).ownBlock ∨ ∃ k, v'.ownBlock = some k ∧ w.heap.size ≤ k)) := ⟨g1, g2, g3⟩
      clear g1 g2 g3
      go_enter Try.func54, Try.ntmps54
      go_wp2_with (at_builtin; refine Lib.wpList_append_run _ rfl _ _ _ _ rfl _ _ rfl rfl _ _ hr ?_)
      go_ret
      rw [HQ.out]
      exact ⟨v', rfl, HP.out⟩
end Go.Proofs.Ytagnnocecfoggaa
