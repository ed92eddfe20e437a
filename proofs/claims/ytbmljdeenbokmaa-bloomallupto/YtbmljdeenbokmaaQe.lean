/-
  Build and Union of both sides, in one contract each; what the law does with bytes (told, own).
-/
import Derived.Test.YtbmljdeenbokmaaQb
import Derived.Test.YtbmljdeenbokmaaQc
import Derived.Test.YtbmljdeenbokmaaQd
import Derived.Laws.MakeOwn
namespace Go.Proofs.Ytbmljdeenbokmaa
open Go.RowKit Go.Maps
set_option linter.unusedVariables false
set_option linter.unusedSimpArgs false

/-- A slice of bytes that a call has made: none, or a row, whole. -/
def Fresh (w : World) (base : Nat) (a : Option Addr) (L : List Int) : Prop := (a = none ∧ L = []) ∨ ∃ B, a = some ⟨B, 0, none⟩ ∧ base ≤ B ∧ Row w B L
theorem Fresh.arg {w : World} {base : Nat} {a : Option Addr} {L : List Int} (h : Fresh w base a L) (hB : Byt L) (hl : L.length ≤ 140737488351232) : Arg w a L.length L := by
  rcases h with ⟨rfl, rfl⟩ | ⟨B, rfl, _, hr⟩
  · exact ⟨rfl, hB, hl, .inl rfl⟩
  · exact hr.arg hB hl
theorem Fresh.below {w w' : World} {base : Nat} {a : Option Addr} {L : List Int} (h : Fresh w base a L) (hb : Below w.heap.size w w') : Fresh w' base a L := by
  rcases h with ⟨rfl, rfl⟩ | ⟨B, rfl, hB, hr⟩
  · exact .inl ⟨rfl, rfl⟩
  · exact .inr ⟨B, rfl, hB, hr.below hb⟩
/-- What Build tells. -/
def bE (bt : Int) : Int := if 1 ≤ bt ∧ bt ≤ 64 then 0 else 1
def bL (ks : List ByteArray) (bt : Int) : List Int := if 1 ≤ bt ∧ bt ≤ 64 then bld ks bt else []
theorem bL_byt (ks : List ByteArray) (bt : Int) : Byt (bL ks bt) := by
  unfold bL; split
  · exact bld_byt _ _
  · intro x hx; cases hx
theorem bL_len (ks : List ByteArray) (bt : Int) (hl : ks.length ≤ 1048576) : (bL ks bt).length ≤ 16777216 := by
  unfold bL; split
  · have := bld_chk ks bt hl (by omega)
    simp only [chkB, Bool.and_eq_true, decide_eq_true_eq] at this
    exact this.2
  · simp
theorem build_any (a : Option Addr) (cap : Nat) (ks : List ByteArray) (bt : Int) (w : World) (hS : Strs w a ks) (hl : ks.length ≤ 1048576) :
    Calls Try.prog 7 #[.slice a ks.length cap, .int .i64 bt] w fun e w' => ∃ av, e = .returned (.tuple #[.slice av (bL ks bt).length (bL ks bt).length, .int .i64 (bE bt)]) ∧ Fresh w' w.heap.size av (bL ks bt) ∧ Below w.heap.size w w' := by
  by_cases h : 1 ≤ bt ∧ bt ≤ 64
  · unfold bE bL; rw [if_pos h, if_pos h]
    exact (build_ok a cap ks bt w hS hl h.1 h.2).mono fun e w' ⟨h1, h2, h3⟩ => ⟨_, h1, .inr ⟨_, rfl, Nat.le_refl _, h2⟩, h3⟩
  · unfold bE bL; rw [if_neg h, if_neg h]
    exact (build_arg a ks.length cap bt w (by omega)).mono fun e w' ⟨h1, h2⟩ => ⟨none, h1, .inl ⟨rfl, rfl⟩, by rw [h2]; exact Below.refl _ _⟩
theorem rbuild_any (a : Option Addr) (cap : Nat) (ks : List ByteArray) (bt : Int) (w : World) (hS : Strs w a ks) (hl : ks.length ≤ 1048576) :
    Calls Try.prog 8 #[.slice a ks.length cap, .int .i64 bt] w fun e w' => ∃ av, e = .returned (.tuple #[.slice av (bL ks bt).length (bL ks bt).length, .int .i64 (bE bt)]) ∧ Fresh w' w.heap.size av (bL ks bt) ∧ Below w.heap.size w w' := by
  by_cases h : 1 ≤ bt ∧ bt ≤ 64
  · unfold bE bL; rw [if_pos h, if_pos h]
    rw [bld_length]
    exact (rbuild_yes a cap ks bt w hS hl h.1 h.2 _ rfl).mono fun e w' ⟨h1, h2, h3⟩ => ⟨_, h1, .inr ⟨_, rfl, Nat.le_refl _, h2⟩, h3⟩
  · unfold bE bL; rw [if_neg h, if_neg h]
    exact (rbuild_arg a ks.length cap bt w (by omega)).mono fun e w' ⟨h1, h2⟩ => ⟨none, h1, .inl ⟨rfl, rfl⟩, by rw [h2]; exact Below.refl _ _⟩
/-- What Probes tells. -/
def pN (bt : Int) : Int := if 1 ≤ bt ∧ bt ≤ 64 then npr bt else 0
theorem probes_any (bt : Int) (w : World) : Calls Try.prog 9 #[.int .i64 bt] w fun e w' => e = .returned (.tuple #[.int .i64 (pN bt), .int .i64 (bE bt)]) ∧ w' = w := by
  by_cases h : 1 ≤ bt ∧ bt ≤ 64
  · unfold bE pN; rw [if_pos h, if_pos h]; exact probes_yes bt w h.1 h.2
  · unfold bE pN; rw [if_neg h, if_neg h]; exact probes_no bt w (by omega)
theorem rprobes_any (bt : Int) (w : World) : Calls Try.prog 10 #[.int .i64 bt] w fun e w' => e = .returned (.tuple #[.int .i64 (pN bt), .int .i64 (bE bt)]) ∧ w' = w := by
  by_cases h : 1 ≤ bt ∧ bt ≤ 64
  · unfold bE pN; rw [if_pos h, if_pos h]; exact rprobes_yes bt w h.1 h.2
  · unfold bE pN; rw [if_neg h, if_neg h]; exact rprobes_no bt w (by omega)
/-- What Union tells. -/
def uE (l m : List Int) : Int := if isf l = true ∧ isf m = true then (if m.length = l.length ∧ m.getD (l.length - 1) 0 = l.getD (l.length - 1) 0 then 0 else 1) else 3
theorem uE_0 {l m : List Int} (h1 : isf l = true) (h2 : isf m = true) (h3 : m.length = l.length) (h4 : m.getD (l.length - 1) 0 = l.getD (l.length - 1) 0) : uE l m = 0 := by unfold uE; rw [if_pos ⟨h1, h2⟩, if_pos ⟨h3, h4⟩]
theorem uE_1 {l m : List Int} (h1 : isf l = true) (h2 : isf m = true) (h : ¬ (m.length = l.length ∧ m.getD (l.length - 1) 0 = l.getD (l.length - 1) 0)) : uE l m = 1 := by unfold uE; rw [if_pos ⟨h1, h2⟩, if_neg h]
def uL (l m : List Int) : List Int := if uE l m = 0 then unL l m else []
theorem uL_byt (l m : List Int) : Byt (uL l m) := by
  unfold uL; split
  · exact unL_byt _ _
  · intro x hx; cases hx
theorem uL_len (l m : List Int) (h : l.length ≤ 1048576) : (uL l m).length ≤ 1048576 := by
  unfold uL; split
  · simp [unL]; omega
  · simp
theorem below_drewN {w w' : World} (h : ∃ n, w' = w.drewN n) : Below w.heap.size w w' := by
  obtain ⟨n, rfl⟩ := h; exact ⟨rfl, rfl, rfl, Nat.le_refl _, fun _ _ => rfl⟩
theorem Arg.cells {w : World} {a : Option Addr} {len : Nat} {l : List Int} (h : Arg w a len l) (hp : 0 < len) : ∃ b off, a = some ⟨b, off, none⟩ ∧ b < w.heap.size ∧ ∀ j, j < l.length → w.cell? ⟨b, off + j, none⟩ = some (.int .u8 (l.getD j 0)) := by
  rcases h.2.2.2 with rfl | h'
  · have := h.1; simp at this; omega
  · exact h'
theorem union_any (a c : Option Addr) (len cap len2 cap2 : Nat) (l m : List Int) (w : World) (h : Arg w a len l) (h2 : Arg w c len2 m) :
    Calls Try.prog 15 #[.slice a len cap, .slice c len2 cap2] w fun e w' => ∃ av, e = .returned (.tuple #[.slice av (uL l m).length (uL l m).length, .int .i64 (uE l m)]) ∧ Fresh w' w.heap.size av (uL l m) ∧ Below w.heap.size w w' := by
  cases hi : isf l with
  | false =>
    have e : uE l m = 3 := by simp [uE, hi]
    unfold uL; rw [e, if_neg (by omega)]
    exact (un_no1 a len cap l c len2 cap2 w h hi).mono fun e w' ⟨h1, h2⟩ => ⟨none, h1, .inl ⟨rfl, rfl⟩, by rw [h2]; exact Below.refl _ _⟩
  | true =>
    cases hi2 : isf m with
    | false =>
      have e : uE l m = 3 := by simp [uE, hi, hi2]
      unfold uL; rw [e, if_neg (by omega)]
      exact (un_no2 a len cap l c len2 cap2 m w h h2 hi hi2).mono fun e w' ⟨h1, h2⟩ => ⟨none, h1, .inl ⟨rfl, rfl⟩, by rw [h2]; exact Below.refl _ _⟩
    | true =>
      by_cases hl : len2 = len
      · subst hl
        have hl9 := (isf_parts hi).1
        rw [h.len] at hl9
        by_cases hlast : m.getD (len2 - 1) 0 = l.getD (len2 - 1) 0
        · have e : uE l m = 0 := uE_0 hi hi2 (h2.len.trans h.len.symm) (by rw [h.len]; exact hlast)
          unfold uL; rw [e, if_pos rfl, unL_length (h.len.trans h2.len.symm), h.len]
          exact (un_ok a c len2 cap cap2 l m w h h2 hi hi2 hlast).mono fun e w' ⟨h1, h2, h3⟩ => ⟨_, h1, .inr ⟨_, rfl, Nat.le_refl _, h2⟩, h3⟩
        · have e : uE l m = 1 := uE_1 hi hi2 (fun hh => hlast (by have := hh.2; rw [h.len] at this; exact this))
          unfold uL; rw [e, if_neg (by omega)]
          obtain ⟨n, rfl⟩ : ∃ n, len2 = n + 1 := ⟨len2 - 1, by omega⟩
          obtain ⟨b, off, rfl, _, hc⟩ := h.cells (by omega)
          obtain ⟨b2, off2, rfl, _, hc2⟩ := h2.cells (by omega)
          exact (un_last b off n cap l b2 off2 cap2 m w h h2 hi hi2 _ _ (hc n (by rw [h.len]; omega)) (hc2 n (by rw [h2.len]; omega)) (by simpa using hlast)).mono fun e w' ⟨h1, h2⟩ => ⟨none, h1, .inl ⟨rfl, rfl⟩, below_drewN h2⟩
      · have e : uE l m = 1 := by simp [uE, hi, hi2, h.len, h2.len, hl]
        unfold uL; rw [e, if_neg (by omega)]
        exact (un_len a len cap l c len2 cap2 m w h h2 hi hi2 hl).mono fun e w' ⟨h1, h2⟩ => ⟨none, h1, .inl ⟨rfl, rfl⟩, below_drewN h2⟩
theorem chk_isf {l : List Int} (h : l.length ≤ 1048576) : chkB l = isf l := by
  unfold chkB
  have : l.length ≤ 16777216 := by omega
  simp [this]
theorem runion_any (a c : Option Addr) (len cap len2 cap2 : Nat) (l m : List Int) (w : World) (h : Arg w a len l) (h2 : Arg w c len2 m) (hs : len ≤ 1048576) (hs2 : len2 ≤ 1048576) :
    Calls Try.prog 16 #[.slice a len cap, .slice c len2 cap2] w fun e w' => ∃ av cv, e = .returned (.tuple #[.slice av (uL l m).length cv, .int .i64 (uE l m)]) ∧ Arg w' av (uL l m).length (uL l m) ∧ Below w.heap.size w w' := by
  have eA := chk_isf (l := l) (by rw [h.len]; exact hs)
  have eB := chk_isf (l := m) (by rw [h2.len]; exact hs2)
  have nilA : ∀ w', Arg w' none 0 [] := fun w' => ⟨rfl, (fun x hx => by cases hx), by omega, .inl rfl⟩
  cases hi : isf l with
  | false =>
    have e : uE l m = 3 := by simp [uE, hi]
    unfold uL; rw [e, if_neg (by omega)]
    exact (run_no1 a len cap l c len2 cap2 w h (eA.trans hi)).mono fun e w' ⟨h1, h2⟩ => ⟨none, 0, h1, nilA _, by rw [h2]; exact Below.refl _ _⟩
  | true =>
    cases hi2 : isf m with
    | false =>
      have e : uE l m = 3 := by simp [uE, hi, hi2]
      unfold uL; rw [e, if_neg (by omega)]
      exact (run_no2 a len cap l c len2 cap2 m w h h2 (eA.trans hi) (eB.trans hi2)).mono fun e w' ⟨h1, h2⟩ => ⟨none, 0, h1, nilA _, by rw [h2]; exact Below.refl _ _⟩
    | true =>
      by_cases hl : len2 = len
      · subst hl
        have hl9 := (isf_parts hi).1
        rw [h.len] at hl9
        obtain ⟨n, rfl⟩ : ∃ n, len2 = n + 1 := ⟨len2 - 1, by omega⟩
        obtain ⟨b, off, rfl, hlt, hc⟩ := h.cells (by omega)
        obtain ⟨b2, off2, rfl, hlt2, hc2⟩ := h2.cells (by omega)
        by_cases hlast : m.getD n 0 = l.getD n 0
        · have e : uE l m = 0 := uE_0 hi hi2 (h2.len.trans h.len.symm) (by rw [h.len]; exact hlast)
          have hUl := unL_length (h.len.trans h2.len.symm)
          have e2 : uL l m = unL l m := by unfold uL; rw [e, if_pos rfl]
          rw [e, e2]
          refine (run_yes b off n cap l b2 off2 cap2 m w h h2 (eA.trans hi) (eB.trans hi2) hlt hlt2 hc hc2 hlast).mono fun e w' ⟨v, h1, h2, h3⟩ => ?_
          obtain ⟨av, cv, rfl, ha⟩ := h2.arg (unL_byt l m) (by rw [hUl, h.len]; omega)
          exact ⟨av, cv, h1, ha, h3⟩
        · have e : uE l m = 1 := uE_1 hi hi2 (fun hh => hlast (by have := hh.2; rw [h.len] at this; exact this))
          unfold uL; rw [e, if_neg (by omega)]
          exact (run_last b off n cap l b2 off2 cap2 m w h h2 (eA.trans hi) (eB.trans hi2) _ _ (hc n (by rw [h.len]; omega)) (hc2 n (by rw [h2.len]; omega)) (by simpa using fun e => hlast e.symm)).mono fun e w' ⟨h1, h2⟩ => ⟨none, 0, h1, nilA _, below_drewN h2⟩
      · have e : uE l m = 1 := by simp [uE, hi, hi2, h.len, h2.len, hl]
        unfold uL; rw [e, if_neg (by omega)]
        exact (run_len a len cap l c len2 cap2 m w h h2 (eA.trans hi) (eB.trans hi2) hl).mono fun e w' ⟨h1, h2⟩ => ⟨none, 0, h1, nilA _, below_drewN h2⟩
end Go.Proofs.Ytbmljdeenbokmaa
