import Derived.Test.YtkdjahgndkdnhaaWe
import Derived.Test.YtkdjahgndkdnhaaWf
namespace Go.Proofs.Ytkdjahgndkdnhaa
open Go.RowKit Go.Maps Go.Shelf
set_option linter.unusedVariables false
set_option linter.unusedSimpArgs false
/-- What a pick tells. -/
def mtell (ls : Nat → List (Int × Int)) (s : MS) (j : Nat) : Nat × Int := match mpick ls s j with
  | some r => (r.1, r.2.1)
  | none => (0, 8)
theorem mtell_like (ls : Nat → List (Int × Int)) {s u : MS} (h : s.bare = u.bare) (j : Nat) : mtell ls s j = mtell ls u j := by
  have hj := mpick_like ls h j
  unfold mtell
  cases hs : mpick ls s j with
  | none =>
    cases hu : mpick ls u j with
    | none => rfl
    | some r => rw [hs, hu] at hj; cases hj
  | some r =>
    cases hu : mpick ls u j with
    | none => rw [hs, hu] at hj; cases hj
    | some r' =>
      rw [hs, hu] at hj
      simp only [Option.map_some, Option.some.injEq, Prod.mk.injEq] at hj
      simp [hj.1, hj.2.1]
section
variable {w W : World} {b : Nat} {rv : Value} {m : Nat} {ps : List Nat} {xb : Nat} {dv tv : Value} {M : Nat} {q : Nat → Nat} {lv : Nat → Value} {ls : Nat → List (Int × Int)} {n tot : Nat} {s : MS}
/-- A pick, whoever may go. -/
theorem am_any (h : Am w W b rv m ps xb dv tv M q lv ls n tot s) (hn : n ≤ 64) (htot : tot ≤ 900000) (hst : s.st < 3000000) (hls : ∀ i, i < n → ∀ y ∈ ls i, I64 y.1 ∧ I64 y.2) (hll : ∀ i, i < n → (ls i).length ≤ 10000000) {j : Nat} (hj : j ≤ 9223372036854775807) :
    Calls Try.prog 16 #[ptr b, .int .i64 j] W fun e w' => e = .returned (.tuple #[.int .i64 (mtell ls s j).1, .int .i64 (mtell ls s j).2]) ∧ ∃ tv', Am w w' b rv m ps xb dv tv' M q lv ls n tot (mgo ls s [j]) ∧ (mgo ls s [j]).st ≤ s.st + 1 ∧ Tr b rv m ps xb q n tv W tv' w' := by
  unfold mtell
  rw [mgo_one]
  cases hp : mpick ls s j with
  | none =>
    obtain ⟨hL, hcall⟩ := am_none h hn hst hp (j : Int)
    refine hcall.mono ?_
    rintro e w' ⟨he, hB⟩
    exact ⟨he, tv, Ap.below h hB, by dsimp only; omega, (Tr.refl ..).below hB⟩
  | some r =>
    obtain ⟨x, er, s'⟩ := r
    obtain ⟨her, hst', hcall⟩ := am_pick h hn htot hst hls hll hj hp
    refine hcall.mono ?_
    rintro e w' ⟨he, tv', hA, hT⟩
    exact ⟨he, tv', hA, by dsimp only; omega, hT⟩
/-- Where a pair's doings go on, another stays as it is, and the two stay apart. -/
theorem Am.pass {W' : World} {b2 : Nat} {rv2 : Value} {m2 : Nat} {ps2 : List Nat} {xb2 : Nat} {dv2 tv2 : Value} {M2 : Nat} {q2 : Nat → Nat} {lv2 : Nat → Value} {n2 tot2 : Nat} {s2 s' : MS} {tv' : Value}
    (h : Am w W b rv m ps xb dv tv M q lv ls n tot s) (h2 : Am w W b2 rv2 m2 ps2 xb2 dv2 tv2 M2 q2 lv2 ls n2 tot2 s2) (hd : ∀ k, FP b rv m ps xb q n tv k → ¬ FP b2 rv2 m2 ps2 xb2 q2 n2 tv2 k)
    (h' : Am w W' b rv m ps xb dv tv' M q lv ls n tot s') (hT : Tr b rv m ps xb q n tv W tv' W') :
    Am w W' b2 rv2 m2 ps2 xb2 dv2 tv2 M2 q2 lv2 ls n2 tot2 s2 ∧ ∀ k, FP b rv m ps xb q n tv' k → ¬ FP b2 rv2 m2 ps2 xb2 q2 n2 tv2 k := by
  refine ⟨h2.keep hT.1 (fun k hk e => hd k e hk) (fun k hk => (h.fp_lt k hk).2), ?_⟩
  intro k hk e
  rcases hk with hk | hk | hk | hk
  · exact hd k (.inl hk) e
  · exact hd k (.inr (.inl hk)) e
  · exact hd k (.inr (.inr (.inl hk))) e
  · rcases hT.2 with h3 | h3
    · exact hd k (.inr (.inr (.inr (h3 ▸ hk)))) e
    · have h4 := h3 k hk
      have := (h2.fp_lt k e).1
      omega
end
/-- The machine at its beginning. -/
def ms0 (q : Nat → Nat) (n : Nat) : MS := ⟨(List.range n).map (tk0 q), fun _ => none, 0, [], fun _ => 0⟩
theorem ms0_like (q q' : Nat → Nat) (n : Nat) : (ms0 q n).bare = (ms0 q' n).bare := by
  unfold ms0 MS.bare bares
  simp only [List.map_map]
  congr 1
theorem am_begin {w W : World} {b : Nat} {rv : Value} {m : Nat} {ps : List Nat} {ts : List Tk} {xb : Nat} {dv : Value} {q : Nat → Nat} {lv : Nat → Value} {ls : List (List (Int × Int))} {k : Nat} (G : Bg w W b rv m ps ts xb dv q lv ls k) (hsum : sumTo (fun i => (lsAt ls i).length) k ≤ 600000) :
    Am w W b rv m ps xb dv (.slice none 0 0) W.heap.size q lv (lsAt ls) k 600000 (ms0 q k) := by
  have h := ap_begin G hsum
  have e := G.tsk
  subst e
  exact h
/-- Two pairs, the second begun behind the first: they lie apart. -/
theorem begun_apart {w W W2 : World} {b : Nat} {rv : Value} {m : Nat} {ps : List Nat} {xb : Nat} {dv tv : Value} {M : Nat} {q : Nat → Nat} {lv : Nat → Value} {ls : Nat → List (Int × Int)} {n tot : Nat} {s : MS} {b2 : Nat} {rv2 : Value} {m2 : Nat} {ps2 : List Nat} {xb2 : Nat} {dv2 tv2 : Value} {M2 : Nat} {q2 : Nat → Nat} {lv2 : Nat → Value} {n2 tot2 : Nat} {s2 : MS}
    (h : Am w W b rv m ps xb dv tv M q lv ls n tot s) (h2 : Am W W2 b2 rv2 m2 ps2 xb2 dv2 tv2 M2 q2 lv2 ls n2 tot2 s2) : ∀ k, FP b rv m ps xb q n tv k → ¬ FP b2 rv2 m2 ps2 xb2 q2 n2 tv2 k := fun k hk e => by
  have := (h.fp_lt k hk).1
  have := (h2.fp_lt k e).2
  omega
end Go.Proofs.Ytkdjahgndkdnhaa
