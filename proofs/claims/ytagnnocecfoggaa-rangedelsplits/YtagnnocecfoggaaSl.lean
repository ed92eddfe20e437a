/-
  RangedelSplits: the law's walk.
-/
import Derived.Test.YtagnnocecfoggaaMu
import Derived.Test.YtagnnocecfoggaaLv
import Derived.Test.YtagnnocecfoggaaSa
import Derived.Test.YtagnnocecfoggaaRs
import Derived.Test.YtagnnocecfoggaaJg
import Derived.Deep.RegionWith
namespace Go.Proofs.Ytagnnocecfoggaa
open Go.RowKit
set_option linter.unusedVariables false
set_option linter.unusedSimpArgs false
set_option maxRecDepth 100000 in
set_option maxHeartbeats 2000000 in
theorem splits_walk {w : World} {how : Int} {aa ab : Option Addr} {ca cb : Nat} {la : List Tm} {L : List Fg} (ha : RdT w aa la) (hna : aa = none → ca = 0) (hb : RdF w ab L) (hla : la.length * 40 ≤ 140737488355328) (hlb : L.length ≤ 140737488355328) (hqb : ∀ f ∈ L, f.q.length ≤ 140737488355328) :
    Calls Try.prog 3 #[.int .i64 how, .slice aa la.length ca, .slice ab L.length cb] w fun e w' => e = .returned (.bool true) ∧ Below w.heap.size w w' := by
  obtain ⟨SL, hSL⟩ : ∃ SL, sL how la = SL := ⟨_, rfl⟩
  obtain ⟨E, hE⟩ : ∃ E, splE how la = E := ⟨_, rfl⟩
  obtain ⟨M, hM⟩ : ∃ M, SL.length = M := ⟨_, rfl⟩
  obtain ⟨JL, hJL⟩ : ∃ JL, jL how L = JL := ⟨_, rfl⟩
  obtain ⟨JE, hJE⟩ : ∃ JE, jnE how L = JE := ⟨_, rfl⟩
  obtain ⟨NJ, hNJ⟩ : ∃ NJ, JL.length = NJ := ⟨_, rfl⟩
  obtain ⟨NA, hNA⟩ : ∃ NA, la.length = NA := ⟨_, rfl⟩
  obtain ⟨NB, hNB⟩ : ∃ NB, L.length = NB := ⟨_, rfl⟩
  have hsl := sl_le how la
  rw [hSL] at hsl
  have hjl := jl_le how L
  rw [hJL] at hjl
  have HA : Hid (∀ W, Below w.heap.size w W → Calls Try.prog 8 #[.slice aa NA ca] W fun e w' => ∃ v, e = .returned v ∧ RowT w' W.heap.size v la ∧ Below W.heap.size W w') := fun W hb => by
    have := copied_any (ha.below hb) hna hla
    rw [hNA] at this
    exact this
  have HSp : Hid (∀ W v, (∃ b, RowT W b v la) → Calls Try.prog 7 #[.int .i64 how, v] W fun e w' => ∃ a' c, e = .returned (.tuple #[.slice a' M c, .int .i64 E]) ∧ RdF w' a' SL ∧ Below W.heap.size W w') := fun W v ⟨b, hr⟩ => by
    obtain ⟨a, c, rfl, _, hrd, _⟩ := row_rd tm_k hr
    refine (Split_any hrd how).mono ?_
    rw [hSL, hE, hM]
    rintro e w' ⟨a', c, h1, _, h2, h3⟩
    exact ⟨a', c, h1, h2, h3⟩
  have HRs : Hid (∀ W, Below w.heap.size w W → Calls Try.prog 9 #[.int .i64 how, .slice aa NA ca] W fun e w' => ∃ a' c, e = .returned (.tuple #[.slice a' M c, .int .i64 E]) ∧ RdF w' a' SL ∧ Below W.heap.size W w') := fun W hb => by
    have := rSplit_any (cap := ca) (ha.below hb) how
    rw [hSL, hE, hM, hNA] at this
    refine this.mono ?_
    rintro e w' ⟨a', c, h1, _, h2, h3⟩
    exact ⟨a', c, h1, h2, h3⟩
  have HJ : Hid (∀ W, Below w.heap.size w W → Calls Try.prog 10 #[.int .i64 how, .slice ab NB cb] W fun e w' => ∃ a' c, e = .returned (.tuple #[.slice a' NJ c, .int .i64 JE]) ∧ RdT w' a' JL ∧ Below W.heap.size W w') := fun W hw => by
    have := Join_any (c := cb) (hb.below hw) how hlb hqb
    rw [hJL, hJE, hNJ, hNB] at this
    exact this
  have HRj : Hid (∀ W, Below w.heap.size w W → Calls Try.prog 11 #[.int .i64 how, .slice ab NB cb] W fun e w' => ∃ a' c, e = .returned (.tuple #[.slice a' NJ c, .int .i64 JE]) ∧ RdT w' a' JL ∧ Below W.heap.size W w') := fun W hw => by
    have := rJoin_any (c := cb) (hb.below hw) how hlb hqb
    rw [hJL, hJE, hNJ, hNB] at this
    exact this
  have HFs : Hid (∀ W a a' c c', RdF W a SL → RdF W a' SL → Calls Try.prog 12 #[.slice a M c, .slice a' M c'] W fun e w' => e = .returned (.bool true) ∧ Below W.heap.size W w') := fun W a a' c c' h1 h2 => by
    have := frags_same (c := c) (c' := c') h1 h2 (by omega) (fun f hf => by have := hsl.2 f hf; omega)
    rw [hM] at this
    exact this
  have HTs : Hid (∀ W a a' c c', RdT W a JL → RdT W a' JL → Calls Try.prog 13 #[.slice a NJ c, .slice a' NJ c'] W fun e w' => e = .returned (.bool true) ∧ Below W.heap.size W w') := fun W a a' c c' h1 h2 => by
    have := tombs_same (c := c) (c' := c') h1 h2 (by omega)
    rw [hNJ] at this
    exact this
  have HLi : Hid (∀ W, Calls Try.prog 14 #[] W fun e w' => e = .returned (.bool true) ∧ Below W.heap.size W w') := lives_any
  have H2 : Hid (E = 0 → ∃ (T : List Tm) (NT M2 : Nat) (E2 : Int) (S2 : List Fg), ((E2 = 2 ∧ 1024 < NT) ∨ (E2 = 0 ∧ M2 = M ∧ S2 = SL)) ∧ NT ≤ 1048576 ∧ (∀ W a c, RdF W a SL → Calls Try.prog 10 #[.int .i64 how, .slice a M c] W fun e w' => ∃ a' c, e = .returned (.tuple #[.slice a' NT c, .int .i64 0]) ∧ RdT w' a' T ∧ Below W.heap.size W w') ∧ (∀ W a c, RdT W a T → Calls Try.prog 7 #[.int .i64 how, .slice a NT c] W fun e w' => ∃ a' c, e = .returned (.tuple #[.slice a' M2 c, .int .i64 E2]) ∧ RdF w' a' S2 ∧ Below W.heap.size W w')) := fun e0 => by
    rw [e0] at hE
    have hfr : sL how la = frs how la := by unfold sL; rw [if_pos hE]
    rw [hSL] at hfr
    have hj := frs_jl hE
    have hc := frs_can hE
    have hg := spl_again hE
    rw [← hfr] at hj hc hg
    refine ⟨jnT SL, (jnT SL).length, (sL how (jnT SL)).length, splE how (jnT SL), sL how (jnT SL), ?_, ?_, fun W a c h => ?_, fun W a c h => ?_⟩
    · rcases hg with ⟨a, b, c⟩ | ⟨a, b⟩
      · exact .inl ⟨a, c⟩
      · exact .inr ⟨a, by rw [b, hM], b⟩
    · have := jl_le how SL
      rw [hj] at this
      exact this
    · have := Join_any (c := c) h how (by omega) (fun f hf => by have := hsl.2 f hf; omega)
      rw [hj, hc, hM] at this
      exact this
    · refine (Split_any h how).mono ?_
      rintro e w' ⟨a', c, h1, _, h2, h3⟩
      exact ⟨a', c, h1, h2, h3⟩
  rw [hNA, hNB]
  have HB0 : Hid (Below w.heap.size w w) := Below.refl _ _
  clear ha hb hsl hjl hSL hE hM hJL hJE hNJ hNA hNB hla hlb hqb hna
  go_enter Try.func3, Try.ntmps3
  go_upto_region 2 with (first
    | (go_at_call 8; refine (HA.out _ HB0.out).mono ?_; rintro e w1 ⟨v1, rfl, r1, r2⟩
       have HN1 := HSp.out w1 v1 ⟨_, r1⟩
       have HB1 : Hid (Below w.heap.size w w1) := r2
       clear r1 r2)
    | (go_at_call 7; refine HN1.mono ?_; rintro e w2 ⟨a2, c2, rfl, r1, r2⟩
       have HB2 : Hid (Below w.heap.size w w2) := HB1.out.trans (r2.mono HB1.out.size)
       have HF2 : Hid (RdF w2 a2 SL) := r1
       clear r1 r2 HN1))
  go_upto_region 3 with (first
    | (go_at_call 9; refine (HRs.out _ HB2.out).mono ?_; rintro e w3 ⟨a3, c3, rfl, r1, r2⟩
       have HB3 : Hid (Below w.heap.size w w3) := HB2.out.trans (r2.mono HB2.out.size)
       have HF3 : Hid (RdF w3 a2 SL ∧ RdF w3 a3 SL) := ⟨HF2.out.below r2, r1⟩
       clear r1 r2))
  go_upto_region 4 with (first
    | (go_at_call 10; refine (HJ.out _ HB3.out).mono ?_; rintro e w4 ⟨a4, c4, rfl, r1, r2⟩
       have HB4 : Hid (Below w.heap.size w w4) := HB3.out.trans (r2.mono HB3.out.size)
       have HF4 : Hid ((RdF w4 a2 SL ∧ RdF w4 a3 SL) ∧ RdT w4 a4 JL) := ⟨⟨HF3.out.1.below r2, HF3.out.2.below r2⟩, r1⟩
       clear r1 r2))
  go_upto_region 5 with (first
    | (go_at_call 11; refine (HRj.out _ HB4.out).mono ?_; rintro e w5 ⟨a5, c5, rfl, r1, r2⟩
       have HB5 : Hid (Below w.heap.size w w5) := HB4.out.trans (r2.mono HB4.out.size)
       have HF5 : Hid ((RdF w5 a2 SL ∧ RdF w5 a3 SL) ∧ RdT w5 a4 JL ∧ RdT w5 a5 JL) := ⟨⟨HF4.out.1.1.below r2, HF4.out.1.2.below r2⟩, HF4.out.2.below r2, r1⟩
       clear r1 r2))
  clear HF2 HF3 HF4
  have HX := HFs.out w5 a2 a3 c2 c3 HF5.out.1.1 HF5.out.1.2
  by_cases h0 : E = 0
  · subst h0
    obtain ⟨T, NT, M2, E2, S2, hcase, hNT, J2, S2'⟩ := H2.out rfl
    have HJ2 : Hid (∀ W a c, RdF W a SL → Calls Try.prog 10 #[.int .i64 how, .slice a M c] W fun e w' => ∃ a' c, e = .returned (.tuple #[.slice a' NT c, .int .i64 0]) ∧ RdT w' a' T ∧ Below W.heap.size W w') := J2
    have HS2 : Hid (∀ W a c, RdT W a T → Calls Try.prog 7 #[.int .i64 how, .slice a NT c] W fun e w' => ∃ a' c, e = .returned (.tuple #[.slice a' M2 c, .int .i64 E2]) ∧ RdF w' a' S2 ∧ Below W.heap.size W w') := S2'
    have HC : Hid ((E2 = 2 ∧ 1024 < NT) ∨ (E2 = 0 ∧ M2 = M ∧ S2 = SL)) := hcase
    clear J2 S2' H2 hcase
    go_upto_region 9 with (first
      | (go_at_call 12; refine HX.mono ?_; rintro e w6 ⟨rfl, r2⟩
         have HB6 : Hid (Below w.heap.size w w6) := HB5.out.trans (r2.mono HB5.out.size)
         have HX2 := HTs.out w6 a4 a5 c4 c5 (HF5.out.2.1.below r2) (HF5.out.2.2.below r2)
         have HF6 : Hid (RdF w6 a2 SL) := HF5.out.1.1.below r2
         clear r2)
      | (go_at_call 13; refine HX2.mono ?_; rintro e w7 ⟨rfl, r2⟩
         have HB7 : Hid (Below w.heap.size w w7) := HB6.out.trans (r2.mono HB6.out.size)
         have HF7 : Hid (RdF w7 a2 SL) := HF6.out.below r2
         clear r2))
    go_upto_region 10 with (first
      | (go_at_call 10; refine (HJ2.out w7 a2 c2 HF7.out).mono ?_; rintro e w8 ⟨a8, c8, rfl, r1, r2⟩
         have HB8 : Hid (Below w.heap.size w w8) := HB7.out.trans (r2.mono HB7.out.size)
         have HF8 : Hid (RdF w8 a2 SL) := HF7.out.below r2
         have HT8 : Hid (RdT w8 a8 T) := r1
         clear r1 r2))
    go_upto_region 13 with (first
      | (go_at_call 7; refine (HS2.out w8 a8 c8 HT8.out).mono ?_; rintro e w9 ⟨a9, c9, rfl, r1, r2⟩
         have HB9 : Hid (Below w.heap.size w w9) := HB8.out.trans (r2.mono HB8.out.size)
         have HF9 : Hid (RdF w9 a2 SL) := HF8.out.below r2
         have HT9 : Hid (RdF w9 a9 S2) := r1
         clear r1 r2))
    rcases HC.out with ⟨rfl, hn⟩ | ⟨rfl, rfl, rfl⟩
    · have hn' : (1024 : Int) < NT := by omega
      go_wp2_with (first
        | (go_at_call 14; refine (HLi.out w9).mono ?_; rintro e w10 ⟨rfl, r2⟩
           have HB10 : Hid (Below w.heap.size w w10) := HB9.out.trans (r2.mono HB9.out.size)
           clear r2))
      go_ret
      exact ⟨rfl, HB10.out⟩
    · have HX9 := HFs.out w9 a9 a2 c9 c2 HT9.out HF9.out
      go_wp2_with (first
        | (go_at_call 12; refine HX9.mono ?_; rintro e w10 ⟨rfl, r2⟩
           have HB10 : Hid (Below w.heap.size w w10) := HB9.out.trans (r2.mono HB9.out.size)
           clear r2)
        | (go_at_call 14; refine (HLi.out w10).mono ?_; rintro e w11 ⟨rfl, r2⟩
           have HB11 : Hid (Below w.heap.size w w11) := HB10.out.trans (r2.mono HB10.out.size)
           clear r2))
      go_ret
      exact ⟨rfl, HB11.out⟩
  · have hE0 : (E == 0) = false := by simpa using h0
    go_wp2_with (first
      | (go_at_call 12; refine HX.mono ?_; rintro e w6 ⟨rfl, r2⟩
         have HB6 : Hid (Below w.heap.size w w6) := HB5.out.trans (r2.mono HB5.out.size)
         have HX2 := HTs.out w6 a4 a5 c4 c5 (HF5.out.2.1.below r2) (HF5.out.2.2.below r2)
         clear r2)
      | (go_at_call 13; refine HX2.mono ?_; rintro e w7 ⟨rfl, r2⟩
         have HB7 : Hid (Below w.heap.size w w7) := HB6.out.trans (r2.mono HB6.out.size)
         clear r2)
      | (go_at_call 14; refine (HLi.out w7).mono ?_; rintro e w8 ⟨rfl, r2⟩
         have HB8 : Hid (Below w.heap.size w w8) := HB7.out.trans (r2.mono HB7.out.size)
         clear r2))
    go_ret
    exact ⟨rfl, HB8.out⟩
end Go.Proofs.Ytagnnocecfoggaa
