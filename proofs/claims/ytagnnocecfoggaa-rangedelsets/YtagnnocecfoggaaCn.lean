/-
  Mathematics: the greatest over a key of what was cut; Covers by the greatest.
-/
import Derived.Test.YtagnnocecfoggaaCm
import Derived.Test.YtagnnocecfoggaaMs
namespace Go.Proofs.Ytagnnocecfoggaa
set_option linter.unusedVariables false
set_option linter.unusedSimpArgs false
theorem cut_b {how : Int} (b e : ByteArray) (f : Fg) : kle how b (cutF how b e f).b = true ∧ kle how f.b (cutF how b e f).b = true := by
  unfold cutF
  by_cases c : kl how f.b b = true
  · simp only [if_pos c]; exact ⟨kle_rf _, kl_le c⟩
  · simp only [if_neg c]; exact ⟨nkl_kle (by simpa using c), kle_rf _⟩
theorem cut_e {how : Int} (b e : ByteArray) (f : Fg) : kle how (cutF how b e f).e e = true ∧ kle how (cutF how b e f).e f.e = true := by
  unfold cutF
  by_cases c : kl how e f.e = true
  · simp only [if_pos c]; exact ⟨kle_rf _, kl_le c⟩
  · simp only [if_neg c]; exact ⟨nkl_kle (by simpa using c), kle_rf _⟩
theorem cut_over {how : Int} {b e k : ByteArray} {f : Fg} : (kle how (cutF how b e f).b k = true ∧ kl how k (cutF how b e f).e = true) ↔ (kle how b k = true ∧ kl how k e = true) ∧ kle how f.b k = true ∧ kl how k f.e = true := by
  constructor
  · rintro ⟨h1, h2⟩
    exact ⟨⟨kle_tr (cut_b b e f).1 h1, kl_kle h2 (cut_e b e f).1⟩, kle_tr (cut_b b e f).2 h1, kl_kle h2 (cut_e b e f).2⟩
  · rintro ⟨⟨h1, h2⟩, h3, h4⟩
    unfold cutF
    constructor
    · simp only; split
      · exact h1
      · exact h3
    · simp only; split
      · exact h2
      · exact h4
/-- What Cut tells. -/
def cutT (how : Int) (b e : ByteArray) (L : List Fg) : List Tm := jnT ((L.map (cutF how b e)).filter (onF how))
theorem cutT_over {how : Int} {l : List Tm} {b e k : ByteArray} {s : Int} : (∃ t ∈ cutT how b e (frs how l), ovr how t k = true ∧ s = t.s) ↔ (kle how b k = true ∧ kl how k e = true) ∧ ∃ t ∈ l, ovr how t k = true ∧ s = t.s := by
  have hF := frs_frs how l
  constructor
  · rintro ⟨t, ht, ho, rfl⟩
    obtain ⟨g, hg, e1, e2, e3⟩ := jnT_mem.1 ht
    obtain ⟨hg, _⟩ := List.mem_filter.1 hg
    obtain ⟨f, hf, rfl⟩ := List.mem_map.1 hg
    simp only [ovr, Bool.and_eq_true, e1, e2] at ho
    obtain ⟨hi, h1, h2⟩ := cut_over.1 ho
    refine ⟨hi, ?_⟩
    have e3' : t.s ∈ f.q := e3
    rw [hF.at_ f hf k h1 h2] at e3'
    exact ((seqsAt_facts how l k).2 _).1 e3'
  · rintro ⟨hi, hs⟩
    have hm := ((seqsAt_facts how l k).2 s).2 hs
    obtain ⟨f, hf, h1, h2⟩ := hF.has k (fun e => by rw [e] at hm; simp at hm)
    have ho := cut_over.2 ⟨hi, h1, h2⟩
    refine ⟨⟨(cutF how b e f).b, (cutF how b e f).e, s⟩, jnT_mem.2 ⟨cutF how b e f, List.mem_filter.2 ⟨List.mem_map.2 ⟨f, hf, rfl⟩, kle_kl ho.1 ho.2⟩, rfl, rfl, ?_⟩, ?_, rfl⟩
    · show s ∈ f.q
      rw [hF.at_ f hf k h1 h2]; exact hm
    · simp only [ovr, Bool.and_eq_true]; exact ho
theorem cutT_nn {how : Int} {l : List Tm} (hl : ∀ t ∈ l, 0 ≤ t.s) (b e : ByteArray) : ∀ t ∈ cutT how b e (frs how l), 0 ≤ t.s := by
  intro t ht
  obtain ⟨g, hg, _, _, e3⟩ := jnT_mem.1 ht
  obtain ⟨hg, _⟩ := List.mem_filter.1 hg
  obtain ⟨f, hf, rfl⟩ := List.mem_map.1 hg
  have e3' : t.s ∈ f.q := e3
  rw [(frs_frs how l).at_ f hf f.b (kle_rf _) ((frs_frs how l).be f hf)] at e3'
  obtain ⟨u, hu, _, e⟩ := ((seqsAt_facts how l f.b).2 _).1 e3'
  rw [e]; exact hl u hu
theorem cut_most {how : Int} {l : List Tm} (hl : ∀ t ∈ l, 0 ≤ t.s) (b e k : ByteArray) (n : Int) : refMost how (cutT how b e (frs how l)) k n = if kle how b k = true ∧ kl how k e = true then refMost how l k n else 0 := by
  have h1 := refMost_is (how := how) (cutT_nn (how := how) hl b e) k n
  have h2 := refMost_is (how := how) hl k n
  split
  · rename_i hi
    refine IsMost.unique h1 ⟨?_, h2.nn, fun s hs hn => h2.ge s (cutT_over.1 hs).2 hn⟩
    rcases h2.is with e0 | ⟨e1, e2⟩
    · exact .inl e0
    · exact .inr ⟨cutT_over.2 ⟨hi, e1⟩, e2⟩
  · rename_i hi
    rcases h1.is with e0 | ⟨e1, e2⟩
    · exact e0
    · exact absurd (cutT_over.1 e1).1 hi
def cvB (how : Int) (u : ByteArray) (s n : Int) (t : Tm) : Bool := ovr how t u && decide (t.s ≤ n) && decide (s < t.s)
theorem cover_most {how : Int} {l : List Tm} (hl : ∀ t ∈ l, 0 ≤ t.s) (u : ByteArray) {s : Int} (hs : 0 ≤ s) (n : Int) : l.any (cvB how u s n) = decide (s < refMost how l u n) := by
  have h := refMost_is (how := how) hl u n
  rw [Bool.eq_iff_iff, List.any_eq_true, decide_eq_true_eq]
  constructor
  · rintro ⟨t, ht, hc⟩
    simp only [cvB, Bool.and_eq_true, decide_eq_true_eq] at hc
    have := h.ge t.s ⟨t, ht, hc.1.1, rfl⟩ hc.1.2
    omega
  · intro hm
    rcases h.is with e0 | ⟨⟨t, ht, ho, e⟩, e2⟩
    · omega
    · refine ⟨t, ht, ?_⟩
      simp only [cvB, Bool.and_eq_true, decide_eq_true_eq]
      rw [← e]
      exact ⟨⟨ho, e2⟩, hm⟩
end Go.Proofs.Ytagnnocecfoggaa
