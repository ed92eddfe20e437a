/-
  Mathematics: both Wholes tell the same; Covers by the greatest.
-/
import Derived.Test.YtagnnocecfoggaaWh
namespace Go.Proofs.Ytagnnocecfoggaa
set_option linter.unusedVariables false
set_option linter.unusedSimpArgs false
theorem rwhole_done {how : Int} {e : ByteArray} {below n : Int} {L : List Fg} {b : ByteArray} (h : kl how b e = false) : rwholeF how e below n L b = true := by
  cases L with
  | nil => simp [rwholeF, kle, h]
  | cons f L => simp [rwholeF, kle, h]
theorem rwhole_skip {how : Int} {e : ByteArray} {below n : Int} {L : List Fg} {f : Fg} {b : ByteArray} (h : kl how b f.e = false) : rwholeF how e below n (f :: L) b = rwholeF how e below n L b := by
  cases hb : kl how b e
  · rw [rwhole_done hb, rwhole_done hb]
  · simp [rwholeF, hb, h]
theorem mostQ_in {q : List Int} (hq : Str gt q) (hnn : ∀ x ∈ q, 0 ≤ x) (n : Int) {below : Int} (hb : 0 ≤ below) : mostQ q n ≤ below ↔ q.any (inB below n) = false := by
  have h := mostQ_is hq hnn n
  rw [List.any_eq_false]
  constructor
  · intro hm s hs
    simp only [inB, Bool.and_eq_true, decide_eq_true_eq, not_and]
    intro h1 h2
    have := h.ge s hs h2
    omega
  · intro ha
    rcases h.is with e | ⟨e1, e2⟩
    · omega
    · have := ha _ e1
      simp only [inB, Bool.and_eq_true, decide_eq_true_eq, not_and] at this
      omega
theorem whole_same {how : Int} {e : ByteArray} {below n : Int} (hb : 0 ≤ below) : ∀ {L : List Fg} {b : ByteArray}, FrO how L → (∀ f ∈ L, Str gt f.q) → (∀ f ∈ L, ∀ x ∈ f.q, 0 ≤ x) → (∀ f ∈ L, kl how b f.e = true) → wholeF how e below n L b = rwholeF how e below n L b := by
  intro L
  induction L with
  | nil => intro b _ _ _ _; rfl
  | cons f L ih =>
    intro b ho hs hn hr
    have hup := List.pairwise_cons.1 ho.up
    have h1 := ih (b := f.e) ⟨fun g hg => ho.be g (by simp [hg]), hup.2⟩ (fun g hg => hs g (by simp [hg])) (fun g hg => hn g (by simp [hg])) (fun g hg => kle_kl (hup.1 g hg) (ho.be g (by simp [hg])))
    have h2 := mostQ_in (hs f (by simp)) (hn f (by simp)) n hb
    have h3 := hr f (by simp)
    unfold wholeF rwholeF
    rw [h1, h3]
    cases hbe : kl how b e
    · simp [kle, hbe]
    · simp only [kle, hbe, Bool.not_true, Bool.false_eq_true, if_false, h2, Bool.true_eq_false]
      by_cases c1 : kl how b f.b = true
      · simp [c1]
      · simp [c1]
theorem whole_eq {how : Int} {e : ByteArray} {below n : Int} (hb : 0 ≤ below) : ∀ {L : List Fg} {b : ByteArray}, FrO how L → (∀ f ∈ L, Str gt f.q) → (∀ f ∈ L, ∀ x ∈ f.q, 0 ≤ x) → wholeF how e below n (L.drop (rch how L b)) b = rwholeF how e below n L b := by
  intro L
  induction L with
  | nil => intro b _ _ _; rfl
  | cons f L ih =>
    intro b ho hs hn
    have hup := List.pairwise_cons.1 ho.up
    cases hf : kl how b f.e
    · have h1 := ih (b := b) ⟨fun g hg => ho.be g (by simp [hg]), hup.2⟩ (fun g hg => hs g (by simp [hg])) (fun g hg => hn g (by simp [hg]))
      have e1 : rch how (f :: L) b = rch how L b + 1 := by unfold rch; rw [List.findIdx_cons, hf]; rfl
      rw [e1, List.drop_succ_cons, h1, rwhole_skip hf]
    · have e1 : rch how (f :: L) b = 0 := by unfold rch; rw [List.findIdx_cons, hf]; rfl
      rw [e1, List.drop_zero]
      refine whole_same hb ho hs hn fun g hg => ?_
      rcases List.mem_cons.1 hg with rfl | hg
      · exact hf
      · exact (kl_sto how).tr _ _ _ hf (kle_kl (hup.1 g hg) (ho.be g (by simp [hg])))
end Go.Proofs.Ytagnnocecfoggaa
