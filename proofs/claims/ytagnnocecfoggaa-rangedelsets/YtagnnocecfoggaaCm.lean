/-
  Mathematics of Cut: those that are not empty after the cut lie together.
-/
import Derived.Test.YtagnnocecfoggaaWi2
namespace Go.Proofs.Ytagnnocecfoggaa
set_option linter.unusedVariables false
set_option linter.unusedSimpArgs false
/-- A fragment as far as it lies from b on, ahead of e. -/
def cutF (how : Int) (b e : ByteArray) (f : Fg) : Fg := ⟨if kl how f.b b = true then b else f.b, if kl how e f.e = true then e else f.e, f.q⟩
def onF (how : Int) (f : Fg) : Bool := kl how f.b f.e
theorem nkl_kle {how : Int} {a b : ByteArray} (h : kl how a b = false) : kle how b a = true := by simp [kle, h]
theorem kle_nkl {how : Int} {a b : ByteArray} (h : kle how a b = true) : kl how b a = false := by simpa [kle] using h
theorem kl_lq {how : Int} {a b : ByteArray} (h : kl how a b = true) : kle how a b = true := by
  cases e : kl how b a
  · simp [kle, e]
  · have := (kl_sto how).tr _ _ _ h e; rw [(kl_sto how).irr] at this; cases this
theorem kle_rf {how : Int} (a : ByteArray) : kle how a a = true := by simp [kle, (kl_sto how).irr]
theorem cut_off {how : Int} {b e : ByteArray} {f : Fg} (h : kl how b f.e = false) : onF how (cutF how b e f) = false := by
  unfold onF cutF
  apply kle_nkl
  have h1 : kle how f.e b = true := nkl_kle h
  have h2 : kle how (if kl how e f.e = true then e else f.e) f.e = true := by
    split
    · rename_i hh; exact kl_lq hh
    · exact kle_rf _
  have h3 : kle how b (if kl how f.b b = true then b else f.b) = true := by
    split
    · exact kle_rf _
    · rename_i hh; exact nkl_kle (by simpa using hh)
  exact kle_tr (kle_tr h2 h1) h3
/-- Behind one that is empty all are. -/
theorem cut_rest {how : Int} {b e : ByteArray} {f g : Fg} (hf : kl how b f.e = true) (hbe : kl how f.b f.e = true) (hg : kl how g.b g.e = true) (hfg : kle how f.e g.b = true) (h : onF how (cutF how b e f) = false) : onF how (cutF how b e g) = false := by
  unfold onF cutF at h ⊢
  have hmx : kl how (if kl how f.b b = true then b else f.b) f.e = true := by
    split
    · exact hf
    · exact hbe
  have h' := nkl_kle h
  simp only at h' ⊢
  have he : kle how e (if kl how f.b b = true then b else f.b) = true := by
    by_cases c : kl how e f.e = true
    · rw [if_pos c] at h'; exact h'
    · rw [if_neg c] at h'
      have := kl_kle hmx h'
      rw [(kl_sto how).irr] at this; cases this
  have hle : kle how (if kl how f.b b = true then b else f.b) g.b = true := kle_tr (kl_lq hmx) hfg
  have hgb : kle how g.b (if kl how g.b b = true then b else g.b) = true := by
    split
    · rename_i hh; exact kl_lq hh
    · exact kle_rf _
  have heg : kle how e (if kl how g.b b = true then b else g.b) = true := kle_tr (kle_tr he hle) hgb
  apply kle_nkl
  by_cases c : kl how e g.e = true
  · rw [if_pos c]; exact heg
  · rw [if_neg c]
    exact kle_tr (nkl_kle (by simpa using c)) heg
theorem cut_eq {how : Int} {b e : ByteArray} : ∀ {L : List Fg}, FrO how L → ((L.drop (rch how L b)).map (cutF how b e)).takeWhile (onF how) = (L.map (cutF how b e)).filter (onF how) := by
  have H : ∀ {L : List Fg}, FrO how L → (∀ f ∈ L, kl how b f.e = true) → (L.map (cutF how b e)).takeWhile (onF how) = (L.map (cutF how b e)).filter (onF how) := by
    intro L
    induction L with
    | nil => intro _ _; rfl
    | cons f L ih =>
      intro ho hr
      have hup := List.pairwise_cons.1 ho.up
      rw [List.map_cons, List.takeWhile_cons, List.filter_cons]
      cases hf : onF how (cutF how b e f)
      · simp only [Bool.false_eq_true, if_false]
        symm
        rw [List.filter_eq_nil_iff]
        intro g hg
        obtain ⟨g, hgL, rfl⟩ := List.mem_map.1 hg
        rw [cut_rest (hr f (by simp)) (ho.be f (by simp)) (ho.be g (by simp [hgL])) (hup.1 g hgL) hf]
        simp
      · simp only [if_true]
        rw [ih ⟨fun g hg => ho.be g (by simp [hg]), hup.2⟩ (fun g hg => hr g (by simp [hg]))]
  intro L
  induction L with
  | nil => intro _; rfl
  | cons f L ih =>
    intro ho
    have hup := List.pairwise_cons.1 ho.up
    cases hf : kl how b f.e
    · have e1 : rch how (f :: L) b = rch how L b + 1 := by unfold rch; rw [List.findIdx_cons, hf]; rfl
      rw [e1, List.drop_succ_cons, ih ⟨fun g hg => ho.be g (by simp [hg]), hup.2⟩, List.map_cons, List.filter_cons, cut_off hf]
      simp
    · have e1 : rch how (f :: L) b = 0 := by unfold rch; rw [List.findIdx_cons, hf]; rfl
      rw [e1, List.drop_zero]
      refine H ho fun g hg => ?_
      rcases List.mem_cons.1 hg with rfl | hg
      · exact hf
      · exact (kl_sto how).tr _ _ _ hf (kle_kl (hup.1 g hg) (ho.be g (by simp [hg])))
end Go.Proofs.Ytagnnocecfoggaa
