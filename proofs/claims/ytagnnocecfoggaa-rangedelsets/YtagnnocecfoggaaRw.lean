/-
  Slices that are cut and appended; the reference's with and seqs.
-/
import Derived.Test.YtagnnocecfoggaaCk
namespace Go.Proofs.Ytagnnocecfoggaa
open Go.RowKit
set_option linter.unusedVariables false
set_option linter.unusedSimpArgs false
/-- Where a slice begins behind its first m, its elements of k cells. -/
def cutK (k : Nat) (a : Option Addr) (cap m : Nat) : Option Addr := if cap = m then a else a.map (·.add (m * k))
theorem cutK_run {t e : TypeId} {k : Nat} (hel : Try.prog.elem t = e) (ht : Try.prog.underlying t = some (.slice (Try.prog.elem t))) (hs : ∀ W, (sizeOf e).run Try.prog W = .ok k W) (a : Option Addr) (n cap m : Nat) (h : m ≤ n) (W : World) :
    (Instr.sliceAt t (.slice a n cap) (some (.int .i64 m)) none none).run Try.prog W = .ok (.slice (cutK k a cap m) (n - m) (cap - m)) W := by
  have hr := run_slice_l (P := Try.prog) W t a n cap ht .i64 (m : Int) (by omega) (by omega)
  rw [hel, hs] at hr
  simp only [Result.andThen, sliced, Int.toNat_natCast] at hr
  rw [run_sliceAt_slice _ _ _ _ _ _ ht, hr]
  unfold cutK
  cases a <;> split <;> simp
theorem cutH_run {t e : TypeId} {k : Nat} (hel : Try.prog.elem t = e) (ht : Try.prog.underlying t = some (.slice (Try.prog.elem t))) (hs : ∀ W, (sizeOf e).run Try.prog W = .ok k W) (a : Option Addr) (n cap m : Nat) (h : m ≤ cap) (W : World) :
    (Instr.sliceAt t (.slice a n cap) none (some (.int .i64 m)) none).run Try.prog W = .ok (.slice a m cap) W := by
  have hr := run_slice_h (P := Try.prog) W t a n cap ht .i64 (m : Int) (by omega) (by omega)
  rw [hel, hs] at hr
  simp only [Result.andThen, sliced, Int.toNat_natCast] at hr
  rw [run_sliceAt_slice _ _ _ _ _ _ ht, hr]
  cases a <;> simp [Addr.add]
theorem elem59 : Try.prog.elem 59 = 9 := by kernel_rfl
theorem slc59 : Try.prog.underlying 59 = some (.slice (Try.prog.elem 59)) := by rw [elem59]; exact Try.underlying59
theorem size9 (W : World) : (sizeOf 9).run Try.prog W = .ok 1 W := by kernel_rfl
theorem elem61 : Try.prog.elem 61 = 38 := by kernel_rfl
theorem slc61 : Try.prog.underlying 61 = some (.slice (Try.prog.elem 61)) := by rw [elem61]; exact Try.underlying61
theorem size38 (W : World) : (sizeOf 38).run Try.prog W = .ok 1 W := by kernel_rfl
section
variable {α : Type} {enc : α → List Value} {k : Nat}
theorem Rd.take {w : World} {a : Option Addr} {l : List α} (h : Rd enc k w a l) (m : Nat) : Rd enc k w a (l.take m) := by
  rcases h with rfl | ⟨g, o, rfl, hc⟩
  · exact .inl (by simp)
  · exact .inr ⟨g, o, rfl, fun j x hj => hc j x (by
      have := (List.getElem?_eq_some_iff.1 hj).1
      simp at this
      rw [List.getElem?_take_of_lt (by omega)] at hj; exact hj)⟩
theorem Rd.drop {w : World} {a : Option Addr} {l : List α} (h : Rd enc k w a l) {c m : Nat} (hl : l.length ≤ c) : Rd enc k w (cutK k a c m) (l.drop m) := by
  rcases h with rfl | ⟨g, o, rfl, hc⟩
  · exact .inl (by simp)
  · by_cases hm : c = m
    · left; rw [List.drop_eq_nil_of_le (by omega)]
    · right
      refine ⟨g, o + m * k, by unfold cutK; rw [if_neg hm]; simp [add_at], fun j x hj => ?_⟩
      rw [List.getElem?_drop] at hj
      have := hc _ x hj
      rw [show o + m * k + j * k = o + (m + j) * k by rw [Nat.add_mul]; omega]
      exact this
theorem app_run {t e : TypeId} {z : Value} {by_ : Nat} (hk : ∀ x, (enc x).length = k) (h1 : ∀ x, ∀ u ∈ enc x, u.oneCell' = true) (ht : Try.prog.underlying t = some (.slice e)) (hinf : (Try.prog.info? e).map (fun i => (i.zero, i.size, i.bytes)) = some (some z, k, by_)) (hzs : z.cells.size = k) (hk0 : 0 < k)
    {w : World} {base : Nat} {v : Value} {l0 l : List α} (ho : w.ownsRow base e k v l0.length (cls enc l0)) (hb : base ≤ w.heap.size) {a : Option Addr} {cap : Nat} (h : Rd enc k w a l) (hn : a = none → cap = 0) (hl : (l0.length + l.length) * by_ ≤ 140737488355328) (hm : l0.length + l.length ≤ maxLen) :
    ∃ v' w', (Builtin.append_ #[t, t] t #[v, .slice a l.length cap]).run Try.prog w = .ok v' w' ∧ w'.ownsRow base e k v' (l0 ++ l).length (cls enc (l0 ++ l)) ∧ Upd (fun k => v.ownBlock = some k) w w' := by
  cases a with
  | none =>
    have hl0 : l = [] := by rcases h with h | ⟨_, _, h, _⟩; exact h; cases h
    subst hl0
    rw [hn rfl]
    refine ⟨v, w, ?_, by simpa using ho, Upd.refl _ _⟩
    obtain ⟨i0, hi, _⟩ := info_parts hinf
    exact run_append_owned_none _ _ _ _ _ i0 _ ht hi _ _ _ ho
  | some ad =>
    have hs : ∀ j u, (cls enc l)[j]? = some u → w.cell? (ad.add j) = some u := by
      rcases h with rfl | ⟨g, o, e, hc⟩
      · intro j u hu; simp [cls] at hu
      · cases e; exact rd_src hk hk0 hc
    obtain ⟨v', w', hr, h2, h3, h4⟩ := pushes_g (P := Try.prog) hk h1 ht hinf hzs hk0 (c := cap) ho hb hs t hl hm
    exact ⟨v', w', hr, h2, h3⟩
theorem cutK_none {a : Option Addr} {c m : Nat} (h : a = none → c = 0) : cutK k a c m = none → c - m = 0 := by
  unfold cutK
  split
  · intro e; have := h e; omega
  · cases a with
    | none => intro _; have := h rfl; omega
    | some x => simp
end
/-- A slice that reads as l, with its room. -/
structure RdC {α : Type} (enc : α → List Value) (k : Nat) (w : World) (a : Option Addr) (c : Nat) (l : List α) : Prop where
  rd : Rd enc k w a l
  cap : l.length ≤ c
  nn : a = none → c = 0
theorem RdC.below {α : Type} {enc : α → List Value} {k : Nat} {w w' : World} {a : Option Addr} {c : Nat} {l : List α} (h : RdC enc k w a c l) (hb : Below w.heap.size w w') : RdC enc k w' a c l := ⟨h.rd.below hb, h.cap, h.nn⟩
theorem row_rdc {α : Type} {enc : α → List Value} {k : Nat} (hk : ∀ x, (enc x).length = k) {w : World} {base : Nat} {e : TypeId} {v : Value} {l : List α} (h : w.ownsRow base e k v l.length (cls enc l)) : ∃ a c, v = .slice a l.length c ∧ RdC enc k w a c l := by
  obtain ⟨a, c, hv, hc, hrd, _⟩ := row_rd hk h
  refine ⟨a, c, hv, hrd, hc, fun e => ?_⟩
  subst e
  rcases h.2 with ⟨e1, _⟩ | ⟨g, cap, cur, e1, _⟩
  · rw [hv] at e1; injection e1 with _ _ e3
  · rw [hv] at e1; injection e1 with e3 _ _; cases e3
end Go.Proofs.Ytagnnocecfoggaa
