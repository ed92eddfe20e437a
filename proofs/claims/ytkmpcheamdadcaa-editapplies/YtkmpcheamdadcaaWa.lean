/-
  Bytes that are appended to; appendPart.
-/
import Derived.Test.YtkmpcheamdadcaaVf
import Derived.Test.YtkmpcheamdadcaaVar
import Derived.Lib.AppendZeros
namespace Go.Proofs.Ytkmpcheamdadcaa
open Go.RowKit
set_option linter.unusedVariables false
set_option linter.unusedSimpArgs false
theorem OwnB.src {w : World} {base : Nat} {v : Value} {l : List Int} (h : OwnB w base v l) : Src Try.prog 1 28 v l.length (bc l) w := by
  rcases h with ⟨rfl, rfl⟩ | ⟨b, off, cap, rfl, h1, h2, h3, h4, h5, h6⟩
  · exact Src.ofNil w Try.underlying28 0
  · refine Src.ofSlice w Try.underlying28 ⟨b, off, none⟩ l.length cap (bc l) (by rw [bc_len]; omega) ?_ (bc_one l)
    intro j u hu
    obtain ⟨hj, rfl⟩ := bc_get l j u hu
    rw [add_at]; exact h5 j hj
theorem src_str (w : World) (s : ByteArray) : Src Try.prog 1 9 (.string s) (sb s).length (bc (sb s)) w := by
  have e : bc (sb s) = byteCells s := by simp [bc, sb, byteCells]
  rw [e, sb_len]
  exact Src.ofString w Try.underlying9 s
/-- What comes of bytes that are appended to. -/
structure AppB (w w' : World) (base : Nat) (v v' : Value) (l : List Int) : Prop where
  own : OwnB w' base v' l
  upd : Upd (fun k => v.ownBlock = some k) w w'
  loc : v'.ownBlock = v.ownBlock ∨ ∀ j, v'.ownBlock = some j → w.heap.size ≤ j
theorem AppB.trans {w w1 w2 : World} {base : Nat} {v v1 v2 : Value} {l1 l2 : List Int} (h : AppB w w1 base v v1 l1) (k : AppB w1 w2 base v1 v2 l2) : AppB w w2 base v v2 l2 := by
  refine ⟨k.own, h.upd.then k.upd (fun i hi hs => ?_), ?_⟩
  · rcases h.loc with e | e
    · rw [← e]; exact hs
    · have := e i hs; omega
  · rcases k.loc with e | e
    · rw [e]; exact h.loc
    · exact .inr fun j hj => Nat.le_trans h.upd.size (e j hj)
/-- Behind steps that touch nothing old. -/
theorem AppB.pre {w W w' : World} {base : Nat} {v v' : Value} {l : List Int} (hb : Below w.heap.size w W) (k : AppB W w' base v v' l) : AppB w w' base v v' l :=
  ⟨k.own, (Upd.ofBelow hb).trans k.upd, by
    rcases k.loc with e | e
    · exact .inl e
    · exact .inr fun j hj => Nat.le_trans hb.size (e j hj)⟩
theorem AppB.post {w W w' : World} {base : Nat} {v v' : Value} {l : List Int} (k : AppB w W base v v' l) (hb : Below W.heap.size W w') : AppB w w' base v v' l :=
  ⟨k.own.below hb (Nat.le_refl _), k.upd.trans (Upd.ofBelow hb), k.loc⟩
theorem AppB.grow {w w' : World} {base : Nat} {v v' : Value} {l : List Int} (ho : OwnB w' base v' l) (hg : w.grownBy w' v.ownBlock) (hl : v'.ownBlock = v.ownBlock ∨ v'.ownBlock = some w.heap.size) : AppB w w' base v v' l :=
  ⟨ho, (Upd.refl _ _).grown hg (fun k hk _ => hk), by
    rcases hl with e | e
    · exact .inl e
    · exact .inr fun j hj => by rw [e] at hj; cases hj; exact Nat.le_refl _⟩
theorem vL_len (n : Int) : (vL 10 n).length ≤ 11 := by
  have : ∀ f n, (vL f n).length ≤ f + 1 := by
    intro f
    induction f with
    | zero => intro n; simp [vL]
    | succ f ih => intro n; unfold vL; split <;> simp; exact ih _
  exact this 10 n
/-- The bytes of numbers. -/
def nbs : List Int → List Int
  | [] => []
  | n :: l => vL 10 n ++ nbs l
theorem nbs_snoc (l : List Int) (n : Int) : nbs (l ++ [n]) = nbs l ++ vL 10 n := by
  induction l with
  | nil => simp [nbs]
  | cons x l ih => simp [nbs, ih]
theorem nbs_len (l : List Int) : (nbs l).length ≤ l.length * 11 := by
  induction l with
  | nil => simp [nbs]
  | cons x l ih => have := vL_len x; simp [nbs]; omega
theorem take_snoc' {α : Type} {l : List α} {k : Nat} {x : α} (h : l[k]? = some x) : l.take (k + 1) = l.take k ++ [x] := by rw [List.take_add_one, h]; rfl
set_option maxRecDepth 100000 in
set_option maxHeartbeats 2000000 in
theorem appendPart_any {w : World} {base : Nat} {v : Value} {l : List Int} (h : OwnB w base v l) (hb : base ≤ w.heap.size) {a : Option Addr} {cap : Nat} {ns : List Int} (hr : Rd uc 1 w a ns) (hne : ∀ g o, a = some ⟨g, o, none⟩ → v.ownBlock ≠ some g ∧ g < w.heap.size) (hn : ∀ n ∈ ns, 0 ≤ n ∧ n < 18446744073709551616) (p : Int) (hl : l.length ≤ 1000000000) (hnl : ns.length ≤ 100) :
    Calls Try.prog 33 #[v, .int .u8 p, .slice a ns.length cap] w fun e w' => ∃ v', e = .returned v' ∧ AppB w w' base v v' (l ++ [p] ++ nbs ns) := by
  obtain ⟨i0, hi, hz0, hz1, hz2⟩ := info_parts info5
  have HR : Hid (Rd uc 1 w a ns ∧ (∀ g o, a = some ⟨g, o, none⟩ → v.ownBlock ≠ some g ∧ g < w.heap.size) ∧ ∀ n ∈ ns, 0 ≤ n ∧ n < 18446744073709551616) := ⟨hr, hne, hn⟩
  have HL1 : Hid (l.length + [p].length ≤ 140737488355328) := by show _ ≤ _; simp; omega
  have HLl : Hid (l.length ≤ 1000000000) := hl
  obtain ⟨N, hN⟩ : ∃ N, Hid (ns.length = N) := ⟨_, rfl⟩
  rw [hN.out] at hnl ⊢
  clear hr hne hn hl
  go_enter Try.func33, Try.ntmps33
  go_wp2_with (at_builtin; refine OwnB.wpList_append rfl _ _ 28 28 rfl rfl (base := base) (v := v) (l := l) (h.alloc _) i0 Try.underlying28 hi hz0 hz1 hz2 _ rfl [p] (src_one _ _) (by simp; omega) HL1.out ?_; intro v1 w1 ho1 hg1 hl1; have A1 := AppB.pre (al1 w _) (AppB.grow ho1 hg1 hl1))
  clear h ho1 hg1 hl1
  go_loopw [0, 15] (fun u i wr => ∃ k : Nat, k ≤ N ∧ i = .int .i64 k ∧ Hid (AppB w wr base v u (l ++ [p] ++ nbs (ns.take k)))) (fun _ i _ => (N : Int).toNat - (intOf i).toNat)
  case atStart => exact ⟨0, Nat.zero_le _, rfl, by show AppB _ _ _ _ _ _; simpa [nbs] using A1⟩
  case round =>
    clear A1
    obtain ⟨k, hk, rfl, HA⟩ := hrel
    by_cases hlt : k < N
    · have hkz : (k : Int) < (N : Int) := by omega
      obtain ⟨x, hx⟩ : ∃ x, ns[k]? = some x := ⟨_, List.getElem?_eq_getElem (by rw [hN.out]; exact hlt)⟩
      obtain ⟨g, o, rfl, hat⟩ := (HR.out.1.upd HA.out.upd (fun g o e => (HR.out.2.1 g o e).1)).at_ hx
      have c0 := hat 0 _ rfl
      rw [Nat.mul_one, Nat.add_zero] at c0
      obtain ⟨x0, x1⟩ := HR.out.2.2 x (List.mem_of_getElem? hx)
      have HV := fun W => cvarint_any x W x0 x1
      have hbw : base ≤ wr.heap.size := Nat.le_trans hb HA.out.upd.size
      have HLx : Hid ((l ++ [p] ++ nbs (ns.take k)).length + (vL 10 x).length ≤ 140737488355328) := by
        show _ ≤ _
        have h1 := nbs_len (ns.take k)
        have h2 := vL_len x
        have h3 : (ns.take k).length ≤ N := by rw [← hN.out]; simp; omega
        have := HLl.out
        simp only [List.length_append, List.length_cons, List.length_nil]
        omega
      have HS : Hid (l ++ [p] ++ nbs (ns.take k) ++ vL 10 x = l ++ [p] ++ nbs (ns.take (k + 1))) := by
        show _ = _
        rw [take_snoc' hx, nbs_snoc]; simp
      have HO := HA.out.own
      clear hx hat x0 x1
      generalize l ++ [p] ++ nbs (ns.take k) = l1 at *
      go_wp2_with (first
        | (go_at_call 71; refine (HV _).mono ?_; rintro e w2 ⟨v2, rfl, ho2, hb2⟩; have ho := HO.below hb2 (Nat.le_refl _); have hz2' := hb2.size)
        | (at_builtin; refine OwnB.wpList_append rfl _ _ 28 28 rfl rfl (base := base) (l := l1) ho i0 Try.underlying28 hi hz0 hz1 hz2 v2 rfl (vL 10 x) ho2.src (by omega) HLx.out ?_; intro v3 w3 ho3 hg3 hl3; have A3 := HA.out.trans (AppB.pre hb2 (AppB.grow ho3 hg3 hl3))))
      go_roundw
      case rel => exact ⟨k + 1, by omega, by go_num, by show AppB _ _ _ _ _ _; rw [← HS.out]; exact A3⟩
      case measure => simp [intOf]; omega
    · obtain rfl : k = N := by omega
      have hz : ¬ ((k : Int) < k) := by omega
      have HA' : Hid (AppB w wr base v u0 (l ++ [p] ++ nbs ns)) := by
        have := HA.out
        rw [List.take_of_length_le (by rw [hN.out]; exact Nat.le_refl _)] at this
        exact this
      clear HA
      go_wp2
      go_ret
      refine ⟨_, rfl, ?_⟩
      have := HA'.out
      rw [show l ++ [p] ++ nbs ns = l ++ p :: nbs ns by simp] at this
      exact this
end Go.Proofs.Ytkmpcheamdadcaa
