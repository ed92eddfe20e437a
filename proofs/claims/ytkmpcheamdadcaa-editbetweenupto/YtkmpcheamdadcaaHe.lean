/-
  An edit in a box of one's own: what is gone and what is added is put behind.
-/
import Derived.Test.YtkmpcheamdadcaaHd
import Derived.Test.YtkmpcheamdadcaaDh
import Derived.Test.YtkmpcheamdadcaaYj
import Derived.Test.YtkmpcheamdadcaaYd
namespace Go.Proofs.Ytkmpcheamdadcaa
open Go.RowKit
set_option linter.unusedVariables false
set_option linter.unusedSimpArgs false
/-- An edit under way in block B, its rows from M on. -/
structure Bt (M : Nat) (w : World) (B : Nat) (P : En) (e : Ed) : Prop where
  b : Blk w B 27 (edA P e).toList
  o : OwnE w M P e
  m : B < M ∧ M ≤ w.heap.size
theorem Bt.below {M B : Nat} {w w' : World} {P : En} {e : Ed} (h : Bt M w B P e) (hb : Below w.heap.size w w') : Bt M w' B P e :=
  ⟨h.b.upd (S := Non) (Upd.ofBelow hb) (fun h => h), h.o.below hb, h.m.1, Nat.le_trans h.m.2 hb.size⟩
/-- What an append onto one of the two lists leaves, ahead of its store and behind it. -/
structure Bp (M : Nat) (W w' : World) (B i : Nat) (P : En) (e : Ed) (v' : Value) : Prop where
  c : ∃ u, w'.cell? ⟨B, i, none⟩ = some u
  z : w'.frozen? ⟨B, i, none⟩ = false
  lt : B < w'.heap.size
  t : Bt M (w'.setCell ⟨B, i, none⟩ v') B P e
  r : ∀ (base : Nat) (v : Value) (l : List Fi), RowF W base v l → RowF (w'.setCell ⟨B, i, none⟩ v') base v l
  g : ∀ w0 : World, Below w0.heap.size w0 W → w0.heap.size ≤ B → Below w0.heap.size w0 (w'.setCell ⟨B, i, none⟩ v')
theorem Bt.addGone {M B : Nat} {W : World} {P : En} {e : Ed} (h : Bt M W B P e) {vb : Nat} {x : Gn} (hv : Blk W vb 66 (Gn.c x)) (hm : e.gone.length ≤ 8388608) (ty : TypeId) :
    ∃ a c w', (Builtin.append_ #[24, 24] ty #[.slice P.ga e.gone.length P.gc, .slice (some ⟨vb, 0, none⟩) 1 1]).run Try.prog W = .ok (.slice a (e.gone.length + 1) c) w' ∧ Bp M W w' B 11 ⟨a, c, P.aa, P.ac⟩ { e with gone := e.gone ++ [x] } (.slice a (e.gone.length + 1) c) := by
  obtain ⟨v', w', hr, ho, hu, _, _⟩ := push_g gn_k gn_1 (t := 24) Try.underlying24 info66 rfl (by decide) h.o.g h.m.2 hv ty (by omega) (by unfold maxLen; omega)
  obtain ⟨a, c, rfl⟩ := row_slice ho
  have hg := fun k hk => row_blk h.o.g k hk
  have e0 : (e.gone ++ [x]).length = e.gone.length + 1 := by simp
  have ha := row_upd h.o.a hu (fun k hk e => row_row_ne h.o.a h.o.g (by decide) k hk e)
  have hB' : Blk w' B 27 (edA P e).toList := h.b.upd hu (fun hk => by have := (hg _ hk).1; have := h.m.1; omega)
  rw [e0] at ho hr
  have hS := hB'.set 11 (.slice a (e.gone.length + 1) c)
  have hSU : Upd (fun j => j = B) w' (w'.setCell ⟨B, 11, none⟩ (.slice a (e.gone.length + 1) c)) := (Upd.refl (fun j => j = B) w').setCell (p := ⟨B, 11, none⟩) (fun _ => rfl) _
  have e1 : (edA P e).toList.set 11 (.slice a (e.gone.length + 1) c) = (edA ⟨a, c, P.aa, P.ac⟩ { e with gone := e.gone ++ [x] }).toList := by
    show _ = [_, _, _, _, _, _, _, _, _, _, _, Value.slice a (e.gone ++ [x]).length c, _]
    rw [e0]; rfl
  rw [e1] at hS
  refine ⟨a, c, w', hr, ⟨_, hB'.cell1 11 _ rfl⟩, hB'.frozen 11, hB'.lt, ⟨hS, ⟨?_, ?_⟩, h.m.1, ?_⟩, ?_, ?_⟩
  · show World.ownsRow _ M 66 2 (.slice a (e.gone ++ [x]).length c) (e.gone ++ [x]).length (cls Gn.c (e.gone ++ [x]))
    rw [e0]
    exact row_upd ho hSU (fun k hk e => row_ne ho hB' (by decide) k hk e)
  · exact row_upd ha hSU (fun k hk e => row_ne ha hB' (by decide) k hk e)
  · exact Nat.le_trans h.m.2 (Nat.le_trans hu.size hSU.size)
  · intro base v l hl
    have h1 := row_upd hl hu (fun k hk e => row_row_ne hl h.o.g (by decide) k hk e)
    exact row_upd h1 hSU (fun k hk e => row_ne h1 hB' (by decide) k hk e)
  · intro w0 hb hle
    have b1 := Upd.bel hb hu (fun k hk => by have := (hg k hk).1; have := h.m.1; omega) hb.size
    exact Upd.bel b1 hSU (fun k hk => by subst hk; exact hle) b1.size
theorem Bt.addAdded {M B : Nat} {W : World} {P : En} {e : Ed} (h : Bt M W B P e) {vb : Nat} {x : Ad} (hv : Blk W vb 64 (Ad.c x)) (hm : e.added.length ≤ 8388608) (ty : TypeId) :
    ∃ a c w', (Builtin.append_ #[25, 25] ty #[.slice P.aa e.added.length P.ac, .slice (some ⟨vb, 0, none⟩) 1 1]).run Try.prog W = .ok (.slice a (e.added.length + 1) c) w' ∧ Bp M W w' B 12 ⟨P.ga, P.gc, a, c⟩ { e with added := e.added ++ [x] } (.slice a (e.added.length + 1) c) := by
  obtain ⟨v', w', hr, ho, hu, _, _⟩ := push_g ad_k ad_1 (t := 25) Try.underlying25 info64 rfl (by decide) h.o.a h.m.2 hv ty (by omega) (by unfold maxLen; omega)
  obtain ⟨a, c, rfl⟩ := row_slice ho
  have hg := fun k hk => row_blk h.o.a k hk
  have e0 : (e.added ++ [x]).length = e.added.length + 1 := by simp
  have ha := row_upd h.o.g hu (fun k hk e => row_row_ne h.o.g h.o.a (by decide) k hk e)
  have hB' : Blk w' B 27 (edA P e).toList := h.b.upd hu (fun hk => by have := (hg _ hk).1; have := h.m.1; omega)
  rw [e0] at ho hr
  have hS := hB'.set 12 (.slice a (e.added.length + 1) c)
  have hSU : Upd (fun j => j = B) w' (w'.setCell ⟨B, 12, none⟩ (.slice a (e.added.length + 1) c)) := (Upd.refl (fun j => j = B) w').setCell (p := ⟨B, 12, none⟩) (fun _ => rfl) _
  have e1 : (edA P e).toList.set 12 (.slice a (e.added.length + 1) c) = (edA ⟨P.ga, P.gc, a, c⟩ { e with added := e.added ++ [x] }).toList := by
    show _ = [_, _, _, _, _, _, _, _, _, _, _, _, Value.slice a (e.added ++ [x]).length c]
    rw [e0]; rfl
  rw [e1] at hS
  refine ⟨a, c, w', hr, ⟨_, hB'.cell1 12 _ rfl⟩, hB'.frozen 12, hB'.lt, ⟨hS, ⟨?_, ?_⟩, h.m.1, ?_⟩, ?_, ?_⟩
  · exact row_upd ha hSU (fun k hk e => row_ne ha hB' (by decide) k hk e)
  · show World.ownsRow _ M 64 11 (.slice a (e.added ++ [x]).length c) (e.added ++ [x]).length (cls Ad.c (e.added ++ [x]))
    rw [e0]
    exact row_upd ho hSU (fun k hk e => row_ne ho hB' (by decide) k hk e)
  · exact Nat.le_trans h.m.2 (Nat.le_trans hu.size hSU.size)
  · intro base v l hl
    have h1 := row_upd hl hu (fun k hk e => row_row_ne hl h.o.a (by decide) k hk e)
    exact row_upd h1 hSU (fun k hk e => row_ne h1 hB' (by decide) k hk e)
  · intro w0 hb hle
    have b1 := Upd.bel hb hu (fun k hk => by have := (hg k hk).1; have := h.m.1; omega) hb.size
    exact Upd.bel b1 hSU (fun k hk => by subst hk; exact hle) b1.size
def gonB (k : Nat) (l m : List Fi) : List Gn := (misB l m).map fun f => ⟨k, f.num⟩
def addB (k : Nat) (l m : List Fi) : List Ad := (misB m l).map fun f => ⟨k, f⟩
def betG (L M : Nat → List Fi) : Nat → List Gn
  | 0 => []
  | n + 1 => betG L M n ++ gonB n (L n) (M n)
def betA (L M : Nat → List Fi) : Nat → List Ad
  | 0 => []
  | n + 1 => betA L M n ++ addB n (L n) (M n)
/-- What Between tells. -/
def betE (L M : Nat → List Fi) : Ed := { ed0 with gone := betG L M 7, added := betA L M 7 }
theorem betG_len {L M : Nat → List Fi} (hL : ∀ i, i < 7 → (L i).length ≤ 1048576) : ∀ n, n ≤ 7 → (betG L M n).length ≤ n * 1048576
  | 0, _ => by simp [betG]
  | n + 1, h => by
    have := betG_len (M := M) hL n (by omega)
    have := hL n (by omega)
    have := misB_len (L n) (M n)
    simp only [betG, gonB, List.length_append, List.length_map]
    omega
theorem betA_len {L M : Nat → List Fi} (hM : ∀ i, i < 7 → (M i).length ≤ 1048576) : ∀ n, n ≤ 7 → (betA L M n).length ≤ n * 1048576
  | 0, _ => by simp [betA]
  | n + 1, h => by
    have := betA_len (L := L) hM n (by omega)
    have := hM n (by omega)
    have := misB_len (M n) (L n)
    simp only [betA, addB, List.length_append, List.length_map]
    omega
end Go.Proofs.Ytkmpcheamdadcaa
