/-
  BloomNone: the mathematics and the walk.
-/
import Derived.Test.YtbmljdeenbokmaaG
import Derived.BigRegion
import Derived.Deep.DeepCutAuto
namespace Go.Proofs.Ytbmljdeenbokmaa
open Go.RowKit Go.Maps
set_option linter.unusedVariables false
set_option linter.unusedSimpArgs false

/-- A filter that has more bits set. -/
structure Sup (f g : List Int) : Prop where
  len : g.length = f.length
  byt : Byt g
  last : g.getD (f.length - 1) 0 = f.getD (f.length - 1) 0
  has : ∀ q : Int, 0 ≤ q → (q / 8).toNat < f.length → hasb f q = true → hasb g q = true
theorem Sup.refl {f : List Int} (h : Byt f) : Sup f f := ⟨rfl, h, rfl, fun _ _ _ h => h⟩
theorem Sup.set {f g : List Int} (h : Sup f g) {p : Int} (hp : 0 ≤ p) (hl : (p / 8).toNat < f.length - 1) : Sup f (setb g p) := by
  refine ⟨(setb_length _ _).trans h.len, setb_byt h.byt _, ?_, fun q hq hq2 hf => ?_⟩
  · rw [setb_get g p _ (by rw [h.len]; omega), if_neg (by omega), h.last]
  · rw [hasb_setb h.byt hp hq (by rw [h.len]; exact hq2), h.has q hq hq2 hf]; rfl
theorem Sup.chk {f g : List Int} (h : Sup f g) : chkB g = chkB f := by
  unfold chkB isf; rw [h.len, h.last]
theorem mbits_pos {l : List Int} (h : chkB l = true) : 0 < mbits l := by
  simp only [chkB, isf, Bool.and_eq_true, decide_eq_true_eq] at h
  unfold mbits; omega
theorem kprbs_lt {l : List Int} (h : chkB l = true) (s : ByteArray) : ∀ p ∈ kprbs l s, 0 ≤ p ∧ (p / 8).toNat < l.length - 1 := by
  have hm := mbits_pos h
  intro p hp
  simp only [kprbs, prbs, List.mem_map, List.mem_range] at hp
  obtain ⟨k, _, rfl⟩ := hp
  have := prb_bd (hsh s) hm k
  unfold mbits at this hm
  unfold mbits
  omega
theorem may_sup {f g : List Int} (h : Sup f g) {s : ByteArray} (hc : chkB f = true) (hm : mayB f s = true) : mayB g s = true := by
  unfold mayB at *
  rw [h.chk, hc]
  rw [hc] at hm
  have e : kprbs g s = kprbs f s := by unfold kprbs mbits lastB; rw [h.len, h.last]
  rw [e]
  simp only [Bool.not_true, Bool.false_or, List.all_eq_true] at hm ⊢
  intro p hp
  have := kprbs_lt hc s p hp
  exact h.has p this.1 (by omega) (hm p hp)
/-- Bits that are set stay set. -/
theorem bldF_keeps {f : List Int} (hf : Byt f) {N n : Nat} (hN : 0 < N) (hl : f.length = N + 1) (ks : List ByteArray) {q : Int} (hq : 0 ≤ q) (hq2 : (q / 8).toNat < N + 1) (h : hasb f q = true) : hasb (bldF f N n ks) q = true := by
  induction ks generalizing f with
  | nil => exact h
  | cons k ks ih =>
    refine ih (sets_byt hf _) ((sets_length _ _).trans hl) ?_
    rw [hasb_sets hf (fun p hp => (prbs_lt _ N hN n p hp).1) hq (by rw [hl]; exact hq2), h]; rfl
theorem bldF_has {f : List Int} (hf : Byt f) {N n : Nat} (hN : 0 < N) (hl : f.length = N + 1) (ks : List ByteArray) {k : ByteArray} (hk : k ∈ ks) {q : Int} (hq : q ∈ prbs (hsh k) ((N : Int) * 8) n) : hasb (bldF f N n ks) q = true := by
  have hqb := prbs_lt _ N hN n q hq
  induction ks generalizing f with
  | nil => cases hk
  | cons k' ks ih =>
    rcases List.mem_cons.1 hk with rfl | hk
    · refine bldF_keeps (sets_byt hf _) hN ((sets_length _ _).trans hl) ks hqb.1 (by omega) ?_
      rw [hasb_sets hf (fun p hp => (prbs_lt _ N hN n p hp).1) hqb.1 (by omega)]
      simp [hq]
    · exact ih (sets_byt hf _) ((sets_length _ _).trans hl) hk
/-- None is missed. -/
theorem may_built (ks : List ByteArray) (bt : Int) (hl : ks.length ≤ 1048576) (h2 : bt ≤ 64) {k : ByteArray} (hk : k ∈ ks) : mayB (bld ks bt) k = true := by
  unfold mayB
  rw [bld_chk ks bt hl h2]
  have hz : 8 ≤ fsz (bt.toNat * ks.length) := by unfold fsz; split <;> omega
  have hb := npr_bd bt
  simp only [Bool.not_true, Bool.false_or, List.all_eq_true]
  intro p hp
  unfold kprbs mbits lastB at hp
  rw [bld_last, bld_length, show fsz (bt.toNat * ks.length) + 1 - 1 = fsz (bt.toNat * ks.length) by omega] at hp
  exact bldF_has (ini_byt _ (by omega) (by omega)) (by omega) (ini_length _ _) ks hk hp

/-- A slice of numbers of 16 bits that reads as l. -/
def Arg16 (w : World) (a : Option Addr) (l : List Int) : Prop :=
  (∀ x ∈ l, 0 ≤ x ∧ x < 65536) ∧ l.length ≤ 140737488351232 ∧
  (l = [] ∨ ∃ b off, a = some ⟨b, off, none⟩ ∧ b < w.heap.size ∧ ∀ j, j < l.length → w.cell? ⟨b, off + j, none⟩ = some (.int .u16 (l.getD j 0)))

set_option maxRecDepth 100000 in
set_option maxHeartbeats 2000000 in
theorem none_long (a : Option Addr) (cap : Nat) (ks : List ByteArray) (b : Int) (ma : Option Addr) (ml mc : Nat) (w : World) (hS : Strs w a ks) (hl : ks.length * 16 ≤ 140737488351232) (hb0 : 0 ≤ b) (hb1 : b < 256) (hlong : 1048576 < ks.length) :
    Calls Try.prog 4 #[.slice a ks.length cap, .int .u8 b, .slice ma ml mc] w fun e w' => e = .returned (.bool true) ∧ Below w.heap.size w w' := by
  have h1 : 1 ≤ 1 + b % 64 := by omega
  have h2 : 1 + b % 64 ≤ 64 := by omega
  have HS : Hid (Strs w a ks) := hS
  have HL : Hid (ks.length * 16 ≤ 140737488355328) := by show _ ≤ _; omega
  go_enter Try.func4, Try.ntmps4
  go_wp2_with (first
    | (refine wpl_copy (by rfl) rfl _ _ (by rfl) (by rfl) (by rfl) (HS.out.below hb1) HL.out ?_; intro av cv w2 hS2 hb2)
    | (go_at_call 7; refine (build_long _ _ _ _ _ hlong (by omega) h1 h2).mono ?_; rintro e w3 ⟨rfl, hw3⟩; have hw4 := hw3.symm; subst hw4; clear hw3)
    | (go_at_call 21; refine (lives_any _).mono ?_; rintro e w1 ⟨rfl, hb1⟩))
  go_ret
  exact ⟨rfl, hb1.trans (hb2.mono hb1.size)⟩
theorem Arg16.below {w w' : World} {a : Option Addr} {l : List Int} (h : Arg16 w a l) (hb : Below w.heap.size w w') : Arg16 w' a l := by
  refine ⟨h.1, h.2.1, ?_⟩
  rcases h.2.2 with rfl | ⟨b, off, ha, hlt, hc⟩
  · exact .inl rfl
  · exact .inr ⟨b, off, ha, Nat.lt_of_lt_of_le hlt hb.size, fun j hj => (hb.cell (p := ⟨b, off + j, none⟩) hlt).trans (hc j hj)⟩

end Go.Proofs.Ytbmljdeenbokmaa
