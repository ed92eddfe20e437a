/-
  Places: fixed, placesOf, and their mathematics.
-/
import Derived.Test.YtbnllobofndckaaRg
import Derived.Test.YtbnllobofndckaaRw
import Derived.Lib.SliceRun
import Derived.Laws.MakeOwn
import Derived.Lib.AppendZeros
import Derived.Test.YtbnllobofndckaaCt
namespace Go.Proofs.Ytbnllobofndckaa
open Go.RowKit
set_option linter.unusedVariables false
set_option linter.unusedSimpArgs false
def u4 (x : Nat) : List Value := [.int .u32 x]
theorem u4_k : ∀ x : Nat, (u4 x).length = 1 := fun _ => rfl
theorem u4_1 : ∀ x : Nat, ∀ u ∈ u4 x, u.oneCell' = true := fun x u hu => by simp [u4] at hu; subst hu; rfl
theorem info90 : (Try.prog.info? 90).map (fun i => (i.zero, i.size, i.bytes)) = some (some (.int .u32 0), 1, 4) := by kernel_rfl
abbrev RowN (w : World) (base : Nat) (v : Value) (l : List Nat) : Prop := w.ownsRow base 90 1 v l.length (G.cls u4 l)
abbrev RdN (w : World) (a : Option Addr) (l : List Nat) : Prop := G.Rd u4 1 w a l
theorem G.At.n {w : World} {g o : Nat} {x : Nat} (h : G.At u4 w g o x) : w.cell? ⟨g, o, none⟩ = some (.int .u32 x) := h 0 _ rfl
/-- The bytes of places. -/
abbrev pbs (P : List Nat) : List Int := P.flatMap (fun (x : Nat) => byts 4 (x : Int))
theorem pbs_len (P : List Nat) : (pbs P).length = 4 * P.length := by
  induction P with
  | nil => rfl
  | cons x P ih =>
    rw [pbs, List.flatMap_cons, List.length_append, byts_len, List.length_cons]
    have : (List.flatMap (fun (x : Nat) => byts 4 (x : Int)) P).length = 4 * P.length := ih
    omega
theorem pbs_step {P : List Nat} {k : Nat} {x : Nat} (h : P[k]? = some x) : pbs (P.drop k) = byts 4 x ++ pbs (P.drop (k + 1)) := by
  obtain ⟨hi, rfl⟩ := List.getElem?_eq_some_iff.1 h
  rw [List.drop_eq_getElem_cons hi]; rfl
def slL : Value → Nat
  | .slice _ n _ => n
  | _ => 0
set_option maxHeartbeats 1000000 in
theorem fix69 {w : World} {a : Option Addr} {len cap : Nat} {l : List Int} (h : Arg w a len cap l) (hcap : len ≤ cap) (h4 : 4 ≤ len) : Calls Try.prog 69 #[.slice a len cap] w fun e w' => e = .returned (.int .u32 (leV (l.take 4))) ∧ Below w.heap.size w w' := by
  have hr := crf32_any a len cap l w h hcap
  have hv : rfV 4 l = leV (l.take 4) := by unfold rfV; rw [if_neg (by have := h.1; omega)]
  rw [hv] at hr
  generalize rfE 4 l = E at hr
  generalize leV (l.take 4) = V at *
  clear h
  go_enter Try.func69, Try.ntmps69
  go_wp2_with (go_at_call 92; refine hr.mono ?_; rintro e w1 ⟨rfl, hb⟩)
  go_ret
  exact ⟨rfl, hb⟩
set_option maxRecDepth 100000 in
set_option maxHeartbeats 1000000 in
theorem placesOf_any {w : World} {a : Option Addr} {len cap : Nat} {P : List Nat} (h : Arg w a len cap (pbs P)) (hcap : len ≤ cap) (hP : ∀ x ∈ P, x < 4294967296) (hl : P.length ≤ 100000) :
    Calls Try.prog 70 #[.slice a len cap] w fun e w' => ∃ v, e = .returned v ∧ RowN w' w.heap.size v P ∧ Below w.heap.size w w' := by
  have hlen : len = 4 * P.length := by rw [← h.1, pbs_len]
  obtain ⟨N, hN⟩ : ∃ N, Hid (P.length = N) := ⟨_, rfl⟩
  rw [hN.out] at hlen hl
  have HP : Hid (∀ x ∈ P, x < 4294967296) := hP
  have HA : Hid (Arg w a len cap (pbs P)) := h
  have h4z : ((4 * N : Nat) : Int) = 4 * (N : Int) := by omega
  obtain ⟨i0, hi, hz0, hz1, hz2⟩ := info_parts info90
  obtain ⟨w1, hm, ho, hg⟩ := run_make_own (P := Try.prog) w w.heap.size 74 90 i0 _ 1 Try.underlying74 hi hz0 hz1 .i64 .i64 N (by rw [hz2]; omega) (by unfold maxLen; omega) (Nat.le_refl _)
  have HS : Hid (RowN w1 w.heap.size (.slice (some ⟨w.heap.size, 0, none⟩) 0 N) [] ∧ Below w.heap.size w w1) := ⟨ho, (Below.refl _ _).grown hg (Nat.le_refl _) (fun j hj => by cases hj)⟩
  clear h hP hi hz0 hz1 hz2 ho hg
  subst hlen
  go_enter Try.func70, Try.ntmps70
  go_wp2_with fail
  go_loopw [0, 3] (fun s0 s3 wr => ∃ (k : Nat) (ka : Option Addr) (kn kc : Nat) (va : Option Addr) (vc : Nat), k + kn = N ∧ s0 = .slice ka (4 * kn) kc ∧ s3 = .slice va k vc ∧ Hid (Arg w ka (4 * kn) kc (pbs (P.drop k)) ∧ 4 * kn ≤ kc ∧ RowN wr w.heap.size (.slice va k vc) (P.take k) ∧ Below w.heap.size w wr)) (fun _ s3 _ => N - slL s3)
  case atStart => exact ⟨0, a, N, cap, _, _, by omega, rfl, rfl, HA.out, hcap, HS.out⟩
  case round =>
    clear HS hm
    obtain ⟨k, ka, kn, kc, va, vc, hk, rfl, rfl, HK⟩ := hrel
    rcases Nat.eq_zero_or_pos kn with h0 | h0
    · subst h0
      obtain rfl : k = N := by omega
      have HE : Hid (RowN wr w.heap.size (.slice va k vc) P ∧ Below w.heap.size w wr) := by
        have := HK.out.2.2
        rw [List.take_of_length_le (by rw [hN.out]; omega)] at this
        exact this
      clear HK
      go_wp2_with fail
      go_ret
      exact ⟨_, rfl, HE.out⟩
    · obtain ⟨m, rfl⟩ : ∃ m, kn = m + 1 := ⟨kn - 1, by omega⟩
      have hpos : (0 : Int) < 4 * ((m : Int) + 1) := by omega
      have hkl : k < P.length := by rw [hN.out]; omega
      obtain ⟨x, hx⟩ : ∃ x, P[k]? = some x := ⟨_, List.getElem?_eq_getElem hkl⟩
      have hA := HK.out.1.below HK.out.2.2.2
      have HFx := fix69 hA HK.out.2.1 (by omega)
      have hst := pbs_step hx
      have hxb := HP.out x (List.mem_of_getElem? hx)
      rw [hst, List.take_left' (byts_len 4 _), leV_byts 4 _ (by omega) (by omega)] at HFx
      have hcu : ∀ W, (Instr.sliceAt 23 (.slice ka (4 * (m + 1)) kc) (some (.int .i64 4)) none none).run Try.prog W = .ok (.slice (cutA ka kc 4) (4 * m) (kc - 4)) W := fun W => by
        have := bcut_lo2 ka (4 * (m + 1)) kc 4 (by omega) W
        rw [show 4 * (m + 1) - 4 = 4 * m by omega] at this
        exact this
      have HNa : Hid (Arg w (cutA ka kc 4) (4 * m) (kc - 4) (pbs (P.drop (k + 1))) ∧ 4 * m ≤ kc - 4) := by
        have := HK.out.1.lo (m := 4) (by omega) HK.out.2.1
        rw [hst, List.drop_left' (byts_len 4 _), show 4 * (m + 1) - 4 = 4 * m by omega] at this
        exact ⟨this, by have := HK.out.2.1; omega⟩
      have HPu : Hid (∀ w2, Below wr.heap.size wr w2 → ∃ va' vc' w9, (Builtin.append_ #[74, 74] 74 #[.slice va k vc, .slice (some ⟨w2.heap.size, 0, none⟩) 1 1]).run Try.prog (w2.alloc (.cells #[.int .u32 x] 90)) = .ok (.slice va' (k + 1) vc') w9 ∧ Hid (RowN w9 w.heap.size (.slice va' (k + 1) vc') (P.take (k + 1)) ∧ Below w.heap.size w w9)) := by
        intro w2 B2
        have hbx : Below wr.heap.size wr (w2.alloc (.cells #[.int .u32 x] 90)) := B2.alloc (by have := B2.size; omega) _
        have hrow := HK.out.2.2.1
        have hrow3 : RowN (w2.alloc (.cells #[.int .u32 x] 90)) w.heap.size (.slice va k vc) (P.take k) := row_upd hrow (S := Non) (Upd.ofBelow hbx) (fun _ _ h => h)
        have hB3 : Below w.heap.size w (w2.alloc (.cells #[.int .u32 x] 90)) := HK.out.2.2.2.trans (hbx.mono HK.out.2.2.2.size)
        have hli : (P.take k).length = k := by rw [List.length_take]; omega
        obtain ⟨v9, w9, hr9, g1, g2, g3, _⟩ := G.push_g (P := Try.prog) u4_k u4_1 Try.underlying74 info90 rfl (by decide) hrow3 hB3.size (Blk.new w2 90 (u4 x)) 74 (by rw [hli]; omega) (by rw [hli]; unfold maxLen; omega)
        have hta : P.take k ++ [x] = P.take (k + 1) := by rw [List.take_add_one, hx]; rfl
        rw [hta] at g1
        obtain ⟨va', vc', hv⟩ := G.row_slice g1
        have hli2 : (P.take (k + 1)).length = k + 1 := by rw [List.length_take]; omega
        rw [hli2] at hv
        subst hv
        exact ⟨va', vc', w9, hr9, g1, hB3.trans (g2.below (fun j hj => Nat.lt_of_lt_of_le hj hB3.size) (fun j hj => (G.row_blk hrow3 j hj).1))⟩
      clear HK hA hst hx
      go_wp2_with (first
        | (go_at_call 69; refine HFx.mono ?_; rintro e w2 ⟨rfl, r1⟩
           obtain ⟨va', vc', w9, hr9, HF9⟩ := HPu.out w2 r1
           clear r1)
        | (at_builtin; refine Lib.wpList_append_run _ rfl _ _ _ _ rfl _ _ rfl rfl _ _ hr9 ?_))
      go_roundw
      case rel => exact ⟨k + 1, _, m, _, va', vc', by omega, rfl, rfl, HNa.out.1, HNa.out.2, HF9.out⟩
      case measure => simp [slL]; omega
end Go.Proofs.Ytbnllobofndckaa
