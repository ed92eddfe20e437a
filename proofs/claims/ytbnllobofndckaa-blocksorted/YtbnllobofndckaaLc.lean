import Derived.Test.YtbnllobofndckaaLb
import Derived.Laws.Rows
namespace Go.Proofs.Ytbnllobofndckaa
open Go.RowKit
set_option linter.unusedVariables false
set_option linter.unusedSimpArgs false
theorem add_at (b off j : Nat) : (⟨b, off, none⟩ : Addr).add j = ⟨b, off + j, none⟩ := by unfold Addr.add; split <;> simp_all
theorem OwnB.src {w : World} {base : Nat} {v : Value} {l : List Int} (h : OwnB w base v l) : Src Try.prog 1 23 v l.length (bc l) w := by
  rcases h with ⟨rfl, rfl⟩ | ⟨b, off, cap, rfl, h1, h2, h3, h4, h5, h6⟩
  · exact Src.ofNil w Try.underlying23 0
  · refine Src.ofSlice w Try.underlying23 ⟨b, off, none⟩ l.length cap (bc l) (by rw [bc_len]; omega) ?_ (bc_one l)
    intro j u hu
    obtain ⟨hj, rfl⟩ := bc_get l j u hu
    rw [add_at]; exact h5 j hj
theorem src_str (w : World) (s : ByteArray) : Src Try.prog 1 9 (.string s) (sb s).length (bc (sb s)) w := by
  have e : bc (sb s) = byteCells s := by simp [bc, sb, byteCells]
  rw [e, sb_len]
  exact Src.ofString w Try.underlying9 s
/-- What comes of bytes that are appended to. -/
structure AppB (w w' : World) (base : Nat) (v v' : Value) (l : List Int) : Prop where
  own : OwnB w' base v' l
  upd : Upd (fun k => v.ownBlock = some k) w w'
  loc : v'.ownBlock = v.ownBlock ∨ ∀ j, v'.ownBlock = some j → w.heap.size ≤ j
theorem AppB.trans {w w1 w2 : World} {base : Nat} {v v1 v2 : Value} {l1 l2 : List Int} (h : AppB w w1 base v v1 l1) (k : AppB w1 w2 base v1 v2 l2) : AppB w w2 base v v2 l2 := by
  refine ⟨k.own, h.upd.then k.upd (fun i hi hs => ?_), ?_⟩
  · rcases h.loc with e | e
    · rw [← e]; exact hs
    · have := e i hs; omega
  · rcases k.loc with e | e
    · rw [e]; exact h.loc
    · exact .inr fun j hj => Nat.le_trans h.upd.size (e j hj)
/-- Behind steps that touch nothing old. -/
theorem AppB.pre {w W w' : World} {base : Nat} {v v' : Value} {l : List Int} (hb : Below w.heap.size w W) (k : AppB W w' base v v' l) : AppB w w' base v v' l :=
  ⟨k.own, (Upd.ofBelow hb).trans k.upd, by
    rcases k.loc with e | e
    · exact .inl e
    · exact .inr fun j hj => Nat.le_trans hb.size (e j hj)⟩
theorem AppB.post {w W w' : World} {base : Nat} {v v' : Value} {l : List Int} (k : AppB w W base v v' l) (hb : Below W.heap.size W w') : AppB w w' base v v' l :=
  ⟨k.own.below hb (Nat.le_refl _), k.upd.trans (Upd.ofBelow hb), k.loc⟩
theorem AppB.grow {w w' : World} {base : Nat} {v v' : Value} {l : List Int} (ho : OwnB w' base v' l) (hg : w.grownBy w' v.ownBlock) (hl : v'.ownBlock = v.ownBlock ∨ v'.ownBlock = some w.heap.size) : AppB w w' base v v' l :=
  ⟨ho, (Upd.refl _ _).grown hg (fun k hk _ => hk), by
    rcases hl with e | e
    · exact .inl e
    · exact .inr fun j hj => by rw [e] at hj; cases hj; exact Nat.le_refl _⟩

theorem vL_len : ∀ (f : Nat) (n : Int), (vL f n).length ≤ f + 1
  | 0, n => by simp [vL]
  | f + 1, n => by
    have := vL_len f (n / 128)
    unfold vL
    split <;> simp <;> omega
/-- How many bytes a number has. -/
def vz (n : Nat) : Nat := (vL 10 n).length
theorem vz_le (n : Nat) : vz n ≤ 11 := vL_len 10 n
/-- The bytes of a piece. -/
def pcB (cm : Nat) (lf : List Int) (v : ByteArray) : List Int := vL 10 cm ++ vL 10 lf.length ++ vL 10 v.size ++ lf ++ sb v
/-- How many they are. -/
def pcZ (cm n m : Nat) : Nat := n + m + vz cm + vz n + vz m
theorem pcB_len (cm : Nat) (lf : List Int) (v : ByteArray) : (pcB cm lf v).length = pcZ cm lf.length v.size := by
  simp [pcB, pcZ, vz, sb_len]; omega
theorem run_index3 (x y z : Int) (i : Nat) (u : Int) (h : [x, y, z][i]? = some u) (w : World) : (Instr.index 120 (.agg #[.int .i64 x, .int .i64 y, .int .i64 z]) (.int .i64 i)).run Try.prog w = .ok (.int .i64 u) w := by
  rcases i with _ | _ | _ | i
  · simp at h; subst h; simp [Instr.index, run_underlying Try.underlying120, asIntOf, go_sem]
  · simp at h; subst h; simp [Instr.index, run_underlying Try.underlying120, asIntOf, go_sem]
  · simp at h; subst h; simp [Instr.index, run_underlying Try.underlying120, asIntOf, go_sem]
  · simp at h
set_option maxRecDepth 100000 in
set_option maxHeartbeats 800000 in
theorem lengths_any (wh : Bool) (cm : Nat) (a : Option Addr) (n c : Nat) (v : ByteArray) (w : World) : Calls Try.prog 87 #[.agg #[.bool wh, .int .i64 cm, .slice a n c, .string v]] w fun e w' => e = .returned (.agg #[.int .i64 cm, .int .i64 n, .int .i64 v.size]) ∧ Below w.heap.size w w' := by
  have HB : Hid (Blk ((w.alloc (.cells #[.bool wh, .int .i64 cm, .slice a n c, .string v] 96)).alloc (.cells #[.int .i64 cm, .int .i64 n, .int .i64 v.size] 120)) (w.heap.size + 1) 120 [.int .i64 cm, .int .i64 n, .int .i64 v.size]) := by
    have := Blk.new (w.alloc (.cells #[.bool wh, .int .i64 cm, .slice a n c, .string v] 96)) 120 [.int .i64 cm, .int .i64 n, .int .i64 v.size]
    rw [World.size_alloc] at this
    exact this
  go_enter Try.func87, Try.ntmps87
  go_wp2
  refine bodyPost_ret (results_cell_row rfl _ _ (w.heap.size + 1) 120 #[.int .i64 cm, .int .i64 n, .int .i64 v.size] (0, 0) _ rfl HB.out Try.underlying120 rfl (by kernel_rfl)) rfl ?_
  exact ⟨rfl, ((Below.refl _ _).alloc (Nat.le_refl _) _).alloc (by simp) _⟩
/-- The sums of the first numbers' sizes. -/
def ptZ (x y z : Nat) : Nat → Nat
  | 0 => 0
  | 1 => vz x
  | 2 => vz x + vz y
  | _ => vz x + vz y + vz z
def ptN (x y z : Nat) : Nat → Nat
  | 0 => x
  | 1 => y
  | _ => z
theorem ptZ_step (x y z i : Nat) (h : i < 3) : ptZ x y z (i + 1) = ptZ x y z i + vz (ptN x y z i) := by
  rcases i with _ | _ | _ | i
  · show vz x = 0 + vz x; omega
  · rfl
  · rfl
  · omega
theorem ptZ_le (x y z i : Nat) : ptZ x y z i ≤ 33 := by
  have := vz_le x
  have := vz_le y
  have := vz_le z
  unfold ptZ; split <;> omega
theorem ptN_get (x y z i : Nat) (h : i < 3) : [(x : Int), (y : Int), (z : Int)][i]? = some ((ptN x y z i : Nat) : Int) := by
  rcases i with _ | _ | _ | i
  · rfl
  · rfl
  · rfl
  · omega
theorem ptN_le (x y z i B : Nat) (hx : x ≤ B) (hy : y ≤ B) (hz : z ≤ B) : ptN x y z i ≤ B := by
  unfold ptN; split <;> assumption
theorem own_slice {w : World} {base : Nat} {v : Value} {l : List Int} (h : OwnB w base v l) : ∃ a c, v = .slice a l.length c := by
  rcases h with ⟨rfl, rfl⟩ | ⟨b, off, cap, rfl, _⟩
  · exact ⟨none, 0, rfl⟩
  · exact ⟨_, cap, rfl⟩
set_option maxRecDepth 100000 in
set_option maxHeartbeats 1000000 in
theorem size_any (wh : Bool) (cm : Nat) (a : Option Addr) (n c : Nat) (v : ByteArray) (w : World) (h1 : cm ≤ 1099511627776) (h2 : n ≤ 1099511627776) (h3 : v.size ≤ 1099511627776) :
    Calls Try.prog 58 #[.agg #[.bool wh, .int .i64 cm, .slice a n c, .string v]] w fun e w' => e = .returned (.int .i64 (pcZ cm n v.size)) ∧ Below w.heap.size w w' := by
  have hb0 : Below w.heap.size w (w.alloc (.cells #[.bool wh, .int .i64 cm, .slice a n c, .string v] 96)) := (Below.refl _ _).alloc (Nat.le_refl _) _
  obtain ⟨m, hm⟩ : ∃ m, Hid (v.size = m) := ⟨_, rfl⟩
  have hmv : v.size = m := hm.out
  have HL : Hid (∀ W, Calls Try.prog 87 #[.agg #[.bool wh, .int .i64 cm, .slice a n c, .string v]] W fun e w' => e = .returned (.agg #[.int .i64 cm, .int .i64 n, .int .i64 m]) ∧ Below W.heap.size W w') := fun W => by rw [← hm.out]; exact lengths_any wh cm a n c v W
  rw [hmv] at h3 ⊢
  go_enter Try.func58, Try.ntmps58
  go_wp2_with (go_at_call 87; refine (HL.out _).mono ?_; rintro e w1 ⟨rfl, hb1⟩; have hb2 := hb0.trans (hb1.mono hb0.size))
  go_loopw [3, 15] (fun s i wr => ∃ k : Nat, k ≤ 3 ∧ i = .int .i64 k ∧ s = .int .i64 ((n : Int) + m + ptZ cm n m k) ∧ Below w.heap.size w wr) (fun _ i _ => (3 - intOf i).toNat)
  case atStart => exact ⟨0, by omega, rfl, by show _ = Value.int .i64 ((n : Int) + m + ((0 : Nat) : Int)); go_num, hb2⟩
  case round =>
    obtain ⟨k, hk, rfl, rfl, hb⟩ := hrel
    rcases Nat.lt_or_ge k 3 with hk3 | hk3
    · have hkz : (k : Int) < 3 := by omega
      obtain ⟨x, hx⟩ : ∃ x, Hid (ptN cm n m k = x) := ⟨_, rfl⟩
      have hxl : x ≤ 1099511627776 := by rw [← hx.out]; exact ptN_le _ _ _ _ _ h1 h2 h3
      have hidx : ∀ W, (Instr.index 120 (.agg #[.int .i64 cm, .int .i64 n, .int .i64 m]) (.int .i64 k)).run Try.prog W = .ok (.int .i64 x) W := fun W => run_index3 _ _ _ k _ (by rw [ptN_get _ _ _ _ hk3, hx.out]) W
      have hw : IntKind.u64.wrap (x : Int) = x := by rw [IntKind.wrap_u64]; omega
      have HS : Hid (ptZ cm n m (k + 1) = ptZ cm n m k + vz x) := by rw [← hx.out]; exact ptZ_step _ _ _ _ hk3
      obtain ⟨z, hz⟩ : ∃ z, Hid (ptZ cm n m k = z) := ⟨_, rfl⟩
      have hzl : z ≤ 33 := by rw [← hz.out]; exact ptZ_le _ _ _ _
      obtain ⟨y, hy⟩ : ∃ y, Hid (vz x = y) := ⟨_, rfl⟩
      have hyl : y ≤ 11 := by rw [← hy.out]; exact vz_le _
      rw [hz.out]
      rw [hz.out, hy.out] at HS
      have HV : Hid (∀ W, Calls Try.prog 88 #[.int .u64 x] W fun e w' => ∃ a c, e = .returned (.slice a y c) ∧ Below W.heap.size W w') := fun W => by
        refine (cvarint_any x W (by omega) (by omega)).mono ?_
        rintro e w' ⟨v', rfl, ho, hb'⟩
        obtain ⟨a', c', rfl⟩ := own_slice ho
        refine ⟨a', c', ?_, hb'⟩
        rw [← hy.out]; rfl
      clear hz hy
      go_wp2_with (go_at_call 88; refine (HV.out _).mono ?_; rintro e w3 ⟨a3, c3, rfl, hb3⟩; have hb4 := hb.trans (hb3.mono hb.size))
      go_roundw
      case rel => exact ⟨k + 1, by omega, by go_num, by rw [HS.out]; go_num, hb4⟩
      case measure => simp [intOf]; omega
    · have hkz : ¬ (k : Int) < 3 := by omega
      obtain rfl : k = 3 := by omega
      have HS : Hid (pcZ cm n m = n + m + ptZ cm n m 3) := by have e : ptZ cm n m 3 = vz cm + vz n + vz m := rfl; show _ = _; rw [e]; unfold pcZ; omega
      go_wp2
      go_ret
      refine ⟨ret_ii ?_, hb⟩
      rw [HS.out]; omega
end Go.Proofs.Ytbnllobofndckaa
