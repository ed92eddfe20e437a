import Derived.Test.YtkpijoogaicodaaBd
import Derived.Test.YtkpijoogaicodaaQe
import Derived.Test.YtkpijoogaicodaaLi
namespace Go.Proofs.Ytkpijoogaicodaa
open Go.RowKit
set_option linter.unusedVariables false
set_option linter.unusedSimpArgs false

theorem rvar_len (n : Int) (w : World) (h0 : 0 ≤ n) (h1 : n < 18446744073709551616) :
    Calls Try.prog 34 #[.int .u64 n] w fun e w' => ∃ a cap, e = .returned (.slice a (vs n) cap) ∧ Below w.heap.size w w' := by
  refine (rvarint_any n w h0 h1).mono ?_
  rintro e w' ⟨v, rfl, ho, hb⟩
  obtain ⟨a, cap, rfl⟩ := ho.len
  exact ⟨a, cap, rfl, hb⟩
set_option maxRecDepth 100000 in
set_option maxHeartbeats 2000000 in
theorem refSize_any (f k : Int) (key val : ByteArray) (w : World) (f0 : 0 ≤ f) (f1 : f < 4294967296) (hk : key.size ≤ 100000) (hv : ¬ k = 0 → val.size ≤ 100000) :
    Calls Try.prog 24 #[recV f k key val] w fun e w' => e = .returned (.int .i64 (rsz f k key val)) ∧ Below w.heap.size w w' := by
  have b1 := vs_bd f
  have b2 := vs_bd key.size
  have b3 := vs_bd val.size
  have C1 := fun w => rvar_len f w f0 (by omega)
  have C2 := fun w => rvar_len key.size w (by omega) (by omega)
  have C3 := fun (h : ¬ k = 0) w => rvar_len val.size w (by omega) (by have := hv h; omega)
  obtain ⟨R, hR⟩ : ∃ R, rsz f k key val = R := ⟨_, rfl⟩
  rw [hR]
  unfold rsz ts at hR
  generalize vs f = a at *
  generalize vs key.size = b at *
  generalize vs val.size = c at *
  have HR : Hid (1 + a + (b + key.size) + (if k = 0 then 0 else c + val.size) = R) := hR
  have e1 : IntKind.u64.wrap f = f := by rw [IntKind.wrap_u64]; omega
  have e2 : IntKind.u64.wrap (key.size : Int) = key.size := by rw [IntKind.wrap_u64]; omega
  clear hR
  go_enter Try.func24, Try.ntmps24
  go_wp2
  go_cut [3] (fun t wc => t = .int .i64 (1 + a + b + key.size) ∧ Below w.heap.size w wc ∧ RBox w.heap.size f k key val wc ∧ w.heap.size < wc.heap.size)
  case first =>
    go_region_held_law (fun w' => w'.cell? ⟨w.heap.size, 0, none⟩ = some (.int .u32 f) ∧ w'.cell? ⟨w.heap.size, 1, none⟩ = some (.int .i64 k) ∧ w'.cell? ⟨w.heap.size, 2, none⟩ = some (.string key) ∧ w'.cell? ⟨w.heap.size, 3, none⟩ = some (.string val))
      (first
        | (go_keep; done)
        | (refine rkeep hb1 ?_ ?_ <;> (first | assumption | (simp; omega) | (simp; done) | exact rnew _ _ _ _ _))
        | (refine rkeep hb2 ?_ ?_ <;> (first | assumption | (simp; omega) | (simp; done) | exact rnew _ _ _ _ _)))
      (first
        | (go_at_call_of 34 (Value.int IntKind.u64 f); refine (C1 _).mono ?_; rintro e w2 ⟨a1, cp1, rfl, hb1⟩; have hz1 : w.heap.size < w2.heap.size := (by have := hb1.size; first | omega | (simp at this; omega)))
        | (go_at_call_of 34 (Value.int IntKind.u64 (key.size : Int)); refine (C2 _).mono ?_; rintro e w3 ⟨a2, cp2, rfl, hb2⟩; have hz2 : w.heap.size < w3.heap.size := (by have := hb2.size; first | omega | (simp at this; omega))))
    go_wp2
    go_meet
    case rel => exact ⟨val_i (by rw [w64 (1 + a) (by omega) (by omega), w64 (1 + a + b) (by omega) (by omega), w64 _ (by omega) (by omega)]), bstep (bstep ((Below.refl _ _).alloc (Nat.le_refl _) _).drew hb1) hb2, by assumption, hz2⟩
  case rest =>
    obtain ⟨rfl, hb, ⟨c0, c1, c2, c3⟩, hz⟩ := hcut
    by_cases hk0 : k = 0
    · have tk : (k != 0) = false := by simpa using hk0
      have HK : Hid (k = 0) := hk0
      clear hk0 C3
      go_wp2
      go_ret
      exact ⟨ret_ii (by rw [← HR.out, if_pos HK.out]; omega), hb⟩
    · have tk : (k != 0) = true := by simpa using hk0
      have HK : Hid (¬ k = 0) := hk0
      have C4 := C3 hk0
      have hv1 := hv hk0
      have e3 : IntKind.u64.wrap (val.size : Int) = val.size := by rw [IntKind.wrap_u64]; omega
      clear hk0 C3
      go_wp2
      go_region_held_law (fun w' => w'.cell? ⟨w.heap.size, 3, none⟩ = some (.string val))
        (first
          | (go_keep; done)
          | (refine (hb4.cell (p := ⟨w.heap.size, 3, none⟩) ?_).trans ?_ <;> (first | assumption | (simp; omega) | (simp; done))))
        ((go_at_call 34; refine (C4 _).mono ?_; rintro e w4 ⟨a4, cp4, rfl, hb4⟩))
      go_wp2
      go_ret
      exact ⟨ret_ii (by rw [← HR.out, if_neg HK.out]; (try rw [w64 (1 + a + b + key.size + c) (by omega) (by omega)]); (try rw [w64 _ (by omega) (by omega)]); omega), bstep hb.drew hb4⟩
end Go.Proofs.Ytkpijoogaicodaa
namespace Go.Proofs.Ytkpijoogaicodaa
open Go.RowKit
set_option linter.unusedVariables false
set_option linter.unusedSimpArgs false

def mostQ (k : Int) : Int := if k = 0 then 9223372036854775807 else mostV k
set_option maxRecDepth 100000 in
set_option maxHeartbeats 1000000 in
theorem mostQ_any (k : Int) (w : World) (h1 : 0 ≤ k) (h2 : k ≤ 2) : Calls Try.prog 38 #[.int .i64 k] w fun e w' => e = .returned (.int .i64 (mostQ k)) ∧ w' = w := by
  have : k = 0 ∨ k = 1 ∨ k = 2 := by omega
  rcases this with rfl | rfl | rfl
  all_goals
    go_enter Try.func38, Try.ntmps38
    go_wp2
    go_ret
    exact ⟨rfl, rfl⟩
theorem chkQ {k : Int} {key val : ByteArray} (k0 : 0 ≤ k) (k1 : k ≤ 2) (hv : (val.size : Int) ≤ 9223372036854775807) : chk k key val = if 1024 < (key.size : Int) then 2 else if mostQ k < (val.size : Int) then 2 else 0 := by
  unfold chk mostQ
  rw [if_neg (by omega)]
  split
  · rfl
  · by_cases hk : k = 0
    · rw [if_neg (fun h => h.1 hk), if_pos hk, if_neg (by omega)]
    · rw [if_neg hk]
      by_cases hm : mostV k < (val.size : Int)
      · rw [if_pos ⟨hk, hm⟩, if_pos hm]
      · rw [if_neg (fun h => hm h.2), if_neg hm]
set_option maxRecDepth 100000 in
set_option maxHeartbeats 1000000 in
theorem qcheck_any (f k : Int) (key val : ByteArray) (w : World) (hv : (val.size : Int) ≤ 9223372036854775807) :
    Calls Try.prog 11 #[recV f k key val] w fun e w' => e = .returned (.int .i64 (chk k key val)) ∧ Below w.heap.size w w' := by
  by_cases h1 : 0 ≤ k ∧ k ≤ 2
  · rw [chkQ h1.1 h1.2 hv]
    have HM := fun w => mostQ_any k w h1.1 h1.2
    obtain ⟨h1, h2⟩ := h1
    generalize mostQ k = m at *
    by_cases h3 : 1024 < (key.size : Int)
    · have t3 : decide ((1024 : Int) < (key.size : Int)) = true := by simpa using h3
      rw [if_pos h3]
      clear HM
      go_enter Try.func11, Try.ntmps11
      go_wp2
      go_quiet (fail)
      go_wp2
      go_ret
      exact ⟨rfl, belN ((Below.refl _ _).alloc (Nat.le_refl _) _) _⟩
    · have t3 : decide ((1024 : Int) < (key.size : Int)) = false := by simpa using h3
      rw [if_neg h3]
      by_cases h4 : m < (val.size : Int)
      · have t4 : decide (m < (val.size : Int)) = true := by simpa using h4
        rw [if_pos h4]
        go_enter Try.func11, Try.ntmps11
        go_wp2
        go_quiet ((go_at_call 38; exact Calls.quiet_of_same (HM _)))
        go_wp2
        go_ret
        exact ⟨rfl, belN ((Below.refl _ _).alloc (Nat.le_refl _) _) _⟩
      · have t4 : decide (m < (val.size : Int)) = false := by simpa using h4
        rw [if_neg h4]
        go_enter Try.func11, Try.ntmps11
        go_wp2
        go_quiet ((go_at_call 38; exact Calls.quiet_of_same (HM _)))
        go_wp2
        go_ret
        exact ⟨rfl, belN ((Below.refl _ _).alloc (Nat.le_refl _) _) _⟩
  · have hc : chk k key val = 1 := by unfold chk; rw [if_pos (by omega)]
    rw [hc]
    go_enter Try.func11, Try.ntmps11
    by_cases h2 : k < 0
    · go_wp2
      go_ret
      exact ⟨rfl, (Below.refl _ _).alloc (Nat.le_refl _) _⟩
    · have h3 : 2 < k := by omega
      go_wp2
      go_ret
      exact ⟨rfl, (Below.refl _ _).alloc (Nat.le_refl _) _⟩

set_option maxRecDepth 100000 in
set_option maxHeartbeats 1000000 in
theorem sizes_any {w : World} {v : Value} {l : List Rec} (h : RdR w v l) (hl : l.length ≤ 5000) (hf : ∀ r ∈ l, Fine r) :
    Calls Try.prog 32 #[v] w fun e w' => e = .returned (.int .i64 (12 + szs l : Nat)) ∧ Below w.heap.size w w' := by
  have hS := fine_szs hf
  obtain ⟨a, c, rfl⟩ := h.len
  have HL : Hid (szs l ≤ l.length * 300000) := hS
  clear hS
  go_enter Try.func32, Try.ntmps32
  go_wp2
  go_loopw [3, 4] (fun n i wr => ∃ k : Nat, k ≤ l.length ∧ i = .int .i64 k ∧ n = .int .i64 (12 + szs (l.take k) : Nat) ∧ Below w.heap.size w wr) (fun _ i _ => l.length - (intOf i).toNat)
  case atStart => exact ⟨0, Nat.zero_le _, rfl, rfl, Below.refl _ _⟩
  case round =>
    obtain ⟨k, hk, rfl, rfl, hbel⟩ := hrel
    by_cases hlt : k < l.length
    · obtain ⟨b, off, cap, hv, hb, c0, c1, c2, c3⟩ := (h.below hbel).at hlt
      cases hv
      have HT := szs_take l k hlt
      have HF := hf _ (List.getElem_mem hlt)
      have HB := szs_take_le l (k + 1)
      generalize l[k] = r at *
      obtain ⟨f, kd, key, val⟩ := r
      dsimp only at *
      have HC := fun w => refSize_any f kd key val w HF.f0 HF.f1 HF.key HF.val
      generalize szs (l.take k) = n at *
      have HT' : Hid (szs (l.take (k + 1)) = n + rsz f kd key val) := HT
      have hn1 : ((12 + n : Nat) : Int) + (rsz f kd key val : Int) ≤ 2000000000 := by have := HL.out; omega
      clear HT HB
      generalize rsz f kd key val = m at *
      generalize hN : 12 + n = N at *
      go_wp2_with (go_at_call 24; refine (HC _).mono ?_; rintro e w1 ⟨rfl, hb1⟩)
      go_roundw
      case rel => exact ⟨k + 1, by omega, by go_num, val_i (by rw [HT'.out]; omega), bstep hbel hb1⟩
      case measure => simp [intOf]; omega
    · obtain rfl : k = l.length := by omega
      go_wp2
      go_ret
      exact ⟨ret_ii (by rw [List.take_length]), hbel⟩

set_option maxRecDepth 100000 in
set_option maxHeartbeats 1000000 in
theorem qplain_any (r : Rec) (w : World) :
    Calls Try.prog 41 #[recV r.fam r.kind r.key r.val] w fun e w' => e = .returned (recV (plainR r).fam (plainR r).kind (plainR r).key (plainR r).val) ∧ Below w.heap.size w w' := by
  obtain ⟨f, k, key, val⟩ := r
  unfold plainR
  dsimp only
  have b2 : ∀ (o1 o2 : Obj) (p : Addr) (v : Value), w.heap.size ≤ p.block → Below w.heap.size w (((w.alloc o1).alloc o2).setCell p v) := fun o1 o2 p v hp => (((Below.refl w.heap.size w).alloc (Nat.le_refl _) o1).alloc (by simp) o2).setCell hp v
  by_cases hk : k = 0
  · rw [if_pos hk]
    go_enter Try.func41, Try.ntmps41
    go_wp2
    refine bodyPost_ret (v := recV f k key ⟨#[]⟩) (by simp [results, Try.results41, go_sem, *]) rfl ⟨rfl, ?_⟩
    exact ((Below.refl _ _).alloc (Nat.le_refl _) _).alloc (by simp) _
  · rw [if_neg hk]
    go_enter Try.func41, Try.ntmps41
    go_wp2
    refine bodyPost_ret (v := recV f k key val) (by simp [results, Try.results41, go_sem, *]) rfl ⟨rfl, ?_⟩
    exact ((Below.refl _ _).alloc (Nat.le_refl _) _).alloc (by simp) _
end Go.Proofs.Ytkpijoogaicodaa
