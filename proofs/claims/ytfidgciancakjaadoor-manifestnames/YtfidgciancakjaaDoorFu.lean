/-
  FormatUint at base 10, and Name.
-/
import Derived.Test.YtfidgciancakjaaDoorSh
import Derived.Test.YtfidgciancakjaaDoorRa
import Derived.Lib.ItoaMem
namespace Go.Proofs.YtfidgciancakjaaDoor
open Go.RowKit Go.Lib Go.Sort
set_option linter.unusedVariables false
set_option linter.unusedSimpArgs false
/-- The table of powers is there. -/
abbrev Tab (w : World) : Prop := Lib.TabIs Tryd.prog w "internal/strconv.uint64pow10" .u64 Lib.pow10Tab
theorem holds0 (w : World) (T : TypeId) (nd : Nat) (hs : nd ≤ 24) : Holds (fun (b : UInt8) => Value.int .u8 (b.toNat : Int)) (w.alloc (.cells zeros24 T)) w.heap.size 0 (Array.replicate nd (0 : UInt8)) := fun j hj => by
  have hj' : j < nd := by simpa using hj
  refine ⟨?_, World.frozen?_alloc_new _ _ _ _⟩
  rw [World.cell?_alloc_new, zeros24_at _ (by omega), getElem!_pos _ j hj]
  simp
theorem fin0 (w : World) (o : Obj) (dk : Array UInt8) (k : Nat) : Below w.heap.size w ((putRow (fun (b : UInt8) => Value.int .u8 (b.toNat : Int)) (w.alloc o) w.heap.size 0 dk).drewN k) := by
  rw [alloc_eq_grow]
  obtain ⟨os', _, e⟩ := putRow_grow_new (fun (b : UInt8) => Value.int .u8 (b.toNat : Int)) w #[o] w.heap.size 0 dk (Nat.le_refl _)
  rw [e]
  exact ⟨rfl, rfl, rfl, by simp [Sort.grow, World.drewN], fun j hj => by simp only [Sort.grow, World.drewN]; exact Array.getElem?_append_left hj⟩
set_option maxRecDepth 100000 in
set_option maxHeartbeats 4000000 in
theorem fmt15_any (w : World) (u : Nat) (hu : u < 18446744073709551616) (htab : Tab w) :
    Calls Tryd.prog 15 #[.int .u64 u, .int .i64 10] w fun e w' => e = .returned (.string (bs (decDigits u))) ∧ Below w.heap.size w w' := by
  by_cases hs : u < 100
  · have hs' : (u : Int) < 100 := by omega
    have hin : ∀ W, Calls Tryd.prog 29 #[.int .i64 u] W fun e w' => e = .returned (.string (bs (decDigits u))) ∧ w' = W := fun W => Tryd.internal_strconv_small u hs W
    go_enter Tryd.func15, Tryd.ntmps15
    go_wp2_with (go_at_call 29; refine (hin _).mono ?_; rintro e w' ⟨rfl, rfl⟩)
    go_ret
    exact ⟨rfl, Below.refl _ _⟩
  · have hs' : ¬ (u : Int) < 100 := by omega
    have hnd : Lib.nDigits u ≤ 20 := by have := nmK_le hu; unfold nmK at this; omega
    have hal : Tryd.prog.arrayLen 55 = 24 := by simp [Program.arrayLen, Tryd.underlying55]
    have hsl : ∀ W, (Instr.sliceAt 55 (.pointer (some ⟨w.heap.size, 0, none⟩)) none (some (.int .i64 (Lib.nDigits u : Int))) none).run Tryd.prog W = .ok (.slice (some ⟨w.heap.size, 0, none⟩) (Lib.nDigits u) 24) W := fun W => by
      rw [run_sliceAt_array_h W 55 ⟨w.heap.size, 0, none⟩ (by simp [Program.arrayLen, Program.elem, Tryd.underlying55]) .i64 (Lib.nDigits u : Int) (by omega) (by rw [hal]; omega)]
      go_simp
    have hH0 := holds0 w 55 (Lib.nDigits u) (by omega)
    have hfmt := Tryd.internal_strconv_formatBase10 w.heap.size 0 24 u (Array.replicate (Lib.nDigits u) 0) (w.alloc (.cells Lib.zeros24 55)) hH0 (by rw [Array.size_replicate]; exact Lib.lt_pow_nDigits u) hu (by rw [Array.size_replicate]; omega)
    rw [Array.size_replicate] at hfmt
    have hnum := Tryd.internal_strconv_numDigits u (by omega) hu (w.alloc (.cells Lib.zeros24 55)) (Lib.tabIs_alloc htab _)
    have HH0 : Hid _ := hH0
    clear hH0 hal
    go_enter Tryd.func15, Tryd.ntmps15
    go_wp2_with (first
      | (go_at_call 30; refine hnum.mono ?_; rintro e w' ⟨rfl, hw⟩; have hw' := hw.symm; subst hw'))
    go_at_call 31
    refine hfmt.mono ?_
    rintro e w' ⟨rfl, k, v', dk, rfl, hF⟩
    have hcv : (convert 34 9 (.slice (some ⟨w.heap.size, 0, none⟩) (Lib.nDigits u) 24)).run Tryd.prog ((putRow (fun (b : UInt8) => Value.int .u8 (b.toNat : Int)) (w.alloc (.cells Lib.zeros24 55)) w.heap.size 0 dk).drewN k) = .ok (.string (bs (decDigits u))) ((putRow (fun (b : UInt8) => Value.int .u8 (b.toNat : Int)) (w.alloc (.cells Lib.zeros24 55)) w.heap.size 0 dk).drewN k) := by
      have h := run_convert_bytes_back (P := Tryd.prog) ((putRow (fun (b : UInt8) => Value.int .u8 (b.toNat : Int)) (w.alloc (.cells Lib.zeros24 55)) w.heap.size 0 dk).drewN k) 34 9 5 ⟨w.heap.size, 0, none⟩ 24 (Lib.decDigits u) Tryd.underlying34 Tryd.underlying5 Tryd.underlying9 (fun j hj => by
        rw [Lib.row_is_numeral hF j hj, Lib.add_plain, World.cell?_drewN]
        exact cell?_putRow (fun (b : UInt8) => Value.int .u8 (b.toNat : Int)) _ w.heap.size 0 _ dk HH0.out (by rw [hF.size, Array.size_replicate]) j (by rw [hF.size]; rw [Lib.decDigits_length] at hj; exact hj))
      rw [Lib.decDigits_length] at h
      exact h
    have hfin : Hid _ := fin0 w (.cells Lib.zeros24 55) dk k
    clear hfmt hnum HH0 hF
    generalize (putRow (fun (b : UInt8) => Value.int .u8 (b.toNat : Int)) (w.alloc (.cells Lib.zeros24 55)) w.heap.size 0 dk).drewN k = W at *
    go_wp2_with fail
    go_ret
    exact ⟨rfl, hfin.out⟩
theorem rep_48 : ∀ n, Lib.repeatL [48] n = List.replicate n (48 : UInt8) := by
  intro n
  induction n with
  | zero => rfl
  | succ n ih => rw [Lib.repeatL, ih]; rfl
theorem tab_below {w w' : World} (h : Tab w) (hB : Below w.heap.size w w') : Tab w' := by
  unfold Tab Lib.TabIs World.var? at *
  cases hg : Tryd.prog.globalNamed "internal/strconv.uint64pow10" with
  | none => simp [hg] at h
  | some g =>
    simp only [hg, Option.bind_some] at h ⊢
    have hlt : g < w.heap.size := by
      rcases Nat.lt_or_ge g w.heap.size with h' | h'
      · exact h'
      · rw [Array.getElem?_eq_none h'] at h; simp at h
    rw [hB.block g hlt]
    exact h
set_option maxRecDepth 100000 in
set_option maxHeartbeats 4000000 in
theorem fmt10_any (w : World) (u : Nat) (hu : u < 18446744073709551616) (htab : Tab w) :
    Calls Tryd.prog 10 #[.int .u64 u, .int .i64 10] w fun e w' => e = .returned (.string (bs (decDigits u))) ∧ Below w.heap.size w w' := by
  have H := fmt15_any w u hu htab
  go_enter Tryd.func10, Tryd.ntmps10
  go_wp2_with (go_at_call 15; refine H.mono ?_; rintro e w' ⟨rfl, hB⟩)
  go_ret
  exact ⟨rfl, hB⟩
set_option maxRecDepth 100000 in
set_option maxHeartbeats 4000000 in
theorem name_any (w : World) (u : Nat) (hu : u < 18446744073709551616) (htab : Tab w) :
    Calls Tryd.prog 6 #[.int .u64 u] w fun e w' => e = .returned (.string (bs (nmL u))) ∧ Below w.heap.size w w' := by
  have H := fmt10_any w u hu htab
  have hl : (decDigits u).length ≤ 20 := by rw [decDigits_length]; have := nmK_le hu; unfold nmK at this; omega
  have HR : ∀ W, Calls Tryd.prog 11 #[.string (bs [48]), .int .i64 (6 - (decDigits u).length : Nat)] W fun e w' => e = .returned (.string (bs (List.replicate (6 - (decDigits u).length) 48))) ∧ Below W.heap.size W w' := fun W => by
    refine (Tryd.strings_Repeat (bs [48]) (6 - (decDigits u).length) W (by omega) (by rw [bs_size]; simp; omega)).mono ?_
    rintro e w' ⟨rfl, hB⟩
    refine ⟨?_, hB⟩
    rw [show (bs [48]).data.toList = [48] from rfl, rep_48]; rfl
  have hfin : Hid (bs pfx ++ bs (List.replicate (6 - (decDigits u).length) 48) ++ bs (decDigits u) = bs (nmL u)) := by
    show _ = _
    rw [bs_app, bs_app, List.append_assoc, nm_pad]; rfl
  have hsz : (bs (decDigits u)).size = (decDigits u).length := bs_size _
  have hrz : (bs (List.replicate (6 - (decDigits u).length) 48)).size = 6 - (decDigits u).length := by rw [bs_size]; simp
  generalize (decDigits u).length = n at *
  generalize bs (decDigits u) = S at *
  generalize bs (List.replicate (6 - n) 48) = Z at *
  obtain ⟨m, hm⟩ : ∃ m : Nat, 6 - n = m := ⟨_, rfl⟩
  rw [hm] at HR hrz
  have hmax : max (6 - (n : Int)) 0 = (m : Int) := by omega
  go_enter Tryd.func6, Tryd.ntmps6
  go_wp2_with (first
    | (go_at_call 10; refine H.mono ?_; rintro e w1 ⟨rfl, hB1⟩)
    | (go_at_call 11; refine (HR _).mono ?_; rintro e w2 ⟨rfl, hB2⟩))
  go_ret
  exact ⟨by rw [← hfin.out]; rfl, hB1.trans (hB2.mono hB1.size)⟩
end Go.Proofs.YtfidgciancakjaaDoor
