/-
  The law's walk.
-/
import Derived.Test.YtfidgciancakjaaDoorNu
namespace Go.Proofs.YtfidgciancakjaaDoor
open Go.RowKit Go.Lib
set_option linter.unusedVariables false
set_option linter.unusedSimpArgs false
set_option maxRecDepth 100000 in
set_option maxHeartbeats 4000000 in
theorem names_walk (w : World) (V : Vr w) {n : Nat} (hn : n < 18446744073709551616) (s : ByteArray) (hs : s.size ≤ 281474976710656) :
    Calls Tryd.prog 3 #[.int .u64 n, .string s] w fun e w' => e = .returned (.bool true) ∧ Below w.heap.size w w' := by
  have HA := number_any w V s hs
  have HB : ∀ W, Calls Tryd.prog 5 #[.string s] W fun e w' => e = .returned (.tuple #[.int .u64 (prN s.data.toList).1, .bool (prN s.data.toList).2]) ∧ Below W.heap.size W w' := fun W => by
    rw [prN_rfN]; exact rnumber_any W s hs
  have hz : (bs (nmL n)).size ≤ 281474976710656 := by
    rw [bs_size]; unfold nmL
    have := nmK_le hn
    rw [List.length_append, dgs_len]
    have : pfx.length = 9 := rfl
    omega
  have HN : ∀ W, Vr W → Calls Tryd.prog 4 #[.string (bs (nmL n))] W fun e w' => e = .returned (.tuple #[.int .u64 n, .bool true]) ∧ Below W.heap.size W w' := fun W hW => by
    have h := number_any W hW (bs (nmL n)) hz
    have e : (bs (nmL n)).data.toList = nmL n := by simp [bs]
    rw [e, prN_nm hn] at h
    exact h
  have HM : ∀ W, Vr W → Calls Tryd.prog 6 #[.int .u64 n] W fun e w' => e = .returned (.string (bs (nmL n))) ∧ Below W.heap.size W w' := fun W hW => name_any W n hn hW.t
  have HR : ∀ W, Calls Tryd.prog 7 #[.int .u64 n] W fun e w' => e = .returned (.string (bs (nmL n))) ∧ Below W.heap.size W w' := fun W => rname_any W n hn
  generalize bs (nmL n) = S at *
  generalize prN s.data.toList = q at *
  obtain ⟨q1, q2⟩ := q
  dsimp only at *
  have V' : Hid _ := V
  clear V
  go_enter Tryd.func3, Tryd.ntmps3
  go_wp2_with (first
    | (go_at_call 4; have hq := HA; clear hq; refine HA.mono ?_; rintro e w1 ⟨rfl, hB1⟩; clear HA)
    | (go_at_call 5; refine (HB _).mono ?_; rintro e w2 ⟨rfl, hB2'⟩; have hB2 := hB1.trans (hB2'.mono hB1.size); have V2 : Hid _ := V'.out.below hB2; clear HB hB1)
    | (go_at_call 6; have hq := V2; clear hq; refine (HM _ V2.out).mono ?_; rintro e w3 ⟨rfl, hB3'⟩; have hB3 := hB2.trans (hB3'.mono hB2.size); have V3 : Hid _ := V'.out.below hB3; clear V2 hB2)
    | (go_at_call 4; refine (HN _ V3.out).mono ?_; rintro e w4 ⟨rfl, hB4'⟩; have hB4 := hB3.trans (hB4'.mono hB3.size); have V4 : Hid _ := V'.out.below hB4; clear V3 hB3 HN)
    | (go_at_call 6; refine (HM _ V4.out).mono ?_; rintro e w5 ⟨rfl, hB5'⟩; have hB5 := hB4.trans (hB5'.mono hB4.size); clear V4 hB4)
    | (go_at_call 7; refine (HR _).mono ?_; rintro e w6 ⟨rfl, hB6'⟩; have hB6 := hB5.trans (hB6'.mono hB5.size)))
  go_ret
  exact ⟨rfl, hB6⟩
end Go.Proofs.YtfidgciancakjaaDoor
