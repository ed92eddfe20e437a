import Derived.Test.YtjnlolibfcpbkaaDoorP
import Derived.Lib.SlBytesConst
namespace Go.Proofs.YtjnlolibfcpbkaaDoor
open Go.RowKit Go.Maps
set_option linter.unusedVariables false
set_option linter.unusedSimpArgs false
set_option maxRecDepth 100000 in
set_option maxHeartbeats 4000000 in
theorem lives_any (w : World) : Calls Tryd.prog 10 #[] w fun e w' => e = .returned (.bool true) ∧ Below w.heap.size w w' := by
  have es : ((bstr [97, 98, 99]).toList == ([97, 98, 99] : List UInt8)) = true := by rw [abc_str, ByteArray.toList_eq]; decide
  have hid : (convert 22 22 (.slice (some ⟨w.heap.size + 1, 0, none⟩) 3 3)).run Tryd.prog ((w.alloc (.cells #[.int .u32 7, .bool false, .int .i64 0] 50)).alloc (.cells #[.int .u8 97, .int .u8 98, .int .u8 99] 5)) = .ok (.slice (some ⟨w.heap.size + 1, 0, none⟩) 3 3) ((w.alloc (.cells #[.int .u32 7, .bool false, .int .i64 0] 50)).alloc (.cells #[.int .u8 97, .int .u8 98, .int .u8 99] 5 (3, 4))) := by
    have := Lib.run_convert_bytes_const (P := Tryd.prog) (w.alloc (.cells #[.int .u32 7, .bool false, .int .i64 0] 50)) 22 5 #[.int .u8 97, .int .u8 98, .int .u8 99] 3 3 Tryd.underlying22 Tryd.underlying5
    rw [World.size_alloc] at this
    exact this
  go_enter Tryd.func10, Tryd.ntmps10
  go_upto_region 6 with (first
    | (go_at_call 19; refine (new_any 7 false _).mono ?_; rintro e w1 ⟨rfl, rfl⟩
       have hP : Blk ((w.alloc (.cells #[.int .u32 7, .bool false, .int .i64 0] 50)).alloc (.cells #[.int .u8 97, .int .u8 98, .int .u8 99] 5 (3, 4))) w.heap.size 50 [.int .u32 7, .bool false, .int .i64 0] := (Blk.new w 50 [.int .u32 7, .bool false, .int .i64 0]).alloc _
       have hcs : ∀ i, ((w.alloc (.cells #[.int .u32 7, .bool false, .int .i64 0] 50)).alloc (.cells #[.int .u8 97, .int .u8 98, .int .u8 99] 5 (3, 4))).cell? ⟨w.heap.size + 1, i, none⟩ = (#[.int .u8 97, .int .u8 98, .int .u8 99] : Array Value)[i]? := by
         intro i
         have := World.cell?_alloc_mark (w.alloc (.cells #[.int .u32 7, .bool false, .int .i64 0] 50)) #[.int .u8 97, .int .u8 98, .int .u8 99] 5 (3, 4) i
         rw [World.size_alloc] at this
         exact this
       have HA := add_abc hP (B := w.heap.size + 1) (by simp) (off := 0) (cp := 3) (Nat.le_refl _) (hcs 0) (hcs 1) (hcs 2))
    | (go_at_call 20; refine HA.mono ?_; rintro e w2 ⟨a, c, rfl, hAr, hc, hat, hPl, hU⟩
       have HR := read_any hAr hc 7)
    | (go_at_call 4; refine HR.mono ?_; rintro e w3 ⟨lv, how, en, recs, rfl, hres, hrd, hB3⟩))
  obtain ⟨rfl, rfl, rfl⟩ := hres.one LL_res
  have hat3 := (hB3.cell (p := ⟨w.heap.size, 2, none⟩) hPl).trans hat
  have HT := at_any hat3
  obtain ⟨a', cap', rfl, hr⟩ := hrd
  obtain ⟨g, ra, cp, rfl, hg, hcg, hAg⟩ := hr 0 [97, 98, 99] rfl
  have hAg3 : Arg w3 ra 3 cp [97, 98, 99] := hAg
  have hstr := hAg3.str
  have hB0 : Below w.heap.size w w3 := by
    have b1 : Below w.heap.size w ((w.alloc (.cells #[.int .u32 7, .bool false, .int .i64 0] 50)).alloc (.cells #[.int .u8 97, .int .u8 98, .int .u8 99] 5 (3, 4))) := ((Below.refl _ w).alloc (Nat.le_refl _) _).alloc (by simp) _
    have b2 := b1.trans (hU.below (n := w.heap.size) (fun k hk => Nat.lt_of_lt_of_le hk b1.size) (fun k hk => by rw [hk]; exact Nat.le_refl _))
    exact b2.trans (hB3.mono b2.size)
  clear hres hr hAg hAg3 hAr HR HA hP hcs hid
  go_wp2_with (go_at_call 9; refine HT.mono ?_; rintro e w5 ⟨rfl, hw⟩; have hw2 := hw.symm; subst hw2)
  go_ret
  exact ⟨rfl, hB0⟩
end Go.Proofs.YtjnlolibfcpbkaaDoor
