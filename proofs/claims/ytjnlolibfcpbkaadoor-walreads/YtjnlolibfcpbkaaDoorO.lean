import Derived.Test.YtjnlolibfcpbkaaDoorN
import Derived.Lib.SlBuf
namespace Go.Proofs.YtjnlolibfcpbkaaDoor
open Go.RowKit Go.Maps
set_option linter.unusedVariables false
set_option linter.unusedSimpArgs false
theorem head_f (log : Int) (w : World) : Calls Tryd.prog 28 #[lay log false] w fun e w' => e = .returned (.int .i64 7) ∧ Below w.heap.size w w' := head_any log false w
/-- A fragment as it is before it is sealed. -/
def frF : List Int := [0, 0, 0, 0, 3, 0, 1, 97, 98, 99]
def frC : List Value := [.int .u8 0, .int .u8 0, .int .u8 0, .int .u8 0, .int .u8 3, .int .u8 0, .int .u8 1, .int .u8 97, .int .u8 98, .int .u8 99]
theorem blk_frF {w : World} {g : Nat} (h : Blk w g 5 frC) : Arg w (some ⟨g, 0, none⟩) 10 10 frF := by
  refine ⟨rfl, by decide, by decide, .inr ⟨g, 0, rfl, h.lt, fun j hj => ?_⟩⟩
  have hj' : j < 10 := hj
  rw [Nat.zero_add, h.cell]
  have h10 : j = 0 ∨ j = 1 ∨ j = 2 ∨ j = 3 ∨ j = 4 ∨ j = 5 ∨ j = 6 ∨ j = 7 ∨ j = 8 ∨ j = 9 := by omega
  rcases h10 with rfl | rfl | rfl | rfl | rfl | rfl | rfl | rfl | rfl | rfl <;> rfl
theorem Upd.setCells {S : Nat → Prop} {a : World} {g : Nat} (hg : g < a.heap.size → S g) : ∀ (vs : List Value) (o : Nat) (w : World), Upd S a w → Upd S a (w.setCells g o vs)
  | [], _, w, h => h
  | v :: r, o, w, h => Upd.setCells hg r (o + 1) (w.setCell ⟨g, o, none⟩ v) (Upd.setCell (S := S) (p := ⟨g, o, none⟩) h hg v)
theorem seal_len (f : List Int) : (sealV f).length = 4 := byts_len 4 _
/-- What copy makes of it. -/
theorem sealed {w : World} {g : Nat} (h : Blk w g 5 frC) : Arg (w.setCells g 0 (bc (sealV frF))) (some ⟨g, 0, none⟩) 10 10 (sealV frF ++ frF.drop 4) := by
  have hl : (bc (sealV frF)).length = 4 := by rw [bc_len, seal_len]
  have hs : ∀ (vs : List Value) (o : Nat) (w : World), (w.setCells g o vs).heap.size = w.heap.size := by
    intro vs; induction vs with
    | nil => intro o w; rfl
    | cons v r ih => intro o w; show ((w.setCell _ v).setCells g (o + 1) r).heap.size = _; rw [ih]; simp
  refine ⟨by rw [List.length_append, seal_len]; rfl, ?_, by decide, .inr ⟨g, 0, rfl, by rw [hs]; exact h.lt, fun j hj => ?_⟩⟩
  · intro n hn
    rcases List.mem_append.1 hn with hn | hn
    · exact byts_bd 4 _ n hn
    · have h6 : n = 3 ∨ n = 0 ∨ n = 1 ∨ n = 97 ∨ n = 98 ∨ n = 99 := by
        simp [frF] at hn
        omega
      omega
  · rw [Nat.zero_add]
    by_cases h4 : j < 4
    · have hin := World.cell?_setCells_in g (bc (sealV frF)) 0 w (by
        intro i hi
        rw [hl] at hi
        rw [Nat.zero_add, h.cell]
        have : ∀ i, i < 4 → (frC[i]?).isSome = true := by decide
        exact this i hi) j (by rw [hl]; exact h4)
      rw [Nat.zero_add] at hin
      rw [hin, List.getElem_append_left (by rw [seal_len]; exact h4)]
      simp [bc]
    · have hj' : j < 10 := by rw [List.length_append, seal_len] at hj; simpa [frF] using hj
      rw [World.cell?_setCells_out g (bc (sealV frF)) 0 w ⟨g, j, none⟩ (fun _ _ => .inr (by rw [hl]; show 0 + 4 ≤ j; omega)), h.cell, List.getElem_append_right (by rw [seal_len]; omega)]
      simp only [seal_len]
      have h10 : j = 4 ∨ j = 5 ∨ j = 6 ∨ j = 7 ∨ j = 8 ∨ j = 9 := by omega
      rcases h10 with rfl | rfl | rfl | rfl | rfl | rfl <;> rfl
set_option maxRecDepth 100000 in
set_option maxHeartbeats 4000000 in
theorem write_abc {w : World} {B off cp : Nat} (hB : B < w.heap.size) (h0 : w.cell? ⟨B, off, none⟩ = some (.int .u8 97)) (h1 : w.cell? ⟨B, off + 1, none⟩ = some (.int .u8 98)) (h2 : w.cell? ⟨B, off + 2, none⟩ = some (.int .u8 99)) :
    Calls Tryd.prog 44 #[lay 7 false, .slice none 0 0, .int .i64 1, .slice (some ⟨B, off, none⟩) 3 cp] w fun e w' => ∃ v, e = .returned v ∧ OwnB w' w.heap.size v (sealV frF ++ frF.drop 4) ∧ Below w.heap.size w w' := by
  have mk : ∀ W, (Instr.makeSlice 22 (.int .i64 4) (.int .i64 10)).run Tryd.prog W = .ok (.slice (some ⟨W.heap.size, 0, none⟩) 4 10) (W.alloc (.cells #[.int .u8 0, .int .u8 0, .int .u8 0, .int .u8 0, .int .u8 0, .int .u8 0, .int .u8 0, .int .u8 0, .int .u8 0, .int .u8 0] 5)) := fun W => by kernel_rfl
  go_enter Tryd.func44, Tryd.ntmps44
  obtain ⟨i0, hi, hz0, hz1, hz2⟩ := info_parts info5
  have hs1 : (Tryd.prog.info? 5).map (·.size) = some 1 := by rw [hi]; simp [hz1]
  go_upto_region 7 with (first
    | (go_at_call 28; refine (head_f 7 _).mono ?_; rintro e w1 ⟨rfl, hB1⟩
       have c1 : w1.cell? ⟨w.heap.size, 1, none⟩ = some (.bool false) := (hB1.cell (p := ⟨w.heap.size, 1, none⟩) (by simp)).trans (World.cell?_alloc_new w #[.int .u32 7, .bool false] 41 1)
       have hsz : w.heap.size < w1.heap.size := by have := hB1.size; simp at this; omega
       have bw1 : Below w.heap.size w w1 := ((Below.refl w.heap.size w).alloc (Nat.le_refl _) _).trans (hB1.mono (by simp))
       have hBs : B < w1.heap.size := by omega
       have k0 : ∀ o o2 o3, (((w1.alloc o).alloc o2).alloc o3).cell? ⟨B, off, none⟩ = some (.int .u8 97) := fun o o2 o3 => ((((bw1.alloc bw1.size o).alloc (bw1.alloc bw1.size o).size o2).alloc ((bw1.alloc bw1.size o).alloc (bw1.alloc bw1.size o).size o2).size o3).cell (p := ⟨B, off, none⟩) hB).trans h0
       have k1 : ∀ o o2 o3, (((w1.alloc o).alloc o2).alloc o3).cell? ⟨B, off + 1, none⟩ = some (.int .u8 98) := fun o o2 o3 => ((((bw1.alloc bw1.size o).alloc (bw1.alloc bw1.size o).size o2).alloc ((bw1.alloc bw1.size o).alloc (bw1.alloc bw1.size o).size o2).size o3).cell (p := ⟨B, off + 1, none⟩) hB).trans h1
       have k2 : ∀ o o2 o3, (((w1.alloc o).alloc o2).alloc o3).cell? ⟨B, off + 2, none⟩ = some (.int .u8 99) := fun o o2 o3 => ((((bw1.alloc bw1.size o).alloc (bw1.alloc bw1.size o).size o2).alloc ((bw1.alloc bw1.size o).alloc (bw1.alloc bw1.size o).size o2).size o3).cell (p := ⟨B, off + 2, none⟩) hB).trans h2
       have d1 : ∀ o, (w1.alloc o).cell? ⟨w.heap.size, 1, none⟩ = some (.bool false) := fun o => (World.cell?_of_block (a := ⟨w.heap.size, 1, none⟩) (Below.heap_alloc w1 o w.heap.size hsz)).trans c1))
  have bk : ∀ o1 o2, Blk (((w1.alloc (.cells frC.toArray 5)).alloc o1).alloc o2) w1.heap.size 5 frC := fun o1 o2 => ((Blk.new w1 5 frC).alloc o1).alloc o2
  have bl : ∀ o1 o2, Below w.heap.size w (((w1.alloc (.cells frC.toArray 5)).alloc o1).alloc o2) := fun o1 o2 => ((bw1.alloc bw1.size _).alloc (bw1.alloc bw1.size _).size _).alloc ((bw1.alloc bw1.size _).alloc (bw1.alloc bw1.size _).size _).size _
  obtain ⟨W6, hW6⟩ : ∃ W, W = (((w1.alloc (.cells #[.int .u8 0, .int .u8 0, .int .u8 0, .int .u8 0, .int .u8 3, .int .u8 0, .int .u8 1, .int .u8 97, .int .u8 98, .int .u8 99] 5)).alloc (.cells #[.int .u8 3, .int .u8 0] 5)).alloc (.cells #[.int .u8 1] 5)) := ⟨_, rfl⟩
  rw [← hW6]
  have bk6 : Blk W6 w1.heap.size 5 frC := by rw [hW6]; exact bk _ _
  have bl6 : Below w.heap.size w W6 := by rw [hW6]; exact bl _ _
  clear hW6 bk bl k0 k1 k2 d1 mk c1
  have HS := seal_any (blk_frF bk6) (by decide) (by decide)
  go_wp2_with (first
    | (go_at_call 41; refine HS.mono ?_; rintro e w7 ⟨v7, rfl, ho7, hB7⟩
       obtain ⟨b7, o7, c7, e7⟩ := ho7.form (by rw [seal_len]; decide)
       rw [seal_len] at e7
       subst e7
       have bk7 := bk6.upd (S := Non) (Upd.ofBelow hB7) (fun h => h)
       have hcp := run_copy_cells (P := Tryd.prog) w7 22 22 3 5 w1.heap.size 0 10 10 ⟨b7, o7, none⟩ 4 c7 (bc (sealV frF)) Tryd.underlying22 hs1 (by rw [bc_len, seal_len]; rfl) ho7.news (fun j hj => by
         rw [bc_len, seal_len] at hj
         rw [Nat.zero_add, bk7.cell]
         have : ∀ i, i < 4 → (frC[i]?).isSome = true := by decide
         exact this j hj) (fun j _ => bk7.frozen _) (bc_one _)
       have sr := (sealed bk7).src
       have us := Upd.setCells (S := fun k => k = w1.heap.size) (a := w7) (g := w1.heap.size) (fun _ => rfl) (bc (sealV frF)) 0 w7 (Upd.refl _ _)
       have b7' := bl6.trans (hB7.mono bl6.size)
       have bs : Below w.heap.size w (w7.setCells w1.heap.size 0 (bc (sealV frF))) := b7'.trans (us.below (n := w.heap.size) (fun k hk => Nat.lt_of_lt_of_le hk b7'.size) (fun k hk => by rw [hk]; omega)))
    | (at_builtin; refine Go.Lib.wpList_copy_run _ rfl _ _ 22 22 rfl _ _ rfl rfl hcp ?_)
    | (at_builtin; refine OwnB.wpList_append rfl _ _ 22 22 rfl rfl (base := w.heap.size) (l := []) (OwnB.nil _ _) i0 Tryd.underlying22 hi hz0 hz1 hz2 _ rfl (sealV frF ++ frF.drop 4) sr bs.size (by rw [List.length_append, seal_len]; decide) ?_
       intro v9 w9 ho9 hg9 hat9))
  go_ret
  exact ⟨_, rfl, ho9, bs.grown hg9 bs.size (fun k hk => by cases hk)⟩

/-- fragments of "abc" in a new log. -/
theorem kindOf_tt (w : World) : Calls Tryd.prog 45 #[.bool true, .bool true] w fun e w' => e = .returned (.int .i64 1) ∧ w' = w := by
  go_enter Tryd.func45, Tryd.ntmps45
  go_wp2
  go_ret
  exact ⟨rfl, rfl⟩
theorem left0 (w : World) : Calls Tryd.prog 30 #[.int .i64 0] w fun e w' => e = .returned (.int .i64 4096) ∧ w' = w := left_any 0 (by decide) w
theorem tail0 (w : World) : Calls Tryd.prog 26 #[lay 7 false, .int .i64 0] w fun e w' => e = .returned (.int .i64 0) ∧ Below w.heap.size w w' := tail_any 7 false 0 (by decide) w
set_option maxRecDepth 100000 in
set_option maxHeartbeats 4000000 in
theorem frags_abc {w : World} {P B off cp : Nat} (hP : Blk w P 50 [.int .u32 7, .bool false, .int .i64 0]) (hB : B < w.heap.size) (hcp : 3 ≤ cp) (h0 : w.cell? ⟨B, off, none⟩ = some (.int .u8 97)) (h1 : w.cell? ⟨B, off + 1, none⟩ = some (.int .u8 98)) (h2 : w.cell? ⟨B, off + 2, none⟩ = some (.int .u8 99)) :
    Calls Tryd.prog 36 #[ptr P, .slice (some ⟨B, off, none⟩) 3 cp] w fun e w' => ∃ v, e = .returned v ∧ OwnB w' w.heap.size v (sealV frF ++ frF.drop 4) ∧ Below w.heap.size w w' := by
  have hap : ∀ W, (Builtin.append_ #[22, 3] 22 #[.slice none 0 0, .int .i64 0]).run Tryd.prog W = .ok (.slice none 0 0) W := fun W => by kernel_rfl
  have c0 := hP.cell1 0 _ rfl
  have c1 := hP.cell1 1 _ rfl
  have c2 := hP.cell1 2 _ rfl
  have hlt := hP.lt
  have hx0 := c0
  have hx1 := c1
  go_enter Tryd.func36, Tryd.ntmps36
  go_wp2
  go_loopw [1, 5, 6] (fun rc o bg wr => rc = .slice (some ⟨B, off, none⟩) 3 cp ∧ o = .slice none 0 0 ∧ bg = .bool true ∧ wr = w) (fun _ _ _ _ => 0)
  case atStart => exact ⟨rfl, rfl, rfl, rfl⟩
  case round =>
    obtain ⟨rfl, rfl, rfl, hw0⟩ := hrel
    have hw1 := hw0.symm
    subst hw1
    go_upto_region 4 with fail
    go_cut [5] from 9 to 22 (fun o wd => o = .slice none 0 0 ∧ Below w.heap.size w wd)
    case first =>
      go_region_held_law (fun w' => w'.cell? ⟨P, 0, none⟩ = some (.int .u32 7) ∧ w'.cell? ⟨P, 1, none⟩ = some (.bool false) ∧ w'.cell? ⟨P, 2, none⟩ = some (.int .i64 0))
        (first
          | exact ⟨k0, k1, k2⟩
          | (go_keep; done))
        (first
          | (go_at_call 26; refine (tail0 _).mono ?_; rintro e w3 ⟨rfl, hB3⟩
             have k0 := (hB3.cell (p := ⟨P, 0, none⟩) (by simpa using hlt)).trans c0
             have k1 := (hB3.cell (p := ⟨P, 1, none⟩) (by simpa using hlt)).trans c1
             have k2 := (hB3.cell (p := ⟨P, 2, none⟩) (by simpa using hlt)).trans c2))
      all_goals
        go_wp2
        go_meet
        exact ⟨rfl, (Below.refl w.heap.size w).drew.trans (hB3.mono (by simp))⟩
    case rest =>
      obtain ⟨rfl, hB1⟩ := hcut
      obtain ⟨W1, rfl⟩ : ∃ W1, W1 = wc := ⟨_, rfl⟩
      have c0' := (hB1.cell (p := ⟨P, 0, none⟩) hlt).trans c0
      have c1' := (hB1.cell (p := ⟨P, 1, none⟩) hlt).trans c1
      have c2' := (hB1.cell (p := ⟨P, 2, none⟩) hlt).trans c2
      have hlt1 : P < W1.heap.size := Nat.lt_of_lt_of_le hlt hB1.size
      go_upto_region 5 with fail
      go_cut [7] from 23 to 39 (fun o wd => o = .int .i64 3 ∧ Below W1.heap.size W1 wd)
      case first =>
        go_region_held_law (fun w' => w'.cell? ⟨P, 0, none⟩ = some (.int .u32 7) ∧ w'.cell? ⟨P, 1, none⟩ = some (.bool false) ∧ w'.cell? ⟨P, 2, none⟩ = some (.int .i64 0))
          (first
            | exact ⟨k0, k1, k2⟩
            | (go_keep; done))
          (first
            | (go_at_call 30; refine (left0 _).mono ?_; rintro e w2 ⟨rfl, hw⟩; have hw2 := hw.symm; subst hw2)
            | (go_at_call 28; refine (head_f 7 _).mono ?_; rintro e w3 ⟨rfl, hB3⟩
               have k0 := (hB3.cell (p := ⟨P, 0, none⟩) (by simpa using hlt1)).trans c0'
               have k1 := (hB3.cell (p := ⟨P, 1, none⟩) (by simpa using hlt1)).trans c1'
               have k2 := (hB3.cell (p := ⟨P, 2, none⟩) (by simpa using hlt1)).trans c2'))
        all_goals
          go_wp2
          go_meet
          exact ⟨rfl, (Below.refl W1.heap.size W1).drew.trans (hB3.mono (by simp))⟩
      case rest =>
        obtain ⟨rfl, hB2⟩ := hcut
        obtain ⟨W2, rfl⟩ : ∃ W2, W2 = wc := ⟨_, rfl⟩
        have hB9 : Below w.heap.size w W2 := hB1.trans (hB2.mono hB1.size)
        have c0'' := (hB9.cell (p := ⟨P, 0, none⟩) hlt).trans c0
        have c1'' := (hB9.cell (p := ⟨P, 1, none⟩) hlt).trans c1
        have CH3 : ∀ W, (Instr.sliceAt 22 (.slice (some ⟨B, off, none⟩) 3 cp) none (some (.int .i64 3)) none).run Tryd.prog W = .ok (.slice (some ⟨B, off, none⟩) 3 cp) W := fun W => bcut_hi (some ⟨B, off, none⟩) 3 cp 3 hcp W
        have HW : ∀ W, Below w.heap.size w W → Calls Tryd.prog 44 #[lay 7 false, .slice none 0 0, .int .i64 1, .slice (some ⟨B, off, none⟩) 3 cp] W fun e w' => ∃ v, e = .returned v ∧ OwnB w' w.heap.size v (sealV frF ++ frF.drop 4) ∧ Below w.heap.size w w' := fun W hW => (write_abc (cp := cp) (Nat.lt_of_lt_of_le hB hW.size) ((hW.cell (p := ⟨B, off, none⟩) hB).trans h0) ((hW.cell (p := ⟨B, off + 1, none⟩) hB).trans h1) ((hW.cell (p := ⟨B, off + 2, none⟩) hB).trans h2)).mono (by
          rintro e w' ⟨v, rfl, ho, hb⟩
          exact ⟨v, rfl, ho.mono hW.size, hW.trans (hb.mono hW.size)⟩)
        have HWd := HW _ hB9.drew
        clear c0 c1 c2 c0' c1' c2' hap HW hP h0 h1 h2
        go_wp2
        go_region_held_law (fun w' => w'.cell? ⟨P, 0, none⟩ = some (.int .u32 7) ∧ w'.cell? ⟨P, 1, none⟩ = some (.bool false))
          (first
            | exact ⟨k0, k1⟩
            | (go_keep; done))
          (first
            | (go_at_call 45; refine (kindOf_tt _).mono ?_; rintro e w2 ⟨rfl, hw⟩; have hw2 := hw.symm; subst hw2)
            | (go_at_call 44; refine HWd.mono ?_; rintro e w3 ⟨v, rfl, ho, hB3⟩
               have k0 := (hB3.cell (p := ⟨P, 0, none⟩) hlt).trans hx0
               have k1 := (hB3.cell (p := ⟨P, 1, none⟩) hlt).trans hx1))
        all_goals
          go_wp2
          go_ret
          exact ⟨_, rfl, ho, hB3⟩
end Go.Proofs.YtjnlolibfcpbkaaDoor
