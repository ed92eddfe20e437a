/-
  The sort at uint32: slices.Sort.
  Families in order, each once: sorted and then thinned, or put in one by one.
  The library's slices.Compact at uint32, laid in plain words.
-/
import Derived.Test.YtkpijoogaicodaaHp
import Derived.Test.YtkpijoogaicodaaHb
import Derived.Lib.SlicesCompact
import Derived.Shelf.SlicesE.Compact
namespace Go.Proofs.Ytkpijoogaicodaa
open Go.RowKit Go.Sort
set_option linter.unusedVariables false
set_option linter.unusedSimpArgs false
set_option maxRecDepth 100000 in
set_option maxHeartbeats 2000000 in
theorem sort_row (blk off cap : Nat) (d : Array Int) (w : World) (h : Holds (Value.int .u32) w blk off d) (hblk : blk < w.heap.size) (hsz : d.size < 65536) :
    Calls Try.prog 67 #[.slice (some ⟨blk, off, none⟩) d.size cap] w fun e w' => e = .returned (.tuple #[]) ∧ Gw w blk off d.size (Sort.sort ltInt d) w' := by
  have hp : Hid (∀ W, W = w → Calls Try.prog 78 #[.slice (some ⟨blk, off, none⟩) d.size cap, .int .i64 (0 : Int), .int .i64 d.size, .int .i64 (Sort.bitsLen d.size)] W fun e w' => e = .returned (.tuple #[]) ∧ Gw w blk off d.size (Sort.sort ltInt d) w') := fun W e => by
    subst e
    exact pdq_any (d.size + 1) blk off cap 0 d.size (Sort.bitsLen d.size) d W (by omega) h hblk (by omega) (by omega) hsz (by have := bitsLen_le d.size hsz; omega) (.inl rfl)
  have hl : Hid (∀ W, Calls Try.prog 79 #[.int .u64 d.size] W fun e w' => e = .returned (.int .i64 (Sort.bitsLen d.size)) ∧ w' = W) := fun W => blen_any d.size W hsz
  obtain ⟨D, hD⟩ : ∃ D, Sort.sort ltInt d = D := ⟨_, rfl⟩
  rw [hD] at hp ⊢
  clear hD
  generalize Sort.bitsLen d.size = B at *
  generalize d.size = N at *
  clear h
  go_enter Try.func67, Try.ntmps67
  go_wp2_with (first
    | (go_at_call 78; refine (hp.out _ rfl).mono ?_; rintro e w4 ⟨rfl, hw4⟩)
    | (go_at_call 79; refine (hl.out _).mono ?_; rintro e w3 ⟨rfl, hw3⟩; have hw5 := hw3.symm; subst hw5; clear hw3))
  go_end0
  exact ⟨rfl, hw4⟩
set_option maxRecDepth 100000 in
set_option maxHeartbeats 2000000 in
theorem ins_nil (w : World) : Calls Try.prog 82 #[.slice none 0 0, .int .i64 0, .int .i64 0] w fun e w' => e = .returned (.tuple #[]) ∧ w' = w := by
  go_enter Try.func82, Try.ntmps82
  go_wp2
  go_loopw [6] (fun vi wr => vi = .int .i64 1 ∧ wr = w) (fun _ _ => 0)
  case atStart => exact ⟨rfl, rfl⟩
  case round =>
    obtain ⟨rfl, rfl⟩ := hrel
    go_wp2
    go_end0
    exact ⟨rfl, rfl⟩
set_option maxRecDepth 100000 in
set_option maxHeartbeats 2000000 in
theorem pdq_nil (B : Nat) (hB : B < 65536) (w : World) : Calls Try.prog 78 #[.slice none 0 0, .int .i64 0, .int .i64 0, .int .i64 B] w fun e w' => e = .returned (.tuple #[]) ∧ w' = w := by
  go_enter Try.func78, Try.ntmps78
  go_wp2
  go_loopg [1, 2, 3, 8, 9] 0 (fun k s1 s2 s3 s8 s9 wr => s1 = .int .i64 0 ∧ s2 = .int .i64 0 ∧ s3 = .int .i64 B ∧ s8 = .bool true ∧ s9 = .bool true ∧ wr = w)
  case atStart => exact ⟨rfl, rfl, rfl, rfl, rfl, rfl⟩
  case round =>
    obtain ⟨rfl, rfl, rfl, rfl, rfl, rfl⟩ := hrel
    go_wp2_with (go_at_call 82; refine (ins_nil _).mono ?_; rintro e w1 ⟨rfl, rfl⟩)
    (try simp only [Exit.inBlock, Exit.then]); refine bodyPost_ret (results_none rfl _ _ _) rfl ?_
    exact ⟨rfl, rfl⟩
set_option maxRecDepth 100000 in
set_option maxHeartbeats 2000000 in
theorem sort_nil (w : World) : Calls Try.prog 67 #[.slice none 0 0] w fun e w' => e = .returned (.tuple #[]) ∧ w' = w := by
  have hl : Hid (∀ W, Calls Try.prog 79 #[.int .u64 (0 : Int)] W fun e w' => e = .returned (.int .i64 ((0 : Nat) : Int)) ∧ w' = W) := fun W => blen_any 0 W (by omega)
  go_enter Try.func67, Try.ntmps67
  go_wp2_with (first
    | (go_at_call 78; refine (pdq_nil 0 (by omega) _).mono ?_; rintro e w4 ⟨rfl, hw4⟩; have hw5 := hw4.symm; subst hw5; clear hw4)
    | (go_at_call 79; refine (hl.out _).mono ?_; rintro e w3 ⟨rfl, hw3⟩; have hw5 := hw3.symm; subst hw5; clear hw3))
  go_end0
  exact ⟨rfl, rfl⟩
theorem sort_merge (zs : List Int) : Sort.sort ltInt zs.toArray = (zs.mergeSort fun x y => decide (x ≤ y)).toArray := by
  rw [← sortInt zs]
end Go.Proofs.Ytkpijoogaicodaa
namespace Go.Proofs.Ytkpijoogaicodaa
open Go.RowKit Go.Lib
set_option linter.unusedVariables false
set_option linter.unusedSimpArgs false
theorem strict_ext : ∀ (l1 l2 : List Int), l1.Pairwise (· < ·) → l2.Pairwise (· < ·) → (∀ x, x ∈ l1 ↔ x ∈ l2) → l1 = l2 := by
  intro l1
  induction l1 with
  | nil =>
    intro l2 _ _ h
    cases l2 with
    | nil => rfl
    | cons y l2 => have := (h y).2 (by simp); simp at this
  | cons x l1 ih =>
    intro l2 h1 h2 h
    cases l2 with
    | nil => have := (h x).1 (by simp); simp at this
    | cons y l2 =>
      rw [List.pairwise_cons] at h1 h2
      have exy : x = y := by
        have a := (h x).1 (by simp)
        have b := (h y).2 (by simp)
        simp only [List.mem_cons] at a b
        rcases a with a | a
        · exact a
        · rcases b with b | b
          · exact b.symm
          · have := h1.1 y b; have := h2.1 x a; omega
      subst exy
      rw [ih l2 h1.2 h2.2 (fun z => ?_)]
      constructor
      · intro hz
        have := (h z).1 (by simp [hz])
        simp only [List.mem_cons] at this
        rcases this with e | this
        · have := h1.1 z hz; omega
        · exact this
      · intro hz
        have := (h z).2 (by simp [hz])
        simp only [List.mem_cons] at this
        rcases this with e | this
        · have := h2.1 z hz; omega
        · exact this
theorem plc_split (o : List Int) (x : Int) : o.take (plc o x) = o.takeWhile (fun y => decide (y < x)) ∧ o.drop (plc o x) = o.dropWhile (fun y => decide (y < x)) := by
  unfold plc
  induction o with
  | nil => simp
  | cons y o ih =>
    by_cases h : y < x
    · simp [List.takeWhile_cons, List.dropWhile_cons, h, ih.1, ih.2]
    · simp [List.takeWhile_cons, List.dropWhile_cons, h]
theorem insU_mem {o : List Int} {x : Int} (z : Int) : z ∈ insU o x ↔ z = x ∨ z ∈ o := by
  unfold insU
  have e := List.take_append_drop (plc o x) o
  split
  · rename_i h
    have hm : x ∈ o := List.mem_of_getElem? h
    constructor
    · exact .inr
    · rintro (rfl | h) <;> assumption
  · have : z ∈ o ↔ z ∈ o.take (plc o x) ∨ z ∈ o.drop (plc o x) := by rw [← List.mem_append, e]
    rw [this]
    simp only [List.mem_append, List.mem_singleton]
    constructor
    · rintro ((h | h) | h)
      · exact .inr (.inl h)
      · exact .inl h
      · exact .inr (.inr h)
    · rintro (h | h | h)
      · exact .inl (.inr h)
      · exact .inl (.inl h)
      · exact .inr h
theorem drop_ge {o : List Int} {x : Int} (h : o.Pairwise (· < ·)) : ∀ z ∈ o.dropWhile (fun y => decide (y < x)), x ≤ z := by
  induction o with
  | nil => simp
  | cons y o ih =>
    rw [List.pairwise_cons] at h
    by_cases hy : y < x
    · simpa [List.dropWhile_cons, hy] using ih h.2
    · intro z hz
      simp [List.dropWhile_cons, hy] at hz
      rcases hz with rfl | hz
      · omega
      · have := h.1 z hz; omega
theorem take_lt {o : List Int} {x : Int} : ∀ z ∈ o.takeWhile (fun y => decide (y < x)), z < x := fun z hz => by
  have := List.all_takeWhile (l := o) (p := fun y => decide (y < x))
  have := List.all_eq_true.1 this z hz
  simpa using this
theorem insU_strict {o : List Int} {x : Int} (h : o.Pairwise (· < ·)) : (insU o x).Pairwise (· < ·) := by
  unfold insU
  split
  · exact h
  · rename_i hx
    have e := List.take_append_drop (plc o x) o
    have hp := h
    rw [← e, List.pairwise_append] at hp
    obtain ⟨s1, s2⟩ := plc_split o x
    have hge : ∀ z ∈ o.drop (plc o x), x < z := fun z hz => by
      have h1 := drop_ge h z (s2 ▸ hz)
      rcases Int.lt_or_eq_of_le h1 with h2 | h2
      · exact h2
      · exfalso
        subst h2
        -- the first of what is dropped is x
        cases hd : o.drop (plc o x) with
        | nil => rw [hd] at hz; simp at hz
        | cons y t =>
          have hy : x ≤ y := drop_ge h y (by rw [← s2, hd]; simp)
          have hh : o[plc o x]? = some y := by
            have := List.getElem?_drop (xs := o) (i := plc o x) (j := 0)
            rw [hd] at this
            simpa using this.symm
          rw [hd] at hz hp
          rw [List.mem_cons] at hz
          rcases hz with rfl | hz
          · exact hx hh
          · have := (List.pairwise_cons.1 hp.2.1).1 x hz; omega
    rw [List.append_assoc, List.pairwise_append]
    refine ⟨hp.1, ?_, fun a ha b hb => ?_⟩
    · simp only [List.singleton_append, List.pairwise_cons]
      exact ⟨hge, hp.2.1⟩
    · simp only [List.singleton_append, List.mem_cons] at hb
      have hax : a < x := take_lt a (s1 ▸ ha)
      rcases hb with rfl | hb
      · exact hax
      · have := hge b hb; omega
theorem famI_facts (l : List Rec) : (famI l).Pairwise (· < ·) ∧ ∀ z, z ∈ famI l ↔ z ∈ l.map (·.fam) := by
  have H : ∀ (l : List Rec) (o : List Int), o.Pairwise (· < ·) → (l.foldl (fun o r => insU o r.fam) o).Pairwise (· < ·) ∧ ∀ z, z ∈ l.foldl (fun o r => insU o r.fam) o ↔ z ∈ o ∨ z ∈ l.map (·.fam) := by
    intro l
    induction l with
    | nil => intro o h; exact ⟨h, fun z => by simp⟩
    | cons r l ih =>
      intro o h
      obtain ⟨h1, h2⟩ := ih (insU o r.fam) (insU_strict h)
      refine ⟨h1, fun z => ?_⟩
      rw [List.foldl_cons, h2 z, insU_mem]
      simp only [List.map_cons, List.mem_cons]
      constructor
      · rintro ((h | h) | h)
        · exact .inr (.inl h)
        · exact .inl h
        · exact .inr (.inr h)
      · rintro (h | h | h)
        · exact .inl (.inr h)
        · exact .inl (.inl h)
        · exact .inr h
  obtain ⟨h1, h2⟩ := H l [] List.Pairwise.nil
  exact ⟨h1, fun z => by rw [famI, h2 z]; simp⟩
theorem thin_facts (d : Array Int) (hs : ∀ i j, i ≤ j → j < d.size → d[i]! ≤ d[j]!) : ∀ m, m ≤ d.size → (compactUpTo d m).Pairwise (· < ·) ∧ (∀ z, z ∈ compactUpTo d m ↔ ∃ j, j < m ∧ d[j]! = z) := by
  intro m
  induction m with
  | zero => intro _; exact ⟨by simp [compactUpTo], fun z => by simp [compactUpTo]⟩
  | succ m ih =>
    intro hm
    obtain ⟨h1, h2⟩ := ih (by omega)
    rw [compactUpTo_succ]
    by_cases hk : keeps d m = true
    · rw [if_pos hk]
      have hlt : ∀ z ∈ compactUpTo d m, z < d[m]! := fun z hz => by
        obtain ⟨j, hj, rfl⟩ := (h2 z).1 hz
        have hne : d[m]! ≠ d[m - 1]! := by
          simp [keeps] at hk
          omega
        have a := hs j (m - 1) (by omega) (by omega)
        have b := hs (m - 1) m (by omega) (by omega)
        omega
      refine ⟨List.pairwise_append.2 ⟨h1, by simp, fun a ha b hb => by simp at hb; rw [hb]; exact hlt a ha⟩, fun z => ?_⟩
      rw [List.mem_append, h2 z]
      simp only [List.mem_singleton]
      constructor
      · rintro (⟨j, hj, e⟩ | rfl)
        · exact ⟨j, by omega, e⟩
        · exact ⟨m, by omega, rfl⟩
      · rintro ⟨j, hj, e⟩
        by_cases hjm : j = m
        · subst hjm; exact .inr e.symm
        · exact .inl ⟨j, by omega, e⟩
    · rw [if_neg hk]
      simp only [List.append_nil]
      refine ⟨h1, fun z => ?_⟩
      rw [h2 z]
      constructor
      · rintro ⟨j, hj, e⟩; exact ⟨j, by omega, e⟩
      · rintro ⟨j, hj, e⟩
        by_cases hjm : j = m
        · subst hjm
          simp [keeps] at hk
          exact ⟨j - 1, by omega, by rw [← hk.2]; exact e⟩
        · exact ⟨j, by omega, e⟩
theorem thin_fam (l : List Rec) (zs : List Int) (hz : zs = (l.map (·.fam)).mergeSort (fun x y => decide (x ≤ y))) : compactUpTo zs.toArray zs.length = famI l := by
  have hp : zs.Perm (l.map (·.fam)) := hz ▸ List.mergeSort_perm _ _
  have hsorted : zs.Pairwise (fun x y => decide (x ≤ y) = true) := by
    rw [hz]
    exact List.pairwise_mergeSort (fun a b c h1 h2 => by simp at *; omega) (fun a b => by simp; omega) _
  have hs : ∀ i j, i ≤ j → j < zs.toArray.size → zs.toArray[i]! ≤ zs.toArray[j]! := fun i j hij hj => by
    simp at hj
    rw [show zs.toArray[i]! = zs[i]'(by omega) by simp [show i < zs.length by omega], show zs.toArray[j]! = zs[j] by simp [hj]]
    rcases Nat.lt_or_ge i j with h | h
    · have := List.pairwise_iff_getElem.1 hsorted i j (by omega) hj h
      simpa using this
    · have : i = j := by omega
      subst this; exact Int.le_refl _
  obtain ⟨h1, h2⟩ := thin_facts zs.toArray hs zs.length (by simp)
  obtain ⟨h3, h4⟩ := famI_facts l
  refine strict_ext _ _ h1 h3 fun z => ?_
  rw [h2 z, h4 z, ← hp.mem_iff]
  constructor
  · rintro ⟨j, hj, e⟩
    rw [← e]
    simp [hj]
  · intro h
    obtain ⟨j, hj, e⟩ := List.getElem_of_mem h
    exact ⟨j, hj, by simp [hj, e]⟩
end Go.Proofs.Ytkpijoogaicodaa
namespace Go.Proofs
open Go.Shelf
def Try.cmU_ren : Go.Shelf.Ren := ⟨fun | 43 => 68 | n => n, fun | 22 => 77 | 23 => 29 | n => n, fun n => n⟩
theorem Try.cmU : Go.Proofs.SlLaysE.n43 Try.prog Try.cmU_ren := {
  mixed := by kernel_rfl
  f43 := ⟨Try.f68.name, by decide, Try.func68.trans (congrArg some (by kernel_rfl))⟩
  t0 := Try.underlying0
  a0 := Try.isAgg0
  z0 := Try.sizeOf0
  v0 := Try.zeroValue0
  t3 := Try.underlying3
  a3 := Try.isAgg3
  z3 := Try.sizeOf3
  v3 := Try.zeroValue3
  t4 := Try.underlying4
  a4 := Try.isAgg4
  z4 := Try.sizeOf4
  v4 := Try.zeroValue4
  t22 := Try.underlying77
  a22 := Try.isAgg77
  z22 := Try.sizeOf77
  v22 := Try.zeroValue77
  a23 := Try.isAgg29
  z23 := Try.sizeOf29 }
namespace Ytkpijoogaicodaa
open Go.RowKit Go.Sort Go.Lib
theorem thin_row (blk off cap : Nat) (d : Array Int) (w : World) (h : Holds (Value.int .u32) w blk off d) (hsz : d.size < 65536) (hcap : d.size ≤ cap) :
    Calls Try.prog 68 #[.slice (some ⟨blk, off, none⟩) d.size cap] w fun e w' => e = .returned (.slice (some ⟨blk, off, none⟩) (compactUpTo d d.size).length cap) ∧ Rw w blk off d.size (compactUpTo d d.size ++ List.replicate (d.size - (compactUpTo d d.size).length) 0).toArray w' := by
  refine (AnyE.slices_Compact Try.cmU (Value.int .u32) (fun _ => rfl) (EqlAt.intD _ _ .u32) (NeqAt.intD _ _ .u32) 0 Try.zeroValue29 blk off cap d w h (by omega) hcap).mono fun e w' hh => ⟨hh.1, ?_, hh.2⟩
  have : (compactUpTo d d.size).length ≤ d.size := by
    unfold compactUpTo
    rw [List.length_map]
    exact Nat.le_trans (List.length_filter_le _ _) (by simp)
  simp; omega
set_option maxRecDepth 100000 in
theorem thin_nil (w : World) : Calls Try.prog 68 #[.slice none 0 0] w fun e w' => e = .returned (.slice none 0 0) ∧ w' = w := by
  go_enter Try.func68, Try.ntmps68
  go_wp2
  go_ret
  exact ⟨rfl, rfl⟩
end Ytkpijoogaicodaa
end Go.Proofs
