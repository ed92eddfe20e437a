import Derived.Test.YtkpijoogaicodaaPc
namespace Go.Proofs.Ytkpijoogaicodaa
open Go.RowKit
set_option linter.unusedVariables false
set_option linter.unusedSimpArgs false

theorem qsave_end {w w2 : World} {q : Nat} {rv mv : Value} {rs : List Rec} {ms : List Nat} {a2 : Option Addr} {c2 : Nat} (h : Qt w q rv mv rs ms) (V2 : Below w.heap.size w w2) (ho2 : w2.ownsRow 0 3 1 (.slice a2 (ms ++ [rs.length]).length c2) (ms ++ [rs.length]).length (imc (ms ++ [rs.length])))
    (n2 : ∀ j, (Value.slice a2 (ms ++ [rs.length]).length c2).ownBlock = some j → w.heap.size ≤ j) :
    ∃ mv', Ending.returned (.tuple #[]) = .returned (.tuple #[]) ∧ Qt (w2.setCell ⟨q, 1, none⟩ (.slice a2 (ms.length + 1) c2)) q rv mv' rs (ms ++ [rs.length]) ∧ Upd (fun k => k = q) w (w2.setCell ⟨q, 1, none⟩ (.slice a2 (ms.length + 1) c2)) ∧ ∀ j, mv'.ownBlock = some j → w.heap.size ≤ j := by
  have e : (ms ++ [rs.length]).length = ms.length + 1 := by simp
  have hq := h.below V2
  have hlq := h.blk.lt
  have U2 : Upd (fun k => k = q) w2 (w2.setCell ⟨q, 1, none⟩ (.slice a2 (ms.length + 1) c2)) := Upd.setCell (p := ⟨q, 1, none⟩) (Upd.refl (fun k => k = q) w2) (fun _ => rfl) _
  rw [e] at n2
  refine ⟨.slice a2 (ms.length + 1) c2, rfl, ⟨hq.blk.set 1 _, hq.row.upd U2 (fun k hk e => h.ne (by rw [hk, e])), ?_, h.ne, h.cap, fun k hk => Nat.lt_of_lt_of_le (hq.lt k hk) U2.size⟩, (Upd.ofBelow V2).trans U2, n2⟩
  rw [e] at ho2 ⊢
  exact row_upd ho2 U2 (fun k hk e => by have := n2 k hk; omega)
set_option maxRecDepth 100000 in
set_option maxHeartbeats 800000 in
theorem qsave_any {w : World} {q : Nat} {rv mv : Value} {rs : List Rec} {ms : List Nat} (h : Qt w q rv mv rs ms) (hl : ms.length ≤ 10000000000000) :
    Calls Try.prog 47 #[ptr q] w fun e w' => ∃ mv', e = .returned (.tuple #[]) ∧ Qt w' q rv mv' rs (ms ++ [rs.length]) ∧ Upd (fun k => k = q) w w' ∧ ∀ j, mv'.ownBlock = some j → w.heap.size ≤ j := by
  obtain ⟨ra, rc, rfl⟩ := h.row.len
  have hm := h.marks
  obtain ⟨ma, mc, rfl⟩ := row_len h.marks
  have c0 := h.blk.cell1 0 _ rfl
  have c1 := h.blk.cell1 1 _ rfl
  have f1 := h.blk.frozen 1
  have lb := h.blk.lt
  have H0 : (w.alloc (.cells #[] 3)).ownsRow 0 3 1 (.slice (some ⟨w.heap.size, 0, none⟩) 0 0) ([] : List Nat).length (imc []) :=
    World.ownsRow_made (base := 0) (e := 3) (size := 1) w #[] 0 (Nat.zero_le _) (by unfold maxLen; omega) rfl
  have O0 : ∀ x, ((w.alloc (.cells #[] 3)).alloc (.cells #[.int .i64 x] 3)).drew.cell? ⟨w.heap.size + 1, 0, none⟩ = some (.int .i64 x) := fun x => by
    have := World.cell?_alloc_new (w.alloc (.cells #[] 3)) #[.int .i64 x] 3 0
    rw [World.size_alloc] at this
    exact this
  have O1 : ∀ x, ((w.alloc (.cells #[.int .i64 x] 3)).alloc (.cells #[] 3)).drew.cell? ⟨w.heap.size, 0, none⟩ = some (.int .i64 x) := fun x => by
    have h1 := World.cell?_alloc_new w #[.int .i64 x] 3 0
    have h2 := ((Below.refl (w.alloc (.cells #[.int .i64 x] 3)).heap.size (w.alloc (.cells #[.int .i64 x] 3))).alloc (Nat.le_refl _) (.cells #[] 3)).drew.cell (p := ⟨w.heap.size, 0, none⟩) (by simp)
    exact h2.trans h1
  have H1 : ∀ x, ((w.alloc (.cells #[.int .i64 x] 3)).alloc (.cells #[] 3)).ownsRow 0 3 1 (.slice (some ⟨w.heap.size + 1, 0, none⟩) 0 0) ([] : List Nat).length (imc []) := fun x => by
    have := World.ownsRow_made (base := 0) (e := 3) (size := 1) (w.alloc (.cells #[.int .i64 x] 3)) #[] 0 (Nat.zero_le _) (by unfold maxLen; omega) rfl
    rw [World.size_alloc] at this
    exact this
  have hn1 : (([] : List Nat).length + ms.length) * 8 ≤ 140737488355328 := by simp; omega
  go_enter Try.func47, Try.ntmps47
  go_region_law (first
    | (refine step_mark (by rfl) _ _ (by rfl) (mv := v1) (ms := ms) (by rfl) (by first | exact ho1 | exact ho1.alloc _) (m := rs.length) (by rfl) (by first | exact World.cell?_alloc_new w1 _ 3 0 | exact (World.cell?_of_block (a := ⟨w.heap.size + 1, 0, none⟩) (K1 (w.heap.size + 1) (by simp) (by simp [Value.ownBlock]))).trans (O0 _) | exact (World.cell?_of_block (a := ⟨w.heap.size, 0, none⟩) (K2 w.heap.size (by simp; omega) (by simp [Value.ownBlock]))).trans (O1 _)) hl ?_; intro v2 w2 ho2 hg2 hl2
       have V2 : Below w.heap.size w w2 := by first | exact Upd.bel V1 ((Upd.refl _ _).grown hg2 (fun k hk _ => hk)) n1 | exact Upd.bel (V1.alloc V1.size _) ((Upd.refl _ _).grown hg2 (fun k hk _ => hk)) n1
       have n2 : ∀ j, v2.ownBlock = some j → w.heap.size ≤ j := (fun j hj => by
         have := V1.size
         rcases hl2 with e | e
         · rw [e] at hj; exact n1 j hj
         · rw [e] at hj; simp at hj; omega)
       obtain ⟨a2, c2, rfl⟩ := row_len ho2
       have Q2 := h.below V2
       have d1 := Q2.blk.cell1 1 _ rfl
       have d2 := Q2.blk.frozen 1)
    | (refine step_marks (rv := .slice (some ⟨w.heap.size, 0, none⟩) 0 0) (by rfl) (by rfl) _ _ (by rfl) (by rfl) (by rfl) (base := 0) (rs := []) (l := ms) (by first | exact H0.drew | exact (H0.alloc _).drew) (Nat.zero_le _) (by first | exact (hm.alloc _).drew | exact ((hm.alloc _).alloc _).drew) hn1 ?_; intro v1 w1 ho1 hg1 hl1
       rw [List.nil_append] at ho1
       have V1 : Below w.heap.size w w1 := by first | exact Upd.bel (((Below.refl w.heap.size w).alloc (Nat.le_refl _) _).drew) ((Upd.refl _ _).grown hg1 (fun k hk _ => hk)) (fun k hk => by simp [Value.ownBlock] at hk; omega) | exact Upd.bel ((((Below.refl w.heap.size w).alloc (Nat.le_refl _) _).alloc (by simp) _).drew) ((Upd.refl _ _).grown hg1 (fun k hk _ => hk)) (fun k hk => by simp [Value.ownBlock] at hk; omega)
       have n1 : ∀ j, v1.ownBlock = some j → w.heap.size ≤ j := (fun j hj => by
         rcases hl1 with e | e
         · rw [e] at hj; simp [Value.ownBlock] at hj; omega
         · rw [e] at hj; simp at hj; omega)
       have K1 := ((Upd.refl (fun k => Value.ownBlock (.slice (some ⟨w.heap.size, 0, none⟩) 0 0) = some k) _).grown hg1 (fun k hk _ => hk)).block
       have Q1 := h.below V1
       have x0 := Q1.blk.cell1 0 _ rfl
       have x1 := Q1.blk.cell1 1 _ rfl
       have x2 := Q1.blk.frozen 1
       have lb1 := Q1.blk.lt)
    | (refine step_marks (rv := .slice (some ⟨w.heap.size + 1, 0, none⟩) 0 0) (by rfl) (by rfl) _ _ (by rfl) (by rfl) (by rfl) (base := 0) (rs := []) (l := ms) (H1 _).drew (Nat.zero_le _) ((hm.alloc _).alloc _).drew hn1 ?_; intro v1 w1 ho1 hg1 hl1
       rw [List.nil_append] at ho1
       have V1 : Below w.heap.size w w1 := Upd.bel ((((Below.refl w.heap.size w).alloc (Nat.le_refl _) _).alloc (by simp) _).drew) ((Upd.refl _ _).grown hg1 (fun k hk _ => hk)) (fun k hk => by simp [Value.ownBlock] at hk; omega)
       have n1 : ∀ j, v1.ownBlock = some j → w.heap.size ≤ j := (fun j hj => by
         rcases hl1 with e | e
         · rw [e] at hj; simp [Value.ownBlock] at hj; omega
         · rw [e] at hj; simp at hj; omega)
       have K2 := ((Upd.refl (fun k => Value.ownBlock (.slice (some ⟨w.heap.size + 1, 0, none⟩) 0 0) = some k) _).grown hg1 (fun k hk _ => hk)).block
       have Q1 := h.below V1
       have x0 := Q1.blk.cell1 0 _ rfl
       have x1 := Q1.blk.cell1 1 _ rfl
       have x2 := Q1.blk.frozen 1
       have lb1 := Q1.blk.lt))
  all_goals
    go_wp2
    go_end0
    exact qsave_end h V2 ho2 n2
end Go.Proofs.Ytkpijoogaicodaa
