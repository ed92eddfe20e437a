/-
  CopiedEdit.
-/
import Derived.Test.YtkmpcheamdadcaaZc
import Derived.Test.YtkmpcheamdadcaaVp
namespace Go.Proofs.Ytkmpcheamdadcaa
open Go.RowKit
set_option linter.unusedVariables false
set_option linter.unusedSimpArgs false
theorem info66 : (Try.prog.info? 66).map (fun i => (i.zero, i.size, i.bytes)) = some (some (.agg #[.int .i64 0, .int .u64 0]), 2, 16) := by kernel_rfl
theorem info64 : (Try.prog.info? 64).map (fun i => (i.zero, i.size, i.bytes)) = some (some (.agg #[.int .i64 0, .int .u64 0, .int .u64 0, .string ⟨#[]⟩, .int .u64 0, .int .i64 0, .string ⟨#[]⟩, .int .u64 0, .int .i64 0, .int .u64 0, .int .u64 0]), 11, 104) := by kernel_rfl
/-- What a slice reads as, laid behind an empty row of one's own. -/
theorem copy_g {α : Type} {enc : α → List Value} {k : Nat} (hk : ∀ x, (enc x).length = k) (h1 : ∀ x, ∀ u ∈ enc x, u.oneCell' = true) {t e : TypeId} {z : Value} {by_ : Nat} (ht : Try.prog.underlying t = some (.slice e)) (hinf : (Try.prog.info? e).map (fun i => (i.zero, i.size, i.bytes)) = some (some z, k, by_)) (hzs : z.cells.size = k) (hk0 : 0 < k)
    {w : World} {base : Nat} {v : Value} {l : List α} (ho : w.ownsRow base e k v 0 []) (hb : base ≤ w.heap.size) {a : Option Addr} {cap : Nat} (h : Rd enc k w a l) (hn : a = none → cap = 0) (hl : l.length * by_ ≤ 140737488355328) (hm : l.length ≤ maxLen) :
    ∃ v' w', (Builtin.append_ #[t, t] t #[v, .slice a l.length cap]).run Try.prog w = .ok v' w' ∧ w'.ownsRow base e k v' l.length (cls enc l) ∧ Upd (fun k => v.ownBlock = some k) w w' := by
  have ho' : w.ownsRow base e k v ([] : List α).length (cls enc ([] : List α)) := ho
  cases a with
  | none =>
    have hl0 : l = [] := by rcases h with h | ⟨_, _, h, _⟩; exact h; cases h
    subst hl0
    rw [hn rfl]
    refine ⟨v, w, ?_, ho, Upd.refl _ _⟩
    obtain ⟨i0, hi, _⟩ := info_parts hinf
    exact run_append_owned_none _ _ _ _ _ i0 _ ht hi _ _ _ ho
  | some ad =>
    have hs : ∀ j u, (cls enc l)[j]? = some u → w.cell? (ad.add j) = some u := by
      rcases h with rfl | ⟨g, o, e, hc⟩
      · intro j u hu; simp [cls] at hu
      · cases e; exact rd_src hk hk0 hc
    obtain ⟨v', w', hr, h2, h3, h4⟩ := pushes_g (P := Try.prog) hk h1 ht hinf hzs hk0 (c := cap) ho' hb hs t (by simpa using hl) (by simpa using hm)
    rw [List.nil_append] at h2
    exact ⟨v', w', hr, h2, h3⟩
/-- An edit whose lists are one's own. -/
structure OwnE (W : World) (base : Nat) (P : En) (e : Ed) : Prop where
  g : W.ownsRow base 66 2 (.slice P.ga e.gone.length P.gc) e.gone.length (cls Gn.c e.gone)
  a : W.ownsRow base 64 11 (.slice P.aa e.added.length P.ac) e.added.length (cls Ad.c e.added)
theorem OwnE.below {W W' : World} {base : Nat} {P : En} {e : Ed} (h : OwnE W base P e) (hb : Below W.heap.size W W') : OwnE W' base P e :=
  ⟨row_upd (S := Non) h.g (Upd.ofBelow hb) (fun _ _ h => h), row_upd (S := Non) h.a (Upd.ofBelow hb) (fun _ _ h => h)⟩
theorem OwnE.rd {W : World} {base : Nat} {P : En} {e : Ed} (h : OwnE W base P e) (hg : e.gone.length * 16 ≤ 140737488355328) (ha : e.added.length * 104 ≤ 140737488355328) : RdEd W P e := by
  obtain ⟨a1, c1, e1, _, r1, _⟩ := row_rd gn_k h.g
  obtain ⟨a2, c2, e2, _, r2, _⟩ := row_rd ad_k h.a
  have e1' : P.ga = a1 := by injection e1
  have e2' : P.aa = a2 := by injection e2
  refine ⟨by rw [e1']; exact r1, by rw [e2']; exact r2, fun hn => ?_, fun hn => ?_, hg, ha⟩
  · have := h.g; rw [hn] at this; exact row_nilc this
  · have := h.a; rw [hn] at this; exact row_nilc this
theorem upd13 (W : World) (B : Nat) (v0 v1 v2 v3 v4 v5 v6 v7 v8 v9 v10 v11 v12 : Value) : Upd (fun j => j = B) W (((((((((((((W.setCell ⟨B, 0, none⟩ v0).setCell ⟨B, 1, none⟩ v1).setCell ⟨B, 2, none⟩ v2).setCell ⟨B, 3, none⟩ v3).setCell ⟨B, 4, none⟩ v4).setCell ⟨B, 5, none⟩ v5).setCell ⟨B, 6, none⟩ v6).setCell ⟨B, 7, none⟩ v7).setCell ⟨B, 8, none⟩ v8).setCell ⟨B, 9, none⟩ v9).setCell ⟨B, 10, none⟩ v10).setCell ⟨B, 11, none⟩ v11).setCell ⟨B, 12, none⟩ v12) :=
  ((((((((((((((Upd.refl (fun j => j = B) W).setCell (p := ⟨B, 0, none⟩) (fun _ => rfl) v0).setCell (p := ⟨B, 1, none⟩) (fun _ => rfl) v1).setCell (p := ⟨B, 2, none⟩) (fun _ => rfl) v2).setCell (p := ⟨B, 3, none⟩) (fun _ => rfl) v3).setCell (p := ⟨B, 4, none⟩) (fun _ => rfl) v4).setCell (p := ⟨B, 5, none⟩) (fun _ => rfl) v5).setCell (p := ⟨B, 6, none⟩) (fun _ => rfl) v6).setCell (p := ⟨B, 7, none⟩) (fun _ => rfl) v7).setCell (p := ⟨B, 8, none⟩) (fun _ => rfl) v8).setCell (p := ⟨B, 9, none⟩) (fun _ => rfl) v9).setCell (p := ⟨B, 10, none⟩) (fun _ => rfl) v10).setCell (p := ⟨B, 11, none⟩) (fun _ => rfl) v11).setCell (p := ⟨B, 12, none⟩) (fun _ => rfl) v12)
set_option maxRecDepth 100000 in
set_option maxHeartbeats 2000000 in
theorem cpedit_any {w : World} {P : En} {e : Ed} (h : RdEd w P e) : Calls Try.prog 10 #[.agg (edA P e)] w fun en w' => ∃ P', en = .returned (.agg (edA P' e)) ∧ OwnE w' w.heap.size P' e ∧ Below w.heap.size w w' := by
  have HE : Hid (RdEd w P e) := h
  have hgl := h.gl
  have hal := h.al
  clear h
  obtain ⟨W1, hW1⟩ : ∃ W1, W1 = (w.alloc (edO P e)).alloc (.cells #[.int .u32 0, .bool false, .bool false, .string ⟨#[]⟩, .int .i64 0, .bool false, .bool false, .bool false, .int .u64 0, .int .u64 0, .int .u64 0, .slice none 0 0, .slice none 0 0] 27) := ⟨_, rfl⟩
  have hb1 : Below w.heap.size w W1 := by rw [hW1]; exact bstep (al1 _ _) (al1 _ _)
  have hs1 : W1.heap.size = w.heap.size + 2 := by rw [hW1]; simp
  have B0 : Blk W1 w.heap.size 27 (edA P e).toList := by rw [hW1]; exact (ed_box w P e).alloc _
  have R0 : Blk W1 (w.heap.size + 1) 27 [.int .u32 0, .bool false, .bool false, .string ⟨#[]⟩, .int .i64 0, .bool false, .bool false, .bool false, .int .u64 0, .int .u64 0, .int .u64 0, .slice none 0 0, .slice none 0 0] := by
    have := Blk.new (w.alloc (edO P e)) 27 [.int .u32 0, .bool false, .bool false, .string ⟨#[]⟩, .int .i64 0, .bool false, .bool false, .bool false, .int .u64 0, .int .u64 0, .int .u64 0, .slice none 0 0, .slice none 0 0]
    rw [World.size_alloc] at this
    rw [hW1]; exact this
  -- the first append
  have o1 : (W1.alloc (.cells #[] 66)).ownsRow W1.heap.size 66 2 (.slice (some ⟨W1.heap.size, 0, none⟩) 0 0) 0 [] := World.ownsRow_made (base := W1.heap.size) (e := 66) (size := 2) W1 #[] 0 (Nat.le_refl _) (by unfold maxLen; omega) rfl
  obtain ⟨v3, w3, hr3, ho3, hu3⟩ := copy_g gn_k gn_1 (t := 24) Try.underlying24 info66 rfl (by decide) o1 (al1 W1 _).size (HE.out.g.below (bstep hb1 (al1 W1 (.cells #[] 66)))) HE.out.gn hgl (by unfold maxLen; omega)
  obtain ⟨a3, c3, e3⟩ := row_slice ho3
  subst e3
  have hb3 : Below W1.heap.size W1 w3 := (al1 W1 (.cells #[] 66)).trans (hu3.below (fun k hk => Nat.lt_of_lt_of_le hk (al1 W1 (.cells #[] 66)).size) (fun k hk => by cases hk; exact Nat.le_refl _))
  have B3 := B0.upd (S := Non) (Upd.ofBelow hb3) (fun h => h)
  have R3 := R0.upd (S := Non) (Upd.ofBelow hb3) (fun h => h)
  have hs3 : w.heap.size + 2 ≤ w3.heap.size := by have := hb3.size; omega
  have B4 := B3.set 11 (.slice a3 e.gone.length c3)
  have U4 : Upd (fun k => k = w.heap.size) w3 (w3.setCell ⟨w.heap.size, 11, none⟩ (.slice a3 e.gone.length c3)) := Upd.setCell (p := ⟨w.heap.size, 11, none⟩) (Upd.refl (fun k => k = w.heap.size) _) (fun _ => rfl) _
  have R4 := R3.upd U4 (by omega)
  have ho4 := row_upd ho3 U4 (fun k hk e => by have := (row_blk ho3 k hk).1; omega)
  have hb4 : Below w.heap.size w (w3.setCell ⟨w.heap.size, 11, none⟩ (.slice a3 e.gone.length c3)) := Upd.bel (bstep hb1 hb3) U4 (fun j hj => by omega) (bstep hb1 hb3).size
  have hs4 : (w3.setCell ⟨w.heap.size, 11, none⟩ (.slice a3 e.gone.length c3)).heap.size = w3.heap.size := by simp
  have o5 : ((w3.setCell ⟨w.heap.size, 11, none⟩ (.slice a3 e.gone.length c3)).alloc (.cells #[] 64)).ownsRow (w3.setCell ⟨w.heap.size, 11, none⟩ (.slice a3 e.gone.length c3)).heap.size 64 11 (.slice (some ⟨(w3.setCell ⟨w.heap.size, 11, none⟩ (.slice a3 e.gone.length c3)).heap.size, 0, none⟩) 0 0) 0 [] := World.ownsRow_made (base := (w3.setCell ⟨w.heap.size, 11, none⟩ (.slice a3 e.gone.length c3)).heap.size) (e := 64) (size := 11) _ #[] 0 (Nat.le_refl _) (by unfold maxLen; omega) rfl
  obtain ⟨v5, w5, hr5, ho5, hu5⟩ := copy_g ad_k ad_1 (t := 25) Try.underlying25 info64 rfl (by decide) o5 (al1 _ _).size (HE.out.a.below (bstep hb4 (al1 _ (.cells #[] 64)))) HE.out.an hal (by unfold maxLen; omega)
  obtain ⟨a5, c5, e5⟩ := row_slice ho5
  subst e5
  have hb5 : Below (w3.setCell ⟨w.heap.size, 11, none⟩ (.slice a3 e.gone.length c3)).heap.size (w3.setCell ⟨w.heap.size, 11, none⟩ (.slice a3 e.gone.length c3)) w5 := (al1 _ (.cells #[] 64)).trans (hu5.below (fun k hk => Nat.lt_of_lt_of_le hk (al1 _ (.cells #[] 64)).size) (fun k hk => by cases hk; exact Nat.le_refl _))
  have B5 := B4.upd (S := Non) (Upd.ofBelow hb5) (fun h => h)
  have R5 := R4.upd (S := Non) (Upd.ofBelow hb5) (fun h => h)
  have hg5 := row_upd (S := Non) ho4 (Upd.ofBelow hb5) (fun _ _ h => h)
  have hs5 : w.heap.size + 2 ≤ w5.heap.size := by have := hb5.size; omega
  have B6 := B5.set 12 (.slice a5 e.added.length c5)
  have U6 : Upd (fun k => k = w.heap.size) w5 (w5.setCell ⟨w.heap.size, 12, none⟩ (.slice a5 e.added.length c5)) := Upd.setCell (p := ⟨w.heap.size, 12, none⟩) (Upd.refl (fun k => k = w.heap.size) _) (fun _ => rfl) _
  have R6 := R5.upd U6 (by omega)
  have hg6 := row_upd hg5 U6 (fun k hk e => by have := (row_blk hg5 k hk).1; omega)
  have ha6 := row_upd ho5 U6 (fun k hk e => by have := (row_blk ho5 k hk).1; omega)
  have hb6 : Below w.heap.size w (w5.setCell ⟨w.heap.size, 12, none⟩ (.slice a5 e.added.length c5)) := Upd.bel (bstep hb4 hb5) U6 (fun j hj => by omega) (bstep hb4 hb5).size
  rw [hs4] at o5 hr5 ho5
  have HP : Hid (OwnE (w5.setCell ⟨w.heap.size, 12, none⟩ (.slice a5 e.added.length c5)) (w.heap.size + 2) ⟨a3, c3, a5, c5⟩ e ∧ Below w.heap.size w (w5.setCell ⟨w.heap.size, 12, none⟩ (.slice a5 e.added.length c5))) :=
    ⟨⟨World.ownsRow.mono hg6 (by omega), World.ownsRow.mono ha6 (by omega)⟩, hb6⟩
  have q3 := B3.cell1 11 _ rfl
  have g3 := B3.frozen 11
  have l3 := B3.lt
  have q4 := B4.cell1 12 _ rfl
  have l4 := B4.lt
  have q5 := B5.cell1 12 _ rfl
  have g5 := B5.frozen 12
  have l5 := B5.lt
  have b0 := B6.cell1 0 _ rfl
  have r0 := R6.cell1 0 _ rfl
  have f0 := R6.frozen 0
  have b1 := B6.cell1 1 _ rfl
  have r1 := R6.cell1 1 _ rfl
  have f1 := R6.frozen 1
  have b2 := B6.cell1 2 _ rfl
  have r2 := R6.cell1 2 _ rfl
  have f2 := R6.frozen 2
  have b3 := B6.cell1 3 _ rfl
  have r3 := R6.cell1 3 _ rfl
  have f3 := R6.frozen 3
  have b4 := B6.cell1 4 _ rfl
  have r4 := R6.cell1 4 _ rfl
  have f4 := R6.frozen 4
  have b5 := B6.cell1 5 _ rfl
  have r5 := R6.cell1 5 _ rfl
  have f5 := R6.frozen 5
  have b6 := B6.cell1 6 _ rfl
  have r6 := R6.cell1 6 _ rfl
  have f6 := R6.frozen 6
  have b7 := B6.cell1 7 _ rfl
  have r7 := R6.cell1 7 _ rfl
  have f7 := R6.frozen 7
  have b8 := B6.cell1 8 _ rfl
  have r8 := R6.cell1 8 _ rfl
  have f8 := R6.frozen 8
  have b9 := B6.cell1 9 _ rfl
  have r9 := R6.cell1 9 _ rfl
  have f9 := R6.frozen 9
  have b10 := B6.cell1 10 _ rfl
  have r10 := R6.cell1 10 _ rfl
  have f10 := R6.frozen 10
  have b11 := B6.cell1 11 _ rfl
  have r11 := R6.cell1 11 _ rfl
  have f11 := R6.frozen 11
  have b12 := B6.cell1 12 _ rfl
  have r12 := R6.cell1 12 _ rfl
  have f12 := R6.frozen 12
  have l6 := B6.lt
  have m6 := R6.lt
  clear B0 R0 B3 R3 B4 R4 B5 R5 B6 R6 o1 o5 ho3 ho4 ho5 hu3 hu5 hb3 hb4 hb5 hb6 hg5 hg6 ha6 U4 U6
  clear hs1 hb1 hs3 hs4 hs5
  subst hW1
  simp only [World.size_alloc] at hr3
  go_enter Try.func10, Try.ntmps10
  go_wp2_with (first
    | (have hq := q4; clear hq; at_builtin; refine Lib.wpList_append_run _ rfl _ _ _ _ rfl _ _ rfl rfl _ _ hr3 ?_; clear hr3)
    | (at_builtin; refine Lib.wpList_append_run _ rfl _ _ _ _ rfl _ _ rfl rfl _ _ hr5 ?_))
  refine bodyPost_ret (v := .agg (edA ⟨a3, c3, a5, c5⟩ e)) (by simp [results, Try.results10, go_sem, *]) rfl ?_
  have U := upd13 (w5.setCell ⟨w.heap.size, 12, none⟩ (.slice a5 e.added.length c5)) (w.heap.size + 1) (.int .u32 e.fam) (.bool e.ma) (.bool e.dr) (.string e.name) (.int .i64 e.how) (.bool e.hl) (.bool e.hn) (.bool e.hs) (.int .u64 e.log) (.int .u64 e.next) (.int .u64 e.seq) (.slice a3 e.gone.length c3) (.slice a5 e.added.length c5)
  obtain ⟨⟨hg, ha⟩, hb⟩ := HP.out
  refine ⟨⟨a3, c3, a5, c5⟩, rfl, ⟨?_, ?_⟩, Upd.bel hb U (fun j hj => by omega) hb.size⟩
  · exact World.ownsRow.mono (row_upd hg U (fun k hk e => by have := (row_blk hg k hk).1; omega)) (by omega)
  · exact World.ownsRow.mono (row_upd ha U (fun k hk e => by have := (row_blk ha k hk).1; omega)) (by omega)
end Go.Proofs.Ytkmpcheamdadcaa
