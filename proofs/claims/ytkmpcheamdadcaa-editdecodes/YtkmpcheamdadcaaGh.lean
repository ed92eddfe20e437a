/-
  The reference's Decode f16.
  The reference's Decode f16: its walk.
-/
import Derived.Test.YtkmpcheamdadcaaGf
import Derived.Test.YtkmpcheamdadcaaDq
import Derived.Deep.RegionLaw
namespace Go.Proofs.Ytkmpcheamdadcaa
open Go.RowKit
set_option linter.unusedVariables false
set_option linter.unusedSimpArgs false
/-- What the loop still has to tell. -/
def Still (l : List Int) (last : Int) (e : Ed) (l' : List Int) (R : Except Int Ed) : Prop :=
  (last = 0 ∧ e = ed0 ∧ l' = l ∧ 0 < l.length ∧ pEd l = R) ∨ (1 ≤ last ∧ last ≤ 8 ∧ ∃ f, l'.length < f ∧ pParts f last e l' = R)
theorem still_end {l : List Int} {last : Int} {e : Ed} {R : Except Int Ed} (h : Still l last e [] R) : R = .ok e := by
  rcases h with ⟨_, _, h3, h4, _⟩ | ⟨_, _, f, hf, h⟩
  · rw [← h3] at h4; exact absurd h4 (Nat.lt_irrefl 0)
  · obtain ⟨g, rfl⟩ : ∃ g, f = g + 1 := ⟨f - 1, by simp at hf; omega⟩
    exact h.symm
theorem pPart_far {n : Int} (h : n < 2 ∨ 8 < n) (e : Ed) (l : List Int) : pPart n e l = .error 3 := by
  unfold pPart
  rw [if_neg (by omega), if_neg (by omega), if_neg (by omega), if_neg (by omega), if_neg (by omega), if_neg (by omega), if_neg (by omega)]
theorem pPart_full {n : Int} (h : n = 7 ∨ n = 8) {e : Ed} (hm : roomB e = false) (l : List Int) : pPart n e l = .error 3 := by
  unfold pPart
  rcases h with rfl | rfl
  · rw [if_neg (by decide), if_neg (by decide), if_neg (by decide), if_neg (by decide), if_neg (by decide), if_pos rfl, if_pos hm]
  · rw [if_neg (by decide), if_neg (by decide), if_neg (by decide), if_neg (by decide), if_neg (by decide), if_neg (by decide), if_pos rfl, if_pos hm]
/-- Where a part's number may not stand. -/
theorem still_bad {l : List Int} {last n : Int} {e : Ed} {l2 : List Int} {R : Except Int Ed} (h : Still l last e (n :: l2) R) (n0 : 0 ≤ n) (hb : n < 1 ∨ 8 < n ∨ (last = 0 ∧ n ≠ 1) ∨ (last ≠ 0 ∧ n < last) ∨ (last ≠ 0 ∧ n = last ∧ n < 7) ∨ (7 ≤ n ∧ roomB e = false)) : R = .error 3 := by
  rcases h with ⟨h1, h2, h3, h4, h5⟩ | ⟨h1, h2, f, hf, h5⟩
  · subst h2
    have hr : roomB ed0 = true := rfl
    have : n ≠ 1 := by
      rintro rfl
      rcases hb with h | h | h | h | h | h
      · omega
      · omega
      · exact h.2 rfl
      · omega
      · omega
      · omega
    rw [← h5, ← h3]
    exact pEd_ne this
  · obtain ⟨g, rfl⟩ : ∃ g, f = g + 1 := ⟨f - 1, by omega⟩
    rw [← h5]
    by_cases hm : mayB last n = false
    · exact pParts_may hm
    · have hm' : mayB last n = true := by simpa using hm
      refine pParts_bad hm' ?_
      have hmm : last < n ∨ (n = last ∧ (n = 7 ∨ n = 8)) := by
        unfold mayB at hm'
        simpa using hm'
      by_cases h8 : 8 < n
      · exact pPart_far (.inr h8) _ _
      · rcases hb with h | h | h | h | h | h
        · omega
        · omega
        · omega
        · omega
        · omega
        · exact pPart_full (by omega) h.2 _
/-- What the part tells, where its number may stand. -/
def stepR (n : Int) (e : Ed) (l2 : List Int) : Except Int (Ed × List Int) := if n = 1 then pFam e l2 else pPart n e l2
theorem still_go {l : List Int} {last n : Int} {e : Ed} {l2 : List Int} {R : Except Int Ed} (h : Still l last e (n :: l2) R) (hg : (last = 0 ∧ n = 1) ∨ (last ≠ 0 ∧ n ≤ 8 ∧ (last < n ∨ (n = last ∧ 7 ≤ n)))) :
    (∀ c, stepR n e l2 = .error c → R = .error c) ∧ (∀ e' l3, stepR n e l2 = .ok (e', l3) → Still l n e' l3 R ∧ l3.length ≤ l2.length) := by
  unfold stepR
  rcases h with ⟨h1, h2, h3, h4, h5⟩ | ⟨h1, h2, f, hf, h5⟩
  · have hn : n = 1 := by omega
    subst hn h2
    rw [if_pos rfl]
    rw [← h3] at h5
    unfold pFam
    cases hv : pVar 4294967295 l2 with
    | error c => exact ⟨fun c' hc => (by cases hc; rw [← h5]; exact pEd_bad hv), fun _ _ hc => (by cases hc)⟩
    | ok x =>
      obtain ⟨v, l1⟩ := x
      refine ⟨fun _ hc => (by cases hc), fun e' l3 hc => ?_⟩
      cases hc
      exact ⟨.inr ⟨by omega, by omega, _, Nat.lt_succ_self _, by rw [← h5]; exact (pEd_one hv).symm⟩, (pVar_bd2 hv).2.2.2⟩
  · have hn : n ≠ 1 := by omega
    rw [if_neg hn]
    obtain ⟨g, rfl⟩ : ∃ g, f = g + 1 := ⟨f - 1, by omega⟩
    have hm : mayB last n = true := by
      unfold mayB
      rcases hg with h | ⟨_, _, h | ⟨h, h7⟩⟩
      · omega
      · simp [h]
      · subst h
        have : n = 7 ∨ n = 8 := by omega
        rcases this with rfl | rfl <;> simp
    refine ⟨fun c hc => by rw [← h5]; exact pParts_bad hm hc, fun e' l3 hc => ?_⟩
    have hl := part_len hc
    simp only [List.length_cons] at hf
    refine ⟨.inr ⟨by omega, by omega, g, by omega, by rw [← h5]; exact (pParts_on hm hc).symm⟩, hl⟩
theorem qp_any {B M : Nat} {w : World} {qb eb : Nat} {l : List Int} {P : En} {e : Ed} (h : Qs B M w qb eb (l, 0) P e) {n : Int} (n1 : 1 ≤ n) (n8 : n ≤ 8) (hm : 7 ≤ n → roomB e = true) : Calls Try.prog 45 #[ptr qb, .int .u8 n, .pointer (some ⟨eb, 0, none⟩)] w (QPost B M w qb eb (stepR n e l)) := by
  have : n = 1 ∨ n = 2 ∨ n = 3 ∨ n = 4 ∨ n = 5 ∨ n = 6 ∨ n = 7 ∨ n = 8 := by omega
  unfold stepR
  rcases this with rfl | rfl | rfl | rfl | rfl | rfl | rfl | rfl
  · rw [if_pos rfl]; exact qp1 h
  · rw [if_neg (by decide)]; exact qp2 h
  · rw [if_neg (by decide)]; exact qp3 h
  · rw [if_neg (by decide)]; exact qp4 h
  · rw [if_neg (by decide)]; exact qp5 h
  · rw [if_neg (by decide)]; exact qp6 h
  · rw [if_neg (by decide)]; exact qp7 h (hm (by decide))
  · rw [if_neg (by decide)]; exact qp8 h (hm (by decide))
end Go.Proofs.Ytkmpcheamdadcaa
namespace Go.Proofs.Ytkmpcheamdadcaa
open Go.RowKit
set_option linter.unusedVariables false
set_option linter.unusedSimpArgs false
theorem stepR_er {n c : Int} {e : Ed} {l : List Int} (h : stepR n e l = .error c) : Er c := by
  unfold stepR at h
  split at h
  · unfold pFam at h
    cases hv : pVar 4294967295 l with
    | error c => rw [hv] at h; cases h; exact pVar_er hv
    | ok x => rw [hv] at h; cases h
  · exact pPart_er h
theorem Qs.len {B M : Nat} {w : World} {qb eb : Nat} {l : List Int} {y : Int} {P : En} {e : Ed} (h : Qs B M w qb eb (l, y) P e) : lenC (w.cell? ⟨qb, 0, none⟩) = l.length := by
  obtain ⟨a, cap, hB, _⟩ := h.rd
  rw [hB.cell1 0 _ rfl]; rfl
/-- The first byte, and the reader behind it. -/
theorem Qs.head {B M : Nat} {w : World} {qb eb : Nat} {n : Int} {l : List Int} {P : En} {e : Ed} (h : Qs B M w qb eb (n :: l, 0) P e) : ∃ b off cap a', w.cell? ⟨qb, 0, none⟩ = some (.slice (some ⟨b, off, none⟩) (l.length + 1) cap) ∧ w.frozen? ⟨qb, 0, none⟩ = false ∧ w.cell? ⟨b, off, none⟩ = some (.int .u8 n) ∧ (∀ W, (Instr.sliceAt 28 (.slice (some ⟨b, off, none⟩) (l.length + 1) cap) (some (.int .i64 1)) none none).run Try.prog W = .ok (.slice a' l.length (cap - 1)) W) ∧ Qs B M (w.setCell ⟨qb, 0, none⟩ (.slice a' l.length (cap - 1))) qb eb (l, 0) P e ∧ Upd (Is qb) w (w.setCell ⟨qb, 0, none⟩ (.slice a' l.length (cap - 1))) ∧ w.cell? ⟨qb, 1, none⟩ = some (.int .i64 0) ∧ 0 ≤ n ∧ n < 256 ∧ l.length + 1 ≤ cap ∧ l.length + 1 ≤ 140737488351232 := by
  obtain ⟨a, cap, hB, hA, hcap, hrb, hlt⟩ := h.rd
  dsimp only at hB hA hcap
  have hb := hA.2.1 n (List.mem_cons_self ..)
  have hlz := hA.2.2.1
  have hA' := hA
  obtain ⟨_, _, _, h4⟩ := hA'
  have G := qr_adv hB hA hcap hrb hlt 1 (by simp)
  rcases h4 with h4 | ⟨b, off, rfl, hlt', hc⟩
  · cases h4
  · have hl : (n :: l).length = l.length + 1 := rfl
    refine ⟨b, off, cap, cutBA (some ⟨b, off, none⟩) cap 1, hB.cell1 0 _ rfl, hB.frozen 0, hc 0 (by simp), fun W => ?_, ?_, ?_, hB.cell1 1 _ rfl, hb.1, hb.2, hcap, hlz⟩
    · exact bcut_lo (some ⟨b, off, none⟩) (l.length + 1) cap 1 (by omega) W
    · exact h.call G.1 G.2
    · exact G.2
/-- The ends of Decode. -/
theorem dec_no {w W : World} {c : Int} (X : Blk W w.heap.size 27 (edA nilE ed0).toList) (hb : Below w.heap.size w W) {T : Array Value} (h2 : T[2]? = some (ptr w.heap.size)) (h3 : T[3]? = some (.int .i64 c)) :
    bodyPost Try.prog Try.f16 (DecPost w (.error c)) Exit.ret { tmps := T, defers := [] } (((((((((((((W.setCell ⟨w.heap.size, 0, none⟩ (.int .u32 0)).setCell ⟨w.heap.size, 1, none⟩ (.bool false)).setCell ⟨w.heap.size, 2, none⟩ (.bool false)).setCell ⟨w.heap.size, 3, none⟩ (.string ⟨#[]⟩)).setCell ⟨w.heap.size, 4, none⟩ (.int .i64 0)).setCell ⟨w.heap.size, 5, none⟩ (.bool false)).setCell ⟨w.heap.size, 6, none⟩ (.bool false)).setCell ⟨w.heap.size, 7, none⟩ (.bool false)).setCell ⟨w.heap.size, 8, none⟩ (.int .u64 0)).setCell ⟨w.heap.size, 9, none⟩ (.int .u64 0)).setCell ⟨w.heap.size, 10, none⟩ (.int .u64 0)).setCell ⟨w.heap.size, 11, none⟩ (.slice none 0 0)).setCell ⟨w.heap.size, 12, none⟩ (.slice none 0 0)) := by
  have Y := set13 X (.int .u32 0) (.bool false) (.bool false) (.string ⟨#[]⟩) (.int .i64 0) (.bool false) (.bool false) (.bool false) (.int .u64 0) (.int .u64 0) (.int .u64 0) (.slice none 0 0) (.slice none 0 0)
  obtain ⟨y0, y1, y2, y3, y4, y5, y6, y7, y8, y9, y10, y11, y12, _⟩ := ed13 (P := nilE) (e := ed0) Y
  have U := upd13 W w.heap.size (.int .u32 0) (.bool false) (.bool false) (.string ⟨#[]⟩) (.int .i64 0) (.bool false) (.bool false) (.bool false) (.int .u64 0) (.int .u64 0) (.int .u64 0) (.slice none 0 0) (.slice none 0 0)
  have b3 := Upd.bel hb U (fun k hk => by omega) hb.size
  refine bodyPost_ret (v := .tuple #[.agg (edA nilE ed0), .int .i64 c]) ?_ rfl ⟨.inr ⟨c, rfl, rfl⟩, b3⟩
  simp [results, Try.results16, go_sem, h2, h3, y0, y1, y2, y3, y4, y5, y6, y7, y8, y9, y10, y11, y12]
  try rfl
theorem dec_nod {w W : World} {c : Int} (X : Blk W w.heap.size 27 (edA nilE ed0).toList) (hb : Below w.heap.size w W) {T : Array Value} (h2 : T[2]? = some (ptr w.heap.size)) (h3 : T[3]? = some (.int .i64 c)) :
    bodyPost Try.prog Try.f16 (DecPost w (.error c)) Exit.ret { tmps := T, defers := [] } (((((((((((((W.setCell ⟨w.heap.size, 0, none⟩ (.int .u32 0)).setCell ⟨w.heap.size, 1, none⟩ (.bool false)).setCell ⟨w.heap.size, 2, none⟩ (.bool false)).setCell ⟨w.heap.size, 3, none⟩ (.string ⟨#[]⟩)).setCell ⟨w.heap.size, 4, none⟩ (.int .i64 0)).setCell ⟨w.heap.size, 5, none⟩ (.bool false)).setCell ⟨w.heap.size, 6, none⟩ (.bool false)).setCell ⟨w.heap.size, 7, none⟩ (.bool false)).setCell ⟨w.heap.size, 8, none⟩ (.int .u64 0)).setCell ⟨w.heap.size, 9, none⟩ (.int .u64 0)).setCell ⟨w.heap.size, 10, none⟩ (.int .u64 0)).setCell ⟨w.heap.size, 11, none⟩ (.slice none 0 0)).setCell ⟨w.heap.size, 12, none⟩ (.slice none 0 0)).drew := by
  have Y := (set13 X (.int .u32 0) (.bool false) (.bool false) (.string ⟨#[]⟩) (.int .i64 0) (.bool false) (.bool false) (.bool false) (.int .u64 0) (.int .u64 0) (.int .u64 0) (.slice none 0 0) (.slice none 0 0)).drew
  obtain ⟨y0, y1, y2, y3, y4, y5, y6, y7, y8, y9, y10, y11, y12, _⟩ := ed13 (P := nilE) (e := ed0) Y
  have U := upd13 W w.heap.size (.int .u32 0) (.bool false) (.bool false) (.string ⟨#[]⟩) (.int .i64 0) (.bool false) (.bool false) (.bool false) (.int .u64 0) (.int .u64 0) (.int .u64 0) (.slice none 0 0) (.slice none 0 0)
  have b3 := Upd.bel hb U (fun k hk => by omega) hb.size
  refine bodyPost_ret (v := .tuple #[.agg (edA nilE ed0), .int .i64 c]) ?_ rfl ⟨.inr ⟨c, rfl, rfl⟩, b3.drew⟩
  simp [results, Try.results16, go_sem, h2, h3, y0, y1, y2, y3, y4, y5, y6, y7, y8, y9, y10, y11, y12]
  try rfl
theorem dec_yes {w W : World} {e : Ed} {P : En} {M : Nat} (X : Blk W w.heap.size 27 (edA nilE ed0).toList) (hb : Below w.heap.size w W) (hO : OwnE W M P e) (hM : w.heap.size < M) (hn : e.gone.length + e.added.length ≤ 1024) {T : Array Value} (h2 : T[2]? = some (ptr w.heap.size)) (h3 : T[3]? = some (.int .i64 0)) :
    bodyPost Try.prog Try.f16 (DecPost w (.ok e)) Exit.ret { tmps := T, defers := [] } (((((((((((((W.setCell ⟨w.heap.size, 0, none⟩ (.int .u32 e.fam)).setCell ⟨w.heap.size, 1, none⟩ (.bool e.ma)).setCell ⟨w.heap.size, 2, none⟩ (.bool e.dr)).setCell ⟨w.heap.size, 3, none⟩ (.string e.name)).setCell ⟨w.heap.size, 4, none⟩ (.int .i64 e.how)).setCell ⟨w.heap.size, 5, none⟩ (.bool e.hl)).setCell ⟨w.heap.size, 6, none⟩ (.bool e.hn)).setCell ⟨w.heap.size, 7, none⟩ (.bool e.hs)).setCell ⟨w.heap.size, 8, none⟩ (.int .u64 e.log)).setCell ⟨w.heap.size, 9, none⟩ (.int .u64 e.next)).setCell ⟨w.heap.size, 10, none⟩ (.int .u64 e.seq)).setCell ⟨w.heap.size, 11, none⟩ (.slice P.ga e.gone.length P.gc)).setCell ⟨w.heap.size, 12, none⟩ (.slice P.aa e.added.length P.ac)) := by
  have Y := set13 X (.int .u32 e.fam) (.bool e.ma) (.bool e.dr) (.string e.name) (.int .i64 e.how) (.bool e.hl) (.bool e.hn) (.bool e.hs) (.int .u64 e.log) (.int .u64 e.next) (.int .u64 e.seq) (.slice P.ga e.gone.length P.gc) (.slice P.aa e.added.length P.ac)
  obtain ⟨y0, y1, y2, y3, y4, y5, y6, y7, y8, y9, y10, y11, y12, _⟩ := ed13 (P := P) (e := e) Y
  have U := upd13 W w.heap.size (.int .u32 e.fam) (.bool e.ma) (.bool e.dr) (.string e.name) (.int .i64 e.how) (.bool e.hl) (.bool e.hn) (.bool e.hs) (.int .u64 e.log) (.int .u64 e.next) (.int .u64 e.seq) (.slice P.ga e.gone.length P.gc) (.slice P.aa e.added.length P.ac)
  have b3 := Upd.bel hb U (fun k hk => by omega) hb.size
  have hO' : OwnE _ _ P e := ⟨row_upd hO.g U (fun k hk e => by have := (row_blk hO.g k hk).1; omega), row_upd hO.a U (fun k hk e => by have := (row_blk hO.a k hk).1; omega)⟩
  refine bodyPost_ret (v := .tuple #[.agg (edA P e), .int .i64 0]) ?_ rfl ⟨.inl ⟨e, P, rfl, rfl, hO'.rd (by omega) (by omega)⟩, b3⟩
  simp [results, Try.results16, go_sem, h2, h3, y0, y1, y2, y3, y4, y5, y6, y7, y8, y9, y10, y11, y12]
set_option maxRecDepth 100000 in
set_option maxHeartbeats 8000000 in
theorem rdecode_any {w : World} {a : Option Addr} {cap : Nat} {l : List Int} (hA : Arg w a l.length cap l) (hcap : l.length ≤ cap) (hlt : ∀ p : Addr, a = some p → p.block < w.heap.size) :
    Calls Try.prog 16 #[.slice a l.length cap] w (DecPost w (pEd l)) := by
  obtain ⟨R, hR⟩ : ∃ R, pEd l = R := ⟨_, rfl⟩
  rw [hR]
  obtain ⟨W0, hW0⟩ : ∃ W0, ((w.alloc (.cells #[.int .u32 0, .bool false, .bool false, .string ⟨#[]⟩, .int .i64 0, .bool false, .bool false, .bool false, .int .u64 0, .int .u64 0, .int .u64 0, .slice none 0 0, .slice none 0 0] 27)).alloc (.cells #[.slice a l.length cap, .int .i64 0] 84)).alloc (.cells #[.int .u32 0, .bool false, .bool false, .string ⟨#[]⟩, .int .i64 0, .bool false, .bool false, .bool false, .int .u64 0, .int .u64 0, .int .u64 0, .slice none 0 0, .slice none 0 0] 27) = W0 := ⟨_, rfl⟩
  have BX := ((Blk.new w 27 (edA nilE ed0).toList).alloc (.cells #[.slice a l.length cap, .int .i64 0] 84)).alloc (.cells #[.int .u32 0, .bool false, .bool false, .string ⟨#[]⟩, .int .i64 0, .bool false, .bool false, .bool false, .int .u64 0, .int .u64 0, .int .u64 0, .slice none 0 0, .slice none 0 0] 27)
  have BR := (Blk.new (w.alloc (.cells #[.int .u32 0, .bool false, .bool false, .string ⟨#[]⟩, .int .i64 0, .bool false, .bool false, .bool false, .int .u64 0, .int .u64 0, .int .u64 0, .slice none 0 0, .slice none 0 0] 27)) 84 [.slice a l.length cap, .int .i64 0]).alloc (.cells #[.int .u32 0, .bool false, .bool false, .string ⟨#[]⟩, .int .i64 0, .bool false, .bool false, .bool false, .int .u64 0, .int .u64 0, .int .u64 0, .slice none 0 0, .slice none 0 0] 27)
  have BE := Blk.new ((w.alloc (.cells #[.int .u32 0, .bool false, .bool false, .string ⟨#[]⟩, .int .i64 0, .bool false, .bool false, .bool false, .int .u64 0, .int .u64 0, .int .u64 0, .slice none 0 0, .slice none 0 0] 27)).alloc (.cells #[.slice a l.length cap, .int .i64 0] 84)) 27 (edA nilE ed0).toList
  have hb0 : Below w.heap.size w (((w.alloc (.cells #[.int .u32 0, .bool false, .bool false, .string ⟨#[]⟩, .int .i64 0, .bool false, .bool false, .bool false, .int .u64 0, .int .u64 0, .int .u64 0, .slice none 0 0, .slice none 0 0] 27)).alloc (.cells #[.slice a l.length cap, .int .i64 0] 84)).alloc (.cells #[.int .u32 0, .bool false, .bool false, .string ⟨#[]⟩, .int .i64 0, .bool false, .bool false, .bool false, .int .u64 0, .int .u64 0, .int .u64 0, .slice none 0 0, .slice none 0 0] 27)) := bstep (bstep (al1 _ _) (al1 _ _)) (al1 _ _)
  have hs0 : (((w.alloc (.cells #[.int .u32 0, .bool false, .bool false, .string ⟨#[]⟩, .int .i64 0, .bool false, .bool false, .bool false, .int .u64 0, .int .u64 0, .int .u64 0, .slice none 0 0, .slice none 0 0] 27)).alloc (.cells #[.slice a l.length cap, .int .i64 0] 84)).alloc (.cells #[.int .u32 0, .bool false, .bool false, .string ⟨#[]⟩, .int .i64 0, .bool false, .bool false, .bool false, .int .u64 0, .int .u64 0, .int .u64 0, .slice none 0 0, .slice none 0 0] 27)).heap.size = w.heap.size + 3 := by simp
  have hA' := hA.below hb0
  simp only [World.size_alloc] at BR BE
  have BX' : Blk W0 w.heap.size 27 (edA nilE ed0).toList := hW0 ▸ BX
  have BE' : Blk W0 (w.heap.size + 1 + 1) 27 (edA nilE ed0).toList := hW0 ▸ BE
  have BR' : Blk W0 (w.heap.size + 1) 84 [.slice a l.length cap, .int .i64 0] := hW0 ▸ BR
  rw [hW0] at hA' hs0 hb0
  have R0 : Qs w.heap.size (w.heap.size + 3) W0 (w.heap.size + 1) (w.heap.size + 1 + 1) (l, 0) nilE ed0 := ⟨⟨a, cap, BR', hA', hcap, by omega, hlt⟩, BE', own_nil _ _, by decide, ⟨by omega, by omega⟩, by omega⟩
  have HX : Hid (∀ W, Upd (Fq (w.heap.size + 3) (w.heap.size + 1) (w.heap.size + 1 + 1)) W0 W → Blk W w.heap.size 27 (edA nilE ed0).toList) := fun W u => BX'.upd u (by unfold Fq; omega)
  have HBl : Hid (∀ W, Upd (Fq (w.heap.size + 3) (w.heap.size + 1) (w.heap.size + 1 + 1)) W0 W → Below w.heap.size w W) := fun W u => Upd.bel hb0 u (fun k hk => by unfold Fq at hk; omega) hb0.size
  clear BX BR BE BX' BE' BR' hA' hA hcap hlt hb0 hs0
  by_cases hz : l.length = 0
  case pos =>
    have hl : l = [] := List.eq_nil_of_length_eq_zero hz
    subst hl
    have hR4 : R = .error 4 := hR.symm
    subst hR4
    subst hW0
    have X := HX.out _ (Upd.refl _ _)
    have hb := HBl.out _ (Upd.refl _ _)
    go_enter Try.func16, Try.ntmps16
    go_wp2
    simp only [List.length_nil] at X hb
    obtain ⟨y0, y1, y2, y3, y4, y5, y6, y7, y8, y9, y10, y11, y12, _⟩ := ed13 (P := nilE) (e := ed0) X
    refine bodyPost_ret (v := .tuple #[.agg (edA nilE ed0), .int .i64 4]) ?_ rfl ⟨.inr ⟨4, rfl, rfl⟩, hb⟩
    simp [results, Try.results16, go_sem, y0, y1, y2, y3, y4, y5, y6, y7, y8, y9, y10, y11, y12]
    try rfl
  case neg =>
    have hz1 : ((l.length : Int) == 0) = false := by rw [beq_eq_false_iff_ne]; omega
    have HS0 : Hid (Still l 0 ed0 l R) := .inl ⟨rfl, rfl, rfl, by omega, hR⟩
    clear hR
    have HW0 : Hid (((w.alloc (.cells #[.int .u32 0, .bool false, .bool false, .string ⟨#[]⟩, .int .i64 0, .bool false, .bool false, .bool false, .int .u64 0, .int .u64 0, .int .u64 0, .slice none 0 0, .slice none 0 0] 27)).alloc (.cells #[.slice a l.length cap, .int .i64 0] 84)).alloc (.cells #[.int .u32 0, .bool false, .bool false, .string ⟨#[]⟩, .int .i64 0, .bool false, .bool false, .bool false, .int .u64 0, .int .u64 0, .int .u64 0, .slice none 0 0, .slice none 0 0] 27) = W0) := hW0
    clear hW0
    go_enter Try.func16, Try.ntmps16
    go_wp2
    rw [HW0.out]
    clear hz1 HW0
    go_loopw [6] (fun i wr => ∃ (last : Int) (l' : List Int) (P : En) (e : Ed), i = .int .u8 last ∧ Hid (0 ≤ last ∧ last ≤ 8) ∧ Qs w.heap.size (w.heap.size + 3) wr (w.heap.size + 1) (w.heap.size + 1 + 1) (l', 0) P e ∧ Hid (Still l last e l' R) ∧ Hid (Upd (Fq (w.heap.size + 3) (w.heap.size + 1) (w.heap.size + 1 + 1)) W0 wr)) (fun _ wr => lenC (wr.cell? ⟨w.heap.size + 1, 0, none⟩))
    case atStart => exact ⟨0, l, nilE, ed0, rfl, ⟨by decide, by decide⟩, R0, HS0, Upd.refl _ _⟩
    case round =>
      clear R0 HS0
      obtain ⟨last, l', P, e, rfl, HL, RR, HS, HU⟩ := hrel
      cases l' with
      | nil =>
        have hres := still_end HS.out
        subst hres
        obtain ⟨aa, ck, hB, _⟩ := RR.rd
        have c0 : wr.cell? ⟨w.heap.size + 1, 0, none⟩ = some (.slice aa 0 ck) := hB.cell1 0 _ rfl
        have lq := hB.lt
        have le := RR.bx.lt
        obtain ⟨b0, b1, b2, b3, b4, b5, b6, b7, b8, b9, b10, b11, b12, lb⟩ := ed13 RR.bx
        have X := HX.out wr HU.out
        obtain ⟨a0, a1, a2, a3, a4, a5, a6, a7, a8, a9, a10, a11, a12, la⟩ := ed13 X
        have f0 := X.frozen 0
        have f1 := X.frozen 1
        have f2 := X.frozen 2
        have f3 := X.frozen 3
        have f4 := X.frozen 4
        have f5 := X.frozen 5
        have f6 := X.frozen 6
        have f7 := X.frozen 7
        have f8 := X.frozen 8
        have f9 := X.frozen 9
        have f10 := X.frozen 10
        have f11 := X.frozen 11
        have f12 := X.frozen 12
        have hO := RR.o
        have hn := RR.n
        go_wp2
        exact dec_yes X (HBl.out _ HU.out) hO (by omega) hn rfl rfl
      | cons n l2 =>
        obtain ⟨b, off, ck, a', c0, z0, cb, hcut, R1, hu1, cy, n0, n1, hck, hlz⟩ := RR.head
        have HM : Hid (lenC (wr.cell? ⟨w.heap.size + 1, 0, none⟩) = l2.length + 1) := RR.len
        have lq := RR.rd.lt.1
        have hpos : (0 : Int) < ((l2.length + 1 : Nat) : Int) := by omega
        obtain ⟨e11, _⟩ := R1.cell 11 _ rfl
        obtain ⟨e12, _⟩ := R1.cell 12 _ rfl
        have le := R1.bx.lt
        have hRn := R1.n
        have hroom : Hid (roomB e = decide (e.gone.length + e.added.length < 1024)) := rfl
        obtain ⟨G, hG⟩ : ∃ G, Hid (e.gone.length = G) := ⟨_, rfl⟩
        obtain ⟨A, hAd⟩ : ∃ A, Hid (e.added.length = A) := ⟨_, rfl⟩
        rw [hG.out, hAd.out] at hroom hRn
        rw [hG.out] at e11
        rw [hAd.out] at e12
        have hw : IntKind.i64.wrap ((G : Int) + (A : Int)) = (G : Int) + (A : Int) := by rw [IntKind.wrap_i64]; omega
        obtain ⟨hl0, hl8⟩ := HL.out
        have hU1 : Hid (Upd (Fq (w.heap.size + 3) (w.heap.size + 1) (w.heap.size + 1 + 1)) W0 (wr.setCell ⟨w.heap.size + 1, 0, none⟩ (.slice a' l2.length (ck - 1)))) := HU.out.trans (fq_q hu1)
        have R1h : Hid (Qs w.heap.size (w.heap.size + 3) (wr.setCell ⟨w.heap.size + 1, 0, none⟩ (.slice a' l2.length (ck - 1))) (w.heap.size + 1) (w.heap.size + 1 + 1) (l2, 0) P e) := R1
        have hcase : (n < 1) ∨ (8 < n) ∨ (1 ≤ n ∧ n ≤ 8 ∧ last = 0 ∧ n ≠ 1) ∨ (1 ≤ n ∧ n ≤ 8 ∧ last ≠ 0 ∧ n < last) ∨ (1 ≤ n ∧ n ≤ 8 ∧ last ≠ 0 ∧ n = last ∧ n < 7) ∨ (7 ≤ n ∧ n ≤ 8 ∧ last ≠ 0 ∧ n = last ∧ 1024 ≤ G + A) ∨ (7 ≤ n ∧ n ≤ 8 ∧ last ≠ 0 ∧ last < n ∧ 1024 ≤ G + A) ∨ (last = 0 ∧ n = 1) ∨ (1 ≤ n ∧ n < 7 ∧ last ≠ 0 ∧ last < n) ∨ (7 ≤ n ∧ n ≤ 8 ∧ last ≠ 0 ∧ last < n ∧ G + A < 1024) ∨ (7 ≤ n ∧ n ≤ 8 ∧ last ≠ 0 ∧ n = last ∧ G + A < 1024) := by omega
        clear R1 hu1
        rcases hcase with hh | hh | hh | hh | hh | hh | hh | hh | hh | hh | hh
        · have p1 : decide (n < 1) = true := by first | exact decide_eq_true (by omega) | exact decide_eq_false (by omega) | (simp; omega) | simp_all
          have hres : R = .error 3 := still_bad HS.out n0 (by first | omega | (have h9 := hroom.out; right; right; right; right; right; exact ⟨by omega, by rw [h9]; exact decide_eq_false (by omega)⟩))
          subst hres
          clear hh
          have X := HX.out _ hU1.out
          obtain ⟨a0, a1, a2, a3, a4, a5, a6, a7, a8, a9, a10, a11, a12, la⟩ := ed13 X
          have f0 := X.frozen 0
          have f1 := X.frozen 1
          have f2 := X.frozen 2
          have f3 := X.frozen 3
          have f4 := X.frozen 4
          have f5 := X.frozen 5
          have f6 := X.frozen 6
          have f7 := X.frozen 7
          have f8 := X.frozen 8
          have f9 := X.frozen 9
          have f10 := X.frozen 10
          have f11 := X.frozen 11
          have f12 := X.frozen 12
          go_wp2
          exact dec_no X (HBl.out _ hU1.out) rfl rfl
        · have p1 : decide (n < 1) = false := by first | exact decide_eq_true (by omega) | exact decide_eq_false (by omega) | (simp; omega) | simp_all
          have p2 : decide (8 < n) = true := by first | exact decide_eq_true (by omega) | exact decide_eq_false (by omega) | (simp; omega) | simp_all
          have hres : R = .error 3 := still_bad HS.out n0 (by first | omega | (have h9 := hroom.out; right; right; right; right; right; exact ⟨by omega, by rw [h9]; exact decide_eq_false (by omega)⟩))
          subst hres
          clear hh
          have X := HX.out _ hU1.out
          obtain ⟨a0, a1, a2, a3, a4, a5, a6, a7, a8, a9, a10, a11, a12, la⟩ := ed13 X
          have f0 := X.frozen 0
          have f1 := X.frozen 1
          have f2 := X.frozen 2
          have f3 := X.frozen 3
          have f4 := X.frozen 4
          have f5 := X.frozen 5
          have f6 := X.frozen 6
          have f7 := X.frozen 7
          have f8 := X.frozen 8
          have f9 := X.frozen 9
          have f10 := X.frozen 10
          have f11 := X.frozen 11
          have f12 := X.frozen 12
          go_wp2
          exact dec_no X (HBl.out _ hU1.out) rfl rfl
        · have p1 : decide (n < 1) = false := by first | exact decide_eq_true (by omega) | exact decide_eq_false (by omega) | (simp; omega) | simp_all
          have p2 : decide (8 < n) = false := by first | exact decide_eq_true (by omega) | exact decide_eq_false (by omega) | (simp; omega) | simp_all
          have p3 : (last == 0) = true := by rw [beq_iff_eq]; omega
          have p4 : (n != 1) = true := by rw [bne_iff_ne]; omega
          have hres : R = .error 3 := still_bad HS.out n0 (by first | omega | (have h9 := hroom.out; right; right; right; right; right; exact ⟨by omega, by rw [h9]; exact decide_eq_false (by omega)⟩))
          subst hres
          clear hh
          have X := HX.out _ hU1.out
          obtain ⟨a0, a1, a2, a3, a4, a5, a6, a7, a8, a9, a10, a11, a12, la⟩ := ed13 X
          have f0 := X.frozen 0
          have f1 := X.frozen 1
          have f2 := X.frozen 2
          have f3 := X.frozen 3
          have f4 := X.frozen 4
          have f5 := X.frozen 5
          have f6 := X.frozen 6
          have f7 := X.frozen 7
          have f8 := X.frozen 8
          have f9 := X.frozen 9
          have f10 := X.frozen 10
          have f11 := X.frozen 11
          have f12 := X.frozen 12
          go_wp2
          exact dec_no X (HBl.out _ hU1.out) rfl rfl
        · have p1 : decide (n < 1) = false := by first | exact decide_eq_true (by omega) | exact decide_eq_false (by omega) | (simp; omega) | simp_all
          have p2 : decide (8 < n) = false := by first | exact decide_eq_true (by omega) | exact decide_eq_false (by omega) | (simp; omega) | simp_all
          have p3 : (last == 0) = false := by rw [beq_eq_false_iff_ne]; omega
          have p5 : decide (n < last) = true := by first | exact decide_eq_true (by omega) | exact decide_eq_false (by omega) | (simp; omega) | simp_all
          have hres : R = .error 3 := still_bad HS.out n0 (by first | omega | (have h9 := hroom.out; right; right; right; right; right; exact ⟨by omega, by rw [h9]; exact decide_eq_false (by omega)⟩))
          subst hres
          clear hh
          have X := HX.out _ hU1.out
          obtain ⟨a0, a1, a2, a3, a4, a5, a6, a7, a8, a9, a10, a11, a12, la⟩ := ed13 X
          have f0 := X.frozen 0
          have f1 := X.frozen 1
          have f2 := X.frozen 2
          have f3 := X.frozen 3
          have f4 := X.frozen 4
          have f5 := X.frozen 5
          have f6 := X.frozen 6
          have f7 := X.frozen 7
          have f8 := X.frozen 8
          have f9 := X.frozen 9
          have f10 := X.frozen 10
          have f11 := X.frozen 11
          have f12 := X.frozen 12
          go_wp2
          exact dec_no X (HBl.out _ hU1.out) rfl rfl
        · have p1 : decide (n < 1) = false := by first | exact decide_eq_true (by omega) | exact decide_eq_false (by omega) | (simp; omega) | simp_all
          have p2 : decide (8 < n) = false := by first | exact decide_eq_true (by omega) | exact decide_eq_false (by omega) | (simp; omega) | simp_all
          have p3 : (last == 0) = false := by rw [beq_eq_false_iff_ne]; omega
          have p5 : decide (n < last) = false := by first | exact decide_eq_true (by omega) | exact decide_eq_false (by omega) | (simp; omega) | simp_all
          have p6 : (n == last) = true := by rw [beq_iff_eq]; omega
          have p7 : decide (n < 7) = true := by first | exact decide_eq_true (by omega) | exact decide_eq_false (by omega) | (simp; omega) | simp_all
          have hres : R = .error 3 := still_bad HS.out n0 (by first | omega | (have h9 := hroom.out; right; right; right; right; right; exact ⟨by omega, by rw [h9]; exact decide_eq_false (by omega)⟩))
          subst hres
          clear hh
          have X := HX.out _ hU1.out
          obtain ⟨a0, a1, a2, a3, a4, a5, a6, a7, a8, a9, a10, a11, a12, la⟩ := ed13 X
          have f0 := X.frozen 0
          have f1 := X.frozen 1
          have f2 := X.frozen 2
          have f3 := X.frozen 3
          have f4 := X.frozen 4
          have f5 := X.frozen 5
          have f6 := X.frozen 6
          have f7 := X.frozen 7
          have f8 := X.frozen 8
          have f9 := X.frozen 9
          have f10 := X.frozen 10
          have f11 := X.frozen 11
          have f12 := X.frozen 12
          go_wp2
          exact dec_no X (HBl.out _ hU1.out) rfl rfl
        · have p1 : decide (n < 1) = false := by first | exact decide_eq_true (by omega) | exact decide_eq_false (by omega) | (simp; omega) | simp_all
          have p2 : decide (8 < n) = false := by first | exact decide_eq_true (by omega) | exact decide_eq_false (by omega) | (simp; omega) | simp_all
          have p3 : (last == 0) = false := by rw [beq_eq_false_iff_ne]; omega
          have p5 : decide (n < last) = false := by first | exact decide_eq_true (by omega) | exact decide_eq_false (by omega) | (simp; omega) | simp_all
          have p6 : (n == last) = true := by rw [beq_iff_eq]; omega
          have p7 : decide (n < 7) = false := by first | exact decide_eq_true (by omega) | exact decide_eq_false (by omega) | (simp; omega) | simp_all
          have p8 : decide (7 ≤ n) = true := by first | exact decide_eq_true (by omega) | exact decide_eq_false (by omega) | (simp; omega) | simp_all
          have p9 : decide ((1024 : Int) ≤ (G : Int) + (A : Int)) = true := by first | exact decide_eq_true (by omega) | exact decide_eq_false (by omega) | (simp; omega) | simp_all
          have hres : R = .error 3 := still_bad HS.out n0 (by first | omega | (have h9 := hroom.out; right; right; right; right; right; exact ⟨by omega, by rw [h9]; exact decide_eq_false (by omega)⟩))
          subst hres
          clear hh
          have X := HX.out _ hU1.out
          obtain ⟨a0, a1, a2, a3, a4, a5, a6, a7, a8, a9, a10, a11, a12, la⟩ := ed13 X
          have f0 := X.frozen 0
          have f1 := X.frozen 1
          have f2 := X.frozen 2
          have f3 := X.frozen 3
          have f4 := X.frozen 4
          have f5 := X.frozen 5
          have f6 := X.frozen 6
          have f7 := X.frozen 7
          have f8 := X.frozen 8
          have f9 := X.frozen 9
          have f10 := X.frozen 10
          have f11 := X.frozen 11
          have f12 := X.frozen 12
          go_wp2
          exact dec_no X (HBl.out _ hU1.out) rfl rfl
        · have p1 : decide (n < 1) = false := by first | exact decide_eq_true (by omega) | exact decide_eq_false (by omega) | (simp; omega) | simp_all
          have p2 : decide (8 < n) = false := by first | exact decide_eq_true (by omega) | exact decide_eq_false (by omega) | (simp; omega) | simp_all
          have p3 : (last == 0) = false := by rw [beq_eq_false_iff_ne]; omega
          have p5 : decide (n < last) = false := by first | exact decide_eq_true (by omega) | exact decide_eq_false (by omega) | (simp; omega) | simp_all
          have p6 : (n == last) = false := by rw [beq_eq_false_iff_ne]; omega
          have p8 : decide (7 ≤ n) = true := by first | exact decide_eq_true (by omega) | exact decide_eq_false (by omega) | (simp; omega) | simp_all
          have p9 : decide ((1024 : Int) ≤ (G : Int) + (A : Int)) = true := by first | exact decide_eq_true (by omega) | exact decide_eq_false (by omega) | (simp; omega) | simp_all
          have hres : R = .error 3 := still_bad HS.out n0 (by first | omega | (have h9 := hroom.out; right; right; right; right; right; exact ⟨by omega, by rw [h9]; exact decide_eq_false (by omega)⟩))
          subst hres
          clear hh
          have X := HX.out _ hU1.out
          obtain ⟨a0, a1, a2, a3, a4, a5, a6, a7, a8, a9, a10, a11, a12, la⟩ := ed13 X
          have f0 := X.frozen 0
          have f1 := X.frozen 1
          have f2 := X.frozen 2
          have f3 := X.frozen 3
          have f4 := X.frozen 4
          have f5 := X.frozen 5
          have f6 := X.frozen 6
          have f7 := X.frozen 7
          have f8 := X.frozen 8
          have f9 := X.frozen 9
          have f10 := X.frozen 10
          have f11 := X.frozen 11
          have f12 := X.frozen 12
          go_wp2
          exact dec_no X (HBl.out _ hU1.out) rfl rfl
        · obtain ⟨rfl, rfl⟩ := hh
          have hgo := still_go HS.out (by omega)
          have hQ := qp_any R1h.out (n := 1) (by omega) (by omega) (fun h7 => by first | (exfalso; omega) | (rw [hroom.out]; exact decide_eq_true (by omega)))
          cases hst : stepR 1 e l2 with
          | error c =>
            have hres : R = .error c := hgo.1 c hst
            subst hres
            have hc := (stepR_er hst).ne
            have hQ' : Calls Try.prog 45 #[ptr (w.heap.size + 1), .int .u8 1, .pointer (some ⟨w.heap.size + 1 + 1, 0, none⟩)] (wr.setCell ⟨w.heap.size + 1, 0, none⟩ (.slice a' l2.length (ck - 1))) fun en w' => en = .returned (.tuple #[]) ∧ (∃ l6, Qr w.heap.size w' (w.heap.size + 1) (l6, c)) ∧ Upd (Fq (w.heap.size + 3) (w.heap.size + 1) (w.heap.size + 1 + 1)) (wr.setCell ⟨w.heap.size + 1, 0, none⟩ (.slice a' l2.length (ck - 1))) w' := hQ.mono (by
              rintro en w' ⟨h1, ⟨e6, l6, h2, _⟩ | ⟨c6, e6, l6, h2, P6, h3⟩, hu⟩
              · rw [hst] at h2; cases h2
              · rw [hst] at h2; cases h2; exact ⟨h1, ⟨l6, h3.rd⟩, hu⟩)
            clear hgo hQ hst
            go_wp2_with (go_at_call 45; refine hQ'.mono ?_; rintro en w6 ⟨rfl, ⟨l6, hr6⟩, hu6⟩
                         have U6 : Hid (Upd (Fq (w.heap.size + 3) (w.heap.size + 1) (w.heap.size + 1 + 1)) W0 w6) := hU1.out.trans hu6
                         have lr6 := hr6.lt.1
                         obtain ⟨a6, k6, hB6, _⟩ := hr6
                         have cy6 := hB6.cell1 1 _ rfl
                         dsimp only at cy6
                         have X := HX.out _ U6.out
                         obtain ⟨a0, a1, a2, a3, a4, a5, a6', a7, a8, a9, a10, a11, a12, la⟩ := ed13 X
                         have f0 := X.frozen 0
                         have f1 := X.frozen 1
                         have f2 := X.frozen 2
                         have f3 := X.frozen 3
                         have f4 := X.frozen 4
                         have f5 := X.frozen 5
                         have f6 := X.frozen 6
                         have f7 := X.frozen 7
                         have f8 := X.frozen 8
                         have f9 := X.frozen 9
                         have f10 := X.frozen 10
                         have f11 := X.frozen 11
                         have f12 := X.frozen 12)
            go_region_law (fail)
            all_goals
              go_wp2
              exact dec_nod X (HBl.out _ U6.out) rfl rfl
          | ok x =>
            obtain ⟨e2, l3⟩ := x
            obtain ⟨hS2, hl3⟩ := hgo.2 e2 l3 hst
            have HS2 : Hid (Still l 1 e2 l3 R) := hS2
            have HL3 : Hid (l3.length ≤ l2.length) := hl3
            have HN8 : Hid ((0 : Int) ≤ 1 ∧ (1 : Int) ≤ 8) := ⟨by decide, by decide⟩
            have hQ' : Calls Try.prog 45 #[ptr (w.heap.size + 1), .int .u8 1, .pointer (some ⟨w.heap.size + 1 + 1, 0, none⟩)] (wr.setCell ⟨w.heap.size + 1, 0, none⟩ (.slice a' l2.length (ck - 1))) fun en w' => en = .returned (.tuple #[]) ∧ (∃ P6, Qs w.heap.size (w.heap.size + 3) w' (w.heap.size + 1) (w.heap.size + 1 + 1) (l3, 0) P6 e2) ∧ Upd (Fq (w.heap.size + 3) (w.heap.size + 1) (w.heap.size + 1 + 1)) (wr.setCell ⟨w.heap.size + 1, 0, none⟩ (.slice a' l2.length (ck - 1))) w' := hQ.mono (by
              rintro en w' ⟨h1, ⟨e6, l6, h2, h3⟩ | ⟨c6, e6, l6, h2, _⟩, hu⟩
              · rw [hst] at h2; cases h2; exact ⟨h1, h3, hu⟩
              · rw [hst] at h2; cases h2)
            clear hgo hQ hst hS2 hl3
            go_wp2_with (go_at_call 45; refine hQ'.mono ?_; rintro en w6 ⟨rfl, ⟨P6, R6⟩, hu6⟩
                         have U6 : Hid (Upd (Fq (w.heap.size + 3) (w.heap.size + 1) (w.heap.size + 1 + 1)) W0 w6) := hU1.out.trans hu6
                         have hr6 := R6.rd
                         have lr6 := hr6.lt.1
                         obtain ⟨a6, k6, hB6, _⟩ := hr6
                         have cy6 := hB6.cell1 1 _ rfl
                         dsimp only at cy6)
            go_roundw
            case rel => exact ⟨1, l3, P6, e2, rfl, HN8, R6, HS2, U6⟩
            case measure =>
              have q1 := R6.len
              have q2 := HM.out
              have q3 := HL3.out
              omega
        · have p1 : decide (n < 1) = false := by first | exact decide_eq_true (by omega) | exact decide_eq_false (by omega) | (simp; omega) | simp_all
          have p2 : decide (8 < n) = false := by first | exact decide_eq_true (by omega) | exact decide_eq_false (by omega) | (simp; omega) | simp_all
          have p3 : (last == 0) = false := by rw [beq_eq_false_iff_ne]; omega
          have p5 : decide (n < last) = false := by first | exact decide_eq_true (by omega) | exact decide_eq_false (by omega) | (simp; omega) | simp_all
          have p6 : (n == last) = false := by rw [beq_eq_false_iff_ne]; omega
          have p8 : decide (7 ≤ n) = false := by first | exact decide_eq_true (by omega) | exact decide_eq_false (by omega) | (simp; omega) | simp_all
          have hgo := still_go HS.out (by omega)
          have hQ := qp_any R1h.out (n := n) (by omega) (by omega) (fun h7 => by first | (exfalso; omega) | (rw [hroom.out]; exact decide_eq_true (by omega)))
          cases hst : stepR n e l2 with
          | error c =>
            have hres : R = .error c := hgo.1 c hst
            subst hres
            have hc := (stepR_er hst).ne
            have hQ' : Calls Try.prog 45 #[ptr (w.heap.size + 1), .int .u8 n, .pointer (some ⟨w.heap.size + 1 + 1, 0, none⟩)] (wr.setCell ⟨w.heap.size + 1, 0, none⟩ (.slice a' l2.length (ck - 1))) fun en w' => en = .returned (.tuple #[]) ∧ (∃ l6, Qr w.heap.size w' (w.heap.size + 1) (l6, c)) ∧ Upd (Fq (w.heap.size + 3) (w.heap.size + 1) (w.heap.size + 1 + 1)) (wr.setCell ⟨w.heap.size + 1, 0, none⟩ (.slice a' l2.length (ck - 1))) w' := hQ.mono (by
              rintro en w' ⟨h1, ⟨e6, l6, h2, _⟩ | ⟨c6, e6, l6, h2, P6, h3⟩, hu⟩
              · rw [hst] at h2; cases h2
              · rw [hst] at h2; cases h2; exact ⟨h1, ⟨l6, h3.rd⟩, hu⟩)
            clear hgo hQ hst
            go_wp2_with (go_at_call 45; refine hQ'.mono ?_; rintro en w6 ⟨rfl, ⟨l6, hr6⟩, hu6⟩
                         have U6 : Hid (Upd (Fq (w.heap.size + 3) (w.heap.size + 1) (w.heap.size + 1 + 1)) W0 w6) := hU1.out.trans hu6
                         have lr6 := hr6.lt.1
                         obtain ⟨a6, k6, hB6, _⟩ := hr6
                         have cy6 := hB6.cell1 1 _ rfl
                         dsimp only at cy6
                         have X := HX.out _ U6.out
                         obtain ⟨a0, a1, a2, a3, a4, a5, a6', a7, a8, a9, a10, a11, a12, la⟩ := ed13 X
                         have f0 := X.frozen 0
                         have f1 := X.frozen 1
                         have f2 := X.frozen 2
                         have f3 := X.frozen 3
                         have f4 := X.frozen 4
                         have f5 := X.frozen 5
                         have f6 := X.frozen 6
                         have f7 := X.frozen 7
                         have f8 := X.frozen 8
                         have f9 := X.frozen 9
                         have f10 := X.frozen 10
                         have f11 := X.frozen 11
                         have f12 := X.frozen 12)
            go_region_law (fail)
            all_goals
              go_wp2
              exact dec_nod X (HBl.out _ U6.out) rfl rfl
          | ok x =>
            obtain ⟨e2, l3⟩ := x
            obtain ⟨hS2, hl3⟩ := hgo.2 e2 l3 hst
            have HS2 : Hid (Still l n e2 l3 R) := hS2
            have HL3 : Hid (l3.length ≤ l2.length) := hl3
            have HN8 : Hid (0 ≤ n ∧ n ≤ 8) := ⟨n0, by omega⟩
            have hQ' : Calls Try.prog 45 #[ptr (w.heap.size + 1), .int .u8 n, .pointer (some ⟨w.heap.size + 1 + 1, 0, none⟩)] (wr.setCell ⟨w.heap.size + 1, 0, none⟩ (.slice a' l2.length (ck - 1))) fun en w' => en = .returned (.tuple #[]) ∧ (∃ P6, Qs w.heap.size (w.heap.size + 3) w' (w.heap.size + 1) (w.heap.size + 1 + 1) (l3, 0) P6 e2) ∧ Upd (Fq (w.heap.size + 3) (w.heap.size + 1) (w.heap.size + 1 + 1)) (wr.setCell ⟨w.heap.size + 1, 0, none⟩ (.slice a' l2.length (ck - 1))) w' := hQ.mono (by
              rintro en w' ⟨h1, ⟨e6, l6, h2, h3⟩ | ⟨c6, e6, l6, h2, _⟩, hu⟩
              · rw [hst] at h2; cases h2; exact ⟨h1, h3, hu⟩
              · rw [hst] at h2; cases h2)
            clear hgo hQ hst hS2 hl3 hh
            go_wp2_with (go_at_call 45; refine hQ'.mono ?_; rintro en w6 ⟨rfl, ⟨P6, R6⟩, hu6⟩
                         have U6 : Hid (Upd (Fq (w.heap.size + 3) (w.heap.size + 1) (w.heap.size + 1 + 1)) W0 w6) := hU1.out.trans hu6
                         have hr6 := R6.rd
                         have lr6 := hr6.lt.1
                         obtain ⟨a6, k6, hB6, _⟩ := hr6
                         have cy6 := hB6.cell1 1 _ rfl
                         dsimp only at cy6)
            go_roundw
            case rel => exact ⟨n, l3, P6, e2, rfl, HN8, R6, HS2, U6⟩
            case measure =>
              have q1 := R6.len
              have q2 := HM.out
              have q3 := HL3.out
              omega
        · have p1 : decide (n < 1) = false := by first | exact decide_eq_true (by omega) | exact decide_eq_false (by omega) | (simp; omega) | simp_all
          have p2 : decide (8 < n) = false := by first | exact decide_eq_true (by omega) | exact decide_eq_false (by omega) | (simp; omega) | simp_all
          have p3 : (last == 0) = false := by rw [beq_eq_false_iff_ne]; omega
          have p5 : decide (n < last) = false := by first | exact decide_eq_true (by omega) | exact decide_eq_false (by omega) | (simp; omega) | simp_all
          have p6 : (n == last) = false := by rw [beq_eq_false_iff_ne]; omega
          have p8 : decide (7 ≤ n) = true := by first | exact decide_eq_true (by omega) | exact decide_eq_false (by omega) | (simp; omega) | simp_all
          have p9 : decide ((1024 : Int) ≤ (G : Int) + (A : Int)) = false := by first | exact decide_eq_true (by omega) | exact decide_eq_false (by omega) | (simp; omega) | simp_all
          have hgo := still_go HS.out (by omega)
          have hQ := qp_any R1h.out (n := n) (by omega) (by omega) (fun h7 => by first | (exfalso; omega) | (rw [hroom.out]; exact decide_eq_true (by omega)))
          cases hst : stepR n e l2 with
          | error c =>
            have hres : R = .error c := hgo.1 c hst
            subst hres
            have hc := (stepR_er hst).ne
            have hQ' : Calls Try.prog 45 #[ptr (w.heap.size + 1), .int .u8 n, .pointer (some ⟨w.heap.size + 1 + 1, 0, none⟩)] (wr.setCell ⟨w.heap.size + 1, 0, none⟩ (.slice a' l2.length (ck - 1))) fun en w' => en = .returned (.tuple #[]) ∧ (∃ l6, Qr w.heap.size w' (w.heap.size + 1) (l6, c)) ∧ Upd (Fq (w.heap.size + 3) (w.heap.size + 1) (w.heap.size + 1 + 1)) (wr.setCell ⟨w.heap.size + 1, 0, none⟩ (.slice a' l2.length (ck - 1))) w' := hQ.mono (by
              rintro en w' ⟨h1, ⟨e6, l6, h2, _⟩ | ⟨c6, e6, l6, h2, P6, h3⟩, hu⟩
              · rw [hst] at h2; cases h2
              · rw [hst] at h2; cases h2; exact ⟨h1, ⟨l6, h3.rd⟩, hu⟩)
            clear hgo hQ hst
            go_wp2_with (go_at_call 45; refine hQ'.mono ?_; rintro en w6 ⟨rfl, ⟨l6, hr6⟩, hu6⟩
                         have U6 : Hid (Upd (Fq (w.heap.size + 3) (w.heap.size + 1) (w.heap.size + 1 + 1)) W0 w6) := hU1.out.trans hu6
                         have lr6 := hr6.lt.1
                         obtain ⟨a6, k6, hB6, _⟩ := hr6
                         have cy6 := hB6.cell1 1 _ rfl
                         dsimp only at cy6
                         have X := HX.out _ U6.out
                         obtain ⟨a0, a1, a2, a3, a4, a5, a6', a7, a8, a9, a10, a11, a12, la⟩ := ed13 X
                         have f0 := X.frozen 0
                         have f1 := X.frozen 1
                         have f2 := X.frozen 2
                         have f3 := X.frozen 3
                         have f4 := X.frozen 4
                         have f5 := X.frozen 5
                         have f6 := X.frozen 6
                         have f7 := X.frozen 7
                         have f8 := X.frozen 8
                         have f9 := X.frozen 9
                         have f10 := X.frozen 10
                         have f11 := X.frozen 11
                         have f12 := X.frozen 12)
            go_region_law (fail)
            all_goals
              go_wp2
              exact dec_nod X (HBl.out _ U6.out) rfl rfl
          | ok x =>
            obtain ⟨e2, l3⟩ := x
            obtain ⟨hS2, hl3⟩ := hgo.2 e2 l3 hst
            have HS2 : Hid (Still l n e2 l3 R) := hS2
            have HL3 : Hid (l3.length ≤ l2.length) := hl3
            have HN8 : Hid (0 ≤ n ∧ n ≤ 8) := ⟨n0, by omega⟩
            have hQ' : Calls Try.prog 45 #[ptr (w.heap.size + 1), .int .u8 n, .pointer (some ⟨w.heap.size + 1 + 1, 0, none⟩)] (wr.setCell ⟨w.heap.size + 1, 0, none⟩ (.slice a' l2.length (ck - 1))) fun en w' => en = .returned (.tuple #[]) ∧ (∃ P6, Qs w.heap.size (w.heap.size + 3) w' (w.heap.size + 1) (w.heap.size + 1 + 1) (l3, 0) P6 e2) ∧ Upd (Fq (w.heap.size + 3) (w.heap.size + 1) (w.heap.size + 1 + 1)) (wr.setCell ⟨w.heap.size + 1, 0, none⟩ (.slice a' l2.length (ck - 1))) w' := hQ.mono (by
              rintro en w' ⟨h1, ⟨e6, l6, h2, h3⟩ | ⟨c6, e6, l6, h2, _⟩, hu⟩
              · rw [hst] at h2; cases h2; exact ⟨h1, h3, hu⟩
              · rw [hst] at h2; cases h2)
            clear hgo hQ hst hS2 hl3 hh
            go_wp2_with (go_at_call 45; refine hQ'.mono ?_; rintro en w6 ⟨rfl, ⟨P6, R6⟩, hu6⟩
                         have U6 : Hid (Upd (Fq (w.heap.size + 3) (w.heap.size + 1) (w.heap.size + 1 + 1)) W0 w6) := hU1.out.trans hu6
                         have hr6 := R6.rd
                         have lr6 := hr6.lt.1
                         obtain ⟨a6, k6, hB6, _⟩ := hr6
                         have cy6 := hB6.cell1 1 _ rfl
                         dsimp only at cy6)
            go_roundw
            case rel => exact ⟨n, l3, P6, e2, rfl, HN8, R6, HS2, U6⟩
            case measure =>
              have q1 := R6.len
              have q2 := HM.out
              have q3 := HL3.out
              omega
        · obtain ⟨g7, g8, gz, rfl, gr⟩ := hh
          have p1 : decide (n < 1) = false := by first | exact decide_eq_true (by omega) | exact decide_eq_false (by omega) | (simp; omega) | simp_all
          have p2 : decide (8 < n) = false := by first | exact decide_eq_true (by omega) | exact decide_eq_false (by omega) | (simp; omega) | simp_all
          have p3 : (n == 0) = false := by rw [beq_eq_false_iff_ne]; omega
          have p7 : decide (n < 7) = false := by first | exact decide_eq_true (by omega) | exact decide_eq_false (by omega) | (simp; omega) | simp_all
          have p8 : decide (7 ≤ n) = true := by first | exact decide_eq_true (by omega) | exact decide_eq_false (by omega) | (simp; omega) | simp_all
          have p9 : decide ((1024 : Int) ≤ (G : Int) + (A : Int)) = false := by first | exact decide_eq_true (by omega) | exact decide_eq_false (by omega) | (simp; omega) | simp_all
          have p5 : decide (n < n) = false := by simp
          have p6 : (n == n) = true := by simp
          have hgo := still_go HS.out (by omega)
          have hQ := qp_any R1h.out (n := n) (by omega) (by omega) (fun h7 => by first | (exfalso; omega) | (rw [hroom.out]; exact decide_eq_true (by omega)))
          cases hst : stepR n e l2 with
          | error c =>
            have hres : R = .error c := hgo.1 c hst
            subst hres
            have hc := (stepR_er hst).ne
            have hQ' : Calls Try.prog 45 #[ptr (w.heap.size + 1), .int .u8 n, .pointer (some ⟨w.heap.size + 1 + 1, 0, none⟩)] (wr.setCell ⟨w.heap.size + 1, 0, none⟩ (.slice a' l2.length (ck - 1))) fun en w' => en = .returned (.tuple #[]) ∧ (∃ l6, Qr w.heap.size w' (w.heap.size + 1) (l6, c)) ∧ Upd (Fq (w.heap.size + 3) (w.heap.size + 1) (w.heap.size + 1 + 1)) (wr.setCell ⟨w.heap.size + 1, 0, none⟩ (.slice a' l2.length (ck - 1))) w' := hQ.mono (by
              rintro en w' ⟨h1, ⟨e6, l6, h2, _⟩ | ⟨c6, e6, l6, h2, P6, h3⟩, hu⟩
              · rw [hst] at h2; cases h2
              · rw [hst] at h2; cases h2; exact ⟨h1, ⟨l6, h3.rd⟩, hu⟩)
            clear hgo hQ hst
            go_wp2_with (go_at_call 45; refine hQ'.mono ?_; rintro en w6 ⟨rfl, ⟨l6, hr6⟩, hu6⟩
                         have U6 : Hid (Upd (Fq (w.heap.size + 3) (w.heap.size + 1) (w.heap.size + 1 + 1)) W0 w6) := hU1.out.trans hu6
                         have lr6 := hr6.lt.1
                         obtain ⟨a6, k6, hB6, _⟩ := hr6
                         have cy6 := hB6.cell1 1 _ rfl
                         dsimp only at cy6
                         have X := HX.out _ U6.out
                         obtain ⟨a0, a1, a2, a3, a4, a5, a6', a7, a8, a9, a10, a11, a12, la⟩ := ed13 X
                         have f0 := X.frozen 0
                         have f1 := X.frozen 1
                         have f2 := X.frozen 2
                         have f3 := X.frozen 3
                         have f4 := X.frozen 4
                         have f5 := X.frozen 5
                         have f6 := X.frozen 6
                         have f7 := X.frozen 7
                         have f8 := X.frozen 8
                         have f9 := X.frozen 9
                         have f10 := X.frozen 10
                         have f11 := X.frozen 11
                         have f12 := X.frozen 12)
            go_region_law (fail)
            all_goals
              go_wp2
              exact dec_nod X (HBl.out _ U6.out) rfl rfl
          | ok x =>
            obtain ⟨e2, l3⟩ := x
            obtain ⟨hS2, hl3⟩ := hgo.2 e2 l3 hst
            have HS2 : Hid (Still l n e2 l3 R) := hS2
            have HL3 : Hid (l3.length ≤ l2.length) := hl3
            have HN8 : Hid (0 ≤ n ∧ n ≤ 8) := ⟨n0, by omega⟩
            have hQ' : Calls Try.prog 45 #[ptr (w.heap.size + 1), .int .u8 n, .pointer (some ⟨w.heap.size + 1 + 1, 0, none⟩)] (wr.setCell ⟨w.heap.size + 1, 0, none⟩ (.slice a' l2.length (ck - 1))) fun en w' => en = .returned (.tuple #[]) ∧ (∃ P6, Qs w.heap.size (w.heap.size + 3) w' (w.heap.size + 1) (w.heap.size + 1 + 1) (l3, 0) P6 e2) ∧ Upd (Fq (w.heap.size + 3) (w.heap.size + 1) (w.heap.size + 1 + 1)) (wr.setCell ⟨w.heap.size + 1, 0, none⟩ (.slice a' l2.length (ck - 1))) w' := hQ.mono (by
              rintro en w' ⟨h1, ⟨e6, l6, h2, h3⟩ | ⟨c6, e6, l6, h2, _⟩, hu⟩
              · rw [hst] at h2; cases h2; exact ⟨h1, h3, hu⟩
              · rw [hst] at h2; cases h2)
            clear hgo hQ hst hS2 hl3
            go_wp2_with (go_at_call 45; refine hQ'.mono ?_; rintro en w6 ⟨rfl, ⟨P6, R6⟩, hu6⟩
                         have U6 : Hid (Upd (Fq (w.heap.size + 3) (w.heap.size + 1) (w.heap.size + 1 + 1)) W0 w6) := hU1.out.trans hu6
                         have hr6 := R6.rd
                         have lr6 := hr6.lt.1
                         obtain ⟨a6, k6, hB6, _⟩ := hr6
                         have cy6 := hB6.cell1 1 _ rfl
                         dsimp only at cy6)
            go_roundw
            case rel => exact ⟨n, l3, P6, e2, rfl, HN8, R6, HS2, U6⟩
            case measure =>
              have q1 := R6.len
              have q2 := HM.out
              have q3 := HL3.out
              omega
end Go.Proofs.Ytkmpcheamdadcaa
