import Derived.Test.YtkpijoogaicodaaQb
namespace Go.Proofs.Ytkpijoogaicodaa
open Go.RowKit
set_option linter.unusedVariables false
set_option linter.unusedSimpArgs false

/-- The variables of the reference's record. -/
structure Qs (w W : World) (qb : Nat) (f k : Int) (key val : ByteArray) (why : Int) (l : List Int) : Prop where
  res : Blk W w.heap.size 31 zr4
  box : Blk W (w.heap.size + 1) 31 [.int .u32 f, .int .i64 k, .string key, .string val]
  rd : RdQ W qb why l
  upd : Upd (At qb) w W
  lt : qb < w.heap.size
theorem Qs.read {w W W' : World} {qb : Nat} {f k : Int} {key val : ByteArray} {why why' : Int} {l l' : List Int} (h : Qs w W qb f k key val why l) (hr : RdQ W' qb why' l') (u : Upd (At qb) W W') : Qs w W' qb f k key val why' l' :=
  ⟨h.res.upd u (by have := h.lt; unfold At; omega), h.box.upd u (by have := h.lt; unfold At; omega), hr, h.upd.trans u, h.lt⟩
theorem RdQ.other {w : World} {qb B : Nat} {why : Int} {l : List Int} (h : RdQ w qb why l) (hB : qb < B) (i : Nat) (v : Value) : RdQ (w.setCell ⟨B, i, none⟩ v) qb why l := by
  obtain ⟨a, cap, h1, h2, h3, h4⟩ := h
  have U : Upd (At B) w (w.setCell ⟨B, i, none⟩ v) := Upd.setCell (p := ⟨B, i, none⟩) (Upd.refl (At B) w) (fun _ => rfl) _
  exact ⟨a, cap, h1.upd U (by unfold At; omega), h2.upd U (fun k hk e => by unfold At at e; have := h4 k hk; omega), h3, h4⟩
theorem Qs.fam {w W : World} {qb : Nat} {f f' k : Int} {key val : ByteArray} {why : Int} {l : List Int} (h : Qs w W qb f k key val why l) : Qs w (W.setCell ⟨w.heap.size + 1, 0, none⟩ (.int .u32 f')) qb f' k key val why l :=
  ⟨h.res.other (a := ⟨w.heap.size + 1, 0, none⟩) (by simp) _, h.box.set 0 _, h.rd.other (by have := h.lt; omega) 0 _, Upd.setCell (p := ⟨w.heap.size + 1, 0, none⟩) h.upd (fun hh => absurd hh (by simp)) _, h.lt⟩
theorem Qs.key {w W : World} {qb : Nat} {f k : Int} {key key' val : ByteArray} {why : Int} {l : List Int} (h : Qs w W qb f k key val why l) : Qs w (W.setCell ⟨w.heap.size + 1, 2, none⟩ (.string key')) qb f k key' val why l :=
  ⟨h.res.other (a := ⟨w.heap.size + 1, 2, none⟩) (by simp) _, h.box.set 2 _, h.rd.other (by have := h.lt; omega) 2 _, Upd.setCell (p := ⟨w.heap.size + 1, 2, none⟩) h.upd (fun hh => absurd hh (by simp)) _, h.lt⟩
theorem Qs.val {w W : World} {qb : Nat} {f k : Int} {key val val' : ByteArray} {why : Int} {l : List Int} (h : Qs w W qb f k key val why l) : Qs w (W.setCell ⟨w.heap.size + 1, 3, none⟩ (.string val')) qb f k key val' why l :=
  ⟨h.res.other (a := ⟨w.heap.size + 1, 3, none⟩) (by simp) _, h.box.set 3 _, h.rd.other (by have := h.lt; omega) 3 _, Upd.setCell (p := ⟨w.heap.size + 1, 3, none⟩) h.upd (fun hh => absurd hh (by simp)) _, h.lt⟩
theorem Qs.why {w W : World} {qb : Nat} {f k : Int} {key val : ByteArray} {why why' : Int} {l : List Int} (h : Qs w W qb f k key val why l) : Qs w (W.setCell ⟨qb, 1, none⟩ (.int .i64 why')) qb f k key val why' l := by
  obtain ⟨a, cap, h1, h2, h3, h4⟩ := h.rd
  have hz := rdq_why (why' := why') h1 h2 h3 h4
  exact h.read hz.1 hz.2
/-- All cells that the walk reads. -/
theorem Qs.cells {w W : World} {qb : Nat} {f k : Int} {key val : ByteArray} {why : Int} {l : List Int} (h : Qs w W qb f k key val why l) :
    W.cell? ⟨w.heap.size + 1, 0, none⟩ = some (.int .u32 f) ∧ W.cell? ⟨w.heap.size + 1, 1, none⟩ = some (.int .i64 k) ∧ W.cell? ⟨w.heap.size + 1, 2, none⟩ = some (.string key) ∧ W.cell? ⟨w.heap.size + 1, 3, none⟩ = some (.string val) ∧
    (∀ i, W.frozen? ⟨w.heap.size + 1, i, none⟩ = false) ∧ W.cell? ⟨qb, 1, none⟩ = some (.int .i64 why) ∧ W.frozen? ⟨qb, 1, none⟩ = false ∧
    W.cell? ⟨w.heap.size, 0, none⟩ = some (.int .u32 0) ∧ W.cell? ⟨w.heap.size, 1, none⟩ = some (.int .i64 0) ∧ W.cell? ⟨w.heap.size, 2, none⟩ = some (.string ⟨#[]⟩) ∧ W.cell? ⟨w.heap.size, 3, none⟩ = some (.string ⟨#[]⟩) ∧ (∀ i, W.frozen? ⟨w.heap.size, i, none⟩ = false) := by
  obtain ⟨a, cap, h1, _⟩ := h.rd
  exact ⟨h.box.cell1 0 _ rfl, h.box.cell1 1 _ rfl, h.box.cell1 2 _ rfl, h.box.cell1 3 _ rfl, h.box.frozen, h1.cell1 1 _ rfl, h1.frozen 1, h.res.cell1 0 _ rfl, h.res.cell1 1 _ rfl, h.res.cell1 2 _ rfl, h.res.cell1 3 _ rfl, h.res.frozen⟩
/-- The record is handed back. -/
theorem Qs.four {w W : World} {qb : Nat} {f k f' k' : Int} {key val key' val' : ByteArray} {why : Int} {l : List Int} (h : Qs w W qb f k key val why l) : RdQ (four W w.heap.size f' k' key' val') qb why l ∧ Upd (At qb) w (four W w.heap.size f' k' key' val') := by
  have hlt := h.lt
  refine ⟨?_, four_upd h.upd (Nat.le_refl _)⟩
  unfold Go.Proofs.Ytkpijoogaicodaa.four
  exact (((h.rd.other hlt 0 _).other hlt 1 _).other hlt 2 _).other hlt 3 _
/-- It begins so. -/
theorem Qs.begin {w : World} {qb : Nat} {k : Int} {l1 : List Int} {a : Option Addr} {cap : Nat} (hB : Blk w qb 73 [.slice a (k :: l1).length cap, .int .i64 0]) (hA : Arg w a (k :: l1).length cap (k :: l1)) (hcap : (k :: l1).length ≤ cap) (hlt : ∀ k', Value.ownBlock (.slice a (k :: l1).length cap) = some k' → k' < qb) :
    Qs w (((w.setCell ⟨qb, 0, none⟩ (.slice (cutBA a cap 1) ((k :: l1).length - 1) (cap - 1))).alloc (.cells #[.int .u32 0, .int .i64 0, .string ⟨#[]⟩, .string ⟨#[]⟩] 31)).alloc (.cells #[.int .u32 0, .int .i64 k, .string ⟨#[]⟩, .string ⟨#[]⟩] 31)) qb 0 k ⟨#[]⟩ ⟨#[]⟩ 0 l1 := by
  have hz := rdq_cut hB hA hcap hlt 1 (by simp)
  have B1 := Blk.new (w.setCell ⟨qb, 0, none⟩ (.slice (cutBA a cap 1) ((k :: l1).length - 1) (cap - 1))) 31 zr4
  have B2 := Blk.new ((w.setCell ⟨qb, 0, none⟩ (.slice (cutBA a cap 1) ((k :: l1).length - 1) (cap - 1))).alloc (.cells #[.int .u32 0, .int .i64 0, .string ⟨#[]⟩, .string ⟨#[]⟩] 31)) 31 [.int .u32 0, .int .i64 k, .string ⟨#[]⟩, .string ⟨#[]⟩]
  have es : (w.setCell ⟨qb, 0, none⟩ (.slice (cutBA a cap 1) ((k :: l1).length - 1) (cap - 1))).heap.size = w.heap.size := by simp
  rw [es] at B1
  rw [World.size_alloc, es] at B2
  exact ⟨B1.alloc _, B2, (hz.1.alloc _).alloc _, (hz.2.alloc _).alloc _, hB.lt⟩
theorem arg_head {w : World} {a : Option Addr} {cap : Nat} {k : Int} {l1 : List Int} (hA : Arg w a (k :: l1).length cap (k :: l1)) : ∃ b off, a = some ⟨b, off, none⟩ ∧ w.cell? ⟨b, off, none⟩ = some (.int .u8 k) ∧ b < w.heap.size := by
  obtain ⟨h1, h2, h3, h4⟩ := hA
  rcases h4 with h4 | ⟨b, off, rfl, hlt, hc⟩
  · simp at h4
  · exact ⟨b, off, rfl, by have := hc 0 (by simp); simpa using this, hlt⟩
set_option maxRecDepth 100000 in
set_option maxHeartbeats 2000000 in
theorem qrecord_put {w : World} {qb : Nat} {k : Int} {l1 l2 l3 l4 key val : List Int} {f : Int} (h : RdQ w qb 0 (k :: l1)) (hk : ¬ 2 < k) (hk0 : ¬ k = 0) (h2 : pVar 4294967295 l1 = .ok (f, l2)) (h3 : pText 1024 l2 = .ok (key, l3)) (h4 : pText (mostV k) l3 = .ok (val, l4)) :
    Calls Try.prog 43 #[ptr qb] w fun e w' => e = .returned (recV f k (bstr key) (bstr val)) ∧ RdQ w' qb 0 l4 ∧ Upd (At qb) w w' := by
  have hkb := h.bytes k (by simp)
  obtain ⟨a, cap, hB, hA, hcap, hlt⟩ := h
  obtain ⟨b0, off0, rfl, cb, hb0⟩ := arg_head hA
  have Q0 := Qs.begin hB hA hcap hlt
  have c0 := hB.cell1 0 _ rfl
  have f0 := hB.frozen 0
  have lq := hB.lt
  have kk : ∀ W, (Instr.sliceAt 24 (.slice (some ⟨b0, off0, none⟩) (k :: l1).length cap) (some (.int .i64 1)) none none).run Try.prog W = .ok (.slice (cutBA (some ⟨b0, off0, none⟩) cap 1) ((k :: l1).length - 1) (cap - 1)) W := bcut_lo (some ⟨b0, off0, none⟩) (k :: l1).length cap 1 (by simp)
  have hm := mostV_bd k
  rcases pVar_cases 4294967295 l1 with ⟨v, s, hR, s1, s2, v0, v1, v2, hp'⟩ | ⟨v, s, hR, _, _, _, hp'⟩ | ⟨c, _, hR, hp'⟩
  · rw [h2] at hp'
    simp only [Except.ok.injEq, Prod.mk.injEq] at hp'
    obtain ⟨rfl, rfl⟩ := hp'
    have HV := fun W (hq : RdQ W qb 0 l1) => qvar_any hq f s 0 hR s2
    generalize l1.drop s = l2 at *
    have hl1 : ((k :: l1).length : Int) ≤ 140737488351232 := by have := hA.2.2.1; omega
    have hl2 : (1 : Int) ≤ ((k :: l1).length : Int) := by simp; omega
    have tl : (((k :: l1).length : Int) == 0) = false := by simp; omega
    generalize hLen : (k :: l1).length = len at *
    clear hA hB h2 hR v1 hlt hcap hLen
    go_enter Try.func43, Try.ntmps43
    go_wp2_with (first
      | (go_at_call 64; refine (qtext_ok Q5.rd hm.1 hm.2 h4).mono ?_; rintro e w4 ⟨rfl, hq4, hu4⟩; clear z0 z1 z2 z3 z4 z5 z6 z7 z8 z9 z10 z11; have Q6 := Q5.read hq4 hu4; obtain ⟨z0, z1, z2, z3, z4, z5, z6, z7, z8, z9, z10, z11⟩ := Q6.cells)
      | (go_at_call 38; refine (most_any k _ (by omega) (by omega)).mono ?_; rintro e w' ⟨rfl, rfl⟩)
      | (go_at_call 64; refine (qtext_ok Q3.rd (by decide) (by decide) h3).mono ?_; rintro e w3 ⟨rfl, hq3, hu3⟩; clear z0 z1 z2 z3 z4 z5 z6 z7 z8 z9 z10 z11; have Q4 := Q3.read hq3 hu3; have Q5 := Q4.key (key' := bstr key); obtain ⟨z0, z1, z2, z3, z4, z5, z6, z7, z8, z9, z10, z11⟩ := Q4.cells)
      | (go_at_call 63; refine (HV _ Q0.rd).mono ?_; rintro e w2 ⟨rfl, hq2, hu2⟩; have Q2 := Q0.read hq2 hu2; have Q3 := Q2.fam (f' := f); obtain ⟨z0, z1, z2, z3, z4, z5, z6, z7, z8, z9, z10, z11⟩ := Q2.cells))
    have Q7 := Q6.val (val' := bstr val)
    refine bodyPost_ret (v := recV f k (bstr key) (bstr val)) (by simp [results, Try.results43, go_sem, *]) rfl ⟨rfl, ?_⟩
    exact Q7.four
  · rw [h2] at hp'; cases hp'
  · rw [h2] at hp'; cases hp'
end Go.Proofs.Ytkpijoogaicodaa
