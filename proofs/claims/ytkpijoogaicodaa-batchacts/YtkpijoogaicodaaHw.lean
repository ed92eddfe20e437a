/-
  The law's walk: BatchActs.
-/
import Derived.Test.YtkpijoogaicodaaHv
import Derived.Test.YtkpijoogaicodaaLi
namespace Go.Proofs.Ytkpijoogaicodaa
open Go.RowKit
set_option linter.unusedVariables false
set_option linter.unusedSimpArgs false
/-- An act, its records besides. -/
structure Ac where
  ak : Int
  nm : Bool
  f : Int
  kd : Int
  key : ByteArray
  val : ByteArray
  sv : Value
  l : List Rec
structure AcOk (w : World) (x : Ac) : Prop where
  f0 : 0 ≤ x.f
  f1 : x.f < 4294967296
  hv : (x.val.size : Int) ≤ 9223372036854775807
  hl : RdR w x.sv x.l
  hc : ∀ a n c, x.sv = .slice a n c → n ≤ c
  hF : Fam x.l
  hV : ∀ r ∈ x.l, (r.val.size : Int) ≤ 9223372036854775807
  hln : x.l.length ≤ 3000000000000
def AAt (w : World) (b o : Nat) (x : Ac) : Prop := w.cell? ⟨b, o, none⟩ = some (.int .i64 x.ak) ∧ w.cell? ⟨b, o + 1, none⟩ = some (.bool x.nm) ∧ w.cell? ⟨b, o + 2, none⟩ = some (.int .u32 x.f) ∧ w.cell? ⟨b, o + 3, none⟩ = some (.int .i64 x.kd) ∧ w.cell? ⟨b, o + 4, none⟩ = some (.string x.key) ∧ w.cell? ⟨b, o + 5, none⟩ = some (.string x.val) ∧ w.cell? ⟨b, o + 6, none⟩ = some x.sv
/-- A slice that reads as acts. -/
def RdA (w : World) (v : Value) (xs : List Ac) : Prop :=
  (∃ a c, v = .slice a 0 c ∧ xs = []) ∨ ∃ b off cap, v = .slice (some ⟨b, off, none⟩) xs.length cap ∧ b < w.heap.size ∧ ∀ j, (h : j < xs.length) → AAt w b (off + j * 7) xs[j]
theorem RdA.len {w : World} {v : Value} {xs : List Ac} (h : RdA w v xs) : ∃ a c, v = .slice a xs.length c := by
  rcases h with ⟨a, c, rfl, rfl⟩ | ⟨b, off, cap, rfl, _⟩
  · exact ⟨_, _, rfl⟩
  · exact ⟨_, _, rfl⟩
theorem RdA.at {w : World} {v : Value} {xs : List Ac} (h : RdA w v xs) {k : Nat} (hk : k < xs.length) : ∃ b off cap, v = .slice (some ⟨b, off, none⟩) xs.length cap ∧ b < w.heap.size ∧ AAt w b (off + k * 7) xs[k] := by
  rcases h with ⟨a, c, rfl, rfl⟩ | ⟨b, off, cap, rfl, hb, hc⟩
  · simp at hk
  · exact ⟨b, off, cap, rfl, hb, hc k hk⟩
theorem AAt.below {w w' : World} {b o : Nat} {x : Ac} (h : AAt w b o x) (hb : b < w.heap.size) (hB : Below w.heap.size w w') : AAt w' b o x := by
  obtain ⟨h0, h1, h2, h3, h4, h5, h6⟩ := h
  exact ⟨(hB.cell (p := ⟨b, o, none⟩) hb).trans h0, (hB.cell (p := ⟨b, o + 1, none⟩) hb).trans h1, (hB.cell (p := ⟨b, o + 2, none⟩) hb).trans h2, (hB.cell (p := ⟨b, o + 3, none⟩) hb).trans h3, (hB.cell (p := ⟨b, o + 4, none⟩) hb).trans h4, (hB.cell (p := ⟨b, o + 5, none⟩) hb).trans h5, (hB.cell (p := ⟨b, o + 6, none⟩) hb).trans h6⟩
/-- Two empty ones. -/
theorem bq_none (w : World) : Bq w (((w.alloc (.cells #[.slice none 0 0, .int .i64 0, .slice none 0 0] 43)).alloc (.cells #[.slice none 0 0, .slice none 0 0] 46)).alloc (.cells #[ptr w.heap.size, ptr (w.heap.size + 1)] 48)) w.heap.size (w.heap.size + 1) (.slice none 0 0) (.slice none 0 0) (.slice none 0 0) (.slice none 0 0) [] [] := by
  have b1 : Below w.heap.size w (((w.alloc (.cells #[.slice none 0 0, .int .i64 0, .slice none 0 0] 43)).alloc (.cells #[.slice none 0 0, .slice none 0 0] 46)).alloc (.cells #[ptr w.heap.size, ptr (w.heap.size + 1)] 48)) :=
    (((Below.refl w.heap.size w).alloc (Nat.le_refl _) _).alloc (by simp) _).alloc (by simp; omega) _
  have q1 := Blk.new (w.alloc (.cells #[.slice none 0 0, .int .i64 0, .slice none 0 0] 43)) 46 [.slice none 0 0, .slice none 0 0]
  rw [World.size_alloc] at q1
  refine ⟨b1, (Bt.new w).below ((((Below.refl _ _).alloc (Nat.le_refl _) _).alloc (by simp) _)), ⟨q1.alloc _, .inl ⟨none, 0, rfl, rfl⟩, World.ownsRow_nil _ _ _ _, by simp [Value.ownBlock], fun a n c e => by cases e; exact Nat.le_refl _, by simp [Value.ownBlock]⟩, ?_, ?_, ?_, by simp [Value.ownBlock], Nat.le_refl _, by omega, ?_, ?_, ⟨by simp, by simp [szs]⟩, by simp, ?_, by simp, by simp⟩
  all_goals first | (intro k hk; simp [Value.ownBlock] at hk; done) | skip
  all_goals rfl
theorem sb_box {w w' : World} {w0 : World} {b q p : Nat} {rv mv rv2 mv2 : Value} {rs : List Rec} {ms : List Nat} (h : Bq w0 w b q rv mv rv2 mv2 rs ms) (hp : Blk w p 48 [ptr b, ptr q]) (u : Upd (Sb b q rv mv) w w') : Blk w' p 48 [ptr b, ptr q] :=
  hp.upd u (fun hh => by
    rcases hh with e | e | e | e
    · exact Blk.ne hp h.p.blk (by decide) e
    · exact Blk.ne hp h.r.blk (by decide) e
    · exact row_ne h.p.row hp (by decide) p e rfl
    · exact row_ne h.p.marks hp (by decide) p e rfl)
set_option maxRecDepth 100000 in
set_option maxHeartbeats 8000000 in
theorem acts_walk (w : World) (v : Value) (xs : List Ac) (h : RdA w v xs) (hok : ∀ x ∈ xs, AcOk w x) (hln : xs.length ≤ 3000000000000) :
    Calls Try.prog 5 #[v] w fun e w' => e = .returned (.bool true) ∧ Below w.heap.size w w' := by
  obtain ⟨a, c, rfl⟩ := h.len
  have Q0 := bq_none w
  have P0 : Blk (((w.alloc (.cells #[.slice none 0 0, .int .i64 0, .slice none 0 0] 43)).alloc (.cells #[.slice none 0 0, .slice none 0 0] 46)).alloc (.cells #[ptr w.heap.size, ptr (w.heap.size + 1)] 48)) (w.heap.size + 1 + 1) 48 [ptr w.heap.size, ptr (w.heap.size + 1)] := by
    have := Blk.new ((w.alloc (.cells #[.slice none 0 0, .int .i64 0, .slice none 0 0] 43)).alloc (.cells #[.slice none 0 0, .slice none 0 0] 46)) 48 [ptr w.heap.size, ptr (w.heap.size + 1)]
    rw [World.size_alloc, World.size_alloc] at this
    exact this
  go_enter Try.func5, Try.ntmps5
  go_wp2
  go_loopw [4] (fun vi wr => ∃ k : Nat, k ≤ xs.length ∧ vi = .int .i64 (k : Nat) ∧ ∃ rv mv rv2 mv2 rs ms, Bq w wr w.heap.size (w.heap.size + 1) rv mv rv2 mv2 rs ms ∧ ms.length ≤ k ∧ Blk wr (w.heap.size + 1 + 1) 48 [ptr w.heap.size, ptr (w.heap.size + 1)]) (fun vi _ => xs.length - (intOf vi).toNat)
  case atStart => exact ⟨0, by omega, rfl, _, _, _, _, _, _, Q0, by simp, P0⟩
  case round =>
    clear Q0 P0
    obtain ⟨k, hk, rfl, rv, mv, rv2, mv2, rs, ms, B1, hml, P1⟩ := hrel
    by_cases hlt : k < xs.length
    · have hlt' : (k : Int) < (xs.length : Int) := by omega
      obtain ⟨bb, off, cap, e, hbl, hat⟩ := h.at hlt
      cases e
      have hx := hok _ (List.getElem_mem hlt)
      have KEEP : Hid (∀ W, Below w.heap.size w W → AAt W bb (off + k * 7) xs[k]) := fun W hW => hat.below hbl hW
      clear hat
      generalize xs[k] = x at *
      obtain ⟨ak, nm, f, kd, key, val, sv, l⟩ := x
      obtain ⟨f0, f1, hv, hl, hc, hF, hV, hll⟩ := hx
      dsimp only at *
      have B1d : Bq w wr.drew w.heap.size (w.heap.size + 1) rv mv rv2 mv2 rs ms := B1.step (Below.refl _ _).drew
      have P1d : Blk wr.drew (w.heap.size + 1 + 1) 48 [ptr w.heap.size, ptr (w.heap.size + 1)] := P1.drew
      have HD : Hid _ := does_any B1d (by omega) ak nm f kd key val sv f0 f1 hv l (hl.below B1d.bel) hc hF hV hll
      have p0 := P1d.cell1 0 _ rfl
      have p1 := P1d.cell1 1 _ rfl
      have a0 := KEEP.out _ B1d.bel
      obtain ⟨a0, a1, a2, a3, a4, a5, a6⟩ := a0
      dsimp only at *
      obtain ⟨m, hm, hm3⟩ : ∃ m : Nat, Int.tmod (k : Int) 3 = (m : Int) ∧ m < 3 := ⟨k % 3, rfl, Nat.mod_lt _ (by omega)⟩
      by_cases h2 : m = 2
      · subst h2
        go_wp2
        go_region_held_law (fun w' => w'.cell? ⟨w.heap.size + 1 + 1, 0, none⟩ = some (ptr w.heap.size) ∧ w'.cell? ⟨w.heap.size + 1 + 1, 1, none⟩ = some (ptr (w.heap.size + 1)) ∧ w'.cell? ⟨bb, off + k * 7, none⟩ = some (.int .i64 ak) ∧ w'.cell? ⟨bb, off + k * 7 + 1, none⟩ = some (.bool nm) ∧ w'.cell? ⟨bb, off + k * 7 + 2, none⟩ = some (.int .u32 f) ∧ w'.cell? ⟨bb, off + k * 7 + 3, none⟩ = some (.int .i64 kd) ∧ w'.cell? ⟨bb, off + k * 7 + 4, none⟩ = some (.string key) ∧ w'.cell? ⟨bb, off + k * 7 + 5, none⟩ = some (.string val) ∧ w'.cell? ⟨bb, off + k * 7 + 6, none⟩ = some sv)
          (first
            | (go_keep; done)
            | exact ⟨p30, p31, KEEP.out _ B3.bel⟩
            | exact ⟨p20, p21, KEEP.out _ B2.bel⟩)
          (first
            | (go_at_call 18; refine (tells_any B2).mono ?_; rintro e w3 ⟨rfl, hb3⟩; have B3 := B2.step hb3; have P3 := P2.upd (S := Non) (Upd.ofBelow hb3) (fun hh => hh); have p30 := P3.cell1 0 _ rfl; have p31 := P3.cell1 1 _ rfl)
            | (go_at_call 17; refine Calls.mono HD.out ?_; rintro e w2 ⟨rv', mv', rv2', mv2', rs', ms', rfl, B2, hml2, hu2⟩; have P2 := sb_box B1d P1d hu2; have p20 := P2.cell1 0 _ rfl; have p21 := P2.cell1 1 _ rfl))
        go_wp2
        go_roundw
        case rel => exact ⟨k + 1, by omega, by go_num, _, _, _, _, _, _, B3, by omega, P3⟩
        case measure => simp [intOf]; omega
      · have h01 : m = 0 ∨ m = 1 := by omega
        clear h2 hm3
        rcases h01 with rfl | rfl
        all_goals
          go_wp2
          go_region_with (first
            | (go_at_call 17; refine Calls.mono HD.out ?_; rintro e w2 ⟨rv', mv', rv2', mv2', rs', ms', rfl, B2, hml2, hu2⟩; have P2 := sb_box B1d P1d hu2))
          all_goals
            go_wp2
            go_roundw
            case rel => exact ⟨k + 1, by omega, by go_num, _, _, _, _, _, _, B2, by omega, P2⟩
            case measure => simp [intOf]; omega
    · obtain rfl : k = xs.length := by omega
      have T1 : Hid _ := tells_any B1
      have p0 := P1.cell1 0 _ rfl
      have p1 := P1.cell1 1 _ rfl
      go_wp2_with (first
        | (go_at_call 12; refine (lives_any _).mono ?_; rintro e w4 ⟨rfl, hb4⟩)
        | (go_at_call 18; refine (tells_any B2).mono ?_; rintro e w3 ⟨rfl, hb3⟩; have B3 := B2.step hb3)
        | (go_at_call 18; refine Calls.mono T1.out ?_; rintro e w2 ⟨rfl, hb2⟩; have B2 := B1.step hb2; have P2 := P1.upd (S := Non) (Upd.ofBelow hb2) (fun hh => hh); have p20 := P2.cell1 0 _ rfl; have p21 := P2.cell1 1 _ rfl))
      go_ret
      exact ⟨rfl, B3.bel.trans (hb4.mono B3.bel.size)⟩
end Go.Proofs.Ytkpijoogaicodaa
