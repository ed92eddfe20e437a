import Derived.Test.YtocanjefonlnaaaDoorQ
namespace Go.Proofs.YtocanjefonlnaaaDoor
open Go.RowKit
set_option linter.unusedVariables false
set_option linter.unusedSimpArgs false
theorem Tab.mono {w : World} {T : Nat} {B B' : Nat → Prop} {how : Int} {E : List Ent} {R : List Tm} {sz fi la : Int} (h : Tab w T B how E R sz fi la) (hB : ∀ k, B k → B' k) : Tab w T B' how E R sz fi la := by
  obtain ⟨C, L, h1, h2, h3, h4, h5, h6, hs, hr, hh, b1, b2, b3, b4⟩ := h.ex
  exact ⟨C, L, h1, h2, h3, h4, h5, h6, hs, hr, hh, fun k hk => hB k (b1 k hk), fun k hk => hB k (b2 k hk), fun k hk => hB k (b3 k hk), b4⟩
theorem PutPost.behind {w W : World} (hb : Below w.heap.size w W) {T : Nat} {B : Nat → Prop} {how : Int} {E : List Ent} {R : List Tm} {sz fi la : Int} {there : Prop} {E' : List Ent} {R' : List Tm} {e : Ending} {w' : World} (h : PutPost W T B how E R sz fi la there E' R' e w') : PutPost w T B how E R sz fi la there E' R' e w' := by
  rcases h with ⟨h1, h2, h3⟩ | ⟨h1, h2, h3, h4⟩
  · exact .inl ⟨h1, h2, hb.trans (h3.mono hb.size)⟩
  · refine .inr ⟨h1, h2, h3.mono ?_, ((Upd.refl B w).then (Upd.ofBelow hb) (fun _ _ h => h)).then h4 (fun _ _ h => h)⟩
    rintro k (hk | ⟨hk, hk2⟩)
    · exact .inl hk
    · exact .inr ⟨Nat.le_trans hb.size hk, hk2⟩
/-- A box of a record. -/
abbrev rbox (f k : Int) (key val : ByteArray) : List Value := [.int .u32 f, .int .i64 k, .string key, .string val]
theorem keep3 {w w1 : World} {S : Nat → Prop} (h : Upd S w w1) {b o1 o2 o3 : Nat} (hS : ¬ S b) {v1 v2 v3 : Value}
    (hc : w.cell? ⟨b, o1, none⟩ = some v1 ∧ w.cell? ⟨b, o2, none⟩ = some v2 ∧ w.cell? ⟨b, o3, none⟩ = some v3) :
    w1.cell? ⟨b, o1, none⟩ = some v1 ∧ w1.cell? ⟨b, o2, none⟩ = some v2 ∧ w1.cell? ⟨b, o3, none⟩ = some v3 := by
  have hl := block_lt_of_cell hc.1
  have e := h.block b hl hS
  exact ⟨(World.cell?_of_block (a := ⟨b, o1, none⟩) e).trans hc.1, (World.cell?_of_block (a := ⟨b, o2, none⟩) e).trans hc.2.1, (World.cell?_of_block (a := ⟨b, o3, none⟩) e).trans hc.2.2⟩
theorem PutPost.upd {w : World} {T : Nat} {B : Nat → Prop} {how : Int} {E : List Ent} {R : List Tm} {sz fi la : Int} {there : Prop} {E' : List Ent} {R' : List Tm} {e : Ending} {w' : World} (h : PutPost w T B how E R sz fi la there E' R' e w') : Upd B w w' ∧ ∃ be, e = .returned (.bool be) := by
  rcases h with ⟨h1, h2, h3⟩ | ⟨h1, h2, h3, h4⟩
  · exact ⟨Upd.ofBelow h3, _, h2⟩
  · exact ⟨h4, _, h2⟩
set_option maxRecDepth 100000 in
set_option maxHeartbeats 1000000 in
theorem put_range {w : World} {T : Nat} {B : Nat → Prop} {how : Int} {E : List Ent} {R : List Tm} {sz fi la : Int} (h : Tab w T B how E R sz fi la) (hB : ∀ k, B k → k < w.heap.size) (seq f : Int) (key val : ByteArray) (p : Nat) (hc : TCut how R ⟨key, val, seq⟩ p) (hl : R.length < 9000) :
    Calls Tryd.prog 32 #[ptr T, .int .u64 seq, recV f 2 key val] w (PutPost w T B how E R sz fi la (tis how R ⟨key, val, seq⟩ p = true) E (tins R p ⟨key, val, seq⟩)) := by
  have hb0 : Below w.heap.size w (w.alloc (.cells #[.int .u32 f, .int .i64 2, .string key, .string val] 36)) := (Below.refl _ _).alloc (Nat.le_refl _) _
  have B0 : Blk (w.alloc (.cells #[.int .u32 f, .int .i64 2, .string key, .string val] 36)) w.heap.size 36 (rbox f 2 key val) := Blk.new w 36 _
  have HC : Hid (∀ W, Below w.heap.size w W → Calls Tryd.prog 47 #[rptr T, Tm.v ⟨key, val, seq⟩] W (PutPost W T B how E R sz fi la (tis how R ⟨key, val, seq⟩ p = true) E (tins R p ⟨key, val, seq⟩))) := fun W hb => rangeadd_any (h.below hb) _ p hc hl
  have hT : T < w.heap.size := by obtain ⟨C, L, _, _, _, _, _, _, hs, _⟩ := h.ex; exact hs.tab.lt
  have HB : Hid (∀ k, B k → k < w.heap.size) := hB
  clear h hc hB
  go_enter Tryd.func32, Tryd.ntmps32
  go_upto_region 1 with fail
  obtain ⟨W0, hW0⟩ : ∃ W0, W0 = w.alloc (.cells #[.int .u32 f, .int .i64 2, .string key, .string val] 36) := ⟨_, rfl⟩
  rw [← hW0] at hb0 B0 ⊢
  clear hW0
  have c1 := B0.cell1 1 _ rfl
  have c2 := B0.cell1 2 _ rfl
  have c3 := B0.cell1 3 _ rfl
  have HB0 : Hid (Below w.heap.size w W0) := hb0
  clear hb0 B0
  go_wp2_with fail
  go_region_held_law (fun w' => w'.cell? ⟨w.heap.size, 1, none⟩ = some (.int .i64 2) ∧ w'.cell? ⟨w.heap.size, 2, none⟩ = some (.string key) ∧ w'.cell? ⟨w.heap.size, 3, none⟩ = some (.string val))
    (first | (go_keep; done) | (refine keep3 hp2.1 (fun hk => Nat.lt_irrefl _ (HB.out _ hk)) ?_ <;> assumption))
    ((go_at_call 47; refine (HC.out _ HB0.out.drew).mono ?_; intro e w1 hpost; have hp2 := hpost.upd; obtain ⟨be, hq⟩ := hp2.2; subst hq))
  go_wp2_with fail
  go_ret
  exact hpost.behind HB0.out.drew
set_option maxRecDepth 100000 in
set_option maxHeartbeats 1000000 in
theorem put_entry {w : World} {T : Nat} {B : Nat → Prop} {how : Int} {E : List Ent} {R : List Tm} {sz fi la : Int} (h : Tab w T B how E R sz fi la) (hB : ∀ k, B k → k < w.heap.size) (hz : Tz w) (seq f kd : Int) (hkd : (kd == 2) = false) (key val : ByteArray) (p : Nat) (hc : CutE how E key seq kd p) (hl : E.length < 9000) :
    Calls Tryd.prog 32 #[ptr T, .int .u64 seq, recV f kd key val] w (PutPost w T B how E R sz fi la (eis E p ⟨key, seq, kd, val⟩) (eins E p ⟨key, seq, kd, val⟩) R) := by
  have hb0 : Below w.heap.size w (w.alloc (.cells #[.int .u32 f, .int .i64 kd, .string key, .string val] 36)) := (Below.refl _ _).alloc (Nat.le_refl _) _
  have B0 : Blk (w.alloc (.cells #[.int .u32 f, .int .i64 kd, .string key, .string val] 36)) w.heap.size 36 (rbox f kd key val) := Blk.new w 36 _
  have HC : Hid (∀ W, Below w.heap.size w W → Calls Tryd.prog 48 #[ptr T, .agg #[.string key, .int .u64 seq, .int .i64 kd, .string val]] W (PutPost W T B how E R sz fi la (eis E p ⟨key, seq, kd, val⟩) (eins E p ⟨key, seq, kd, val⟩) R)) := fun W hb => listadd_any (h.below hb) (hz.below hb) ⟨key, seq, kd, val⟩ p hc hl
  have hT : T < w.heap.size := by obtain ⟨C, L, _, _, _, _, _, _, hs, _⟩ := h.ex; exact hs.tab.lt
  have HB : Hid (∀ k, B k → k < w.heap.size) := hB
  clear h hc hB hz
  go_enter Tryd.func32, Tryd.ntmps32
  go_upto_region 1 with fail
  obtain ⟨W0, hW0⟩ : ∃ W0, W0 = w.alloc (.cells #[.int .u32 f, .int .i64 kd, .string key, .string val] 36) := ⟨_, rfl⟩
  rw [← hW0] at hb0 B0 ⊢
  clear hW0
  have c1 := B0.cell1 1 _ rfl
  have c2 := B0.cell1 2 _ rfl
  have c3 := B0.cell1 3 _ rfl
  have HB0 : Hid (Below w.heap.size w W0) := hb0
  clear hb0 B0
  go_wp2_with fail
  go_region_held_law (fun w' => w'.cell? ⟨w.heap.size, 1, none⟩ = some (.int .i64 kd) ∧ w'.cell? ⟨w.heap.size, 2, none⟩ = some (.string key) ∧ w'.cell? ⟨w.heap.size, 3, none⟩ = some (.string val))
    (first | (go_keep; done) | (refine keep3 hp2.1 (fun hk => Nat.lt_irrefl _ (HB.out _ hk)) ?_ <;> assumption))
    ((go_at_call 48; refine (HC.out _ HB0.out.drew).mono ?_; intro e w1 hpost; have hp2 := hpost.upd; obtain ⟨be, hq⟩ := hp2.2; subst hq))
  go_wp2_with fail
  go_ret
  exact hpost.behind HB0.out.drew
end Go.Proofs.YtocanjefonlnaaaDoor
