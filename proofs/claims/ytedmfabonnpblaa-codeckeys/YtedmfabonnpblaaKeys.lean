import Derived.Test.YtedmfabonnpblaaEd
import Derived.WalkKit
import Derived.WalkSpells
import Derived.WalkLawsBesides
import Derived.Deep.RegionHeldLaw
import Derived.Deep.RegionWith
import Derived.Deep.DeepCutAuto
import Derived.BigRegion
import Derived.Laws.StructEq
namespace Go.Proofs.Ytedmfabonnpblaa
open Go.RowKit
set_option linter.unusedVariables false
set_option linter.unusedSimpArgs false

/-- The law's state: two slices, three boxes, the world as it was below. -/
structure Ks (w : World) (u : ByteArray) (s k : Int) (v1 v2 : Value) (L : List Int) (bl bm : Nat) (U : ByteArray) (S K : Int) (W : World) : Prop where
  own1 : OwnB W w.heap.size v1 L
  own2 : OwnB W w.heap.size v2 L
  lt0 : w.heap.size < W.heap.size
  ltl : bl < W.heap.size
  ltm : bm < W.heap.size
  box : Box w.heap.size u s k W
  boxl : Box bl U S K W
  boxm : Box bm U S K W
  bel : Below w.heap.size w W
theorem Ks.below {w : World} {u : ByteArray} {s k : Int} {v1 v2 : Value} {L : List Int} {bl bm : Nat} {U : ByteArray} {S K : Int} {W W' : World} (h : Ks w u s k v1 v2 L bl bm U S K W) (hb : Below W.heap.size W W') : Ks w u s k v1 v2 L bl bm U S K W' :=
  ⟨h.own1.below hb (Nat.le_refl _), h.own2.below hb (Nat.le_refl _), Nat.lt_of_lt_of_le h.lt0 hb.size, Nat.lt_of_lt_of_le h.ltl hb.size, Nat.lt_of_lt_of_le h.ltm hb.size, keepS hb h.lt0 h.box, keepS hb h.ltl h.boxl, keepS hb h.ltm h.boxm, h.bel.trans (hb.mono h.bel.size)⟩
theorem Ks.drew {w : World} {u : ByteArray} {s k : Int} {v1 v2 : Value} {L : List Int} {bl bm : Nat} {U : ByteArray} {S K : Int} {W : World} (h : Ks w u s k v1 v2 L bl bm U S K W) : Ks w u s k v1 v2 L bl bm U S K W.drew :=
  ⟨h.own1.drew, h.own2.drew, h.lt0, h.ltl, h.ltm, h.box, h.boxl, h.boxm, h.bel.drew⟩
theorem Ks.next {w : World} {u : ByteArray} {s k : Int} {v1 v2 : Value} {L : List Int} {bl bm : Nat} {U : ByteArray} {S K : Int} {W W0 W' : World} (h : Ks w u s k v1 v2 L bl bm U S K W) (hb : Below W0.heap.size W0 W') (e : W0 = W ∨ W0 = W.drew) : Ks w u s k v1 v2 L bl bm U S K W' := by
  rcases e with rfl | rfl
  · exact h.below hb
  · exact h.drew.below hb
theorem OwnB.strK {w : World} {base : Nat} {v : Value} {l : List Int} (h : OwnB w base v l) : (convert 23 9 v).run Try.prog w = .ok (.string (bstr l)) w :=
  h.run_string (P := Try.prog) 23 9 Try.underlying23 Try.underlying5 Try.underlying9
theorem ccheck_bel (u : ByteArray) (s k : Int) (w : World) :
    Calls Try.prog 30 #[.agg #[.string u, .int .u64 s, .int .i64 k]] w fun e w' => e = .returned (.int .i64 (checkV u s k)) ∧ Below w.heap.size w w' := by
  refine (ccheck_any u s k w).mono ?_
  rintro e w' ⟨rfl, rfl⟩
  exact ⟨rfl, (Below.refl _ _).alloc (Nat.le_refl _) _⟩
theorem rcheck_bel (u : ByteArray) (s k : Int) (w : World) :
    Calls Try.prog 31 #[.agg #[.string u, .int .u64 s, .int .i64 k]] w fun e w' => e = .returned (.int .i64 (checkV u s k)) ∧ Below w.heap.size w w' := by
  refine (rcheck_any u s k w).mono ?_
  rintro e w' ⟨rfl, rfl⟩
  exact ⟨rfl, (Below.refl _ _).alloc (Nat.le_refl _) _⟩
theorem box_new (w : World) (u : ByteArray) (s k : Int) : Box w.heap.size u s k (w.alloc (.cells #[.string u, .int .u64 s, .int .i64 k] 42)) :=
  ⟨World.cell?_alloc_new w _ 42 0, World.cell?_alloc_new w _ 42 1, World.cell?_alloc_new w _ 42 2⟩

theorem decR_mk (U : ByteArray) (S K E : Int) : decR (U, S, K, E) = .tuple #[.agg #[.string U, .int .u64 S, .int .i64 K], .int .i64 E] := rfl
theorem OwnB.cap_le {w : World} {base : Nat} {a : Option Addr} {len cap : Nat} {l : List Int} (h : OwnB w base (.slice a len cap) l) : len ≤ cap := by
  rcases h with ⟨h, _⟩ | ⟨b, off, cap', hv, _, _, h3, _⟩
  · cases h; exact Nat.le_refl _
  · cases hv; exact h3

set_option maxRecDepth 100000 in
set_option maxHeartbeats 3200000 in
theorem keys_walk (u : ByteArray) (s k : Int) (a : Option Addr) (len cap : Nat) (l : List Int) (w : World) (h : Arg w a len cap l) (hcap : len ≤ cap) (hs : 0 ≤ s) :
    Calls Try.prog 5 #[.agg #[.string u, .int .u64 s, .int .i64 k], .slice a len cap] w fun e w' => e = .returned (.bool true) ∧ Below w.heap.size w w' := by
  obtain ⟨i0, hi, hz0, hz1, hz2⟩ := info_parts info5
  have HL : Hid (([] : List Int).length + l.length ≤ 140737488355328) := by show _ ≤ _; have := h.1; have := h.2.2.1; simp; omega
  obtain ⟨⟨U, S, K, E⟩, hR⟩ : ∃ R, decT l = R := ⟨_, rfl⟩
  have HR : Hid (decT l = (U, S, K, E)) := hR
  have HC : Hid (checkV u s k = checkV u s k) := rfl
  clear hR
  have hb0 := box_new w u s k
  have bel0 : Below w.heap.size w (w.alloc (.cells #[.string u, .int .u64 s, .int .i64 k] 42)) := (Below.refl _ _).alloc (Nat.le_refl _) _
  have hlt0 : w.heap.size < (w.alloc (.cells #[.string u, .int .u64 s, .int .i64 k] 42)).heap.size := by simp
  go_enter Try.func5, Try.ntmps5
  go_wp2_with (first
    | (go_at_call 26; refine (cencode_any u s k _ hs).mono ?_; rintro e w1 ⟨v1, rfl, ho1, hbl1⟩; obtain ⟨b10, b11, b12⟩ := keepS hbl1 hlt0 hb0; have B1 := bel0.trans (hbl1.mono bel0.size))
    | (go_at_call 27; refine (rencode_any u s k _ hs).mono ?_; rintro e w2 ⟨v2, rfl, ho2, hbl2⟩; have B2 := B1.trans (hbl2.mono B1.size); have hA2 := h.below B2; have hA2' := hA2.below ((Below.refl w2.heap.size w2).alloc (Nat.le_refl _) (.cells #[] 5)))
    | (at_builtin; refine OwnB.wpList_append rfl _ _ 23 23 rfl rfl (base := w2.heap.size) (l := []) (own_empty w2) i0 Try.underlying23 hi hz0 hz1 hz2 _ rfl l hA2'.src (by simp) HL.out ?_; intro v' w3 hown hgrow hat; obtain ⟨a', cap', rfl, hown', hA3, hA3b, hbl3⟩ := copy_arg hA2 hown hgrow; clear hown hgrow hat)
    | (go_at_call 28; refine (cdecode_any _ _ _ l _ hA3 hown'.cap_le).mono ?_; rw [HR.out, decR_mk]; rintro e w4 ⟨rfl, hbl4⟩; have hA4 := (hA3b.below hbl4).below ((Below.refl w4.heap.size w4).alloc (Nat.le_refl _) (.cells #[.string U, .int .u64 S, .int .i64 K] 42)))
    | (go_at_call 29; refine (rdecode_any _ _ _ l _ hA4 hcap).mono ?_; rw [HR.out, decR_mk]; rintro e w5 ⟨rfl, hbl5⟩))
  have c24 := hbl3.trans (hbl4.mono hbl3.size)
  have c24a := c24.alloc c24.size (.cells #[.string U, .int .u64 S, .int .i64 K] 42)
  have c25 := c24a.trans (hbl5.mono c24a.size)
  have c2W := c25.alloc c25.size (.cells #[.string U, .int .u64 S, .int .i64 K] 42)
  have c1W := hbl2.trans (c2W.mono hbl2.size)
  have d5 := hbl5.alloc hbl5.size (.cells #[.string U, .int .u64 S, .int .i64 K] 42)
  have hd5 := d5.size
  rw [World.size_alloc] at hd5
  have hK : Ks w u s k v1 v2 (encL u s k) w4.heap.size w5.heap.size U S K (w5.alloc (.cells #[.string U, .int .u64 S, .int .i64 K] 42)) :=
    ⟨(ho1.mono bel0.size).below c1W (Nat.le_refl _), (ho2.mono B1.size).below c2W (Nat.le_refl _), Nat.lt_of_lt_of_le (Nat.lt_of_lt_of_le hlt0 hbl1.size) c1W.size, by omega, by rw [World.size_alloc]; omega,
      keepS c1W (Nat.lt_of_lt_of_le hlt0 hbl1.size) (keepS hbl1 hlt0 hb0), keepS d5 (by rw [World.size_alloc]; omega) (box_new w4 U S K), box_new w5 U S K, B2.trans (c2W.mono B2.size)⟩
  clear c24 c24a c25 c2W c1W d5 hd5 hbl1 hbl2 hbl3 hbl4 hbl5 ho1 ho2 hA2 hA2' hA3 hA3b hA4 hown' B1 B2 bel0 hlt0 hb0 b10 b11 b12 hi hz0 hz1 hz2 HL HR
  generalize (w5.alloc (.cells #[.string U, .int .u64 S, .int .i64 K] 42)) = W at *
  generalize w4.heap.size = bl at *
  generalize w5.heap.size = bm at *
  go_cut [63] (fun t wd => t = .bool false ∧ Ks w u s k v1 v2 (encL u s k) bl bm U S K wd)
  case first =>
    obtain ⟨a1, a2, a3⟩ := hK.box
    obtain ⟨a4, a5, a6⟩ := hK.boxl
    obtain ⟨a7, a8, a9⟩ := hK.boxm
    have hs1 := hK.own1.drew.strK
    have hs2 := hK.own2.drew.strK
    go_region_held_law (fun w' => w'.cell? ⟨w.heap.size, 0, none⟩ = some (.string u) ∧ w'.cell? ⟨w.heap.size, 1, none⟩ = some (.int .u64 s) ∧ w'.cell? ⟨w.heap.size, 2, none⟩ = some (.int .i64 k) ∧ w'.cell? ⟨bl, 0, none⟩ = some (.string U) ∧ w'.cell? ⟨bl, 1, none⟩ = some (.int .u64 S) ∧ w'.cell? ⟨bl, 2, none⟩ = some (.int .i64 K) ∧ w'.cell? ⟨bm, 0, none⟩ = some (.string U) ∧ w'.cell? ⟨bm, 1, none⟩ = some (.int .u64 S) ∧ w'.cell? ⟨bm, 2, none⟩ = some (.int .i64 K))
     (exact ⟨hK.box.1, hK.box.2.1, hK.box.2.2, hK.boxl.1, hK.boxl.2.1, hK.boxl.2.2, hK.boxm.1, hK.boxm.2.1, hK.boxm.2.2⟩)
     (first
      | (go_at_call 30; refine (ccheck_bel _ _ _ _).mono ?_; rintro e w6 ⟨rfl, hbl⟩; replace hK := hK.next hbl (by first | exact .inl rfl | exact .inr rfl); clear hbl)
      | (go_at_call 31; refine (rcheck_bel _ _ _ _).mono ?_; rintro e w6 ⟨rfl, hbl⟩; replace hK := hK.next hbl (by first | exact .inl rfl | exact .inr rfl); clear hbl))
    all_goals
      go_wp2
      go_meet
      case rel => exact ⟨rfl, hK⟩
  case rest =>
    clear hK
    obtain ⟨rfl, hK⟩ := hcut
    by_cases hck : checkV u s k = 0
    · have t : (checkV u s k == 0) = true := by simpa using hck
      have HD : Hid (decT (encL u s k) = (u, s, k, 0)) := dec_enc hck hs
      obtain ⟨x1, cp1, rfl, hA1⟩ := hK.own1.arg (encL_bd u s k) (by
        rw [encL_yes hck, List.length_append, sb_len, byts_len]
        have := (check_parts hck).2.2.2
        omega)
      have hcp := hK.own1.cap_le
      have HCP : Hid ((encL u s k).length ≤ cp1) := hcp
      clear hck hcp
      go_wp2_with (first
        | (go_at_call 28; refine (cdecode_any _ _ _ (encL u s k) _ hA1 HCP.out).mono ?_; rw [HD.out, decR_mk]; rintro e w7 ⟨rfl, hbl⟩; replace hK := hK.next hbl (by first | exact .inl rfl | exact .inr rfl); clear hbl; have lt7 := hK.lt0; obtain ⟨b1, b2, b3⟩ := hK.box)
        | (go_at_call 19; refine (lives_any _).mono ?_; rintro e w8 ⟨rfl, hbl8⟩))
      go_ret
      have b7 := hK.bel.alloc hK.bel.size (.cells #[.string u, .int .u64 s, .int .i64 k] 42)
      exact ⟨rfl, b7.trans (hbl8.mono b7.size)⟩
    · have t : (checkV u s k == 0) = false := by simpa using hck
      clear hck
      go_wp2_with (go_at_call 19; refine (lives_any _).mono ?_; rintro e w8 ⟨rfl, hbl8⟩)
      go_ret
      exact ⟨rfl, hK.bel.trans (hbl8.mono hK.bel.size)⟩
end Go.Proofs.Ytedmfabonnpblaa
