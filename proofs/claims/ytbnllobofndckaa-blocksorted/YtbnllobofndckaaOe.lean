/-
  An entry that was read; all entries.
-/
import Derived.Test.YtbnllobofndckaaPm
import Derived.Test.YtbnllobofndckaaRg
import Derived.Deep.RegionHeldLaw
import Derived.Lib.AppendZeros
namespace Go.Proofs.Ytbnllobofndckaa
open Go.RowKit
set_option linter.unusedVariables false
set_option linter.unusedSimpArgs false
theorem arg_str {w : World} {a : Option Addr} {n c : Nat} {l : List Int} (h : Arg w a n c l) : (convert 23 9 (.slice a n c)).run Try.prog w = .ok (.string (bstr l)) w := by
  obtain ⟨h1, h2, h3, h4⟩ := h
  rcases h4 with rfl | ⟨b, off, rfl, _, hc⟩
  · obtain rfl : n = 0 := by simpa using h1.symm
    rw [run_convert_bytes_string w 23 9 5 _ _ _ Try.underlying23 Try.underlying5 Try.underlying9]
    cases a with
    | none => simp [Conv.bytesToString, bstr]
    | some ad => exact run_bytesToString w ad 0 c [] (by have := run_loadCells_list (P := Try.prog) w ad (bc []) (by intro j u hu; simp [bc] at hu); simpa [bc] using this)
  · rw [← h1]; exact run_string_at w 23 9 Try.underlying23 Try.underlying5 Try.underlying9 b off c l hc
set_option maxRecDepth 100000 in
set_option maxHeartbeats 1000000 in
theorem entry55 {os bs : Nat} {w : World} {rb : Nat} {l ky : List Int} {ra : Option Addr} {rc : Nat} {kv : Value} {e : Ent} {rx : Option Addr} {cx : Nat} (h : Rst os bs w rb l ky ra rc kv e.u e.s e.k (.slice rx e.v.size cx)) (hv : Arg w rx e.v.size cx (sb e.v)) :
    Calls Try.prog 55 #[ptr rb] w fun x w' => x = .returned (ev e) ∧ Below w.heap.size w w' := by
  have c2 := h.blk.cell1 2 _ rfl
  have c3 := h.blk.cell1 3 _ rfl
  have c4 := h.blk.cell1 4 _ rfl
  have c5 := h.blk.cell1 5 _ rfl
  have hlt := h.blk.lt
  have hne : ¬ w.heap.size = rb := by omega
  have hb0 : Below w.heap.size w (w.alloc (.cells #[.string ⟨#[]⟩, .int .u64 0, .int .i64 0, .string ⟨#[]⟩] 48)) := (Below.refl _ _).alloc (Nat.le_refl _) _
  have HB : Hid (Below w.heap.size w (w.alloc (.cells #[.string ⟨#[]⟩, .int .u64 0, .int .i64 0, .string ⟨#[]⟩] 48)).drew) := hb0.drew
  have hcv : (convert 23 9 (.slice rx e.v.size cx)).run Try.prog (w.alloc (.cells #[.string ⟨#[]⟩, .int .u64 0, .int .i64 0, .string ⟨#[]⟩] 48)).drew = .ok (.string e.v) (w.alloc (.cells #[.string ⟨#[]⟩, .int .u64 0, .int .i64 0, .string ⟨#[]⟩] 48)).drew := by
    have := arg_str (hv.below hb0.drew)
    rw [bstr_sb] at this; exact this
  clear h hv hb0
  go_enter Try.func55, Try.ntmps55
  go_wp2_with fail
  go_region
  all_goals
    go_wp2_with fail
    exact bodyPost_ret (v := ev e) (by simp [results, Try.results55, go_sem, *]) rfl ⟨rfl, ((Below.refl _ _).alloc (Nat.le_refl _) _).drew⟩
abbrev RowE (w : World) (base : Nat) (v : Value) (l : List Ent) : Prop := w.ownsRow base 48 4 v l.length (G.cls Ent.c l)
theorem en_k : ∀ x : Ent, x.c.length = 4 := fun _ => rfl
theorem en_1 : ∀ x : Ent, ∀ u ∈ x.c, u.oneCell' = true := fun x u hu => by simp [Ent.c] at hu; rcases hu with rfl | rfl | rfl | rfl <;> rfl
theorem row_rde {w : World} {base : Nat} {v : Value} {l : List Ent} (h : RowE w base v l) : ∃ a c, v = .slice a l.length c ∧ l.length ≤ c ∧ RdE w a l := by
  obtain ⟨a, c, e, h1, h2, _⟩ := G.row_rd en_k h
  refine ⟨a, c, e, h1, ?_⟩
  rcases h2 with h2 | ⟨g, o, e2, h3⟩
  · exact .inl h2
  · cases l with
    | nil => exact .inl rfl
    | cons x l =>
      refine .inr ⟨g, o, e2, ?_, fun j y hy => ?_⟩
      · have := h3 0 x rfl 0 _ rfl
        exact G.cell_lt this
      · have h4 := h3 j y hy
        exact ⟨h4 0 _ rfl, h4 1 _ rfl, h4 2 _ rfl, h4 3 _ rfl⟩
theorem rst_new {os bs : Nat} {W : World} {a : Option Addr} {cap : Nat} {l : List Int} (hos : os ≤ bs) (hbs : bs ≤ W.heap.size) (hA : Arg W a l.length cap l) (hcap : l.length ≤ cap) (hold : l ≠ [] → ∀ b o, a = some ⟨b, o, none⟩ → b < os) :
    Rst os bs (W.alloc (.cells #[.slice a l.length cap, .slice none 0 0, .string ⟨#[]⟩, .int .u64 0, .int .i64 0, .slice none 0 0] 88)) W.heap.size l [] a cap (.slice none 0 0) ⟨#[]⟩ 0 0 (.slice none 0 0) := by
  have hb : Below W.heap.size W (W.alloc (.cells #[.slice a l.length cap, .slice none 0 0, .string ⟨#[]⟩, .int .u64 0, .int .i64 0, .slice none 0 0] 88)) := (Below.refl _ _).alloc (Nat.le_refl _) _
  refine ⟨Blk.new W 88 [.slice a l.length cap, .slice none 0 0, .string ⟨#[]⟩, .int .u64 0, .int .i64 0, .slice none 0 0], hA.below hb, hcap, World.ownsRow_nil _ _ _ _, fun hl b o e => ⟨?_, fun e => by cases e⟩, fun e => (by cases e), hbs, hold, hos⟩
  have := hold hl b o e
  omega
def slLen : Value → Nat
  | .slice _ n _ => n
  | _ => 0
set_option maxRecDepth 100000 in
set_option maxHeartbeats 1000000 in
theorem entriesOf_any {w : World} {a : Option Addr} {len cap : Nat} {r : Nat} {l : List Ent} (hA : Arg w a len cap (bt r l l.length)) (hcap : len ≤ cap) (hf : Fit l) (hl : l.length ≤ 65536) (hb : len ≤ 4194304) :
    Calls Try.prog 47 #[.slice a len cap] w fun e w' => ∃ a' c', e = .returned (.slice a' l.length c') ∧ RdE w' a' l ∧ Below w.heap.size w w' := by
  have hlen : (bt r l l.length).length = len := hA.1
  have HF : Hid (Fit l ∧ (bt r l l.length).length ≤ 1099511627776) := ⟨hf, by omega⟩
  have hR0 := rst_new (os := w.heap.size) (bs := w.heap.size) (W := w) (Nat.le_refl _) (Nat.le_refl _) (hlen.symm ▸ hA) (hlen.symm ▸ hcap) (fun hne b o e => by
    rcases hA.2.2.2 with h | ⟨b2, o2, e2, hlt, _⟩
    · exact absurd h hne
    · rw [e] at e2; cases e2; exact hlt)
  rw [hlen] at hR0
  obtain ⟨N, hN⟩ : ∃ N, Hid (l.length = N) := ⟨_, rfl⟩
  have hB0 : Below w.heap.size w (w.alloc (.cells #[.slice a len cap, .slice none 0 0, .string ⟨#[]⟩, .int .u64 0, .int .i64 0, .slice none 0 0] 88)) := (Below.refl _ _).alloc (Nat.le_refl _) _
  have HS : Hid (∃ ra rc kv u s k vv, Rst w.heap.size w.heap.size (w.alloc (.cells #[.slice a len cap, .slice none 0 0, .string ⟨#[]⟩, .int .u64 0, .int .i64 0, .slice none 0 0] 88)) w.heap.size (rs r l 0) (kP l 0) ra rc kv u s k vv ∧ RowE (w.alloc (.cells #[.slice a len cap, .slice none 0 0, .string ⟨#[]⟩, .int .u64 0, .int .i64 0, .slice none 0 0] 88)) w.heap.size (.slice none 0 0) (l.take 0) ∧ Below w.heap.size w (w.alloc (.cells #[.slice a len cap, .slice none 0 0, .string ⟨#[]⟩, .int .u64 0, .int .i64 0, .slice none 0 0] 88))) := ⟨_, _, _, _, _, _, _, by rw [rs_zero]; exact hR0, World.ownsRow_nil _ _ _ _, hB0⟩
  rw [hN.out] at hl ⊢
  clear hA hcap hf hR0 hB0 hlen
  go_enter Try.func47, Try.ntmps47
  go_wp2_with fail
  go_loopw [3] (fun s3 wr => ∃ (i : Nat) (va : Option Addr) (vc : Nat), i ≤ N ∧ s3 = .slice va i vc ∧ Hid (∃ ra rc kv u s k vv, Rst w.heap.size w.heap.size wr w.heap.size (rs r l i) (kP l i) ra rc kv u s k vv ∧ RowE wr w.heap.size (.slice va i vc) (l.take i) ∧ Below w.heap.size w wr)) (fun s3 _ => N - slLen s3)
  case atStart => exact ⟨0, none, 0, Nat.zero_le _, rfl, HS.out⟩
  case round =>
    clear HS
    obtain ⟨i, va, vc, hi, rfl, HI⟩ := hrel
    obtain ⟨ra, rc, kv, u, s, k, vv, hR, hrow, hbl⟩ := HI.out
    have HM := more_any hR
    rcases Nat.lt_or_ge i N with hiN | hiN
    · have hil : i < l.length := by rw [hN.out]; exact hiN
      have hpos := rs_pos (r := r) (l := l) hil
      have hd : decide (0 < (rs r l i).length) = true := by simpa using hpos
      rw [hd] at HM
      obtain ⟨e, he⟩ : ∃ e, l[i]? = some e := ⟨_, List.getElem?_eq_getElem hil⟩
      have HNx := next_wA he HF.out.1 HF.out.2 hR
      have hrn := G.row_slice hrow
      have HEnd : Hid (∀ w1 kv' rx cx ry cy, Rst w.heap.size w.heap.size w1 w.heap.size (rs r l (i + 1)) (kP l (i + 1)) ry cy kv' e.u e.s e.k (.slice rx e.v.size cx) → Upd (fun j => j = w.heap.size ∨ kv.ownBlock = some j) wr w1 → ∀ w2, Below w1.heap.size w1 w2 → ∃ va' vc' w9, (Builtin.append_ #[22, 22] 22 #[.slice va i vc, .slice (some ⟨w2.heap.size, 0, none⟩) 1 1]).run Try.prog (w2.alloc (.cells #[.string e.u, .int .u64 e.s, .int .i64 e.k, .string e.v] 48)) = .ok (.slice va' (i + 1) vc') w9 ∧ Hid (∃ ra rc kv u s k vv, Rst w.heap.size w.heap.size w9 w.heap.size (rs r l (i + 1)) (kP l (i + 1)) ra rc kv u s k vv ∧ RowE w9 w.heap.size (.slice va' (i + 1) vc') (l.take (i + 1)) ∧ Below w.heap.size w w9)) := by
        intro w1 kv' rx cx ry cy R1 U1 w2 B2
        have hbx : Below w1.heap.size w1 (w2.alloc (.cells #[.string e.u, .int .u64 e.s, .int .i64 e.k, .string e.v] 48)) := B2.alloc (by have := B2.size; omega) _
        have R3 := R1.below hbx
        have hrow1 : RowE w1 w.heap.size (.slice va i vc) (l.take i) := row_upd hrow U1 (fun j hj hs => by
          rcases hs with rfl | hs
          · exact G.row_ne hrow hR.blk (by decide) _ hj rfl
          · exact G.row_row_ne' hrow hR.row (by decide) j hj hs)
        have hrow3 : RowE (w2.alloc (.cells #[.string e.u, .int .u64 e.s, .int .i64 e.k, .string e.v] 48)) w.heap.size (.slice va i vc) (l.take i) := row_upd hrow1 (S := Non) (Upd.ofBelow hbx) (fun _ _ h => h)
        have hB1 : Below w.heap.size w w1 := hbl.trans (U1.below (fun j hj => Nat.lt_of_lt_of_le hj hbl.size) (fun j hj => by
          rcases hj with rfl | hj
          · exact Nat.le_refl _
          · exact (G.row_blk hR.row j hj).1))
        have hB3 : Below w.heap.size w (w2.alloc (.cells #[.string e.u, .int .u64 e.s, .int .i64 e.k, .string e.v] 48)) := hB1.trans (hbx.mono hB1.size)
        have hli : (l.take i).length = i := by rw [List.length_take]; omega
        obtain ⟨v9, w9, hr9, g1, g2, g3, _⟩ := G.push_g (P := Try.prog) en_k en_1 Try.underlying22 info48 rfl (by decide) hrow3 hB3.size (Blk.new w2 48 e.c) 22 (by rw [hli]; omega) (by rw [hli]; unfold maxLen; omega)
        have hta : l.take i ++ [e] = l.take (i + 1) := by rw [List.take_add_one, he]; rfl
        rw [hta] at g1
        obtain ⟨va', vc', hv⟩ := G.row_slice g1
        have hli2 : (l.take (i + 1)).length = i + 1 := by rw [List.length_take]; omega
        rw [hli2] at hv
        subst hv
        refine ⟨va', vc', w9, hr9, ry, cy, kv', e.u, e.s, e.k, .slice rx e.v.size cx, ?_, g1, ?_⟩
        · refine R3.upd g2 (fun hs => G.row_ne hrow3 R3.blk (by decide) _ hs rfl) (fun hne b o eb hs => ?_) (fun j hj hs => G.row_row_ne' hrow3 R3.row (by decide) j hs hj)
          have h1 := R3.old hne b o eb
          have h2 := (G.row_blk hrow3 b hs).1
          omega
        · exact hB3.trans (g2.below (fun j hj => Nat.lt_of_lt_of_le hj hB3.size) (fun j hj => (G.row_blk hrow3 j hj).1))
      clear hR hrow hbl hrn hpos hd
      go_wp2_with (first
        | (go_at_call 53; refine HM.mono ?_; rintro x w1 ⟨rfl, hw⟩; have hw1 := hw.symm; subst hw1; clear hw)
        | (go_at_call 54; refine HNx.mono ?_; rintro x w2 ⟨rfl, kv', rx, cx, ry, cy, r1, r2, r3⟩
           have HEn := entry55 r1 r2
           have HE2 : Hid _ := HEnd.out w2 kv' rx cx ry cy r1 r3
           clear r1 r2 r3)
        | (go_at_call 55; refine HEn.mono ?_; rintro x w3 ⟨rfl, r1⟩
           obtain ⟨va', vc', w9, hr9, HF9⟩ := HE2.out w3 r1
           clear r1)
        | (at_builtin; refine Lib.wpList_append_run _ rfl _ _ _ _ rfl _ _ rfl rfl _ _ hr9 ?_))
      go_roundw
      case rel => exact ⟨i + 1, va', vc', by omega, rfl, HF9.out⟩
      case measure => simp [slLen]; omega
    · obtain rfl : i = N := by omega
      have hnil : rs r l i = [] := by rw [← hN.out]; exact rs_end r l
      have hd : decide (0 < (rs r l i).length) = false := by rw [hnil]; rfl
      rw [hd] at HM
      have HE : Hid (RdE wr va l ∧ Below w.heap.size w wr) := by
        rw [List.take_of_length_le (by rw [hN.out]; omega)] at hrow
        obtain ⟨a1, c1, e1, _, h1⟩ := row_rde hrow
        injection e1 with e1 _ _
        rw [e1]; exact ⟨h1, hbl⟩
      clear hR hrow hbl hd hnil
      go_wp2_with (go_at_call 53; refine HM.mono ?_; rintro x w1 ⟨rfl, hw⟩; have hw1 := hw.symm; subst hw1; clear hw)
      go_ret
      first | exact ⟨va, vc, rfl, HE.out⟩ | exact ⟨va, ⟨vc, rfl⟩, HE.out⟩
end Go.Proofs.Ytbnllobofndckaa
