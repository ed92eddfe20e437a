import Derived.Test.YtkpijoogaicodaaBd
namespace Go.Proofs.Ytkpijoogaicodaa
open Go.RowKit
set_option linter.unusedVariables false
set_option linter.unusedSimpArgs false

theorem OwnB.src {w : World} {base : Nat} {v : Value} {l : List Int} (h : OwnB w base v l) : Src Try.prog 1 24 v l.length (bc l) w := by
  rcases h with ⟨rfl, rfl⟩ | ⟨b, off, cap, rfl, h1, h2, h3, h4, h5, h6⟩
  · exact Src.ofNil w Try.underlying24 0
  · refine Src.ofSlice w Try.underlying24 ⟨b, off, none⟩ l.length cap (bc l) (by rw [bc_len]; omega) ?_ (bc_one l)
    intro j u hu
    obtain ⟨hj, rfl⟩ := bc_get l j u hu
    rw [add_at]; exact h5 j hj
theorem src_str (w : World) (s : ByteArray) : Src Try.prog 1 9 (.string s) (sb s).length (bc (sb s)) w := by
  have e : bc (sb s) = byteCells s := by simp [bc, sb, byteCells]
  rw [e, sb_len]
  exact Src.ofString w Try.underlying9 s
theorem OwnB.upd {S : Nat → Prop} {w w' : World} {base : Nat} {v : Value} {l : List Int} (h : OwnB w base v l) (u : Upd S w w') (hS : ∀ k, v.ownBlock = some k → ¬ S k) : OwnB w' base v l :=
  h.same u.size fun k hk => u.block k (h.lt k hk).2 (hS k hk)
/-- What comes of bytes that are appended to. -/
structure AppB (w w' : World) (base : Nat) (v v' : Value) (l : List Int) : Prop where
  own : OwnB w' base v' l
  upd : Upd (fun k => v.ownBlock = some k) w w'
  loc : v'.ownBlock = v.ownBlock ∨ ∀ j, v'.ownBlock = some j → w.heap.size ≤ j
theorem AppB.trans {w w1 w2 : World} {base : Nat} {v v1 v2 : Value} {l1 l2 : List Int} (h : AppB w w1 base v v1 l1) (k : AppB w1 w2 base v1 v2 l2) : AppB w w2 base v v2 l2 := by
  refine ⟨k.own, h.upd.then k.upd (fun i hi hs => ?_), ?_⟩
  · rcases h.loc with e | e
    · rw [← e]; exact hs
    · have := e i hs; omega
  · rcases k.loc with e | e
    · rw [e]; exact h.loc
    · exact .inr fun j hj => Nat.le_trans h.upd.size (e j hj)
/-- Behind steps that touch nothing old. -/
theorem AppB.pre {w W w' : World} {base : Nat} {v v' : Value} {l : List Int} (hb : Below w.heap.size w W) (k : AppB W w' base v v' l) : AppB w w' base v v' l :=
  ⟨k.own, (Upd.ofBelow hb).trans k.upd, by
    rcases k.loc with e | e
    · exact .inl e
    · exact .inr fun j hj => Nat.le_trans hb.size (e j hj)⟩
theorem AppB.post {w W w' : World} {base : Nat} {v v' : Value} {l : List Int} (k : AppB w W base v v' l) (hb : Below W.heap.size W w') : AppB w w' base v v' l :=
  ⟨k.own.below hb (Nat.le_refl _), k.upd.trans (Upd.ofBelow hb), k.loc⟩
theorem AppB.grow {w w' : World} {base : Nat} {v v' : Value} {l : List Int} (ho : OwnB w' base v' l) (hg : w.grownBy w' v.ownBlock) (hl : v'.ownBlock = v.ownBlock ∨ v'.ownBlock = some w.heap.size) : AppB w w' base v v' l :=
  ⟨ho, (Upd.refl _ _).grown hg (fun k hk _ => hk), by
    rcases hl with e | e
    · exact .inl e
    · exact .inr fun j hj => by rw [e] at hj; cases hj; exact Nat.le_refl _⟩
/-- The bytes of a text, of a record. -/
def txt (s : ByteArray) : List Int := vL 10 s.size ++ sb s
def encR (r : Rec) : List Int := [r.kind] ++ vL 10 r.fam ++ txt r.key ++ (if r.kind = 0 then [] else txt r.val)
theorem txt_len (s : ByteArray) : (txt s).length = ts s := by simp [txt, ts, vs, sb_len]
theorem encR_len (r : Rec) : (encR r).length = rz r := by
  unfold encR rz rsz
  split <;> simp [txt_len, vs] <;> omega
def encs : List Rec → List Int
  | [] => []
  | r :: l => encR r ++ encs l
theorem encs_len (l : List Rec) : (encs l).length = szs l := by
  induction l with
  | nil => rfl
  | cons r l ih => simp [encs, szs, ih, encR_len, rz]
theorem encs_app (l m : List Rec) : encs (l ++ m) = encs l ++ encs m := by
  induction l with
  | nil => rfl
  | cons r l ih => simp [encs, ih]

set_option maxRecDepth 100000 in
set_option maxHeartbeats 1000000 in
theorem appendText_any {w : World} {base : Nat} {v : Value} {l : List Int} (h : OwnB w base v l) (hb : base ≤ w.heap.size) (s : ByteArray) (hs : s.size ≤ 100000) (hl : l.length ≤ 10000000) :
    Calls Try.prog 58 #[v, .string s] w fun e w' => ∃ v', e = .returned v' ∧ AppB w w' base v v' (l ++ txt s) := by
  obtain ⟨i0, hi, hz0, hz1, hz2⟩ := info_parts info5
  have hv := vs_bd s.size
  have h1 : (s.size : Int) ≤ 100000 := by omega
  have HL1 : Hid (l.length + (vL 10 s.size).length ≤ 140737488355328) := by show _ ≤ _; unfold vs at hv; omega
  have HL2 : Hid ((l ++ vL 10 s.size).length + (sb s).length ≤ 140737488355328) := by show _ ≤ _; rw [List.length_append, sb_len]; unfold vs at hv; omega
  clear hv
  go_enter Try.func58, Try.ntmps58
  go_wp2_with (first
    | (go_at_call 57; refine (cvarint_any s.size _ (by omega) (by omega)).mono ?_; rintro e w1 ⟨v1, rfl, ho1, hb1⟩; have ho := h.below hb1 (Nat.le_refl _); have hz1' := hb1.size)
    | (at_builtin; refine OwnB.wpList_append rfl _ _ 24 24 rfl rfl (base := base) (v := v) (l := l) ho i0 Try.underlying24 hi hz0 hz1 hz2 v1 rfl (vL 10 s.size) ho1.src (by omega) HL1.out ?_; intro v2 w2 ho2 hg2 hl2; have A1 := AppB.pre hb1 (AppB.grow ho2 hg2 hl2))
    | (at_builtin; refine OwnB.wpList_append rfl _ _ 24 9 rfl rfl (base := base) (v := v2) (l := l ++ vL 10 s.size) ho2 i0 Try.underlying24 hi hz0 hz1 hz2 (.string s) rfl (sb s) (src_str _ s) (by have := A1.upd.size; omega) HL2.out ?_; intro v3 w3 ho3 hg3 hl3; have A2 := A1.trans (AppB.grow ho3 hg3 hl3)))
  go_ret
  refine ⟨v3, rfl, ?_⟩
  rw [txt, ← List.append_assoc]
  exact A2

theorem rkeepA {B base : Nat} {f k : Int} {key val : ByteArray} {W W' : World} {v v' : Value} {l : List Int} (u : AppB W W' base v v' l) (hlt : B < W.heap.size) (hS : v.ownBlock ≠ some B) (h : RBox B f k key val W) : RBox B f k key val W' := rkeepU u.upd hlt hS h
theorem rnew' (w : World) (f k : Int) (key val : ByteArray) : RBox w.heap.size f k key val (w.alloc (.cells #[.int .u32 f, .int .i64 k, .string key, .string val] 31)) :=
  ⟨World.cell?_alloc_new w _ 31 0, World.cell?_alloc_new w _ 31 1, World.cell?_alloc_new w _ 31 2, World.cell?_alloc_new w _ 31 3⟩
theorem OwnB.ne {w : World} {base : Nat} {v : Value} {l : List Int} (h : OwnB w base v l) {B : Nat} (hB : w.heap.size ≤ B) : v.ownBlock ≠ some B := fun e => by have := (h.lt B e).2; omega
theorem AppB.ne {w w' : World} {base : Nat} {v v' : Value} {l : List Int} (h : AppB w w' base v v' l) {B : Nat} (hv : v.ownBlock ≠ some B) (hB : B < w.heap.size) : v'.ownBlock ≠ some B := by
  rcases h.loc with e | e
  · rw [e]; exact hv
  · intro hh; have := e B hh; omega
theorem src_one' (W : World) (n : Nat) (hn : n = W.heap.size) (x : Int) : Src Try.prog 1 24 (.slice (some ⟨n, 0, none⟩) 1 1) [x].length (bc [x]) (W.alloc (.cells #[.int .u8 x] 5)) := by
  subst hn; exact src_one W x
set_option maxRecDepth 100000 in
set_option maxHeartbeats 2000000 in
theorem appendRecord_any {w : World} {base : Nat} {v : Value} {l : List Int} (h : OwnB w base v l) (hb : base ≤ w.heap.size) (r : Rec) (f0 : 0 ≤ r.fam) (f1 : r.fam < 4294967296) (k0 : 0 ≤ r.kind) (k1 : r.kind ≤ 2) (s1 : r.key.size ≤ 100000) (s2 : ¬ r.kind = 0 → r.val.size ≤ 100000) (hl : l.length ≤ 9000000) :
    Calls Try.prog 30 #[v, recV r.fam r.kind r.key r.val] w fun e w' => ∃ v', e = .returned v' ∧ AppB w w' base v v' (l ++ encR r) := by
  obtain ⟨i0, hi, hz0, hz1, hz2⟩ := info_parts info5
  obtain ⟨f, k, key, val⟩ := r
  dsimp only at *
  have hv1 := vs_bd f
  have hv2 := vs_bd key.size
  have HL1 : Hid (l.length + [k].length ≤ 140737488355328) := by show _ ≤ _; simp; omega
  have HL2 : Hid ((l ++ [k]).length + (vL 10 f).length ≤ 140737488355328) := by show _ ≤ _; unfold vs at hv1; simp; omega
  have HL3 : Hid ((l ++ [k] ++ vL 10 f).length ≤ 10000000) := by show _ ≤ _; unfold vs at hv1; simp; omega
  have HL4 : Hid ((l ++ [k] ++ vL 10 f ++ txt key).length ≤ 10000000) := by show _ ≤ _; rw [List.length_append, txt_len]; unfold ts; unfold vs at hv1; simp; omega
  clear hv1 hv2
  have A0 : Below w.heap.size w (w.alloc (.cells #[.int .u32 f, .int .i64 k, .string key, .string val] 31)) := (Below.refl _ _).alloc (Nat.le_refl _) _
  have R0 := rnew' w f k key val
  have N0 := h.ne (Nat.le_refl _)
  have e1 : IntKind.u8.wrap k = k := by rw [IntKind.wrap_u8]; omega
  have e2 : k % 256 = k := by omega
  clear e2
  go_enter Try.func30, Try.ntmps30
  by_cases hk : k = 0
  · have HV := hasValue_no hk
    have HK : Hid (k = 0) := hk
    clear hk s2
    go_wp2_with (first
      | (at_builtin
         refine OwnB.wpList_append rfl _ _ 24 24 rfl rfl (base := base) (v := v) (l := l) ((h.alloc _).alloc _) i0 Try.underlying24 hi hz0 hz1 hz2 _ rfl [k] (src_one' _ _ (by simp) _) (by simp; omega) HL1.out ?_
         intro v1 w1 ho1 hg1 hl1
         have A1 := AppB.pre (((Below.refl w.heap.size w).alloc (Nat.le_refl _) _).alloc (by simp) _) (AppB.grow ho1 hg1 hl1)
         have R1 := rkeepU ((Upd.refl _ _).grown hg1 (fun k hk _ => hk)) (by simp; omega) N0 (rkeep ((Below.refl _ _).alloc (Nat.le_refl _) _) (by simp) R0)
         have N1 := (AppB.grow ho1 hg1 hl1).ne N0 (by simp; omega)
         have Z1 : w.heap.size < w1.heap.size := (by have := hg1.size; simp at this; omega)
         clear R0 hg1 hl1
         obtain ⟨c0, c1, c2, c3⟩ := R1)
      | (go_at_call 57
         refine (cvarint_any f _ (by omega) (by omega)).mono ?_
         rintro e w2 ⟨v2, rfl, ho2, hb2⟩
         have R2 := rkeep hb2 Z1 ⟨c0, c1, c2, c3⟩
         have Z2 : w.heap.size < w2.heap.size := Nat.lt_of_lt_of_le Z1 hb2.size
         clear c0 c1 c2 c3
         have ho1' := ho1.below hb2 (Nat.le_refl _))
      | (at_builtin
         refine OwnB.wpList_append rfl _ _ 24 24 rfl rfl (base := base) (v := v1) (l := l ++ [k]) ho1' i0 Try.underlying24 hi hz0 hz1 hz2 v2 rfl (vL 10 f) ho2.src (by omega) HL2.out ?_
         intro v3 w3 ho3 hg3 hl3
         have A3 := A1.trans (AppB.pre hb2 (AppB.grow ho3 hg3 hl3))
         have R3 := rkeepU ((Upd.refl _ _).grown hg3 (fun k hk _ => hk)) Z2 N1 R2
         have N3 := (AppB.grow ho3 hg3 hl3).ne N1 Z2
         have Z3 : w.heap.size < w3.heap.size := Nat.lt_of_lt_of_le Z2 hg3.size
         clear R2 hg3 hl3
         obtain ⟨c0, c1, c2, c3⟩ := R3)
      | (go_at_call_of 58 (Value.string key)
         refine (appendText_any ho3 (by omega) key s1 HL3.out).mono ?_
         rintro e w4 ⟨v4, rfl, A4⟩
         have R4 := rkeepU A4.upd Z3 N3 ⟨c0, c1, c2, c3⟩
         have Z4 : w.heap.size < w4.heap.size := Nat.lt_of_lt_of_le Z3 A4.upd.size
         clear c0 c1 c2 c3
         have A5 := A3.trans A4
         obtain ⟨c0, c1, c2, c3⟩ := R4)
      | (go_at_call 36; refine (HV _).mono ?_; rintro e w' ⟨rfl, rfl⟩))
    go_ret
    refine ⟨v4, rfl, ?_⟩
    have e : encR ⟨f, k, key, val⟩ = [k] ++ vL 10 f ++ txt key := by simp [encR, HK.out]
    rw [e, ← List.append_assoc, ← List.append_assoc]
    exact A5
  · have HV := hasValue_yes hk
    have HK : Hid (¬ k = 0) := hk
    have s3 := s2 hk
    clear hk s2
    go_wp2_with (first
      | (at_builtin
         refine OwnB.wpList_append rfl _ _ 24 24 rfl rfl (base := base) (v := v) (l := l) ((h.alloc _).alloc _) i0 Try.underlying24 hi hz0 hz1 hz2 _ rfl [k] (src_one' _ _ (by simp) _) (by simp; omega) HL1.out ?_
         intro v1 w1 ho1 hg1 hl1
         have A1 := AppB.pre (((Below.refl w.heap.size w).alloc (Nat.le_refl _) _).alloc (by simp) _) (AppB.grow ho1 hg1 hl1)
         have R1 := rkeepU ((Upd.refl _ _).grown hg1 (fun k hk _ => hk)) (by simp; omega) N0 (rkeep ((Below.refl _ _).alloc (Nat.le_refl _) _) (by simp) R0)
         have N1 := (AppB.grow ho1 hg1 hl1).ne N0 (by simp; omega)
         have Z1 : w.heap.size < w1.heap.size := (by have := hg1.size; simp at this; omega)
         clear R0 hg1 hl1
         obtain ⟨c0, c1, c2, c3⟩ := R1)
      | (go_at_call 57
         refine (cvarint_any f _ (by omega) (by omega)).mono ?_
         rintro e w2 ⟨v2, rfl, ho2, hb2⟩
         have R2 := rkeep hb2 Z1 ⟨c0, c1, c2, c3⟩
         have Z2 : w.heap.size < w2.heap.size := Nat.lt_of_lt_of_le Z1 hb2.size
         clear c0 c1 c2 c3
         have ho1' := ho1.below hb2 (Nat.le_refl _))
      | (at_builtin
         refine OwnB.wpList_append rfl _ _ 24 24 rfl rfl (base := base) (v := v1) (l := l ++ [k]) ho1' i0 Try.underlying24 hi hz0 hz1 hz2 v2 rfl (vL 10 f) ho2.src (by omega) HL2.out ?_
         intro v3 w3 ho3 hg3 hl3
         have A3 := A1.trans (AppB.pre hb2 (AppB.grow ho3 hg3 hl3))
         have R3 := rkeepU ((Upd.refl _ _).grown hg3 (fun k hk _ => hk)) Z2 N1 R2
         have N3 := (AppB.grow ho3 hg3 hl3).ne N1 Z2
         have Z3 : w.heap.size < w3.heap.size := Nat.lt_of_lt_of_le Z2 hg3.size
         clear R2 hg3 hl3
         obtain ⟨c0, c1, c2, c3⟩ := R3)
      | (go_at_call_of 58 (Value.string key)
         refine (appendText_any ho3 (by omega) key s1 HL3.out).mono ?_
         rintro e w4 ⟨v4, rfl, A4⟩
         have R4 := rkeepU A4.upd Z3 N3 ⟨c0, c1, c2, c3⟩
         have Z4 : w.heap.size < w4.heap.size := Nat.lt_of_lt_of_le Z3 A4.upd.size
         clear c0 c1 c2 c3
         have A5 := A3.trans A4
         obtain ⟨c0, c1, c2, c3⟩ := R4)
      | (go_at_call 36; refine (HV _).mono ?_; rintro e w' ⟨rfl, rfl⟩)
      | (go_at_call_of 58 (Value.string val)
         refine (appendText_any A5.own (by omega) val s3 HL4.out).mono ?_
         rintro e w6 ⟨v6, rfl, A6⟩))
    go_ret
    refine ⟨v6, rfl, ?_⟩
    have e : encR ⟨f, k, key, val⟩ = [k] ++ vL 10 f ++ txt key ++ txt val := by unfold encR; simp only; rw [if_neg HK.out]
    rw [e, ← List.append_assoc, ← List.append_assoc, ← List.append_assoc]
    exact A5.trans A6
end Go.Proofs.Ytkpijoogaicodaa
