import Derived.Test.YtlkfabejecgfgaaProg
import Derived.WalkKit
import Derived.Maps.OwnSet
import Derived.Maps.RangeWalk
import Derived.Below
import Derived.StringKeys
import Derived.RegionTactic
import Derived.BigRegion
namespace Go.Proofs.Ytlkfabejecgfgaa
open Go.RowKit Go.Maps
set_option linter.unusedVariables false
set_option linter.unusedSimpArgs false

/-- A block of cells that nothing marks. -/
def Blk (w : World) (b : Nat) (t : TypeId) (cs : List Value) : Prop := w.heap[b]? = some (.cells cs.toArray t (0, 0))
theorem Blk.cell {w : World} {b : Nat} {t : TypeId} {cs : List Value} (h : Blk w b t cs) (i : Nat) : w.cell? ⟨b, i, none⟩ = cs[i]? := by
  unfold Blk at h; simp [World.cell?, h]
theorem Blk.cell1 {w : World} {b : Nat} {t : TypeId} {cs : List Value} (h : Blk w b t cs) (i : Nat) (v : Value) (hv : cs[i]? = some v) : w.cell? ⟨b, i, none⟩ = some v := (h.cell i).trans hv
theorem Blk.frozen {w : World} {b : Nat} {t : TypeId} {cs : List Value} (h : Blk w b t cs) (i : Nat) : w.frozen? ⟨b, i, none⟩ = false := by
  unfold Blk at h; simp [World.frozen?, h]
theorem Blk.lt {w : World} {b : Nat} {t : TypeId} {cs : List Value} (h : Blk w b t cs) : b < w.heap.size := (Array.getElem?_eq_some_iff.1 h).1
theorem Blk.ne {w : World} {b b' : Nat} {t t' : TypeId} {cs cs' : List Value} (h : Blk w b t cs) (h' : Blk w b' t' cs') (ht : t ≠ t') : b ≠ b' := by
  rintro rfl
  unfold Blk at h h'
  rw [h] at h'
  simp at h'
  exact ht h'.2
theorem Blk.inj {w : World} {b : Nat} {t t' : TypeId} {cs cs' : List Value} (h : Blk w b t cs) (h' : Blk w b t' cs') : cs = cs' := by
  unfold Blk at h h'
  rw [h] at h'
  simp at h'
  exact h'.1
theorem Blk.set {w : World} {b : Nat} {t : TypeId} {cs : List Value} (h : Blk w b t cs) (i : Nat) (v : Value) : Blk (w.setCell ⟨b, i, none⟩ v) b t (cs.set i v) := by
  unfold Blk at *
  simp [World.setCell, Array.getElem?_modify, h]
theorem Blk.other {w : World} {b : Nat} {t : TypeId} {cs : List Value} (h : Blk w b t cs) {a : Addr} (ha : b ≠ a.block) (v : Value) : Blk (w.setCell a v) b t cs := by
  unfold Blk at *
  rw [Below.heap_setCell _ _ _ _ ha]; exact h
theorem Blk.drew {w : World} {b : Nat} {t : TypeId} {cs : List Value} (h : Blk w b t cs) : Blk w.drew b t cs := h
theorem Blk.alloc {w : World} {b : Nat} {t : TypeId} {cs : List Value} (h : Blk w b t cs) (o : Obj) : Blk (w.alloc o) b t cs := by
  have := h.lt
  unfold Blk at *
  rw [Below.heap_alloc _ _ _ this]; exact h
theorem Blk.new (w : World) (t : TypeId) (cs : List Value) : Blk (w.alloc (.cells cs.toArray t)) w.heap.size t cs := by
  unfold Blk; exact heap_alloc_new w _

/-- w' is w but for the blocks of S, and new ones. -/
structure Upd (S : Nat → Prop) (w w' : World) : Prop where
  os : w'.os = w.os
  tape : w'.tape = w.tape
  output : w'.output = w.output
  size : w.heap.size ≤ w'.heap.size
  block : ∀ k, k < w.heap.size → ¬ S k → w'.heap[k]? = w.heap[k]?
def Non : Nat → Prop := fun _ => False
theorem Upd.refl (S : Nat → Prop) (w : World) : Upd S w w := ⟨rfl, rfl, rfl, Nat.le_refl _, fun _ _ _ => rfl⟩
theorem Upd.trans {S : Nat → Prop} {a b c : World} (h : Upd S a b) (k : Upd S b c) : Upd S a c :=
  ⟨k.os.trans h.os, k.tape.trans h.tape, k.output.trans h.output, Nat.le_trans h.size k.size, fun i hi hs => (k.block i (Nat.lt_of_lt_of_le hi h.size) hs).trans (h.block i hi hs)⟩
theorem Upd.mono {S S' : Nat → Prop} {a b : World} (h : Upd S a b) (hS : ∀ k, k < a.heap.size → S k → S' k) : Upd S' a b :=
  ⟨h.os, h.tape, h.output, h.size, fun i hi hs => h.block i hi (fun hh => hs (hS i hi hh))⟩
/-- the second step's blocks may be new ones. -/
theorem Upd.then {S S' : Nat → Prop} {a b c : World} (h : Upd S a b) (k : Upd S' b c) (hS : ∀ i, i < a.heap.size → S' i → S i) : Upd S a c :=
  ⟨k.os.trans h.os, k.tape.trans h.tape, k.output.trans h.output, Nat.le_trans h.size k.size, fun i hi hs => (k.block i (Nat.lt_of_lt_of_le hi h.size) (fun hh => hs (hS i hi hh))).trans (h.block i hi hs)⟩
theorem Upd.drew {S : Nat → Prop} {a w : World} (h : Upd S a w) : Upd S a w.drew := ⟨h.os, h.tape, h.output, h.size, h.block⟩
theorem Upd.alloc {S : Nat → Prop} {a w : World} (h : Upd S a w) (o : Obj) : Upd S a (w.alloc o) :=
  ⟨h.os, h.tape, h.output, Nat.le_trans h.size (by simp), fun i hi hs => (Below.heap_alloc _ _ _ (Nat.lt_of_lt_of_le hi h.size)).trans (h.block i hi hs)⟩
theorem Upd.setCell {S : Nat → Prop} {a w : World} (h : Upd S a w) {p : Addr} (hp : p.block < a.heap.size → S p.block) (u : Value) : Upd S a (w.setCell p u) :=
  ⟨h.os, h.tape, h.output, Nat.le_trans h.size (by simp [World.setCell]), fun i hi hs => (Below.heap_setCell _ _ _ _ (fun e => by subst e; exact hs (hp hi))).trans (h.block i hi hs)⟩
theorem Upd.grown {S : Nat → Prop} {a w w' : World} {row : Option Nat} (h : Upd S a w) (hg : w.grownBy w' row) (hr : ∀ k, row = some k → k < a.heap.size → S k) : Upd S a w' :=
  ⟨hg.os.trans h.os, hg.tape.trans h.tape, hg.output.trans h.output, Nat.le_trans h.size hg.size, fun i hi hs => (hg.block i (Nat.lt_of_lt_of_le hi h.size) (fun e => hs (hr i e.symm hi))).trans (h.block i hi hs)⟩
theorem Upd.below {S : Nat → Prop} {a b : World} (h : Upd S a b) {n : Nat} (hn : ∀ k, k < n → k < a.heap.size) (hS : ∀ k, S k → n ≤ k) : Below n a b :=
  ⟨h.os, h.tape, h.output, h.size, fun k hk => h.block k (hn k hk) (fun hs => by have := hS k hs; omega)⟩
theorem Upd.ofBelow {S : Nat → Prop} {a b : World} (h : Below a.heap.size a b) : Upd S a b := ⟨h.os, h.tape, h.output, h.size, fun k hk _ => h.block k hk⟩
theorem Blk.upd {S : Nat → Prop} {w w' : World} {b : Nat} {t : TypeId} {cs : List Value} (h : Blk w b t cs) (u : Upd S w w') (hb : ¬ S b) : Blk w' b t cs := by
  have := h.lt
  unfold Blk at *
  rw [u.block b this hb]; exact h


/-- The address of a block's first cell, or nil. -/
def pa : Option Nat → Option Addr
  | some b => some ⟨b, 0, none⟩
  | none => none
@[simp] theorem pa_some (b : Nat) : pa (some b) = some ⟨b, 0, none⟩ := rfl
@[simp] theorem pa_none : pa none = none := rfl
theorem pa_inj {a b : Option Nat} (h : pa a = pa b) : a = b := by
  cases a <;> cases b <;> simp [pa] at h ⊢
  exact h
/-- How such a pointer reads: as its block's number. -/
def ptrR : Value → Option (DataW Unit × List MemPlace)
  | .pointer none => some (.nil, [])
  | .pointer (some ⟨b, 0, none⟩) => some (.lit (.int .u64 b), [])
  | _ => none
def ptrD : Option Nat → DataW Unit
  | some b => .lit (.int .u64 b)
  | none => .nil
theorem ptrR_pv (o : Option Nat) : ptrR (.pointer (pa o)) = some (ptrD o, []) := by cases o <;> rfl
theorem ptrR_inv {v : Value} {d : DataW Unit} {ps : List MemPlace} (h : ptrR v = some (d, ps)) : ∃ o, v = .pointer (pa o) ∧ d = ptrD o ∧ ps = [] := by
  unfold ptrR at h
  split at h
  · cases h; exact ⟨none, rfl, rfl, rfl⟩
  · cases h; exact ⟨some _, rfl, rfl, rfl⟩
  · cases h
theorem ptrD_inj {a b : Option Nat} (h : ptrD a = ptrD b) : a = b := by
  cases a <;> cases b <;> simp [ptrD] at h ⊢
  exact Int.ofNat_inj.1 h
def fput {α β : Type} [DecidableEq α] (f : α → Option β) (k : α) (o : Option β) : α → Option β := fun x => if x = k then o else f x

/-- Block b is a map of keys of type kt to pointers; kl: a key's literal; f says which; D: its datum. -/
structure KM (kt : TypeId) {α : Type} (kl : α → Lit) (w : World) (b : Nat) (f : α → Option Nat) (D : DataW Unit) : Prop where
  own : ∃ n, w.ownsMap Try.prog kt ptrR b n D
  at_ : ∀ k, D.atKey (kl k) .nil = ptrD (f k)
  has : ∀ k, Maps.has D (kl k) = (f k).isSome
theorem law9 : Keyed Try.prog 9 := string_keyed Try.underlying9
theorem key9 {s : ByteArray} (h : s.size ≤ maxLen) : keyOf Try.prog 9 (.string s) = some (.string s.data.toList) := WideMaps.keyOf_string_mk Try.underlying9 h
theorem law3 : Keyed Try.prog 3 := int_keyed Try.underlying3
def I64 (k : Int) : Prop := -9223372036854775808 ≤ k ∧ k ≤ 9223372036854775807
theorem wf3 {k : Int} (h : I64 k) : (Lit.int .i64 k).wf = true := by
  unfold I64 at h
  simp [Lit.wf, IntKind.min, IntKind.max, IntKind.bits, IntKind.signed]
  omega
theorem key3 {k : Int} (h : I64 k) : keyOf Try.prog 3 (.int .i64 k) = some (.int .i64 k) := keyOf_int_mk Try.underlying3 (wf3 h)
theorem zero60 (w : World) : (zeroValue 60).run Try.prog w = .ok (.pointer none) w := by kernel_rfl
theorem zero103 (w : World) : (zeroValue 103).run Try.prog w = .ok (.pointer none) w := by kernel_rfl
section
variable {kt : TypeId} {α : Type} {kl : α → Lit} {w : World} {b : Nat} {f : α → Option Nat} {D : DataW Unit}
theorem KM.lookup (K : Keyed Try.prog kt) {t e : TypeId} (h : KM kt kl w b f D) (ht : Try.prog.underlying t = some (.map kt e)) (hz : (zeroValue e).run Try.prog w = .ok (.pointer none) w) {k : α} {v : Value} (hk : keyOf Try.prog kt v = some (kl k)) :
    (Instr.lookup t (.map (some b)) v false).run Try.prog w = .ok (.pointer (pa (f k))) w := by
  obtain ⟨n, hn⟩ := h.own
  obtain ⟨v, ps, hr, hv⟩ := hn.lookup K ht hz (zd := .nil) (zp := []) rfl hk
  rw [h.at_] at hv
  obtain ⟨o, rfl, ho, _⟩ := ptrR_inv hv
  rw [hr, ptrD_inj ho]
theorem KM.lookok (K : Keyed Try.prog kt) {t e : TypeId} (h : KM kt kl w b f D) (ht : Try.prog.underlying t = some (.map kt e)) (hz : (zeroValue e).run Try.prog w = .ok (.pointer none) w) {k : α} {v : Value} (hk : keyOf Try.prog kt v = some (kl k)) :
    (Instr.lookup t (.map (some b)) v true).run Try.prog w = .ok (.tuple #[.pointer (pa (f k)), .bool (f k).isSome]) w := by
  obtain ⟨n, hn⟩ := h.own
  obtain ⟨v, ps, hr, hv⟩ := hn.look_ok K ht hz (zd := .nil) (zp := []) rfl hk
  rw [h.at_] at hv
  obtain ⟨o, rfl, ho, _⟩ := ptrR_inv hv
  rw [hr, h.has, ptrD_inj ho]
theorem KM.upd {S : Nat → Prop} {w' : World} (h : KM kt kl w b f D) (u : Upd S w w') (hb : ¬ S b) : KM kt kl w' b f D := by
  obtain ⟨⟨n, hn⟩, h3, h4⟩ := h
  refine ⟨⟨n, ?_⟩, h3, h4⟩
  have hl := hn.lt
  obtain ⟨es, clock, hb', r⟩ := hn
  exact ⟨es, clock, (u.block b hl hb).trans hb', r⟩
theorem KM.lt (h : KM kt kl w b f D) : b < w.heap.size := by
  obtain ⟨n, hn⟩ := h.own
  exact hn.lt
theorem KM.ne (h : KM kt kl w b f D) {b' : Nat} {t : TypeId} {cs : List Value} (h' : Blk w b' t cs) : b ≠ b' := by
  rintro rfl
  obtain ⟨n, es, clock, hb, _⟩ := h.own
  unfold Blk at h'
  rw [hb] at h'
  cases h'
theorem KM.made (kt : TypeId) {α : Type} (kl : α → Lit) (w : World) : KM kt kl (w.alloc (.map #[] 0)) w.heap.size (fun _ => none) (.map []) :=
  ⟨⟨0, World.ownsMap_made w Try.prog kt ptrR⟩, fun k => rfl, fun k => rfl⟩
theorem KM.len {t e : TypeId} (h : KM kt kl w b f D) (ht : Try.prog.underlying t = some (.map kt e)) (ty : TypeId) :
    (Builtin.len_ #[t] ty #[.map (some b)]).run Try.prog w = .ok (.int .i64 (Maps.size D)) w := by
  obtain ⟨n, hn⟩ := h.own
  exact hn.len ht ty
theorem KM.store [DecidableEq α] (K : Keyed Try.prog kt) (inj : ∀ a c : α, kl a = kl c → a = c) (isk : ∀ a : α, WideAt.IsKeyLit (kl a)) {t e : TypeId} (h : KM kt kl w b f D) (hsz : Maps.size D < maxLen) (ht : Try.prog.underlying t = some (.map kt e)) {k : α} {v : Value} (hk : keyOf Try.prog kt v = some (kl k)) (p : Nat) :
    ∃ w', (Instr.mapUpdate t (.map (some b)) v (.pointer (some ⟨p, 0, none⟩))).run Try.prog w = .ok () w' ∧ KM kt kl w' b (fput f k (some p)) (D.put (kl k) (ptrD (some p))) ∧ w.grownBy w' (some b) := by
  obtain ⟨n, hn⟩ := h.own
  have hn' : w.ownsMap Try.prog kt ptrR b (Maps.size D) D := by
    obtain ⟨es, clock, hb, F, hs', hD⟩ := hn
    refine ⟨es, clock, hb, F, ?_, hD⟩
    have : Maps.size D = es.size := by rw [hD]; simp [Maps.size, length_sorted]
    omega
  obtain ⟨w', hr, ho, hg⟩ := hn'.store K ht hsz hk (ptrR_pv (some p))
  refine ⟨w', hr, ⟨⟨_, ho⟩, ?_, ?_⟩, hg.grown⟩
  · intro x
    by_cases e : x = k
    · subst e
      rw [atKey_put_same hn.isMap (isk _)]; simp [fput]
    · rw [atKey_put_other (fun he => e (inj _ _ he)), h.at_]; simp [fput, e]
  · intro x
    by_cases e : x = k
    · subst e
      rw [has_put_same hn.isMap (isk _)]; simp [fput]
    · rw [has_put_other (fun he => e (inj _ _ he)), h.has]; simp [fput, e]
theorem KM.drop [DecidableEq α] (K : Keyed Try.prog kt) (inj : ∀ a c : α, kl a = kl c → a = c) {t e : TypeId} (h : KM kt kl w b f D) (ht : Try.prog.underlying t = some (.map kt e)) {k : α} {v : Value} (hk : keyOf Try.prog kt v = some (kl k)) (ty : TypeId) :
    ∃ w', (Builtin.delete_ #[t, kt] ty #[.map (some b), v]).run Try.prog w = .ok (.tuple #[]) w' ∧ KM kt kl w' b (fput f k none) (D.del (kl k)) ∧ w.grownBy w' (some b) := by
  obtain ⟨n, hn⟩ := h.own
  obtain ⟨w', hr, ho, hg⟩ := hn.drop K ht hk ty
  refine ⟨w', hr, ⟨⟨_, ho⟩, ?_, ?_⟩, hg.grown⟩
  · intro x
    by_cases e : x = k
    · subst e
      rw [atKey_del_same]; simp [fput, ptrD]
    · rw [atKey_del_other (fun he => e (inj _ _ he)), h.at_]; simp [fput, e]
  · intro x
    by_cases e : x = k
    · subst e
      rw [has_del_same]; simp [fput]
    · rw [has_del_other (fun he => e (inj _ _ he)), h.has]; simp [fput, e]
theorem KM.size_put (K : Keyed Try.prog kt) (h : KM kt kl w b f D) (k : α) (d : DataW Unit) : Maps.size (D.put (kl k) d) = if (f k).isSome then Maps.size D else Maps.size D + 1 := by
  obtain ⟨n, hn⟩ := h.own
  rw [Maps.size_put (hn.tidy K), h.has]
theorem KM.size_del (K : Keyed Try.prog kt) (h : KM kt kl w b f D) (k : α) : Maps.size (D.del (kl k)) + (if (f k).isSome then 1 else 0) = Maps.size D := by
  obtain ⟨n, hn⟩ := h.own
  rw [← Maps.size_del (k := kl k) (hn.tidy K), h.has]
end
def kS (k : List UInt8) : Lit := .string k
def kI (k : Int) : Lit := .int .i64 k
abbrev PM := KM 9 kS
abbrev IM := KM 3 kI
theorem injS (a c : List UInt8) (h : kS a = kS c) : a = c := by simpa [kS] using h
theorem injI (a c : Int) (h : kI a = kI c) : a = c := by simpa [kI] using h
theorem iskS (k : List UInt8) : WideAt.IsKeyLit (kS k) := by trivial
theorem iskI (k : Int) : WideAt.IsKeyLit (kI k) := by trivial
section
variable {w : World} {ops : Array Oper} {rest : List Oper} {o : Oper} {a : Act} {Q : Exit → Act → World → Prop} {kt : TypeId} {α : Type} {kl : α → Lit} {b : Nat} {f : α → Option Nat} {D : DataW Unit}
theorem wpList_delete_km [DecidableEq α] (K : Keyed Try.prog kt) (inj : ∀ a c : α, kl a = kl c → a = c) (hg : o.guard = none) (m x : Operand) (t : TypeId) (hop : o.op = Op.call { callee := Callee.builtin Builtin.delete, args := #[m, x], argTypes := #[t, kt] })
    (e : TypeId) (ht : Try.prog.underlying t = some (.map kt e)) (hm : a.eval m = .map (some b)) (h : KM kt kl w b f D) {v : Value} (hx : a.eval x = v) {k : α} (hk : keyOf Try.prog kt v = some (kl k))
    (hK : ∀ w', KM kt kl w' b (fput f k none) (D.del (kl k)) → w.grownBy w' (some b) → wpList Try.prog ops Q rest (a.put o.dst (.tuple #[])) w') :
    wpList Try.prog ops Q (o :: rest) a w := by
  refine wpList_plain hg fun K' hK' => ?_
  obtain ⟨w', hrun, r1, r2⟩ := h.drop K inj ht hk o.type
  unfold Oper.wp
  simp [execOp, hop, resolve, invoke, builtin, hm, hx, hrun, Result.andThen]
  exact hK' _ _ (hK w' r1 r2)
theorem wpList_store_km [DecidableEq α] (K : Keyed Try.prog kt) (inj : ∀ a c : α, kl a = kl c → a = c) (isk : ∀ a : α, WideAt.IsKeyLit (kl a)) (hg : o.guard = none) (m x v : Operand) (t : TypeId) (hop : o.op = Op.mapUpdate t m x v)
    (e : TypeId) (ht : Try.prog.underlying t = some (.map kt e)) (hm : a.eval m = .map (some b)) (h : KM kt kl w b f D) (hsz : Maps.size D < maxLen) {y : Value} (hx : a.eval x = y) {k : α} (hk : keyOf Try.prog kt y = some (kl k)) (p : Nat) (hv : a.eval v = .pointer (some ⟨p, 0, none⟩))
    (hK : ∀ w', KM kt kl w' b (fput f k (some p)) (D.put (kl k) (ptrD (some p))) → w.grownBy w' (some b) → wpList Try.prog ops Q rest (a.put o.dst undef) w') :
    wpList Try.prog ops Q (o :: rest) a w := by
  refine wpList_plain hg fun K' hK' => ?_
  obtain ⟨w', hrun, r1, r2⟩ := h.store K inj isk hsz ht hk p
  unfold Oper.wp
  simp [execOp, hop, hm, hx, hv, hrun, Result.andThen]
  exact hK' _ _ (hK w' r1 r2)
theorem wpList_lookup_km (K : Keyed Try.prog kt) (hg : o.guard = none) (m x : Operand) (t : TypeId) (hop : o.op = Op.lookup t m x false)
    (e : TypeId) (ht : Try.prog.underlying t = some (.map kt e)) (hz : (zeroValue e).run Try.prog w = .ok (.pointer none) w) (hm : a.eval m = .map (some b)) (h : KM kt kl w b f D) {v : Value} (hx : a.eval x = v) {k : α} (hk : keyOf Try.prog kt v = some (kl k))
    (r : Option Nat) (hr : f k = r) (hK : wpList Try.prog ops Q rest (a.put o.dst (.pointer (pa r))) w) :
    wpList Try.prog ops Q (o :: rest) a w := by
  refine wpList_plain hg fun K' hK' => ?_
  have hrun := h.lookup K ht hz hk
  rw [hr] at hrun
  unfold Oper.wp
  simp [execOp, hop, hm, hx, hrun, Result.andThen]
  exact hK' _ _ hK
theorem wpList_lookok_km (K : Keyed Try.prog kt) (hg : o.guard = none) (m x : Operand) (t : TypeId) (hop : o.op = Op.lookup t m x true)
    (e : TypeId) (ht : Try.prog.underlying t = some (.map kt e)) (hz : (zeroValue e).run Try.prog w = .ok (.pointer none) w) (hm : a.eval m = .map (some b)) (h : KM kt kl w b f D) {v : Value} (hx : a.eval x = v) {k : α} (hk : keyOf Try.prog kt v = some (kl k))
    (r : Option Nat) (hr : f k = r) (hK : wpList Try.prog ops Q rest (a.put o.dst (.tuple #[.pointer (pa r), .bool r.isSome])) w) :
    wpList Try.prog ops Q (o :: rest) a w := by
  refine wpList_plain hg fun K' hK' => ?_
  have hrun := h.lookok K ht hz hk
  rw [hr] at hrun
  unfold Oper.wp
  simp [execOp, hop, hm, hx, hrun, Result.andThen]
  exact hK' _ _ hK
end
end Go.Proofs.Ytlkfabejecgfgaa
