import Derived.WalkKit
import Derived.Deep.AppendSrc
import Derived.Laws.IdiomStrings
import Derived.Laws.IdiomCopy
import Derived.Deep.Upon
import Derived.RegionTactic
namespace Go.Proofs.Ytkmpcheamdadcaa
open Go.RowKit
set_option linter.unusedVariables false

/-- Bytes as cells. -/
def bc (l : List Int) : List Value := l.map (Value.int .u8)
theorem bc_len (l : List Int) : (bc l).length = l.length := by simp [bc]
theorem bc_app (l m : List Int) : bc (l ++ m) = bc l ++ bc m := by simp [bc]
theorem bc_get (l : List Int) (j : Nat) (u : Value) (h : (bc l)[j]? = some u) : ∃ h' : j < l.length, u = .int .u8 l[j] := by
  obtain ⟨h1, h2⟩ := List.getElem?_eq_some_iff.1 h
  have h1' : j < l.length := by simpa [bc] using h1
  exact ⟨h1', by rw [← h2]; simp [bc]⟩
theorem bc_one (l : List Int) : ∀ u ∈ bc l, u.oneCell' = true := by
  intro u hu
  obtain ⟨_, _, rfl⟩ := List.mem_map.1 hu
  rfl

/-- A slice of bytes in memory of the call's own (blocks from 'base' on): it reads as l; what is spare behind it may be written. -/
def OwnB (w : World) (base : Nat) (v : Value) (l : List Int) : Prop :=
  (v = .slice none 0 0 ∧ l = []) ∨
  ∃ b off cap, v = .slice (some ⟨b, off, none⟩) l.length cap ∧ base ≤ b ∧ b < w.heap.size ∧ l.length ≤ cap ∧ cap ≤ maxLen ∧
    (∀ j, (h : j < l.length) → w.cell? ⟨b, off + j, none⟩ = some (.int .u8 l[j])) ∧
    (∀ j, l.length ≤ j → j < cap → (w.cell? ⟨b, off + j, none⟩).isSome = true ∧ w.frozen? ⟨b, off + j, none⟩ = false)

theorem OwnB.nil (w : World) (base : Nat) : OwnB w base (.slice none 0 0) [] := .inl ⟨rfl, rfl⟩
theorem OwnB.lt {w : World} {base : Nat} {v : Value} {l : List Int} (h : OwnB w base v l) : ∀ k, v.ownBlock = some k → base ≤ k ∧ k < w.heap.size := by
  rcases h with ⟨rfl, rfl⟩ | ⟨b, off, cap, rfl, hb, hlt, _⟩
  · intro k hk; simp [Value.ownBlock] at hk
  · intro k hk; simp [Value.ownBlock] at hk; subst hk; exact ⟨hb, hlt⟩
theorem OwnB.mono {w : World} {base base' : Nat} {v : Value} {l : List Int} (h : OwnB w base v l) (hb : base' ≤ base) : OwnB w base' v l := by
  rcases h with ⟨rfl, rfl⟩ | ⟨b, off, cap, rfl, h1, h2⟩
  · exact .inl ⟨rfl, rfl⟩
  · exact .inr ⟨b, off, cap, rfl, by omega, h2⟩
/-- In a world that is the same at its block. -/
theorem OwnB.same {w w' : World} {base : Nat} {v : Value} {l : List Int} (h : OwnB w base v l) (hs : w.heap.size ≤ w'.heap.size)
    (hk : ∀ k, v.ownBlock = some k → w'.heap[k]? = w.heap[k]?) : OwnB w' base v l := by
  rcases h with ⟨rfl, rfl⟩ | ⟨b, off, cap, rfl, h1, h2, h3, h4, h5, h6⟩
  · exact .inl ⟨rfl, rfl⟩
  · have e := hk b rfl
    refine .inr ⟨b, off, cap, rfl, h1, by omega, h3, h4, ?_, ?_⟩
    · intro j hj; rw [World.cell?_of_block (a := ⟨b, off + j, none⟩) e]; exact h5 j hj
    · intro j hj hj'; rw [World.cell?_of_block (a := ⟨b, off + j, none⟩) e, World.frozen?_of_block (a := ⟨b, off + j, none⟩) e]; exact h6 j hj hj'
theorem OwnB.grown {w w' : World} {base : Nat} {v : Value} {l : List Int} {row : Option Nat} (h : OwnB w base v l) (hg : w.grownBy w' row)
    (hne : ∀ k, v.ownBlock = some k → row ≠ some k) : OwnB w' base v l :=
  h.same hg.size fun k hk => hg.block k (h.lt k hk).2 (Ne.symm (hne k hk))
theorem OwnB.alloc {w : World} {base : Nat} {v : Value} {l : List Int} (h : OwnB w base v l) (o : Obj) : OwnB (w.alloc o) base v l :=
  h.same (by simp) fun k hk => Below.heap_alloc w o k (h.lt k hk).2
theorem OwnB.drew {w : World} {base : Nat} {v : Value} {l : List Int} (h : OwnB w base v l) : OwnB w.drew base v l :=
  h.same (by simp) fun k hk => rfl
theorem OwnB.below {w w' : World} {base B : Nat} {v : Value} {l : List Int} (h : OwnB w base v l) (hb : Below B w w') (hB : w.heap.size ≤ B) : OwnB w' base v l :=
  h.same hb.size fun k hk => hb.block k (by have := (h.lt k hk).2; omega)
/-- A new block whose cells are these bytes and a rest that is not marked. -/
theorem OwnB.ofBlock (w : World) (base : Nat) (l : List Int) (rest : List Value) (cs : Array Value) (fr : Nat × Nat) (hcs : cs = (bc l ++ rest).toArray) (hb : base ≤ w.heap.size)
    (hfr : fr = (0, 0) ∨ fr.1 = cs.size) (hm : l.length + rest.length ≤ maxLen) (cap : Nat) (hcap : cap = l.length + rest.length) :
    OwnB (w.alloc (.cells cs 5 fr)) base (.slice (some ⟨w.heap.size, 0, none⟩) l.length cap) l := by
  subst hcap
  have hs : cs.size = l.length + rest.length := by rw [hcs]; simp [bc]
  refine .inr ⟨w.heap.size, 0, _, rfl, hb, by simp, by omega, hm, ?_, ?_⟩
  · intro j hj
    rw [Nat.zero_add, World.cell?_alloc_mark, hcs]
    simp [bc, List.getElem?_append, hj]
  · intro j hj hj'
    obtain ⟨lo, hi⟩ := fr
    rw [Nat.zero_add, World.cell?_alloc_mark, World.frozen?_alloc_mark]
    refine ⟨by rw [Array.getElem?_eq_getElem (by omega)]; rfl, ?_⟩
    rcases hfr with h | h
    · simp at h; obtain ⟨rfl, rfl⟩ := h; simp
    · have h' : lo = cs.size := h
      simp; omega
theorem OwnB.cells {w : World} {base b off cap n : Nat} {l : List Int} (h : OwnB w base (.slice (some ⟨b, off, none⟩) n cap) l) : n = l.length ∧ base ≤ b ∧ b < w.heap.size ∧ l.length ≤ maxLen ∧ ∀ j, (h : j < l.length) → w.cell? ⟨b, off + j, none⟩ = some (.int .u8 l[j]) := by
  rcases h with ⟨h, _⟩ | ⟨b', off', cap', hv, h1, h2, h3, h4, h5, h6⟩
  · cases h
  · cases hv; exact ⟨rfl, h1, h2, by omega, h5⟩
theorem OwnB.form {w : World} {base : Nat} {v : Value} {l : List Int} (h : OwnB w base v l) (hl : 0 < l.length) : ∃ b off cap, v = .slice (some ⟨b, off, none⟩) l.length cap := by
  rcases h with ⟨_, rfl⟩ | ⟨b, off, cap, hv, _⟩
  · simp at hl
  · exact ⟨b, off, cap, hv⟩
theorem OwnB.news {w : World} {base b off cap n : Nat} {l : List Int} (h : OwnB w base (.slice (some ⟨b, off, none⟩) n cap) l) : ∀ j u, (bc l)[j]? = some u → w.cell? ((⟨b, off, none⟩ : Addr).add j) = some u := by
  intro j u hu
  obtain ⟨hj, rfl⟩ := bc_get l j u hu
  have e : (⟨b, off, none⟩ : Addr).add j = ⟨b, off + j, none⟩ := by unfold Addr.add; split <;> simp_all
  rw [e]; exact h.cells.2.2.2.2 j hj

section
variable {P : Program}
/-- append onto such a slice: another such slice. -/
theorem OwnB.run_append {w : World} {base : Nat} {v : Value} {l : List Int} (h : OwnB w base v l) (t tx ty : TypeId) (i : TypeInfo) (ht : P.underlying t = some (.slice 5)) (hi : P.info? 5 = some i)
    (hz : i.zero = some (.int .u8 0)) (hsize : i.size = 1) (hby : i.bytes = 1) (x : Value) (m : List Int) (hs : Src P 1 tx x m.length (bc m) w) (hbase : base ≤ w.heap.size)
    (hb : l.length + m.length ≤ 140737488355328) :
    ∃ v' w', (Builtin.append_ #[t, tx] ty #[v, x]).run P w = .ok v' w' ∧ OwnB w' base v' (l ++ m) ∧ w.grownBy w' v.ownBlock ∧ (v'.ownBlock = v.ownBlock ∨ v'.ownBlock = some w.heap.size) := by
  have hmx : l.length + m.length ≤ maxLen := by unfold maxLen; omega
  rw [← hsize] at hs
  have grow : ∀ (bs : Option Addr) (cap : Nat), cap < l.length + m.length → (Builtin.firstCells i.size l.length (.slice bs l.length cap)).run P w.drew = .ok (bc l).toArray w.drew →
      ∃ v' w', (Builtin.append_ #[t, tx] ty #[.slice bs l.length cap, x]).run P w = .ok v' w' ∧ OwnB w' base v' (l ++ m) ∧ (∀ row, w.grownBy w' row) ∧ v'.ownBlock = some w.heap.size := by
    intro bs cap hcap hold
    have hr := run_append_grow_src (P := P) w t tx ty 5 i (.int .u8 0) ht hi hz bs l.length cap (bc l) hold x m.length (bc m) hs hcap (by omega) (growslice_fits hcap (by rw [hby]; omega))
    have hge := grownCap_ge w (l.length + m.length) cap 5
    have hcm : grownCap w (l.length + m.length) cap 5 ≤ maxLen := grownCap_le_maxLen w (l.length + m.length) cap 5 hmx
    refine ⟨_, _, hr, ?_, fun row => ⟨rfl, rfl, rfl, by simp, fun k hk _ => Below.heap_alloc w.drew _ k hk⟩, rfl⟩
    have e : l.length + m.length = (l ++ m).length := by simp
    rw [e] at hge hcm ⊢
    have hzl : (Builtin.zeroCells (Value.int .u8 0).cells (grownCap w (l ++ m).length cap 5 - (l ++ m).length)).toList.length = grownCap w (l ++ m).length cap 5 - (l ++ m).length := by
      rw [Array.length_toList (xs := Builtin.zeroCells (Value.int .u8 0).cells (grownCap w (l ++ m).length cap 5 - (l ++ m).length)), size_zeroCells]
      exact Nat.mul_one _
    refine OwnB.ofBlock w.drew base (l ++ m) (Builtin.zeroCells (Value.int .u8 0).cells (grownCap w (l ++ m).length cap 5 - (l ++ m).length)).toList _ (0, 0) ?_ hbase (.inl rfl) ?_ _ ?_
    · rw [bc_app, ← List.toArray_appendList]
      simp
    · rw [hzl]; omega
    · rw [hzl]; omega
  rcases h with ⟨rfl, rfl⟩ | ⟨b, off, cap, rfl, h1, h2, h3, h4, h5, h6⟩
  · by_cases hm : m.length = 0
    · have hm' : m = [] := List.eq_nil_of_length_eq_zero hm
      subst hm'
      have hr := run_append_nothing (P := P) w t tx ty 5 i ht hi none 0 0
      refine ⟨.slice none 0 0, w, ?_, .inl ⟨rfl, rfl⟩, ⟨rfl, rfl, rfl, Nat.le_refl _, fun _ _ _ => rfl⟩, .inl rfl⟩
      exact hr (Nat.le_refl 0) x hs
    · obtain ⟨v', w', hr, ho, hg, hv⟩ := grow none 0 (by simp; omega) (by simpa [bc] using run_firstCells_none (P := P) w.drew i.size 0 0 0)
      exact ⟨v', w', hr, ho, hg _, .inr hv⟩
  · by_cases hroom : l.length + m.length ≤ cap
    · have hr := run_append_room_src (P := P) w t tx ty 5 i ht hi b off l.length cap x m.length (bc m) hs hroom
        (by intro j hj; rw [bc_len] at hj; rw [hsize, Nat.mul_one, Nat.add_assoc]; exact (h6 (l.length + j) (by omega) (by omega)).1)
        (by intro j hj; rw [bc_len] at hj; rw [hsize, Nat.mul_one, Nat.add_assoc]; exact (h6 (l.length + j) (by omega) (by omega)).2)
      rw [hsize, Nat.mul_one] at hr
      refine ⟨_, _, hr, ?_, ⟨World.os_setCells w b _ _, ?_, World.output_setCells w b _ _, ?_, ?_⟩, .inl rfl⟩
      · refine .inr ⟨b, off, cap, by rw [List.length_append], h1, ?_, by simpa using hroom, h4, ?_, ?_⟩
        · have : (w.setCells b (off + l.length) (bc m)).heap.size = w.heap.size := by
            have hh : ∀ (vs : List Value) (o : Nat) (w : World), (w.setCells b o vs).heap.size = w.heap.size := by
              intro vs; induction vs with
              | nil => intro o w; rfl
              | cons v r ih => intro o w; show ((w.setCell _ v).setCells b (o + 1) r).heap.size = _; rw [ih]; simp
            exact hh _ _ _
          omega
        · intro j hj
          by_cases hjl : j < l.length
          · rw [World.cell?_setCells_out b (bc m) (off + l.length) w ⟨b, off + j, none⟩ (fun _ _ => .inl (by simp; omega)), h5 j hjl, List.getElem_append_left hjl]
          · have hjm : j - l.length < (bc m).length := by rw [bc_len]; simp at hj; omega
            have hin := World.cell?_setCells_in b (bc m) (off + l.length) w (by
              intro j hj; rw [bc_len] at hj; rw [Nat.add_assoc]; exact (h6 (l.length + j) (by omega) (by omega)).1) (j - l.length) hjm
            have e : off + l.length + (j - l.length) = off + j := by omega
            rw [e] at hin
            rw [hin, List.getElem_append_right (by omega)]
            simp [bc]
        · intro j hj hj'
          rw [List.length_append] at hj
          rw [World.cell?_setCells_out b (bc m) (off + l.length) w ⟨b, off + j, none⟩ (fun _ _ => .inr (by rw [bc_len]; simp; omega)), World.frozen?_setCells]
          exact h6 j (by omega) hj'
      · have hh : ∀ (vs : List Value) (o : Nat) (w : World), (w.setCells b o vs).tape = w.tape := by
          intro vs; induction vs with
          | nil => intro o w; rfl
          | cons v r ih => intro o w; show ((w.setCell _ v).setCells b (o + 1) r).tape = _; rw [ih]; rfl
        exact hh _ _ _
      · have hh : ∀ (vs : List Value) (o : Nat) (w : World), (w.setCells b o vs).heap.size = w.heap.size := by
          intro vs; induction vs with
          | nil => intro o w; rfl
          | cons v r ih => intro o w; show ((w.setCell _ v).setCells b (o + 1) r).heap.size = _; rw [ih]; simp
        rw [hh]; exact Nat.le_refl _
      · intro k hk hne
        exact World.heap_setCells_other w b _ _ hk (fun e => hne (by rw [e]; rfl))
    · obtain ⟨v', w', hr, ho, hg, hv⟩ := grow (some ⟨b, off, none⟩) cap (by omega) (by
        refine run_firstCells_some (P := P) w.drew i.size l.length ⟨b, off, none⟩ l.length cap (bc l) (by rw [bc_len, hsize, Nat.mul_one]) ?_
        intro j u hu
        obtain ⟨hj, rfl⟩ := bc_get l j u hu
        have e : (⟨b, off, none⟩ : Addr).add j = ⟨b, off + j, none⟩ := by unfold Addr.add; split <;> simp_all
        rw [e]; exact h5 j hj)
      exact ⟨v', w', hr, ho, hg _, .inr hv⟩

/-- At the operation. -/
theorem OwnB.wp_append {w : World} {base : Nat} {v : Value} {l : List Int} {o : Oper} {a : Act} {K : Act → World → Prop} {Q : Exit → Act → World → Prop} (s x : Operand) (t tx : TypeId)
    (ho : o.op = .call { callee := .builtin .append, args := #[s, x], argTypes := #[t, tx] }) (hs : a.eval s = v) (h : OwnB w base v l) (i : TypeInfo) (ht : P.underlying t = some (.slice 5)) (hi : P.info? 5 = some i)
    (hz : i.zero = some (.int .u8 0)) (hsize : i.size = 1) (hby : i.bytes = 1) (xv : Value) (hx : a.eval x = xv) (m : List Int) (hsrc : Src P 1 tx xv m.length (bc m) w) (hbase : base ≤ w.heap.size)
    (hb : l.length + m.length ≤ 140737488355328)
    (hK : ∀ v' w', OwnB w' base v' (l ++ m) → w.grownBy w' v.ownBlock → (v'.ownBlock = v.ownBlock ∨ v'.ownBlock = some w.heap.size) → K (a.put o.dst v') w') : o.wp P a w K Q := by
  obtain ⟨v', w', hr, h2, h3, h4⟩ := h.run_append (P := P) t tx o.type i ht hi hz hsize hby xv m hsrc hbase hb
  unfold Oper.wp execOp
  simp only [ho, resolve, invoke, builtin, Sem.run_bind, Sem.run_pure, Result.andThen_ok, List.map_toArray, List.map_cons, List.map_nil, hs, hx, hr]
  exact hK v' w' h2 h3 h4
/-- At a plain region's list. -/
theorem OwnB.wpList_append {w : World} {base : Nat} {v : Value} {l : List Int} {ops : Array Oper} {rest : List Oper} {o : Oper} {a : Act} {Q : Exit → Act → World → Prop} (hgd : o.guard = none) (s x : Operand) (t tx : TypeId)
    (ho : o.op = .call { callee := .builtin .append, args := #[s, x], argTypes := #[t, tx] }) (hs : a.eval s = v) (h : OwnB w base v l) (i : TypeInfo) (ht : P.underlying t = some (.slice 5)) (hi : P.info? 5 = some i)
    (hz : i.zero = some (.int .u8 0)) (hsize : i.size = 1) (hby : i.bytes = 1) (xv : Value) (hx : a.eval x = xv) (m : List Int) (hsrc : Src P 1 tx xv m.length (bc m) w) (hbase : base ≤ w.heap.size)
    (hb : l.length + m.length ≤ 140737488355328)
    (hK : ∀ v' w', OwnB w' base v' (l ++ m) → w.grownBy w' v.ownBlock → (v'.ownBlock = v.ownBlock ∨ v'.ownBlock = some w.heap.size) → wpList P ops Q rest (a.put o.dst v') w') : wpList P ops Q (o :: rest) a w :=
  wpList_plain hgd fun _ hKK => OwnB.wp_append s x t tx ho hs h i ht hi hz hsize hby xv hx m hsrc hbase hb fun v' w' h2 h3 h4 => hKK _ _ (hK v' w' h2 h3 h4)
/-- At a step of a region that draws its order. -/
theorem OwnB.step_append {w : World} {base : Nat} {v : Value} {l : List Int} {ops : Array Oper} {o : Oper} {a : Act} {K : Act → World → Prop} {Q : Exit → Act → World → Prop} {E : Prop} (hgd : o.guard = none) (s x : Operand) (t tx : TypeId)
    (ho : o.op = .call { callee := .builtin .append, args := #[s, x], argTypes := #[t, tx] }) (hs : a.eval s = v) (h : OwnB w base v l) (i : TypeInfo) (ht : P.underlying t = some (.slice 5)) (hi : P.info? 5 = some i)
    (hz : i.zero = some (.int .u8 0)) (hsize : i.size = 1) (hby : i.bytes = 1) (xv : Value) (hx : a.eval x = xv) (m : List Int) (hsrc : Src P 1 tx xv m.length (bc m) w) (hbase : base ≤ w.heap.size)
    (hb : l.length + m.length ≤ 140737488355328)
    (hK : ∀ v' w', OwnB w' base v' (l ++ m) → w.grownBy w' v.ownBlock → (v'.ownBlock = v.ownBlock ∨ v'.ownBlock = some w.heap.size) → K (a.put o.dst v') w') :
    if Region.wanted o (yielded ops a.tmps) = true then Oper.wp P o a w K Q else E := by
  have hw : Region.wanted o (yielded ops a.tmps) = true := by simp [Region.wanted, hgd]
  rw [if_pos hw]
  exact OwnB.wp_append s x t tx ho hs h i ht hi hz hsize hby xv hx m hsrc hbase hb hK

/-- The string of bytes. -/
def bstr (l : List Int) : ByteArray := l.foldl (fun r n => r.push (UInt8.ofNat n.toNat)) ByteArray.empty
theorem run_string_at (w : World) (t s : TypeId) (ht : P.underlying t = some (.slice 5)) (h5 : P.underlying 5 = some (.int .u8)) (hd : P.underlying s = some .string) (b off cap : Nat) (l : List Int)
    (hc : ∀ j, (h : j < l.length) → w.cell? ⟨b, off + j, none⟩ = some (.int .u8 l[j])) :
    (convert t s (.slice (some ⟨b, off, none⟩) l.length cap)).run P w = .ok (.string (bstr l)) w := by
  rw [run_convert_bytes_string w t s 5 _ _ _ ht h5 hd]
  refine run_bytesToString w ⟨b, off, none⟩ l.length cap l ?_
  have hl := run_loadCells_list (P := P) w ⟨b, off, none⟩ (bc l) (by
    intro j u hu
    obtain ⟨hj, rfl⟩ := bc_get l j u hu
    have e : (⟨b, off, none⟩ : Addr).add j = ⟨b, off + j, none⟩ := by unfold Addr.add; split <;> simp_all
    rw [e]; exact hc j hj)
  rw [bc_len] at hl
  exact hl
theorem OwnB.run_string {w : World} {base : Nat} {v : Value} {l : List Int} (h : OwnB w base v l) (t s : TypeId) (ht : P.underlying t = some (.slice 5)) (h5 : P.underlying 5 = some (.int .u8)) (hd : P.underlying s = some .string) :
    (convert t s v).run P w = .ok (.string (bstr l)) w := by
  rcases h with ⟨rfl, rfl⟩ | ⟨b, off, cap, rfl, _, _, _, _, h5', _⟩
  · rw [run_convert_bytes_string w t s 5 _ _ _ ht h5 hd]
    simp [Conv.bytesToString, bstr]
  · exact run_string_at w t s ht h5 hd b off cap l h5'
/-- The bytes of a string. -/
def sb (s : ByteArray) : List Int := s.data.toList.map fun c => (c.toNat : Int)
theorem sb_len (s : ByteArray) : (sb s).length = s.size := by simp [sb]
theorem bytesRow_sb (s : ByteArray) (cap : Nat) : bytesRow s cap = (bc (sb s) ++ List.replicate (cap - s.size) (Value.int .u8 0)).toArray := by
  apply Array.ext'
  simp [bytesRow, bc, sb, List.map_map]
/-- The slice that a string becomes. -/
theorem OwnB.ofString (w : World) (base : Nat) (s : ByteArray) (hb : base ≤ w.heap.size) (hs : s.size ≤ maxLen) :
    OwnB (w.drew.alloc (.cells (bytesRow s (grownCap w s.size 0 5)) 5 ((bytesRow s (grownCap w s.size 0 5)).size, (bytesRow s (grownCap w s.size 0 5)).size + 1))) base (.slice (some ⟨w.heap.size, 0, none⟩) s.size (grownCap w s.size 0 5)) (sb s) := by
  have hge := grownCap_ge w s.size 0 5
  have hcm : grownCap w s.size 0 5 ≤ maxLen := grownCap_le_maxLen w s.size 0 5 hs
  have := OwnB.ofBlock w.drew base (sb s) (List.replicate (grownCap w s.size 0 5 - s.size) (Value.int .u8 0)) _ ((bytesRow s (grownCap w s.size 0 5)).size, (bytesRow s (grownCap w s.size 0 5)).size + 1) (bytesRow_sb s _) hb (.inr rfl) (by rw [sb_len]; simp; omega) (grownCap w s.size 0 5) (by rw [sb_len]; simp; omega)
  rw [sb_len] at this
  exact this
end
end Go.Proofs.Ytkmpcheamdadcaa
