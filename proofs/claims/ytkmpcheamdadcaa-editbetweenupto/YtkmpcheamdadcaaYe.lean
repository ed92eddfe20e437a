/-
  The reference's Apply: the version under way; cuts of slices of tables; two appends.
-/
import Derived.Test.YtkmpcheamdadcaaVp
import Derived.Test.YtkmpcheamdadcaaYa
namespace Go.Proofs.Ytkmpcheamdadcaa
open Go.RowKit
set_option linter.unusedVariables false
set_option linter.unusedSimpArgs false
/-- Where a slice of tables begins behind its first m. -/
def cutF (a : Option Addr) (cap m : Nat) : Option Addr := if cap = m then a else a.map (·.add (m * 10))
theorem elem38 : Try.prog.elem 38 = 50 := by kernel_rfl
theorem slc38 : Try.prog.underlying 38 = some (.slice (Try.prog.elem 38)) := by rw [elem38]; exact Try.underlying38
theorem size50 (W : World) : (sizeOf 50).run Try.prog W = .ok 10 W := by kernel_rfl
theorem cutF_run (a : Option Addr) (n cap m : Nat) (h : m ≤ n) (W : World) :
    (Instr.sliceAt 38 (.slice a n cap) (some (.int .i64 m)) none none).run Try.prog W = .ok (.slice (cutF a cap m) (n - m) (cap - m)) W := by
  have hr := run_slice_l (P := Try.prog) W 38 a n cap slc38 .i64 (m : Int) (by omega) (by omega)
  rw [elem38, size50] at hr
  simp only [Result.andThen, sliced, Int.toNat_natCast] at hr
  rw [run_sliceAt_slice _ _ _ _ _ _ slc38, hr]
  unfold cutF
  cases a <;> split <;> simp
theorem cutL_run (a : Option Addr) (n cap m : Nat) (h : m ≤ cap) (W : World) :
    (Instr.sliceAt 38 (.slice a n cap) none (some (.int .i64 m)) none).run Try.prog W = .ok (.slice a m cap) W := by
  have hr := run_slice_h (P := Try.prog) W 38 a n cap slc38 .i64 (m : Int) (by omega) (by omega)
  rw [elem38, size50] at hr
  simp only [Result.andThen, sliced, Int.toNat_natCast] at hr
  rw [run_sliceAt_slice _ _ _ _ _ _ slc38, hr]
  cases a <;> simp [Addr.add]
theorem rdf_cut {w : World} {a : Option Addr} {l : List Fi} (h : RdF w a l) {c m : Nat} (hl : l.length ≤ c) : RdF w (cutF a c m) (l.drop m) := by
  rcases h with rfl | ⟨g, o, rfl, hc⟩
  · exact .inl (by simp)
  · by_cases hm : c = m
    · left; rw [List.drop_eq_nil_of_le (by omega)]
    · right
      refine ⟨g, o + m * 10, by unfold cutF; rw [if_neg hm]; simp [add_at], fun j x hj => ?_⟩
      rw [List.getElem?_drop] at hj
      have := hc _ x hj
      rw [show o + m * 10 + j * 10 = o + (m + j) * 10 by omega]
      exact this
theorem rdf_take {w : World} {a : Option Addr} {l : List Fi} (h : RdF w a l) (m : Nat) : RdF w a (l.take m) := by
  rcases h with rfl | ⟨g, o, rfl, hc⟩
  · exact .inl (by simp)
  · right
    refine ⟨g, o, rfl, fun j x hj => ?_⟩
    rw [List.getElem?_take] at hj
    split at hj
    · exact hc j x hj
    · cases hj
theorem cutF_none {a : Option Addr} {c m : Nat} (h : cutF a c m = none) : a = none := by
  unfold cutF at h
  split at h
  · exact h
  · cases a <;> simp_all
theorem rowF0 (W : World) {b : Nat} (hb : b ≤ W.heap.size) : RowF (W.alloc (.cells #[] 50)) b (.slice (some ⟨W.heap.size, 0, none⟩) 0 0) [] := World.ownsRow_made (base := b) (e := 50) (size := 10) W #[] 0 hb (by unfold maxLen; omega) rfl
theorem row_al {w : World} {b : Nat} {v : Value} {l : List Fi} (h : RowF w b v l) (o : Obj) : RowF (w.alloc o) b v l := row_upd (S := Non) h (Upd.ofBelow (al1 _ _)) (fun _ _ h => h)
theorem step_app {v u : Value} {Rr : Value → World → Prop} {w : World} {ops : Array Oper} {o : Oper} {a : Act} {K : Act → World → Prop} {Q : Exit → Act → World → Prop} {Ex : Prop} (hgd : o.guard = none) {d : Nat} (hd : o.dst = some d) (s x : Operand)
    (ho : o.op = .call { callee := .builtin .append, args := #[s, x], argTypes := #[38, 38] }) (hs : a.eval s = v) (hx : a.eval x = u) (hrun : ∃ v' w', (Builtin.append_ #[38, 38] o.type #[v, u]).run Try.prog w = .ok v' w' ∧ Rr v' w')
    (hK : ∀ v' w', Rr v' w' → K (a.put (some d) v') w') :
    if Region.wanted o (yielded ops a.tmps) = true then Oper.wp Try.prog o a w K Q else Ex := by
  have hw : Region.wanted o (yielded ops a.tmps) = true := by simp [Region.wanted, hgd]
  rw [if_pos hw]
  obtain ⟨v', w', hr, h2⟩ := hrun
  unfold Oper.wp execOp
  simp only [ho, resolve, invoke, builtin, Sem.run_bind, Sem.run_pure, Result.andThen_ok, List.map_toArray, List.map_cons, List.map_nil, hs, hx, hr]
  have := hK v' w' h2
  rw [← hd] at this
  exact this
/-- What an append onto a row of one's own leaves. -/
def App (b : Nat) (l : List Fi) (n : Nat) (v0 : Value) (w : World) (v : Value) (w' : World) : Prop := ∃ a c, v = .slice a n c ∧ RowF w' b (.slice a n c) l ∧ n ≤ c ∧ Upd (fun k => v0.ownBlock = some k) w w' ∧ Below b w w'
theorem app_run {w : World} {b : Nat} {v : Value} {l0 l : List Fi} {n n' : Nat} (ho : RowF w b v l0) (hb : b ≤ w.heap.size) {a : Option Addr} {cap : Nat} (h : RdF w a l) (hn : a = none → cap = 0) (hl : (l0.length + l.length) * 96 ≤ 140737488355328) (hln : l.length = n) (hln' : (l0 ++ l).length = n') :
    ∃ v' w', (Builtin.append_ #[38, 38] 38 #[v, .slice a n cap]).run Try.prog w = .ok v' w' ∧ App b (l0 ++ l) n' v w v' w' := by
  subst hln hln'
  obtain ⟨v', w', hr, h2, h3⟩ := fcopy_run ho hb h hn hl
  obtain ⟨a', c', e, hc, _⟩ := row_rd fi_k h2
  subst e
  exact ⟨_, w', hr, a', c', rfl, h2, hc, h3, h3.below (fun k hk => Nat.lt_of_lt_of_le hk hb) (fun k hk => (row_blk ho k hk).1)⟩
theorem rowF_rdf {w : World} {b : Nat} {a : Option Addr} {n c : Nat} {l : List Fi} (h : RowF w b (.slice a n c) l) : RdF w a l ∧ (a = none → c = 0) := by
  obtain ⟨a', c', e, _, hr, _⟩ := row_rd fi_k h
  cases e
  exact ⟨hr, fun hn => by subst hn; exact row_nilc h⟩
/-- A list that reads lies in no box of a version. -/
theorem rdf_set {W : World} {X : Nat} {f : Nat → Value} (hB : Blk W X 41 (cells7 f)) (hf : ∀ i, ∃ a n c, f i = .slice a n c) {a : Option Addr} {l : List Fi} (h : RdF W a l) (i : Nat) (v : Value) : RdF (W.setCell ⟨X, i, none⟩ v) a l := by
  rcases h with rfl | ⟨g, o, rfl, hc⟩
  · exact .inl rfl
  · refine .inr ⟨g, o, rfl, fun j x hj k u hu => ?_⟩
    have h0 := (hc j x hj).f.1
    have hne : g ≠ X := by
      rintro rfl
      rw [hB.cell] at h0
      have h7 : o + j * 10 < 7 := by
        have := (List.getElem?_eq_some_iff.1 h0).1
        simpa using this
      rw [cells7_get _ _ h7] at h0
      obtain ⟨a, n, c, e⟩ := hf (o + j * 10)
      rw [e] at h0
      cases h0
    rw [World.cell?_setCell_other _ _ _ _ (by intro e; cases e; exact hne rfl)]
    exact hc j x hj k u hu
structure Qv (w W : World) (P : En) (e : Ed) (V : Vn) (L : Nat → List Fi) (N : Nat) : Prop where
  bel : Below w.heap.size w W
  box : Blk W w.heap.size 41 (cells7 (vsl V L))
  edb : Blk W (w.heap.size + 1) 27 (edA P e).toList
  res : Blk W (w.heap.size + 1 + 1) 41 (cells7 nil7)
  rd : ∀ i, i < 7 → RdF W (V.a i) (L i)
  nil : ∀ i, i < 7 → V.a i = none → V.c i = 0
  cap : ∀ i, i < 7 → (L i).length ≤ V.c i
  len : ∀ i, i < 7 → (L i).length ≤ N
  ok : ∀ i, i < 7 → ∀ f ∈ L i, FOk f
theorem Qv.below {w W W' : World} {P : En} {e : Ed} {V : Vn} {L : Nat → List Fi} {N : Nat} (h : Qv w W P e V L N) (hb : Below W.heap.size W W') : Qv w W' P e V L N :=
  ⟨bstep h.bel hb, h.box.upd (S := Non) (Upd.ofBelow hb) (fun h => h), h.edb.upd (S := Non) (Upd.ofBelow hb) (fun h => h), h.res.upd (S := Non) (Upd.ofBelow hb) (fun h => h), fun i hi => (h.rd i hi).below hb, h.nil, h.cap, h.len, h.ok⟩
theorem Qv.rdv {w W : World} {P : En} {e : Ed} {V : Vn} {L : Nat → List Fi} {N : Nat} (h : Qv w W P e V L N) (hN : N ≤ 1000000) : RdV W V L := ⟨h.rd, h.nil, fun i hi => by have := h.len i hi; omega, h.ok⟩
theorem Qv.put {w W W' : World} {P : En} {e : Ed} {V : Vn} {L : Nat → List Fi} {N N' n m : Nat} (h : Qv w W P e V L N) (hb : Below W.heap.size W W') (hn : n < 7) {a : Option Addr} {c : Nat} {l : List Fi} (hr : RdF W' a l) (hz : a = none → c = 0) (hm : l.length = m) (hc : l.length ≤ c)
    (hN : N ≤ N') (hl : l.length ≤ N') (hok : ∀ f ∈ l, FOk f) : ∃ V', Qv w (W'.setCell ⟨w.heap.size, n, none⟩ (.slice a m c)) P e V' (updL L n l) N' := by
  subst hm
  have h' := h.below hb
  have hf : ∀ i, ∃ a n c, vsl V L i = .slice a n c := fun i => ⟨_, _, _, rfl⟩
  have U : Upd (fun k => k = w.heap.size) W' (W'.setCell ⟨w.heap.size, n, none⟩ (.slice a l.length c)) := Upd.setCell (p := ⟨w.heap.size, n, none⟩) (Upd.refl (fun k => k = w.heap.size) _) (fun _ => rfl) _
  let V' : Vn := ⟨fun i => if i = n then a else V.a i, fun i => if i = n then c else V.c i⟩
  have eN : vsl V' (updL L n l) n = .slice a l.length c := by show Value.slice (if n = n then a else _) _ (if n = n then c else _) = _; rw [if_pos rfl, if_pos rfl, updL_same]
  have eO : ∀ i, i ≠ n → vsl V' (updL L n l) i = vsl V L i := fun i hi => by show Value.slice (if i = n then a else _) _ (if i = n then c else _) = _; rw [if_neg hi, if_neg hi, updL_other _ _ hi]
  refine ⟨V', Upd.bel h'.bel U (fun j hj => by omega) h'.bel.size, ?_, h'.edb.upd U (by omega), h'.res.upd U (by omega), fun i hi => ?_, fun i hi => ?_, fun i hi => ?_, fun i hi => ?_, fun i hi f hf => ?_⟩
  · have := h'.box.set n (.slice a l.length c)
    rw [cells7_set _ n hn] at this
    rw [cells7_congr (g := fun i => if i = n then .slice a l.length c else vsl V L i)]
    · exact this
    · intro i hi
      by_cases ei : i = n
      · subst ei; rw [if_pos rfl, eN]
      · rw [if_neg ei, eO i ei]
  · by_cases ei : i = n
    · subst ei
      show RdF _ (if i = i then a else _) _
      rw [if_pos rfl, updL_same]
      exact rdf_set h'.box hf hr _ _
    · show RdF _ (if i = n then a else _) _
      rw [if_neg ei, updL_other _ _ ei]
      exact rdf_set h'.box hf (h'.rd i hi) _ _
  · show (if i = n then a else _) = none → (if i = n then c else _) = 0
    by_cases ei : i = n
    · rw [if_pos ei, if_pos ei]; exact hz
    · rw [if_neg ei, if_neg ei]; exact h.nil i hi
  · show _ ≤ (if i = n then c else _)
    by_cases ei : i = n
    · subst ei; rw [if_pos rfl, updL_same]; exact hc
    · rw [if_neg ei, updL_other _ _ ei]; exact h.cap i hi
  · by_cases ei : i = n
    · subst ei; rw [updL_same]; exact hl
    · rw [updL_other _ _ ei]; have := h.len i hi; omega
  · by_cases ei : i = n
    · subst ei; rw [updL_same] at hf; exact hok f hf
    · rw [updL_other _ _ ei] at hf; exact h.ok i hi f hf
/-- What the reference's Apply leaves. -/
def RApp (w : World) (r : Int × (Nat → List Fi)) (en : Ending) (w' : World) : Prop :=
  ∃ V', en = .returned (.tuple #[.agg (verA V' r.2), .int .i64 r.1]) ∧ RdV w' V' r.2 ∧ Below w.heap.size w w'
theorem AppPost.r {w : World} {r : Int × (Nat → List Fi)} {en : Ending} {w' : World} (h : AppPost w r en w') : RApp w r en w' := by
  obtain ⟨V', h1, _, h3, h4⟩ := h
  exact ⟨V', h1, h3, h4⟩
end Go.Proofs.Ytkmpcheamdadcaa
