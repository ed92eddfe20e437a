import Derived.Test.YtjnlolibfcpbkaaDoorG
import Derived.Deep.RegionHeldLaw
import Derived.Deep.DeepCutAuto
namespace Go.Proofs.YtjnlolibfcpbkaaDoor
open Go.RowKit Go.Maps
set_option linter.unusedVariables false
set_option linter.unusedSimpArgs false
/-- A record that lies apart from what is still written. -/
def Lies (w : World) (rb : Nat) (rv lv v : Value) (l : List Int) : Prop :=
  ∃ ra cp, v = .slice ra l.length cp ∧ Arg w ra l.length cp l ∧ (l = [] ∨ ∃ B off, ra = some ⟨B, off, none⟩ ∧ rv.ownBlock ≠ some B ∧ lv.ownBlock ≠ some B ∧ B ≠ rb)
/-- The reader in block rb stands at s. -/
structure Rd (w : World) (base rb : Nat) (bv : Value) (log : Int) (rc : Bool) (sol : Nat) (s : St) (rv lv : Value) (svs : List Value) : Prop where
  blk : Blk w rb 44 (rdC bv log rc sol s.at_ s.op rv lv s.en)
  own : OwnB w base rv s.now
  row : w.ownsRow base 22 1 lv s.recs.length svs
  rds : ∀ (i : Nat) (l : List Int), s.recs[i]? = some l → ∃ v, svs[i]? = some v ∧ Lies w rb rv lv v l
  rvb : rv.ownBlock ≠ some rb
  rvl : ∀ k, lv.ownBlock = some k → rv.ownBlock ≠ some k
  bas : base ≤ rb
  siz : base ≤ w.heap.size
  byt : Byt s.now
/-- The blocks that the reader turns. -/
def RS (rb : Nat) (rv lv : Value) : Nat → Prop := fun k => k = rb ∨ rv.ownBlock = some k ∨ lv.ownBlock = some k
theorem Arg.upd {S : Nat → Prop} {w w' : World} {a : Option Addr} {len cap : Nat} {l : List Int} (h : Arg w a len cap l) (u : Upd S w w') (hS : ∀ B off, a = some ⟨B, off, none⟩ → l ≠ [] → ¬ S B) : Arg w' a len cap l := by
  obtain ⟨h1, h2, h3, h4⟩ := h
  refine ⟨h1, h2, h3, ?_⟩
  by_cases hn : l = []
  · exact .inl hn
  rcases h4 with h4 | ⟨b, off, ha, hlt, hc⟩
  · exact .inl h4
  · refine .inr ⟨b, off, ha, Nat.lt_of_lt_of_le hlt u.size, fun j hj => ?_⟩
    exact (World.cell?_of_block (a := ⟨b, off + j, none⟩) (u.block b hlt (hS b off ha hn))).trans (hc j hj)
theorem Lies.upd {S : Nat → Prop} {w w' : World} {rb : Nat} {rv lv v : Value} {l : List Int} (h : Lies w rb rv lv v l) (u : Upd S w w') (hS : ∀ B, rv.ownBlock ≠ some B → lv.ownBlock ≠ some B → B ≠ rb → ¬ S B) : Lies w' rb rv lv v l := by
  obtain ⟨ra, cp, rfl, hA, hd⟩ := h
  refine ⟨ra, cp, rfl, hA.upd u ?_, hd⟩
  intro B off e hn
  rcases hd with rfl | ⟨B', off', e', h1, h2, h3⟩
  · exact absurd rfl hn
  · rw [e] at e'; cases e'; exact hS B h1 h2 h3
theorem Rd.below {w w' : World} {base rb : Nat} {bv : Value} {log : Int} {rc : Bool} {sol : Nat} {s : St} {rv lv : Value} {svs : List Value} (h : Rd w base rb bv log rc sol s rv lv svs) (u : Below w.heap.size w w') : Rd w' base rb bv log rc sol s rv lv svs :=
  ⟨h.blk.upd (S := Non) (Upd.ofBelow u) (fun h => h), h.own.below u (Nat.le_refl _), row_upd h.row (Upd.ofBelow (S := Non) u) (fun _ _ h => h), fun i l hl => (by
    obtain ⟨v, hv, hL⟩ := h.rds i l hl
    exact ⟨v, hv, hL.upd (S := Non) (Upd.ofBelow u) (fun _ _ _ _ h => h)⟩), h.rvb, h.rvl, h.bas, Nat.le_trans h.siz u.size, h.byt⟩
theorem Rd.lvb {w : World} {base rb : Nat} {bv : Value} {log : Int} {rc : Bool} {sol : Nat} {s : St} {rv lv : Value} {svs : List Value} (h : Rd w base rb bv log rc sol s rv lv svs) : ∀ k, lv.ownBlock = some k → k ≠ rb := row_ne h.row h.blk (by decide)
/-- The reader's own cells are turned. -/
theorem Rd.set {w w' : World} {base rb : Nat} {bv : Value} {log : Int} {rc : Bool} {sol : Nat} {s : St} {rv lv : Value} {svs : List Value} (h : Rd w base rb bv log rc sol s rv lv svs) (u : Upd (fun k => k = rb) w w') {a' : Nat} {o' : Bool} {e' : Nat} (hb : Blk w' rb 44 (rdC bv log rc sol a' o' rv lv e')) : Rd w' base rb bv log rc sol { s with at_ := a', op := o', en := e' } rv lv svs :=
  ⟨hb, h.own.same u.size (fun k hk => u.block k (h.own.lt k hk).2 (fun e => h.rvb (by rw [← e]; exact hk))), row_upd h.row u (fun k hk => h.lvb k hk), fun i l hl => (by
    obtain ⟨v, hv, hL⟩ := h.rds i l hl
    exact ⟨v, hv, hL.upd u (fun B _ _ hB => hB)⟩), h.rvb, h.rvl, h.bas, Nat.le_trans h.siz u.size, h.byt⟩
theorem step_call28 {ops : Array Oper} {o : Oper} {a : Act} {w : World} {K : Act → World → Prop} {Q : Exit → Act → World → Prop} {Ex : Prop} (hgd : o.guard = none) {d : Nat} (hd' : o.dst = some d) (x : Operand) (ts : Array TypeId)
    (ho : o.op = .call { callee := .value (.func 28), args := #[x], argTypes := ts }) (u : Value) (hx : a.eval x = u) {R : Ending → World → Prop} (hc : Calls Tryd.prog 28 #[u] w R)
    (h : ∀ e w', R e w' → ∃ r, e = .returned r ∧ K (a.put (some d) r) w') :
    if Region.wanted o (yielded ops a.tmps) = true then Oper.wp Tryd.prog o a w K Q else Ex := by
  have hw : Region.wanted o (yielded ops a.tmps) = true := by simp [Region.wanted, hgd]
  rw [if_pos hw]
  have he := enters_of (P := Tryd.prog) Tryd.func28 (by kernel_rfl) rfl #[u]
  unfold Oper.wp execOp
  simp only [ho, resolve, invoke, Sem.run_bind, Sem.run_pure, Result.andThen_ok, List.map_toArray, List.map_cons, List.map_nil, hx, go_sem]
  show Oper.upon Tryd.prog o a K Q (Sem.run Tryd.prog (callFunc 28 (#[] ++ #[a.eval x] ++ #[])) w)
  rw [show (#[] ++ #[a.eval x] ++ #[] : Array Value) = #[u] by simp [hx], he, Oper.upon_enter]
  refine hc.mono ?_
  intro e w' hR
  obtain ⟨r, rfl, hk⟩ := h e w' hR
  show K (a.put o.dst r) w'
  rw [hd']
  exact hk
theorem OwnB.slc {w : World} {base : Nat} {v : Value} {l : List Int} (h : OwnB w base v l) : ∃ a n c, v = .slice a n c := by
  rcases h with ⟨rfl, rfl⟩ | ⟨b, off, cap, rfl, _⟩
  · exact ⟨none, 0, 0, rfl⟩
  · exact ⟨_, _, _, rfl⟩
/-- append of one slice of bytes to a row of such. -/
theorem push_run {w : World} {N : Nat} {v : Value} {n : Nat} {xs : List Value} (ty : TypeId) (hown : w.ownsRow N 22 1 v n xs) {B : Nat} {u : Value} (hu : u.oneCell' = true) (hcell : w.cell? ⟨B, 0, none⟩ = some u) (hn : n ≤ 1000000000000) (hN : N ≤ w.heap.size) :
    ∃ av cv w', (Builtin.append_ #[24, 24] ty #[v, .slice (some ⟨B, 0, none⟩) 1 1]).run Tryd.prog w = .ok (.slice av (n + 1) cv) w' ∧ w'.ownsRow N 22 1 (.slice av (n + 1) cv) (n + 1) (xs ++ [u]) ∧ w.grownBy w' v.ownBlock ∧ (Value.ownBlock (.slice av (n + 1) cv) = v.ownBlock ∨ Value.ownBlock (.slice av (n + 1) cv) = some w.heap.size) := by
  obtain ⟨i0, hi, hz0, hz1, hz2⟩ := info_parts info22
  have e := run_append_own_at (P := Tryd.prog) w N 24 ty 22 i0 (.slice none 0 0) 1 24 Tryd.underlying24 hi hz0 hz1 hz2 rfl (by decide) v n xs hown ⟨B, 0, none⟩ 1 1 [u] rfl (by
    intro j x hj
    match j, hj with
    | 0, hj =>
      simp at hj
      subst hj
      simpa [Addr.add] using hcell) (by simp [hu]) (by unfold maxLen; omega) (by omega) hN
  obtain ⟨v', w', hr, h2, h3, h4, h5⟩ := e
  obtain ⟨av, cv, rfl⟩ := row_form h2
  exact ⟨av, cv, w', hr, h2, h3, h5⟩
theorem step_push {ops : Array Oper} {o : Oper} {a : Act} {w : World} {K : Act → World → Prop} {Q : Exit → Act → World → Prop} {Ex : Prop} (hgd : o.guard = none) {d : Nat} (hd' : o.dst = some d) (s x : Operand)
    (ho : o.op = .call { callee := .builtin .append, args := #[s, x], argTypes := #[24, 24] }) {N : Nat} {v : Value} {n : Nat} {xs : List Value} (hs : a.eval s = v) (hown : w.ownsRow N 22 1 v n xs) {B : Nat} (hx : a.eval x = .slice (some ⟨B, 0, none⟩) 1 1) {u : Value} (hu : u.oneCell' = true) (hcell : w.cell? ⟨B, 0, none⟩ = some u) (hn : n ≤ 1000000000000) (hN : N ≤ w.heap.size)
    (h : ∀ av cv w', w'.ownsRow N 22 1 (.slice av (n + 1) cv) (n + 1) (xs ++ [u]) → w.grownBy w' v.ownBlock → (Value.ownBlock (.slice av (n + 1) cv) = v.ownBlock ∨ Value.ownBlock (.slice av (n + 1) cv) = some w.heap.size) → K (a.put (some d) (.slice av (n + 1) cv)) w') :
    if Region.wanted o (yielded ops a.tmps) = true then Oper.wp Tryd.prog o a w K Q else Ex := by
  have hw : Region.wanted o (yielded ops a.tmps) = true := by simp [Region.wanted, hgd]
  rw [if_pos hw]
  obtain ⟨av, cv, w', hr, h2, h3, h5⟩ := push_run o.type hown hu hcell hn hN
  unfold Oper.wp execOp
  simp only [ho, resolve, invoke, builtin, Sem.run_bind, Sem.run_pure, Result.andThen_ok, List.map_toArray, List.map_cons, List.map_nil, hs, hx, hr]
  show K (a.put o.dst _) w'
  rw [hd']
  exact h av cv w' h2 h3 h5
theorem Upd.ofGrown {w w' : World} {row : Option Nat} (hg : w.grownBy w' row) : Upd (fun k => row = some k) w w' := (Upd.refl _ w).grown hg (fun k hk _ => hk)
/-- The record that is read has got longer. -/
theorem Rd.put {w w4 : World} {base rb : Nat} {bv : Value} {log : Int} {rc : Bool} {sol : Nat} {s : St} {rv lv : Value} {svs : List Value} (h : Rd w base rb bv log rc sol s rv lv svs) {v' : Value} {l' : List Int} (ho : OwnB w4 base v' l') (hby : Byt l') (hg : w.grownBy w4 rv.ownBlock) (hat : v'.ownBlock = rv.ownBlock ∨ v'.ownBlock = some w.heap.size) :
    Rd (w4.setCell ⟨rb, 6, none⟩ v') base rb bv log rc sol { s with now := l' } v' lv svs ∧ Below base w (w4.setCell ⟨rb, 6, none⟩ v') := by
  have u4 := Upd.ofGrown hg
  have hrb := h.blk.lt
  have hbk4 : Blk w4 rb 44 (rdC bv log rc sol s.at_ s.op rv lv s.en) := h.blk.upd u4 (fun e => h.rvb e)
  have hne : v'.ownBlock ≠ some rb := by
    rcases hat with e | e
    · rw [e]; exact h.rvb
    · rw [e]; intro e2; cases e2; omega
  have uT : Upd (fun k => rv.ownBlock = some k ∨ k = rb) w (w4.setCell ⟨rb, 6, none⟩ v') := Upd.setCell (S := fun k => rv.ownBlock = some k ∨ k = rb) (p := ⟨rb, 6, none⟩) (u4.mono (fun k _ e => Or.inl e)) (fun _ => .inr rfl) v'
  refine ⟨⟨hbk4.set 6 v', ho.same (by simp [World.setCell]) (fun k hk => Below.heap_setCell _ _ _ _ (fun e => hne (by have e' : k = rb := e; rw [← e']; exact hk))), row_upd h.row uT ?_, ?_, hne, ?_, h.bas, Nat.le_trans h.siz uT.size, hby⟩, ?_⟩
  · rintro k hk (e | e)
    · exact h.rvl k hk e
    · exact h.lvb k hk e
  · intro i l hl
    obtain ⟨v, hv, hL⟩ := h.rds i l hl
    refine ⟨v, hv, ?_⟩
    obtain ⟨ra, cp, e1, hA, hd⟩ := hL.upd uT (fun B h1 h2 h3 e => e.elim h1 h3)
    refine ⟨ra, cp, e1, hA, ?_⟩
    rcases hd with hd | ⟨B, off, e2, h1, h2, h3⟩
    · exact .inl hd
    · by_cases hn : l = []
      · exact .inl hn
      refine .inr ⟨B, off, e2, ?_, h2, h3⟩
      rcases hat with e | e
      · rw [e]; exact h1
      · rw [e]
        intro e3
        cases e3
        obtain ⟨ra', cp', e4, hA', _⟩ := hL
        rw [e1] at e4
        cases e4
        rcases hA'.2.2.2 with h9 | ⟨b9, o9, e9, h9, _⟩
        · exact hn h9
        · rw [e2] at e9; cases e9; omega
  · intro k hk
    rcases hat with e | e
    · rw [e]; exact h.rvl k hk
    · rw [e]
      intro e3
      cases e3
      have := (h.row.lt _ hk).2
      omega
  · refine uT.below (fun k hk => Nat.lt_of_lt_of_le hk h.siz) ?_
    rintro k (e | e)
    · exact (h.own.lt k e).1
    · rw [e]; exact h.bas
/-- A record is whole. -/
theorem Rd.push {w w5 : World} {base rb : Nat} {bv : Value} {log : Int} {rc : Bool} {sol : Nat} {s : St} {rv lv : Value} {svs : List Value} (h : Rd w base rb bv log rc sol s rv lv svs) (hn : s.now.length ≤ 140737488351232) {o : Obj} {lv' : Value} (hrow : w5.ownsRow base 22 1 lv' (s.recs.length + 1) (svs ++ [rv])) (hg : (w.alloc o).grownBy w5 lv.ownBlock) (hat : lv'.ownBlock = lv.ownBlock ∨ lv'.ownBlock = some (w.alloc o).heap.size) :
    Rd ((((w5.setCell ⟨rb, 7, none⟩ lv').setCell ⟨rb, 6, none⟩ (.slice none 0 0)).setCell ⟨rb, 5, none⟩ (.bool false)).setCell ⟨rb, 8, none⟩ (.int .i64 (s.at_ : Nat))) base rb bv log rc sol ⟨s.at_, false, [], s.recs ++ [s.now], s.at_⟩ (.slice none 0 0) lv' (svs ++ [rv])
      ∧ Below base w ((((w5.setCell ⟨rb, 7, none⟩ lv').setCell ⟨rb, 6, none⟩ (.slice none 0 0)).setCell ⟨rb, 5, none⟩ (.bool false)).setCell ⟨rb, 8, none⟩ (.int .i64 (s.at_ : Nat))) := by
  have hrb := h.blk.lt
  have hsz : (w.alloc o).heap.size = w.heap.size + 1 := by simp
  have ua : Upd (fun k => lv.ownBlock = some k ∨ k = rb) w w5 := ((Upd.refl _ w).alloc o).grown hg (fun k hk _ => .inl hk)
  have hne : lv'.ownBlock ≠ some rb := by
    rcases hat with e | e
    · rw [e]; exact fun e2 => h.lvb rb e2 rfl
    · rw [e, hsz]; intro e2; cases e2; omega
  have hbk5 : Blk w5 rb 44 (rdC bv log rc sol s.at_ s.op rv lv s.en) := (h.blk.alloc o).upd (Upd.ofGrown hg) (fun e => h.lvb rb e rfl)
  have hsl : svs.length = s.recs.length := by have := h.row.1; omega
  have ur : ∀ w', Upd (fun k => k = rb) w5 w' → Upd (fun k => lv.ownBlock = some k ∨ k = rb) w w' := fun w' u => ua.trans (u.mono (fun k _ e => .inr e))
  have uf : Upd (fun k => k = rb) w5 ((((w5.setCell ⟨rb, 7, none⟩ lv').setCell ⟨rb, 6, none⟩ (.slice none 0 0)).setCell ⟨rb, 5, none⟩ (.bool false)).setCell ⟨rb, 8, none⟩ (.int .i64 (s.at_ : Nat))) :=
    Upd.setCell (S := fun k => k = rb) (p := ⟨rb, 8, none⟩) (Upd.setCell (S := fun k => k = rb) (p := ⟨rb, 5, none⟩) (Upd.setCell (S := fun k => k = rb) (p := ⟨rb, 6, none⟩) (Upd.setCell (S := fun k => k = rb) (p := ⟨rb, 7, none⟩) (Upd.refl _ w5) (fun _ => rfl) _) (fun _ => rfl) _) (fun _ => rfl) _) (fun _ => rfl) _
  have uT := ur _ uf
  have hblk := (((hbk5.set 7 lv').set 6 (.slice none 0 0)).set 5 (.bool false)).set 8 (.int .i64 (s.at_ : Nat))
  generalize ((((w5.setCell ⟨rb, 7, none⟩ lv').setCell ⟨rb, 6, none⟩ (.slice none 0 0)).setCell ⟨rb, 5, none⟩ (.bool false)).setCell ⟨rb, 8, none⟩ (.int .i64 (s.at_ : Nat))) = wF at *
  have newne : ∀ B, B < w.heap.size → lv.ownBlock ≠ some B → lv'.ownBlock ≠ some B := by
    intro B hB h2
    rcases hat with e | e
    · rw [e]; exact h2
    · rw [e, hsz]; intro e3; cases e3; omega
  refine ⟨⟨hblk, OwnB.nil _ _, ?_, ?_, by simp [Value.ownBlock], fun k _ => by simp [Value.ownBlock], h.bas, Nat.le_trans h.siz uT.size, fun c hc => by cases hc⟩, ?_⟩
  · have := row_upd hrow uf (fun k hk e => hne (by rw [← e]; exact hk))
    simpa using this
  · intro i l hl
    by_cases hi : i < s.recs.length
    · have hl' : s.recs[i]? = some l := by
        have hl0 : (s.recs ++ [s.now])[i]? = some l := hl
        rwa [List.getElem?_append_left hi] at hl0
      obtain ⟨v, hv, hL⟩ := h.rds i l hl'
      refine ⟨v, by rw [List.getElem?_append_left (by omega)]; exact hv, ?_⟩
      obtain ⟨ra, cp, e1, hA, hd⟩ := hL.upd uT (fun B h1 h2 h3 e => e.elim h2 h3)
      refine ⟨ra, cp, e1, hA, ?_⟩
      by_cases hn0 : l = []
      · exact .inl hn0
      rcases hd with hd | ⟨B, off, e2, h1, h2, h3⟩
      · exact .inl hd
      · refine .inr ⟨B, off, e2, by simp [Value.ownBlock], newne B ?_ h2, h3⟩
        obtain ⟨ra', cp', e4, hA', _⟩ := hL
        rw [e1] at e4
        cases e4
        rcases hA'.2.2.2 with h9 | ⟨b9, o9, e9, h9, _⟩
        · exact absurd h9 hn0
        · rw [e2] at e9; cases e9; exact h9
    · have hl0 : (s.recs ++ [s.now])[i]? = some l := hl
      have hi2 : i = s.recs.length := by
        have := (List.getElem?_eq_some_iff.1 hl0).1
        simp at this
        omega
      subst hi2
      simp at hl0
      subst hl0
      refine ⟨rv, by rw [← hsl]; simp, ?_⟩
      obtain ⟨ra, cp, e1, hA⟩ := h.own.arg h.byt hn
      have hnl : ∀ B off, ra = some ⟨B, off, none⟩ → rv.ownBlock = some B := by
        intro B off e; rw [e1, e]; rfl
      refine ⟨ra, cp, e1, hA.upd uT ?_, ?_⟩
      · rintro B off e _ (e2 | e2)
        · exact h.rvl B e2 (hnl B off e)
        · exact h.rvb (by rw [← e2]; exact hnl B off e)
      · rcases hA.2.2.2 with h9 | ⟨B, off, e9, h9, _⟩
        · exact .inl h9
        · refine .inr ⟨B, off, e9, by simp [Value.ownBlock], newne B h9 (fun e => h.rvl B e (hnl B off e9)), fun e => h.rvb (by rw [← e]; exact hnl B off e9)⟩
  · refine uT.below (fun k hk => Nat.lt_of_lt_of_le hk h.siz) ?_
    rintro k (e | e)
    · exact (h.row.lt k e).1
    · rw [e]; exact h.bas
section
variable {w : World} {base rb : Nat} {bv : Value} {log : Int} {rc : Bool} {sol : Nat} {s : St} {rv lv : Value} {svs : List Value}
set_option maxRecDepth 100000 in
set_option maxHeartbeats 2000000 in
theorem take_any (h : Rd w base rb bv log rc sol s rv lv svs) {a : Option Addr} {len cap : Nat} {f : List Int} (ha : Arg w a len cap f) (hf : hd rc ≤ len) (hcap : len ≤ cap) (k : Int) (hk : 1 ≤ k ∧ k ≤ 4)
    (hat : s.at_ + len ≤ 2000000000) (hnow : s.now.length ≤ 2000000000) (hrec : s.recs.length ≤ 2000000000) (hfb : ∀ B off, a = some ⟨B, off, none⟩ → B < base) :
    Calls Tryd.prog 43 #[ptr rb, .int .i64 k, .slice a len cap] w fun e w' => ∃ r, e = .returned r ∧ Below base w w' ∧ ∃ rv' lv' svs', Rd w' base rb bv log rc sol (takeM rc s k f) rv' lv' svs' := by
  have c3 := h.blk.cell1 4 _ rfl
  have c5 := h.blk.cell1 5 _ rfl
  have f3 := h.blk.frozen 4
  have f4 := h.blk.frozen 5
  have hlt := h.blk.lt
  obtain ⟨B, off, X, rfl, hB, _⟩ := ha.at (k := 0) (by have := hd_bd rc; omega)
  have hfl := ha.1
  have U2 : Upd (fun k => k = rb) w ((w.setCell ⟨rb, 4, none⟩ (.int .i64 ((s.at_ : Int) + (len : Int)))).setCell ⟨rb, 5, none⟩ (.bool true)) := Upd.setCell (S := fun k => k = rb) (p := ⟨rb, 5, none⟩) (Upd.setCell (S := fun k => k = rb) (p := ⟨rb, 4, none⟩) (Upd.refl _ w) (fun _ => rfl) _) (fun _ => rfl) _
  have R2 : Rd ((w.setCell ⟨rb, 4, none⟩ (.int .i64 ((s.at_ : Int) + (len : Int)))).setCell ⟨rb, 5, none⟩ (.bool true)) base rb bv log rc sol { s with at_ := s.at_ + len, op := true } rv lv svs := h.set U2 ((h.blk.set 4 _).set 5 _)
  have B2 : Below base w ((w.setCell ⟨rb, 4, none⟩ (.int .i64 ((s.at_ : Int) + (len : Int)))).setCell ⟨rb, 5, none⟩ (.bool true)) := U2.below (fun k hk => Nat.lt_of_lt_of_le hk h.siz) (fun k hk => by rw [hk]; exact h.bas)
  have A2 := ha.upd U2 (fun B' off' e _ hb => by cases e; have := hfb B off rfl; have := h.bas; omega)
  go_enter Tryd.func43, Tryd.ntmps43
  go_upto_region 2 with fail
  generalize (w.setCell ⟨rb, 4, none⟩ (.int .i64 ((s.at_ : Int) + (len : Int)))).setCell ⟨rb, 5, none⟩ (.bool true) = W2 at *
  clear U2 c3 c5 f3 f4 ha hB
  go_cut [2] from 18 to 32 (fun _ wd => ∃ rv', Rd wd base rb bv log rc sol { s with at_ := s.at_ + len, op := true, now := s.now ++ f.drop (hd rc) } rv' lv svs ∧ Below base w wd)
  case first =>
    have CL := bcut_lo B off len cap (hd rc) hf
    have R2d := R2.below ((Below.refl W2.heap.size W2).drew)
    have A2d := A2.below ((Below.refl W2.heap.size W2).drew)
    have c1 := R2.blk.cell1 1 _ rfl
    have c2 := R2.blk.cell1 2 _ rfl
    have c6 := R2.blk.cell1 6 _ rfl
    obtain ⟨i0, hi, hz0, hz1, hz2⟩ := info_parts info5
    have hby4 : Byt (s.now ++ f.drop (hd rc)) := fun c hc => (List.mem_append.1 hc).elim (h.byt c) (fun hc => A2.2.1 c (List.mem_of_mem_drop hc))
    have hll : s.now.length + (f.drop (hd rc)).length ≤ 140737488355328 := by rw [List.length_drop]; omega
    have hll' : Hid _ := hll
    clear hll
    go_region_law (first
      | (refine step_call28 (by rfl) (by rfl) _ _ (by rfl) _ (by rfl) (head_any log rc _) ?_
         rintro e w3 ⟨rfl, hB3⟩
         refine ⟨_, rfl, ?_⟩
         have R3 := R2d.below hB3
         have c6' := R3.blk.cell1 6 _ rfl
         have A3 := A2d.below hB3)
      | (refine OwnB.step_append (by rfl) _ _ 22 22 (by rfl) (by rfl) R3.own i0 Tryd.underlying22 hi hz0 hz1 hz2 _ (by rfl) (f.drop (hd rc)) (A3.lo hf hcap).src R3.siz hll'.out ?_
         intro v4 w4 ho4 hg4 hat4
         obtain ⟨a4, n4, c4, rfl⟩ := ho4.slc
         have P4 := R3.put ho4 hby4 hg4 hat4
         have bk4 := R3.blk.upd (Upd.ofGrown hg4) (fun e => R3.rvb e)
         have c6w := bk4.cell1 6 _ rfl
         have f6w := bk4.frozen 6))
    all_goals
      go_wp2
      go_meet
      exact ⟨_, P4.1, (B2.drew.trans (hB3.mono R2d.siz)).trans P4.2⟩
  case rest =>
    obtain ⟨rv', R4, B4⟩ := hcut
    have hnow4 : (s.now ++ f.drop (hd rc)).length ≤ 140737488351232 := by rw [List.length_append, List.length_drop]; omega
    have hk4 : k = 1 ∨ k = 2 ∨ k = 3 ∨ k = 4 := by omega
    clear R2 B2 A2
    rcases hk4 with rfl | rfl | rfl | rfl
    · have c7 := R4.blk.cell1 7 _ rfl
      have c6 := R4.blk.cell1 6 _ rfl
      have hrow4 := (R4.row.drew).alloc (.cells #[rv'] 22)
      have hcell4 : (wc.drew.alloc (.cells #[rv'] 22)).cell? ⟨wc.drew.heap.size, 0, none⟩ = some rv' := World.cell?_alloc_new wc.drew #[rv'] 22 0
      have R4d := R4.below ((Below.refl wc.heap.size wc).drew)
      obtain ⟨a4, n4, c4, rfl⟩ := R4.own.slc
      have c7a := (R4.blk.alloc (.cells #[.slice a4 n4 c4] 22)).cell1 7 _ rfl
      go_wp2
      go_region_law (first
        | (refine step_push (by rfl) (by rfl) _ _ (by rfl) (by rfl) hrow4 (by rfl) (by rfl) hcell4 (by show s.recs.length ≤ _; omega) (by simp; have := R4.siz; omega) ?_
           intro av cv w5 ho5 hg5 hat5
           have P5 := R4d.push hnow4 ho5 hg5 hat5
           have bk5 := (R4d.blk.alloc (.cells #[.slice a4 n4 c4] 22)).upd (Upd.ofGrown hg5) (fun e => R4d.lvb rb e rfl)
           have c7w := bk5.cell1 7 _ rfl
           have f7w := bk5.frozen 7
           have c6w := bk5.cell1 6 _ rfl
           have f6w := bk5.frozen 6
           have c5w := bk5.cell1 5 _ rfl
           have f5w := bk5.frozen 5
           have c4w := bk5.cell1 4 _ rfl
           have c8w := bk5.cell1 8 _ rfl
           have f8w := bk5.frozen 8))
      all_goals
        go_wp2
        go_end0
        refine ⟨⟨_, rfl⟩, B4.drew.trans P5.2, .slice none 0 0, .slice av (s.recs.length + 1) cv, svs ++ [.slice a4 n4 c4], ?_⟩
        rw [show takeM rc s 1 f = ⟨s.at_ + f.length, false, [], s.recs ++ [s.now ++ f.drop (hd rc)], s.at_ + f.length⟩ from rfl, hfl]
        exact P5.1
    · go_wp2
      go_end0
      refine ⟨_, rfl, B4, rv', lv, svs, ?_⟩
      rw [show takeM rc s 2 f = ⟨s.at_ + f.length, true, s.now ++ f.drop (hd rc), s.recs, s.en⟩ from rfl, hfl]
      exact R4
    · go_wp2
      go_end0
      refine ⟨_, rfl, B4, rv', lv, svs, ?_⟩
      rw [show takeM rc s 3 f = ⟨s.at_ + f.length, true, s.now ++ f.drop (hd rc), s.recs, s.en⟩ from rfl, hfl]
      exact R4
    · have c7 := R4.blk.cell1 7 _ rfl
      have c6 := R4.blk.cell1 6 _ rfl
      have hrow4 := (R4.row.drew).alloc (.cells #[rv'] 22)
      have hcell4 : (wc.drew.alloc (.cells #[rv'] 22)).cell? ⟨wc.drew.heap.size, 0, none⟩ = some rv' := World.cell?_alloc_new wc.drew #[rv'] 22 0
      have R4d := R4.below ((Below.refl wc.heap.size wc).drew)
      obtain ⟨a4, n4, c4, rfl⟩ := R4.own.slc
      have c7a := (R4.blk.alloc (.cells #[.slice a4 n4 c4] 22)).cell1 7 _ rfl
      go_wp2
      go_region_law (first
        | (refine step_push (by rfl) (by rfl) _ _ (by rfl) (by rfl) hrow4 (by rfl) (by rfl) hcell4 (by show s.recs.length ≤ _; omega) (by simp; have := R4.siz; omega) ?_
           intro av cv w5 ho5 hg5 hat5
           have P5 := R4d.push hnow4 ho5 hg5 hat5
           have bk5 := (R4d.blk.alloc (.cells #[.slice a4 n4 c4] 22)).upd (Upd.ofGrown hg5) (fun e => R4d.lvb rb e rfl)
           have c7w := bk5.cell1 7 _ rfl
           have f7w := bk5.frozen 7
           have c6w := bk5.cell1 6 _ rfl
           have f6w := bk5.frozen 6
           have c5w := bk5.cell1 5 _ rfl
           have f5w := bk5.frozen 5
           have c4w := bk5.cell1 4 _ rfl
           have c8w := bk5.cell1 8 _ rfl
           have f8w := bk5.frozen 8))
      all_goals
        go_wp2
        go_end0
        refine ⟨⟨_, rfl⟩, B4.drew.trans P5.2, .slice none 0 0, .slice av (s.recs.length + 1) cv, svs ++ [.slice a4 n4 c4], ?_⟩
        rw [show takeM rc s 4 f = ⟨s.at_ + f.length, false, [], s.recs ++ [s.now ++ f.drop (hd rc)], s.at_ + f.length⟩ from rfl, hfl]
        exact P5.1
end
end Go.Proofs.YtjnlolibfcpbkaaDoor
