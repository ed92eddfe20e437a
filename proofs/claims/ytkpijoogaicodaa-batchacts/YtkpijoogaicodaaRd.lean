import Derived.Test.YtkpijoogaicodaaRc
import Derived.Test.YtkpijoogaicodaaLi
import Derived.Defers
import Derived.Recover
import Derived.Deep.RegionLaw
import Derived.Deep.RegionWith
namespace Go.Proofs.Ytkpijoogaicodaa
open Go.RowKit
set_option linter.unusedVariables false
set_option linter.unusedSimpArgs false

set_option maxRecDepth 100000 in
/-- The deferred closure, where nothing panics. -/
theorem catch_idle (p q r : Addr) (w : World) :
    CallsD Try.prog 59 #[.pointer (some p), .pointer (some q), .pointer (some r)] .returning w fun e u' w' => e = .returned (.tuple #[]) ∧ u' = .returning ∧ w' = w := by
  refine callsD_of_wpS Try.func59 rfl fun c₀ cs hu => ?_
  apply wpS_seq
  apply wpS_region
  simp [wpOpsS, go_sem, recoverD, hu, Try.ntmps59, Exit.thenS]
  refine wpS_of_wp ?_
  simp only [Array.replicate_succ, Array.replicate_zero, List.push_toArray, List.append_toArray, List.nil_append, List.cons_append]
  go_wp2
  cases c₀
  simp_all [bodyPostS, results, Try.results59, Exit.thenS]
set_option maxRecDepth 100000 in
theorem catch_pnk (p q r : Addr) (c x z : Int) (y : Value) (w : World) (hp : w.cell? p = some (.int .u64 x)) (hq : w.cell? q = some y) (hr : w.cell? r = some (.int .i64 z)) (fp : w.frozen? p = false) (fq : w.frozen? q = false) (fr : w.frozen? r = false) (n1 : p ≠ q) (n2 : p ≠ r) (n3 : q ≠ r) :
    CallsD Try.prog 59 #[.pointer (some p), .pointer (some q), .pointer (some r)] (.panicking [{ v := .iface 25 (.int .i64 c), recovered := false }]) w fun e u' w' =>
      e = .returned (.tuple #[]) ∧ u' = .panicking [{ v := .iface 25 (.int .i64 c), recovered := true }] ∧ w' = ((w.setCell p (.int .u64 0)).setCell q (.slice none 0 0)).setCell r (.int .i64 c) := by
  have hta : ∀ w : World, (Instr.typeAssert (.iface 25 (.int .i64 c)) 20 25 true).run Try.prog w = .ok (.tuple #[.int .i64 c, .bool true]) w := fun w => by kernel_rfl
  refine callsD_of_wpS Try.func59 rfl fun c₀ cs hu => ?_
  apply wpS_seq
  apply wpS_region
  simp [wpOpsS, go_sem, recoverD, hu, Try.ntmps59, Exit.thenS]
  refine wpS_of_wp ?_
  simp only [Array.replicate_succ, Array.replicate_zero, List.push_toArray, List.append_toArray, List.nil_append, List.cons_append]
  go_wp2
  simp [bodyPostS, results, Try.results59, go_sem]

def pMany : Nat → List Int → Except Int (List Rec × List Int)
  | 0, l => .ok ([], l)
  | n + 1, l => match pRec l with
    | .error c => .error c
    | .ok (r, l') => match pMany n l' with
      | .error c => .error c
      | .ok (rs, l'') => .ok (r :: rs, l'')
def pBody (l : List Int) : Except Int (Int × List Rec) := match pHead l with
  | .error c => .error c
  | .ok ((s, n), l1) => match pMany n.toNat l1 with
    | .error c => .error c
    | .ok (rs, l2) => if l2 = [] then .ok (s, rs) else .error 5
/-- The variables of whole. -/
structure Wh (w W : World) (s : Int) (lv : Value) (rs : List Rec) (l : List Int) : Prop where
  bel : Below w.heap.size w W
  b0 : Blk W w.heap.size 22 [.int .u64 s]
  b1 : Blk W (w.heap.size + 1) 23 [lv]
  b2 : Blk W (w.heap.size + 1 + 1) 25 [.int .i64 0]
  rd : Rdr W (w.heap.size + 1 + 1 + 1) l
  row : W.ownsRow 0 31 4 lv rs.length (rcs rs)
  new : ∀ k, lv.ownBlock = some k → w.heap.size ≤ k
/-- The deferred call of whole. -/
def dfr (N : Nat) : Deferred := { target := .fn (.func 59) #[.pointer (some ⟨N, 0, none⟩), .pointer (some ⟨N + 1, 0, none⟩), .pointer (some ⟨N + 1 + 1, 0, none⟩)], args := #[] }
theorem ad_ne {a b : Nat} (h : a ≠ b) : (⟨a, 0, none⟩ : Addr) ≠ ⟨b, 0, none⟩ := fun e => h (by injection e)
structure Wv (w W : World) (s : Int) (lv : Value) : Prop where
  bel : Below w.heap.size w W
  b0 : Blk W w.heap.size 22 [.int .u64 s]
  b1 : Blk W (w.heap.size + 1) 23 [lv]
  b2 : Blk W (w.heap.size + 1 + 1) 25 [.int .i64 0]
theorem door_err {w W : World} {s : Int} {lv : Value} (h : Wv w W s lv) (c : Int) (T : Array Value) (h2 : T[2]? = some (ptr w.heap.size)) (h3 : T[3]? = some (ptr (w.heap.size + 1))) (h4 : T[4]? = some (ptr (w.heap.size + 1 + 1))) {R : Ending → World → Prop}
    (hR : ∀ w', Below w.heap.size w w' → R (.returned (.tuple #[.int .u64 0, .slice none 0 0, .int .i64 c])) w') :
    bodyPostD Try.prog Try.f40 R (.panic [{ v := .iface 25 (.int .i64 c), recovered := false }]) { tmps := T, defers := [dfr w.heap.size] } W := by
  have c0 := h.b0.cell1 0 _ rfl
  have c1 := h.b1.cell1 0 _ rfl
  have c2 := h.b2.cell1 0 _ rfl
  refine leaves_cons (f := 59) (args := #[.pointer (some ⟨w.heap.size, 0, none⟩), .pointer (some ⟨w.heap.size + 1, 0, none⟩), .pointer (some ⟨w.heap.size + 1 + 1, 0, none⟩)]) (by simp) (by simp [go_sem, dfr]) ?_
  refine (catch_pnk ⟨w.heap.size, 0, none⟩ ⟨w.heap.size + 1, 0, none⟩ ⟨w.heap.size + 1 + 1, 0, none⟩ c _ _ _ W c0 c1 c2 (h.b0.frozen 0) (h.b1.frozen 0) (h.b2.frozen 0) (ad_ne (by omega)) (ad_ne (by omega)) (ad_ne (by omega))).mono ?_
  rintro e u' w'' ⟨rfl, rfl, rfl⟩
  have B0 := ((h.b0.set 0 (.int .u64 0)).other (a := ⟨w.heap.size + 1, 0, none⟩) (by simp) (.slice none 0 0)).other (a := ⟨w.heap.size + 1 + 1, 0, none⟩) (by simp; omega) (.int .i64 c)
  have B1 := ((h.b1.other (a := ⟨w.heap.size, 0, none⟩) (by simp) (.int .u64 0)).set 0 (.slice none 0 0)).other (a := ⟨w.heap.size + 1 + 1, 0, none⟩) (by simp) (.int .i64 c)
  have B2 := ((h.b2.other (a := ⟨w.heap.size, 0, none⟩) (by simp; omega) (.int .u64 0)).other (a := ⟨w.heap.size + 1, 0, none⟩) (by simp) (.slice none 0 0)).set 0 (.int .i64 c)
  have d0 := B0.cell1 0 _ rfl
  have d1 := B1.cell1 0 _ rfl
  have d2 := B2.cell1 0 _ rfl
  have hb : Below w.heap.size w (((W.setCell ⟨w.heap.size, 0, none⟩ (.int .u64 0)).setCell ⟨w.heap.size + 1, 0, none⟩ (.slice none 0 0)).setCell ⟨w.heap.size + 1 + 1, 0, none⟩ (.int .i64 c)) :=
    ((h.bel.setCell (p := ⟨w.heap.size, 0, none⟩) (Nat.le_refl _) _).setCell (p := ⟨w.heap.size + 1, 0, none⟩) (by simp) _).setCell (p := ⟨w.heap.size + 1 + 1, 0, none⟩) (by simp; omega) _
  refine ⟨.tuple #[.int .u64 0, .slice none 0 0, .int .i64 c], ?_, hR _ hb⟩
  simp [results, Try.results40, go_sem, h2, h3, h4, d0, d1, d2]
theorem door_ok {w W : World} {s : Int} {lv : Value} {rs : List Rec} {l : List Int} (h : Wh w W s lv rs l) (T : Array Value) (h2 : T[2]? = some (ptr w.heap.size)) (h3 : T[3]? = some (ptr (w.heap.size + 1))) (h4 : T[4]? = some (ptr (w.heap.size + 1 + 1))) {R : Ending → World → Prop}
    (hR : R (.returned (.tuple #[.int .u64 s, lv, .int .i64 0])) W) :
    bodyPostD Try.prog Try.f40 R .ret { tmps := T, defers := [dfr w.heap.size] } W := by
  have d0 := h.b0.cell1 0 _ rfl
  have d1 := h.b1.cell1 0 _ rfl
  have d2 := h.b2.cell1 0 _ rfl
  refine leaves_cons (f := 59) (args := #[.pointer (some ⟨w.heap.size, 0, none⟩), .pointer (some ⟨w.heap.size + 1, 0, none⟩), .pointer (some ⟨w.heap.size + 1 + 1, 0, none⟩)]) (by simp) (by simp [go_sem, dfr]) ?_
  refine (catch_idle ⟨w.heap.size, 0, none⟩ ⟨w.heap.size + 1, 0, none⟩ ⟨w.heap.size + 1 + 1, 0, none⟩ W).mono ?_
  rintro e u' w'' ⟨rfl, rfl, rfl⟩
  refine ⟨.tuple #[.int .u64 s, lv, .int .i64 0], ?_, hR⟩
  obtain ⟨a, c, rfl⟩ := (row_rd h.row).len
  simp [results, Try.results40, go_sem, h2, h3, h4, d0, d1, d2]
theorem head_ok {w : World} {rb : Nat} {l l' : List Int} {s n : Int} (h : Rdr w rb l) (hp : pHead l = .ok ((s, n), l')) :
    Calls Try.prog 60 #[ptr rb] w fun e w' => e = .returned (.tuple #[.int .u64 s, .int .i64 n]) ∧ Rdr w' rb l' ∧ Upd (At rb) w w' := by
  refine (head_any h).mono ?_
  rintro e w' (⟨s', n', l'', hp', rfl, h1, h2, _⟩ | ⟨c, hp', _⟩)
  · rw [hp] at hp'; cases hp'; exact ⟨rfl, h1, h2⟩
  · rw [hp] at hp'; cases hp'
theorem head_err {w : World} {rb : Nat} {l : List Int} {c : Int} (h : Rdr w rb l) (hp : pHead l = .error c) :
    Calls Try.prog 60 #[ptr rb] w fun e w' => e = pnk c ∧ Upd (At rb) w w' := by
  refine (head_any h).mono ?_
  rintro e w' (⟨s', n', l'', hp', _⟩ | ⟨c', hp', rfl, h2⟩)
  · rw [hp] at hp'; cases hp'
  · rw [hp] at hp'; cases hp'; exact ⟨rfl, h2⟩
theorem pHead_bd {l l' : List Int} {s n : Int} (hb : ∀ c ∈ l, 0 ≤ c ∧ c < 256) (hp : pHead l = .ok ((s, n), l')) : 12 ≤ l.length ∧ 0 ≤ s ∧ s < 18446744073709551616 ∧ 0 ≤ n ∧ n ≤ 4096 ∧ numb s n = true ∧ s = leV (l.take 8) ∧ n = leV ((l.drop 8).take 4) ∧ l' = (l.drop 8).drop 4 := by
  unfold pHead at hp
  by_cases h8 : l.length < 8
  · rw [if_pos h8] at hp; cases hp
  · rw [if_neg h8] at hp
    obtain ⟨_, _, s0, s1⟩ := fix8 hb (by omega)
    by_cases h0 : numb (leV (l.take 8)) 0 = false
    · rw [if_pos h0] at hp; cases hp
    · rw [if_neg h0] at hp
      by_cases h4 : (l.drop 8).length < 4
      · rw [if_pos h4] at hp; cases hp
      · rw [if_neg h4] at hp
        obtain ⟨_, _, m0, m1⟩ := fix4 (l := l.drop 8) (fun c hc => hb c (List.mem_of_mem_drop hc)) (by omega)
        by_cases h5 : leV ((l.drop 8).take 4) ≤ 4096 ∧ numb (leV (l.take 8)) (leV ((l.drop 8).take 4)) = true
        · rw [if_pos h5] at hp
          simp only [Except.ok.injEq, Prod.mk.injEq] at hp
          obtain ⟨⟨rfl, rfl⟩, rfl⟩ := hp
          rw [List.length_drop] at h4
          exact ⟨by omega, s0, s1, m0, h5.1, h5.2, rfl, rfl, rfl⟩
        · rw [if_neg h5] at hp; cases hp
/-- One step of the reader. -/
theorem Wh.read {w W W' : World} {s : Int} {lv : Value} {rs : List Rec} {l l' : List Int} (h : Wh w W s lv rs l) (hr : Rdr W' (w.heap.size + 1 + 1 + 1) l') (u : Upd (At (w.heap.size + 1 + 1 + 1)) W W') : Wh w W' s lv rs l' := by
  have hb : ∀ k, At (w.heap.size + 1 + 1 + 1) k → w.heap.size ≤ k := fun k hk => by unfold At at hk; omega
  obtain ⟨a, cap, hB, _⟩ := h.rd
  refine ⟨Upd.bel h.bel u hb, h.b0.upd u (by unfold At; omega), h.b1.upd u (by unfold At; omega), h.b2.upd u (by unfold At; omega), hr, row_upd h.row u (fun k hk e => row_ne h.row hB (by decide) k hk e), h.new⟩
theorem Wh.panic {w W W' : World} {s : Int} {lv : Value} {rs : List Rec} {l : List Int} (h : Wh w W s lv rs l) (u : Upd (At (w.heap.size + 1 + 1 + 1)) W W') : Wv w W' s lv := by
  have hb : ∀ k, At (w.heap.size + 1 + 1 + 1) k → w.heap.size ≤ k := fun k hk => by unfold At at hk; omega
  exact ⟨Upd.bel h.bel u hb, h.b0.upd u (by unfold At; omega), h.b1.upd u (by unfold At; omega), h.b2.upd u (by unfold At; omega)⟩
theorem Wh.begin {w : World} {a : Option Addr} {cap : Nat} {l : List Int} (hA : Arg w a l.length cap l) (hcap : l.length ≤ cap) (hlt : ∀ k, Value.ownBlock (.slice a l.length cap) = some k → k < w.heap.size) :
    Wh w ((((w.alloc (.cells #[.int .u64 0] 22)).alloc (.cells #[.slice none 0 0] 23)).alloc (.cells #[.int .i64 0] 25)).alloc (.cells #[.slice a l.length cap] 85)) 0 (.slice none 0 0) [] l := by
  have al := fun (W : World) (o : Obj) => (Below.refl W.heap.size W).alloc (Nat.le_refl _) o
  have B0 := Blk.new w 22 [.int .u64 0]
  have B1 := Blk.new (w.alloc (.cells #[.int .u64 0] 22)) 23 [.slice none 0 0]
  have B2 := Blk.new ((w.alloc (.cells #[.int .u64 0] 22)).alloc (.cells #[.slice none 0 0] 23)) 25 [.int .i64 0]
  have B3 := Blk.new (((w.alloc (.cells #[.int .u64 0] 22)).alloc (.cells #[.slice none 0 0] 23)).alloc (.cells #[.int .i64 0] 25)) 85 [.slice a l.length cap]
  simp only [World.size_alloc] at B1 B2 B3
  have hb := bstep (bstep (bstep (al w (.cells #[.int .u64 0] 22)) (al _ (.cells #[.slice none 0 0] 23))) (al _ (.cells #[.int .i64 0] 25))) (al _ (.cells #[.slice a l.length cap] 85))
  exact ⟨hb, ((B0.alloc _).alloc _).alloc _, (B1.alloc _).alloc _, B2.alloc _, ⟨a, cap, B3, hA.below hb, hcap, fun k hk => by have := hlt k hk; omega⟩, World.ownsRow_nil _ _ _ _, fun k hk => by cases hk⟩
theorem Arg.keep {w w' : World} {a : Option Addr} {len cap B : Nat} {l : List Int} {t : TypeId} {v : Value} (h : Arg w a len cap l) (hB : Blk w B t [v]) (hv : ∀ n, v ≠ .int .u8 n) (u : Upd (At B) w w') : Arg w' a len cap l := by
  obtain ⟨h1, h2, h3, h4⟩ := h
  refine ⟨h1, h2, h3, ?_⟩
  rcases h4 with h4 | ⟨b, off, rfl, hlt, hc⟩
  · exact .inl h4
  · by_cases hl : l.length = 0
    · exact .inl (List.eq_nil_of_length_eq_zero hl)
    · have hne : b ≠ B := by
        rintro rfl
        have hx := hc 0 (by omega)
        rw [hB.cell] at hx
        cases off with
        | zero => simp at hx; exact hv _ hx
        | succ n => simp at hx
      refine .inr ⟨b, off, rfl, Nat.lt_of_lt_of_le hlt u.size, fun j hj => ?_⟩
      rw [World.cell?_of_block (a := ⟨b, off + j, none⟩) (u.block b hlt hne)]; exact hc j hj
/-- The first variable is laid. -/
theorem Wh.seq {w W : World} {s s' : Int} {lv : Value} {rs : List Rec} {l : List Int} (h : Wh w W s lv rs l) : Wh w (W.setCell ⟨w.heap.size, 0, none⟩ (.int .u64 s')) s' lv rs l := by
  have U : Upd (At w.heap.size) W (W.setCell ⟨w.heap.size, 0, none⟩ (.int .u64 s')) := Upd.setCell (p := ⟨w.heap.size, 0, none⟩) (Upd.refl (At w.heap.size) W) (fun _ => rfl) _
  obtain ⟨a, cap, r1, r2, r3, r4⟩ := h.rd
  refine ⟨Upd.bel h.bel U (fun k hk => by unfold At at hk; omega), h.b0.set 0 _, h.b1.upd U (by unfold At; omega), h.b2.upd U (by unfold At; omega), ⟨a, cap, r1.upd U (by unfold At; omega), r2.keep h.b0 (fun n e => by cases e) U, r3, r4⟩, row_upd h.row U (fun k hk e => row_ne h.row h.b0 (by decide) k hk e), h.new⟩
/-- The second variable is laid, and what it leads to. -/
theorem Wh.list {w W W1 : World} {s : Int} {lv lv' : Value} {rs rs' : List Rec} {l : List Int} (h : Wh w W s lv rs l) (ho : W1.ownsRow 0 31 4 lv' rs'.length (rcs rs')) (u : Upd (fun k => lv.ownBlock = some k) W W1) (hloc : lv'.ownBlock = lv.ownBlock ∨ ∀ j, lv'.ownBlock = some j → w.heap.size ≤ j) :
    Wh w (W1.setCell ⟨w.heap.size + 1, 0, none⟩ lv') s lv' rs' l := by
  obtain ⟨a, cap, r1, r2, r3, r4⟩ := h.rd
  have n0 := row_ne h.row h.b0 (by decide)
  have n1 := row_ne h.row h.b1 (by decide)
  have n2 := row_ne h.row h.b2 (by decide)
  have n3 := row_ne h.row r1 (by decide)
  have X0 := h.b0.upd u (fun e => n0 _ e rfl)
  have X1 := h.b1.upd u (fun e => n1 _ e rfl)
  have X2 := h.b2.upd u (fun e => n2 _ e rfl)
  have X3 := r1.upd u (fun e => n3 _ e rfl)
  have Y2 : Arg W1 a l.length cap l := r2.upd u (fun k hk e => by have := r4 k hk; have := h.new k e; omega)
  have U : Upd (At (w.heap.size + 1)) W1 (W1.setCell ⟨w.heap.size + 1, 0, none⟩ lv') := Upd.setCell (p := ⟨w.heap.size + 1, 0, none⟩) (Upd.refl (At (w.heap.size + 1)) W1) (fun _ => rfl) _
  obtain ⟨la, lc, hlv⟩ := (row_rd h.row).len
  refine ⟨Upd.bel (Upd.bel h.bel u h.new) U (fun k hk => by unfold At at hk; omega), X0.upd U (by unfold At; omega), X1.set 0 _, X2.upd U (by unfold At; omega), ⟨a, cap, X3.upd U (by unfold At; omega), Y2.keep X1 (fun n e => by rw [hlv] at e; cases e) U, r3, r4⟩, row_upd ho U (fun k hk e => row_ne ho X1 (by decide) k hk e), ?_⟩
  intro k hk
  rcases hloc with e | e
  · rw [e] at hk; exact h.new k hk
  · exact e k hk
theorem Wh.err {w W : World} {s : Int} {lv : Value} {rs : List Rec} {l : List Int} (h : Wh w W s lv rs l) : Wv w W s lv := ⟨h.bel, h.b0, h.b1, h.b2⟩
end Go.Proofs.Ytkpijoogaicodaa
