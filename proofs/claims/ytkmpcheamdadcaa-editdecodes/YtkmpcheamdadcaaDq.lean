/-
  The reader's caught f43 and its closure f75; Decode f15.
-/
import Derived.Test.YtkmpcheamdadcaaDr
import Derived.Test.YtkmpcheamdadcaaYk
import Derived.Defers
import Derived.Recover
namespace Go.Proofs.Ytkmpcheamdadcaa
open Go.RowKit
set_option linter.unusedVariables false
set_option linter.unusedSimpArgs false
set_option maxRecDepth 100000 in
/-- The deferred closure, where nothing panics. -/
theorem catch_idle (p : Addr) (w : World) :
    CallsD Try.prog 75 #[.pointer (some p)] .returning w fun e u' w' => e = .returned (.tuple #[]) ∧ u' = .returning ∧ w' = w := by
  refine callsD_of_wpS Try.func75 rfl fun c₀ cs hu => ?_
  apply wpS_seq
  apply wpS_region
  simp [wpOpsS, go_sem, recoverD, hu, Try.ntmps75, Exit.thenS]
  refine wpS_of_wp ?_
  simp only [Array.replicate_succ, Array.replicate_zero, List.push_toArray, List.append_toArray, List.nil_append, List.cons_append]
  go_wp2
  cases c₀
  simp_all [bodyPostS, results, Try.results75, Exit.thenS]
set_option maxRecDepth 100000 in
theorem catch_pnk (p : Addr) (c z : Int) (w : World) (hp : w.cell? p = some (.int .i64 z)) (fp : w.frozen? p = false) :
    CallsD Try.prog 75 #[.pointer (some p)] (.panicking [{ v := .iface 29 (.int .i64 c), recovered := false }]) w fun e u' w' =>
      e = .returned (.tuple #[]) ∧ u' = .panicking [{ v := .iface 29 (.int .i64 c), recovered := true }] ∧ w' = w.setCell p (.int .i64 c) := by
  have hta : ∀ w : World, (Instr.typeAssert (.iface 29 (.int .i64 c)) 20 29 true).run Try.prog w = .ok (.tuple #[.int .i64 c, .bool true]) w := fun w => by kernel_rfl
  refine callsD_of_wpS Try.func75 rfl fun c₀ cs hu => ?_
  apply wpS_seq
  apply wpS_region
  simp [wpOpsS, go_sem, recoverD, hu, Try.ntmps75, Exit.thenS]
  refine wpS_of_wp ?_
  simp only [Array.replicate_succ, Array.replicate_zero, List.push_toArray, List.append_toArray, List.nil_append, List.cons_append]
  go_wp2
  simp [bodyPostS, results, Try.results75, go_sem]
def nilE : En := ⟨none, 0, none, 0⟩
theorem own_nil (W : World) (M : Nat) : OwnE W M nilE ed0 := ⟨World.ownsRow_nil _ _ _ _, World.ownsRow_nil _ _ _ _⟩
/-- What caught leaves. -/
def CauPost (B : Nat) (w : World) (rb : Nat) (R : Except Int Ed) (en : Ending) (w' : World) : Prop :=
  ((∃ e P, R = .ok e ∧ en = .returned (.int .i64 0) ∧ Rs B (w.heap.size + 1) w' rb [] P e) ∨ ∃ c, R = .error c ∧ en = .returned (.int .i64 c)) ∧ Upd (Is rb) w w'
set_option maxRecDepth 100000 in
set_option maxHeartbeats 2000000 in
theorem caught_any {B : Nat} {w : World} {rb : Nat} {l : List Int} (h : Rdl B w rb l (edA nilE ed0).toList) :
    Calls Try.prog 43 #[.func (.func 44) #[ptr rb] #[]] w (CauPost B w rb (pEd l)) := by
  have hmf : ∀ (fn : Fn) (first cap : Array Value) (w : World), (Instr.makeFunc fn first cap).run Try.prog w = .ok (.func fn first cap) w := fun _ _ _ _ => rfl
  have hlt := h.lt
  have R0 : Rs B (w.heap.size + 1) (w.alloc (.cells #[.int .i64 0] 29)) rb l nilE ed0 := ⟨h.below (al1 _ _), own_nil _ _, by decide, by omega, by simp⟩
  have HA := all_any R0
  have BX := Blk.new w 29 [.int .i64 0]
  obtain ⟨R, hR⟩ : ∃ R, pEd l = R := ⟨_, rfl⟩
  rw [hR] at HA ⊢
  have nfr : ¬ Fr (w.heap.size + 1) rb w.heap.size := by unfold Fr; omega
  have up : ∀ {W' : World}, Upd (Fr (w.heap.size + 1) rb) (w.alloc (.cells #[.int .i64 0] 29)) W' → Upd (Is rb) w W' := fun u => ((Upd.refl (Is rb) w).alloc _).then u (fun i hi hf => by unfold Fr at hf; unfold Is; omega)
  cases hres : R with
  | error c =>
    have HA' : Calls Try.prog 44 #[ptr rb] (w.alloc (.cells #[.int .i64 0] 29)) fun en w' => en = pnk c ∧ Upd (Fr (w.heap.size + 1) rb) (w.alloc (.cells #[.int .i64 0] 29)) w' := HA.mono (by
      rintro en w' ⟨⟨e, P, h1, _⟩ | ⟨c', h1, h2⟩, hu⟩
      · rw [hres] at h1; cases h1
      · rw [hres] at h1; cases h1; exact ⟨h2, hu⟩)
    clear HA hR
    go_enter_defers Try.func43, Try.ntmps43
    go_wp2_with (go_at_call 44; refine HA'.mono ?_; rintro en w2 ⟨rfl, hu2⟩)
    have X2 := BX.upd hu2 nfr
    have x0 := X2.cell1 0 _ rfl
    have z0 := X2.frozen 0
    refine leaves_cons (f := 75) (args := #[.pointer (some ⟨w.heap.size, 0, none⟩)]) (by simp) (by simp [go_sem]) ?_
    refine (catch_pnk ⟨w.heap.size, 0, none⟩ c _ w2 x0 z0).mono ?_
    rintro en u' w3 ⟨rfl, rfl, rfl⟩
    have d0 := (X2.set 0 (.int .i64 c)).cell1 0 _ rfl
    refine ⟨.int .i64 c, ?_, .inr ⟨c, rfl, rfl⟩, upd_new ⟨w.heap.size, 0, none⟩ _ _ (Nat.le_refl _) (up hu2)⟩
    simp [results, Try.results43, go_sem, d0]
  | ok e =>
    have HA' : Calls Try.prog 44 #[ptr rb] (w.alloc (.cells #[.int .i64 0] 29)) fun en w' => (en = .returned (.tuple #[]) ∧ ∃ P, Rs B (w.heap.size + 1) w' rb [] P e) ∧ Upd (Fr (w.heap.size + 1) rb) (w.alloc (.cells #[.int .i64 0] 29)) w' := HA.mono (by
      rintro en w' ⟨⟨e', P, h1, h2, h3⟩ | ⟨c', h1, h2⟩, hu⟩
      · rw [hres] at h1; cases h1; exact ⟨⟨h2, P, h3⟩, hu⟩
      · rw [hres] at h1; cases h1)
    clear HA hR
    go_enter_defers Try.func43, Try.ntmps43
    go_wp2_with (go_at_call 44; refine HA'.mono ?_; rintro en w2 ⟨⟨rfl, P2, R2⟩, hu2⟩; have X2 := BX.upd hu2 nfr; have x0 := X2.cell1 0 _ rfl; have z0 := X2.frozen 0; have lt2 := X2.lt)
    have d0 := (X2.set 0 (.int .i64 0)).cell1 0 _ rfl
    refine leaves_cons (f := 75) (args := #[.pointer (some ⟨w.heap.size, 0, none⟩)]) (by simp) (by simp [go_sem]) ?_
    refine (catch_idle ⟨w.heap.size, 0, none⟩ _).mono ?_
    rintro en u' w3 ⟨rfl, rfl, rfl⟩
    have II : Is w.heap.size w.heap.size := rfl
    have u3 : Upd (Is w.heap.size) w2 (w2.setCell ⟨w.heap.size, 0, none⟩ (.int .i64 0)) := Upd.setCell (p := ⟨w.heap.size, 0, none⟩) (Upd.refl (Is w.heap.size) w2) (fun _ => II) _
    refine ⟨.int .i64 0, ?_, .inl ⟨e, P2, rfl, rfl, ?_⟩, ?_⟩
    · simp [results, Try.results43, go_sem, d0]
    · exact ⟨R2.rd.upd u3 (by unfold Is; omega) (fun k hk => by unfold Is; omega), ⟨row_upd R2.o.g u3 (fun k hk e => by have := (row_blk R2.o.g k hk).1; unfold Is at e; omega), row_upd R2.o.a u3 (fun k hk e => by have := (row_blk R2.o.a k hk).1; unfold Is at e; omega)⟩, R2.n, R2.m.1, by simp; exact R2.m.2⟩
    · exact upd_new ⟨w.heap.size, 0, none⟩ _ _ (Nat.le_refl _) (up hu2)
/-- What Decode leaves. -/
def DecPost (w : World) (R : Except Int Ed) (en : Ending) (w' : World) : Prop :=
  ((∃ e P, R = .ok e ∧ en = .returned (.tuple #[.agg (edA P e), .int .i64 0]) ∧ RdEd w' P e) ∨ ∃ c, R = .error c ∧ en = .returned (.tuple #[.agg (edA nilE ed0), .int .i64 c])) ∧ Below w.heap.size w w'
set_option maxRecDepth 100000 in
set_option maxHeartbeats 2000000 in
theorem decode_any {w : World} {a : Option Addr} {cap : Nat} {l : List Int} (hA : Arg w a l.length cap l) (hcap : l.length ≤ cap) (hlt : ∀ p : Addr, a = some p → p.block < w.heap.size) :
    Calls Try.prog 15 #[.slice a l.length cap] w (DecPost w (pEd l)) := by
  have hmf : ∀ (fn : Fn) (first cap : Array Value) (w : World), (Instr.makeFunc fn first cap).run Try.prog w = .ok (.func fn first cap) w := fun _ _ _ _ => rfl
  have hA' := hA.below (bstep (al1 w (.cells #[.int .u32 0, .bool false, .bool false, .string ⟨#[]⟩, .int .i64 0, .bool false, .bool false, .bool false, .int .u64 0, .int .u64 0, .int .u64 0, .slice none 0 0, .slice none 0 0] 27)) (al1 _ (.cells #[.slice a l.length cap, .int .u32 0, .bool false, .bool false, .string ⟨#[]⟩, .int .i64 0, .bool false, .bool false, .bool false, .int .u64 0, .int .u64 0, .int .u64 0, .slice none 0 0, .slice none 0 0] 80)))
  have BX := (Blk.new w 27 (edA nilE ed0).toList).alloc (.cells #[.slice a l.length cap, .int .u32 0, .bool false, .bool false, .string ⟨#[]⟩, .int .i64 0, .bool false, .bool false, .bool false, .int .u64 0, .int .u64 0, .int .u64 0, .slice none 0 0, .slice none 0 0] 80)
  have BR := Blk.new (w.alloc (.cells #[.int .u32 0, .bool false, .bool false, .string ⟨#[]⟩, .int .i64 0, .bool false, .bool false, .bool false, .int .u64 0, .int .u64 0, .int .u64 0, .slice none 0 0, .slice none 0 0] 27)) 80 (.slice a l.length cap :: (edA nilE ed0).toList)
  rw [World.size_alloc] at BR
  have hb : Below w.heap.size w ((w.alloc (.cells #[.int .u32 0, .bool false, .bool false, .string ⟨#[]⟩, .int .i64 0, .bool false, .bool false, .bool false, .int .u64 0, .int .u64 0, .int .u64 0, .slice none 0 0, .slice none 0 0] 27)).alloc (.cells #[.slice a l.length cap, .int .u32 0, .bool false, .bool false, .string ⟨#[]⟩, .int .i64 0, .bool false, .bool false, .bool false, .int .u64 0, .int .u64 0, .int .u64 0, .slice none 0 0, .slice none 0 0] 80)) := bstep (al1 _ _) (al1 _ _)
  have hs0 : ((w.alloc (.cells #[.int .u32 0, .bool false, .bool false, .string ⟨#[]⟩, .int .i64 0, .bool false, .bool false, .bool false, .int .u64 0, .int .u64 0, .int .u64 0, .slice none 0 0, .slice none 0 0] 27)).alloc (.cells #[.slice a l.length cap, .int .u32 0, .bool false, .bool false, .string ⟨#[]⟩, .int .i64 0, .bool false, .bool false, .bool false, .int .u64 0, .int .u64 0, .int .u64 0, .slice none 0 0, .slice none 0 0] 80)).heap.size = w.heap.size + 2 := by simp
  have RD : Rdl w.heap.size ((w.alloc (.cells #[.int .u32 0, .bool false, .bool false, .string ⟨#[]⟩, .int .i64 0, .bool false, .bool false, .bool false, .int .u64 0, .int .u64 0, .int .u64 0, .slice none 0 0, .slice none 0 0] 27)).alloc (.cells #[.slice a l.length cap, .int .u32 0, .bool false, .bool false, .string ⟨#[]⟩, .int .i64 0, .bool false, .bool false, .bool false, .int .u64 0, .int .u64 0, .int .u64 0, .slice none 0 0, .slice none 0 0] 80)) (w.heap.size + 1) l (edA nilE ed0).toList := ⟨a, cap, BR, hA', hcap, by omega, hlt⟩
  have HC := caught_any RD
  have nI : ¬ Is (w.heap.size + 1) w.heap.size := by unfold Is; omega
  obtain ⟨R, hR⟩ : ∃ R, pEd l = R := ⟨_, rfl⟩
  have her : ∀ c, R = .error c → (c != 0) = true := fun c h => (pEd_er (hR.trans h)).ne
  rw [hR] at HC ⊢
  clear hR hA' BR RD hA
  have HB : Hid (Below w.heap.size w ((w.alloc (.cells #[.int .u32 0, .bool false, .bool false, .string ⟨#[]⟩, .int .i64 0, .bool false, .bool false, .bool false, .int .u64 0, .int .u64 0, .int .u64 0, .slice none 0 0, .slice none 0 0] 27)).alloc (.cells #[.slice a l.length cap, .int .u32 0, .bool false, .bool false, .string ⟨#[]⟩, .int .i64 0, .bool false, .bool false, .bool false, .int .u64 0, .int .u64 0, .int .u64 0, .slice none 0 0, .slice none 0 0] 80))) := hb
  clear hb
  cases hres : R with
  | error c =>
    have hc := her c hres
    have HC' : Calls Try.prog 43 #[.func (.func 44) #[ptr (w.heap.size + 1)] #[]] ((w.alloc (.cells #[.int .u32 0, .bool false, .bool false, .string ⟨#[]⟩, .int .i64 0, .bool false, .bool false, .bool false, .int .u64 0, .int .u64 0, .int .u64 0, .slice none 0 0, .slice none 0 0] 27)).alloc (.cells #[.slice a l.length cap, .int .u32 0, .bool false, .bool false, .string ⟨#[]⟩, .int .i64 0, .bool false, .bool false, .bool false, .int .u64 0, .int .u64 0, .int .u64 0, .slice none 0 0, .slice none 0 0] 80)) fun en w' => en = .returned (.int .i64 c) ∧ Upd (Is (w.heap.size + 1)) ((w.alloc (.cells #[.int .u32 0, .bool false, .bool false, .string ⟨#[]⟩, .int .i64 0, .bool false, .bool false, .bool false, .int .u64 0, .int .u64 0, .int .u64 0, .slice none 0 0, .slice none 0 0] 27)).alloc (.cells #[.slice a l.length cap, .int .u32 0, .bool false, .bool false, .string ⟨#[]⟩, .int .i64 0, .bool false, .bool false, .bool false, .int .u64 0, .int .u64 0, .int .u64 0, .slice none 0 0, .slice none 0 0] 80)) w' := HC.mono (by
      rintro en w' ⟨⟨e, P, h1, _⟩ | ⟨c', h1, h2⟩, hu⟩
      · rw [hres] at h1; cases h1
      · rw [hres] at h1; cases h1; exact ⟨h2, hu⟩)
    clear HC her hres
    go_enter Try.func15, Try.ntmps15
    go_wp2_with (go_at_call 43; refine HC'.mono ?_; rintro en w2 ⟨rfl, hu2⟩
                 have X2 := BX.upd hu2 nI
                 obtain ⟨a0, a1, a2, a3, a4, a5, a6, a7, a8, a9, a10, a11, a12, la⟩ := ed13 X2
                 have f0 := X2.frozen 0
                 have f1 := X2.frozen 1
                 have f2 := X2.frozen 2
                 have f3 := X2.frozen 3
                 have f4 := X2.frozen 4
                 have f5 := X2.frozen 5
                 have f6 := X2.frozen 6
                 have f7 := X2.frozen 7
                 have f8 := X2.frozen 8
                 have f9 := X2.frozen 9
                 have f10 := X2.frozen 10
                 have f11 := X2.frozen 11
                 have f12 := X2.frozen 12)
    have Y := set13 X2 (.int .u32 0) (.bool false) (.bool false) (.string ⟨#[]⟩) (.int .i64 0) (.bool false) (.bool false) (.bool false) (.int .u64 0) (.int .u64 0) (.int .u64 0) (.slice none 0 0) (.slice none 0 0)
    obtain ⟨y0, y1, y2, y3, y4, y5, y6, y7, y8, y9, y10, y11, y12, _⟩ := ed13 (P := nilE) (e := ed0) Y
    have U := upd13 w2 w.heap.size (.int .u32 0) (.bool false) (.bool false) (.string ⟨#[]⟩) (.int .i64 0) (.bool false) (.bool false) (.bool false) (.int .u64 0) (.int .u64 0) (.int .u64 0) (.slice none 0 0) (.slice none 0 0)
    have b2 := Upd.bel HB.out hu2 (fun k hk => by unfold Is at hk; omega) HB.out.size
    have b3 := Upd.bel b2 U (fun k hk => by omega) b2.size
    have y2' := y2
    refine bodyPost_ret (v := .tuple #[.agg (edA nilE ed0), .int .i64 c]) ?_ rfl ⟨.inr ⟨c, rfl, rfl⟩, b3⟩
    clear hc hlt
    simp [results, Try.results15, go_sem, y0, y1, y2, y3, y4, y5, y6, y7, y8, y9, y10, y11, y12]
    try rfl
  | ok e =>
    have HC' : Calls Try.prog 43 #[.func (.func 44) #[ptr (w.heap.size + 1)] #[]] ((w.alloc (.cells #[.int .u32 0, .bool false, .bool false, .string ⟨#[]⟩, .int .i64 0, .bool false, .bool false, .bool false, .int .u64 0, .int .u64 0, .int .u64 0, .slice none 0 0, .slice none 0 0] 27)).alloc (.cells #[.slice a l.length cap, .int .u32 0, .bool false, .bool false, .string ⟨#[]⟩, .int .i64 0, .bool false, .bool false, .bool false, .int .u64 0, .int .u64 0, .int .u64 0, .slice none 0 0, .slice none 0 0] 80)) fun en w' => (en = .returned (.int .i64 0) ∧ ∃ P, Rs w.heap.size (((w.alloc (.cells #[.int .u32 0, .bool false, .bool false, .string ⟨#[]⟩, .int .i64 0, .bool false, .bool false, .bool false, .int .u64 0, .int .u64 0, .int .u64 0, .slice none 0 0, .slice none 0 0] 27)).alloc (.cells #[.slice a l.length cap, .int .u32 0, .bool false, .bool false, .string ⟨#[]⟩, .int .i64 0, .bool false, .bool false, .bool false, .int .u64 0, .int .u64 0, .int .u64 0, .slice none 0 0, .slice none 0 0] 80)).heap.size + 1) w' (w.heap.size + 1) [] P e) ∧ Upd (Is (w.heap.size + 1)) ((w.alloc (.cells #[.int .u32 0, .bool false, .bool false, .string ⟨#[]⟩, .int .i64 0, .bool false, .bool false, .bool false, .int .u64 0, .int .u64 0, .int .u64 0, .slice none 0 0, .slice none 0 0] 27)).alloc (.cells #[.slice a l.length cap, .int .u32 0, .bool false, .bool false, .string ⟨#[]⟩, .int .i64 0, .bool false, .bool false, .bool false, .int .u64 0, .int .u64 0, .int .u64 0, .slice none 0 0, .slice none 0 0] 80)) w' := HC.mono (by
      rintro en w' ⟨⟨e', P, h1, h2, h3⟩ | ⟨c', h1, h2⟩, hu⟩
      · rw [hres] at h1; cases h1; exact ⟨⟨h2, P, h3⟩, hu⟩
      · rw [hres] at h1; cases h1)
    clear HC her hres
    go_enter Try.func15, Try.ntmps15
    go_wp2_with (go_at_call 43; refine HC'.mono ?_; rintro en w2 ⟨⟨rfl, P2, R2⟩, hu2⟩
                 have X2 := BX.upd hu2 nI
                 obtain ⟨a0, a1, a2, a3, a4, a5, a6, a7, a8, a9, a10, a11, a12, la⟩ := ed13 X2
                 have f0 := X2.frozen 0
                 have f1 := X2.frozen 1
                 have f2 := X2.frozen 2
                 have f3 := X2.frozen 3
                 have f4 := X2.frozen 4
                 have f5 := X2.frozen 5
                 have f6 := X2.frozen 6
                 have f7 := X2.frozen 7
                 have f8 := X2.frozen 8
                 have f9 := X2.frozen 9
                 have f10 := X2.frozen 10
                 have f11 := X2.frozen 11
                 have f12 := X2.frozen 12
                 have lr := R2.rd.lt.1
                 obtain ⟨r0, _⟩ := R2.cell 0 _ rfl
                 obtain ⟨r1, _⟩ := R2.cell 1 _ rfl
                 obtain ⟨r2, _⟩ := R2.cell 2 _ rfl
                 obtain ⟨r3, _⟩ := R2.cell 3 _ rfl
                 obtain ⟨r4, _⟩ := R2.cell 4 _ rfl
                 obtain ⟨r5, _⟩ := R2.cell 5 _ rfl
                 obtain ⟨r6, _⟩ := R2.cell 6 _ rfl
                 obtain ⟨r7, _⟩ := R2.cell 7 _ rfl
                 obtain ⟨r8, _⟩ := R2.cell 8 _ rfl
                 obtain ⟨r9, _⟩ := R2.cell 9 _ rfl
                 obtain ⟨r10, _⟩ := R2.cell 10 _ rfl
                 obtain ⟨r11, _⟩ := R2.cell 11 _ rfl
                 obtain ⟨r12, _⟩ := R2.cell 12 _ rfl)
    have Y := set13 X2 (.int .u32 e.fam) (.bool e.ma) (.bool e.dr) (.string e.name) (.int .i64 e.how) (.bool e.hl) (.bool e.hn) (.bool e.hs) (.int .u64 e.log) (.int .u64 e.next) (.int .u64 e.seq) (.slice P2.ga e.gone.length P2.gc) (.slice P2.aa e.added.length P2.ac)
    obtain ⟨y0, y1, y2, y3, y4, y5, y6, y7, y8, y9, y10, y11, y12, _⟩ := ed13 (P := P2) (e := e) Y
    have U := upd13 w2 w.heap.size (.int .u32 e.fam) (.bool e.ma) (.bool e.dr) (.string e.name) (.int .i64 e.how) (.bool e.hl) (.bool e.hn) (.bool e.hs) (.int .u64 e.log) (.int .u64 e.next) (.int .u64 e.seq) (.slice P2.ga e.gone.length P2.gc) (.slice P2.aa e.added.length P2.ac)
    have b2 := Upd.bel HB.out hu2 (fun k hk => by unfold Is at hk; omega) HB.out.size
    have b3 := Upd.bel b2 U (fun k hk => by omega) b2.size
    have hn := R2.n
    have hO : OwnE _ _ P2 e := ⟨row_upd R2.o.g U (fun k hk e => by have := (row_blk R2.o.g k hk).1; omega), row_upd R2.o.a U (fun k hk e => by have := (row_blk R2.o.a k hk).1; omega)⟩
    refine bodyPost_ret (v := .tuple #[.agg (edA P2 e), .int .i64 0]) ?_ rfl ⟨.inl ⟨e, P2, rfl, rfl, hO.rd (by omega) (by omega)⟩, b3⟩
    simp [results, Try.results15, go_sem, y0, y1, y2, y3, y4, y5, y6, y7, y8, y9, y10, y11, y12]
end Go.Proofs.Ytkmpcheamdadcaa
