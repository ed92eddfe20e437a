import Derived.Test.YtkdjahgndkdnhaaZf
import Derived.Test.YtkdjahgndkdnhaaO
import Derived.Deep.DeepCutAuto
namespace Go.Proofs.Ytkdjahgndkdnhaa
open Go.RowKit Go.Maps Go.Shelf
set_option linter.unusedVariables false
set_option linter.unusedSimpArgs false
section
variable {w : World} {b : Nat} {rv : Value} {m : Nat} {ps : List Nat} {ts : List Tk} {H : Int → Option Int} {st : Nat} {wi : Bool} {c : Nat} {xb : Nat} {dv tv : Value} {T : List Int} {N : Nat}
/-- What Signal tells, and leaves. -/
def sigE (ts : List Tk) (on : Int) : Int := match waitL ts on with
  | [] => -1
  | n :: _ => n
def sigT (ts : List Tk) (on : Int) : List Tk := match waitL ts on with
  | [] => ts
  | n :: _ => goAt ts n
/-- What was told is laid. -/
theorem told_end {W w3 : World} {ts' : List Tk} {H' : Int → Option Int} {av : Option Addr} {cv : Nat} {y : Int} (hS : Sc W b rv m ps ts' H' st wi c) (hP : Pr W xb b dv tv T N) (U3 : Upd (fun k => tv.ownBlock = some k) W w3) (ho3 : w3.ownsRow N 3 1 (.slice av (T.length + 1) cv) (T.length + 1) (iz T ++ [.int .i64 y])) :
    Sc (w3.setCell ⟨xb, 2, none⟩ (.slice av (T.length + 1) cv)) b rv m ps ts' H' st wi c ∧ Pr (w3.setCell ⟨xb, 2, none⟩ (.slice av (T.length + 1) cv)) xb b dv (.slice av (T.length + 1) cv) (T ++ [y]) N ∧ Upd (fun k => k = xb ∨ tv.ownBlock = some k) W (w3.setCell ⟨xb, 2, none⟩ (.slice av (T.length + 1) cv)) := by
  have X3 := hP.blk.upd U3 (fun e => row_ne hP.told hP.blk (by decide) xb e rfl)
  have UX : Upd (fun k => k = xb) w3 (w3.setCell ⟨xb, 2, none⟩ (.slice av (T.length + 1) cv)) := Upd.setCell (p := ⟨xb, 2, none⟩) (Upd.refl (fun k => k = xb) w3) (fun _ => rfl) _
  have S3 := hS.upd U3 (fun k hk e => hS.not_sbr hP.told (by decide) (by decide) (by decide) k e hk)
  have nX : ∀ k, SB b rv m ps k → ¬ (fun k => k = xb) k := fun k hk e => S3.not_sb X3 (by decide) (by decide) (by decide) ((show k = xb from e) ▸ hk)
  have R3 := row_upd ho3 UX (fun k hk e => row_ne ho3 X3 (by decide) k hk e)
  have e1 : iz T ++ [Value.int .i64 y] = iz (T ++ [y]) := by simp [iz]
  have eT : (T ++ [y]).length = T.length + 1 := by simp
  rw [e1] at R3
  exact ⟨S3.upd UX nX, ⟨X3.set 2 _, by rw [eT]; exact R3⟩, Upd.then (U3.mono (fun k _ hk => .inr hk)) UX (fun i _ hi => .inl hi)⟩
theorem told_loc {W w3 : World} {av : Option Addr} {cv : Nat} (h : Value.ownBlock (.slice av (T.length + 1) cv) = tv.ownBlock ∨ Value.ownBlock (.slice av (T.length + 1) cv) = some W.heap.size) (hle : w.heap.size ≤ W.heap.size) : Value.ownBlock (.slice av (T.length + 1) cv) = tv.ownBlock ∨ ∀ k, Value.ownBlock (.slice av (T.length + 1) cv) = some k → w.heap.size ≤ k := by
  rcases h with e | e
  · exact .inl e
  · refine .inr (fun k hk => ?_)
    rw [e] at hk
    simp at hk
    omega
set_option maxRecDepth 100000 in
set_option maxHeartbeats 1600000 in
/-- A step's act: Signal. -/
theorem acts_signal (h : Sc w b rv m ps ts H st wi c) (hl : ps.length ≤ 64) (hA : Apt ts) (hP : Pr w xb b dv tv T N) (hN : N ≤ w.heap.size) (hT : T.length ≤ 100000000) (n : Int) (x : Int) :
    Calls Try.prog 52 #[ptr xb, .int .i64 n, .agg #[.int .i64 1, .int .i64 x]] w fun e w' => e = .returned (.tuple #[]) ∧ Sc w' b rv m ps (sigT ts x) H st wi c ∧ ∃ tv', Pr w' xb b dv tv' (T ++ [sigE ts x]) N ∧ Upd (fun k => k ∈ ps ∨ k = xb ∨ tv.ownBlock = some k) w w' ∧ (tv'.ownBlock = tv.ownBlock ∨ ∀ k, tv'.ownBlock = some k → w.heap.size ≤ k) := by
  have al := fun (W : World) (o : Obj) => (Below.refl W.heap.size W).alloc (Nat.le_refl _) o
  have hB1 := (al w (.cells #[.int .i64 1, .int .i64 x] 64)).drew
  have h1 := h.below hB1
  have hD1 := Blk.new w 64 [.int .i64 1, .int .i64 x]
  have p0 := hP.blk.cell1 0 _ rfl
  have lx := hP.blk.lt
  obtain ⟨ta, tc, rfl⟩ := row_form hP.told
  have P1 := hP.upd (S := Non) (Upd.ofBelow hB1) (fun h => h) (fun _ _ h => h)
  have D1 : Blk (w.alloc (.cells #[.int .i64 1, .int .i64 x] 64)).drew w.heap.size 64 [.int .i64 1, .int .i64 x] := hD1
  have hbel1 : Below w.heap.size w (w.alloc (.cells #[.int .i64 1, .int .i64 x] 64)).drew := hB1
  cases hw : waitL ts x with
  | nil =>
    have e1 : sigE ts x = -1 := by unfold sigE; rw [hw]
    have e2 : sigT ts x = ts := by unfold sigT; rw [hw]
    rw [e1, e2]
    have HS := signal_none h1 hl hA x hw
    go_enter Try.func52, Try.ntmps52
    go_wp2
    go_cut [6, 7] from 32 to 41 (fun a is wc => a = .int .i64 0 ∧ is = .bool false ∧ Below w.heap.size w wc)
    case first =>
      go_region_held_law (fun w' => w'.cell? ⟨xb, 0, none⟩ = some (ptr b) ∧ w'.cell? ⟨w.heap.size, 1, none⟩ = some (.int .i64 x))
        (first
          | (go_keep; done)
          | exact ⟨k0, k1⟩)
        (first | (go_at_call 34; refine HS.mono ?_; rintro e w1 ⟨rfl, hB2⟩
                  have k0 := (P1.blk.upd (S := Non) (Upd.ofBelow hB2) (fun h => h)).cell1 0 _ rfl
                  have k1 := (D1.upd (S := Non) (Upd.ofBelow hB2) (fun h => h)).cell1 1 _ rfl))
      all_goals go_wp2
      all_goals go_meet
      all_goals exact ⟨rfl, rfl, hbel1.trans (hB2.mono hbel1.size)⟩
    case rest =>
      obtain ⟨rfl, rfl, hBc⟩ := hcut
      have Pc := hP.upd (S := Non) (Upd.ofBelow hBc) (fun h => h) (fun _ _ h => h)
      have Sc1 := h.below hBc
      have x2 := Pc.blk.cell1 2 _ rfl
      have x3 := Pc.blk.cell1 3 _ rfl
      have z3 := Pc.blk.frozen 3
      have z2 := Pc.blk.frozen 2
      have lxc := Pc.blk.lt
      have UX : Upd (fun k => k = xb) wc (wc.setCell ⟨xb, 3, none⟩ (.bool false)) := Upd.setCell (p := ⟨xb, 3, none⟩) (Upd.refl (fun k => k = xb) wc) (fun _ => rfl) _
      have P3 : Pr (wc.setCell ⟨xb, 3, none⟩ (.bool false)) xb b dv (.slice ta T.length tc) T N := ⟨Pc.blk.set 3 _, row_upd Pc.told UX (fun k hk e => row_ne Pc.told Pc.blk (by decide) k hk e)⟩
      have S3 := Sc1.upd UX (fun k hk e => Sc1.not_sb Pc.blk (by decide) (by decide) (by decide) ((show k = xb from e) ▸ hk))
      have hcw : ((wc.setCell ⟨xb, 3, none⟩ (.bool false)).alloc (.cells #[.int .i64 (-1)] 3)).cell? ⟨wc.heap.size, 0, none⟩ = some (.int .i64 (-1)) := by
        have := World.cell?_alloc_new (wc.setCell ⟨xb, 3, none⟩ (.bool false)) #[.int .i64 (-1)] 3 0
        simpa using this
      go_wp2_with
        (at_builtin
         refine push1 rfl _ _ 30 3 (.int .i64 0) Try.underlying30 info3 rfl rfl rfl rfl (.int .i64 (-1)) rfl (P3.told.alloc _) hcw (by omega) (by have := hBc.size; simp; omega) ?_
         intro av cv w3 ho3 hg3 hl3
         have U3 : Upd (fun k => Value.ownBlock (.slice ta T.length tc) = some k) (wc.setCell ⟨xb, 3, none⟩ (.bool false)) w3 := ((Upd.refl _ _).alloc _).grown hg3 (fun k hk _ => hk)
         have X3 := P3.blk.upd U3 (fun e => row_ne P3.told P3.blk (by decide) xb e rfl)
         have y2 := X3.cell1 2 _ rfl
         have y3 := X3.frozen 2)
      go_end0
      obtain ⟨F1, F2, F3⟩ := told_end S3 P3 U3 ho3
      refine ⟨rfl, F1, _, F2, ?_, ?_⟩
      · exact Upd.then (Upd.then (Upd.ofBelow hBc) UX (fun i _ hi => .inr (.inl hi))) F3 (fun i _ hi => .inr hi)
      · exact told_loc (w3 := w3) hl3 (by have := hBc.size; simp; omega)
  | cons y l =>
    obtain ⟨t, ht, _⟩ := waitL_mem (ts := ts) (on := x) (x := y) (by rw [hw]; simp)
    have e1 : sigE ts x = y := by unfold sigE; rw [hw]
    have e2 : sigT ts x = ts.set y t.goes := by unfold sigT; rw [hw]; exact goAt_some ht
    rw [e1, e2]
    have HS := signal_some h1 hl hA x hw ht
    go_enter Try.func52, Try.ntmps52
    go_wp2
    go_cut [6, 7] from 32 to 41 (fun a is wc => a = .int .i64 y ∧ is = .bool true ∧ Sc wc b rv m ps (ts.set y t.goes) H st wi c ∧ Upd (fun k => k ∈ ps) w wc)
    case first =>
      go_region_held_law (fun w' => w'.cell? ⟨xb, 0, none⟩ = some (ptr b) ∧ w'.cell? ⟨w.heap.size, 1, none⟩ = some (.int .i64 x))
        (first
          | (go_keep; done)
          | exact ⟨k0, k1⟩)
        (first | (go_at_call 34; refine HS.mono ?_; rintro e w1 ⟨rfl, hS2, hU2⟩
                  have k0 := (P1.blk.upd hU2 (fun hm => h1.not_sb P1.blk (by decide) (by decide) (by decide) (.inr (.inr (.inr hm))))).cell1 0 _ rfl
                  have k1 := (D1.upd hU2 (fun hm => h1.not_sb D1 (by decide) (by decide) (by decide) (.inr (.inr (.inr hm))))).cell1 1 _ rfl))
      all_goals go_wp2
      all_goals go_meet
      all_goals exact ⟨rfl, rfl, hS2, Upd.trans (Upd.ofBelow hbel1) hU2⟩
    case rest =>
      obtain ⟨rfl, rfl, Sc1, hUc⟩ := hcut
      have Pc := hP.upd hUc (fun hm => h.not_sb hP.blk (by decide) (by decide) (by decide) (.inr (.inr (.inr hm)))) (fun k hk hm => h.not_sbr hP.told (by decide) (by decide) (by decide) k hk (.inr (.inr (.inr hm))))
      have x2 := Pc.blk.cell1 2 _ rfl
      have z2 := Pc.blk.frozen 2
      have lxc := Pc.blk.lt
      go_wp2_with
        (at_builtin
         refine push1 rfl _ _ 30 3 (.int .i64 0) Try.underlying30 info3 rfl rfl rfl rfl (.int .i64 y) rfl (Pc.told.alloc _) (by simp) (by omega) (by have := hUc.size; simp; omega) ?_
         intro av cv w3 ho3 hg3 hl3
         have U3 : Upd (fun k => Value.ownBlock (.slice ta T.length tc) = some k) wc w3 := ((Upd.refl _ _).alloc _).grown hg3 (fun k hk _ => hk)
         have X3 := Pc.blk.upd U3 (fun e => row_ne Pc.told Pc.blk (by decide) xb e rfl)
         have y2 := X3.cell1 2 _ rfl
         have y3 := X3.frozen 2)
      go_end0
      obtain ⟨F1, F2, F3⟩ := told_end Sc1 Pc U3 ho3
      refine ⟨rfl, F1, _, F2, ?_, ?_⟩
      · exact Upd.then (hUc.mono (fun k _ hk => .inl hk)) F3 (fun i _ hi => .inr hi)
      · exact told_loc (w3 := w3) hl3 (by have := hUc.size; simp; omega)
end
end Go.Proofs.Ytkdjahgndkdnhaa
