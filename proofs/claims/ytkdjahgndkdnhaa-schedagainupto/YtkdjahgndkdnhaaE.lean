import Derived.Test.YtkdjahgndkdnhaaD
import Derived.Defers
import Derived.Recover
namespace Go.Proofs.Ytkdjahgndkdnhaa
open Go.RowKit Go.Maps
set_option linter.unusedVariables false
set_option linter.unusedSimpArgs false
def plainK (k : Int) : Int := if k < 0 ∨ 4 < k then 4 else k
def plainO (k o : Int) : Int := if k < 0 ∨ 4 < k then 0 else o
/-- What a task is behind a wish. -/
def Tk.wished (t : Tk) (k o : Int) (st : Nat) : Tk := { t with kind := plainK k, on := plainO k o, since := st, step := if plainK k = 4 then .nilFunc else t.step }
section
variable {w : World} {b p : Nat} {rv : Value} {m : Nat} {t : Tk} {st : Nat} {wi : Bool}
set_option maxRecDepth 100000 in
set_option maxHeartbeats 1000000 in
theorem wishes_any (hb : Blk w b 71 (scC rv m st wi)) (hp : Blk w p 85 t.c) (k o : Int) :
    Calls Try.prog 63 #[ptr b, ptr p, .agg #[.int .i64 k, .int .i64 o]] w fun e w' => e = .returned (.tuple #[]) ∧ Blk w' p 85 (t.wished k o st).c ∧ Upd (fun j => j = p) w w' := by
  have hl := hp.lt
  have B := Blk.new w 55 [.int .i64 k, .int .i64 o]
  have a2 := hb.cell1 2 _ rfl
  have hbl := hb.lt
  have p1 := hp.cell1 1 _ rfl
  have p2 := hp.cell1 2 _ rfl
  have p3 := hp.cell1 3 _ rfl
  have p4 := hp.cell1 4 _ rfl
  have f1 := hp.frozen 1
  have f2 := hp.frozen 2
  have f3 := hp.frozen 3
  have f4 := hp.frozen 4
  have hbp : b ≠ p := (hp.ne hb (by decide)).symm
  have hsn := fun (W : World) (a : Addr) (md : Mode) => run_store Try.prog W a .nilFunc md rfl
  have UX : ∀ (a c d : Value) (o : Obj), Upd (fun j => j = p) w ((((w.setCell ⟨p, 2, none⟩ a).setCell ⟨p, 3, none⟩ c).setCell ⟨p, 4, none⟩ d).alloc o).drew := fun a c d o =>
    (((((Upd.refl (fun j => j = p) w).setCell (p := ⟨p, 2, none⟩) (fun _ => rfl) a).setCell (p := ⟨p, 3, none⟩) (fun _ => rfl) c).setCell (p := ⟨p, 4, none⟩) (fun _ => rfl) d).alloc o).drew
  have UY : ∀ (a c d f : Value) (o : Obj), Upd (fun j => j = p) w (((((w.setCell ⟨p, 2, none⟩ a).setCell ⟨p, 3, none⟩ c).setCell ⟨p, 4, none⟩ d).setCell ⟨p, 1, none⟩ f).alloc o).drew := fun a c d f o =>
    ((((((Upd.refl (fun j => j = p) w).setCell (p := ⟨p, 2, none⟩) (fun _ => rfl) a).setCell (p := ⟨p, 3, none⟩) (fun _ => rfl) c).setCell (p := ⟨p, 4, none⟩) (fun _ => rfl) d).setCell (p := ⟨p, 1, none⟩) (fun _ => rfl) f).alloc o).drew
  have BX : ∀ (a c d : Value) (o : Obj), Blk ((((w.setCell ⟨p, 2, none⟩ a).setCell ⟨p, 3, none⟩ c).setCell ⟨p, 4, none⟩ d).alloc o).drew p 85 [.string t.name, t.step, a, c, d, .bool t.failed] := fun a c d o =>
    ((((hp.set 2 a).set 3 c).set 4 d).alloc o).drew
  have BY : ∀ (a c d f : Value) (o : Obj), Blk (((((w.setCell ⟨p, 2, none⟩ a).setCell ⟨p, 3, none⟩ c).setCell ⟨p, 4, none⟩ d).setCell ⟨p, 1, none⟩ f).alloc o).drew p 85 [.string t.name, f, a, c, d, .bool t.failed] := fun a c d f o =>
    (((((hp.set 2 a).set 3 c).set 4 d).set 1 f).alloc o).drew
  by_cases hk : k < 0 ∨ 4 < k
  · have HW : Hid (t.wished k o st = ⟨t.name, .nilFunc, 4, 0, st, t.failed⟩) := by unfold Hid; simp [Tk.wished, plainK, plainO, hk]
    go_enter Try.func63, Try.ntmps63
    go_wp2
    all_goals (go_region; go_wp2; go_end0; exact ⟨rfl, by rw [HW.out]; exact BY _ _ _ _ _, UY _ _ _ _ _⟩)
  · by_cases h4 : k = 4
    · subst h4
      have HW : Hid (t.wished 4 o st = ⟨t.name, .nilFunc, 4, o, st, t.failed⟩) := by unfold Hid; simp [Tk.wished, plainK, plainO]
      go_enter Try.func63, Try.ntmps63
      go_wp2
      go_region
      go_wp2
      go_end0
      exact ⟨rfl, by rw [HW.out]; exact BY _ _ _ _ _, UY _ _ _ _ _⟩
    · have q4 : (k == 4) = false := by simpa using h4
      have HW : Hid (t.wished k o st = ⟨t.name, t.step, k, o, st, t.failed⟩) := by unfold Hid; simp [Tk.wished, plainK, plainO, hk, h4]
      go_enter Try.func63, Try.ntmps63
      go_wp2
      go_region
      go_wp2
      go_end0
      exact ⟨rfl, by rw [HW.out]; exact BX _ _ _ _, UX _ _ _ _⟩
end
end Go.Proofs.Ytkdjahgndkdnhaa
