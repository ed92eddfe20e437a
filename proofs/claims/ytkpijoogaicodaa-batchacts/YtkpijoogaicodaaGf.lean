import Derived.Test.YtkpijoogaicodaaGd
import Derived.Test.YtkpijoogaicodaaPc
import Derived.Test.YtkpijoogaicodaaMw
import Derived.Test.YtkpijoogaicodaaSc
namespace Go.Proofs.Ytkpijoogaicodaa
open Go.RowKit
set_option linter.unusedVariables false
set_option linter.unusedSimpArgs false

/-- Records that tell of no value where they have none. -/
def Pl (l : List Rec) : Prop := l.map plainR = l
theorem plainR_idem (r : Rec) : plainR (plainR r) = plainR r := by
  unfold plainR
  by_cases h : r.kind = 0
  · simp [h]
  · simp [h]
theorem Pl.nil : Pl [] := rfl
theorem Pl.map (l : List Rec) : Pl (l.map plainR) := by
  unfold Pl
  rw [List.map_map]
  exact List.map_congr_left fun r _ => plainR_idem r
theorem Pl.take {l : List Rec} (h : Pl l) (m : Nat) : Pl (l.take m) := by
  unfold Pl at *
  rw [List.map_take, h]
theorem Pl.app {l m : List Rec} (h : Pl l) (k : Pl m) : Pl (l ++ m) := by
  unfold Pl at *
  rw [List.map_append, h, k]
theorem Pl.one (r : Rec) : Pl [plainR r] := by unfold Pl; simp [plainR_idem]
theorem Pl.add {rs : List Rec} (h : Pl rs) (r : Rec) : Pl (addL rs r) := by
  unfold addL
  split
  · exact h.app (Pl.one r)
  · exact h
theorem fbad_one (r : Rec) : fbad [r] = rchk r := by
  unfold fbad
  split
  · rename_i h; rw [h]; rfl
  · rfl
/-- One record: the program's Add and the reference's answer the same. -/
theorem qadE_one (rs : List Rec) (r : Rec) : qadE rs [r] = addE rs r := by
  unfold qadE addE
  rw [fbad_one, szs_snoc]
  simp only [List.length_singleton, Nat.add_assoc]
theorem qadL_one {rs : List Rec} (h : Pl rs) (r : Rec) : qadL rs [r] = addL rs r := by
  unfold qadL addL
  rw [qadE_one]
  split
  · rw [List.map_append, h]; rfl
  · rfl
/-- What Delete adds is what a record of its kind, whatever its value, adds. -/
theorem addE_del (rs : List Rec) (f : Int) (key val : ByteArray) : addE rs ⟨f, 0, key, ⟨#[]⟩⟩ = addE rs ⟨f, 0, key, val⟩ := by
  simp [addE, rchk, chk, rz, rsz]
theorem addL_del (rs : List Rec) (f : Int) (key val : ByteArray) : addL rs ⟨f, 0, key, ⟨#[]⟩⟩ = addL rs ⟨f, 0, key, val⟩ := by
  unfold addL
  rw [addE_del rs f key val]
  simp [plainR]
theorem szs_map_plain (l : List Rec) : szs (l.map plainR) = szs l := by
  induction l with
  | nil => rfl
  | cons r l ih =>
    have := rz_plain r
    simp only [rz] at this
    simp [szs, ih, this]
theorem rchk_plain {r : Rec} (h : rchk r = 0) : rchk (plainR r) = 0 := by
  unfold plainR
  split
  · rename_i hk
    have hz := rchk_zero h
    unfold rchk chk
    dsimp only
    rw [if_neg (by omega), if_neg (by omega), if_neg (fun hh => hh.1 hk)]
  · exact h
/-- Append: many plain records that a Batch held. -/
theorem qadE_many {rs os : List Rec} (hc : ∀ r ∈ os, rchk r = 0) : qadE rs os = apE rs os := by
  unfold qadE apE
  rw [if_neg (by rw [fbad_zero hc]; decide), szs_app]
  simp only [Nat.add_assoc]
theorem qadL_many {rs os : List Rec} (h : Pl rs) (k : Pl os) (hc : ∀ r ∈ os, rchk r = 0) : qadL rs os = apL rs os := by
  unfold qadL apL
  rw [qadE_many hc]
  split
  · exact h.app k
  · rfl
end Go.Proofs.Ytkpijoogaicodaa
