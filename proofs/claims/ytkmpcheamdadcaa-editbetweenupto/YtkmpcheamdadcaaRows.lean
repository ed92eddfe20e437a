/-
  No cell of these rows narrows 'for every input' (looked for: loops, veiled, ifaces, maps, wideKeys, modest, calm, conditions, laid).
  DERIVED. THE GIVEN ROWS OF THIS SEAT. 6 by the template 'for every input the law returns true; each argument reads behind the call as it read before'; 0 by the template 'total and deterministic' (their statements: YtkmpcheamdadcaaTotals.lean).
  GIVEN WITH THE SEED: the statements are not yours to turn. If you find one false, say at which input.
  Laid BY PROGRAM, IN A SANDBOX (cutbox-rows.mjs): the forced cells as the released guide's own fill.sh prints them over the translation c62cf261adcf2d60… (all of the seat's roots in one cut). By AI agents, Wed Nov 11 2026. No macro, syntax, notation, axiom, sorry.
-/
import Derived.Test.YtkmpcheamdadcaaChecked
import GoSem.Claim
import GoSem.ClaimJoined
import GoSem.ClaimMapViews
import Derived.JoinedTies
import Derived.KernelRfl
namespace Go.Proofs.Ytkmpcheamdadcaa
/- THE CELL 'sum', in the pinned program and in every row, IS THE sha256 OF THE DUMP (.gsa) THAT YtkmpcheamdadcaaProg.lean LOADS. Nothing in Lean hashes anything: it is a label: what it is worth is what the hold of that sum in a sandbox is worth. -/
noncomputable def Try.pinned : Pinned := { name := "ytkmpcheamdadcaa", sum := "c62cf261adcf2d6025d2065893ca416b1a4fdaf3817dbcc498305be5ddfc9bc9", checked := Try.checked }
namespace Rows
def none {H : Type} : Left H := { results := [], args := [] }

/-- 'sedimentlaw13.EditEncodes': WHATEVER THE INPUT: true; the input reads as it did. -/
def editEncodesSpec : ChangeSpec := { name := "editEncodes", fn := fun _ => fun
  | [d1, d2] => { results := [.lit (.bool true)], args := [d1, d2] }
  | _ => none }
def editEncodesRow : OpenClaim := { program := "ytkmpcheamdadcaa", sum := "c62cf261adcf2d6025d2065893ca416b1a4fdaf3817dbcc498305be5ddfc9bc9", func := "sediment/sedimentlaw13.EditEncodes", spec := "editEncodes", inPlace := ["internal/bytealg.abigen_runtime_cmpstring", "slices.overlaps[sediment/api.File]"], unfollowed := true, recurses := true, plainKeys := false, apart := false }
def EditEncodesSaid : Prop := editEncodesRow.holds Try.pinned (OpenSpec.ofChange editEncodesSpec)

/-- ITS FALSE NEIGHBOUR: 'it returns false'. Refute it at one input. -/
def editEncodesWrong : ChangeSpec := { name := "editEncodes", fn := fun _ => fun
  | [d1, d2] => { results := [.lit (.bool false)], args := [d1, d2] }
  | _ => none }
def EditEncodesWrongFalsely : Prop := editEncodesRow.holds Try.pinned (OpenSpec.ofChange editEncodesWrong)

/-- 'sedimentlaw13.EditDecodes': WHATEVER THE INPUT: true; the input reads as it did. -/
def editDecodesSpec : ChangeSpec := { name := "editDecodes", fn := fun _ => fun
  | [d] => { results := [.lit (.bool true)], args := [d] }
  | _ => none }
def editDecodesRow : OpenClaim := { program := "ytkmpcheamdadcaa", sum := "c62cf261adcf2d6025d2065893ca416b1a4fdaf3817dbcc498305be5ddfc9bc9", func := "sediment/sedimentlaw13.EditDecodes", spec := "editDecodes", inPlace := ["internal/bytealg.abigen_runtime_cmpstring", "slices.overlaps[sediment/api.File]"], unfollowed := true, recurses := true, plainKeys := false, apart := false }
def EditDecodesSaid : Prop := editDecodesRow.holds Try.pinned (OpenSpec.ofChange editDecodesSpec)

/-- ITS FALSE NEIGHBOUR: 'it returns false'. Refute it at one input. -/
def editDecodesWrong : ChangeSpec := { name := "editDecodes", fn := fun _ => fun
  | [d] => { results := [.lit (.bool false)], args := [d] }
  | _ => none }
def EditDecodesWrongFalsely : Prop := editDecodesRow.holds Try.pinned (OpenSpec.ofChange editDecodesWrong)

/-- 'sedimentlaw13.EditApplies': WHATEVER THE INPUT: true; the input reads as it did. -/
def editAppliesSpec : ChangeSpec := { name := "editApplies", fn := fun _ => fun
  | [d1, d2, d3] => { results := [.lit (.bool true)], args := [d1, d2, d3] }
  | _ => none }
def editAppliesRow : OpenClaim := { program := "ytkmpcheamdadcaa", sum := "c62cf261adcf2d6025d2065893ca416b1a4fdaf3817dbcc498305be5ddfc9bc9", func := "sediment/sedimentlaw13.EditApplies", spec := "editApplies", inPlace := ["internal/bytealg.abigen_runtime_cmpstring", "slices.overlaps[sediment/api.File]"], unfollowed := true, recurses := true, plainKeys := false, apart := false }
def EditAppliesSaid : Prop := editAppliesRow.holds Try.pinned (OpenSpec.ofChange editAppliesSpec)

/-- ITS FALSE NEIGHBOUR: 'it returns false'. Refute it at one input. -/
def editAppliesWrong : ChangeSpec := { name := "editApplies", fn := fun _ => fun
  | [d1, d2, d3] => { results := [.lit (.bool false)], args := [d1, d2, d3] }
  | _ => none }
def EditAppliesWrongFalsely : Prop := editAppliesRow.holds Try.pinned (OpenSpec.ofChange editAppliesWrong)

/-- 'sedimentlaw13.EditBetween': WHATEVER THE INPUT: true; the input reads as it did. -/
def editBetweenSpec : ChangeSpec := { name := "editBetween", fn := fun _ => fun
  | [d1, d2, d3] => { results := [.lit (.bool true)], args := [d1, d2, d3] }
  | _ => none }
def editBetweenRow : OpenClaim := { program := "ytkmpcheamdadcaa", sum := "c62cf261adcf2d6025d2065893ca416b1a4fdaf3817dbcc498305be5ddfc9bc9", func := "sediment/sedimentlaw13.EditBetween", spec := "editBetween", inPlace := ["internal/bytealg.abigen_runtime_cmpstring", "slices.overlaps[sediment/api.File]"], unfollowed := true, recurses := true, plainKeys := false, apart := false }
def EditBetweenSaid : Prop := editBetweenRow.holds Try.pinned (OpenSpec.ofChange editBetweenSpec)

/-- ITS FALSE NEIGHBOUR: 'it returns false'. Refute it at one input. -/
def editBetweenWrong : ChangeSpec := { name := "editBetween", fn := fun _ => fun
  | [d1, d2, d3] => { results := [.lit (.bool false)], args := [d1, d2, d3] }
  | _ => none }
def EditBetweenWrongFalsely : Prop := editBetweenRow.holds Try.pinned (OpenSpec.ofChange editBetweenWrong)

/-- 'sedimentlaw13.EditOverlaps': WHATEVER THE INPUT: true; the input reads as it did. -/
def editOverlapsSpec : ChangeSpec := { name := "editOverlaps", fn := fun _ => fun
  | [d1, d2, d3] => { results := [.lit (.bool true)], args := [d1, d2, d3] }
  | _ => none }
def editOverlapsRow : OpenClaim := { program := "ytkmpcheamdadcaa", sum := "c62cf261adcf2d6025d2065893ca416b1a4fdaf3817dbcc498305be5ddfc9bc9", func := "sediment/sedimentlaw13.EditOverlaps", spec := "editOverlaps", inPlace := ["internal/bytealg.abigen_runtime_cmpstring", "slices.overlaps[sediment/api.File]"], unfollowed := true, recurses := true, plainKeys := false, apart := false }
def EditOverlapsSaid : Prop := editOverlapsRow.holds Try.pinned (OpenSpec.ofChange editOverlapsSpec)

/-- ITS FALSE NEIGHBOUR: 'it returns false'. Refute it at one input. -/
def editOverlapsWrong : ChangeSpec := { name := "editOverlaps", fn := fun _ => fun
  | [d1, d2, d3] => { results := [.lit (.bool false)], args := [d1, d2, d3] }
  | _ => none }
def EditOverlapsWrongFalsely : Prop := editOverlapsRow.holds Try.pinned (OpenSpec.ofChange editOverlapsWrong)

/-- 'sedimentlaw13.EditBack': WHATEVER THE INPUT: true; the input reads as it did. -/
def editBackSpec : ChangeSpec := { name := "editBack", fn := fun _ => fun
  | [d1, d2, d3] => { results := [.lit (.bool true)], args := [d1, d2, d3] }
  | _ => none }
def editBackRow : OpenClaim := { program := "ytkmpcheamdadcaa", sum := "c62cf261adcf2d6025d2065893ca416b1a4fdaf3817dbcc498305be5ddfc9bc9", func := "sediment/sedimentlaw13.EditBack", spec := "editBack", inPlace := ["internal/bytealg.abigen_runtime_cmpstring", "slices.overlaps[sediment/api.File]"], unfollowed := true, recurses := true, plainKeys := false, apart := false }
def EditBackSaid : Prop := editBackRow.holds Try.pinned (OpenSpec.ofChange editBackSpec)

/-- ITS FALSE NEIGHBOUR: 'it returns false'. Refute it at one input. -/
def editBackWrong : ChangeSpec := { name := "editBack", fn := fun _ => fun
  | [d1, d2, d3] => { results := [.lit (.bool false)], args := [d1, d2, d3] }
  | _ => none }
def EditBackWrongFalsely : Prop := editBackRow.holds Try.pinned (OpenSpec.ofChange editBackWrong)

/- THE SECOND FORM. 'bulk': how many values and letters a reading holds, each counted each time it is reached (what is shared counts as often as it is met; a slice's spare places count too). A statement '..UptoSaid' is the law's where the arguments, and the package variables that the reading takes, are together of bulk at most 1048576: NARROWER than '..Said'. Prove '..Said' where nothing that the law and all that it calls make is longer than what came in: it says more and counts as full. Else prove '..UptoSaid'. A law counts once. -/
mutual
def uptoBulk {H : Type} : DataW H → Nat
  | .lit (.string bytes) => bytes.length + 1
  | .lit _ => 1
  | .nil => 1
  | .ptr d => uptoBulk d + 1
  | .slice elems spare => uptoBulkAll elems + uptoBulkAll spare + 1
  | .agg parts => uptoBulkAll parts + 1
  | .iface _ d => uptoBulk d + 1
  | .map entries => uptoBulkEntries entries + 1
  | .held _ => 1
def uptoBulkAll {H : Type} : List (DataW H) → Nat
  | [] => 0
  | d :: r => uptoBulk d + uptoBulkAll r
def uptoBulkEntries {H : Type} : List (Lit × DataW H) → Nat
  | [] => 0
  | x :: r => uptoBulkEntry x + uptoBulkEntries r
def uptoBulkEntry {H : Type} : Lit × DataW H → Nat
  | (.string bytes, d) => bytes.length + uptoBulk d + 1
  | (_, d) => uptoBulk d + 1
 end
def uptoSmall : (H : Type) → List (DataW H) → Bool := fun _ ds => decide (uptoBulkAll ds ≤ 1048576)
def OpenSpec.upto (s : _root_.Go.ChangeSpec) : _root_.Go.OpenSpec := { _root_.Go.OpenSpec.ofChange s with cond := some uptoSmall }

/-- 'sedimentlaw13.EditEncodes', WHERE WHAT IT READS IS OF BULK AT MOST 1048576: true; the input reads as it did. -/
def editEncodesUptoRow : OpenClaim := { program := "ytkmpcheamdadcaa", sum := "c62cf261adcf2d6025d2065893ca416b1a4fdaf3817dbcc498305be5ddfc9bc9", func := "sediment/sedimentlaw13.EditEncodes", spec := "editEncodes", inPlace := ["internal/bytealg.abigen_runtime_cmpstring", "slices.overlaps[sediment/api.File]"], unfollowed := true, recurses := true, plainKeys := false, apart := false, narrowed := true }
def EditEncodesUptoSaid : Prop := editEncodesUptoRow.holds Try.pinned (OpenSpec.upto editEncodesSpec)

/-- 'sedimentlaw13.EditDecodes', WHERE WHAT IT READS IS OF BULK AT MOST 1048576: true; the input reads as it did. -/
def editDecodesUptoRow : OpenClaim := { program := "ytkmpcheamdadcaa", sum := "c62cf261adcf2d6025d2065893ca416b1a4fdaf3817dbcc498305be5ddfc9bc9", func := "sediment/sedimentlaw13.EditDecodes", spec := "editDecodes", inPlace := ["internal/bytealg.abigen_runtime_cmpstring", "slices.overlaps[sediment/api.File]"], unfollowed := true, recurses := true, plainKeys := false, apart := false, narrowed := true }
def EditDecodesUptoSaid : Prop := editDecodesUptoRow.holds Try.pinned (OpenSpec.upto editDecodesSpec)

/-- 'sedimentlaw13.EditApplies', WHERE WHAT IT READS IS OF BULK AT MOST 1048576: true; the input reads as it did. -/
def editAppliesUptoRow : OpenClaim := { program := "ytkmpcheamdadcaa", sum := "c62cf261adcf2d6025d2065893ca416b1a4fdaf3817dbcc498305be5ddfc9bc9", func := "sediment/sedimentlaw13.EditApplies", spec := "editApplies", inPlace := ["internal/bytealg.abigen_runtime_cmpstring", "slices.overlaps[sediment/api.File]"], unfollowed := true, recurses := true, plainKeys := false, apart := false, narrowed := true }
def EditAppliesUptoSaid : Prop := editAppliesUptoRow.holds Try.pinned (OpenSpec.upto editAppliesSpec)

/-- 'sedimentlaw13.EditBetween', WHERE WHAT IT READS IS OF BULK AT MOST 1048576: true; the input reads as it did. -/
def editBetweenUptoRow : OpenClaim := { program := "ytkmpcheamdadcaa", sum := "c62cf261adcf2d6025d2065893ca416b1a4fdaf3817dbcc498305be5ddfc9bc9", func := "sediment/sedimentlaw13.EditBetween", spec := "editBetween", inPlace := ["internal/bytealg.abigen_runtime_cmpstring", "slices.overlaps[sediment/api.File]"], unfollowed := true, recurses := true, plainKeys := false, apart := false, narrowed := true }
def EditBetweenUptoSaid : Prop := editBetweenUptoRow.holds Try.pinned (OpenSpec.upto editBetweenSpec)

/-- 'sedimentlaw13.EditOverlaps', WHERE WHAT IT READS IS OF BULK AT MOST 1048576: true; the input reads as it did. -/
def editOverlapsUptoRow : OpenClaim := { program := "ytkmpcheamdadcaa", sum := "c62cf261adcf2d6025d2065893ca416b1a4fdaf3817dbcc498305be5ddfc9bc9", func := "sediment/sedimentlaw13.EditOverlaps", spec := "editOverlaps", inPlace := ["internal/bytealg.abigen_runtime_cmpstring", "slices.overlaps[sediment/api.File]"], unfollowed := true, recurses := true, plainKeys := false, apart := false, narrowed := true }
def EditOverlapsUptoSaid : Prop := editOverlapsUptoRow.holds Try.pinned (OpenSpec.upto editOverlapsSpec)

/-- 'sedimentlaw13.EditBack', WHERE WHAT IT READS IS OF BULK AT MOST 1048576: true; the input reads as it did. -/
def editBackUptoRow : OpenClaim := { program := "ytkmpcheamdadcaa", sum := "c62cf261adcf2d6025d2065893ca416b1a4fdaf3817dbcc498305be5ddfc9bc9", func := "sediment/sedimentlaw13.EditBack", spec := "editBack", inPlace := ["internal/bytealg.abigen_runtime_cmpstring", "slices.overlaps[sediment/api.File]"], unfollowed := true, recurses := true, plainKeys := false, apart := false, narrowed := true }
def EditBackUptoSaid : Prop := editBackUptoRow.holds Try.pinned (OpenSpec.upto editBackSpec)

end Rows
end Go.Proofs.Ytkmpcheamdadcaa
