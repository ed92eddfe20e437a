/-
  DERIVED. GIVEN WITH THE SEED: THE CARDS: each row of YtocanjefonlnaaaDoorRows.lean that lists a variable, with what it lists TIED to the program's text (the seventh form; the later family's looks); each row that meets fmt, with fmt's text TOLD by the authors' own Lean function (tested against real Go, not proved from fmt's source: count such statements apart). THE CARD IS WHAT COUNTS. Prove the row's statement (the work); the ties are given (YtocanjefonlnaaaDoorTie.lean); close each card by the builder's one call (the guide's Derived/Test/ToyasCard.lean, 'card_holds'). Laid BY PROGRAM, IN A SANDBOX (cutbox-door.mjs). By AI agents, Wed Nov 11 2026. No macro, syntax, notation, axiom, sorry.
-/
import Derived.Test.YtocanjefonlnaaaDoorRows
import GoSem.ClaimSeven
namespace Go.Proofs.YtocanjefonlnaaaDoor
namespace Rows

/-- THE TIED CARD OF 'sedimentlaw07.MemtableActs'. -/
def memtableActsCard : Claim7 := { stood := { row := memtableActsRow, standIns := [], harness := (true, "2e2844580ad39b5616dfbdabf77b395088bb151c4a32277a092be836ad15a964"), looks := false }, kinds := [], alts := [], laidByText := true, laidKinds := [.data, .data], laidTests := true, laidLooks := .later }
def MemtableActsCardSaid : Prop := Claim7.holds Tryd.pinned (.plain (OpenSpec.ofChange memtableActsSpec)) memtableActsCard

/-- THE TIED CARD OF 'sedimentlaw07.MemtableSees'. -/
def memtableSeesCard : Claim7 := { stood := { row := memtableSeesRow, standIns := [], harness := (true, "2e2844580ad39b5616dfbdabf77b395088bb151c4a32277a092be836ad15a964"), looks := false }, kinds := [], alts := [], laidByText := true, laidKinds := [.data, .data], laidTests := true, laidLooks := .later }
def MemtableSeesCardSaid : Prop := Claim7.holds Tryd.pinned (.plain (OpenSpec.ofChange memtableSeesSpec)) memtableSeesCard

/-- THE TIED CARD OF 'sedimentlaw07.MemtableMap'. -/
def memtableMapCard : Claim7 := { stood := { row := memtableMapRow, standIns := [], harness := (true, "2e2844580ad39b5616dfbdabf77b395088bb151c4a32277a092be836ad15a964"), looks := false }, kinds := [], alts := [], laidByText := true, laidKinds := [.data, .data], laidTests := true, laidLooks := .later }
def MemtableMapCardSaid : Prop := Claim7.holds Tryd.pinned (.plain (OpenSpec.ofChange memtableMapSpec)) memtableMapCard

/-- THE TIED CARD OF 'sedimentlaw07.MemtableHeights'. -/
def memtableHeightsCard : Claim7 := { stood := { row := memtableHeightsRow, standIns := [], harness := (true, "2e2844580ad39b5616dfbdabf77b395088bb151c4a32277a092be836ad15a964"), looks := false }, kinds := [], alts := [], laidByText := true, laidKinds := [.data, .data], laidTests := true, laidLooks := .later }
def MemtableHeightsCardSaid : Prop := Claim7.holds Tryd.pinned (.plain (OpenSpec.ofChange memtableHeightsSpec)) memtableHeightsCard

/-- THE SECOND FORM's CARD OF 'sedimentlaw07.MemtableActs'. -/
def memtableActsUptoCard : Claim7 := { stood := { row := memtableActsUptoRow, standIns := [], harness := (true, "2e2844580ad39b5616dfbdabf77b395088bb151c4a32277a092be836ad15a964"), looks := false }, kinds := [], alts := [], laidByText := true, laidKinds := [.data, .data], laidTests := true, laidLooks := .later }
def MemtableActsUptoCardSaid : Prop := Claim7.holds Tryd.pinned (.plain (OpenSpec.upto memtableActsSpec)) memtableActsUptoCard

/-- THE SECOND FORM's CARD OF 'sedimentlaw07.MemtableSees'. -/
def memtableSeesUptoCard : Claim7 := { stood := { row := memtableSeesUptoRow, standIns := [], harness := (true, "2e2844580ad39b5616dfbdabf77b395088bb151c4a32277a092be836ad15a964"), looks := false }, kinds := [], alts := [], laidByText := true, laidKinds := [.data, .data], laidTests := true, laidLooks := .later }
def MemtableSeesUptoCardSaid : Prop := Claim7.holds Tryd.pinned (.plain (OpenSpec.upto memtableSeesSpec)) memtableSeesUptoCard

/-- THE SECOND FORM's CARD OF 'sedimentlaw07.MemtableMap'. -/
def memtableMapUptoCard : Claim7 := { stood := { row := memtableMapUptoRow, standIns := [], harness := (true, "2e2844580ad39b5616dfbdabf77b395088bb151c4a32277a092be836ad15a964"), looks := false }, kinds := [], alts := [], laidByText := true, laidKinds := [.data, .data], laidTests := true, laidLooks := .later }
def MemtableMapUptoCardSaid : Prop := Claim7.holds Tryd.pinned (.plain (OpenSpec.upto memtableMapSpec)) memtableMapUptoCard

/-- THE SECOND FORM's CARD OF 'sedimentlaw07.MemtableHeights'. -/
def memtableHeightsUptoCard : Claim7 := { stood := { row := memtableHeightsUptoRow, standIns := [], harness := (true, "2e2844580ad39b5616dfbdabf77b395088bb151c4a32277a092be836ad15a964"), looks := false }, kinds := [], alts := [], laidByText := true, laidKinds := [.data, .data], laidTests := true, laidLooks := .later }
def MemtableHeightsUptoCardSaid : Prop := Claim7.holds Tryd.pinned (.plain (OpenSpec.upto memtableHeightsSpec)) memtableHeightsUptoCard
end Rows
end Go.Proofs.YtocanjefonlnaaaDoor
