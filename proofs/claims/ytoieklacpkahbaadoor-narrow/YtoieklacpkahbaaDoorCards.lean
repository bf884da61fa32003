/-
  DERIVED. GIVEN WITH THE SEED: THE CARDS: each row of YtoieklacpkahbaaDoorRows.lean that lists a variable, with what it lists TIED to the program's text (the seventh form; the later family's looks); each row that meets fmt, with fmt's text TOLD by the authors' own Lean function (tested against real Go, not proved from fmt's source: count such statements apart). THE CARD IS WHAT COUNTS. Prove the row's statement (the work); the ties are given (YtoieklacpkahbaaDoorTie.lean); close each card by the builder's one call (the guide's Derived/Test/ToyasCard.lean, 'card_holds'). Laid BY PROGRAM, IN A SANDBOX (cutbox-door.mjs). By AI agents, Wed Nov 11 2026. No macro, syntax, notation, axiom, sorry.
-/
import Derived.Test.YtoieklacpkahbaaDoorRows
import GoSem.ClaimSeven
namespace Go.Proofs.YtoieklacpkahbaaDoor
namespace Rows

/-- THE TIED CARD OF 'tailorlaw.Scans'. -/
def scansCard : Claim7 := { stood := { row := scansRow, standIns := [], harness := (true, "85268e031402c53ad5d045faa27931839bc52a2d9fc1f2f77049d3abae79b7a5"), looks := false }, kinds := [], alts := [], laidByText := true, laidKinds := [.data, .pinned], laidTests := true, laidLooks := .later }
def ScansCardSaid : Prop := Claim7.holds Tryd.pinned (.plain (OpenSpec.ofChange scansSpec)) scansCard

/-- THE TIED CARD OF 'tailorlaw.Covers'. -/
def coversCard : Claim7 := { stood := { row := coversRow, standIns := [], harness := (true, "85268e031402c53ad5d045faa27931839bc52a2d9fc1f2f77049d3abae79b7a5"), looks := false }, kinds := [], alts := [], laidByText := true, laidKinds := [.data, .pinned], laidTests := true, laidLooks := .later }
def CoversCardSaid : Prop := Claim7.holds Tryd.pinned (.plain (OpenSpec.ofChange coversSpec)) coversCard

/-- THE TIED CARD OF 'tailorlaw.Same'. -/
def sameCard : Claim7 := { stood := { row := sameRow, standIns := [], harness := (true, "85268e031402c53ad5d045faa27931839bc52a2d9fc1f2f77049d3abae79b7a5"), looks := false }, kinds := [], alts := [], laidByText := true, laidKinds := [.data, .pinned], laidTests := true, laidLooks := .later }
def SameCardSaid : Prop := Claim7.holds Tryd.pinned (.plain (OpenSpec.ofChange sameSpec)) sameCard

/-- THE TIED CARD OF 'tailorlaw.Again'. -/
def againCard : Claim7 := { stood := { row := againRow, standIns := [], harness := (true, "85268e031402c53ad5d045faa27931839bc52a2d9fc1f2f77049d3abae79b7a5"), looks := false }, kinds := [], alts := [], laidByText := true, laidKinds := [.data, .pinned], laidTests := true, laidLooks := .later }
def AgainCardSaid : Prop := Claim7.holds Tryd.pinned (.plain (OpenSpec.ofChange againSpec)) againCard

/-- THE TIED CARD OF 'tailorlaw.Loose'. -/
def looseCard : Claim7 := { stood := { row := looseRow, standIns := [], harness := (true, "85268e031402c53ad5d045faa27931839bc52a2d9fc1f2f77049d3abae79b7a5"), looks := false }, kinds := [], alts := [], laidByText := true, laidKinds := [.data, .pinned], laidTests := true, laidLooks := .later }
def LooseCardSaid : Prop := Claim7.holds Tryd.pinned (.plain (OpenSpec.ofChange looseSpec)) looseCard

/-- THE TIED CARD OF 'tailorlaw.Neat'. -/
def neatCard : Claim7 := { stood := { row := neatRow, standIns := [], harness := (true, "85268e031402c53ad5d045faa27931839bc52a2d9fc1f2f77049d3abae79b7a5"), looks := false }, kinds := [], alts := [], laidByText := true, laidKinds := [.data, .pinned], laidTests := true, laidLooks := .later }
def NeatCardSaid : Prop := Claim7.holds Tryd.pinned (.plain (OpenSpec.ofChange neatSpec)) neatCard

/-- THE TIED CARD OF 'tailorlaw.Narrow'. -/
def narrowCard : Claim7 := { stood := { row := narrowRow, standIns := [], harness := (true, "85268e031402c53ad5d045faa27931839bc52a2d9fc1f2f77049d3abae79b7a5"), looks := false }, kinds := [], alts := [], laidByText := true, laidKinds := [.data, .pinned], laidTests := true, laidLooks := .later }
def NarrowCardSaid : Prop := Claim7.holds Tryd.pinned (.plain (OpenSpec.ofChange narrowSpec)) narrowCard

/-- THE SECOND FORM's CARD OF 'tailorlaw.Scans'. -/
def scansUptoCard : Claim7 := { stood := { row := scansUptoRow, standIns := [], harness := (true, "85268e031402c53ad5d045faa27931839bc52a2d9fc1f2f77049d3abae79b7a5"), looks := false }, kinds := [], alts := [], laidByText := true, laidKinds := [.data, .pinned], laidTests := true, laidLooks := .later }
def ScansUptoCardSaid : Prop := Claim7.holds Tryd.pinned (.plain (OpenSpec.upto scansSpec)) scansUptoCard

/-- THE SECOND FORM's CARD OF 'tailorlaw.Covers'. -/
def coversUptoCard : Claim7 := { stood := { row := coversUptoRow, standIns := [], harness := (true, "85268e031402c53ad5d045faa27931839bc52a2d9fc1f2f77049d3abae79b7a5"), looks := false }, kinds := [], alts := [], laidByText := true, laidKinds := [.data, .pinned], laidTests := true, laidLooks := .later }
def CoversUptoCardSaid : Prop := Claim7.holds Tryd.pinned (.plain (OpenSpec.upto coversSpec)) coversUptoCard

/-- THE SECOND FORM's CARD OF 'tailorlaw.Same'. -/
def sameUptoCard : Claim7 := { stood := { row := sameUptoRow, standIns := [], harness := (true, "85268e031402c53ad5d045faa27931839bc52a2d9fc1f2f77049d3abae79b7a5"), looks := false }, kinds := [], alts := [], laidByText := true, laidKinds := [.data, .pinned], laidTests := true, laidLooks := .later }
def SameUptoCardSaid : Prop := Claim7.holds Tryd.pinned (.plain (OpenSpec.upto sameSpec)) sameUptoCard

/-- THE SECOND FORM's CARD OF 'tailorlaw.Again'. -/
def againUptoCard : Claim7 := { stood := { row := againUptoRow, standIns := [], harness := (true, "85268e031402c53ad5d045faa27931839bc52a2d9fc1f2f77049d3abae79b7a5"), looks := false }, kinds := [], alts := [], laidByText := true, laidKinds := [.data, .pinned], laidTests := true, laidLooks := .later }
def AgainUptoCardSaid : Prop := Claim7.holds Tryd.pinned (.plain (OpenSpec.upto againSpec)) againUptoCard

/-- THE SECOND FORM's CARD OF 'tailorlaw.Loose'. -/
def looseUptoCard : Claim7 := { stood := { row := looseUptoRow, standIns := [], harness := (true, "85268e031402c53ad5d045faa27931839bc52a2d9fc1f2f77049d3abae79b7a5"), looks := false }, kinds := [], alts := [], laidByText := true, laidKinds := [.data, .pinned], laidTests := true, laidLooks := .later }
def LooseUptoCardSaid : Prop := Claim7.holds Tryd.pinned (.plain (OpenSpec.upto looseSpec)) looseUptoCard

/-- THE SECOND FORM's CARD OF 'tailorlaw.Neat'. -/
def neatUptoCard : Claim7 := { stood := { row := neatUptoRow, standIns := [], harness := (true, "85268e031402c53ad5d045faa27931839bc52a2d9fc1f2f77049d3abae79b7a5"), looks := false }, kinds := [], alts := [], laidByText := true, laidKinds := [.data, .pinned], laidTests := true, laidLooks := .later }
def NeatUptoCardSaid : Prop := Claim7.holds Tryd.pinned (.plain (OpenSpec.upto neatSpec)) neatUptoCard

/-- THE SECOND FORM's CARD OF 'tailorlaw.Narrow'. -/
def narrowUptoCard : Claim7 := { stood := { row := narrowUptoRow, standIns := [], harness := (true, "85268e031402c53ad5d045faa27931839bc52a2d9fc1f2f77049d3abae79b7a5"), looks := false }, kinds := [], alts := [], laidByText := true, laidKinds := [.data, .pinned], laidTests := true, laidLooks := .later }
def NarrowUptoCardSaid : Prop := Claim7.holds Tryd.pinned (.plain (OpenSpec.upto narrowSpec)) narrowUptoCard
end Rows
end Go.Proofs.YtoieklacpkahbaaDoor
