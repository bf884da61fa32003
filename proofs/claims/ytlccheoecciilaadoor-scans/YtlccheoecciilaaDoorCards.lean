/-
  DERIVED. GIVEN WITH THE SEED: THE CARDS: each row of YtlccheoecciilaaDoorRows.lean that lists a variable, with what it lists TIED to the program's text (the seventh form; the later family's looks); each row that meets fmt, with fmt's text TOLD by the authors' own Lean function (tested against real Go, not proved from fmt's source: count such statements apart). THE CARD IS WHAT COUNTS. Prove the row's statement (the work); the ties are given (YtlccheoecciilaaDoorTie.lean); close each card by the builder's one call (the guide's Derived/Test/ToyasCard.lean, 'card_holds'). Laid BY PROGRAM, IN A SANDBOX (cutbox-door.mjs). By AI agents, Wed Nov 11 2026. No macro, syntax, notation, axiom, sorry.
-/
import Derived.Test.YtlccheoecciilaaDoorRows
import GoSem.ClaimSeven
namespace Go.Proofs.YtlccheoecciilaaDoor
namespace Rows

/-- THE TIED CARD OF 'tailorlaw.Scans'. -/
def scansCard : Claim7 := { stood := { row := scansRow, standIns := [], harness := (true, "7c3ea00896a8518240f6a91b98e1b3dc134ee516ee2516f49374f6e998298461"), looks := false }, kinds := [], alts := [], laidByText := true, laidKinds := [.data, .pinned], laidTests := true, laidLooks := .later }
def ScansCardSaid : Prop := Claim7.holds Tryd.pinned (.plain (OpenSpec.ofChange scansSpec)) scansCard

/-- THE TIED CARD OF 'tailorlaw.Covers'. -/
def coversCard : Claim7 := { stood := { row := coversRow, standIns := [], harness := (true, "7c3ea00896a8518240f6a91b98e1b3dc134ee516ee2516f49374f6e998298461"), looks := false }, kinds := [], alts := [], laidByText := true, laidKinds := [.data, .pinned], laidTests := true, laidLooks := .later }
def CoversCardSaid : Prop := Claim7.holds Tryd.pinned (.plain (OpenSpec.ofChange coversSpec)) coversCard

/-- THE SECOND FORM's CARD OF 'tailorlaw.Scans'. -/
def scansUptoCard : Claim7 := { stood := { row := scansUptoRow, standIns := [], harness := (true, "7c3ea00896a8518240f6a91b98e1b3dc134ee516ee2516f49374f6e998298461"), looks := false }, kinds := [], alts := [], laidByText := true, laidKinds := [.data, .pinned], laidTests := true, laidLooks := .later }
def ScansUptoCardSaid : Prop := Claim7.holds Tryd.pinned (.plain (OpenSpec.upto scansSpec)) scansUptoCard

/-- THE SECOND FORM's CARD OF 'tailorlaw.Covers'. -/
def coversUptoCard : Claim7 := { stood := { row := coversUptoRow, standIns := [], harness := (true, "7c3ea00896a8518240f6a91b98e1b3dc134ee516ee2516f49374f6e998298461"), looks := false }, kinds := [], alts := [], laidByText := true, laidKinds := [.data, .pinned], laidTests := true, laidLooks := .later }
def CoversUptoCardSaid : Prop := Claim7.holds Tryd.pinned (.plain (OpenSpec.upto coversSpec)) coversUptoCard
end Rows
end Go.Proofs.YtlccheoecciilaaDoor
