/-
  DERIVED. GIVEN WITH THE SEED: THE CARDS: each row of YtoieklacpkahbaaGreatDoorRows.lean that lists a variable, with what it lists TIED to the program's text (the seventh form; the later family's looks); each row that meets fmt, with fmt's text TOLD by the authors' own Lean function (tested against real Go, not proved from fmt's source: count such statements apart). THE CARD IS WHAT COUNTS. Prove the row's statement (the work); the ties are given (YtoieklacpkahbaaGreatDoorTie.lean); close each card by the builder's one call (the guide's Derived/Test/ToyasCard.lean, 'card_holds'). Laid BY PROGRAM, IN A SANDBOX (cutbox-door.mjs). By AI agents, Wed Nov 11 2026. No macro, syntax, notation, axiom, sorry.
-/
import Derived.Test.YtoieklacpkahbaaGreatDoorRows
import GoSem.ClaimSeven
namespace Go.Proofs.YtoieklacpkahbaaGreatDoor
namespace Rows

/-- THE TIED CARD OF 'tailorlaw.Formats'. -/
def formatsCard : Claim7 := { stood := { row := formatsRow, standIns := [], harness := (true, "5fc4aacf3205a26af8d0ae9faecf774a43b6013835de48a7470ded45163a1f3a"), looks := false }, kinds := [], alts := [], goes := true, laidByText := true, laidKinds := [.data, .pinned], laidTests := true, laidLooks := .later }
def FormatsCardSaid : Prop := Claim7.holds Tryz.pinned (.plain (OpenSpec.ofChange formatsSpec)) formatsCard

/-- THE TIED CARD OF 'tailorlaw.Boxes'. -/
def boxesCard : Claim7 := { stood := { row := boxesRow, standIns := [], harness := (true, "5fc4aacf3205a26af8d0ae9faecf774a43b6013835de48a7470ded45163a1f3a"), looks := false }, kinds := [], alts := [], goes := true, laidByText := true, laidKinds := [.data, .pinned], laidTests := true, laidLooks := .later }
def BoxesCardSaid : Prop := Claim7.holds Tryz.pinned (.plain (OpenSpec.ofChange boxesSpec)) boxesCard

/-- THE TIED CARD OF 'tailorlaw.Apart'. -/
def apartCard : Claim7 := { stood := { row := apartRow, standIns := [], harness := (true, "5fc4aacf3205a26af8d0ae9faecf774a43b6013835de48a7470ded45163a1f3a"), looks := false }, kinds := [], alts := [], goes := true, laidByText := true, laidKinds := [.data, .pinned], laidTests := true, laidLooks := .later }
def ApartCardSaid : Prop := Claim7.holds Tryz.pinned (.plain (OpenSpec.ofChange apartSpec)) apartCard

/-- THE TIED CARD OF 'tailorlaw.Safe'. -/
def safeCard : Claim7 := { stood := { row := safeRow, standIns := [], harness := (true, "5fc4aacf3205a26af8d0ae9faecf774a43b6013835de48a7470ded45163a1f3a"), looks := false }, kinds := [], alts := [], goes := true, laidByText := true, laidKinds := [.data, .pinned], laidTests := true, laidLooks := .later }
def SafeCardSaid : Prop := Claim7.holds Tryz.pinned (.plain (OpenSpec.ofChange safeSpec)) safeCard

/-- THE SECOND FORM's CARD OF 'tailorlaw.Formats'. -/
def formatsUptoCard : Claim7 := { stood := { row := formatsUptoRow, standIns := [], harness := (true, "5fc4aacf3205a26af8d0ae9faecf774a43b6013835de48a7470ded45163a1f3a"), looks := false }, kinds := [], alts := [], goes := true, laidByText := true, laidKinds := [.data, .pinned], laidTests := true, laidLooks := .later }
def FormatsUptoCardSaid : Prop := Claim7.holds Tryz.pinned (.plain (OpenSpec.upto formatsSpec)) formatsUptoCard

/-- THE SECOND FORM's CARD OF 'tailorlaw.Boxes'. -/
def boxesUptoCard : Claim7 := { stood := { row := boxesUptoRow, standIns := [], harness := (true, "5fc4aacf3205a26af8d0ae9faecf774a43b6013835de48a7470ded45163a1f3a"), looks := false }, kinds := [], alts := [], goes := true, laidByText := true, laidKinds := [.data, .pinned], laidTests := true, laidLooks := .later }
def BoxesUptoCardSaid : Prop := Claim7.holds Tryz.pinned (.plain (OpenSpec.upto boxesSpec)) boxesUptoCard

/-- THE SECOND FORM's CARD OF 'tailorlaw.Apart'. -/
def apartUptoCard : Claim7 := { stood := { row := apartUptoRow, standIns := [], harness := (true, "5fc4aacf3205a26af8d0ae9faecf774a43b6013835de48a7470ded45163a1f3a"), looks := false }, kinds := [], alts := [], goes := true, laidByText := true, laidKinds := [.data, .pinned], laidTests := true, laidLooks := .later }
def ApartUptoCardSaid : Prop := Claim7.holds Tryz.pinned (.plain (OpenSpec.upto apartSpec)) apartUptoCard

/-- THE SECOND FORM's CARD OF 'tailorlaw.Safe'. -/
def safeUptoCard : Claim7 := { stood := { row := safeUptoRow, standIns := [], harness := (true, "5fc4aacf3205a26af8d0ae9faecf774a43b6013835de48a7470ded45163a1f3a"), looks := false }, kinds := [], alts := [], goes := true, laidByText := true, laidKinds := [.data, .pinned], laidTests := true, laidLooks := .later }
def SafeUptoCardSaid : Prop := Claim7.holds Tryz.pinned (.plain (OpenSpec.upto safeSpec)) safeUptoCard
end Rows
end Go.Proofs.YtoieklacpkahbaaGreatDoor
