/-
  DERIVED. GIVEN WITH THE SEED: THE CARDS: each row of YthfcimmfkibmjaaGreatDoorRows.lean that lists a variable, with what it lists TIED to the program's text (the seventh form; the later family's looks); each row that meets fmt, with fmt's text TOLD by the authors' own Lean function (tested against real Go, not proved from fmt's source: count such statements apart). THE CARD IS WHAT COUNTS. Prove the row's statement (the work); the ties are given (YthfcimmfkibmjaaGreatDoorTie.lean); close each card by the builder's one call (the guide's Derived/Test/ToyasCard.lean, 'card_holds'). Laid BY PROGRAM, IN A SANDBOX (cutbox-door.mjs). By AI agents, Wed Nov 11 2026. No macro, syntax, notation, axiom, sorry.
-/
import Derived.Test.YthfcimmfkibmjaaGreatDoorRows
import GoSem.ClaimSeven
namespace Go.Proofs.YthfcimmfkibmjaaGreatDoor
namespace Rows

/-- THE TIED CARD OF 'pleatlaw04.WireWrites'. -/
def wireWritesCard : Claim7 := { stood := { row := wireWritesRow, standIns := [], harness := (true, "52ba85927e3a8655623613054735884d564049786db8af1a62392943c3ef1582"), looks := true }, kinds := [], alts := [], laidByText := true, laidKinds := [.data, .data, .data, .handle], laidTests := true, laidLooks := .later }
def WireWritesCardSaid : Prop := Claim7.holds Tryz.pinned (.plain (OpenSpec.ofChange wireWritesSpec)) wireWritesCard

/-- THE TIED CARD OF 'pleatlaw04.WireReads'. -/
def wireReadsCard : Claim7 := { stood := { row := wireReadsRow, standIns := [], harness := (true, "52ba85927e3a8655623613054735884d564049786db8af1a62392943c3ef1582"), looks := true }, kinds := [], alts := [], laidByText := true, laidKinds := [.data, .data, .data, .handle], laidTests := true, laidLooks := .later }
def WireReadsCardSaid : Prop := Claim7.holds Tryz.pinned (.plain (OpenSpec.ofChange wireReadsSpec)) wireReadsCard

/-- THE TIED CARD OF 'pleatlaw04.WireRound'. -/
def wireRoundCard : Claim7 := { stood := { row := wireRoundRow, standIns := [], harness := (true, "52ba85927e3a8655623613054735884d564049786db8af1a62392943c3ef1582"), looks := true }, kinds := [], alts := [], laidByText := true, laidKinds := [.handle], laidTests := true, laidLooks := .later }
def WireRoundCardSaid : Prop := Claim7.holds Tryz.pinned (.plain (OpenSpec.ofChange wireRoundSpec)) wireRoundCard

/-- THE SECOND FORM's CARD OF 'pleatlaw04.WireWrites'. -/
def wireWritesUptoCard : Claim7 := { stood := { row := wireWritesUptoRow, standIns := [], harness := (true, "52ba85927e3a8655623613054735884d564049786db8af1a62392943c3ef1582"), looks := true }, kinds := [], alts := [], laidByText := true, laidKinds := [.data, .data, .data, .handle], laidTests := true, laidLooks := .later }
def WireWritesUptoCardSaid : Prop := Claim7.holds Tryz.pinned (.plain (OpenSpec.upto wireWritesSpec)) wireWritesUptoCard

/-- THE SECOND FORM's CARD OF 'pleatlaw04.WireReads'. -/
def wireReadsUptoCard : Claim7 := { stood := { row := wireReadsUptoRow, standIns := [], harness := (true, "52ba85927e3a8655623613054735884d564049786db8af1a62392943c3ef1582"), looks := true }, kinds := [], alts := [], laidByText := true, laidKinds := [.data, .data, .data, .handle], laidTests := true, laidLooks := .later }
def WireReadsUptoCardSaid : Prop := Claim7.holds Tryz.pinned (.plain (OpenSpec.upto wireReadsSpec)) wireReadsUptoCard

/-- THE SECOND FORM's CARD OF 'pleatlaw04.WireRound'. -/
def wireRoundUptoCard : Claim7 := { stood := { row := wireRoundUptoRow, standIns := [], harness := (true, "52ba85927e3a8655623613054735884d564049786db8af1a62392943c3ef1582"), looks := true }, kinds := [], alts := [], laidByText := true, laidKinds := [.handle], laidTests := true, laidLooks := .later }
def WireRoundUptoCardSaid : Prop := Claim7.holds Tryz.pinned (.plain (OpenSpec.upto wireRoundSpec)) wireRoundUptoCard
end Rows
end Go.Proofs.YthfcimmfkibmjaaGreatDoor
