/-
  DERIVED. GIVEN WITH THE SEED: THE CARDS: each row of YtbckolkgncajfaaGreatDoorRows.lean that lists a variable, with what it lists TIED to the program's text (the seventh form; the later family's looks); each row that meets fmt, with fmt's text TOLD by the authors' own Lean function (tested against real Go, not proved from fmt's source: count such statements apart). THE CARD IS WHAT COUNTS. Prove the row's statement (the work); the ties are given (YtbckolkgncajfaaGreatDoorTie.lean); close each card by the builder's one call (the guide's Derived/Test/ToyasCard.lean, 'card_holds'). Laid BY PROGRAM, IN A SANDBOX (cutbox-door.mjs). By AI agents, Wed Nov 11 2026. No macro, syntax, notation, axiom, sorry.
-/
import Derived.Test.YtbckolkgncajfaaGreatDoorRows
import GoSem.ClaimSeven
namespace Go.Proofs.YtbckolkgncajfaaGreatDoor
namespace Rows

/-- THE TIED CARD OF 'pleatlaw06.ListWords'. -/
def listWordsCard : Claim7 := { stood := { row := listWordsRow, standIns := [], harness := (true, "0a5f2a056b84f258f7034ef9f3376e647d4da2cec37aa136400eec2e4b9cbea9"), looks := false }, kinds := [], alts := [], laidByText := true, laidKinds := [.data, .data, .data, .data, .data], laidTests := true, laidLooks := .later }
def ListWordsCardSaid : Prop := Claim7.holds Tryz.pinned (.plain (OpenSpec.ofChange listWordsSpec)) listWordsCard

/-- THE TIED CARD OF 'pleatlaw06.ListObjects'. -/
def listObjectsCard : Claim7 := { stood := { row := listObjectsRow, standIns := [], harness := (true, "0a5f2a056b84f258f7034ef9f3376e647d4da2cec37aa136400eec2e4b9cbea9"), looks := false }, kinds := [], alts := [], laidByText := true, laidKinds := [.data, .data, .data, .data, .data], laidTests := true, laidLooks := .later }
def ListObjectsCardSaid : Prop := Claim7.holds Tryz.pinned (.plain (OpenSpec.ofChange listObjectsSpec)) listObjectsCard

/-- THE SECOND FORM's CARD OF 'pleatlaw06.ListWords'. -/
def listWordsUptoCard : Claim7 := { stood := { row := listWordsUptoRow, standIns := [], harness := (true, "0a5f2a056b84f258f7034ef9f3376e647d4da2cec37aa136400eec2e4b9cbea9"), looks := false }, kinds := [], alts := [], laidByText := true, laidKinds := [.data, .data, .data, .data, .data], laidTests := true, laidLooks := .later }
def ListWordsUptoCardSaid : Prop := Claim7.holds Tryz.pinned (.plain (OpenSpec.upto listWordsSpec)) listWordsUptoCard

/-- THE SECOND FORM's CARD OF 'pleatlaw06.ListObjects'. -/
def listObjectsUptoCard : Claim7 := { stood := { row := listObjectsUptoRow, standIns := [], harness := (true, "0a5f2a056b84f258f7034ef9f3376e647d4da2cec37aa136400eec2e4b9cbea9"), looks := false }, kinds := [], alts := [], laidByText := true, laidKinds := [.data, .data, .data, .data, .data], laidTests := true, laidLooks := .later }
def ListObjectsUptoCardSaid : Prop := Claim7.holds Tryz.pinned (.plain (OpenSpec.upto listObjectsSpec)) listObjectsUptoCard
end Rows
end Go.Proofs.YtbckolkgncajfaaGreatDoor
