/-
  DERIVED. GIVEN WITH THE SEED: THE CARDS: each row of YtpmaiblgnblpeaaDoorRows.lean that lists a variable, with what it lists TIED to the program's text (the seventh form; the later family's looks); each row that meets fmt, with fmt's text TOLD by the authors' own Lean function (tested against real Go, not proved from fmt's source: count such statements apart). THE CARD IS WHAT COUNTS. Prove the row's statement (the work); the ties are given (YtpmaiblgnblpeaaDoorTie.lean); close each card by the builder's one call (the guide's Derived/Test/ToyasCard.lean, 'card_holds'). Laid BY PROGRAM, IN A SANDBOX (cutbox-door.mjs). By AI agents, Wed Nov 11 2026. No macro, syntax, notation, axiom, sorry.
-/
import Derived.Test.YtpmaiblgnblpeaaDoorRows
import GoSem.ClaimSeven
namespace Go.Proofs.YtpmaiblgnblpeaaDoor
namespace Rows

/-- THE TIED CARD OF 'pleatlaw17.CommonPrefixes'. -/
def commonPrefixesCard : Claim7 := { stood := { row := commonPrefixesRow, standIns := [], harness := (true, "d3a4c8fbf4c06beadcdc6eca9a09e1a710949230a5dd31e6cdbc33e48d51b2d8"), looks := false }, kinds := [], alts := [], laidByText := true, laidKinds := [.data, .data, .data], laidTests := true, laidLooks := .later }
def CommonPrefixesCardSaid : Prop := Claim7.holds Tryd.pinned (.plain (OpenSpec.ofChange commonPrefixesSpec)) commonPrefixesCard

/-- THE SECOND FORM's CARD OF 'pleatlaw17.CommonPrefixes'. -/
def commonPrefixesUptoCard : Claim7 := { stood := { row := commonPrefixesUptoRow, standIns := [], harness := (true, "d3a4c8fbf4c06beadcdc6eca9a09e1a710949230a5dd31e6cdbc33e48d51b2d8"), looks := false }, kinds := [], alts := [], laidByText := true, laidKinds := [.data, .data, .data], laidTests := true, laidLooks := .later }
def CommonPrefixesUptoCardSaid : Prop := Claim7.holds Tryd.pinned (.plain (OpenSpec.upto commonPrefixesSpec)) commonPrefixesUptoCard
end Rows
end Go.Proofs.YtpmaiblgnblpeaaDoor
