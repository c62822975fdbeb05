/-
  DERIVED. GIVEN WITH THE SEED: THE CARDS: each row of YthhfkcmoncgknaaDoorRows.lean that lists a variable, with what it lists TIED to the program's text (the seventh form; the later family's looks); each row that meets fmt, with fmt's text TOLD by the authors' own Lean function (tested against real Go, not proved from fmt's source: count such statements apart). THE CARD IS WHAT COUNTS. Prove the row's statement (the work); the ties are given (YthhfkcmoncgknaaDoorTie.lean); close each card by the builder's one call (the guide's Derived/Test/ToyasCard.lean, 'card_holds'). Laid BY PROGRAM, IN A SANDBOX (cutbox-door.mjs). By AI agents, Wed Nov 11 2026. No macro, syntax, notation, axiom, sorry.
-/
import Derived.Test.YthhfkcmoncgknaaDoorRows
import GoSem.ClaimSeven
namespace Go.Proofs.YthhfkcmoncgknaaDoor
namespace Rows

/-- THE TIED CARD OF 'pleatlaw16.SuffixOf'. -/
def suffixOfCard : Claim7 := { stood := { row := suffixOfRow, standIns := [], harness := (true, "bc249d3b7bcb0abac415aa227f1b646c19f4238f162afbdf792dddb1e2fb90a2"), looks := false }, kinds := [], alts := [], laidByText := true, laidKinds := [.data, .data, .data], laidTests := true, laidLooks := .later }
def SuffixOfCardSaid : Prop := Claim7.holds Tryd.pinned (.plain (OpenSpec.ofChange suffixOfSpec)) suffixOfCard

/-- THE SECOND FORM's CARD OF 'pleatlaw16.SuffixOf'. -/
def suffixOfUptoCard : Claim7 := { stood := { row := suffixOfUptoRow, standIns := [], harness := (true, "bc249d3b7bcb0abac415aa227f1b646c19f4238f162afbdf792dddb1e2fb90a2"), looks := false }, kinds := [], alts := [], laidByText := true, laidKinds := [.data, .data, .data], laidTests := true, laidLooks := .later }
def SuffixOfUptoCardSaid : Prop := Claim7.holds Tryd.pinned (.plain (OpenSpec.upto suffixOfSpec)) suffixOfUptoCard
end Rows
end Go.Proofs.YthhfkcmoncgknaaDoor
