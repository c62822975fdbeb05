/-
  DERIVED. GIVEN WITH THE SEED: THE CARDS: each row of YtokhclindfipbaaGreatDoorRows.lean that lists a variable, with what it lists TIED to the program's text (the seventh form; the later family's looks); each row that meets fmt, with fmt's text TOLD by the authors' own Lean function (tested against real Go, not proved from fmt's source: count such statements apart). THE CARD IS WHAT COUNTS. Prove the row's statement (the work); the ties are given (YtokhclindfipbaaGreatDoorTie.lean); close each card by the builder's one call (the guide's Derived/Test/ToyasCard.lean, 'card_holds'). Laid BY PROGRAM, IN A SANDBOX (cutbox-door.mjs). By AI agents, Wed Nov 11 2026. No macro, syntax, notation, axiom, sorry.
-/
import Derived.Test.YtokhclindfipbaaGreatDoorRows
import GoSem.ClaimSeven
namespace Go.Proofs.YtokhclindfipbaaGreatDoor
namespace Rows

/-- THE TIED CARD OF 'pleatlaw18.RepeatAll'. -/
def repeatAllCard : Claim7 := { stood := { row := repeatAllRow, standIns := [], harness := (true, "18361f84f523a8ef1717a86490700da9f109f923cfc988a934d9d5c2e770802d"), looks := false }, kinds := [], alts := [], laidByText := true, laidKinds := [.data, .data, .data], laidTests := true, laidLooks := .later }
def RepeatAllCardSaid : Prop := Claim7.holds Tryz.pinned (.plain (OpenSpec.ofChange repeatAllSpec)) repeatAllCard

/-- THE SECOND FORM's CARD OF 'pleatlaw18.RepeatAll'. -/
def repeatAllUptoCard : Claim7 := { stood := { row := repeatAllUptoRow, standIns := [], harness := (true, "18361f84f523a8ef1717a86490700da9f109f923cfc988a934d9d5c2e770802d"), looks := false }, kinds := [], alts := [], laidByText := true, laidKinds := [.data, .data, .data], laidTests := true, laidLooks := .later }
def RepeatAllUptoCardSaid : Prop := Claim7.holds Tryz.pinned (.plain (OpenSpec.upto repeatAllSpec)) repeatAllUptoCard
end Rows
end Go.Proofs.YtokhclindfipbaaGreatDoor
