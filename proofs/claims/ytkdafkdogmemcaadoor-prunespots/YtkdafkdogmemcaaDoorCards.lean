/-
  DERIVED. GIVEN WITH THE SEED: THE CARDS: each row of YtkdafkdogmemcaaDoorRows.lean that lists a variable, with what it lists TIED to the program's text (the seventh form; the later family's looks); each row that meets fmt, with fmt's text TOLD by the authors' own Lean function (tested against real Go, not proved from fmt's source: count such statements apart). THE CARD IS WHAT COUNTS. Prove the row's statement (the work); the ties are given (YtkdafkdogmemcaaDoorTie.lean); close each card by the builder's one call (the guide's Derived/Test/ToyasCard.lean, 'card_holds'). Laid BY PROGRAM, IN A SANDBOX (cutbox-door.mjs). By AI agents, Wed Nov 11 2026. No macro, syntax, notation, axiom, sorry.
-/
import Derived.Test.YtkdafkdogmemcaaDoorRows
import GoSem.ClaimSeven
namespace Go.Proofs.YtkdafkdogmemcaaDoor
namespace Rows

/-- THE TIED CARD OF 'pleatlaw20.PruneSpots'. -/
def pruneSpotsCard : Claim7 := { stood := { row := pruneSpotsRow, standIns := [], harness := (true, "8a7767bc179ae864eff4ecfc7deb4eb6aea5e0cef4b521d24a68f13569e73656"), looks := false }, kinds := [], alts := [], laidByText := true, laidKinds := [.data, .data, .data], laidTests := true, laidLooks := .later }
def PruneSpotsCardSaid : Prop := Claim7.holds Tryd.pinned (.plain (OpenSpec.ofChange pruneSpotsSpec)) pruneSpotsCard

/-- THE SECOND FORM's CARD OF 'pleatlaw20.PruneSpots'. -/
def pruneSpotsUptoCard : Claim7 := { stood := { row := pruneSpotsUptoRow, standIns := [], harness := (true, "8a7767bc179ae864eff4ecfc7deb4eb6aea5e0cef4b521d24a68f13569e73656"), looks := false }, kinds := [], alts := [], laidByText := true, laidKinds := [.data, .data, .data], laidTests := true, laidLooks := .later }
def PruneSpotsUptoCardSaid : Prop := Claim7.holds Tryd.pinned (.plain (OpenSpec.upto pruneSpotsSpec)) pruneSpotsUptoCard
end Rows
end Go.Proofs.YtkdafkdogmemcaaDoor
