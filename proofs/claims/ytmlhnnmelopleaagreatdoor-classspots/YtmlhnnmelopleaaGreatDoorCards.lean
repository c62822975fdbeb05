/-
  DERIVED. GIVEN WITH THE SEED: THE CARDS: each row of YtmlhnnmelopleaaGreatDoorRows.lean that lists a variable, with what it lists TIED to the program's text (the seventh form; the later family's looks); each row that meets fmt, with fmt's text TOLD by the authors' own Lean function (tested against real Go, not proved from fmt's source: count such statements apart). THE CARD IS WHAT COUNTS. Prove the row's statement (the work); the ties are given (YtmlhnnmelopleaaGreatDoorTie.lean); close each card by the builder's one call (the guide's Derived/Test/ToyasCard.lean, 'card_holds'). Laid BY PROGRAM, IN A SANDBOX (cutbox-door.mjs). By AI agents, Wed Nov 11 2026. No macro, syntax, notation, axiom, sorry.
-/
import Derived.Test.YtmlhnnmelopleaaGreatDoorRows
import GoSem.ClaimSeven
namespace Go.Proofs.YtmlhnnmelopleaaGreatDoor
namespace Rows

/-- THE TIED CARD OF 'pleatlaw19.ClassKinds'. -/
def classKindsCard : Claim7 := { stood := { row := classKindsRow, standIns := [], harness := (true, "715106eaa799e4d6e5e5cc1714dabbb053ff8ad57e7c933e24aa1cc45f4b890c"), looks := false }, kinds := [], alts := [], laidByText := true, laidKinds := [.data], laidTests := true, laidLooks := .later }
def ClassKindsCardSaid : Prop := Claim7.holds Tryz.pinned (.plain (OpenSpec.ofChange classKindsSpec)) classKindsCard

/-- THE TIED CARD OF 'pleatlaw19.ClassSpots'. -/
def classSpotsCard : Claim7 := { stood := { row := classSpotsRow, standIns := [], harness := (true, "715106eaa799e4d6e5e5cc1714dabbb053ff8ad57e7c933e24aa1cc45f4b890c"), looks := false }, kinds := [], alts := [], laidByText := true, laidKinds := [.data], laidTests := true, laidLooks := .later }
def ClassSpotsCardSaid : Prop := Claim7.holds Tryz.pinned (.plain (OpenSpec.ofChange classSpotsSpec)) classSpotsCard

/-- THE TIED CARD OF 'pleatlaw19.ClassAlike'. -/
def classAlikeCard : Claim7 := { stood := { row := classAlikeRow, standIns := [], harness := (true, "715106eaa799e4d6e5e5cc1714dabbb053ff8ad57e7c933e24aa1cc45f4b890c"), looks := false }, kinds := [], alts := [], laidByText := true, laidKinds := [.data], laidTests := true, laidLooks := .later }
def ClassAlikeCardSaid : Prop := Claim7.holds Tryz.pinned (.plain (OpenSpec.ofChange classAlikeSpec)) classAlikeCard

/-- THE SECOND FORM's CARD OF 'pleatlaw19.ClassKinds'. -/
def classKindsUptoCard : Claim7 := { stood := { row := classKindsUptoRow, standIns := [], harness := (true, "715106eaa799e4d6e5e5cc1714dabbb053ff8ad57e7c933e24aa1cc45f4b890c"), looks := false }, kinds := [], alts := [], laidByText := true, laidKinds := [.data], laidTests := true, laidLooks := .later }
def ClassKindsUptoCardSaid : Prop := Claim7.holds Tryz.pinned (.plain (OpenSpec.upto classKindsSpec)) classKindsUptoCard

/-- THE SECOND FORM's CARD OF 'pleatlaw19.ClassSpots'. -/
def classSpotsUptoCard : Claim7 := { stood := { row := classSpotsUptoRow, standIns := [], harness := (true, "715106eaa799e4d6e5e5cc1714dabbb053ff8ad57e7c933e24aa1cc45f4b890c"), looks := false }, kinds := [], alts := [], laidByText := true, laidKinds := [.data], laidTests := true, laidLooks := .later }
def ClassSpotsUptoCardSaid : Prop := Claim7.holds Tryz.pinned (.plain (OpenSpec.upto classSpotsSpec)) classSpotsUptoCard

/-- THE SECOND FORM's CARD OF 'pleatlaw19.ClassAlike'. -/
def classAlikeUptoCard : Claim7 := { stood := { row := classAlikeUptoRow, standIns := [], harness := (true, "715106eaa799e4d6e5e5cc1714dabbb053ff8ad57e7c933e24aa1cc45f4b890c"), looks := false }, kinds := [], alts := [], laidByText := true, laidKinds := [.data], laidTests := true, laidLooks := .later }
def ClassAlikeUptoCardSaid : Prop := Claim7.holds Tryz.pinned (.plain (OpenSpec.upto classAlikeSpec)) classAlikeUptoCard
end Rows
end Go.Proofs.YtmlhnnmelopleaaGreatDoor
