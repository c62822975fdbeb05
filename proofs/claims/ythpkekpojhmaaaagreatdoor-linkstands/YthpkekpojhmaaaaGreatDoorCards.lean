/-
  DERIVED. GIVEN WITH THE SEED: THE CARDS: each row of YthpkekpojhmaaaaGreatDoorRows.lean that lists a variable, with what it lists TIED to the program's text (the seventh form; the later family's looks); each row that meets fmt, with fmt's text TOLD by the authors' own Lean function (tested against real Go, not proved from fmt's source: count such statements apart). THE CARD IS WHAT COUNTS. Prove the row's statement (the work); the ties are given (YthpkekpojhmaaaaGreatDoorTie.lean); close each card by the builder's one call (the guide's Derived/Test/ToyasCard.lean, 'card_holds'). Laid BY PROGRAM, IN A SANDBOX (cutbox-door.mjs). By AI agents, Wed Nov 11 2026. No macro, syntax, notation, axiom, sorry.
-/
import Derived.Test.YthpkekpojhmaaaaGreatDoorRows
import GoSem.ClaimSeven
namespace Go.Proofs.YthpkekpojhmaaaaGreatDoor
namespace Rows

/-- THE TIED CARD OF 'pleatlaw09.LinkMakes'. -/
def linkMakesCard : Claim7 := { stood := { row := linkMakesRow, standIns := [], harness := (true, "fb9269af95fe2da799b573955036b34e11476c930a072b73f0d9efcccd972771"), looks := true }, kinds := [], alts := [], laidByText := true, laidKinds := [.data, .data, .data], laidTests := true, laidLooks := .later }
def LinkMakesCardSaid : Prop := Claim7.holds Tryz.pinned (.plain (OpenSpec.ofChange linkMakesSpec)) linkMakesCard

/-- THE TIED CARD OF 'pleatlaw09.LinkStands'. -/
def linkStandsCard : Claim7 := { stood := { row := linkStandsRow, standIns := [], harness := (true, "fb9269af95fe2da799b573955036b34e11476c930a072b73f0d9efcccd972771"), looks := true }, kinds := [], alts := [], laidByText := true, laidKinds := [.handle], laidTests := true, laidLooks := .later }
def LinkStandsCardSaid : Prop := Claim7.holds Tryz.pinned (.plain (OpenSpec.ofChange linkStandsSpec)) linkStandsCard

/-- THE SECOND FORM's CARD OF 'pleatlaw09.LinkMakes'. -/
def linkMakesUptoCard : Claim7 := { stood := { row := linkMakesUptoRow, standIns := [], harness := (true, "fb9269af95fe2da799b573955036b34e11476c930a072b73f0d9efcccd972771"), looks := true }, kinds := [], alts := [], laidByText := true, laidKinds := [.data, .data, .data], laidTests := true, laidLooks := .later }
def LinkMakesUptoCardSaid : Prop := Claim7.holds Tryz.pinned (.plain (OpenSpec.upto linkMakesSpec)) linkMakesUptoCard

/-- THE SECOND FORM's CARD OF 'pleatlaw09.LinkStands'. -/
def linkStandsUptoCard : Claim7 := { stood := { row := linkStandsUptoRow, standIns := [], harness := (true, "fb9269af95fe2da799b573955036b34e11476c930a072b73f0d9efcccd972771"), looks := true }, kinds := [], alts := [], laidByText := true, laidKinds := [.handle], laidTests := true, laidLooks := .later }
def LinkStandsUptoCardSaid : Prop := Claim7.holds Tryz.pinned (.plain (OpenSpec.upto linkStandsSpec)) linkStandsUptoCard
end Rows
end Go.Proofs.YthpkekpojhmaaaaGreatDoor
