/-
  DERIVED. GIVEN WITH THE SEED: THE CARDS: each row of YtblmcphmgicocaaDoorRows.lean that lists a variable, with what it lists TIED to the program's text (the seventh form; the later family's looks); each row that meets fmt, with fmt's text TOLD by the authors' own Lean function (tested against real Go, not proved from fmt's source: count such statements apart). THE CARD IS WHAT COUNTS. Prove the row's statement (the work); the ties are given (YtblmcphmgicocaaDoorTie.lean); close each card by the builder's one call (the guide's Derived/Test/ToyasCard.lean, 'card_holds'). Laid BY PROGRAM, IN A SANDBOX (cutbox-door.mjs). By AI agents, Wed Nov 11 2026. No macro, syntax, notation, axiom, sorry.
-/
import Derived.Test.YtblmcphmgicocaaDoorRows
import GoSem.ClaimSeven
namespace Go.Proofs.YtblmcphmgicocaaDoor
namespace Rows

/-- THE TIED CARD OF 'pleatlaw15.NumberOf'. -/
def numberOfCard : Claim7 := { stood := { row := numberOfRow, standIns := [], harness := (true, "083468c4c65c4752f8603891ca62149374f0c895c45d5b8713421d7ad3d350f9"), looks := false }, kinds := [], alts := [], laidByText := true, laidKinds := [.data, .data, .data], laidTests := true, laidLooks := .later }
def NumberOfCardSaid : Prop := Claim7.holds Tryd.pinned (.plain (OpenSpec.ofChange numberOfSpec)) numberOfCard

/-- THE SECOND FORM's CARD OF 'pleatlaw15.NumberOf'. -/
def numberOfUptoCard : Claim7 := { stood := { row := numberOfUptoRow, standIns := [], harness := (true, "083468c4c65c4752f8603891ca62149374f0c895c45d5b8713421d7ad3d350f9"), looks := false }, kinds := [], alts := [], laidByText := true, laidKinds := [.data, .data, .data], laidTests := true, laidLooks := .later }
def NumberOfUptoCardSaid : Prop := Claim7.holds Tryd.pinned (.plain (OpenSpec.upto numberOfSpec)) numberOfUptoCard
end Rows
end Go.Proofs.YtblmcphmgicocaaDoor
