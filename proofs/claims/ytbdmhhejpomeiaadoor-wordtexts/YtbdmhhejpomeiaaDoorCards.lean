/-
  DERIVED. GIVEN WITH THE SEED: THE CARDS: each row of YtbdmhhejpomeiaaDoorRows.lean that lists a variable, with what it lists TIED to the program's text (the seventh form; the later family's looks); each row that meets fmt, with fmt's text TOLD by the authors' own Lean function (tested against real Go, not proved from fmt's source: count such statements apart). THE CARD IS WHAT COUNTS. Prove the row's statement (the work); the ties are given (YtbdmhhejpomeiaaDoorTie.lean); close each card by the builder's one call (the guide's Derived/Test/ToyasCard.lean, 'card_holds'). Laid BY PROGRAM, IN A SANDBOX (cutbox-door.mjs). By AI agents, Wed Nov 11 2026. No macro, syntax, notation, axiom, sorry.
-/
import Derived.Test.YtbdmhhejpomeiaaDoorRows
import GoSem.ClaimSeven
namespace Go.Proofs.YtbdmhhejpomeiaaDoor
namespace Rows

/-- THE TIED CARD OF 'pleatlaw01.WordCalcs'. -/
def wordCalcsCard : Claim7 := { stood := { row := wordCalcsRow, standIns := [], harness := (true, "2c2b26082a3794d5c088c991daa2c0b0d3042d5f8648c94214a372bc488eb862"), looks := false }, kinds := [], alts := [], laidByText := true, laidKinds := [.data, .data, .data], laidTests := true, laidLooks := .later }
def WordCalcsCardSaid : Prop := Claim7.holds Tryd.pinned (.plain (OpenSpec.ofChange wordCalcsSpec)) wordCalcsCard

/-- THE TIED CARD OF 'pleatlaw01.WordAddresses'. -/
def wordAddressesCard : Claim7 := { stood := { row := wordAddressesRow, standIns := [], harness := (true, "2c2b26082a3794d5c088c991daa2c0b0d3042d5f8648c94214a372bc488eb862"), looks := false }, kinds := [], alts := [], laidByText := true, laidKinds := [.data, .data, .data], laidTests := true, laidLooks := .later }
def WordAddressesCardSaid : Prop := Claim7.holds Tryd.pinned (.plain (OpenSpec.ofChange wordAddressesSpec)) wordAddressesCard

/-- THE TIED CARD OF 'pleatlaw01.WordTexts'. -/
def wordTextsCard : Claim7 := { stood := { row := wordTextsRow, standIns := [], harness := (true, "2c2b26082a3794d5c088c991daa2c0b0d3042d5f8648c94214a372bc488eb862"), looks := false }, kinds := [], alts := [], laidByText := true, laidKinds := [.data, .data, .data], laidTests := true, laidLooks := .later }
def WordTextsCardSaid : Prop := Claim7.holds Tryd.pinned (.plain (OpenSpec.ofChange wordTextsSpec)) wordTextsCard

/-- THE TIED CARD OF 'pleatlaw01.WordSeals'. -/
def wordSealsCard : Claim7 := { stood := { row := wordSealsRow, standIns := [], harness := (true, "2c2b26082a3794d5c088c991daa2c0b0d3042d5f8648c94214a372bc488eb862"), looks := false }, kinds := [], alts := [], laidByText := true, laidKinds := [.data, .data, .data], laidTests := true, laidLooks := .later }
def WordSealsCardSaid : Prop := Claim7.holds Tryd.pinned (.plain (OpenSpec.ofChange wordSealsSpec)) wordSealsCard

/-- THE SECOND FORM's CARD OF 'pleatlaw01.WordCalcs'. -/
def wordCalcsUptoCard : Claim7 := { stood := { row := wordCalcsUptoRow, standIns := [], harness := (true, "2c2b26082a3794d5c088c991daa2c0b0d3042d5f8648c94214a372bc488eb862"), looks := false }, kinds := [], alts := [], laidByText := true, laidKinds := [.data, .data, .data], laidTests := true, laidLooks := .later }
def WordCalcsUptoCardSaid : Prop := Claim7.holds Tryd.pinned (.plain (OpenSpec.upto wordCalcsSpec)) wordCalcsUptoCard

/-- THE SECOND FORM's CARD OF 'pleatlaw01.WordAddresses'. -/
def wordAddressesUptoCard : Claim7 := { stood := { row := wordAddressesUptoRow, standIns := [], harness := (true, "2c2b26082a3794d5c088c991daa2c0b0d3042d5f8648c94214a372bc488eb862"), looks := false }, kinds := [], alts := [], laidByText := true, laidKinds := [.data, .data, .data], laidTests := true, laidLooks := .later }
def WordAddressesUptoCardSaid : Prop := Claim7.holds Tryd.pinned (.plain (OpenSpec.upto wordAddressesSpec)) wordAddressesUptoCard

/-- THE SECOND FORM's CARD OF 'pleatlaw01.WordTexts'. -/
def wordTextsUptoCard : Claim7 := { stood := { row := wordTextsUptoRow, standIns := [], harness := (true, "2c2b26082a3794d5c088c991daa2c0b0d3042d5f8648c94214a372bc488eb862"), looks := false }, kinds := [], alts := [], laidByText := true, laidKinds := [.data, .data, .data], laidTests := true, laidLooks := .later }
def WordTextsUptoCardSaid : Prop := Claim7.holds Tryd.pinned (.plain (OpenSpec.upto wordTextsSpec)) wordTextsUptoCard

/-- THE SECOND FORM's CARD OF 'pleatlaw01.WordSeals'. -/
def wordSealsUptoCard : Claim7 := { stood := { row := wordSealsUptoRow, standIns := [], harness := (true, "2c2b26082a3794d5c088c991daa2c0b0d3042d5f8648c94214a372bc488eb862"), looks := false }, kinds := [], alts := [], laidByText := true, laidKinds := [.data, .data, .data], laidTests := true, laidLooks := .later }
def WordSealsUptoCardSaid : Prop := Claim7.holds Tryd.pinned (.plain (OpenSpec.upto wordSealsSpec)) wordSealsUptoCard
end Rows
end Go.Proofs.YtbdmhhejpomeiaaDoor
