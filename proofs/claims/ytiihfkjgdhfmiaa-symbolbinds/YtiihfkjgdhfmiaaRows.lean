/-
  No cell of these rows narrows 'for every input' (looked for: loops, veiled, ifaces, maps, wideKeys, modest, calm, conditions, laid).
  DERIVED. THE GIVEN ROWS OF THIS SEAT. 2 by the template 'for every input the law returns true; each argument reads behind the call as it read before'; 0 by the template 'total and deterministic' (their statements: YtiihfkjgdhfmiaaTotals.lean).
  GIVEN WITH THE SEED: the statements are not yours to turn. If you find one false, say at which input.
  Laid BY PROGRAM, IN A SANDBOX (cutbox-rows.mjs): the forced cells as the released guide's own fill.sh prints them over the translation 829c7f5f806ddd09… (all of the seat's roots in one cut). By AI agents, Wed Nov 11 2026. No macro, syntax, notation, axiom, sorry.
-/
import Derived.Test.YtiihfkjgdhfmiaaChecked
import GoSem.Claim
import GoSem.ClaimJoined
import GoSem.ClaimMapViews
import Derived.JoinedTies
import Derived.KernelRfl
namespace Go.Proofs.Ytiihfkjgdhfmiaa
/- THE CELL 'sum', in the pinned program and in every row, IS THE sha256 OF THE DUMP (.gsa) THAT YtiihfkjgdhfmiaaProg.lean LOADS. Nothing in Lean hashes anything: it is a label: what it is worth is what the hold of that sum in a sandbox is worth. -/
noncomputable def Try.pinned : Pinned := { name := "ytiihfkjgdhfmiaa", sum := "829c7f5f806ddd097715a7a5ab65f9e4a0e7638222eb83736fd2c1dd2c81f382", checked := Try.checked }
namespace Rows
def none {H : Type} : Left H := { results := [], args := [] }

/-- 'pleatlaw08.SymbolResolves': WHATEVER THE INPUT: true; the input reads as it did. -/
def symbolResolvesSpec : ChangeSpec := { name := "symbolResolves", fn := fun _ => fun
  | [d1, d2] => { results := [.lit (.bool true)], args := [d1, d2] }
  | _ => none }
def symbolResolvesRow : OpenClaim := { program := "ytiihfkjgdhfmiaa", sum := "829c7f5f806ddd097715a7a5ab65f9e4a0e7638222eb83736fd2c1dd2c81f382", func := "pleat/pleatlaw08.SymbolResolves", spec := "symbolResolves", unfollowed := true, recurses := true, apart := false }
def SymbolResolvesSaid : Prop := symbolResolvesRow.holds Try.pinned (OpenSpec.ofChange symbolResolvesSpec)

/-- ITS FALSE NEIGHBOUR: 'it returns false'. Refute it at one input. -/
def symbolResolvesWrong : ChangeSpec := { name := "symbolResolves", fn := fun _ => fun
  | [d1, d2] => { results := [.lit (.bool false)], args := [d1, d2] }
  | _ => none }
def SymbolResolvesWrongFalsely : Prop := symbolResolvesRow.holds Try.pinned (OpenSpec.ofChange symbolResolvesWrong)

/-- 'pleatlaw08.SymbolBinds': WHATEVER THE INPUT: true; the input reads as it did. -/
def symbolBindsSpec : ChangeSpec := { name := "symbolBinds", fn := fun _ => fun
  | [d1, d2] => { results := [.lit (.bool true)], args := [d1, d2] }
  | _ => none }
def symbolBindsRow : OpenClaim := { program := "ytiihfkjgdhfmiaa", sum := "829c7f5f806ddd097715a7a5ab65f9e4a0e7638222eb83736fd2c1dd2c81f382", func := "pleat/pleatlaw08.SymbolBinds", spec := "symbolBinds", unfollowed := true, recurses := true, apart := false }
def SymbolBindsSaid : Prop := symbolBindsRow.holds Try.pinned (OpenSpec.ofChange symbolBindsSpec)

/-- ITS FALSE NEIGHBOUR: 'it returns false'. Refute it at one input. -/
def symbolBindsWrong : ChangeSpec := { name := "symbolBinds", fn := fun _ => fun
  | [d1, d2] => { results := [.lit (.bool false)], args := [d1, d2] }
  | _ => none }
def SymbolBindsWrongFalsely : Prop := symbolBindsRow.holds Try.pinned (OpenSpec.ofChange symbolBindsWrong)

/- THE SECOND FORM. 'bulk': how many values and letters a reading holds, each counted each time it is reached (what is shared counts as often as it is met; a slice's spare places count too). A statement '..UptoSaid' is the law's where the arguments, and the package variables that the reading takes, are together of bulk at most 1048576: NARROWER than '..Said'. Prove '..Said' where nothing that the law and all that it calls make is longer than what came in: it says more and counts as full. Else prove '..UptoSaid'. A law counts once. -/
mutual
def uptoBulk {H : Type} : DataW H → Nat
  | .lit (.string bytes) => bytes.length + 1
  | .lit _ => 1
  | .nil => 1
  | .ptr d => uptoBulk d + 1
  | .slice elems spare => uptoBulkAll elems + uptoBulkAll spare + 1
  | .agg parts => uptoBulkAll parts + 1
  | .iface _ d => uptoBulk d + 1
  | .map entries => uptoBulkEntries entries + 1
  | .held _ => 1
def uptoBulkAll {H : Type} : List (DataW H) → Nat
  | [] => 0
  | d :: r => uptoBulk d + uptoBulkAll r
def uptoBulkEntries {H : Type} : List (Lit × DataW H) → Nat
  | [] => 0
  | x :: r => uptoBulkEntry x + uptoBulkEntries r
def uptoBulkEntry {H : Type} : Lit × DataW H → Nat
  | (.string bytes, d) => bytes.length + uptoBulk d + 1
  | (_, d) => uptoBulk d + 1
 end
def uptoSmall : (H : Type) → List (DataW H) → Bool := fun _ ds => decide (uptoBulkAll ds ≤ 1048576)
def OpenSpec.upto (s : _root_.Go.ChangeSpec) : _root_.Go.OpenSpec := { _root_.Go.OpenSpec.ofChange s with cond := some uptoSmall }

/-- 'pleatlaw08.SymbolResolves', WHERE WHAT IT READS IS OF BULK AT MOST 1048576: true; the input reads as it did. -/
def symbolResolvesUptoRow : OpenClaim := { program := "ytiihfkjgdhfmiaa", sum := "829c7f5f806ddd097715a7a5ab65f9e4a0e7638222eb83736fd2c1dd2c81f382", func := "pleat/pleatlaw08.SymbolResolves", spec := "symbolResolves", unfollowed := true, recurses := true, apart := false, narrowed := true }
def SymbolResolvesUptoSaid : Prop := symbolResolvesUptoRow.holds Try.pinned (OpenSpec.upto symbolResolvesSpec)

/-- 'pleatlaw08.SymbolBinds', WHERE WHAT IT READS IS OF BULK AT MOST 1048576: true; the input reads as it did. -/
def symbolBindsUptoRow : OpenClaim := { program := "ytiihfkjgdhfmiaa", sum := "829c7f5f806ddd097715a7a5ab65f9e4a0e7638222eb83736fd2c1dd2c81f382", func := "pleat/pleatlaw08.SymbolBinds", spec := "symbolBinds", unfollowed := true, recurses := true, apart := false, narrowed := true }
def SymbolBindsUptoSaid : Prop := symbolBindsUptoRow.holds Try.pinned (OpenSpec.upto symbolBindsSpec)

end Rows
end Go.Proofs.Ytiihfkjgdhfmiaa
