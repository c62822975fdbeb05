/-
  The zero value of the array of marks; no condition. Package object: Of and At by what they return; the lists are at most 2^20 long.
-/
import Derived.Test.YtbckolkgncajfaaGreatDoorProg
import Derived.WalkKit
import Derived.WalkSpells
import Derived.WalkLawsBesides
import Derived.RowKit3
import Derived.Below
import Derived.Deep.QuietTactic
import Derived.BigQuiet
import Derived.WalkSmall
import Derived.Test.YtbckolkgncajfaaGreatDoorLo01
import Derived.Test.YtbckolkgncajfaaGreatDoorLo20
namespace Go.Proofs.YtbckolkgncajfaaGreatDoor
open Go.RowKit

/-- So many bools, each false. -/
def chkF : List Value → Nat → Bool
  | [], 0 => true
  | (.bool false) :: l, n + 1 => chkF l n
  | _, _ => false
theorem chkF_ok : ∀ (l : List Value) (n : Nat), chkF l n = true → l.length = n ∧ ∀ i, i < n → l[i]? = some (.bool false)
  | [], 0, _ => ⟨rfl, fun i h => by omega⟩
  | (.bool false) :: l, n + 1, h => by
    obtain ⟨h1, h2⟩ := chkF_ok l n h
    refine ⟨by simp [h1], fun i hi => ?_⟩
    cases i with
    | zero => rfl
    | succ i => simpa using h2 i (by omega)
def zeroIs (o : Option TypeInfo) (n : Nat) : Bool := match o with
  | some i => (match i.zero with
    | some (.agg cs) => chkF cs.toList n
    | _ => false)
  | none => false
theorem zero73_ok : zeroIs (Tryz.prog.info? 160) 16384 = true := by kernel_rfl
theorem zero73 : ∃ cs : Array Value, cs.size = 16384 ∧ (∀ i, i < 16384 → cs[i]? = some (.bool false)) ∧ ∀ w : World, (zeroValue 160).run Tryz.prog w = .ok (.agg cs) w := by
  have h := zero73_ok
  unfold zeroIs at h
  cases hi : Tryz.prog.info? 160 with
  | none => rw [hi] at h; cases h
  | some i =>
    rw [hi] at h
    simp only [] at h
    cases hz : i.zero with
    | none => rw [hz] at h; cases h
    | some v =>
      rw [hz] at h
      cases v with
      | agg cs =>
        simp only [] at h
        obtain ⟨h1, h2⟩ := chkF_ok _ _ h
        refine ⟨cs, by simpa using h1, fun i hi => by simpa using h2 i hi, fun w => ?_⟩
        simp [zeroValue, typeInfo, hi, hz]
      | _ => cases h



end Go.Proofs.YtbckolkgncajfaaGreatDoor

namespace Go.Proofs.YtbckolkgncajfaaGreatDoor
open Go.RowKit

theorem mkFn : ∀ (fn : Fn) (first cap : Array Value) (w : World), (Instr.makeFunc fn first cap).run Tryz.prog w = .ok (.func fn first cap) w := fun _ _ _ _ => rfl


end Go.Proofs.YtbckolkgncajfaaGreatDoor
