/-
  What a statement lets go: an object is heavy, or its lists are short; its names and lists are no longer than any can be.
-/
import Derived.Test.YthfcimmfkibmjaaGreatDoorProg
import Derived.WalkKit
import Derived.WalkSpells
import Derived.WalkLawsBesides
import Derived.RowKit3
import Derived.Below
import Derived.Deep.QuietTactic
import Derived.BigQuiet
import Derived.WalkSmall
import Derived.Test.YthfcimmfkibmjaaGreatDoorP01
namespace Go.Proofs.YthfcimmfkibmjaaGreatDoor
open Go.RowKit

/-- How heavy ends. -/
def HvP (ss : List Sym) (nm : ByteArray) (n1 n2 n4 : Nat) (w : World) (e : Ending) (w' : World) : Prop := ∃ B : Bool, e = .returned (.bool B) ∧ (B = false → ss.length ≤ 1048576 ∧ nm.size ≤ 1048576 ∧ n1 ≤ 32768 ∧ n2 ≤ 32768 ∧ n4 ≤ 32768) ∧ Below w.heap.size w w'
theorem hvT {ss : List Sym} {nm : ByteArray} {n1 n2 n4 : Nat} {w w' : World} {e : Ending} (h : e = .returned (.bool true)) (hb : Below w.heap.size w w') : HvP ss nm n1 n2 n4 w e w' := ⟨true, h, (fun h => by cases h), hb⟩
theorem hvF {ss : List Sym} {nm : ByteArray} {n1 n2 n4 : Nat} {w w' : World} {e : Ending} (h : e = .returned (.bool false)) (hh : ss.length ≤ 1048576 ∧ nm.size ≤ 1048576 ∧ n1 ≤ 32768 ∧ n2 ≤ 32768 ∧ n4 ≤ 32768) (hb : Below w.heap.size w w') : HvP ss nm n1 n2 n4 w e w' := ⟨false, h, fun _ => hh, hb⟩
set_option maxRecDepth 100000 in
set_option maxHeartbeats 2000000 in
theorem heavy_any (nm : ByteArray) (dA : Int) (A1 A2 A3 A4 : Option Addr) (n1 c1 n2 c2 c3 n4 c4 : Nat) (ss : List Sym) (w : World) (hS : SymsAt w A3 ss) (hN : ∀ i, (sName ss i).size ≤ 140737488355328) (hs : ss.length ≤ 140737488355328) :
    Calls Tryz.prog 6 #[.agg #[.string nm, .slice A1 n1 c1, .int .i64 dA, .slice A2 n2 c2, .slice A3 ss.length c3, .slice A4 n4 c4]] w fun e w' => HvP ss nm n1 n2 n4 w e w' := by
  have hB : SymsAt (w.alloc (.cells #[.string nm, .slice A1 n1 c1, .int .i64 dA, .slice A2 n2 c2, .slice A3 ss.length c3, .slice A4 n4 c4] 27)) A3 ss := hS.keep (lb_alloc (Below.refl _ _) _)
  clear hS
  go_enter Tryz.func6, Tryz.ntmps6
  go_wp2
  go_loop [3, 4] (fun n i => ∃ k m : Nat, n = .int .i64 m ∧ i = .int .i64 k ∧ k ≤ ss.length ∧ k ≤ m ∧ m ≤ 140737490000000) (fun _ i => ss.length - (intOf i).toNat)
  case atStart => exact ⟨0, 0, rfl, rfl, by omega, by omega, by omega⟩
  case round =>
    obtain ⟨k, m, rfl, rfl, hk, hkm, hm⟩ := hrel
    by_cases hlt : k < ss.length ∧ m ≤ 1048576
    · obtain ⟨hlt, hm2⟩ := hlt
      obtain ⟨a, rfl, c0, _⟩ := hB k hlt
      have hN1 := hN k
      go_wp2
      go_round
      case rel => exact ⟨k + 1, m + 1 + (sName ss k).size, by go_num, by go_num, by omega, by omega, by omega⟩
      case measure => simp [intOf]; omega
    · by_cases h1 : 1048576 < m
      · have h1' : ¬ (m : Int) ≤ 1048576 := by omega
        by_cases h0 : k < ss.length
        all_goals
          go_wp2
          go_ret
          exact hvT rfl (lb_alloc (Below.refl _ _) _)
      · have h0 : ¬ k < ss.length := fun h => hlt ⟨h, by omega⟩
        have HL : Hid (ss.length ≤ 1048576) := by rw [Hid]; omega
        clear hlt
        by_cases h2 : 1048576 < nm.size
        · go_wp2
          go_ret
          exact hvT rfl (lb_alloc (Below.refl _ _) _)
        by_cases h3 : 32768 < n1
        · go_wp2
          go_ret
          exact hvT rfl (lb_alloc (Below.refl _ _) _)
        by_cases h4 : 32768 < n2
        · go_wp2
          go_ret
          exact hvT rfl (lb_alloc (Below.refl _ _) _)
        by_cases h5 : 32768 < n4
        · go_wp2
          go_ret
          exact hvT (by first | rfl | (simp [*]; done) | (simp; omega)) (lb_alloc (Below.refl _ _) _)
        · go_wp2
          go_ret
          exact hvF (by first | rfl | (simp [*]; done) | (simp; omega)) ⟨HL.out, by omega, by omega, by omega, by omega⟩ (lb_alloc (Below.refl _ _) _)


end Go.Proofs.YthfcimmfkibmjaaGreatDoor
