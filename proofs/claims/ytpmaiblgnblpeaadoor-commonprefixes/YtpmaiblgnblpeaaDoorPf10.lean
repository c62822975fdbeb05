/-
  The document's Bits and Most. A list of numbers copied into memory of its own, with marks behind it, by the document's helpers; it is at most 2^20 long.
-/
import Derived.Test.YtpmaiblgnblpeaaDoorProg
import Derived.WalkKit
import Derived.WalkSpells
import Derived.WalkLawsBesides
import Derived.RowKit3
import Derived.Below
import Derived.Deep.QuietTactic
import Derived.BigQuiet
import Derived.WalkSmall
import Derived.Laws.Rows
import Derived.Deep.Cut
import Derived.Test.YtpmaiblgnblpeaaDoorPf03
import Derived.Laws.MakeOwn
import Derived.Test.YtpmaiblgnblpeaaDoorPf01
namespace Go.Proofs.YtpmaiblgnblpeaaDoor
open Go.RowKit

theorem tdiv_two (m : Nat) : Int.tdiv (m : Int) 2 = ((m / 2 : Nat) : Int) := by
  rw [Int.tdiv_eq_ediv_of_nonneg (by omega)]
  omega
set_option maxHeartbeats 2000000 in
theorem refbits_any (n : Nat) (hn : n ≤ 1048576) (w : World) : Calls Tryd.prog 22 #[.int .i64 (n : Int)] w fun e w' => e = .returned (.int .i64 ((bitsN n : Nat) : Int)) ∧ Below w.heap.size w w' := by
  have HN : Hid (bitsN n ≤ 21) := bitsN_le (by omega)
  go_enter Tryd.func22, Tryd.ntmps22
  go_wp2
  go_loopw [0, 3] (fun x y wr => ∃ m b : Nat, x = .int .i64 (m : Int) ∧ y = .int .i64 (b : Int) ∧ m ≤ 1048576 ∧ b ≤ 21 ∧ Hid (bitsN m + b = bitsN n) ∧ Hid (Below w.heap.size w wr)) (fun x _ _ => (intOf x).toNat)
  case atStart => exact ⟨n, 0, rfl, rfl, hn, by omega, by unfold Hid; omega, Below.refl _ _⟩
  case round =>
    obtain ⟨m, b, rfl, rfl, hm, hb, HS, HB⟩ := hrel
    by_cases h0 : 0 < m
    · have h0' : (0 : Int) < (m : Int) := by omega
      have HS2 : Hid (bitsN (m / 2) + (b + 1) = bitsN n) := by
        unfold Hid
        rw [← HS.out, bitsN_pos h0]; omega
      have hb2 : b + 1 ≤ 21 := by have := HS2.out; have := HN.out; omega
      have hq := tdiv_two m
      go_wp2
      go_roundw
      case rel => exact ⟨m / 2, b + 1, by first | rw [hq] | rfl | go_num, by go_num, by omega, hb2, HS2, HB⟩
      case measure => simp [intOf]; omega
    · obtain rfl : m = 0 := by omega
      have HS2 : Hid (b = bitsN n) := by
        have := HS.out
        rw [bitsN_zero] at this
        unfold Hid; omega
      go_wp2
      go_ret
      exact ⟨by rw [← HS2.out]; rfl, HB.out⟩


end Go.Proofs.YtpmaiblgnblpeaaDoor

namespace Go.Proofs.YtpmaiblgnblpeaaDoor
open Go.RowKit

theorem num_any (n i : Int) (h0 : 0 ≤ n) (h1 : n ≤ 9) (h2 : 0 ≤ i) (h3 : i ≤ 2097152) (w : World) : Calls Tryd.prog 17 #[.int .i64 n, .int .i64 i] w fun e w' => e = .returned (.int .i64 (1048576 * n + i + 1)) ∧ w' = w := by
  go_enter Tryd.func17, Tryd.ntmps17
  go_wp2
  go_ret
  exact ⟨rfl, rfl⟩
theorem made_wcur (f : Nat → Value) (z : Value) (N : Nat) : madeCells #[z] N = wcur f (fun _ => z) N 0 := by
  apply Array.ext_getElem?
  intro i
  by_cases hi : i < N
  · rw [wcur_get _ _ _ _ _ hi]; simp [madeCells, hi, Nat.mod_one]
  · rw [Array.getElem?_eq_none (by simp [madeCells]; omega), Array.getElem?_eq_none (by simp [wcur_size]; omega)]
theorem info45 : ∃ i, Tryd.prog.info? 80 = some i ∧ i.zero = some (.int .u32 0) ∧ i.size = 1 ∧ i.bytes = 4 :=
  ⟨(Tryd.prog.info? 80).get (by kernel_rfl), by kernel_rfl, by kernel_rfl, by kernel_rfl, by kernel_rfl⟩
theorem info2 : ∃ i, Tryd.prog.info? 2 = some i ∧ i.zero = some (.int .i64 0) ∧ i.size = 1 ∧ i.bytes = 8 :=
  ⟨(Tryd.prog.info? 2).get (by kernel_rfl), by kernel_rfl, by kernel_rfl, by kernel_rfl, by kernel_rfl⟩




end Go.Proofs.YtpmaiblgnblpeaaDoor
