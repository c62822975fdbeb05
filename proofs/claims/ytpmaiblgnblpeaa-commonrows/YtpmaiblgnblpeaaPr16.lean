/-
  The document's Bits and Most.
-/
import Derived.Test.YtpmaiblgnblpeaaProg
import Derived.WalkKit
import Derived.WalkSpells
import Derived.WalkLawsBesides
import Derived.RowKit3
import Derived.Below
import Derived.Deep.QuietTactic
import Derived.BigQuiet
import Derived.WalkSmall
import Derived.Laws.Rows
import Derived.Deep.Cut
import Derived.Test.YtpmaiblgnblpeaaPr03
namespace Go.Proofs.Ytpmaiblgnblpeaa
open Go.RowKit

theorem tdiv_two (m : Nat) : Int.tdiv (m : Int) 2 = ((m / 2 : Nat) : Int) := by
  rw [Int.tdiv_eq_ediv_of_nonneg (by omega)]
  omega
set_option maxHeartbeats 2000000 in
theorem refbits_any (n : Nat) (hn : n ≤ 1048576) (w : World) : Calls Try.prog 16 #[.int .i64 (n : Int)] w fun e w' => e = .returned (.int .i64 ((bitsN n : Nat) : Int)) ∧ Below w.heap.size w w' := by
  have HN : Hid (bitsN n ≤ 21) := bitsN_le (by omega)
  go_enter Try.func16, Try.ntmps16
  go_wp2
  go_loopw [0, 3] (fun x y wr => ∃ m b : Nat, x = .int .i64 (m : Int) ∧ y = .int .i64 (b : Int) ∧ m ≤ 1048576 ∧ b ≤ 21 ∧ Hid (bitsN m + b = bitsN n) ∧ Hid (Below w.heap.size w wr)) (fun x _ _ => (intOf x).toNat)
  case atStart => exact ⟨n, 0, rfl, rfl, hn, by omega, by unfold Hid; omega, Below.refl _ _⟩
  case round =>
    obtain ⟨m, b, rfl, rfl, hm, hb, HS, HB⟩ := hrel
    by_cases h0 : 0 < m
    · have h0' : (0 : Int) < (m : Int) := by omega
      have HS2 : Hid (bitsN (m / 2) + (b + 1) = bitsN n) := by
        unfold Hid
        rw [← HS.out, bitsN_pos h0]; omega
      have hb2 : b + 1 ≤ 21 := by have := HS2.out; have := HN.out; omega
      have hq := tdiv_two m
      go_wp2
      go_roundw
      case rel => exact ⟨m / 2, b + 1, by first | rw [hq] | rfl | go_num, by go_num, by omega, hb2, HS2, HB⟩
      case measure => simp [intOf]; omega
    · obtain rfl : m = 0 := by omega
      have HS2 : Hid (b = bitsN n) := by
        have := HS.out
        rw [bitsN_zero] at this
        unfold Hid; omega
      go_wp2
      go_ret
      exact ⟨by rw [← HS2.out]; rfl, HB.out⟩

end Go.Proofs.Ytpmaiblgnblpeaa
