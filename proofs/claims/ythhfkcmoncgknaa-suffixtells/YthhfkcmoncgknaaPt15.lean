/-
  The document's Bits and Most.
-/
import Derived.Test.YthhfkcmoncgknaaProg
import Derived.WalkKit
import Derived.WalkSpells
import Derived.WalkLawsBesides
import Derived.RowKit3
import Derived.Below
import Derived.Deep.QuietTactic
import Derived.BigQuiet
import Derived.WalkSmall
import Derived.Laws.Rows
import Derived.Deep.Cut
import Derived.Test.YthhfkcmoncgknaaPt05
namespace Go.Proofs.Ythhfkcmoncgknaa
open Go.RowKit

theorem tdiv_two (m : Nat) : Int.tdiv (m : Int) 2 = ((m / 2 : Nat) : Int) := by
  rw [Int.tdiv_eq_ediv_of_nonneg (by omega)]
  omega
set_option maxHeartbeats 2000000 in
theorem refbits_any (n : Nat) (hn : n ≤ 1048576) (w : World) : Calls Try.prog 21 #[.int .i64 (n : Int)] w fun e w' => e = .returned (.int .i64 ((bitsN n : Nat) : Int)) ∧ Below w.heap.size w w' := by
  have HN : Hid (bitsN n ≤ 21) := bitsN_le (by omega)
  go_enter Try.func21, Try.ntmps21
  go_wp2
  go_loopw [0, 3] (fun x y wr => ∃ m b : Nat, x = .int .i64 (m : Int) ∧ y = .int .i64 (b : Int) ∧ m ≤ 1048576 ∧ b ≤ 21 ∧ Hid (bitsN m + b = bitsN n) ∧ Hid (Below w.heap.size w wr)) (fun x _ _ => (intOf x).toNat)
  case atStart => exact ⟨n, 0, rfl, rfl, hn, by omega, by unfold Hid; omega, Below.refl _ _⟩
  case round =>
    obtain ⟨m, b, rfl, rfl, hm, hb, HS, HB⟩ := hrel
    by_cases h0 : 0 < m
    · have h0' : (0 : Int) < (m : Int) := by omega
      have HS2 : Hid (bitsN (m / 2) + (b + 1) = bitsN n) := by
        unfold Hid
        rw [← HS.out, bitsN_pos h0]; omega
      have hb2 : b + 1 ≤ 21 := by have := HS2.out; have := HN.out; omega
      have hq := tdiv_two m
      go_wp2
      go_roundw
      case rel => exact ⟨m / 2, b + 1, by first | rw [hq] | rfl | go_num, by go_num, by omega, hb2, HS2, HB⟩
      case measure => simp [intOf]; omega
    · obtain rfl : m = 0 := by omega
      have HS2 : Hid (b = bitsN n) := by
        have := HS.out
        rw [bitsN_zero] at this
        unfold Hid; omega
      go_wp2
      go_ret
      exact ⟨by rw [← HS2.out]; rfl, HB.out⟩
set_option maxHeartbeats 4000000 in
theorem refmost_any (n : Int) (w : World) : Calls Try.prog 10 #[.int .i64 n] w fun e w' => e = .returned (.int .i64 (mostI n)) ∧ Below w.heap.size w w' := by
  by_cases h1 : n < 1
  · rw [show mostI n = 0 from if_pos (.inl h1)]
    go_enter Try.func10, Try.ntmps10
    go_wp2
    go_ret
    exact ⟨rfl, Below.refl _ _⟩
  by_cases h2 : 16384 < n
  · rw [show mostI n = 0 from if_pos (.inr h2)]
    go_enter Try.func10, Try.ntmps10
    go_wp2
    go_ret
    exact ⟨rfl, Below.refl _ _⟩
  have HM : Hid (mostI n = 6 * n * ((bitsN n.toNat : Int) + 1) * ((bitsN n.toNat : Int) + 1)) := if_neg (by omega)
  have C := fun wx => refbits_any n.toNat (by omega) wx
  rw [show ((n.toNat : Nat) : Int) = n by omega] at C
  have hb : bitsN n.toNat ≤ 15 := bitsN_le (by omega)
  rw [HM.out]
  clear HM
  generalize bitsN n.toNat = b at *
  have hq : b = 0 ∨ b = 1 ∨ b = 2 ∨ b = 3 ∨ b = 4 ∨ b = 5 ∨ b = 6 ∨ b = 7 ∨ b = 8 ∨ b = 9 ∨ b = 10 ∨ b = 11 ∨ b = 12 ∨ b = 13 ∨ b = 14 ∨ b = 15 := by omega
  rcases hq with rfl | rfl | rfl | rfl | rfl | rfl | rfl | rfl | rfl | rfl | rfl | rfl | rfl | rfl | rfl | rfl
  all_goals (
    go_enter Try.func10, Try.ntmps10
    go_wp2_with (go_at_call 21; refine (C _).mono ?_; rintro e w1 ⟨rfl, hb1⟩)
    go_ret
    refine ⟨?_, hb1⟩
    show Ending.returned (Value.int .i64 _) = Ending.returned (Value.int .i64 _)
    congr 2 <;> omega)


end Go.Proofs.Ythhfkcmoncgknaa
