/-
  Most keeps its contract.
-/
import Derived.Test.YthhfkcmoncgknaaDoorProg
import Derived.WalkKit
import Derived.WalkSpells
import Derived.WalkLawsBesides
import Derived.RowKit3
import Derived.Below
import Derived.Deep.QuietTactic
import Derived.BigQuiet
import Derived.WalkSmall
import Derived.Laws.Rows
import Derived.Lib.Strings
import Derived.Lib.Slices
import Derived.Lib.Small
import Derived.Lib.Walk
import Derived.Lib.BitFns
import Derived.Test.YthhfkcmoncgknaaDoorPf16
namespace Go.Proofs.YthhfkcmoncgknaaDoor
open Go.RowKit

theorem bits_len : ∀ n : Nat, n < 2 ^ 64 → Lib.bitLen n = bitsN n := fun n => by
  induction n using Nat.strongRecOn with
  | _ n ih =>
    intro h
    by_cases h0 : n = 0
    · subst h0; rw [bitsN_zero]; rfl
    · rw [Lib.bitLen_half n h0 h, bitsN_pos (by omega), ih (n / 2) (by omega) (by omega)]
      omega
set_option maxRecDepth 100000 in
set_option maxHeartbeats 4000000 in
theorem len64_any (n : Int) (w : World) (h0 : 0 ≤ n) (h1 : n ≤ 16384) : Calls Tryd.prog 51 #[.int .u64 n] w fun e w' => e = .returned (.int .i64 ((bitsN n.toNat : Nat) : Int)) ∧ w' = w := by
  rw [← bits_len n.toNat (by omega)]
  have a1 : ¬ (4294967296 : Int) ≤ n := by omega
  have a2 : ¬ (65536 : Int) ≤ n := by omega
  by_cases a3 : (256 : Int) ≤ n
  · have b1 : 0 ≤ n / 256 := by omega
    have b2 : n / 256 ≤ 255 := by omega
    go_enter Tryd.func51, Tryd.ntmps51
    go_wp2
    go_ret
    refine ⟨congrArg Ending.returned (congrArg (Value.int IntKind.i64) ?_), rfl⟩
    rw [Lib.len8_of (n / 256) (by omega) (by omega)]
    have e : (n / 256).toNat = n.toNat / 256 := by omega
    have l := Lib.bitLen_le8' (n / 256) (by omega) (by omega)
    have s := Lib.bitLen_shift8 n.toNat (by omega) (by omega)
    rw [e] at l ⊢
    first | omega | (unfold wrap64; omega)
  · have b1 : n ≤ 255 := by omega
    go_enter Tryd.func51, Tryd.ntmps51
    go_wp2
    go_ret
    refine ⟨congrArg Ending.returned (congrArg (Value.int IntKind.i64) ?_), rfl⟩
    rw [Lib.len8_of n (by omega) (by omega)]
    have l := Lib.bitLen_le8' n (by omega) (by omega)
    first | omega | (unfold wrap64; omega)
theorem len_any (n : Int) (w : World) (h0 : 0 ≤ n) (h1 : n ≤ 16384) : Calls Tryd.prog 43 #[.int .u64 n] w fun e w' => e = .returned (.int .i64 ((bitsN n.toNat : Nat) : Int)) ∧ w' = w := by
  go_enter Tryd.func43, Tryd.ntmps43
  go_wp2_with (go_at_call 51; refine (len64_any n _ h0 h1).mono ?_; rintro e w' ⟨rfl, rfl⟩)
  go_ret
  exact ⟨rfl, rfl⟩
set_option maxHeartbeats 4000000 in
theorem mostOK : MostOK := fun n w _ _ => by
  by_cases h1 : n < 1
  · rw [show mostI n = 0 from if_pos (.inl h1)]
    go_enter Tryd.func14, Tryd.ntmps14
    go_wp2
    go_ret
    exact ⟨rfl, Below.refl _ _⟩
  by_cases h2 : 16384 < n
  · rw [show mostI n = 0 from if_pos (.inr h2)]
    go_enter Tryd.func14, Tryd.ntmps14
    go_wp2
    go_ret
    exact ⟨rfl, Below.refl _ _⟩
  have HM : Hid (mostI n = 6 * n * ((bitsN n.toNat : Int) + 1) * ((bitsN n.toNat : Int) + 1)) := if_neg (by omega)
  have C := fun wx => len_any n wx (by omega) (by omega)
  have hb : bitsN n.toNat ≤ 15 := bitsN_le (by omega)
  rw [HM.out]
  clear HM
  generalize bitsN n.toNat = b at *
  have hq : b = 0 ∨ b = 1 ∨ b = 2 ∨ b = 3 ∨ b = 4 ∨ b = 5 ∨ b = 6 ∨ b = 7 ∨ b = 8 ∨ b = 9 ∨ b = 10 ∨ b = 11 ∨ b = 12 ∨ b = 13 ∨ b = 14 ∨ b = 15 := by omega
  rcases hq with rfl | rfl | rfl | rfl | rfl | rfl | rfl | rfl | rfl | rfl | rfl | rfl | rfl | rfl | rfl | rfl
  all_goals (
    go_enter Tryd.func14, Tryd.ntmps14
    go_wp2_with (go_at_call 43; refine (C _).mono ?_; rintro e w1 ⟨rfl, rfl⟩)
    go_ret
    refine ⟨congrArg Ending.returned (congrArg (Value.int IntKind.i64) ?_), Below.refl _ _⟩
    omega)


end Go.Proofs.YthhfkcmoncgknaaDoor
