/-
  Words of 32 bits: fields side by side, and masks; no Go in sight.
-/
import Derived.Test.YtbphfgalgiinnaaSmall
import Derived.Laws.BitsAllLaws
namespace Go.Proofs.Ytbphfgalgiinnaa
open Go.RowKit

theorem or_add (X y q : Int) (k : Nat) (hX : X = (2 : Int) ^ k * q) (h0 : 0 ≤ q) (h1 : 0 ≤ y) (h2 : y < (2 : Int) ^ k) (h3 : X + y < 4294967296) : bits .or .u32 X y = X + y := by
  have hp : (0 : Int) < (2 : Int) ^ k := Int.pow_pos (by omega)
  have hX0 : 0 ≤ X := by rw [hX]; exact Int.mul_nonneg (Int.le_of_lt hp) h0
  obtain ⟨Q, rfl⟩ := Int.eq_ofNat_of_zero_le h0
  obtain ⟨Y, rfl⟩ := Int.eq_ofNat_of_zero_le h1
  rw [u32_or X Y hX0 (by omega) (by omega) (by omega)]
  have e : X.toNat = 2 ^ k * Q := by
    rw [hX]
    have : ((2 : Int) ^ k * (Q : Int)) = ((2 ^ k * Q : Nat) : Int) := by simp
    rw [this]; exact Int.toNat_natCast _
  have hy : Y < 2 ^ k := by
    have : ((2 ^ k : Nat) : Int) = (2 : Int) ^ k := by simp
    omega
  rw [Int.toNat_natCast, e, ← Nat.two_pow_add_eq_or_of_lt hy]
  rw [hX]; simp

theorem mask_mid (x : Int) (k : Nat) (m : Nat) (hm : m = 15 * 2 ^ k) (hm4 : m < 4294967296) (h0 : 0 ≤ x) (h1 : x < 4294967296) : bits .and .u32 x (m : Int) = x / (2 : Int) ^ k % 16 * (2 : Int) ^ k := by
  rw [u32_and x m h0 h1 (by omega) (by omega)]
  obtain ⟨X, rfl⟩ := Int.eq_ofNat_of_zero_le h0
  rw [Int.toNat_natCast, Int.toNat_natCast]
  have e : X &&& m = X / 2 ^ k % 16 * 2 ^ k := by
    have d := Nat.div_add_mod (X &&& m) (2 ^ k)
    have q : (X &&& m) / 2 ^ k = X / 2 ^ k % 16 := by
      rw [Nat.and_div_two_pow, hm, Nat.mul_div_cancel _ (Nat.two_pow_pos k)]
      exact Nat.and_two_pow_sub_one_eq_mod (X / 2 ^ k) 4
    have r : (X &&& m) % 2 ^ k = 0 := by
      rw [Nat.and_mod_two_pow, hm, Nat.mul_mod_left, Nat.and_zero]
    rw [q, r] at d
    rw [← d]; simp [Nat.mul_comm]
  rw [e]; simp


end Go.Proofs.Ytbphfgalgiinnaa
