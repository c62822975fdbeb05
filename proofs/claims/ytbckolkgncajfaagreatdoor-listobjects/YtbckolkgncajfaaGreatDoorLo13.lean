/-
  Words of 32 bits: fields side by side, and masks; no Go in sight. Decode of the document's answer returns the instruction that a word is, or none, for every word of 32 bits; no other condition.
-/
import Derived.Test.YtbckolkgncajfaaGreatDoorLo11
import Derived.Laws.BitsAllLaws
import Derived.Test.YtbckolkgncajfaaGreatDoorLo04
import Derived.Test.YtbckolkgncajfaaGreatDoorLo03
import Derived.Deep.DeepCutAuto
namespace Go.Proofs.YtbckolkgncajfaaGreatDoor
open Go.RowKit

theorem or_add (X y q : Int) (k : Nat) (hX : X = (2 : Int) ^ k * q) (h0 : 0 ≤ q) (h1 : 0 ≤ y) (h2 : y < (2 : Int) ^ k) (h3 : X + y < 4294967296) : bits .or .u32 X y = X + y := by
  have hp : (0 : Int) < (2 : Int) ^ k := Int.pow_pos (by omega)
  have hX0 : 0 ≤ X := by rw [hX]; exact Int.mul_nonneg (Int.le_of_lt hp) h0
  obtain ⟨Q, rfl⟩ := Int.eq_ofNat_of_zero_le h0
  obtain ⟨Y, rfl⟩ := Int.eq_ofNat_of_zero_le h1
  rw [u32_or X Y hX0 (by omega) (by omega) (by omega)]
  have e : X.toNat = 2 ^ k * Q := by
    rw [hX]
    have : ((2 : Int) ^ k * (Q : Int)) = ((2 ^ k * Q : Nat) : Int) := by simp
    rw [this]; exact Int.toNat_natCast _
  have hy : Y < 2 ^ k := by
    have : ((2 ^ k : Nat) : Int) = (2 : Int) ^ k := by simp
    omega
  rw [Int.toNat_natCast, e, ← Nat.two_pow_add_eq_or_of_lt hy]
  rw [hX]; simp

theorem mask_mid (x : Int) (k : Nat) (m : Nat) (hm : m = 15 * 2 ^ k) (hm4 : m < 4294967296) (h0 : 0 ≤ x) (h1 : x < 4294967296) : bits .and .u32 x (m : Int) = x / (2 : Int) ^ k % 16 * (2 : Int) ^ k := by
  rw [u32_and x m h0 h1 (by omega) (by omega)]
  obtain ⟨X, rfl⟩ := Int.eq_ofNat_of_zero_le h0
  rw [Int.toNat_natCast, Int.toNat_natCast]
  have e : X &&& m = X / 2 ^ k % 16 * 2 ^ k := by
    have d := Nat.div_add_mod (X &&& m) (2 ^ k)
    have q : (X &&& m) / 2 ^ k = X / 2 ^ k % 16 := by
      rw [Nat.and_div_two_pow, hm, Nat.mul_div_cancel _ (Nat.two_pow_pos k)]
      exact Nat.and_two_pow_sub_one_eq_mod (X / 2 ^ k) 4
    have r : (X &&& m) % 2 ^ k = 0 := by
      rw [Nat.and_mod_two_pow, hm, Nat.mul_mod_left, Nat.and_zero]
    rw [q, r] at d
    rw [← d]; simp [Nat.mul_comm]
  rw [e]; simp




end Go.Proofs.YtbckolkgncajfaaGreatDoor

namespace Go.Proofs.YtbckolkgncajfaaGreatDoor
open Go.RowKit

theorem and15 (x : Int) (h0 : 0 ≤ x) (h1 : x < 4294967296) : bits .and .u32 x 15 = x % 16 := by
  rw [u32_and x 15 h0 h1 (by omega) (by omega)]
  have e : x.toNat &&& (15 : Int).toNat = x.toNat % 16 := Nat.and_two_pow_sub_one_eq_mod x.toNat 4
  rw [e]; omega
theorem and32767 (x : Int) (h0 : 0 ≤ x) (h1 : x < 4294967296) : bits .and .u32 x 32767 = x % 32768 := by
  rw [u32_and x 32767 h0 h1 (by omega) (by omega)]
  have e : x.toNat &&& (32767 : Int).toNat = x.toNat % 32768 := Nat.and_two_pow_sub_one_eq_mod x.toNat 15
  rw [e]; omega
theorem dec_yes {v : Int} (h : isIns v = true) : Ending.returned (.agg #[.int .i8 (v / 134217728), .int .i8 (v / 8388608 % 16), .int .i8 (v / 524288 % 16), .int .i8 (v / 32768 % 16), .int .i64 (wN v)]) = .returned (.agg #[.int .i8 (dOp v), .int .i8 (dD v), .int .i8 (dA v), .int .i8 (dB v), .int .i64 (dN v)]) := by
  unfold dOp dD dA dB dN; rw [h]; rfl
theorem dec_no {v : Int} (h : isIns v = false) : Ending.returned (.agg #[.int .i8 (-1), .int .i8 0, .int .i8 0, .int .i8 0, .int .i64 v]) = .returned (.agg #[.int .i8 (dOp v), .int .i8 (dD v), .int .i8 (dA v), .int .i8 (dB v), .int .i64 (dN v)]) := by
  unfold dOp dD dA dB dN; rw [h]; rfl

set_option maxRecDepth 100000 in
set_option maxHeartbeats 1000000 in
theorem refdecode_any (v : Int) (h0 : 0 ≤ v) (h1 : v < 4294967296) (w : World) : Calls Tryz.prog 59 #[.int .u32 v] w fun e w' =>
    e = .returned (.agg #[.int .i8 (dOp v), .int .i8 (dD v), .int .i8 (dA v), .int .i8 (dB v), .int .i64 (dN v)]) ∧ Below w.heap.size w w' := by
  have a1 := and15 (v / 8388608) (by omega) (by omega)
  have a2 := and15 (v / 524288) (by omega) (by omega)
  have a3 := and15 (v / 32768) (by omega) (by omega)
  have a4 := and32767 v h0 h1
  go_enter Tryz.func59, Tryz.ntmps59
  go_wp2_with fail
  refine (refhas_any _ _).mono ?_
  rintro e w' ⟨rfl, rfl⟩
  clear a1 a2 a3 a4
  go_upto_region 3 with fail
  go_cut [40] (fun t wx => t = .bool (nNeg v) ∧ wx = ((((w.alloc (.cells #[.int .i8 0, .int .i8 0, .int .i8 0, .int .i8 0, .int .i64 0] 95)).alloc (.cells #[.int .i8 (v / 134217728), .int .i8 (v / 8388608 % 16), .int .i8 (v / 524288 % 16), .int .i8 (v / 32768 % 16), .int .i64 (v % 32768)] 95)).alloc (.cells #[.bool (hD (v / 134217728)), .bool (hA (v / 134217728)), .bool (hB (v / 134217728)), .bool (hN (v / 134217728)), .bool (hP (v / 134217728))] 101)).alloc (.cells #[.bool (hD (v / 134217728)), .bool (hA (v / 134217728)), .bool (hB (v / 134217728)), .bool (hN (v / 134217728)), .bool (hP (v / 134217728))] 101)))
  case first =>
    cases hn : hN (v / 134217728)
    · go_wp2
      go_meet
      case rel => exact ⟨by unfold nNeg; rw [hn]; rfl, by simp only [hn]⟩
    · cases hp : hP (v / 134217728)
      · go_wp2
        go_meet
        case rel => exact ⟨by unfold nNeg; rw [hn, hp]; simp, by simp only [hn, hp]⟩
      · go_wp2
        go_meet
        case rel => exact ⟨by unfold nNeg; rw [hn, hp]; simp, by simp only [hn, hp]⟩
  case rest =>
    obtain ⟨rfl, rfl⟩ := hcut
    go_upto_if 40 with fail
    go_cut [] (fun wx => wx = ((((w.alloc (.cells #[.int .i8 0, .int .i8 0, .int .i8 0, .int .i8 0, .int .i64 0] 95)).alloc (.cells #[.int .i8 (v / 134217728), .int .i8 (v / 8388608 % 16), .int .i8 (v / 524288 % 16), .int .i8 (v / 32768 % 16), .int .i64 (wN v)] 95)).alloc (.cells #[.bool (hD (v / 134217728)), .bool (hA (v / 134217728)), .bool (hB (v / 134217728)), .bool (hN (v / 134217728)), .bool (hP (v / 134217728))] 101)).alloc (.cells #[.bool (hD (v / 134217728)), .bool (hA (v / 134217728)), .bool (hB (v / 134217728)), .bool (hN (v / 134217728)), .bool (hP (v / 134217728))] 101)))
    case first =>
      cases hq : nNeg v
      · have e := wN_pos hq
        have HE : Hid (wN v = v % 32768) := e
        clear e
        go_wp2
        go_meet
        case rel => rw [HE.out]
      · have e := wN_neg hq
        have HE : Hid (wN v = v % 32768 - 32768) := e
        clear e
        go_wp2
        go_meet
        case rel => rw [HE.out]
    case rest =>
      subst hcut
      cases hI : isIns v with
      | true =>
        have CE : ∀ wx : World, Calls Tryz.prog 90 #[.agg #[.int .i8 (v / 134217728), .int .i8 (v / 8388608 % 16), .int .i8 (v / 524288 % 16), .int .i8 (v / 32768 % 16), .int .i64 (wN v)]] wx fun e w' => e = .returned (.tuple #[.int .u32 v, .int .i64 0]) ∧ Below wx.heap.size wx w' := fun wx => by
          have h := refencode_any (wOp v) (wD v) (wA v) (wB v) (wN v) wx
          rw [(enc_yes h0 h1 hI).1, (enc_yes h0 h1 hI).2] at h
          exact h
        have HI : Hid (isIns v = true) := hI
        clear hI
        go_wp2_with fail
        refine (CE _).mono ?_
        rintro e w2 ⟨rfl, hb2⟩
        clear CE
        have z0 : w2.cell? ⟨w.heap.size, 0, none⟩ = some (.int .i8 0) := cell_keep hb2 (by simp [go_sem])
        have y0 : w2.frozen? ⟨w.heap.size, 0, none⟩ = false := frozen_keep hb2 (v := .int .i8 0) (by simp [go_sem]) (by simp [go_sem])
        have x0 : w2.cell? ⟨w.heap.size + 1, 0, none⟩ = some (.int .i8 (v / 134217728)) := cell_keep hb2 (by simp [go_sem])
        have z1 : w2.cell? ⟨w.heap.size, 1, none⟩ = some (.int .i8 0) := cell_keep hb2 (by simp [go_sem])
        have y1 : w2.frozen? ⟨w.heap.size, 1, none⟩ = false := frozen_keep hb2 (v := .int .i8 0) (by simp [go_sem]) (by simp [go_sem])
        have x1 : w2.cell? ⟨w.heap.size + 1, 1, none⟩ = some (.int .i8 (v / 8388608 % 16)) := cell_keep hb2 (by simp [go_sem])
        have z2 : w2.cell? ⟨w.heap.size, 2, none⟩ = some (.int .i8 0) := cell_keep hb2 (by simp [go_sem])
        have y2 : w2.frozen? ⟨w.heap.size, 2, none⟩ = false := frozen_keep hb2 (v := .int .i8 0) (by simp [go_sem]) (by simp [go_sem])
        have x2 : w2.cell? ⟨w.heap.size + 1, 2, none⟩ = some (.int .i8 (v / 524288 % 16)) := cell_keep hb2 (by simp [go_sem])
        have z3 : w2.cell? ⟨w.heap.size, 3, none⟩ = some (.int .i8 0) := cell_keep hb2 (by simp [go_sem])
        have y3 : w2.frozen? ⟨w.heap.size, 3, none⟩ = false := frozen_keep hb2 (v := .int .i8 0) (by simp [go_sem]) (by simp [go_sem])
        have x3 : w2.cell? ⟨w.heap.size + 1, 3, none⟩ = some (.int .i8 (v / 32768 % 16)) := cell_keep hb2 (by simp [go_sem])
        have z4 : w2.cell? ⟨w.heap.size, 4, none⟩ = some (.int .i64 0) := cell_keep hb2 (by simp [go_sem])
        have y4 : w2.frozen? ⟨w.heap.size, 4, none⟩ = false := frozen_keep hb2 (v := .int .i64 0) (by simp [go_sem]) (by simp [go_sem])
        have x4 : w2.cell? ⟨w.heap.size + 1, 4, none⟩ = some (.int .i64 (wN v)) := cell_keep hb2 (by simp [go_sem])
        have HB2 : Hid (Below w.heap.size w w2) := bel_trans (bel_alloc (bel_alloc (bel_alloc (bel_alloc (Below.refl _ _) _) _) _) _) hb2
        clear hb2
        go_wp2
        exact bodyPost_ret (v := .agg #[.int .i8 (v / 134217728), .int .i8 (v / 8388608 % 16), .int .i8 (v / 524288 % 16), .int .i8 (v / 32768 % 16), .int .i64 (wN v)]) (by simp [results, Tryz.results59, go_sem, z0, z1, z2, z3, z4]) rfl ⟨dec_yes HI.out, ((((HB2.out.setCell (Nat.le_refl _) _).setCell (Nat.le_refl _) _).setCell (Nat.le_refl _) _).setCell (Nat.le_refl _) _).setCell (Nat.le_refl _) _⟩
      | false =>
        have HI : Hid (isIns v = false) := hI
        obtain ⟨E, hE, CE⟩ : ∃ E : Int, (E == 0) = false ∧ ∀ wx : World, Calls Tryz.prog 90 #[.agg #[.int .i8 (v / 134217728), .int .i8 (v / 8388608 % 16), .int .i8 (v / 524288 % 16), .int .i8 (v / 32768 % 16), .int .i64 (wN v)]] wx fun e w' => e = .returned (.tuple #[.int .u32 0, .int .i64 E]) ∧ Below wx.heap.size wx w' := by
          obtain ⟨e1, e2⟩ := enc_no h0 hI
          refine ⟨encE (wOp v) (wD v) (wA v) (wB v) (wN v), by rcases e2 with e2 | e2 <;> (rw [e2]; rfl), fun wx => ?_⟩
          have h := refencode_any (wOp v) (wD v) (wA v) (wB v) (wN v) wx
          rw [e1] at h
          exact h
        clear hI
        go_wp2_with fail
        refine (CE _).mono ?_
        rintro e w2 ⟨rfl, hb2⟩
        clear CE
        have z0 : w2.cell? ⟨w.heap.size, 0, none⟩ = some (.int .i8 0) := cell_keep hb2 (by simp [go_sem])
        have y0 : w2.frozen? ⟨w.heap.size, 0, none⟩ = false := frozen_keep hb2 (v := .int .i8 0) (by simp [go_sem]) (by simp [go_sem])
        have x0 : w2.cell? ⟨w.heap.size + 1, 0, none⟩ = some (.int .i8 (v / 134217728)) := cell_keep hb2 (by simp [go_sem])
        have z1 : w2.cell? ⟨w.heap.size, 1, none⟩ = some (.int .i8 0) := cell_keep hb2 (by simp [go_sem])
        have y1 : w2.frozen? ⟨w.heap.size, 1, none⟩ = false := frozen_keep hb2 (v := .int .i8 0) (by simp [go_sem]) (by simp [go_sem])
        have x1 : w2.cell? ⟨w.heap.size + 1, 1, none⟩ = some (.int .i8 (v / 8388608 % 16)) := cell_keep hb2 (by simp [go_sem])
        have z2 : w2.cell? ⟨w.heap.size, 2, none⟩ = some (.int .i8 0) := cell_keep hb2 (by simp [go_sem])
        have y2 : w2.frozen? ⟨w.heap.size, 2, none⟩ = false := frozen_keep hb2 (v := .int .i8 0) (by simp [go_sem]) (by simp [go_sem])
        have x2 : w2.cell? ⟨w.heap.size + 1, 2, none⟩ = some (.int .i8 (v / 524288 % 16)) := cell_keep hb2 (by simp [go_sem])
        have z3 : w2.cell? ⟨w.heap.size, 3, none⟩ = some (.int .i8 0) := cell_keep hb2 (by simp [go_sem])
        have y3 : w2.frozen? ⟨w.heap.size, 3, none⟩ = false := frozen_keep hb2 (v := .int .i8 0) (by simp [go_sem]) (by simp [go_sem])
        have x3 : w2.cell? ⟨w.heap.size + 1, 3, none⟩ = some (.int .i8 (v / 32768 % 16)) := cell_keep hb2 (by simp [go_sem])
        have z4 : w2.cell? ⟨w.heap.size, 4, none⟩ = some (.int .i64 0) := cell_keep hb2 (by simp [go_sem])
        have y4 : w2.frozen? ⟨w.heap.size, 4, none⟩ = false := frozen_keep hb2 (v := .int .i64 0) (by simp [go_sem]) (by simp [go_sem])
        have x4 : w2.cell? ⟨w.heap.size + 1, 4, none⟩ = some (.int .i64 (wN v)) := cell_keep hb2 (by simp [go_sem])
        have HB2 : Hid (Below w.heap.size w w2) := bel_trans (bel_alloc (bel_alloc (bel_alloc (bel_alloc (Below.refl _ _) _) _) _) _) hb2
        clear hb2
        go_wp2
        exact bodyPost_ret (v := .agg #[.int .i8 (-1), .int .i8 0, .int .i8 0, .int .i8 0, .int .i64 v]) (by simp [results, Tryz.results59, go_sem, z0, z1, z2, z3, z4]) rfl ⟨dec_no HI.out, ((((HB2.out.setCell (Nat.le_refl _) _).setCell (Nat.le_refl _) _).setCell (Nat.le_refl _) _).setCell (Nat.le_refl _) _).setCell (Nat.le_refl _) _⟩




end Go.Proofs.YtbckolkgncajfaaGreatDoor
