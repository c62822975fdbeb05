/-
  The small functions of package isa, each by what it returns; conditions: an op is an int8's number. Whether the fields of an instruction may be: allow of package isa, for every op that there is; no other condition. Words of 32 bits: fields side by side, and masks; no Go in sight. Decode of the document's answer returns the instruction that a word is, or none, for every word of 32 bits; no other condition.
-/
import Derived.Test.YtokhclindfipbaaGreatDoorProg
import Derived.Laws.BitsAllLaws
import Derived.Test.YtokhclindfipbaaGreatDoorPa22
import Derived.Deep.DeepCutAuto
import Derived.Test.YtokhclindfipbaaGreatDoorPa03
namespace Go.Proofs.YtokhclindfipbaaGreatDoor
open Go.RowKit

theorem known_any (op : Int) (h8 : op ≤ 127) (w : World) : Calls Tryz.prog 133 #[.int .i8 op] w fun e w' => e = .returned (.bool (decide (0 ≤ op ∧ op ≤ 21))) ∧ w' = w := by
  by_cases h : op < 0
  · rw [show decide (0 ≤ op ∧ op ≤ 21) = false from decide_eq_false (by omega)]
    go_enter Tryz.func133, Tryz.ntmps133
    go_wp2
    go_ret
    exact ⟨rfl, rfl⟩
  by_cases h2 : op < 22
  · rw [show decide (0 ≤ op ∧ op ≤ 21) = true from decide_eq_true (by omega)]
    go_enter Tryz.func133, Tryz.ntmps133
    go_wp2
    go_ret
    exact ⟨by first | rfl | (simp [h2]; done), rfl⟩
  · rw [show decide (0 ≤ op ∧ op ≤ 21) = false from decide_eq_false (by omega)]
    go_enter Tryz.func133, Tryz.ntmps133
    go_wp2
    go_ret
    exact ⟨by first | rfl | (simp [h2]; done), rfl⟩

/-- The fields of the ops, as bits. -/
def shL : List Int := [0, 9, 3, 7, 7, 7, 7, 7, 7, 7, 7, 11, 14, 1, 10, 24, 26, 24, 2, 2, 25, 0]
def sh (op : Int) : Int := shL.getD op.toNat 0

theorem fhas_any (f o : Int) (w : World) : Calls Tryz.prog 135 #[.int .u8 f, .int .u8 o] w fun e w' => e = .returned (.bool (bits .and .u8 f o != 0)) ∧ w' = w := by
  go_enter Tryz.func135, Tryz.ntmps135
  go_wp2
  go_ret
  exact ⟨rfl, rfl⟩

theorem signed_any (n : Int) (h0 : 0 ≤ n) (h1 : n < 4294967296) (w : World) : Calls Tryz.prog 131 #[.int .u32 n] w fun e w' => e = .returned (.int .i64 (if 16383 < n then n - 32768 else n)) ∧ w' = w := by
  by_cases h : 16383 < n
  · rw [if_pos h]
    go_enter Tryz.func131, Tryz.ntmps131
    go_wp2
    go_ret
    exact ⟨rfl, rfl⟩
  · rw [if_neg h]
    go_enter Tryz.func131, Tryz.ntmps131
    go_wp2
    go_ret
    exact ⟨rfl, rfl⟩

theorem fregister_any (f o r : Int) (h : Bool) (hh : (bits .and .u8 f o != 0) = h) (w : World) : Calls Tryz.prog 158 #[.int .u8 f, .int .u8 o, .int .i8 r] w fun e w' => e = .returned (.bool (regOK h r)) ∧ w' = w := by
  have C : ∀ wx : World, Calls Tryz.prog 135 #[.int .u8 f, .int .u8 o] wx fun e w' => e = .returned (.bool h) ∧ w' = wx := fun wx => by
    have k := fhas_any f o wx
    rw [hh] at k; exact k
  clear hh
  unfold regOK
  cases h
  · go_enter Tryz.func158, Tryz.ntmps158
    go_wp2_with (go_at_call 135; refine (C _).mono ?_; rintro e w1 ⟨rfl, rfl⟩)
    go_ret
    exact ⟨by first | rfl | (simp; done) | (simp; omega), rfl⟩
  · by_cases h1 : 0 ≤ r
    · go_enter Tryz.func158, Tryz.ntmps158
      go_wp2_with (go_at_call 135; refine (C _).mono ?_; rintro e w1 ⟨rfl, rfl⟩)
      go_ret
      exact ⟨by first | rfl | (simp; done) | (simp; omega), rfl⟩
    · go_enter Tryz.func158, Tryz.ntmps158
      go_wp2_with (go_at_call 135; refine (C _).mono ?_; rintro e w1 ⟨rfl, rfl⟩)
      go_ret
      exact ⟨by first | rfl | (simp; done) | (simp; omega), rfl⟩

def loN (n p : Bool) : Int := if p then 0 else if n then -16384 else 0
def hiN (n p : Bool) : Int := if p then 16383 else if n then 16383 else 0

theorem frange_any (f : Int) (n p : Bool) (hn : (bits .and .u8 f 8 != 0) = n) (hp : (bits .and .u8 f 16 != 0) = p) (w : World) : Calls Tryz.prog 157 #[.int .u8 f] w fun e w' => e = .returned (.tuple #[.int .i64 (loN n p), .int .i64 (hiN n p)]) ∧ w' = w := by
  have C1 : ∀ wx : World, Calls Tryz.prog 135 #[.int .u8 f, .int .u8 8] wx fun e w' => e = .returned (.bool n) ∧ w' = wx := fun wx => by
    have k := fhas_any f 8 wx
    rw [hn] at k; exact k
  have C2 : ∀ wx : World, Calls Tryz.prog 135 #[.int .u8 f, .int .u8 16] wx fun e w' => e = .returned (.bool p) ∧ w' = wx := fun wx => by
    have k := fhas_any f 16 wx
    rw [hp] at k; exact k
  clear hn hp
  unfold loN hiN
  cases p
  · cases n
    · go_enter Tryz.func157, Tryz.ntmps157
      go_wp2_with fail
      refine (C2 _).mono ?_
      rintro e w1 ⟨rfl, rfl⟩
      go_wp2_with fail
      refine (C1 _).mono ?_
      rintro e w1 ⟨rfl, rfl⟩
      go_wp2
      go_ret2
      exact ⟨rfl, rfl⟩
    · go_enter Tryz.func157, Tryz.ntmps157
      go_wp2_with fail
      refine (C2 _).mono ?_
      rintro e w1 ⟨rfl, rfl⟩
      go_wp2_with fail
      refine (C1 _).mono ?_
      rintro e w1 ⟨rfl, rfl⟩
      go_wp2
      go_ret2
      exact ⟨rfl, rfl⟩
  · go_enter Tryz.func157, Tryz.ntmps157
    go_wp2_with fail
    refine (C2 _).mono ?_
    rintro e w1 ⟨rfl, rfl⟩
    go_wp2
    go_ret2
    exact ⟨rfl, rfl⟩

theorem sh_bits (op : Int) (h0 : 0 ≤ op) (h1 : op ≤ 21) : (bits .and .u8 (sh op) 1 != 0) = hD op ∧ (bits .and .u8 (sh op) 2 != 0) = hA op ∧ (bits .and .u8 (sh op) 4 != 0) = hB op ∧ (bits .and .u8 (sh op) 8 != 0) = hN op ∧ (bits .and .u8 (sh op) 16 != 0) = hP op := by
  have h : ∀ k : Fin 22, (bits .and .u8 (sh (k.val : Int)) 1 != 0) = hD k.val ∧ (bits .and .u8 (sh (k.val : Int)) 2 != 0) = hA k.val ∧ (bits .and .u8 (sh (k.val : Int)) 4 != 0) = hB k.val ∧ (bits .and .u8 (sh (k.val : Int)) 8 != 0) = hN k.val ∧ (bits .and .u8 (sh (k.val : Int)) 16 != 0) = hP k.val := by decide +kernel
  have k := h ⟨op.toNat, by omega⟩
  simp only [Int.toNat_of_nonneg h0] at k
  exact k

theorem num_lohi (n p : Bool) (hpn : p = true → n = true) (x : Int) : (decide (loN n p ≤ x) && decide (x ≤ hiN n p)) = numOK n p x := by
  unfold loN hiN numOK
  cases n <;> cases p <;> simp at hpn ⊢ <;> (rw [Bool.eq_iff_iff]; simp; omega)

theorem hP_hN (op : Int) : hP op = true → hN op = true := by
  unfold hP hN; simp; omega









end Go.Proofs.YtokhclindfipbaaGreatDoor

namespace Go.Proofs.YtokhclindfipbaaGreatDoor
open Go.RowKit


set_option maxRecDepth 100000 in
set_option maxHeartbeats 1000000 in
theorem allow_of (f x d a b n lo hi : Int) (rd ra rb : Bool) (w : World)
    (CR : ∀ wx : World, Calls Tryz.prog 157 #[.int .u8 f] wx fun e w' => e = .returned (.tuple #[.int .i64 lo, .int .i64 hi]) ∧ w' = wx)
    (C1 : ∀ wx : World, Calls Tryz.prog 158 #[.int .u8 f, .int .u8 1, .int .i8 d] wx fun e w' => e = .returned (.bool rd) ∧ w' = wx)
    (C2 : ∀ wx : World, Calls Tryz.prog 158 #[.int .u8 f, .int .u8 2, .int .i8 a] wx fun e w' => e = .returned (.bool ra) ∧ w' = wx)
    (C4 : ∀ wx : World, Calls Tryz.prog 158 #[.int .u8 f, .int .u8 4, .int .i8 b] wx fun e w' => e = .returned (.bool rb) ∧ w' = wx) :
    Calls Tryz.prog 148 #[.int .u8 f, .agg #[.int .i8 x, .int .i8 d, .int .i8 a, .int .i8 b, .int .i64 n]] w fun e w' => e = .returned (.bool (rd && ra && rb && (decide (lo ≤ n) && decide (n ≤ hi)))) ∧ w' = w.alloc (.cells #[.int .i8 x, .int .i8 d, .int .i8 a, .int .i8 b, .int .i64 n] 99) := by
  cases rd with
  | false =>
    go_enter Tryz.func148, Tryz.ntmps148
    go_wp2_with fail
    refine (CR _).mono ?_
    rintro e w1 ⟨rfl, rfl⟩
    go_wp2_with fail
    refine (C1 _).mono ?_
    rintro e w1 ⟨rfl, rfl⟩
    go_wp2
    go_ret
    exact ⟨by first | rfl | (simp [*]; done) | (simp [*]; omega), rfl⟩
  | true =>
  cases ra with
  | false =>
    go_enter Tryz.func148, Tryz.ntmps148
    go_wp2_with fail
    refine (CR _).mono ?_
    rintro e w1 ⟨rfl, rfl⟩
    go_wp2_with fail
    refine (C1 _).mono ?_
    rintro e w1 ⟨rfl, rfl⟩
    go_wp2_with fail
    refine (C2 _).mono ?_
    rintro e w1 ⟨rfl, rfl⟩
    go_wp2
    go_ret
    exact ⟨by first | rfl | (simp [*]; done) | (simp [*]; omega), rfl⟩
  | true =>
  cases rb with
  | false =>
    go_enter Tryz.func148, Tryz.ntmps148
    go_wp2_with fail
    refine (CR _).mono ?_
    rintro e w1 ⟨rfl, rfl⟩
    go_wp2_with fail
    refine (C1 _).mono ?_
    rintro e w1 ⟨rfl, rfl⟩
    go_wp2_with fail
    refine (C2 _).mono ?_
    rintro e w1 ⟨rfl, rfl⟩
    go_wp2_with fail
    refine (C4 _).mono ?_
    rintro e w1 ⟨rfl, rfl⟩
    go_wp2
    go_ret
    exact ⟨by first | rfl | (simp [*]; done) | (simp [*]; omega), rfl⟩
  | true =>
  by_cases hl : lo ≤ n
  · go_enter Tryz.func148, Tryz.ntmps148
    go_wp2_with fail
    refine (CR _).mono ?_
    rintro e w1 ⟨rfl, rfl⟩
    go_wp2_with fail
    refine (C1 _).mono ?_
    rintro e w1 ⟨rfl, rfl⟩
    go_wp2_with fail
    refine (C2 _).mono ?_
    rintro e w1 ⟨rfl, rfl⟩
    go_wp2_with fail
    refine (C4 _).mono ?_
    rintro e w1 ⟨rfl, rfl⟩
    go_wp2
    go_ret
    exact ⟨by first | rfl | (simp [*]; done) | (simp [*]; omega), rfl⟩
  · go_enter Tryz.func148, Tryz.ntmps148
    go_wp2_with fail
    refine (CR _).mono ?_
    rintro e w1 ⟨rfl, rfl⟩
    go_wp2_with fail
    refine (C1 _).mono ?_
    rintro e w1 ⟨rfl, rfl⟩
    go_wp2_with fail
    refine (C2 _).mono ?_
    rintro e w1 ⟨rfl, rfl⟩
    go_wp2_with fail
    refine (C4 _).mono ?_
    rintro e w1 ⟨rfl, rfl⟩
    go_wp2
    go_ret
    exact ⟨by first | rfl | (simp [*]; done) | (simp [*]; omega), rfl⟩

theorem allow_any (op x d a b n : Int) (h0 : 0 ≤ op) (h1 : op ≤ 21) (w : World) : Calls Tryz.prog 148 #[.int .u8 (sh op), .agg #[.int .i8 x, .int .i8 d, .int .i8 a, .int .i8 b, .int .i64 n]] w fun e w' => e = .returned (.bool (insOK op d a b n)) ∧ w' = w.alloc (.cells #[.int .i8 x, .int .i8 d, .int .i8 a, .int .i8 b, .int .i64 n] 99) := by
  obtain ⟨b1, b2, b4, b8, b16⟩ := sh_bits op h0 h1
  have h := allow_of (sh op) x d a b n _ _ _ _ _ w (frange_any (sh op) _ _ b8 b16) (fregister_any (sh op) 1 d _ b1) (fregister_any (sh op) 2 a _ b2) (fregister_any (sh op) 4 b _ b4)
  rw [num_lohi _ _ (hP_hN op)] at h
  exact h









end Go.Proofs.YtokhclindfipbaaGreatDoor

namespace Go.Proofs.YtokhclindfipbaaGreatDoor
open Go.RowKit

theorem or_add (X y q : Int) (k : Nat) (hX : X = (2 : Int) ^ k * q) (h0 : 0 ≤ q) (h1 : 0 ≤ y) (h2 : y < (2 : Int) ^ k) (h3 : X + y < 4294967296) : bits .or .u32 X y = X + y := by
  have hp : (0 : Int) < (2 : Int) ^ k := Int.pow_pos (by omega)
  have hX0 : 0 ≤ X := by rw [hX]; exact Int.mul_nonneg (Int.le_of_lt hp) h0
  obtain ⟨Q, rfl⟩ := Int.eq_ofNat_of_zero_le h0
  obtain ⟨Y, rfl⟩ := Int.eq_ofNat_of_zero_le h1
  rw [u32_or X Y hX0 (by omega) (by omega) (by omega)]
  have e : X.toNat = 2 ^ k * Q := by
    rw [hX]
    have : ((2 : Int) ^ k * (Q : Int)) = ((2 ^ k * Q : Nat) : Int) := by simp
    rw [this]; exact Int.toNat_natCast _
  have hy : Y < 2 ^ k := by
    have : ((2 ^ k : Nat) : Int) = (2 : Int) ^ k := by simp
    omega
  rw [Int.toNat_natCast, e, ← Nat.two_pow_add_eq_or_of_lt hy]
  rw [hX]; simp

theorem mask_mid (x : Int) (k : Nat) (m : Nat) (hm : m = 15 * 2 ^ k) (hm4 : m < 4294967296) (h0 : 0 ≤ x) (h1 : x < 4294967296) : bits .and .u32 x (m : Int) = x / (2 : Int) ^ k % 16 * (2 : Int) ^ k := by
  rw [u32_and x m h0 h1 (by omega) (by omega)]
  obtain ⟨X, rfl⟩ := Int.eq_ofNat_of_zero_le h0
  rw [Int.toNat_natCast, Int.toNat_natCast]
  have e : X &&& m = X / 2 ^ k % 16 * 2 ^ k := by
    have d := Nat.div_add_mod (X &&& m) (2 ^ k)
    have q : (X &&& m) / 2 ^ k = X / 2 ^ k % 16 := by
      rw [Nat.and_div_two_pow, hm, Nat.mul_div_cancel _ (Nat.two_pow_pos k)]
      exact Nat.and_two_pow_sub_one_eq_mod (X / 2 ^ k) 4
    have r : (X &&& m) % 2 ^ k = 0 := by
      rw [Nat.and_mod_two_pow, hm, Nat.mul_mod_left, Nat.and_zero]
    rw [q, r] at d
    rw [← d]; simp [Nat.mul_comm]
  rw [e]; simp









end Go.Proofs.YtokhclindfipbaaGreatDoor

namespace Go.Proofs.YtokhclindfipbaaGreatDoor
open Go.RowKit

theorem and15 (x : Int) (h0 : 0 ≤ x) (h1 : x < 4294967296) : bits .and .u32 x 15 = x % 16 := by
  rw [u32_and x 15 h0 h1 (by omega) (by omega)]
  have e : x.toNat &&& (15 : Int).toNat = x.toNat % 16 := Nat.and_two_pow_sub_one_eq_mod x.toNat 4
  rw [e]; omega
theorem and32767 (x : Int) (h0 : 0 ≤ x) (h1 : x < 4294967296) : bits .and .u32 x 32767 = x % 32768 := by
  rw [u32_and x 32767 h0 h1 (by omega) (by omega)]
  have e : x.toNat &&& (32767 : Int).toNat = x.toNat % 32768 := Nat.and_two_pow_sub_one_eq_mod x.toNat 15
  rw [e]; omega
theorem dec_yes {v : Int} (h : isIns v = true) : Ending.returned (.agg #[.int .i8 (v / 134217728), .int .i8 (v / 8388608 % 16), .int .i8 (v / 524288 % 16), .int .i8 (v / 32768 % 16), .int .i64 (wN v)]) = .returned (.agg #[.int .i8 (dOp v), .int .i8 (dD v), .int .i8 (dA v), .int .i8 (dB v), .int .i64 (dN v)]) := by
  unfold dOp dD dA dB dN; rw [h]; rfl
theorem dec_no {v : Int} (h : isIns v = false) : Ending.returned (.agg #[.int .i8 (-1), .int .i8 0, .int .i8 0, .int .i8 0, .int .i64 v]) = .returned (.agg #[.int .i8 (dOp v), .int .i8 (dD v), .int .i8 (dA v), .int .i8 (dB v), .int .i64 (dN v)]) := by
  unfold dOp dD dA dB dN; rw [h]; rfl

set_option maxRecDepth 100000 in
set_option maxHeartbeats 1000000 in
theorem refdecode_any (v : Int) (h0 : 0 ≤ v) (h1 : v < 4294967296) (w : World) : Calls Tryz.prog 58 #[.int .u32 v] w fun e w' =>
    e = .returned (.agg #[.int .i8 (dOp v), .int .i8 (dD v), .int .i8 (dA v), .int .i8 (dB v), .int .i64 (dN v)]) ∧ Below w.heap.size w w' := by
  have a1 := and15 (v / 8388608) (by omega) (by omega)
  have a2 := and15 (v / 524288) (by omega) (by omega)
  have a3 := and15 (v / 32768) (by omega) (by omega)
  have a4 := and32767 v h0 h1
  go_enter Tryz.func58, Tryz.ntmps58
  go_wp2_with fail
  refine (refhas_any _ _).mono ?_
  rintro e w' ⟨rfl, rfl⟩
  clear a1 a2 a3 a4
  go_upto_region 3 with fail
  go_cut [40] (fun t wx => t = .bool (nNeg v) ∧ wx = ((((w.alloc (.cells #[.int .i8 0, .int .i8 0, .int .i8 0, .int .i8 0, .int .i64 0] 99)).alloc (.cells #[.int .i8 (v / 134217728), .int .i8 (v / 8388608 % 16), .int .i8 (v / 524288 % 16), .int .i8 (v / 32768 % 16), .int .i64 (v % 32768)] 99)).alloc (.cells #[.bool (hD (v / 134217728)), .bool (hA (v / 134217728)), .bool (hB (v / 134217728)), .bool (hN (v / 134217728)), .bool (hP (v / 134217728))] 148)).alloc (.cells #[.bool (hD (v / 134217728)), .bool (hA (v / 134217728)), .bool (hB (v / 134217728)), .bool (hN (v / 134217728)), .bool (hP (v / 134217728))] 148)))
  case first =>
    cases hn : hN (v / 134217728)
    · go_wp2
      go_meet
      case rel => exact ⟨by unfold nNeg; rw [hn]; rfl, by simp only [hn]⟩
    · cases hp : hP (v / 134217728)
      · go_wp2
        go_meet
        case rel => exact ⟨by unfold nNeg; rw [hn, hp]; simp, by simp only [hn, hp]⟩
      · go_wp2
        go_meet
        case rel => exact ⟨by unfold nNeg; rw [hn, hp]; simp, by simp only [hn, hp]⟩
  case rest =>
    obtain ⟨rfl, rfl⟩ := hcut
    go_upto_if 40 with fail
    go_cut [] (fun wx => wx = ((((w.alloc (.cells #[.int .i8 0, .int .i8 0, .int .i8 0, .int .i8 0, .int .i64 0] 99)).alloc (.cells #[.int .i8 (v / 134217728), .int .i8 (v / 8388608 % 16), .int .i8 (v / 524288 % 16), .int .i8 (v / 32768 % 16), .int .i64 (wN v)] 99)).alloc (.cells #[.bool (hD (v / 134217728)), .bool (hA (v / 134217728)), .bool (hB (v / 134217728)), .bool (hN (v / 134217728)), .bool (hP (v / 134217728))] 148)).alloc (.cells #[.bool (hD (v / 134217728)), .bool (hA (v / 134217728)), .bool (hB (v / 134217728)), .bool (hN (v / 134217728)), .bool (hP (v / 134217728))] 148)))
    case first =>
      cases hq : nNeg v
      · have e := wN_pos hq
        have HE : Hid (wN v = v % 32768) := e
        clear e
        go_wp2
        go_meet
        case rel => rw [HE.out]
      · have e := wN_neg hq
        have HE : Hid (wN v = v % 32768 - 32768) := e
        clear e
        go_wp2
        go_meet
        case rel => rw [HE.out]
    case rest =>
      subst hcut
      cases hI : isIns v with
      | true =>
        have CE : ∀ wx : World, Calls Tryz.prog 73 #[.agg #[.int .i8 (v / 134217728), .int .i8 (v / 8388608 % 16), .int .i8 (v / 524288 % 16), .int .i8 (v / 32768 % 16), .int .i64 (wN v)]] wx fun e w' => e = .returned (.tuple #[.int .u32 v, .int .i64 0]) ∧ Below wx.heap.size wx w' := fun wx => by
          have h := refencode_any (wOp v) (wD v) (wA v) (wB v) (wN v) wx
          rw [(enc_yes h0 h1 hI).1, (enc_yes h0 h1 hI).2] at h
          exact h
        have HI : Hid (isIns v = true) := hI
        clear hI
        go_wp2_with fail
        refine (CE _).mono ?_
        rintro e w2 ⟨rfl, hb2⟩
        clear CE
        have z0 : w2.cell? ⟨w.heap.size, 0, none⟩ = some (.int .i8 0) := cell_keep hb2 (by simp [go_sem])
        have y0 : w2.frozen? ⟨w.heap.size, 0, none⟩ = false := frozen_keep hb2 (v := .int .i8 0) (by simp [go_sem]) (by simp [go_sem])
        have x0 : w2.cell? ⟨w.heap.size + 1, 0, none⟩ = some (.int .i8 (v / 134217728)) := cell_keep hb2 (by simp [go_sem])
        have z1 : w2.cell? ⟨w.heap.size, 1, none⟩ = some (.int .i8 0) := cell_keep hb2 (by simp [go_sem])
        have y1 : w2.frozen? ⟨w.heap.size, 1, none⟩ = false := frozen_keep hb2 (v := .int .i8 0) (by simp [go_sem]) (by simp [go_sem])
        have x1 : w2.cell? ⟨w.heap.size + 1, 1, none⟩ = some (.int .i8 (v / 8388608 % 16)) := cell_keep hb2 (by simp [go_sem])
        have z2 : w2.cell? ⟨w.heap.size, 2, none⟩ = some (.int .i8 0) := cell_keep hb2 (by simp [go_sem])
        have y2 : w2.frozen? ⟨w.heap.size, 2, none⟩ = false := frozen_keep hb2 (v := .int .i8 0) (by simp [go_sem]) (by simp [go_sem])
        have x2 : w2.cell? ⟨w.heap.size + 1, 2, none⟩ = some (.int .i8 (v / 524288 % 16)) := cell_keep hb2 (by simp [go_sem])
        have z3 : w2.cell? ⟨w.heap.size, 3, none⟩ = some (.int .i8 0) := cell_keep hb2 (by simp [go_sem])
        have y3 : w2.frozen? ⟨w.heap.size, 3, none⟩ = false := frozen_keep hb2 (v := .int .i8 0) (by simp [go_sem]) (by simp [go_sem])
        have x3 : w2.cell? ⟨w.heap.size + 1, 3, none⟩ = some (.int .i8 (v / 32768 % 16)) := cell_keep hb2 (by simp [go_sem])
        have z4 : w2.cell? ⟨w.heap.size, 4, none⟩ = some (.int .i64 0) := cell_keep hb2 (by simp [go_sem])
        have y4 : w2.frozen? ⟨w.heap.size, 4, none⟩ = false := frozen_keep hb2 (v := .int .i64 0) (by simp [go_sem]) (by simp [go_sem])
        have x4 : w2.cell? ⟨w.heap.size + 1, 4, none⟩ = some (.int .i64 (wN v)) := cell_keep hb2 (by simp [go_sem])
        have HB2 : Hid (Below w.heap.size w w2) := bel_trans (bel_alloc (bel_alloc (bel_alloc (bel_alloc (Below.refl _ _) _) _) _) _) hb2
        clear hb2
        go_wp2
        exact bodyPost_ret (v := .agg #[.int .i8 (v / 134217728), .int .i8 (v / 8388608 % 16), .int .i8 (v / 524288 % 16), .int .i8 (v / 32768 % 16), .int .i64 (wN v)]) (by simp [results, Tryz.results58, go_sem, z0, z1, z2, z3, z4]) rfl ⟨dec_yes HI.out, ((((HB2.out.setCell (Nat.le_refl _) _).setCell (Nat.le_refl _) _).setCell (Nat.le_refl _) _).setCell (Nat.le_refl _) _).setCell (Nat.le_refl _) _⟩
      | false =>
        have HI : Hid (isIns v = false) := hI
        obtain ⟨E, hE, CE⟩ : ∃ E : Int, (E == 0) = false ∧ ∀ wx : World, Calls Tryz.prog 73 #[.agg #[.int .i8 (v / 134217728), .int .i8 (v / 8388608 % 16), .int .i8 (v / 524288 % 16), .int .i8 (v / 32768 % 16), .int .i64 (wN v)]] wx fun e w' => e = .returned (.tuple #[.int .u32 0, .int .i64 E]) ∧ Below wx.heap.size wx w' := by
          obtain ⟨e1, e2⟩ := enc_no h0 hI
          refine ⟨encE (wOp v) (wD v) (wA v) (wB v) (wN v), by rcases e2 with e2 | e2 <;> (rw [e2]; rfl), fun wx => ?_⟩
          have h := refencode_any (wOp v) (wD v) (wA v) (wB v) (wN v) wx
          rw [e1] at h
          exact h
        clear hI
        go_wp2_with fail
        refine (CE _).mono ?_
        rintro e w2 ⟨rfl, hb2⟩
        clear CE
        have z0 : w2.cell? ⟨w.heap.size, 0, none⟩ = some (.int .i8 0) := cell_keep hb2 (by simp [go_sem])
        have y0 : w2.frozen? ⟨w.heap.size, 0, none⟩ = false := frozen_keep hb2 (v := .int .i8 0) (by simp [go_sem]) (by simp [go_sem])
        have x0 : w2.cell? ⟨w.heap.size + 1, 0, none⟩ = some (.int .i8 (v / 134217728)) := cell_keep hb2 (by simp [go_sem])
        have z1 : w2.cell? ⟨w.heap.size, 1, none⟩ = some (.int .i8 0) := cell_keep hb2 (by simp [go_sem])
        have y1 : w2.frozen? ⟨w.heap.size, 1, none⟩ = false := frozen_keep hb2 (v := .int .i8 0) (by simp [go_sem]) (by simp [go_sem])
        have x1 : w2.cell? ⟨w.heap.size + 1, 1, none⟩ = some (.int .i8 (v / 8388608 % 16)) := cell_keep hb2 (by simp [go_sem])
        have z2 : w2.cell? ⟨w.heap.size, 2, none⟩ = some (.int .i8 0) := cell_keep hb2 (by simp [go_sem])
        have y2 : w2.frozen? ⟨w.heap.size, 2, none⟩ = false := frozen_keep hb2 (v := .int .i8 0) (by simp [go_sem]) (by simp [go_sem])
        have x2 : w2.cell? ⟨w.heap.size + 1, 2, none⟩ = some (.int .i8 (v / 524288 % 16)) := cell_keep hb2 (by simp [go_sem])
        have z3 : w2.cell? ⟨w.heap.size, 3, none⟩ = some (.int .i8 0) := cell_keep hb2 (by simp [go_sem])
        have y3 : w2.frozen? ⟨w.heap.size, 3, none⟩ = false := frozen_keep hb2 (v := .int .i8 0) (by simp [go_sem]) (by simp [go_sem])
        have x3 : w2.cell? ⟨w.heap.size + 1, 3, none⟩ = some (.int .i8 (v / 32768 % 16)) := cell_keep hb2 (by simp [go_sem])
        have z4 : w2.cell? ⟨w.heap.size, 4, none⟩ = some (.int .i64 0) := cell_keep hb2 (by simp [go_sem])
        have y4 : w2.frozen? ⟨w.heap.size, 4, none⟩ = false := frozen_keep hb2 (v := .int .i64 0) (by simp [go_sem]) (by simp [go_sem])
        have x4 : w2.cell? ⟨w.heap.size + 1, 4, none⟩ = some (.int .i64 (wN v)) := cell_keep hb2 (by simp [go_sem])
        have HB2 : Hid (Below w.heap.size w w2) := bel_trans (bel_alloc (bel_alloc (bel_alloc (bel_alloc (Below.refl _ _) _) _) _) _) hb2
        clear hb2
        go_wp2
        exact bodyPost_ret (v := .agg #[.int .i8 (-1), .int .i8 0, .int .i8 0, .int .i8 0, .int .i64 v]) (by simp [results, Tryz.results58, go_sem, z0, z1, z2, z3, z4]) rfl ⟨dec_no HI.out, ((((HB2.out.setCell (Nat.le_refl _) _).setCell (Nat.le_refl _) _).setCell (Nat.le_refl _) _).setCell (Nat.le_refl _) _).setCell (Nat.le_refl _) _⟩









end Go.Proofs.YtokhclindfipbaaGreatDoor
