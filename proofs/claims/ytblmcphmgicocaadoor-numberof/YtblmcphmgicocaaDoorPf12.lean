/-
  What the statements need of the program: Reads, Writes, Links, Alone, All, each by what it answers. The small functions of package isa, each by what it returns; conditions: an op is an int8's number. Whether the fields of an instruction may be: allow of package isa, for every op that there is; no other condition.
-/
import Derived.Test.YtblmcphmgicocaaDoorProg
import Derived.WalkKit
import Derived.WalkSpells
import Derived.WalkLawsBesides
import Derived.RowKit3
import Derived.Below
import Derived.Deep.QuietTactic
import Derived.BigQuiet
import Derived.WalkSmall
import Derived.Laws.Rows
import Derived.Test.YtblmcphmgicocaaDoorPf11
import Derived.Laws.BitsAllLaws
import Derived.Test.YtblmcphmgicocaaDoorPf09
namespace Go.Proofs.YtblmcphmgicocaaDoor
open Go.RowKit

def AloneOK : Prop := ∀ (v : Int) (w : World), 0 ≤ v → v < 4294967296 → Calls Tryd.prog 27 #[.int .u32 v] w fun e w' => e = .returned (.bool (alB v)) ∧ Below w.heap.size w w'


end Go.Proofs.YtblmcphmgicocaaDoor

namespace Go.Proofs.YtblmcphmgicocaaDoor
open Go.RowKit

theorem known_any (op : Int) (h8 : op ≤ 127) (w : World) : Calls Tryd.prog 70 #[.int .i8 op] w fun e w' => e = .returned (.bool (decide (0 ≤ op ∧ op ≤ 21))) ∧ w' = w := by
  by_cases h : op < 0
  · rw [show decide (0 ≤ op ∧ op ≤ 21) = false from decide_eq_false (by omega)]
    go_enter Tryd.func70, Tryd.ntmps70
    go_wp2
    go_ret
    exact ⟨rfl, rfl⟩
  by_cases h2 : op < 22
  · rw [show decide (0 ≤ op ∧ op ≤ 21) = true from decide_eq_true (by omega)]
    go_enter Tryd.func70, Tryd.ntmps70
    go_wp2
    go_ret
    exact ⟨by first | rfl | (simp [h2]; done), rfl⟩
  · rw [show decide (0 ≤ op ∧ op ≤ 21) = false from decide_eq_false (by omega)]
    go_enter Tryd.func70, Tryd.ntmps70
    go_wp2
    go_ret
    exact ⟨by first | rfl | (simp [h2]; done), rfl⟩

/-- The fields of the ops, as bits. -/
def shL : List Int := [0, 9, 3, 7, 7, 7, 7, 7, 7, 7, 7, 11, 14, 1, 10, 24, 26, 24, 2, 2, 25, 0]
def sh (op : Int) : Int := shL.getD op.toNat 0

theorem fhas_any (f o : Int) (w : World) : Calls Tryd.prog 72 #[.int .u8 f, .int .u8 o] w fun e w' => e = .returned (.bool (bits .and .u8 f o != 0)) ∧ w' = w := by
  go_enter Tryd.func72, Tryd.ntmps72
  go_wp2
  go_ret
  exact ⟨rfl, rfl⟩

theorem signed_any (n : Int) (h0 : 0 ≤ n) (h1 : n < 4294967296) (w : World) : Calls Tryd.prog 68 #[.int .u32 n] w fun e w' => e = .returned (.int .i64 (if 16383 < n then n - 32768 else n)) ∧ w' = w := by
  by_cases h : 16383 < n
  · rw [if_pos h]
    go_enter Tryd.func68, Tryd.ntmps68
    go_wp2
    go_ret
    exact ⟨rfl, rfl⟩
  · rw [if_neg h]
    go_enter Tryd.func68, Tryd.ntmps68
    go_wp2
    go_ret
    exact ⟨rfl, rfl⟩

theorem fregister_any (f o r : Int) (h : Bool) (hh : (bits .and .u8 f o != 0) = h) (w : World) : Calls Tryd.prog 82 #[.int .u8 f, .int .u8 o, .int .i8 r] w fun e w' => e = .returned (.bool (regOK h r)) ∧ w' = w := by
  have C : ∀ wx : World, Calls Tryd.prog 72 #[.int .u8 f, .int .u8 o] wx fun e w' => e = .returned (.bool h) ∧ w' = wx := fun wx => by
    have k := fhas_any f o wx
    rw [hh] at k; exact k
  clear hh
  unfold regOK
  cases h
  · go_enter Tryd.func82, Tryd.ntmps82
    go_wp2_with (go_at_call 72; refine (C _).mono ?_; rintro e w1 ⟨rfl, rfl⟩)
    go_ret
    exact ⟨by first | rfl | (simp; done) | (simp; omega), rfl⟩
  · by_cases h1 : 0 ≤ r
    · go_enter Tryd.func82, Tryd.ntmps82
      go_wp2_with (go_at_call 72; refine (C _).mono ?_; rintro e w1 ⟨rfl, rfl⟩)
      go_ret
      exact ⟨by first | rfl | (simp; done) | (simp; omega), rfl⟩
    · go_enter Tryd.func82, Tryd.ntmps82
      go_wp2_with (go_at_call 72; refine (C _).mono ?_; rintro e w1 ⟨rfl, rfl⟩)
      go_ret
      exact ⟨by first | rfl | (simp; done) | (simp; omega), rfl⟩

def loN (n p : Bool) : Int := if p then 0 else if n then -16384 else 0
def hiN (n p : Bool) : Int := if p then 16383 else if n then 16383 else 0

theorem frange_any (f : Int) (n p : Bool) (hn : (bits .and .u8 f 8 != 0) = n) (hp : (bits .and .u8 f 16 != 0) = p) (w : World) : Calls Tryd.prog 81 #[.int .u8 f] w fun e w' => e = .returned (.tuple #[.int .i64 (loN n p), .int .i64 (hiN n p)]) ∧ w' = w := by
  have C1 : ∀ wx : World, Calls Tryd.prog 72 #[.int .u8 f, .int .u8 8] wx fun e w' => e = .returned (.bool n) ∧ w' = wx := fun wx => by
    have k := fhas_any f 8 wx
    rw [hn] at k; exact k
  have C2 : ∀ wx : World, Calls Tryd.prog 72 #[.int .u8 f, .int .u8 16] wx fun e w' => e = .returned (.bool p) ∧ w' = wx := fun wx => by
    have k := fhas_any f 16 wx
    rw [hp] at k; exact k
  clear hn hp
  unfold loN hiN
  cases p
  · cases n
    · go_enter Tryd.func81, Tryd.ntmps81
      go_wp2_with fail
      refine (C2 _).mono ?_
      rintro e w1 ⟨rfl, rfl⟩
      go_wp2_with fail
      refine (C1 _).mono ?_
      rintro e w1 ⟨rfl, rfl⟩
      go_wp2
      go_ret2
      exact ⟨rfl, rfl⟩
    · go_enter Tryd.func81, Tryd.ntmps81
      go_wp2_with fail
      refine (C2 _).mono ?_
      rintro e w1 ⟨rfl, rfl⟩
      go_wp2_with fail
      refine (C1 _).mono ?_
      rintro e w1 ⟨rfl, rfl⟩
      go_wp2
      go_ret2
      exact ⟨rfl, rfl⟩
  · go_enter Tryd.func81, Tryd.ntmps81
    go_wp2_with fail
    refine (C2 _).mono ?_
    rintro e w1 ⟨rfl, rfl⟩
    go_wp2
    go_ret2
    exact ⟨rfl, rfl⟩

theorem sh_bits (op : Int) (h0 : 0 ≤ op) (h1 : op ≤ 21) : (bits .and .u8 (sh op) 1 != 0) = hD op ∧ (bits .and .u8 (sh op) 2 != 0) = hA op ∧ (bits .and .u8 (sh op) 4 != 0) = hB op ∧ (bits .and .u8 (sh op) 8 != 0) = hN op ∧ (bits .and .u8 (sh op) 16 != 0) = hP op := by
  have h : ∀ k : Fin 22, (bits .and .u8 (sh (k.val : Int)) 1 != 0) = hD k.val ∧ (bits .and .u8 (sh (k.val : Int)) 2 != 0) = hA k.val ∧ (bits .and .u8 (sh (k.val : Int)) 4 != 0) = hB k.val ∧ (bits .and .u8 (sh (k.val : Int)) 8 != 0) = hN k.val ∧ (bits .and .u8 (sh (k.val : Int)) 16 != 0) = hP k.val := by decide +kernel
  have k := h ⟨op.toNat, by omega⟩
  simp only [Int.toNat_of_nonneg h0] at k
  exact k

theorem num_lohi (n p : Bool) (hpn : p = true → n = true) (x : Int) : (decide (loN n p ≤ x) && decide (x ≤ hiN n p)) = numOK n p x := by
  unfold loN hiN numOK
  cases n <;> cases p <;> simp at hpn ⊢ <;> (rw [Bool.eq_iff_iff]; simp; omega)

theorem hP_hN (op : Int) : hP op = true → hN op = true := by
  unfold hP hN; simp; omega








end Go.Proofs.YtblmcphmgicocaaDoor

namespace Go.Proofs.YtblmcphmgicocaaDoor
open Go.RowKit


set_option maxRecDepth 100000 in
set_option maxHeartbeats 1000000 in
theorem allow_of (f x d a b n lo hi : Int) (rd ra rb : Bool) (w : World)
    (CR : ∀ wx : World, Calls Tryd.prog 81 #[.int .u8 f] wx fun e w' => e = .returned (.tuple #[.int .i64 lo, .int .i64 hi]) ∧ w' = wx)
    (C1 : ∀ wx : World, Calls Tryd.prog 82 #[.int .u8 f, .int .u8 1, .int .i8 d] wx fun e w' => e = .returned (.bool rd) ∧ w' = wx)
    (C2 : ∀ wx : World, Calls Tryd.prog 82 #[.int .u8 f, .int .u8 2, .int .i8 a] wx fun e w' => e = .returned (.bool ra) ∧ w' = wx)
    (C4 : ∀ wx : World, Calls Tryd.prog 82 #[.int .u8 f, .int .u8 4, .int .i8 b] wx fun e w' => e = .returned (.bool rb) ∧ w' = wx) :
    Calls Tryd.prog 79 #[.int .u8 f, .agg #[.int .i8 x, .int .i8 d, .int .i8 a, .int .i8 b, .int .i64 n]] w fun e w' => e = .returned (.bool (rd && ra && rb && (decide (lo ≤ n) && decide (n ≤ hi)))) ∧ w' = w.alloc (.cells #[.int .i8 x, .int .i8 d, .int .i8 a, .int .i8 b, .int .i64 n] 85) := by
  cases rd with
  | false =>
    go_enter Tryd.func79, Tryd.ntmps79
    go_wp2_with fail
    refine (CR _).mono ?_
    rintro e w1 ⟨rfl, rfl⟩
    go_wp2_with fail
    refine (C1 _).mono ?_
    rintro e w1 ⟨rfl, rfl⟩
    go_wp2
    go_ret
    exact ⟨by first | rfl | (simp [*]; done) | (simp [*]; omega), rfl⟩
  | true =>
  cases ra with
  | false =>
    go_enter Tryd.func79, Tryd.ntmps79
    go_wp2_with fail
    refine (CR _).mono ?_
    rintro e w1 ⟨rfl, rfl⟩
    go_wp2_with fail
    refine (C1 _).mono ?_
    rintro e w1 ⟨rfl, rfl⟩
    go_wp2_with fail
    refine (C2 _).mono ?_
    rintro e w1 ⟨rfl, rfl⟩
    go_wp2
    go_ret
    exact ⟨by first | rfl | (simp [*]; done) | (simp [*]; omega), rfl⟩
  | true =>
  cases rb with
  | false =>
    go_enter Tryd.func79, Tryd.ntmps79
    go_wp2_with fail
    refine (CR _).mono ?_
    rintro e w1 ⟨rfl, rfl⟩
    go_wp2_with fail
    refine (C1 _).mono ?_
    rintro e w1 ⟨rfl, rfl⟩
    go_wp2_with fail
    refine (C2 _).mono ?_
    rintro e w1 ⟨rfl, rfl⟩
    go_wp2_with fail
    refine (C4 _).mono ?_
    rintro e w1 ⟨rfl, rfl⟩
    go_wp2
    go_ret
    exact ⟨by first | rfl | (simp [*]; done) | (simp [*]; omega), rfl⟩
  | true =>
  by_cases hl : lo ≤ n
  · go_enter Tryd.func79, Tryd.ntmps79
    go_wp2_with fail
    refine (CR _).mono ?_
    rintro e w1 ⟨rfl, rfl⟩
    go_wp2_with fail
    refine (C1 _).mono ?_
    rintro e w1 ⟨rfl, rfl⟩
    go_wp2_with fail
    refine (C2 _).mono ?_
    rintro e w1 ⟨rfl, rfl⟩
    go_wp2_with fail
    refine (C4 _).mono ?_
    rintro e w1 ⟨rfl, rfl⟩
    go_wp2
    go_ret
    exact ⟨by first | rfl | (simp [*]; done) | (simp [*]; omega), rfl⟩
  · go_enter Tryd.func79, Tryd.ntmps79
    go_wp2_with fail
    refine (CR _).mono ?_
    rintro e w1 ⟨rfl, rfl⟩
    go_wp2_with fail
    refine (C1 _).mono ?_
    rintro e w1 ⟨rfl, rfl⟩
    go_wp2_with fail
    refine (C2 _).mono ?_
    rintro e w1 ⟨rfl, rfl⟩
    go_wp2_with fail
    refine (C4 _).mono ?_
    rintro e w1 ⟨rfl, rfl⟩
    go_wp2
    go_ret
    exact ⟨by first | rfl | (simp [*]; done) | (simp [*]; omega), rfl⟩

theorem allow_any (op x d a b n : Int) (h0 : 0 ≤ op) (h1 : op ≤ 21) (w : World) : Calls Tryd.prog 79 #[.int .u8 (sh op), .agg #[.int .i8 x, .int .i8 d, .int .i8 a, .int .i8 b, .int .i64 n]] w fun e w' => e = .returned (.bool (insOK op d a b n)) ∧ w' = w.alloc (.cells #[.int .i8 x, .int .i8 d, .int .i8 a, .int .i8 b, .int .i64 n] 85) := by
  obtain ⟨b1, b2, b4, b8, b16⟩ := sh_bits op h0 h1
  have h := allow_of (sh op) x d a b n _ _ _ _ _ w (frange_any (sh op) _ _ b8 b16) (fregister_any (sh op) 1 d _ b1) (fregister_any (sh op) 2 a _ b2) (fregister_any (sh op) 4 b _ b4)
  rw [num_lohi _ _ (hP_hN op)] at h
  exact h








end Go.Proofs.YtblmcphmgicocaaDoor
