/-
  Whether the fields of an instruction may be: allow of package isa, for every op that there is; no other condition.
-/
import Derived.Test.YtbphfgalgiinnaaSmall
namespace Go.Proofs.Ytbphfgalgiinnaa
open Go.RowKit


set_option maxRecDepth 100000 in
set_option maxHeartbeats 1000000 in
theorem allow_of (f x d a b n lo hi : Int) (rd ra rb : Bool) (w : World)
    (CR : ∀ wx : World, Calls Try.prog 79 #[.int .u8 f] wx fun e w' => e = .returned (.tuple #[.int .i64 lo, .int .i64 hi]) ∧ w' = wx)
    (C1 : ∀ wx : World, Calls Try.prog 80 #[.int .u8 f, .int .u8 1, .int .i8 d] wx fun e w' => e = .returned (.bool rd) ∧ w' = wx)
    (C2 : ∀ wx : World, Calls Try.prog 80 #[.int .u8 f, .int .u8 2, .int .i8 a] wx fun e w' => e = .returned (.bool ra) ∧ w' = wx)
    (C4 : ∀ wx : World, Calls Try.prog 80 #[.int .u8 f, .int .u8 4, .int .i8 b] wx fun e w' => e = .returned (.bool rb) ∧ w' = wx) :
    Calls Try.prog 78 #[.int .u8 f, .agg #[.int .i8 x, .int .i8 d, .int .i8 a, .int .i8 b, .int .i64 n]] w fun e w' => e = .returned (.bool (rd && ra && rb && (decide (lo ≤ n) && decide (n ≤ hi)))) ∧ w' = w.alloc (.cells #[.int .i8 x, .int .i8 d, .int .i8 a, .int .i8 b, .int .i64 n] 79) := by
  cases rd with
  | false =>
    go_enter Try.func78, Try.ntmps78
    go_wp2_with fail
    refine (CR _).mono ?_
    rintro e w1 ⟨rfl, rfl⟩
    go_wp2_with fail
    refine (C1 _).mono ?_
    rintro e w1 ⟨rfl, rfl⟩
    go_wp2
    go_ret
    exact ⟨by first | rfl | (simp [*]; done) | (simp [*]; omega), rfl⟩
  | true =>
  cases ra with
  | false =>
    go_enter Try.func78, Try.ntmps78
    go_wp2_with fail
    refine (CR _).mono ?_
    rintro e w1 ⟨rfl, rfl⟩
    go_wp2_with fail
    refine (C1 _).mono ?_
    rintro e w1 ⟨rfl, rfl⟩
    go_wp2_with fail
    refine (C2 _).mono ?_
    rintro e w1 ⟨rfl, rfl⟩
    go_wp2
    go_ret
    exact ⟨by first | rfl | (simp [*]; done) | (simp [*]; omega), rfl⟩
  | true =>
  cases rb with
  | false =>
    go_enter Try.func78, Try.ntmps78
    go_wp2_with fail
    refine (CR _).mono ?_
    rintro e w1 ⟨rfl, rfl⟩
    go_wp2_with fail
    refine (C1 _).mono ?_
    rintro e w1 ⟨rfl, rfl⟩
    go_wp2_with fail
    refine (C2 _).mono ?_
    rintro e w1 ⟨rfl, rfl⟩
    go_wp2_with fail
    refine (C4 _).mono ?_
    rintro e w1 ⟨rfl, rfl⟩
    go_wp2
    go_ret
    exact ⟨by first | rfl | (simp [*]; done) | (simp [*]; omega), rfl⟩
  | true =>
  by_cases hl : lo ≤ n
  · go_enter Try.func78, Try.ntmps78
    go_wp2_with fail
    refine (CR _).mono ?_
    rintro e w1 ⟨rfl, rfl⟩
    go_wp2_with fail
    refine (C1 _).mono ?_
    rintro e w1 ⟨rfl, rfl⟩
    go_wp2_with fail
    refine (C2 _).mono ?_
    rintro e w1 ⟨rfl, rfl⟩
    go_wp2_with fail
    refine (C4 _).mono ?_
    rintro e w1 ⟨rfl, rfl⟩
    go_wp2
    go_ret
    exact ⟨by first | rfl | (simp [*]; done) | (simp [*]; omega), rfl⟩
  · go_enter Try.func78, Try.ntmps78
    go_wp2_with fail
    refine (CR _).mono ?_
    rintro e w1 ⟨rfl, rfl⟩
    go_wp2_with fail
    refine (C1 _).mono ?_
    rintro e w1 ⟨rfl, rfl⟩
    go_wp2_with fail
    refine (C2 _).mono ?_
    rintro e w1 ⟨rfl, rfl⟩
    go_wp2_with fail
    refine (C4 _).mono ?_
    rintro e w1 ⟨rfl, rfl⟩
    go_wp2
    go_ret
    exact ⟨by first | rfl | (simp [*]; done) | (simp [*]; omega), rfl⟩

theorem allow_any (op x d a b n : Int) (h0 : 0 ≤ op) (h1 : op ≤ 21) (w : World) : Calls Try.prog 78 #[.int .u8 (sh op), .agg #[.int .i8 x, .int .i8 d, .int .i8 a, .int .i8 b, .int .i64 n]] w fun e w' => e = .returned (.bool (insOK op d a b n)) ∧ w' = w.alloc (.cells #[.int .i8 x, .int .i8 d, .int .i8 a, .int .i8 b, .int .i64 n] 79) := by
  obtain ⟨b1, b2, b4, b8, b16⟩ := sh_bits op h0 h1
  have h := allow_of (sh op) x d a b n _ _ _ _ _ w (frange_any (sh op) _ _ b8 b16) (fregister_any (sh op) 1 d _ b1) (fregister_any (sh op) 2 a _ b2) (fregister_any (sh op) 4 b _ b4)
  rw [num_lohi _ _ (hP_hN op)] at h
  exact h


end Go.Proofs.Ytbphfgalgiinnaa
