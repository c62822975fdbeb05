/-
  Ends, Falls, Target and Aim of package isa, over what Decode, Has and Encode return; no other condition.
-/
import Derived.Test.YtbphfgalgiinnaaSmall
import Derived.Test.YtbphfgalgiinnaaRefGoes
namespace Go.Proofs.Ytbphfgalgiinnaa
open Go.RowKit

theorem ends_falls (x : Int) : (!(!endsB x || x == 16) || x == 16) = endsB x := by
  by_cases h16 : x = 16
  · subst h16; rfl
  · have : (x == 16) = false := by simpa using h16
    rw [this]; simp

theorem target_of (v x d a b n : Int) (p1 p2 p3 p4 p : Bool) (w : World) (CE : ∀ wx : World, Calls Try.prog 69 #[.int .u32 v] wx fun e w' => e = .returned (.agg #[.int .i8 x, .int .i8 d, .int .i8 a, .int .i8 b, .int .i64 n]) ∧ Below wx.heap.size wx w') (CH : ∀ wx : World, Calls Try.prog 70 #[.int .i8 x] wx fun e w' => e = .returned (.tuple #[.bool p1, .bool p2, .bool p3, .bool p4, .bool p]) ∧ Below wx.heap.size wx w') : Calls Try.prog 67 #[.int .u32 v] w fun e w' => e = .returned (.tuple #[.int .i64 (if p then n else 0), .bool p]) ∧ Below w.heap.size w w' := by
  cases p
  · go_enter Try.func67, Try.ntmps67
    go_wp2_with fail
    refine (CE _).mono ?_
    rintro e w1 ⟨rfl, hb⟩
    go_wp2_with fail
    refine (CH _).mono ?_
    rintro e w2 ⟨rfl, hb2⟩
    go_wp2
    go_ret2
    exact ⟨rfl, bel_trans (bel_alloc hb _) hb2⟩
  · go_enter Try.func67, Try.ntmps67
    go_wp2_with fail
    refine (CE _).mono ?_
    rintro e w1 ⟨rfl, hb⟩
    go_wp2_with fail
    refine (CH _).mono ?_
    rintro e w2 ⟨rfl, hb2⟩
    have c4 : w2.cell? ⟨w1.heap.size, 4, none⟩ = some (.int .i64 n) := cell_keep hb2 (by simp [go_sem])
    have HB : Hid (Below w.heap.size w w2) := bel_trans (bel_alloc hb _) hb2
    clear hb hb2
    go_wp2
    go_ret2
    exact ⟨rfl, HB.out⟩


end Go.Proofs.Ytbphfgalgiinnaa
