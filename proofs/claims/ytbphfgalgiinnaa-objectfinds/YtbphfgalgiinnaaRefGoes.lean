/-
  Ends, Falls, Target and Aim of the document's answer, for every word of 32 bits; no other condition.
-/
import Derived.Test.YtbphfgalgiinnaaRefDec
import Derived.Test.YtbphfgalgiinnaaIns
namespace Go.Proofs.Ytbphfgalgiinnaa
open Go.RowKit

@[go_sem] theorem field_ins0 (x d a b n : Int) (w : World) : (Instr.field 79 (.agg #[.int .i8 x, .int .i8 d, .int .i8 a, .int .i8 b, .int .i64 n]) 0).run Try.prog w = .ok (.int .i8 x) w := by kernel_rfl
@[go_sem] theorem field_has4 (x d a b n : Bool) (w : World) : (Instr.field 82 (.agg #[.bool x, .bool d, .bool a, .bool b, .bool n]) 4).run Try.prog w = .ok (.bool n) w := by kernel_rfl
theorem reftarget_any (v : Int) (h0 : 0 ≤ v) (h1 : v < 4294967296) (w : World) : Calls Try.prog 30 #[.int .u32 v] w fun e w' => e = .returned (.tuple #[.int .i64 (tgV v), .bool (isT v)]) ∧ Below w.heap.size w w' := by
  have CE : ∀ wx : World, Calls Try.prog 64 #[.int .u32 v] wx fun e w' => e = .returned (.agg #[.int .i8 (dOp v), .int .i8 (dD v), .int .i8 (dA v), .int .i8 (dB v), .int .i64 (dN v)]) ∧ Below wx.heap.size wx w' := fun wx => refdecode_any v h0 h1 wx
  unfold tgV isT
  generalize dOp v = x at CE ⊢
  generalize dN v = n at CE ⊢
  by_cases hx : x < 0
  · have e : decide (0 ≤ x) = false := decide_eq_false (by omega)
    rw [e]
    go_enter Try.func30, Try.ntmps30
    go_wp2_with (go_at_call 64; refine (CE _).mono ?_; rintro e w1 ⟨rfl, hb⟩)
    go_ret2
    exact ⟨rfl, bel_alloc hb _⟩
  · have e : decide (0 ≤ x) = true := decide_eq_true (by omega)
    rw [e]
    clear e
    cases hp : hP x
    · go_enter Try.func30, Try.ntmps30
      go_wp2_with (first | (go_at_call 64; refine (CE _).mono ?_; rintro e w1 ⟨rfl, hb⟩) | (go_at_call 65; refine (refhas_any _ _).mono ?_; rintro e w2 ⟨rfl, rfl⟩))
      go_ret2
      exact ⟨rfl, bel_alloc (bel_alloc hb _) _⟩
    · go_enter Try.func30, Try.ntmps30
      go_wp2_with (first | (go_at_call 64; refine (CE _).mono ?_; rintro e w1 ⟨rfl, hb⟩) | (go_at_call 65; refine (refhas_any _ _).mono ?_; rintro e w2 ⟨rfl, rfl⟩))
      go_ret2
      exact ⟨rfl, bel_alloc (bel_alloc hb _) _⟩


end Go.Proofs.Ytbphfgalgiinnaa
