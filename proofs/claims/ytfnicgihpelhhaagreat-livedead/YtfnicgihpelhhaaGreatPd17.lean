/-
  Ends, Falls, Target and Aim of the document's answer, for every word of 32 bits; no other condition. Ends, Falls, Target and Aim of package isa, over what Decode, Has and Encode return; no other condition. Has of package isa, for every op that is an int8's number. Ends, Falls, Target and Aim of package isa, each by what it returns; a word is of 32 bits.
-/
import Derived.Test.YtfnicgihpelhhaaGreatProg
import Derived.Test.YtfnicgihpelhhaaGreatPd05
import Derived.Test.YtfnicgihpelhhaaGreatPd16
import Derived.Test.YtfnicgihpelhhaaGreatPd07
namespace Go.Proofs.YtfnicgihpelhhaaGreat
open Go.RowKit

@[go_sem] theorem field_ins0 (x d a b n : Int) (w : World) : (Instr.field 50 (.agg #[.int .i8 x, .int .i8 d, .int .i8 a, .int .i8 b, .int .i64 n]) 0).run Tryz.prog w = .ok (.int .i8 x) w := by kernel_rfl
@[go_sem] theorem field_has4 (x d a b n : Bool) (w : World) : (Instr.field 76 (.agg #[.bool x, .bool d, .bool a, .bool b, .bool n]) 4).run Tryz.prog w = .ok (.bool n) w := by kernel_rfl
theorem endsm1 (v : Int) (w : World) (CE : ∀ wx : World, Calls Tryz.prog 20 #[.int .u32 v] wx fun e w' => e = .returned (.agg #[.int .i8 (-1), .int .i8 (dD v), .int .i8 (dA v), .int .i8 (dB v), .int .i64 (dN v)]) ∧ Below wx.heap.size wx w') : Calls Tryz.prog 14 #[.int .u32 v] w fun e w' => e = .returned (.bool true) ∧ Below w.heap.size w w' := by
  go_enter Tryz.func14, Tryz.ntmps14
  go_wp2_with (go_at_call 20; refine (CE _).mono ?_; rintro e w1 ⟨rfl, hb⟩)
  go_ret
  exact ⟨rfl, hb⟩
theorem ends0 (v : Int) (w : World) (CE : ∀ wx : World, Calls Tryz.prog 20 #[.int .u32 v] wx fun e w' => e = .returned (.agg #[.int .i8 (0), .int .i8 (dD v), .int .i8 (dA v), .int .i8 (dB v), .int .i64 (dN v)]) ∧ Below wx.heap.size wx w') : Calls Tryz.prog 14 #[.int .u32 v] w fun e w' => e = .returned (.bool true) ∧ Below w.heap.size w w' := by
  go_enter Tryz.func14, Tryz.ntmps14
  go_wp2_with (go_at_call 20; refine (CE _).mono ?_; rintro e w1 ⟨rfl, hb⟩)
  go_ret
  exact ⟨rfl, hb⟩
theorem ends15 (v : Int) (w : World) (CE : ∀ wx : World, Calls Tryz.prog 20 #[.int .u32 v] wx fun e w' => e = .returned (.agg #[.int .i8 (15), .int .i8 (dD v), .int .i8 (dA v), .int .i8 (dB v), .int .i64 (dN v)]) ∧ Below wx.heap.size wx w') : Calls Tryz.prog 14 #[.int .u32 v] w fun e w' => e = .returned (.bool true) ∧ Below w.heap.size w w' := by
  go_enter Tryz.func14, Tryz.ntmps14
  go_wp2_with (go_at_call 20; refine (CE _).mono ?_; rintro e w1 ⟨rfl, hb⟩)
  go_ret
  exact ⟨rfl, hb⟩
theorem ends16 (v : Int) (w : World) (CE : ∀ wx : World, Calls Tryz.prog 20 #[.int .u32 v] wx fun e w' => e = .returned (.agg #[.int .i8 (16), .int .i8 (dD v), .int .i8 (dA v), .int .i8 (dB v), .int .i64 (dN v)]) ∧ Below wx.heap.size wx w') : Calls Tryz.prog 14 #[.int .u32 v] w fun e w' => e = .returned (.bool true) ∧ Below w.heap.size w w' := by
  go_enter Tryz.func14, Tryz.ntmps14
  go_wp2_with (go_at_call 20; refine (CE _).mono ?_; rintro e w1 ⟨rfl, hb⟩)
  go_ret
  exact ⟨rfl, hb⟩
theorem ends17 (v : Int) (w : World) (CE : ∀ wx : World, Calls Tryz.prog 20 #[.int .u32 v] wx fun e w' => e = .returned (.agg #[.int .i8 (17), .int .i8 (dD v), .int .i8 (dA v), .int .i8 (dB v), .int .i64 (dN v)]) ∧ Below wx.heap.size wx w') : Calls Tryz.prog 14 #[.int .u32 v] w fun e w' => e = .returned (.bool true) ∧ Below w.heap.size w w' := by
  go_enter Tryz.func14, Tryz.ntmps14
  go_wp2_with (go_at_call 20; refine (CE _).mono ?_; rintro e w1 ⟨rfl, hb⟩)
  go_ret
  exact ⟨rfl, hb⟩
theorem ends18 (v : Int) (w : World) (CE : ∀ wx : World, Calls Tryz.prog 20 #[.int .u32 v] wx fun e w' => e = .returned (.agg #[.int .i8 (18), .int .i8 (dD v), .int .i8 (dA v), .int .i8 (dB v), .int .i64 (dN v)]) ∧ Below wx.heap.size wx w') : Calls Tryz.prog 14 #[.int .u32 v] w fun e w' => e = .returned (.bool true) ∧ Below w.heap.size w w' := by
  go_enter Tryz.func14, Tryz.ntmps14
  go_wp2_with (go_at_call 20; refine (CE _).mono ?_; rintro e w1 ⟨rfl, hb⟩)
  go_ret
  exact ⟨rfl, hb⟩
theorem ends19 (v : Int) (w : World) (CE : ∀ wx : World, Calls Tryz.prog 20 #[.int .u32 v] wx fun e w' => e = .returned (.agg #[.int .i8 (19), .int .i8 (dD v), .int .i8 (dA v), .int .i8 (dB v), .int .i64 (dN v)]) ∧ Below wx.heap.size wx w') : Calls Tryz.prog 14 #[.int .u32 v] w fun e w' => e = .returned (.bool true) ∧ Below w.heap.size w w' := by
  go_enter Tryz.func14, Tryz.ntmps14
  go_wp2_with (go_at_call 20; refine (CE _).mono ?_; rintro e w1 ⟨rfl, hb⟩)
  go_ret
  exact ⟨rfl, hb⟩
theorem ends21 (v : Int) (w : World) (CE : ∀ wx : World, Calls Tryz.prog 20 #[.int .u32 v] wx fun e w' => e = .returned (.agg #[.int .i8 (21), .int .i8 (dD v), .int .i8 (dA v), .int .i8 (dB v), .int .i64 (dN v)]) ∧ Below wx.heap.size wx w') : Calls Tryz.prog 14 #[.int .u32 v] w fun e w' => e = .returned (.bool true) ∧ Below w.heap.size w w' := by
  go_enter Tryz.func14, Tryz.ntmps14
  go_wp2_with (go_at_call 20; refine (CE _).mono ?_; rintro e w1 ⟨rfl, hb⟩)
  go_ret
  exact ⟨rfl, hb⟩
theorem endsno (v x : Int) (w : World) (CE : ∀ wx : World, Calls Tryz.prog 20 #[.int .u32 v] wx fun e w' => e = .returned (.agg #[.int .i8 x, .int .i8 (dD v), .int .i8 (dA v), .int .i8 (dB v), .int .i64 (dN v)]) ∧ Below wx.heap.size wx w') (hm1 : (x == -1) = false) (h0 : (x == 0) = false) (h15 : (x == 15) = false) (h16 : (x == 16) = false) (h17 : (x == 17) = false) (h18 : (x == 18) = false) (h19 : (x == 19) = false) (h21 : (x == 21) = false) : Calls Tryz.prog 14 #[.int .u32 v] w fun e w' => e = .returned (.bool false) ∧ Below w.heap.size w w' := by
  go_enter Tryz.func14, Tryz.ntmps14
  go_wp2_with (go_at_call 20; refine (CE _).mono ?_; rintro e w1 ⟨rfl, hb⟩)
  go_ret
  exact ⟨rfl, hb⟩
theorem refends_any (v : Int) (h0 : 0 ≤ v) (h1 : v < 4294967296) (w : World) : Calls Tryz.prog 14 #[.int .u32 v] w fun e w' => e = .returned (.bool (endsB (dOp v))) ∧ Below w.heap.size w w' := by
  have CE : ∀ wx : World, Calls Tryz.prog 20 #[.int .u32 v] wx fun e w' => e = .returned (.agg #[.int .i8 (dOp v), .int .i8 (dD v), .int .i8 (dA v), .int .i8 (dB v), .int .i64 (dN v)]) ∧ Below wx.heap.size wx w' := fun wx => refdecode_any v h0 h1 wx
  generalize dOp v = x at CE ⊢
  by_cases hm1 : x = -1
  · subst hm1; exact endsm1 v w CE
  by_cases h0 : x = 0
  · subst h0; exact ends0 v w CE
  by_cases h15 : x = 15
  · subst h15; exact ends15 v w CE
  by_cases h16 : x = 16
  · subst h16; exact ends16 v w CE
  by_cases h17 : x = 17
  · subst h17; exact ends17 v w CE
  by_cases h18 : x = 18
  · subst h18; exact ends18 v w CE
  by_cases h19 : x = 19
  · subst h19; exact ends19 v w CE
  by_cases h21 : x = 21
  · subst h21; exact ends21 v w CE
  have e : endsB x = false := by unfold endsB; exact decide_eq_false (by omega)
  rw [e]
  exact endsno v x w CE (by simpa using hm1) (by simpa using h0) (by simpa using h15) (by simpa using h16) (by simpa using h17) (by simpa using h18) (by simpa using h19) (by simpa using h21)

theorem reftarget_any (v : Int) (h0 : 0 ≤ v) (h1 : v < 4294967296) (w : World) : Calls Tryz.prog 16 #[.int .u32 v] w fun e w' => e = .returned (.tuple #[.int .i64 (tgV v), .bool (isT v)]) ∧ Below w.heap.size w w' := by
  have CE : ∀ wx : World, Calls Tryz.prog 20 #[.int .u32 v] wx fun e w' => e = .returned (.agg #[.int .i8 (dOp v), .int .i8 (dD v), .int .i8 (dA v), .int .i8 (dB v), .int .i64 (dN v)]) ∧ Below wx.heap.size wx w' := fun wx => refdecode_any v h0 h1 wx
  unfold tgV isT
  generalize dOp v = x at CE ⊢
  generalize dN v = n at CE ⊢
  by_cases hx : x < 0
  · have e : decide (0 ≤ x) = false := decide_eq_false (by omega)
    rw [e]
    go_enter Tryz.func16, Tryz.ntmps16
    go_wp2_with (go_at_call 20; refine (CE _).mono ?_; rintro e w1 ⟨rfl, hb⟩)
    go_ret2
    exact ⟨rfl, bel_alloc hb _⟩
  · have e : decide (0 ≤ x) = true := decide_eq_true (by omega)
    rw [e]
    clear e
    cases hp : hP x
    · go_enter Tryz.func16, Tryz.ntmps16
      go_wp2_with (first | (go_at_call 20; refine (CE _).mono ?_; rintro e w1 ⟨rfl, hb⟩) | (go_at_call 32; refine (refhas_any _ _).mono ?_; rintro e w2 ⟨rfl, rfl⟩))
      go_ret2
      exact ⟨rfl, bel_alloc (bel_alloc hb _) _⟩
    · go_enter Tryz.func16, Tryz.ntmps16
      go_wp2_with (first | (go_at_call 20; refine (CE _).mono ?_; rintro e w1 ⟨rfl, hb⟩) | (go_at_call 32; refine (refhas_any _ _).mono ?_; rintro e w2 ⟨rfl, rfl⟩))
      go_ret2
      exact ⟨rfl, bel_alloc (bel_alloc hb _) _⟩





end Go.Proofs.YtfnicgihpelhhaaGreat

namespace Go.Proofs.YtfnicgihpelhhaaGreat
open Go.RowKit

theorem fallsm1 (v d a b n : Int) (w : World) (CE : ∀ wx : World, Calls Tryz.prog 36 #[.int .u32 v] wx fun e w' => e = .returned (.agg #[.int .i8 (-1), .int .i8 d, .int .i8 a, .int .i8 b, .int .i64 n]) ∧ Below wx.heap.size wx w') : Calls Tryz.prog 86 #[.int .u32 v] w fun e w' => e = .returned (.bool false) ∧ Below w.heap.size w w' := by
  go_enter Tryz.func86, Tryz.ntmps86
  go_wp2_with (go_at_call 36; refine (CE _).mono ?_; rintro e w1 ⟨rfl, hb⟩)
  go_ret
  exact ⟨rfl, hb⟩
theorem falls0 (v d a b n : Int) (w : World) (CE : ∀ wx : World, Calls Tryz.prog 36 #[.int .u32 v] wx fun e w' => e = .returned (.agg #[.int .i8 (0), .int .i8 d, .int .i8 a, .int .i8 b, .int .i64 n]) ∧ Below wx.heap.size wx w') : Calls Tryz.prog 86 #[.int .u32 v] w fun e w' => e = .returned (.bool false) ∧ Below w.heap.size w w' := by
  go_enter Tryz.func86, Tryz.ntmps86
  go_wp2_with (go_at_call 36; refine (CE _).mono ?_; rintro e w1 ⟨rfl, hb⟩)
  go_ret
  exact ⟨rfl, hb⟩
theorem falls15 (v d a b n : Int) (w : World) (CE : ∀ wx : World, Calls Tryz.prog 36 #[.int .u32 v] wx fun e w' => e = .returned (.agg #[.int .i8 (15), .int .i8 d, .int .i8 a, .int .i8 b, .int .i64 n]) ∧ Below wx.heap.size wx w') : Calls Tryz.prog 86 #[.int .u32 v] w fun e w' => e = .returned (.bool false) ∧ Below w.heap.size w w' := by
  go_enter Tryz.func86, Tryz.ntmps86
  go_wp2_with (go_at_call 36; refine (CE _).mono ?_; rintro e w1 ⟨rfl, hb⟩)
  go_ret
  exact ⟨rfl, hb⟩
theorem falls17 (v d a b n : Int) (w : World) (CE : ∀ wx : World, Calls Tryz.prog 36 #[.int .u32 v] wx fun e w' => e = .returned (.agg #[.int .i8 (17), .int .i8 d, .int .i8 a, .int .i8 b, .int .i64 n]) ∧ Below wx.heap.size wx w') : Calls Tryz.prog 86 #[.int .u32 v] w fun e w' => e = .returned (.bool false) ∧ Below w.heap.size w w' := by
  go_enter Tryz.func86, Tryz.ntmps86
  go_wp2_with (go_at_call 36; refine (CE _).mono ?_; rintro e w1 ⟨rfl, hb⟩)
  go_ret
  exact ⟨rfl, hb⟩
theorem falls18 (v d a b n : Int) (w : World) (CE : ∀ wx : World, Calls Tryz.prog 36 #[.int .u32 v] wx fun e w' => e = .returned (.agg #[.int .i8 (18), .int .i8 d, .int .i8 a, .int .i8 b, .int .i64 n]) ∧ Below wx.heap.size wx w') : Calls Tryz.prog 86 #[.int .u32 v] w fun e w' => e = .returned (.bool false) ∧ Below w.heap.size w w' := by
  go_enter Tryz.func86, Tryz.ntmps86
  go_wp2_with (go_at_call 36; refine (CE _).mono ?_; rintro e w1 ⟨rfl, hb⟩)
  go_ret
  exact ⟨rfl, hb⟩
theorem falls19 (v d a b n : Int) (w : World) (CE : ∀ wx : World, Calls Tryz.prog 36 #[.int .u32 v] wx fun e w' => e = .returned (.agg #[.int .i8 (19), .int .i8 d, .int .i8 a, .int .i8 b, .int .i64 n]) ∧ Below wx.heap.size wx w') : Calls Tryz.prog 86 #[.int .u32 v] w fun e w' => e = .returned (.bool false) ∧ Below w.heap.size w w' := by
  go_enter Tryz.func86, Tryz.ntmps86
  go_wp2_with (go_at_call 36; refine (CE _).mono ?_; rintro e w1 ⟨rfl, hb⟩)
  go_ret
  exact ⟨rfl, hb⟩
theorem falls21 (v d a b n : Int) (w : World) (CE : ∀ wx : World, Calls Tryz.prog 36 #[.int .u32 v] wx fun e w' => e = .returned (.agg #[.int .i8 (21), .int .i8 d, .int .i8 a, .int .i8 b, .int .i64 n]) ∧ Below wx.heap.size wx w') : Calls Tryz.prog 86 #[.int .u32 v] w fun e w' => e = .returned (.bool false) ∧ Below w.heap.size w w' := by
  go_enter Tryz.func86, Tryz.ntmps86
  go_wp2_with (go_at_call 36; refine (CE _).mono ?_; rintro e w1 ⟨rfl, hb⟩)
  go_ret
  exact ⟨rfl, hb⟩
theorem fallsno (v x d a b n : Int) (w : World) (CE : ∀ wx : World, Calls Tryz.prog 36 #[.int .u32 v] wx fun e w' => e = .returned (.agg #[.int .i8 x, .int .i8 d, .int .i8 a, .int .i8 b, .int .i64 n]) ∧ Below wx.heap.size wx w') (hm1 : (x == -1) = false) (h0 : (x == 0) = false) (h15 : (x == 15) = false) (h17 : (x == 17) = false) (h18 : (x == 18) = false) (h19 : (x == 19) = false) (h21 : (x == 21) = false) : Calls Tryz.prog 86 #[.int .u32 v] w fun e w' => e = .returned (.bool true) ∧ Below w.heap.size w w' := by
  go_enter Tryz.func86, Tryz.ntmps86
  go_wp2_with (go_at_call 36; refine (CE _).mono ?_; rintro e w1 ⟨rfl, hb⟩)
  go_ret
  exact ⟨rfl, hb⟩
theorem falls_of (v x d a b n : Int) (w : World) (CE : ∀ wx : World, Calls Tryz.prog 36 #[.int .u32 v] wx fun e w' => e = .returned (.agg #[.int .i8 x, .int .i8 d, .int .i8 a, .int .i8 b, .int .i64 n]) ∧ Below wx.heap.size wx w') : Calls Tryz.prog 86 #[.int .u32 v] w fun e w' => e = .returned (.bool (!endsB x || x == 16)) ∧ Below w.heap.size w w' := by
  by_cases hm1 : x = -1
  · subst hm1; exact fallsm1 v d a b n w CE
  by_cases h0 : x = 0
  · subst h0; exact falls0 v d a b n w CE
  by_cases h15 : x = 15
  · subst h15; exact falls15 v d a b n w CE
  by_cases h17 : x = 17
  · subst h17; exact falls17 v d a b n w CE
  by_cases h18 : x = 18
  · subst h18; exact falls18 v d a b n w CE
  by_cases h19 : x = 19
  · subst h19; exact falls19 v d a b n w CE
  by_cases h21 : x = 21
  · subst h21; exact falls21 v d a b n w CE
  have e : (!endsB x || x == 16) = true := by
    by_cases h16 : x = 16
    · subst h16; rfl
    · have : endsB x = false := by unfold endsB; exact decide_eq_false (by omega)
      rw [this]; rfl
  rw [e]
  exact fallsno v x d a b n w CE (by simpa using hm1) (by simpa using h0) (by simpa using h15) (by simpa using h17) (by simpa using h18) (by simpa using h19) (by simpa using h21)

theorem ends_of (v x d a b n : Int) (F : Bool) (w : World) (CE : ∀ wx : World, Calls Tryz.prog 36 #[.int .u32 v] wx fun e w' => e = .returned (.agg #[.int .i8 x, .int .i8 d, .int .i8 a, .int .i8 b, .int .i64 n]) ∧ Below wx.heap.size wx w') (CF : ∀ wx : World, Calls Tryz.prog 86 #[.int .u32 v] wx fun e w' => e = .returned (.bool F) ∧ Below wx.heap.size wx w') : Calls Tryz.prog 71 #[.int .u32 v] w fun e w' => e = .returned (.bool (!F || x == 16)) ∧ Below w.heap.size w w' := by
  cases F
  · go_enter Tryz.func71, Tryz.ntmps71
    go_wp2_with fail
    refine (CF _).mono ?_
    rintro e w1 ⟨rfl, hb⟩
    go_wp2
    go_ret
    exact ⟨rfl, hb⟩
  · go_enter Tryz.func71, Tryz.ntmps71
    go_wp2_with fail
    refine (CF _).mono ?_
    rintro e w1 ⟨rfl, hb⟩
    go_wp2_with fail
    refine (CE _).mono ?_
    rintro e w2 ⟨rfl, hb2⟩
    go_wp2
    go_ret
    exact ⟨by simp, bel_trans hb hb2⟩
theorem ends_falls (x : Int) : (!(!endsB x || x == 16) || x == 16) = endsB x := by
  by_cases h16 : x = 16
  · subst h16; rfl
  · have : (x == 16) = false := by simpa using h16
    rw [this]; simp

theorem target_of (v x d a b n : Int) (p1 p2 p3 p4 p : Bool) (w : World) (CE : ∀ wx : World, Calls Tryz.prog 36 #[.int .u32 v] wx fun e w' => e = .returned (.agg #[.int .i8 x, .int .i8 d, .int .i8 a, .int .i8 b, .int .i64 n]) ∧ Below wx.heap.size wx w') (CH : ∀ wx : World, Calls Tryz.prog 79 #[.int .i8 x] wx fun e w' => e = .returned (.tuple #[.bool p1, .bool p2, .bool p3, .bool p4, .bool p]) ∧ Below wx.heap.size wx w') : Calls Tryz.prog 58 #[.int .u32 v] w fun e w' => e = .returned (.tuple #[.int .i64 (if p then n else 0), .bool p]) ∧ Below w.heap.size w w' := by
  cases p
  · go_enter Tryz.func58, Tryz.ntmps58
    go_wp2_with fail
    refine (CE _).mono ?_
    rintro e w1 ⟨rfl, hb⟩
    go_wp2_with fail
    refine (CH _).mono ?_
    rintro e w2 ⟨rfl, hb2⟩
    go_wp2
    go_ret2
    exact ⟨rfl, bel_trans (bel_alloc hb _) hb2⟩
  · go_enter Tryz.func58, Tryz.ntmps58
    go_wp2_with fail
    refine (CE _).mono ?_
    rintro e w1 ⟨rfl, hb⟩
    go_wp2_with fail
    refine (CH _).mono ?_
    rintro e w2 ⟨rfl, hb2⟩
    have c4 : w2.cell? ⟨w1.heap.size, 4, none⟩ = some (.int .i64 n) := cell_keep hb2 (by simp [go_sem])
    have HB : Hid (Below w.heap.size w w2) := bel_trans (bel_alloc hb _) hb2
    clear hb hb2
    go_wp2
    go_ret2
    exact ⟨rfl, HB.out⟩





end Go.Proofs.YtfnicgihpelhhaaGreat

namespace Go.Proofs.YtfnicgihpelhhaaGreat
open Go.RowKit


set_option maxRecDepth 100000 in
theorem isahas_any (op : Int) (h8 : op ≤ 127) (w : World) : Calls Tryz.prog 79 #[.int .i8 op] w fun e w' => e = .returned (.tuple #[.bool (hD op), .bool (hA op), .bool (hB op), .bool (hN op), .bool (hP op)]) ∧ Below w.heap.size w w' := by
  have CK := known_any op h8
  by_cases hr : 0 ≤ op ∧ op ≤ 21
  · rw [decide_eq_true hr] at CK
    obtain ⟨b1, b2, b4, b8, b16⟩ := sh_bits op hr.1 hr.2
    have hI := index_sh op hr.1 hr.2
    have C1 := fun wx => fhas_any (sh op) 1 wx
    have C2 := fun wx => fhas_any (sh op) 2 wx
    have C4 := fun wx => fhas_any (sh op) 4 wx
    have C8 := fun wx => fhas_any (sh op) 8 wx
    have C16 := fun wx => fhas_any (sh op) 16 wx
    rw [b1] at C1; rw [b2] at C2; rw [b4] at C4; rw [b8] at C8; rw [b16] at C16
    clear b1 b2 b4 b8 b16
    go_enter Tryz.func79, Tryz.ntmps79
    go_wp2_with fail
    refine (CK _).mono ?_
    rintro e w1 ⟨rfl, rfl⟩
    go_wp2_with fail
    refine (shapes_any _).mono ?_
    rintro e w2 ⟨rfl, hb⟩
    have HB : Hid (Below w1.heap.size w1 w2) := hb
    clear hb CK
    go_wp2_with fail
    refine (C1 _).mono ?_
    rintro e w3 ⟨rfl, rfl⟩
    go_wp2_with fail
    refine (C2 _).mono ?_
    rintro e w3 ⟨rfl, rfl⟩
    go_wp2_with fail
    refine (C4 _).mono ?_
    rintro e w3 ⟨rfl, rfl⟩
    go_wp2_with fail
    refine (C8 _).mono ?_
    rintro e w3 ⟨rfl, rfl⟩
    go_wp2_with fail
    refine (C16 _).mono ?_
    rintro e w3 ⟨rfl, rfl⟩
    go_wp2
    exact bodyPost_ret (v := .tuple #[.bool (hD op), .bool (hA op), .bool (hB op), .bool (hN op), .bool (hP op)]) (by simp [results, Tryz.results79, go_sem]) rfl ⟨rfl, HB.out⟩
  · rw [decide_eq_false hr] at CK
    have e1 : hD op = false := by unfold hD; exact decide_eq_false (by omega)
    have e2 : hA op = false := by unfold hA; exact decide_eq_false (by omega)
    have e3 : hB op = false := by unfold hB; exact decide_eq_false (by omega)
    have e4 : hN op = false := by unfold hN; exact decide_eq_false (by omega)
    have e5 : hP op = false := by unfold hP; exact decide_eq_false (by omega)
    rw [e1, e2, e3, e4, e5]
    clear e1 e2 e3 e4 e5
    go_enter Tryz.func79, Tryz.ntmps79
    go_wp2_with fail
    refine (CK _).mono ?_
    rintro e w1 ⟨rfl, rfl⟩
    go_wp2
    exact bodyPost_ret (v := .tuple #[.bool false, .bool false, .bool false, .bool false, .bool false]) (by simp [results, Tryz.results79, go_sem]) rfl ⟨rfl, Below.refl _ _⟩





end Go.Proofs.YtfnicgihpelhhaaGreat

namespace Go.Proofs.YtfnicgihpelhhaaGreat
open Go.RowKit

theorem dOp_le {v : Int} (h1 : v < 4294967296) : dOp v ≤ 31 := by
  unfold dOp wOp; split <;> omega
theorem isafalls_any (v : Int) (h0 : 0 ≤ v) (h1 : v < 4294967296) (w : World) : Calls Tryz.prog 86 #[.int .u32 v] w fun e w' => e = .returned (.bool (!endsB (dOp v) || dOp v == 16)) ∧ Below w.heap.size w w' :=
  falls_of v _ _ _ _ _ w (isadecode_any v h0 h1)
theorem isaends_any (v : Int) (h0 : 0 ≤ v) (h1 : v < 4294967296) (w : World) : Calls Tryz.prog 71 #[.int .u32 v] w fun e w' => e = .returned (.bool (endsB (dOp v))) ∧ Below w.heap.size w w' := by
  have h := ends_of v _ _ _ _ _ _ w (isadecode_any v h0 h1) (isafalls_any v h0 h1)
  rw [ends_falls] at h
  exact h
theorem isT_hP (v : Int) : isT v = hP (dOp v) := by
  unfold isT
  cases h : hP (dOp v)
  · simp
  · unfold hP at h
    simp at h
    rw [decide_eq_true (by omega)]; rfl
theorem isatarget_any (v : Int) (h0 : 0 ≤ v) (h1 : v < 4294967296) (w : World) : Calls Tryz.prog 58 #[.int .u32 v] w fun e w' => e = .returned (.tuple #[.int .i64 (tgV v), .bool (isT v)]) ∧ Below w.heap.size w w' := by
  have h := target_of v _ _ _ _ _ _ _ _ _ _ w (isadecode_any v h0 h1) (isahas_any (dOp v) (by have := dOp_le h1; omega))
  rw [← isT_hP] at h
  exact h
theorem aim_no {v p : Int} (hT : isT v = true) (hp : ¬ (0 ≤ p ∧ p < 16384)) : encV (dOp v) (dD v) (dA v) (dB v) p = 0 ∧ encE (dOp v) (dD v) (dA v) (dB v) p = 11 := by
  rw [isT_hP] at hT
  have hN := hP_hN _ hT
  have hr : ¬ (dOp v < 0 ∨ 21 < dOp v) := by unfold hP at hT; simp at hT; omega
  refine encE_no hr ?_
  unfold insOK numOK
  rw [hT, hN, decide_eq_false hp]
  simp




end Go.Proofs.YtfnicgihpelhhaaGreat
