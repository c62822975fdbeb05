/-
  Ends, Falls, Target and Aim of the document's answer, for every word of 32 bits; no other condition.
-/
import Derived.Test.YtfdkefnfebnmgaaDoorRefDec
import Derived.Test.YtfdkefnfebnmgaaDoorInsGoes
namespace Go.Proofs.YtfdkefnfebnmgaaDoor
open Go.RowKit

@[go_sem] theorem field_ins0 (x d a b n : Int) (w : World) : (Instr.field 35 (.agg #[.int .i8 x, .int .i8 d, .int .i8 a, .int .i8 b, .int .i64 n]) 0).run Tryd.prog w = .ok (.int .i8 x) w := by kernel_rfl
@[go_sem] theorem field_has4 (x d a b n : Bool) (w : World) : (Instr.field 26 (.agg #[.bool x, .bool d, .bool a, .bool b, .bool n]) 4).run Tryd.prog w = .ok (.bool n) w := by kernel_rfl
theorem endsm1 (v : Int) (w : World) (CE : ∀ wx : World, Calls Tryd.prog 16 #[.int .u32 v] wx fun e w' => e = .returned (.agg #[.int .i8 (-1), .int .i8 (dD v), .int .i8 (dA v), .int .i8 (dB v), .int .i64 (dN v)]) ∧ Below wx.heap.size wx w') : Calls Tryd.prog 18 #[.int .u32 v] w fun e w' => e = .returned (.bool true) ∧ Below w.heap.size w w' := by
  go_enter Tryd.func18, Tryd.ntmps18
  go_wp2_with (go_at_call 16; refine (CE _).mono ?_; rintro e w1 ⟨rfl, hb⟩)
  go_ret
  exact ⟨rfl, hb⟩
theorem ends0 (v : Int) (w : World) (CE : ∀ wx : World, Calls Tryd.prog 16 #[.int .u32 v] wx fun e w' => e = .returned (.agg #[.int .i8 (0), .int .i8 (dD v), .int .i8 (dA v), .int .i8 (dB v), .int .i64 (dN v)]) ∧ Below wx.heap.size wx w') : Calls Tryd.prog 18 #[.int .u32 v] w fun e w' => e = .returned (.bool true) ∧ Below w.heap.size w w' := by
  go_enter Tryd.func18, Tryd.ntmps18
  go_wp2_with (go_at_call 16; refine (CE _).mono ?_; rintro e w1 ⟨rfl, hb⟩)
  go_ret
  exact ⟨rfl, hb⟩
theorem ends15 (v : Int) (w : World) (CE : ∀ wx : World, Calls Tryd.prog 16 #[.int .u32 v] wx fun e w' => e = .returned (.agg #[.int .i8 (15), .int .i8 (dD v), .int .i8 (dA v), .int .i8 (dB v), .int .i64 (dN v)]) ∧ Below wx.heap.size wx w') : Calls Tryd.prog 18 #[.int .u32 v] w fun e w' => e = .returned (.bool true) ∧ Below w.heap.size w w' := by
  go_enter Tryd.func18, Tryd.ntmps18
  go_wp2_with (go_at_call 16; refine (CE _).mono ?_; rintro e w1 ⟨rfl, hb⟩)
  go_ret
  exact ⟨rfl, hb⟩
theorem ends16 (v : Int) (w : World) (CE : ∀ wx : World, Calls Tryd.prog 16 #[.int .u32 v] wx fun e w' => e = .returned (.agg #[.int .i8 (16), .int .i8 (dD v), .int .i8 (dA v), .int .i8 (dB v), .int .i64 (dN v)]) ∧ Below wx.heap.size wx w') : Calls Tryd.prog 18 #[.int .u32 v] w fun e w' => e = .returned (.bool true) ∧ Below w.heap.size w w' := by
  go_enter Tryd.func18, Tryd.ntmps18
  go_wp2_with (go_at_call 16; refine (CE _).mono ?_; rintro e w1 ⟨rfl, hb⟩)
  go_ret
  exact ⟨rfl, hb⟩
theorem ends17 (v : Int) (w : World) (CE : ∀ wx : World, Calls Tryd.prog 16 #[.int .u32 v] wx fun e w' => e = .returned (.agg #[.int .i8 (17), .int .i8 (dD v), .int .i8 (dA v), .int .i8 (dB v), .int .i64 (dN v)]) ∧ Below wx.heap.size wx w') : Calls Tryd.prog 18 #[.int .u32 v] w fun e w' => e = .returned (.bool true) ∧ Below w.heap.size w w' := by
  go_enter Tryd.func18, Tryd.ntmps18
  go_wp2_with (go_at_call 16; refine (CE _).mono ?_; rintro e w1 ⟨rfl, hb⟩)
  go_ret
  exact ⟨rfl, hb⟩
theorem ends18 (v : Int) (w : World) (CE : ∀ wx : World, Calls Tryd.prog 16 #[.int .u32 v] wx fun e w' => e = .returned (.agg #[.int .i8 (18), .int .i8 (dD v), .int .i8 (dA v), .int .i8 (dB v), .int .i64 (dN v)]) ∧ Below wx.heap.size wx w') : Calls Tryd.prog 18 #[.int .u32 v] w fun e w' => e = .returned (.bool true) ∧ Below w.heap.size w w' := by
  go_enter Tryd.func18, Tryd.ntmps18
  go_wp2_with (go_at_call 16; refine (CE _).mono ?_; rintro e w1 ⟨rfl, hb⟩)
  go_ret
  exact ⟨rfl, hb⟩
theorem ends19 (v : Int) (w : World) (CE : ∀ wx : World, Calls Tryd.prog 16 #[.int .u32 v] wx fun e w' => e = .returned (.agg #[.int .i8 (19), .int .i8 (dD v), .int .i8 (dA v), .int .i8 (dB v), .int .i64 (dN v)]) ∧ Below wx.heap.size wx w') : Calls Tryd.prog 18 #[.int .u32 v] w fun e w' => e = .returned (.bool true) ∧ Below w.heap.size w w' := by
  go_enter Tryd.func18, Tryd.ntmps18
  go_wp2_with (go_at_call 16; refine (CE _).mono ?_; rintro e w1 ⟨rfl, hb⟩)
  go_ret
  exact ⟨rfl, hb⟩
theorem ends21 (v : Int) (w : World) (CE : ∀ wx : World, Calls Tryd.prog 16 #[.int .u32 v] wx fun e w' => e = .returned (.agg #[.int .i8 (21), .int .i8 (dD v), .int .i8 (dA v), .int .i8 (dB v), .int .i64 (dN v)]) ∧ Below wx.heap.size wx w') : Calls Tryd.prog 18 #[.int .u32 v] w fun e w' => e = .returned (.bool true) ∧ Below w.heap.size w w' := by
  go_enter Tryd.func18, Tryd.ntmps18
  go_wp2_with (go_at_call 16; refine (CE _).mono ?_; rintro e w1 ⟨rfl, hb⟩)
  go_ret
  exact ⟨rfl, hb⟩
theorem endsno (v x : Int) (w : World) (CE : ∀ wx : World, Calls Tryd.prog 16 #[.int .u32 v] wx fun e w' => e = .returned (.agg #[.int .i8 x, .int .i8 (dD v), .int .i8 (dA v), .int .i8 (dB v), .int .i64 (dN v)]) ∧ Below wx.heap.size wx w') (hm1 : (x == -1) = false) (h0 : (x == 0) = false) (h15 : (x == 15) = false) (h16 : (x == 16) = false) (h17 : (x == 17) = false) (h18 : (x == 18) = false) (h19 : (x == 19) = false) (h21 : (x == 21) = false) : Calls Tryd.prog 18 #[.int .u32 v] w fun e w' => e = .returned (.bool false) ∧ Below w.heap.size w w' := by
  go_enter Tryd.func18, Tryd.ntmps18
  go_wp2_with (go_at_call 16; refine (CE _).mono ?_; rintro e w1 ⟨rfl, hb⟩)
  go_ret
  exact ⟨rfl, hb⟩
theorem refends_any (v : Int) (h0 : 0 ≤ v) (h1 : v < 4294967296) (w : World) : Calls Tryd.prog 18 #[.int .u32 v] w fun e w' => e = .returned (.bool (endsB (dOp v))) ∧ Below w.heap.size w w' := by
  have CE : ∀ wx : World, Calls Tryd.prog 16 #[.int .u32 v] wx fun e w' => e = .returned (.agg #[.int .i8 (dOp v), .int .i8 (dD v), .int .i8 (dA v), .int .i8 (dB v), .int .i64 (dN v)]) ∧ Below wx.heap.size wx w' := fun wx => refdecode_any v h0 h1 wx
  generalize dOp v = x at CE ⊢
  by_cases hm1 : x = -1
  · subst hm1; exact endsm1 v w CE
  by_cases h0 : x = 0
  · subst h0; exact ends0 v w CE
  by_cases h15 : x = 15
  · subst h15; exact ends15 v w CE
  by_cases h16 : x = 16
  · subst h16; exact ends16 v w CE
  by_cases h17 : x = 17
  · subst h17; exact ends17 v w CE
  by_cases h18 : x = 18
  · subst h18; exact ends18 v w CE
  by_cases h19 : x = 19
  · subst h19; exact ends19 v w CE
  by_cases h21 : x = 21
  · subst h21; exact ends21 v w CE
  have e : endsB x = false := by unfold endsB; exact decide_eq_false (by omega)
  rw [e]
  exact endsno v x w CE (by simpa using hm1) (by simpa using h0) (by simpa using h15) (by simpa using h16) (by simpa using h17) (by simpa using h18) (by simpa using h19) (by simpa using h21)

theorem reffalls_any (v : Int) (h0 : 0 ≤ v) (h1 : v < 4294967296) (w : World) : Calls Tryd.prog 20 #[.int .u32 v] w fun e w' => e = .returned (.bool (!endsB (dOp v) || dOp v == 16)) ∧ Below w.heap.size w w' := by
  have CE : ∀ wx : World, Calls Tryd.prog 16 #[.int .u32 v] wx fun e w' => e = .returned (.agg #[.int .i8 (dOp v), .int .i8 (dD v), .int .i8 (dA v), .int .i8 (dB v), .int .i64 (dN v)]) ∧ Below wx.heap.size wx w' := fun wx => refdecode_any v h0 h1 wx
  have CN : ∀ wx : World, Calls Tryd.prog 18 #[.int .u32 v] wx fun e w' => e = .returned (.bool (endsB (dOp v))) ∧ Below wx.heap.size wx w' := fun wx => refends_any v h0 h1 wx
  generalize dOp v = x at CE CN ⊢
  generalize endsB x = y at CN ⊢
  cases y
  · go_enter Tryd.func20, Tryd.ntmps20
    go_wp2_with (go_at_call 18; refine (CN _).mono ?_; rintro e w1 ⟨rfl, hb⟩)
    go_ret
    exact ⟨rfl, hb⟩
  · go_enter Tryd.func20, Tryd.ntmps20
    go_wp2_with (first | (go_at_call 18; refine (CN _).mono ?_; rintro e w1 ⟨rfl, hb⟩) | (go_at_call 16; refine (CE _).mono ?_; rintro e w2 ⟨rfl, hb2⟩))
    go_ret
    exact ⟨by simp, bel_trans hb hb2⟩

theorem reftarget_any (v : Int) (h0 : 0 ≤ v) (h1 : v < 4294967296) (w : World) : Calls Tryd.prog 15 #[.int .u32 v] w fun e w' => e = .returned (.tuple #[.int .i64 (tgV v), .bool (isT v)]) ∧ Below w.heap.size w w' := by
  have CE : ∀ wx : World, Calls Tryd.prog 16 #[.int .u32 v] wx fun e w' => e = .returned (.agg #[.int .i8 (dOp v), .int .i8 (dD v), .int .i8 (dA v), .int .i8 (dB v), .int .i64 (dN v)]) ∧ Below wx.heap.size wx w' := fun wx => refdecode_any v h0 h1 wx
  unfold tgV isT
  generalize dOp v = x at CE ⊢
  generalize dN v = n at CE ⊢
  by_cases hx : x < 0
  · have e : decide (0 ≤ x) = false := decide_eq_false (by omega)
    rw [e]
    go_enter Tryd.func15, Tryd.ntmps15
    go_wp2_with (go_at_call 16; refine (CE _).mono ?_; rintro e w1 ⟨rfl, hb⟩)
    go_ret2
    exact ⟨rfl, bel_alloc hb _⟩
  · have e : decide (0 ≤ x) = true := decide_eq_true (by omega)
    rw [e]
    clear e
    cases hp : hP x
    · go_enter Tryd.func15, Tryd.ntmps15
      go_wp2_with (first | (go_at_call 16; refine (CE _).mono ?_; rintro e w1 ⟨rfl, hb⟩) | (go_at_call 7; refine (refhas_any _ _).mono ?_; rintro e w2 ⟨rfl, rfl⟩))
      go_ret2
      exact ⟨rfl, bel_alloc (bel_alloc hb _) _⟩
    · go_enter Tryd.func15, Tryd.ntmps15
      go_wp2_with (first | (go_at_call 16; refine (CE _).mono ?_; rintro e w1 ⟨rfl, hb⟩) | (go_at_call 7; refine (refhas_any _ _).mono ?_; rintro e w2 ⟨rfl, rfl⟩))
      go_ret2
      exact ⟨rfl, bel_alloc (bel_alloc hb _) _⟩

theorem refaim_any (v p : Int) (h0 : 0 ≤ v) (h1 : v < 4294967296) (w : World) : Calls Tryd.prog 24 #[.int .u32 v, .int .i64 p] w fun e w' => e = .returned (.tuple #[.int .u32 (aimV v p), .int .i64 (aimE v p)]) ∧ Below w.heap.size w w' := by
  have CE : ∀ wx : World, Calls Tryd.prog 16 #[.int .u32 v] wx fun e w' => e = .returned (.agg #[.int .i8 (dOp v), .int .i8 (dD v), .int .i8 (dA v), .int .i8 (dB v), .int .i64 (dN v)]) ∧ Below wx.heap.size wx w' := fun wx => refdecode_any v h0 h1 wx
  have CT : ∀ wx : World, Calls Tryd.prog 15 #[.int .u32 v] wx fun e w' => e = .returned (.tuple #[.int .i64 (tgV v), .bool (isT v)]) ∧ Below wx.heap.size wx w' := fun wx => reftarget_any v h0 h1 wx
  unfold aimV aimE
  cases hT : isT v with
  | false =>
    rw [hT] at CT
    clear hT
    go_enter Tryd.func24, Tryd.ntmps24
    go_wp2_with (go_at_call 15; refine (CT _).mono ?_; rintro e w1 ⟨rfl, hb⟩)
    go_ret2
    exact ⟨rfl, hb⟩
  | true =>
    rw [hT] at CT
    clear hT
    by_cases hp0 : p < 0
    · have e : decide (0 ≤ p ∧ p < 16384) = false := decide_eq_false (by omega)
      rw [e]
      clear e
      go_enter Tryd.func24, Tryd.ntmps24
      go_wp2_with (go_at_call 15; refine (CT _).mono ?_; rintro e w1 ⟨rfl, hb⟩)
      go_ret2
      exact ⟨rfl, hb⟩
    by_cases hp1 : 16384 ≤ p
    · have e : decide (0 ≤ p ∧ p < 16384) = false := decide_eq_false (by omega)
      rw [e]
      clear e
      go_enter Tryd.func24, Tryd.ntmps24
      go_wp2_with (go_at_call 15; refine (CT _).mono ?_; rintro e w1 ⟨rfl, hb⟩)
      go_ret2
      exact ⟨rfl, hb⟩
    · have e : decide (0 ≤ p ∧ p < 16384) = true := decide_eq_true (by omega)
      rw [e]
      clear e
      go_enter Tryd.func24, Tryd.ntmps24
      go_wp2_with (first | (go_at_call 15; refine (CT _).mono ?_; rintro e w1 ⟨rfl, hb⟩) | (go_at_call 16; refine (CE _).mono ?_; rintro e w2 ⟨rfl, hb2⟩) | (go_at_call 22; refine (refencode_any _ _ _ _ _ _).mono ?_; rintro e w3 ⟨rfl, hb3⟩))
      go_ret2
      exact ⟨rfl, bel_trans (bel_alloc (bel_trans hb hb2) _) hb3⟩

end Go.Proofs.YtfdkefnfebnmgaaDoor
