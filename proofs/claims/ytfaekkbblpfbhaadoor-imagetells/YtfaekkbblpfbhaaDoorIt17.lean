/-
  Ends, Falls, Target and Aim of package isa, over what Decode, Has and Encode return; no other condition. Ends, Falls, Target and Aim of package isa, each by what it returns; a word is of 32 bits.
-/
import Derived.Test.YtfaekkbblpfbhaaDoorIt11
import Derived.Test.YtfaekkbblpfbhaaDoorIt16
import Derived.Test.YtfaekkbblpfbhaaDoorIt15
namespace Go.Proofs.YtfaekkbblpfbhaaDoor
open Go.RowKit

theorem fallsm1 (v d a b n : Int) (w : World) (CE : ∀ wx : World, Calls Tryd.prog 29 #[.int .u32 v] wx fun e w' => e = .returned (.agg #[.int .i8 (-1), .int .i8 d, .int .i8 a, .int .i8 b, .int .i64 n]) ∧ Below wx.heap.size wx w') : Calls Tryd.prog 28 #[.int .u32 v] w fun e w' => e = .returned (.bool false) ∧ Below w.heap.size w w' := by
  go_enter Tryd.func28, Tryd.ntmps28
  go_wp2_with (go_at_call 29; refine (CE _).mono ?_; rintro e w1 ⟨rfl, hb⟩)
  go_ret
  exact ⟨rfl, hb⟩
theorem falls0 (v d a b n : Int) (w : World) (CE : ∀ wx : World, Calls Tryd.prog 29 #[.int .u32 v] wx fun e w' => e = .returned (.agg #[.int .i8 (0), .int .i8 d, .int .i8 a, .int .i8 b, .int .i64 n]) ∧ Below wx.heap.size wx w') : Calls Tryd.prog 28 #[.int .u32 v] w fun e w' => e = .returned (.bool false) ∧ Below w.heap.size w w' := by
  go_enter Tryd.func28, Tryd.ntmps28
  go_wp2_with (go_at_call 29; refine (CE _).mono ?_; rintro e w1 ⟨rfl, hb⟩)
  go_ret
  exact ⟨rfl, hb⟩
theorem falls15 (v d a b n : Int) (w : World) (CE : ∀ wx : World, Calls Tryd.prog 29 #[.int .u32 v] wx fun e w' => e = .returned (.agg #[.int .i8 (15), .int .i8 d, .int .i8 a, .int .i8 b, .int .i64 n]) ∧ Below wx.heap.size wx w') : Calls Tryd.prog 28 #[.int .u32 v] w fun e w' => e = .returned (.bool false) ∧ Below w.heap.size w w' := by
  go_enter Tryd.func28, Tryd.ntmps28
  go_wp2_with (go_at_call 29; refine (CE _).mono ?_; rintro e w1 ⟨rfl, hb⟩)
  go_ret
  exact ⟨rfl, hb⟩
theorem falls17 (v d a b n : Int) (w : World) (CE : ∀ wx : World, Calls Tryd.prog 29 #[.int .u32 v] wx fun e w' => e = .returned (.agg #[.int .i8 (17), .int .i8 d, .int .i8 a, .int .i8 b, .int .i64 n]) ∧ Below wx.heap.size wx w') : Calls Tryd.prog 28 #[.int .u32 v] w fun e w' => e = .returned (.bool false) ∧ Below w.heap.size w w' := by
  go_enter Tryd.func28, Tryd.ntmps28
  go_wp2_with (go_at_call 29; refine (CE _).mono ?_; rintro e w1 ⟨rfl, hb⟩)
  go_ret
  exact ⟨rfl, hb⟩
theorem falls18 (v d a b n : Int) (w : World) (CE : ∀ wx : World, Calls Tryd.prog 29 #[.int .u32 v] wx fun e w' => e = .returned (.agg #[.int .i8 (18), .int .i8 d, .int .i8 a, .int .i8 b, .int .i64 n]) ∧ Below wx.heap.size wx w') : Calls Tryd.prog 28 #[.int .u32 v] w fun e w' => e = .returned (.bool false) ∧ Below w.heap.size w w' := by
  go_enter Tryd.func28, Tryd.ntmps28
  go_wp2_with (go_at_call 29; refine (CE _).mono ?_; rintro e w1 ⟨rfl, hb⟩)
  go_ret
  exact ⟨rfl, hb⟩
theorem falls19 (v d a b n : Int) (w : World) (CE : ∀ wx : World, Calls Tryd.prog 29 #[.int .u32 v] wx fun e w' => e = .returned (.agg #[.int .i8 (19), .int .i8 d, .int .i8 a, .int .i8 b, .int .i64 n]) ∧ Below wx.heap.size wx w') : Calls Tryd.prog 28 #[.int .u32 v] w fun e w' => e = .returned (.bool false) ∧ Below w.heap.size w w' := by
  go_enter Tryd.func28, Tryd.ntmps28
  go_wp2_with (go_at_call 29; refine (CE _).mono ?_; rintro e w1 ⟨rfl, hb⟩)
  go_ret
  exact ⟨rfl, hb⟩
theorem falls21 (v d a b n : Int) (w : World) (CE : ∀ wx : World, Calls Tryd.prog 29 #[.int .u32 v] wx fun e w' => e = .returned (.agg #[.int .i8 (21), .int .i8 d, .int .i8 a, .int .i8 b, .int .i64 n]) ∧ Below wx.heap.size wx w') : Calls Tryd.prog 28 #[.int .u32 v] w fun e w' => e = .returned (.bool false) ∧ Below w.heap.size w w' := by
  go_enter Tryd.func28, Tryd.ntmps28
  go_wp2_with (go_at_call 29; refine (CE _).mono ?_; rintro e w1 ⟨rfl, hb⟩)
  go_ret
  exact ⟨rfl, hb⟩
theorem fallsno (v x d a b n : Int) (w : World) (CE : ∀ wx : World, Calls Tryd.prog 29 #[.int .u32 v] wx fun e w' => e = .returned (.agg #[.int .i8 x, .int .i8 d, .int .i8 a, .int .i8 b, .int .i64 n]) ∧ Below wx.heap.size wx w') (hm1 : (x == -1) = false) (h0 : (x == 0) = false) (h15 : (x == 15) = false) (h17 : (x == 17) = false) (h18 : (x == 18) = false) (h19 : (x == 19) = false) (h21 : (x == 21) = false) : Calls Tryd.prog 28 #[.int .u32 v] w fun e w' => e = .returned (.bool true) ∧ Below w.heap.size w w' := by
  go_enter Tryd.func28, Tryd.ntmps28
  go_wp2_with (go_at_call 29; refine (CE _).mono ?_; rintro e w1 ⟨rfl, hb⟩)
  go_ret
  exact ⟨rfl, hb⟩
theorem falls_of (v x d a b n : Int) (w : World) (CE : ∀ wx : World, Calls Tryd.prog 29 #[.int .u32 v] wx fun e w' => e = .returned (.agg #[.int .i8 x, .int .i8 d, .int .i8 a, .int .i8 b, .int .i64 n]) ∧ Below wx.heap.size wx w') : Calls Tryd.prog 28 #[.int .u32 v] w fun e w' => e = .returned (.bool (!endsB x || x == 16)) ∧ Below w.heap.size w w' := by
  by_cases hm1 : x = -1
  · subst hm1; exact fallsm1 v d a b n w CE
  by_cases h0 : x = 0
  · subst h0; exact falls0 v d a b n w CE
  by_cases h15 : x = 15
  · subst h15; exact falls15 v d a b n w CE
  by_cases h17 : x = 17
  · subst h17; exact falls17 v d a b n w CE
  by_cases h18 : x = 18
  · subst h18; exact falls18 v d a b n w CE
  by_cases h19 : x = 19
  · subst h19; exact falls19 v d a b n w CE
  by_cases h21 : x = 21
  · subst h21; exact falls21 v d a b n w CE
  have e : (!endsB x || x == 16) = true := by
    by_cases h16 : x = 16
    · subst h16; rfl
    · have : endsB x = false := by unfold endsB; exact decide_eq_false (by omega)
      rw [this]; rfl
  rw [e]
  exact fallsno v x d a b n w CE (by simpa using hm1) (by simpa using h0) (by simpa using h15) (by simpa using h17) (by simpa using h18) (by simpa using h19) (by simpa using h21)

theorem ends_falls (x : Int) : (!(!endsB x || x == 16) || x == 16) = endsB x := by
  by_cases h16 : x = 16
  · subst h16; rfl
  · have : (x == 16) = false := by simpa using h16
    rw [this]; simp

theorem target_of (v x d a b n : Int) (p1 p2 p3 p4 p : Bool) (w : World) (CE : ∀ wx : World, Calls Tryd.prog 29 #[.int .u32 v] wx fun e w' => e = .returned (.agg #[.int .i8 x, .int .i8 d, .int .i8 a, .int .i8 b, .int .i64 n]) ∧ Below wx.heap.size wx w') (CH : ∀ wx : World, Calls Tryd.prog 69 #[.int .i8 x] wx fun e w' => e = .returned (.tuple #[.bool p1, .bool p2, .bool p3, .bool p4, .bool p]) ∧ Below wx.heap.size wx w') : Calls Tryd.prog 27 #[.int .u32 v] w fun e w' => e = .returned (.tuple #[.int .i64 (if p then n else 0), .bool p]) ∧ Below w.heap.size w w' := by
  cases p
  · go_enter Tryd.func27, Tryd.ntmps27
    go_wp2_with fail
    refine (CE _).mono ?_
    rintro e w1 ⟨rfl, hb⟩
    go_wp2_with fail
    refine (CH _).mono ?_
    rintro e w2 ⟨rfl, hb2⟩
    go_wp2
    go_ret2
    exact ⟨rfl, bel_trans (bel_alloc hb _) hb2⟩
  · go_enter Tryd.func27, Tryd.ntmps27
    go_wp2_with fail
    refine (CE _).mono ?_
    rintro e w1 ⟨rfl, hb⟩
    go_wp2_with fail
    refine (CH _).mono ?_
    rintro e w2 ⟨rfl, hb2⟩
    have c4 : w2.cell? ⟨w1.heap.size, 4, none⟩ = some (.int .i64 n) := cell_keep hb2 (by simp [go_sem])
    have HB : Hid (Below w.heap.size w w2) := bel_trans (bel_alloc hb _) hb2
    clear hb hb2
    go_wp2
    go_ret2
    exact ⟨rfl, HB.out⟩


end Go.Proofs.YtfaekkbblpfbhaaDoor

namespace Go.Proofs.YtfaekkbblpfbhaaDoor
open Go.RowKit

theorem dOp_le {v : Int} (h1 : v < 4294967296) : dOp v ≤ 31 := by
  unfold dOp wOp; split <;> omega
theorem isafalls_any (v : Int) (h0 : 0 ≤ v) (h1 : v < 4294967296) (w : World) : Calls Tryd.prog 28 #[.int .u32 v] w fun e w' => e = .returned (.bool (!endsB (dOp v) || dOp v == 16)) ∧ Below w.heap.size w w' :=
  falls_of v _ _ _ _ _ w (isadecode_any v h0 h1)
theorem isT_hP (v : Int) : isT v = hP (dOp v) := by
  unfold isT
  cases h : hP (dOp v)
  · simp
  · unfold hP at h
    simp at h
    rw [decide_eq_true (by omega)]; rfl
theorem isatarget_any (v : Int) (h0 : 0 ≤ v) (h1 : v < 4294967296) (w : World) : Calls Tryd.prog 27 #[.int .u32 v] w fun e w' => e = .returned (.tuple #[.int .i64 (tgV v), .bool (isT v)]) ∧ Below w.heap.size w w' := by
  have h := target_of v _ _ _ _ _ _ _ _ _ _ w (isadecode_any v h0 h1) (isahas_any (dOp v) (by have := dOp_le h1; omega))
  rw [← isT_hP] at h
  exact h
theorem aim_no {v p : Int} (hT : isT v = true) (hp : ¬ (0 ≤ p ∧ p < 16384)) : encV (dOp v) (dD v) (dA v) (dB v) p = 0 ∧ encE (dOp v) (dD v) (dA v) (dB v) p = 11 := by
  rw [isT_hP] at hT
  have hN := hP_hN _ hT
  have hr : ¬ (dOp v < 0 ∨ 21 < dOp v) := by unfold hP at hT; simp at hT; omega
  refine encE_no hr ?_
  unfold insOK numOK
  rw [hT, hN, decide_eq_false hp]
  simp

end Go.Proofs.YtfaekkbblpfbhaaDoor
