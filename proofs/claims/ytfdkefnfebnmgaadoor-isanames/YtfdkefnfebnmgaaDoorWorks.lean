/-
  The statements' own small test, works, returns true; no condition.
-/
import Derived.Test.YtfdkefnfebnmgaaDoorIsa
import Derived.Test.YtfdkefnfebnmgaaDoorInsLaws
import Derived.Test.YtfdkefnfebnmgaaDoorName
namespace Go.Proofs.YtfdkefnfebnmgaaDoor
open Go.RowKit

theorem w_enc : encV 3 1 2 3 0 = 412188672 ∧ encE 3 1 2 3 0 = 0 := by decide +kernel
theorem w_dec : dOp 412188672 = 3 ∧ dD 412188672 = 1 ∧ dA 412188672 = 2 ∧ dB 412188672 = 3 ∧ dN 412188672 = 0 := by decide +kernel
theorem w_tgt : tgV 2013265925 = 5 ∧ isT 2013265925 = true := by decide +kernel
theorem w_name : nameB 21 = ⟨#[104, 97, 108, 116]⟩ := by decide +kernel
theorem w_ends : endsB (dOp 0) = true := by decide +kernel

theorem works_any (w : World) (hn : Nm w) : Calls Tryd.prog 12 #[] w fun e w' => e = .returned (.bool true) ∧ Below w.heap.size w w' := by
  have C1 : ∀ wx : World, Calls Tryd.prog 21 #[.agg #[.int .i8 3, .int .i8 1, .int .i8 2, .int .i8 3, .int .i64 0]] wx fun e w' => e = .returned (.tuple #[.int .u32 412188672, .int .i64 0]) ∧ Below wx.heap.size wx w' := fun wx => by
    have h := isaencode_any 3 1 2 3 0 (by omega) wx
    rw [w_enc.1, w_enc.2] at h; exact h
  have C2 : ∀ wx : World, Calls Tryd.prog 14 #[.int .u32 2013265925] wx fun e w' => e = .returned (.tuple #[.int .i64 5, .bool true]) ∧ Below wx.heap.size wx w' := fun wx => by
    have h := isatarget_any 2013265925 (by omega) (by omega) wx
    rw [w_tgt.1, w_tgt.2] at h; exact h
  have C3 : ∀ wx : World, Calls Tryd.prog 13 #[.int .u32 412188672] wx fun e w' => e = .returned (.agg #[.int .i8 3, .int .i8 1, .int .i8 2, .int .i8 3, .int .i64 0]) ∧ Below wx.heap.size wx w' := fun wx => by
    have h := isadecode_any 412188672 (by omega) (by omega) wx
    rw [w_dec.1, w_dec.2.1, w_dec.2.2.1, w_dec.2.2.2.1, w_dec.2.2.2.2] at h; exact h
  have C4 : ∀ wx : World, Nm wx → Calls Tryd.prog 10 #[.int .i8 21] wx fun e w' => e = .returned (.string ⟨#[104, 97, 108, 116]⟩) ∧ Below wx.heap.size wx w' := fun wx hx => by
    have h := isaname_any 21 (by omega) wx hx
    rw [w_name] at h; exact h
  have C5 : ∀ wx : World, Calls Tryd.prog 17 #[.int .u32 0] wx fun e w' => e = .returned (.bool true) ∧ Below wx.heap.size wx w' := fun wx => by
    have h := isaends_any 0 (by omega) (by omega) wx
    rw [w_ends] at h; exact h
  go_enter Tryd.func12, Tryd.ntmps12
  go_wp2_with (first | (go_at_call 21; refine (C1 _).mono ?_; rintro e w1 ⟨rfl, hb1⟩) | (go_at_call 14; refine (C2 _).mono ?_; rintro e w2 ⟨rfl, hb2⟩) | (go_at_call 13; refine (C3 _).mono ?_; rintro e w3 ⟨rfl, hb3⟩) | (go_at_call 10; refine (C4 _ (hn.below (bel_trans (bel_trans hb1 hb2) hb3))).mono ?_; rintro e w4 ⟨rfl, hb4⟩) | (go_at_call 17; refine (C5 _).mono ?_; rintro e w5 ⟨rfl, hb5⟩))
  go_ret
  exact ⟨rfl, bel_trans (bel_trans (bel_trans (bel_trans hb1 hb2) hb3) hb4) hb5⟩

end Go.Proofs.YtfdkefnfebnmgaaDoor
