/-
  The small known run.
-/
import Derived.Test.YtmlhnnmelopleaaGreatDoorProg
import Derived.WalkKit
import Derived.WalkSpells
import Derived.WalkLawsBesides
import Derived.RowKit3
import Derived.Below
import Derived.Deep.QuietTactic
import Derived.BigQuiet
import Derived.WalkSmall
import Derived.Laws.Rows
import Derived.Test.YtmlhnnmelopleaaGreatDoorPa44
import Derived.Test.YtmlhnnmelopleaaGreatDoorPa40
namespace Go.Proofs.YtmlhnnmelopleaaGreatDoor
open Go.RowKit

def wk3 : List Int := [142606341, 1879572480, 2818572288]
theorem wk3_in : ∀ i, i < wk3.length → 0 ≤ nth wk3 i ∧ nth wk3 i < 4294967296 := by
  intro i hi
  have : i = 0 ∨ i = 1 ∨ i = 2 := by simp [wk3] at hi; omega
  rcases this with rfl | rfl | rfl <;> exact ⟨by decide, by decide⟩
theorem wk3_ints {w : World} {g : Nat} (h : w.heap[g]? = some (.cells #[.int .u32 142606341, .int .u32 1879572480, .int .u32 2818572288] 63 (0, 0))) : IntsAt w (some ⟨g, 0, none⟩) .u32 wk3 := by
  intro i hi
  refine ⟨⟨g, 0, none⟩, rfl, ?_⟩
  rw [add0]
  have : i = 0 ∨ i = 1 ∨ i = 2 := by simp [wk3] at hi; omega
  rcases this with rfl | rfl | rfl <;> exact wbox_at h rfl
theorem wk3_chk : checkI wk3 0 0 = (0, 0) := by kernel_rfl
theorem wk3_beh {H : Int → Nat} (h : BhI wk3 0 H) : H ((1 : Nat) : Int) = 0 := by
  obtain ⟨F, G, h1, h2⟩ := h
  have hl : (blkL wk3 0).length = 1 := by kernel_rfl
  have hA : rAt (blkL wk3 0) 0 = 0 := by kernel_rfl
  have hS : rSym (blkL wk3 0) 0 = 3 := by kernel_rfl
  have hE : rowZ (edgT wk3 0 (blkL wk3 0).length) 0 = [] := by kernel_rfl
  have hG : G ((0 : Nat) : Int) = 0 := by
    have := h1.sol.out 0 (by omega)
    rw [hE] at this
    exact this
  have k := h2 0 (by omega)
  rw [hA, hS, hG] at k
  have e : setB wk3 3 0 (3 - 1 - ((1 : Nat) : Int)).toNat = 0 := by kernel_rfl
  rw [k 1 (by omega) (by omega), e]
theorem wk3_one (H : Int → Nat) : spotN wk3 0 H 3 0 = (1, 0) := by
  have e1 : inB wk3 0 3 0 = true := by kernel_rfl
  have e2 : kindN (cutN wk3 0 3) = 1 := by kernel_rfl
  unfold spotN
  rw [e1, e2]
  simp
theorem wk3_two {H : Int → Nat} (h : Gd wk3 0 H 2 0) : spotN wk3 0 H 2 0 = (3, 0) := by
  have e1 : inB wk3 0 2 0 = true := by kernel_rfl
  have e2 : kindN (cutN wk3 0 2) = 3 := by kernel_rfl
  have e3 := wk3_beh (h e2)
  unfold spotN
  rw [e1, e2, show 0 + 2 - 1 = 1 from rfl, e3]
  simp
theorem wk3_k : kindN wk3 = 1 := by kernel_rfl
set_option maxRecDepth 100000 in
set_option maxHeartbeats 4000000 in
theorem works_any (w : World) (hT : Tz w) : Calls Tryz.prog 6 #[] w fun e w' => e = .returned (.bool true) ∧ Below w.heap.size w w' := by
  obtain ⟨W, HW⟩ : ∃ W, Hid ((w.alloc (.cells #[.int .u32 142606341, .int .u32 1879572480, .int .u32 2818572288] 63)).alloc (.cells #[.slice (some ⟨w.heap.size, 0, none⟩) 3 3, .int .i64 0, .slice none 0 0] 31) = W) := ⟨_, rfl⟩
  have HB : Hid (Below w.heap.size w W) := by unfold Hid; rw [← HW.out]; exact lb_alloc (lb_alloc (Below.refl _ _) _) _
  have h1 : W.heap[w.heap.size]? = some (.cells #[.int .u32 142606341, .int .u32 1879572480, .int .u32 2818572288] 63 (0, 0)) := by rw [← HW.out]; exact old_at (new_at rfl)
  have h3 : W.heap[w.heap.size + 1]? = some (.cells #[.slice (some ⟨w.heap.size, 0, none⟩) 3 3, .int .i64 0, .slice none 0 0] 31 (0, 0)) := by rw [← HW.out]; exact new_at (by simp)
  have x0 : W.cell? ⟨w.heap.size + 1, 0, none⟩ = some (.slice (some ⟨w.heap.size, 0, none⟩) 3 3) := wbox_at h3 rfl
  have x1 : W.cell? ⟨w.heap.size + 1, 1, none⟩ = some (.int .i64 0) := wbox_at h3 rfl
  have x2 : W.cell? ⟨w.heap.size + 1, 2, none⟩ = some (.slice none 0 0) := wbox_at h3 rfl
  have hI := wk3_ints h1
  have CS : ∀ (n : Int) wx, Below W.heap.size W wx → Calls Tryz.prog 20 #[.agg #[.slice (some ⟨w.heap.size, 0, none⟩) 3 3, .int .i64 0, .slice none 0 0], .int .i64 n, .int .i64 0] wx (SpotP wk3 0 0 n 0 wx) := fun n wx hb => spot_any (some ⟨w.heap.size, 0, none⟩) none 3 0 0 0 wk3 n 0 wx (hT.below (lb_trans HB.out hb)) (hI.keep hb) wk3_in (by decide) (by decide) (by decide) (by decide)
  have CK : ∀ wx, Below W.heap.size W wx → Calls Tryz.prog 8 #[.slice (some ⟨w.heap.size, 0, none⟩) 3 3] wx fun e w' => e = .returned (.int .i8 1) ∧ Below wx.heap.size wx w' := fun wx hb => by
    have := kind_any (some ⟨w.heap.size, 0, none⟩) 3 wk3 wx (hI.keep hb) wk3_in (by decide) (by decide)
    rw [wk3_k] at this
    exact this
  have S1 : ∀ e wx wy, SpotP wk3 0 0 3 0 wx e wy → e = .returned (.tuple #[.agg #[.int .i64 0, .int .i8 1, .int .i8 0], .bool true, .int .i64 0]) ∧ Below wx.heap.size wx wy := fun e wx wy h => by
    obtain ⟨hb, h | h | h⟩ := h
    · exact absurd (by rw [wk3_chk]) h.1
    · exact absurd (show fitB wk3 3 0 = true by kernel_rfl) (by rw [h.2.1]; simp)
    · obtain ⟨-, -, H, -, he⟩ := h
      refine ⟨?_, hb⟩
      rw [he, show (3 : Int).toNat = 3 from rfl, show (0 : Int).toNat = 0 from rfl, wk3_one]
      rfl
  have S2 : ∀ e wx wy, SpotP wk3 0 0 2 0 wx e wy → e = .returned (.tuple #[.agg #[.int .i64 0, .int .i8 3, .int .i8 0], .bool true, .int .i64 0]) ∧ Below wx.heap.size wx wy := fun e wx wy h => by
    obtain ⟨hb, h | h | h⟩ := h
    · exact absurd (by rw [wk3_chk]) h.1
    · exact absurd (show fitB wk3 2 0 = true by kernel_rfl) (by rw [h.2.1]; simp)
    · obtain ⟨-, -, H, hG, he⟩ := h
      refine ⟨?_, hb⟩
      rw [he, show (2 : Int).toNat = 2 from rfl, show (0 : Int).toNat = 0 from rfl, wk3_two hG]
      rfl
  have C1 := (CS 3 W (Below.refl _ _)).mono (S1 · W ·)
  have C2 := fun wx hb => (CS 2 wx hb).mono (S2 · wx ·)
  clear CS S1 S2 hI h1 h3 hT
  go_enter Tryz.func6, Tryz.ntmps6
  go_upto_region 2 with fail
  rw [HW.out]
  clear HW
  go_upto_region 3 with (go_at_call 20; refine C1.mono ?_; rintro e w1 ⟨rfl, hb1⟩)
  obtain ⟨W1, HW1⟩ : ∃ W1, Hid (w1.alloc (.cells #[.int .i64 0, .int .i8 1, .int .i8 0] 54) = W1) := ⟨_, rfl⟩
  have HB1 : Hid (Below W.heap.size W W1) := by unfold Hid; rw [← HW1.out]; exact lb_alloc hb1 _
  have s0 : W1.cell? ⟨w1.heap.size, 0, none⟩ = some (.int .i64 0) := by rw [← HW1.out]; simp [go_sem]
  have s1 : W1.cell? ⟨w1.heap.size, 1, none⟩ = some (.int .i8 1) := by rw [← HW1.out]; simp [go_sem]
  have s2 : W1.cell? ⟨w1.heap.size, 2, none⟩ = some (.int .i8 0) := by rw [← HW1.out]; simp [go_sem]
  have y0 := lkeep HB1.out x0
  have y1 := lkeep HB1.out x1
  have y2 := lkeep HB1.out x2
  have C2 := C2 W1 HB1.out
  rw [HW1.out]
  clear HW1 C1 x0 x1 x2
  go_upto_region 4 with (go_at_call 20; refine C2.mono ?_; rintro e w2 ⟨rfl, hb2⟩)
  obtain ⟨W2, HW2⟩ : ∃ W2, Hid (w2.alloc (.cells #[.int .i64 0, .int .i8 3, .int .i8 0] 54) = W2) := ⟨_, rfl⟩
  have HB2 : Hid (Below W1.heap.size W1 W2) := by unfold Hid; rw [← HW2.out]; exact lb_alloc hb2 _
  have t0 : W2.cell? ⟨w2.heap.size, 0, none⟩ = some (.int .i64 0) := by rw [← HW2.out]; simp [go_sem]
  have t1 : W2.cell? ⟨w2.heap.size, 1, none⟩ = some (.int .i8 3) := by rw [← HW2.out]; simp [go_sem]
  have t2 : W2.cell? ⟨w2.heap.size, 2, none⟩ = some (.int .i8 0) := by rw [← HW2.out]; simp [go_sem]
  have z0 := lkeep HB2.out y0
  have u0 := lkeep HB2.out s0
  have u1 := lkeep HB2.out s1
  have u2 := lkeep HB2.out s2
  have CK := CK W2 (lb_trans HB1.out HB2.out)
  rw [HW2.out]
  clear HW2 C2 y0 y1 y2 s0 s1 s2 hb1 hb2
  have HBF : Hid (Below w.heap.size w W2) := lb_trans HB.out (lb_trans HB1.out HB2.out)
  go_wp2_with (go_at_call 8; refine CK.mono ?_; rintro e w3 ⟨rfl, hb3⟩)
  go_ret
  exact ⟨rfl, lb_trans HBF.out hb3⟩

end Go.Proofs.YtmlhnnmelopleaaGreatDoor
