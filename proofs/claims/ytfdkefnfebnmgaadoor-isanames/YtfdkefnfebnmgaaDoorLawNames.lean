/-
  The law IsaNames returns true for every op and every string; no condition.
-/
import Derived.Test.YtfdkefnfebnmgaaDoorWorks
import Derived.Test.YtfdkefnfebnmgaaDoorOf
import Derived.Test.YtfdkefnfebnmgaaDoorRefNames
namespace Go.Proofs.YtfdkefnfebnmgaaDoor
open Go.RowKit

set_option maxRecDepth 100000 in
set_option maxHeartbeats 1000000 in
theorem namesIn (op : Int) (s : ByteArray) (h0 : 0 ≤ op) (h1 : op ≤ 21) (h8 : op ≤ 127) (w : World) (hn : Nm w) : Calls Tryd.prog 3 #[.int .i8 op, .string s] w fun e w' => e = .returned (.bool true) ∧ Below w.heap.size w w' := by
  have CO : ∀ wx : World, Nm wx → Calls Tryd.prog 8 #[.string (nameB op)] wx fun e w' => e = .returned (.tuple #[.int .i8 op, .bool true]) ∧ Below wx.heap.size wx w' := fun wx hx => by
    have h := isaof_any (nameB op) wx hx
    rw [of_name op h0 h1] at h; exact h
  go_enter Tryd.func3, Tryd.ntmps3
  go_wp2_with fail
  refine (isahas_any op h8 _).mono ?_
  rintro e w1 ⟨rfl, hb1⟩
  have HB1 : Hid (Below w.heap.size w w1) := hb1
  clear hb1
  go_wp2_with fail
  refine (refhas_any op _).mono ?_
  rintro e w' ⟨rfl, rfl⟩
  go_wp2_with fail
  refine (isaof_any s _ (hn.below (bel_alloc (bel_alloc HB1.out _) _))).mono ?_
  rintro e w2 ⟨rfl, hb2⟩
  have f0 : w2.cell? ⟨w1.heap.size + 1, 0, none⟩ = some (.bool (hD op)) := cell_keep hb2 (by simp [go_sem])
  have f1 : w2.cell? ⟨w1.heap.size + 1, 1, none⟩ = some (.bool (hA op)) := cell_keep hb2 (by simp [go_sem])
  have f2 : w2.cell? ⟨w1.heap.size + 1, 2, none⟩ = some (.bool (hB op)) := cell_keep hb2 (by simp [go_sem])
  have f3 : w2.cell? ⟨w1.heap.size + 1, 3, none⟩ = some (.bool (hN op)) := cell_keep hb2 (by simp [go_sem])
  have f4 : w2.cell? ⟨w1.heap.size + 1, 4, none⟩ = some (.bool (hP op)) := cell_keep hb2 (by simp [go_sem])
  have HB2 : Hid (Below w.heap.size w w2) := bel_trans (bel_alloc (bel_alloc HB1.out _) _) hb2
  clear hb2 HB1
  go_wp2_with fail
  refine (refof_any s _).mono ?_
  rintro e w' ⟨rfl, rfl⟩
  go_wp2_with fail
  refine (isaname_any op h8 _ (hn.below HB2.out)).mono ?_
  rintro e w3 ⟨rfl, hb3⟩
  have g0 := cell_keep hb3 f0
  have g1 := cell_keep hb3 f1
  have g2 := cell_keep hb3 f2
  have g3 := cell_keep hb3 f3
  have g4 := cell_keep hb3 f4
  have HB3 : Hid (Below w.heap.size w w3) := bel_trans HB2.out hb3
  clear hb3 HB2 f0 f1 f2 f3 f4
  go_wp2_with fail
  refine (CO _ (hn.below HB3.out)).mono ?_
  rintro e w4 ⟨rfl, hb4⟩
  have f0 := cell_keep hb4 g0
  have f1 := cell_keep hb4 g1
  have f2 := cell_keep hb4 g2
  have f3 := cell_keep hb4 g3
  have f4 := cell_keep hb4 g4
  have HB4 : Hid (Below w.heap.size w w4) := bel_trans HB3.out hb4
  clear hb4 HB3 g0 g1 g2 g3 g4 CO
  go_wp2_with fail
  refine (isaname_any op h8 _ (hn.below HB4.out)).mono ?_
  rintro e w5 ⟨rfl, hb5⟩
  have g0 := cell_keep hb5 f0
  have g1 := cell_keep hb5 f1
  have g2 := cell_keep hb5 f2
  have g3 := cell_keep hb5 f3
  have g4 := cell_keep hb5 f4
  have HB5 : Hid (Below w.heap.size w w5) := bel_trans HB4.out hb5
  clear hb5 HB4 f0 f1 f2 f3 f4
  go_wp2_with fail
  refine (refname_any op _).mono ?_
  rintro e w' ⟨rfl, rfl⟩
  go_wp2_with fail
  refine (works_any _ (hn.below HB5.out)).mono ?_
  rintro e w6 ⟨rfl, hb6⟩
  go_wp2
  go_ret
  exact ⟨rfl, bel_trans HB5.out hb6⟩

set_option maxRecDepth 100000 in
set_option maxHeartbeats 1000000 in
theorem namesLo (op : Int) (s : ByteArray) (h0 : op < 0) (h8 : op ≤ 127) (w : World) (hn : Nm w) : Calls Tryd.prog 3 #[.int .i8 op, .string s] w fun e w' => e = .returned (.bool true) ∧ Below w.heap.size w w' := by
  have CO : ∀ wx : World, Nm wx → Calls Tryd.prog 8 #[.string (nameB op)] wx fun e w' => e = .returned (.tuple #[.int .i8 ((ofF (nameB op).data.toList).getD 0), .bool (ofF (nameB op).data.toList).isSome]) ∧ Below wx.heap.size wx w' := fun wx hx => isaof_any (nameB op) wx hx
  go_enter Tryd.func3, Tryd.ntmps3
  go_wp2_with fail
  refine (isahas_any op h8 _).mono ?_
  rintro e w1 ⟨rfl, hb1⟩
  have HB1 : Hid (Below w.heap.size w w1) := hb1
  clear hb1
  go_wp2_with fail
  refine (refhas_any op _).mono ?_
  rintro e w' ⟨rfl, rfl⟩
  go_wp2_with fail
  refine (isaof_any s _ (hn.below (bel_alloc (bel_alloc HB1.out _) _))).mono ?_
  rintro e w2 ⟨rfl, hb2⟩
  have f0 : w2.cell? ⟨w1.heap.size + 1, 0, none⟩ = some (.bool (hD op)) := cell_keep hb2 (by simp [go_sem])
  have f1 : w2.cell? ⟨w1.heap.size + 1, 1, none⟩ = some (.bool (hA op)) := cell_keep hb2 (by simp [go_sem])
  have f2 : w2.cell? ⟨w1.heap.size + 1, 2, none⟩ = some (.bool (hB op)) := cell_keep hb2 (by simp [go_sem])
  have f3 : w2.cell? ⟨w1.heap.size + 1, 3, none⟩ = some (.bool (hN op)) := cell_keep hb2 (by simp [go_sem])
  have f4 : w2.cell? ⟨w1.heap.size + 1, 4, none⟩ = some (.bool (hP op)) := cell_keep hb2 (by simp [go_sem])
  have HB2 : Hid (Below w.heap.size w w2) := bel_trans (bel_alloc (bel_alloc HB1.out _) _) hb2
  clear hb2 HB1
  go_wp2_with fail
  refine (refof_any s _).mono ?_
  rintro e w' ⟨rfl, rfl⟩
  go_wp2_with fail
  refine (isaname_any op h8 _ (hn.below HB2.out)).mono ?_
  rintro e w3 ⟨rfl, hb3⟩
  have g0 := cell_keep hb3 f0
  have g1 := cell_keep hb3 f1
  have g2 := cell_keep hb3 f2
  have g3 := cell_keep hb3 f3
  have g4 := cell_keep hb3 f4
  have HB3 : Hid (Below w.heap.size w w3) := bel_trans HB2.out hb3
  clear hb3 HB2 f0 f1 f2 f3 f4
  go_wp2_with fail
  refine (CO _ (hn.below HB3.out)).mono ?_
  rintro e w4 ⟨rfl, hb4⟩
  have f0 := cell_keep hb4 g0
  have f1 := cell_keep hb4 g1
  have f2 := cell_keep hb4 g2
  have f3 := cell_keep hb4 g3
  have f4 := cell_keep hb4 g4
  have HB4 : Hid (Below w.heap.size w w4) := bel_trans HB3.out hb4
  clear hb4 HB3 g0 g1 g2 g3 g4 CO
  go_wp2_with fail
  refine (isaname_any op h8 _ (hn.below HB4.out)).mono ?_
  rintro e w5 ⟨rfl, hb5⟩
  have g0 := cell_keep hb5 f0
  have g1 := cell_keep hb5 f1
  have g2 := cell_keep hb5 f2
  have g3 := cell_keep hb5 f3
  have g4 := cell_keep hb5 f4
  have HB5 : Hid (Below w.heap.size w w5) := bel_trans HB4.out hb5
  clear hb5 HB4 f0 f1 f2 f3 f4
  go_wp2_with fail
  refine (refname_any op _).mono ?_
  rintro e w' ⟨rfl, rfl⟩
  go_wp2_with fail
  refine (works_any _ (hn.below HB5.out)).mono ?_
  rintro e w6 ⟨rfl, hb6⟩
  go_wp2
  go_ret
  exact ⟨rfl, bel_trans HB5.out hb6⟩

set_option maxRecDepth 100000 in
set_option maxHeartbeats 1000000 in
theorem namesHi (op : Int) (s : ByteArray) (h0 : ¬ op < 0) (h1 : 21 < op) (h8 : op ≤ 127) (w : World) (hn : Nm w) : Calls Tryd.prog 3 #[.int .i8 op, .string s] w fun e w' => e = .returned (.bool true) ∧ Below w.heap.size w w' := by
  have CO : ∀ wx : World, Nm wx → Calls Tryd.prog 8 #[.string (nameB op)] wx fun e w' => e = .returned (.tuple #[.int .i8 ((ofF (nameB op).data.toList).getD 0), .bool (ofF (nameB op).data.toList).isSome]) ∧ Below wx.heap.size wx w' := fun wx hx => isaof_any (nameB op) wx hx
  go_enter Tryd.func3, Tryd.ntmps3
  go_wp2_with fail
  refine (isahas_any op h8 _).mono ?_
  rintro e w1 ⟨rfl, hb1⟩
  have HB1 : Hid (Below w.heap.size w w1) := hb1
  clear hb1
  go_wp2_with fail
  refine (refhas_any op _).mono ?_
  rintro e w' ⟨rfl, rfl⟩
  go_wp2_with fail
  refine (isaof_any s _ (hn.below (bel_alloc (bel_alloc HB1.out _) _))).mono ?_
  rintro e w2 ⟨rfl, hb2⟩
  have f0 : w2.cell? ⟨w1.heap.size + 1, 0, none⟩ = some (.bool (hD op)) := cell_keep hb2 (by simp [go_sem])
  have f1 : w2.cell? ⟨w1.heap.size + 1, 1, none⟩ = some (.bool (hA op)) := cell_keep hb2 (by simp [go_sem])
  have f2 : w2.cell? ⟨w1.heap.size + 1, 2, none⟩ = some (.bool (hB op)) := cell_keep hb2 (by simp [go_sem])
  have f3 : w2.cell? ⟨w1.heap.size + 1, 3, none⟩ = some (.bool (hN op)) := cell_keep hb2 (by simp [go_sem])
  have f4 : w2.cell? ⟨w1.heap.size + 1, 4, none⟩ = some (.bool (hP op)) := cell_keep hb2 (by simp [go_sem])
  have HB2 : Hid (Below w.heap.size w w2) := bel_trans (bel_alloc (bel_alloc HB1.out _) _) hb2
  clear hb2 HB1
  go_wp2_with fail
  refine (refof_any s _).mono ?_
  rintro e w' ⟨rfl, rfl⟩
  go_wp2_with fail
  refine (isaname_any op h8 _ (hn.below HB2.out)).mono ?_
  rintro e w3 ⟨rfl, hb3⟩
  have g0 := cell_keep hb3 f0
  have g1 := cell_keep hb3 f1
  have g2 := cell_keep hb3 f2
  have g3 := cell_keep hb3 f3
  have g4 := cell_keep hb3 f4
  have HB3 : Hid (Below w.heap.size w w3) := bel_trans HB2.out hb3
  clear hb3 HB2 f0 f1 f2 f3 f4
  go_wp2_with fail
  refine (CO _ (hn.below HB3.out)).mono ?_
  rintro e w4 ⟨rfl, hb4⟩
  have f0 := cell_keep hb4 g0
  have f1 := cell_keep hb4 g1
  have f2 := cell_keep hb4 g2
  have f3 := cell_keep hb4 g3
  have f4 := cell_keep hb4 g4
  have HB4 : Hid (Below w.heap.size w w4) := bel_trans HB3.out hb4
  clear hb4 HB3 g0 g1 g2 g3 g4 CO
  go_wp2_with fail
  refine (isaname_any op h8 _ (hn.below HB4.out)).mono ?_
  rintro e w5 ⟨rfl, hb5⟩
  have g0 := cell_keep hb5 f0
  have g1 := cell_keep hb5 f1
  have g2 := cell_keep hb5 f2
  have g3 := cell_keep hb5 f3
  have g4 := cell_keep hb5 f4
  have HB5 : Hid (Below w.heap.size w w5) := bel_trans HB4.out hb5
  clear hb5 HB4 f0 f1 f2 f3 f4
  go_wp2_with fail
  refine (refname_any op _).mono ?_
  rintro e w' ⟨rfl, rfl⟩
  go_wp2_with fail
  refine (works_any _ (hn.below HB5.out)).mono ?_
  rintro e w6 ⟨rfl, hb6⟩
  go_wp2
  go_ret
  exact ⟨rfl, bel_trans HB5.out hb6⟩

theorem lawNames (op : Int) (s : ByteArray) (h8 : op ≤ 127) (w : World) (hn : Nm w) : Calls Tryd.prog 3 #[.int .i8 op, .string s] w fun e w' => e = .returned (.bool true) ∧ Below w.heap.size w w' := by
  by_cases h0 : op < 0
  · exact namesLo op s h0 h8 w hn
  by_cases h1 : 21 < op
  · exact namesHi op s h0 h1 h8 w hn
  · exact namesIn op s (by omega) (by omega) h8 w hn

end Go.Proofs.YtfdkefnfebnmgaaDoor
