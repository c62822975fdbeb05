/-
  The law IsaEncodes returns true for every instruction and every place; no condition.
-/
import Derived.Test.YtfdkefnfebnmgaaDoorWorks
import Derived.StillTactics
import Derived.Laws.Pointers
import Derived.Deep.RegionHeld3
import Derived.Deep.QuietTactic
import Derived.BigQuiet
import Derived.WalkSmall
namespace Go.Proofs.YtfdkefnfebnmgaaDoor
open Go.RowKit

set_option maxRecDepth 100000 in
set_option maxHeartbeats 1000000 in
theorem encYY (op d a b n p V X : Int) (w : World) (hn : Nm w) (CE : ∀ wx : World, Calls Tryd.prog 21 #[.agg #[.int .i8 op, .int .i8 d, .int .i8 a, .int .i8 b, .int .i64 n]] wx fun e w' => e = .returned (.tuple #[.int .u32 V, .int .i64 0]) ∧ Below wx.heap.size wx w') (RE : ∀ wx : World, Calls Tryd.prog 22 #[.agg #[.int .i8 op, .int .i8 d, .int .i8 a, .int .i8 b, .int .i64 n]] wx fun e w' => e = .returned (.tuple #[.int .u32 V, .int .i64 0]) ∧ Below wx.heap.size wx w') (CD : ∀ wx : World, Calls Tryd.prog 13 #[.int .u32 V] wx fun e w' => e = .returned (.agg #[.int .i8 op, .int .i8 d, .int .i8 a, .int .i8 b, .int .i64 n]) ∧ Below wx.heap.size wx w') (CA : ∀ wx : World, Calls Tryd.prog 23 #[.int .u32 V, .int .i64 p] wx fun e w' => e = .returned (.tuple #[.int .u32 X, .int .i64 0]) ∧ Below wx.heap.size wx w') (RA : ∀ wx : World, Calls Tryd.prog 24 #[.int .u32 V, .int .i64 p] wx fun e w' => e = .returned (.tuple #[.int .u32 X, .int .i64 0]) ∧ Below wx.heap.size wx w') (CT : ∀ wx : World, Calls Tryd.prog 14 #[.int .u32 X] wx fun e w' => e = .returned (.tuple #[.int .i64 p, .bool true]) ∧ Below wx.heap.size wx w') : Calls Tryd.prog 5 #[.agg #[.int .i8 op, .int .i8 d, .int .i8 a, .int .i8 b, .int .i64 n], .int .i64 p] w fun e w' => e = .returned (.bool true) ∧ Below w.heap.size w w' := by
  go_enter Tryd.func5, Tryd.ntmps5
  go_wp2_with fail
  refine (CE _).mono ?_
  rintro e w1 ⟨rfl, hb1⟩
  have f0 : w1.cell? ⟨w.heap.size, 0, none⟩ = some (.int .i8 op) := cell_keep hb1 (by simp [go_sem])
  have f1 : w1.cell? ⟨w.heap.size, 1, none⟩ = some (.int .i8 d) := cell_keep hb1 (by simp [go_sem])
  have f2 : w1.cell? ⟨w.heap.size, 2, none⟩ = some (.int .i8 a) := cell_keep hb1 (by simp [go_sem])
  have f3 : w1.cell? ⟨w.heap.size, 3, none⟩ = some (.int .i8 b) := cell_keep hb1 (by simp [go_sem])
  have f4 : w1.cell? ⟨w.heap.size, 4, none⟩ = some (.int .i64 n) := cell_keep hb1 (by simp [go_sem])
  have B1 : Below w.heap.size w w1 := bel_trans (bel_alloc (Below.refl _ _) _) hb1
  clear hb1
  go_wp2_with fail
  refine (RE _).mono ?_
  rintro e w2 ⟨rfl, hb2⟩
  have g0 := cell_keep hb2 f0
  have g1 := cell_keep hb2 f1
  have g2 := cell_keep hb2 f2
  have g3 := cell_keep hb2 f3
  have g4 := cell_keep hb2 f4
  have HB0 : Hid (Below w.heap.size w w2) := bel_trans B1 hb2
  have B2 : Below w.heap.size w w2.drew := (bel_trans B1 hb2).drew
  clear hb2 B1 f0 f1 f2 f3 f4 CE RE
  go_wp2_with fail
  go_region_held3 (fun W => W.cell? ⟨w.heap.size, 0, none⟩ = some (.int .i8 op) ∧ W.cell? ⟨w.heap.size, 1, none⟩ = some (.int .i8 d) ∧ W.cell? ⟨w.heap.size, 2, none⟩ = some (.int .i8 a) ∧ W.cell? ⟨w.heap.size, 3, none⟩ = some (.int .i8 b) ∧ W.cell? ⟨w.heap.size, 4, none⟩ = some (.int .i64 n) ∧ Below w.heap.size w W) (first | (refine ⟨cell_keep hb ?_, cell_keep hb ?_, cell_keep hb ?_, cell_keep hb ?_, cell_keep hb ?_, bel_trans ?_ hb⟩ <;> (simp [*]; done)) | (simp [*]; done))
    (first
      | (go_at_call 13; refine (CD _).mono ?_; rintro e w4 ⟨rfl, hb⟩))
  rename_i hS
  obtain ⟨_, _, _, _, _, sB⟩ := hS
  have HB : Hid (Below w.heap.size w w4) := sB
  clear sB CD
  go_wp2_with fail
  refine (CA _).mono ?_
  rintro e w5 ⟨rfl, hb5⟩
  go_wp2_with fail
  refine (RA _).mono ?_
  rintro e w6 ⟨rfl, hb6⟩
  go_wp2_with fail
  refine (CT _).mono ?_
  rintro e w7 ⟨rfl, hb7⟩
  go_wp2_with fail
  refine (works_any _ (hn.below (bel_trans (bel_trans (bel_trans (HB.out) hb5) hb6) hb7))).mono ?_
  rintro e w8 ⟨rfl, hb8⟩
  go_wp2
  go_ret
  exact ⟨rfl, bel_trans (bel_trans (bel_trans (bel_trans (HB.out) hb5) hb6) hb7) hb8⟩

set_option maxRecDepth 100000 in
set_option maxHeartbeats 1000000 in
theorem encYN (op d a b n p V X E2 : Int) (hE2 : (E2 == 0) = false) (w : World) (hn : Nm w) (CE : ∀ wx : World, Calls Tryd.prog 21 #[.agg #[.int .i8 op, .int .i8 d, .int .i8 a, .int .i8 b, .int .i64 n]] wx fun e w' => e = .returned (.tuple #[.int .u32 V, .int .i64 0]) ∧ Below wx.heap.size wx w') (RE : ∀ wx : World, Calls Tryd.prog 22 #[.agg #[.int .i8 op, .int .i8 d, .int .i8 a, .int .i8 b, .int .i64 n]] wx fun e w' => e = .returned (.tuple #[.int .u32 V, .int .i64 0]) ∧ Below wx.heap.size wx w') (CD : ∀ wx : World, Calls Tryd.prog 13 #[.int .u32 V] wx fun e w' => e = .returned (.agg #[.int .i8 op, .int .i8 d, .int .i8 a, .int .i8 b, .int .i64 n]) ∧ Below wx.heap.size wx w') (CA : ∀ wx : World, Calls Tryd.prog 23 #[.int .u32 V, .int .i64 p] wx fun e w' => e = .returned (.tuple #[.int .u32 X, .int .i64 E2]) ∧ Below wx.heap.size wx w') (RA : ∀ wx : World, Calls Tryd.prog 24 #[.int .u32 V, .int .i64 p] wx fun e w' => e = .returned (.tuple #[.int .u32 X, .int .i64 E2]) ∧ Below wx.heap.size wx w') : Calls Tryd.prog 5 #[.agg #[.int .i8 op, .int .i8 d, .int .i8 a, .int .i8 b, .int .i64 n], .int .i64 p] w fun e w' => e = .returned (.bool true) ∧ Below w.heap.size w w' := by
  go_enter Tryd.func5, Tryd.ntmps5
  go_wp2_with fail
  refine (CE _).mono ?_
  rintro e w1 ⟨rfl, hb1⟩
  have f0 : w1.cell? ⟨w.heap.size, 0, none⟩ = some (.int .i8 op) := cell_keep hb1 (by simp [go_sem])
  have f1 : w1.cell? ⟨w.heap.size, 1, none⟩ = some (.int .i8 d) := cell_keep hb1 (by simp [go_sem])
  have f2 : w1.cell? ⟨w.heap.size, 2, none⟩ = some (.int .i8 a) := cell_keep hb1 (by simp [go_sem])
  have f3 : w1.cell? ⟨w.heap.size, 3, none⟩ = some (.int .i8 b) := cell_keep hb1 (by simp [go_sem])
  have f4 : w1.cell? ⟨w.heap.size, 4, none⟩ = some (.int .i64 n) := cell_keep hb1 (by simp [go_sem])
  have B1 : Below w.heap.size w w1 := bel_trans (bel_alloc (Below.refl _ _) _) hb1
  clear hb1
  go_wp2_with fail
  refine (RE _).mono ?_
  rintro e w2 ⟨rfl, hb2⟩
  have g0 := cell_keep hb2 f0
  have g1 := cell_keep hb2 f1
  have g2 := cell_keep hb2 f2
  have g3 := cell_keep hb2 f3
  have g4 := cell_keep hb2 f4
  have HB0 : Hid (Below w.heap.size w w2) := bel_trans B1 hb2
  have B2 : Below w.heap.size w w2.drew := (bel_trans B1 hb2).drew
  clear hb2 B1 f0 f1 f2 f3 f4 CE RE
  go_wp2_with fail
  go_region_held3 (fun W => W.cell? ⟨w.heap.size, 0, none⟩ = some (.int .i8 op) ∧ W.cell? ⟨w.heap.size, 1, none⟩ = some (.int .i8 d) ∧ W.cell? ⟨w.heap.size, 2, none⟩ = some (.int .i8 a) ∧ W.cell? ⟨w.heap.size, 3, none⟩ = some (.int .i8 b) ∧ W.cell? ⟨w.heap.size, 4, none⟩ = some (.int .i64 n) ∧ Below w.heap.size w W) (first | (refine ⟨cell_keep hb ?_, cell_keep hb ?_, cell_keep hb ?_, cell_keep hb ?_, cell_keep hb ?_, bel_trans ?_ hb⟩ <;> (simp [*]; done)) | (simp [*]; done))
    (first
      | (go_at_call 13; refine (CD _).mono ?_; rintro e w4 ⟨rfl, hb⟩))
  rename_i hS
  obtain ⟨_, _, _, _, _, sB⟩ := hS
  have HB : Hid (Below w.heap.size w w4) := sB
  clear sB CD
  go_wp2_with fail
  refine (CA _).mono ?_
  rintro e w5 ⟨rfl, hb5⟩
  go_wp2_with fail
  refine (RA _).mono ?_
  rintro e w6 ⟨rfl, hb6⟩
  go_wp2_with fail
  refine (works_any _ (hn.below (bel_trans (bel_trans (HB.out) hb5) hb6))).mono ?_
  rintro e w8 ⟨rfl, hb8⟩
  go_wp2
  go_ret
  exact ⟨rfl, bel_trans (bel_trans (bel_trans (HB.out) hb5) hb6) hb8⟩

set_option maxRecDepth 100000 in
set_option maxHeartbeats 1000000 in
theorem encNY (op d a b n p V X E : Int) (hE : (E == 0) = false) (w : World) (hn : Nm w) (CE : ∀ wx : World, Calls Tryd.prog 21 #[.agg #[.int .i8 op, .int .i8 d, .int .i8 a, .int .i8 b, .int .i64 n]] wx fun e w' => e = .returned (.tuple #[.int .u32 V, .int .i64 E]) ∧ Below wx.heap.size wx w') (RE : ∀ wx : World, Calls Tryd.prog 22 #[.agg #[.int .i8 op, .int .i8 d, .int .i8 a, .int .i8 b, .int .i64 n]] wx fun e w' => e = .returned (.tuple #[.int .u32 V, .int .i64 E]) ∧ Below wx.heap.size wx w') (CA : ∀ wx : World, Calls Tryd.prog 23 #[.int .u32 V, .int .i64 p] wx fun e w' => e = .returned (.tuple #[.int .u32 X, .int .i64 0]) ∧ Below wx.heap.size wx w') (RA : ∀ wx : World, Calls Tryd.prog 24 #[.int .u32 V, .int .i64 p] wx fun e w' => e = .returned (.tuple #[.int .u32 X, .int .i64 0]) ∧ Below wx.heap.size wx w') (CT : ∀ wx : World, Calls Tryd.prog 14 #[.int .u32 X] wx fun e w' => e = .returned (.tuple #[.int .i64 p, .bool true]) ∧ Below wx.heap.size wx w') : Calls Tryd.prog 5 #[.agg #[.int .i8 op, .int .i8 d, .int .i8 a, .int .i8 b, .int .i64 n], .int .i64 p] w fun e w' => e = .returned (.bool true) ∧ Below w.heap.size w w' := by
  go_enter Tryd.func5, Tryd.ntmps5
  go_wp2_with fail
  refine (CE _).mono ?_
  rintro e w1 ⟨rfl, hb1⟩
  have f0 : w1.cell? ⟨w.heap.size, 0, none⟩ = some (.int .i8 op) := cell_keep hb1 (by simp [go_sem])
  have f1 : w1.cell? ⟨w.heap.size, 1, none⟩ = some (.int .i8 d) := cell_keep hb1 (by simp [go_sem])
  have f2 : w1.cell? ⟨w.heap.size, 2, none⟩ = some (.int .i8 a) := cell_keep hb1 (by simp [go_sem])
  have f3 : w1.cell? ⟨w.heap.size, 3, none⟩ = some (.int .i8 b) := cell_keep hb1 (by simp [go_sem])
  have f4 : w1.cell? ⟨w.heap.size, 4, none⟩ = some (.int .i64 n) := cell_keep hb1 (by simp [go_sem])
  have B1 : Below w.heap.size w w1 := bel_trans (bel_alloc (Below.refl _ _) _) hb1
  clear hb1
  go_wp2_with fail
  refine (RE _).mono ?_
  rintro e w2 ⟨rfl, hb2⟩
  have g0 := cell_keep hb2 f0
  have g1 := cell_keep hb2 f1
  have g2 := cell_keep hb2 f2
  have g3 := cell_keep hb2 f3
  have g4 := cell_keep hb2 f4
  have HB0 : Hid (Below w.heap.size w w2) := bel_trans B1 hb2
  have B2 : Below w.heap.size w w2.drew := (bel_trans B1 hb2).drew
  clear hb2 B1 f0 f1 f2 f3 f4 CE RE
  go_wp2_with fail
  go_quiet (fail)
  have HB : Hid (Below w.heap.size w w2) := HB0.out
  clear B2 HB0
  go_wp2_with fail
  refine (CA _).mono ?_
  rintro e w5 ⟨rfl, hb5⟩
  go_wp2_with fail
  refine (RA _).mono ?_
  rintro e w6 ⟨rfl, hb6⟩
  go_wp2_with fail
  refine (CT _).mono ?_
  rintro e w7 ⟨rfl, hb7⟩
  go_wp2_with fail
  refine (works_any _ (hn.below (bel_trans (bel_trans (bel_trans (below_drewN HB.out _) hb5) hb6) hb7))).mono ?_
  rintro e w8 ⟨rfl, hb8⟩
  go_wp2
  go_ret
  exact ⟨rfl, bel_trans (bel_trans (bel_trans (bel_trans (below_drewN HB.out _) hb5) hb6) hb7) hb8⟩

set_option maxRecDepth 100000 in
set_option maxHeartbeats 1000000 in
theorem encNN (op d a b n p V X E E2 : Int) (hE : (E == 0) = false) (hE2 : (E2 == 0) = false) (w : World) (hn : Nm w) (CE : ∀ wx : World, Calls Tryd.prog 21 #[.agg #[.int .i8 op, .int .i8 d, .int .i8 a, .int .i8 b, .int .i64 n]] wx fun e w' => e = .returned (.tuple #[.int .u32 V, .int .i64 E]) ∧ Below wx.heap.size wx w') (RE : ∀ wx : World, Calls Tryd.prog 22 #[.agg #[.int .i8 op, .int .i8 d, .int .i8 a, .int .i8 b, .int .i64 n]] wx fun e w' => e = .returned (.tuple #[.int .u32 V, .int .i64 E]) ∧ Below wx.heap.size wx w') (CA : ∀ wx : World, Calls Tryd.prog 23 #[.int .u32 V, .int .i64 p] wx fun e w' => e = .returned (.tuple #[.int .u32 X, .int .i64 E2]) ∧ Below wx.heap.size wx w') (RA : ∀ wx : World, Calls Tryd.prog 24 #[.int .u32 V, .int .i64 p] wx fun e w' => e = .returned (.tuple #[.int .u32 X, .int .i64 E2]) ∧ Below wx.heap.size wx w') : Calls Tryd.prog 5 #[.agg #[.int .i8 op, .int .i8 d, .int .i8 a, .int .i8 b, .int .i64 n], .int .i64 p] w fun e w' => e = .returned (.bool true) ∧ Below w.heap.size w w' := by
  go_enter Tryd.func5, Tryd.ntmps5
  go_wp2_with fail
  refine (CE _).mono ?_
  rintro e w1 ⟨rfl, hb1⟩
  have f0 : w1.cell? ⟨w.heap.size, 0, none⟩ = some (.int .i8 op) := cell_keep hb1 (by simp [go_sem])
  have f1 : w1.cell? ⟨w.heap.size, 1, none⟩ = some (.int .i8 d) := cell_keep hb1 (by simp [go_sem])
  have f2 : w1.cell? ⟨w.heap.size, 2, none⟩ = some (.int .i8 a) := cell_keep hb1 (by simp [go_sem])
  have f3 : w1.cell? ⟨w.heap.size, 3, none⟩ = some (.int .i8 b) := cell_keep hb1 (by simp [go_sem])
  have f4 : w1.cell? ⟨w.heap.size, 4, none⟩ = some (.int .i64 n) := cell_keep hb1 (by simp [go_sem])
  have B1 : Below w.heap.size w w1 := bel_trans (bel_alloc (Below.refl _ _) _) hb1
  clear hb1
  go_wp2_with fail
  refine (RE _).mono ?_
  rintro e w2 ⟨rfl, hb2⟩
  have g0 := cell_keep hb2 f0
  have g1 := cell_keep hb2 f1
  have g2 := cell_keep hb2 f2
  have g3 := cell_keep hb2 f3
  have g4 := cell_keep hb2 f4
  have HB0 : Hid (Below w.heap.size w w2) := bel_trans B1 hb2
  have B2 : Below w.heap.size w w2.drew := (bel_trans B1 hb2).drew
  clear hb2 B1 f0 f1 f2 f3 f4 CE RE
  go_wp2_with fail
  go_quiet (fail)
  have HB : Hid (Below w.heap.size w w2) := HB0.out
  clear B2 HB0
  go_wp2_with fail
  refine (CA _).mono ?_
  rintro e w5 ⟨rfl, hb5⟩
  go_wp2_with fail
  refine (RA _).mono ?_
  rintro e w6 ⟨rfl, hb6⟩
  go_wp2_with fail
  refine (works_any _ (hn.below (bel_trans (bel_trans (below_drewN HB.out _) hb5) hb6))).mono ?_
  rintro e w8 ⟨rfl, hb8⟩
  go_wp2
  go_ret
  exact ⟨rfl, bel_trans (bel_trans (bel_trans (below_drewN HB.out _) hb5) hb6) hb8⟩

theorem lawEncodes (op d a b n p : Int) (h8 : op ≤ 127) (w : World) (hn : Nm w) : Calls Tryd.prog 5 #[.agg #[.int .i8 op, .int .i8 d, .int .i8 a, .int .i8 b, .int .i64 n], .int .i64 p] w fun e w' => e = .returned (.bool true) ∧ Below w.heap.size w w' := by
  obtain ⟨r0, r1⟩ := enc_range op d a b n
  obtain ⟨q0, q1⟩ := aim_range (encV op d a b n) p
  have CE := isaencode_any op d a b n h8
  have RE := refencode_any op d a b n
  have CD := isadecode_any (encV op d a b n) r0 r1
  have CA := isaaim_any (encV op d a b n) p r0 r1
  have RA := refaim_any (encV op d a b n) p r0 r1
  have CT := isatarget_any (aimV (encV op d a b n) p) q0 q1
  by_cases hE : encE op d a b n = 0
  · obtain ⟨e1, e2, e3, e4, e5⟩ := dec_enc hE
    rw [e1, e2, e3, e4, e5] at CD
    rw [hE] at CE RE
    by_cases hA : aimE (encV op d a b n) p = 0
    · rw [(aim_target hA).1, (aim_target hA).2] at CT
      rw [hA] at CA RA
      exact encYY op d a b n p _ _ w hn CE RE CD CA RA CT
    · exact encYN op d a b n p _ _ _ (by simpa using hA) w hn CE RE CD CA RA
  · by_cases hA : aimE (encV op d a b n) p = 0
    · rw [(aim_target hA).1, (aim_target hA).2] at CT
      rw [hA] at CA RA
      exact encNY op d a b n p _ _ _ (by simpa using hE) w hn CE RE CA RA CT
    · exact encNN op d a b n p _ _ _ _ (by simpa using hE) (by simpa using hA) w hn CE RE CA RA

end Go.Proofs.YtfdkefnfebnmgaaDoor
