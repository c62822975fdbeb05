/-
  The law IsaWords returns true for every word of 32 bits; no other condition.
-/
import Derived.Test.YtfdkefnfebnmgaaDoorWorks
import Derived.StillTactics
import Derived.Laws.Pointers
import Derived.Deep.RegionHeld3
namespace Go.Proofs.YtfdkefnfebnmgaaDoor
open Go.RowKit

set_option maxRecDepth 100000 in
set_option maxHeartbeats 1000000 in
theorem wordsYes (v x d a b n tv : Int) (y z tb : Bool) (hx : 0 ≤ x) (w : World) (hn : Nm w) (CD : ∀ wx : World, Calls Tryd.prog 13 #[.int .u32 v] wx fun e w' => e = .returned (.agg #[.int .i8 x, .int .i8 d, .int .i8 a, .int .i8 b, .int .i64 n]) ∧ Below wx.heap.size wx w') (RD : ∀ wx : World, Calls Tryd.prog 16 #[.int .u32 v] wx fun e w' => e = .returned (.agg #[.int .i8 x, .int .i8 d, .int .i8 a, .int .i8 b, .int .i64 n]) ∧ Below wx.heap.size wx w') (CT : ∀ wx : World, Calls Tryd.prog 14 #[.int .u32 v] wx fun e w' => e = .returned (.tuple #[.int .i64 tv, .bool tb]) ∧ Below wx.heap.size wx w') (RT : ∀ wx : World, Calls Tryd.prog 15 #[.int .u32 v] wx fun e w' => e = .returned (.tuple #[.int .i64 tv, .bool tb]) ∧ Below wx.heap.size wx w') (CN : ∀ wx : World, Calls Tryd.prog 17 #[.int .u32 v] wx fun e w' => e = .returned (.bool y) ∧ Below wx.heap.size wx w') (RN : ∀ wx : World, Calls Tryd.prog 18 #[.int .u32 v] wx fun e w' => e = .returned (.bool y) ∧ Below wx.heap.size wx w') (CF : ∀ wx : World, Calls Tryd.prog 19 #[.int .u32 v] wx fun e w' => e = .returned (.bool z) ∧ Below wx.heap.size wx w') (RF : ∀ wx : World, Calls Tryd.prog 20 #[.int .u32 v] wx fun e w' => e = .returned (.bool z) ∧ Below wx.heap.size wx w') (CE : ∀ wx : World, Calls Tryd.prog 21 #[.agg #[.int .i8 x, .int .i8 d, .int .i8 a, .int .i8 b, .int .i64 n]] wx fun e w' => e = .returned (.tuple #[.int .u32 v, .int .i64 0]) ∧ Below wx.heap.size wx w') : Calls Tryd.prog 4 #[.int .u32 v] w fun e w' => e = .returned (.bool true) ∧ Below w.heap.size w w' := by
  go_enter Tryd.func4, Tryd.ntmps4
  go_wp2_with fail
  refine (CD _).mono ?_
  rintro e w1 ⟨rfl, hb1⟩
  go_wp2_with fail
  refine (CT _).mono ?_
  rintro e w2 ⟨rfl, hb2⟩
  have f0 : w2.cell? ⟨w1.heap.size, 0, none⟩ = some (.int .i8 x) := cell_keep hb2 (by simp [go_sem])
  have f1 : w2.cell? ⟨w1.heap.size, 1, none⟩ = some (.int .i8 d) := cell_keep hb2 (by simp [go_sem])
  have f2 : w2.cell? ⟨w1.heap.size, 2, none⟩ = some (.int .i8 a) := cell_keep hb2 (by simp [go_sem])
  have f3 : w2.cell? ⟨w1.heap.size, 3, none⟩ = some (.int .i8 b) := cell_keep hb2 (by simp [go_sem])
  have f4 : w2.cell? ⟨w1.heap.size, 4, none⟩ = some (.int .i64 n) := cell_keep hb2 (by simp [go_sem])
  have B2 : Below w.heap.size w w2 := bel_trans (bel_alloc hb1 _) hb2
  clear hb1 hb2
  go_wp2_with fail
  refine (RT _).mono ?_
  rintro e w3 ⟨rfl, hb3⟩
  have g0 := cell_keep hb3 f0
  have g1 := cell_keep hb3 f1
  have g2 := cell_keep hb3 f2
  have g3 := cell_keep hb3 f3
  have g4 := cell_keep hb3 f4
  have B3 : Below w.heap.size w w3.drew := (bel_trans B2 hb3).drew
  clear hb3 B2 f0 f1 f2 f3 f4 CD CT RT
  go_wp2_with fail
  go_region_held3 (fun W => W.cell? ⟨w1.heap.size, 0, none⟩ = some (.int .i8 x) ∧ W.cell? ⟨w1.heap.size, 1, none⟩ = some (.int .i8 d) ∧ W.cell? ⟨w1.heap.size, 2, none⟩ = some (.int .i8 a) ∧ W.cell? ⟨w1.heap.size, 3, none⟩ = some (.int .i8 b) ∧ W.cell? ⟨w1.heap.size, 4, none⟩ = some (.int .i64 n) ∧ Below w.heap.size w W) (first | (refine ⟨cell_keep hb ?_, cell_keep hb ?_, cell_keep hb ?_, cell_keep hb ?_, cell_keep hb ?_, bel_trans ?_ hb⟩ <;> (simp [*]; done)) | (simp [*]; done))
    (first
      | (go_at_call 16; refine (RD _).mono ?_; rintro e w4 ⟨rfl, hb⟩)
      | (go_at_call 17; refine (CN _).mono ?_; rintro e w4 ⟨rfl, hb⟩)
      | (go_at_call 18; refine (RN _).mono ?_; rintro e w4 ⟨rfl, hb⟩)
      | (go_at_call 19; refine (CF _).mono ?_; rintro e w4 ⟨rfl, hb⟩)
      | (go_at_call 20; refine (RF _).mono ?_; rintro e w4 ⟨rfl, hb⟩))
  rename_i hS
  obtain ⟨s0, s1, s2, s3, s4, sB⟩ := hS
  go_wp2_with fail
  refine (CE _).mono ?_
  rintro e w5 ⟨rfl, hb5⟩
  have t0 := cell_keep hb5 s0
  have B5 := bel_trans sB hb5
  have HB5 : Hid (Below w.heap.size w w5) := B5
  clear s0 s1 s2 s3 s4 sB hb5 B5
  go_wp2_with fail
  refine (works_any _ (hn.below HB5.out)).mono ?_
  rintro e w6 ⟨rfl, hb6⟩
  go_wp2
  go_ret
  exact ⟨rfl, bel_trans HB5.out hb6⟩

set_option maxRecDepth 100000 in
set_option maxHeartbeats 1000000 in
theorem wordsNo (v d a b n tv : Int) (y z tb : Bool) (w : World) (hn : Nm w) (CD : ∀ wx : World, Calls Tryd.prog 13 #[.int .u32 v] wx fun e w' => e = .returned (.agg #[.int .i8 (-1), .int .i8 d, .int .i8 a, .int .i8 b, .int .i64 n]) ∧ Below wx.heap.size wx w') (RD : ∀ wx : World, Calls Tryd.prog 16 #[.int .u32 v] wx fun e w' => e = .returned (.agg #[.int .i8 (-1), .int .i8 d, .int .i8 a, .int .i8 b, .int .i64 n]) ∧ Below wx.heap.size wx w') (CT : ∀ wx : World, Calls Tryd.prog 14 #[.int .u32 v] wx fun e w' => e = .returned (.tuple #[.int .i64 tv, .bool tb]) ∧ Below wx.heap.size wx w') (RT : ∀ wx : World, Calls Tryd.prog 15 #[.int .u32 v] wx fun e w' => e = .returned (.tuple #[.int .i64 tv, .bool tb]) ∧ Below wx.heap.size wx w') (CN : ∀ wx : World, Calls Tryd.prog 17 #[.int .u32 v] wx fun e w' => e = .returned (.bool y) ∧ Below wx.heap.size wx w') (RN : ∀ wx : World, Calls Tryd.prog 18 #[.int .u32 v] wx fun e w' => e = .returned (.bool y) ∧ Below wx.heap.size wx w') (CF : ∀ wx : World, Calls Tryd.prog 19 #[.int .u32 v] wx fun e w' => e = .returned (.bool z) ∧ Below wx.heap.size wx w') (RF : ∀ wx : World, Calls Tryd.prog 20 #[.int .u32 v] wx fun e w' => e = .returned (.bool z) ∧ Below wx.heap.size wx w') (CE : ∀ wx : World, Calls Tryd.prog 21 #[.agg #[.int .i8 (-1), .int .i8 d, .int .i8 a, .int .i8 b, .int .i64 n]] wx fun e w' => e = .returned (.tuple #[.int .u32 0, .int .i64 10]) ∧ Below wx.heap.size wx w') : Calls Tryd.prog 4 #[.int .u32 v] w fun e w' => e = .returned (.bool true) ∧ Below w.heap.size w w' := by
  go_enter Tryd.func4, Tryd.ntmps4
  go_wp2_with fail
  refine (CD _).mono ?_
  rintro e w1 ⟨rfl, hb1⟩
  go_wp2_with fail
  refine (CT _).mono ?_
  rintro e w2 ⟨rfl, hb2⟩
  have f0 : w2.cell? ⟨w1.heap.size, 0, none⟩ = some (.int .i8 (-1)) := cell_keep hb2 (by simp [go_sem])
  have f1 : w2.cell? ⟨w1.heap.size, 1, none⟩ = some (.int .i8 d) := cell_keep hb2 (by simp [go_sem])
  have f2 : w2.cell? ⟨w1.heap.size, 2, none⟩ = some (.int .i8 a) := cell_keep hb2 (by simp [go_sem])
  have f3 : w2.cell? ⟨w1.heap.size, 3, none⟩ = some (.int .i8 b) := cell_keep hb2 (by simp [go_sem])
  have f4 : w2.cell? ⟨w1.heap.size, 4, none⟩ = some (.int .i64 n) := cell_keep hb2 (by simp [go_sem])
  have B2 : Below w.heap.size w w2 := bel_trans (bel_alloc hb1 _) hb2
  clear hb1 hb2
  go_wp2_with fail
  refine (RT _).mono ?_
  rintro e w3 ⟨rfl, hb3⟩
  have g0 := cell_keep hb3 f0
  have g1 := cell_keep hb3 f1
  have g2 := cell_keep hb3 f2
  have g3 := cell_keep hb3 f3
  have g4 := cell_keep hb3 f4
  have B3 : Below w.heap.size w w3.drew := (bel_trans B2 hb3).drew
  clear hb3 B2 f0 f1 f2 f3 f4 CD CT RT
  go_wp2_with fail
  go_region_held3 (fun W => W.cell? ⟨w1.heap.size, 0, none⟩ = some (.int .i8 (-1)) ∧ W.cell? ⟨w1.heap.size, 1, none⟩ = some (.int .i8 d) ∧ W.cell? ⟨w1.heap.size, 2, none⟩ = some (.int .i8 a) ∧ W.cell? ⟨w1.heap.size, 3, none⟩ = some (.int .i8 b) ∧ W.cell? ⟨w1.heap.size, 4, none⟩ = some (.int .i64 n) ∧ Below w.heap.size w W) (first | (refine ⟨cell_keep hb ?_, cell_keep hb ?_, cell_keep hb ?_, cell_keep hb ?_, cell_keep hb ?_, bel_trans ?_ hb⟩ <;> (simp [*]; done)) | (simp [*]; done))
    (first
      | (go_at_call 16; refine (RD _).mono ?_; rintro e w4 ⟨rfl, hb⟩)
      | (go_at_call 17; refine (CN _).mono ?_; rintro e w4 ⟨rfl, hb⟩)
      | (go_at_call 18; refine (RN _).mono ?_; rintro e w4 ⟨rfl, hb⟩)
      | (go_at_call 19; refine (CF _).mono ?_; rintro e w4 ⟨rfl, hb⟩)
      | (go_at_call 20; refine (RF _).mono ?_; rintro e w4 ⟨rfl, hb⟩))
  rename_i hS
  obtain ⟨s0, s1, s2, s3, s4, sB⟩ := hS
  go_wp2_with fail
  refine (CE _).mono ?_
  rintro e w5 ⟨rfl, hb5⟩
  have t0 := cell_keep hb5 s0
  have B5 := bel_trans sB hb5
  have HB5 : Hid (Below w.heap.size w w5) := B5
  clear s0 s1 s2 s3 s4 sB hb5 B5
  go_wp2_with fail
  refine (works_any _ (hn.below HB5.out)).mono ?_
  rintro e w6 ⟨rfl, hb6⟩
  go_wp2
  go_ret
  exact ⟨rfl, bel_trans HB5.out hb6⟩

theorem lawWords (v : Int) (h0 : 0 ≤ v) (h1 : v < 4294967296) (w : World) (hn : Nm w) : Calls Tryd.prog 4 #[.int .u32 v] w fun e w' => e = .returned (.bool true) ∧ Below w.heap.size w w' := by
  cases hI : isIns v with
  | true =>
    exact wordsYes v (dOp v) (dD v) (dA v) (dB v) (dN v) (tgV v) (endsB (dOp v)) (!endsB (dOp v) || dOp v == 16) (isT v) (dOp_yes h0 hI) w hn (isadecode_any v h0 h1) (refdecode_any v h0 h1) (isatarget_any v h0 h1) (reftarget_any v h0 h1) (isaends_any v h0 h1) (refends_any v h0 h1) (isafalls_any v h0 h1) (reffalls_any v h0 h1)
      (fun wx => by have h := isaencode_any (dOp v) (dD v) (dA v) (dB v) (dN v) (by have := dOp_le h1; omega) wx; rw [(word_yes h0 h1 hI).1, (word_yes h0 h1 hI).2] at h; exact h)
  | false =>
    have e := dOp_no hI
    have D := isadecode_any v h0 h1
    have R := refdecode_any v h0 h1
    have E : ∀ wx : World, Calls Tryd.prog 21 #[.agg #[.int .i8 (dOp v), .int .i8 (dD v), .int .i8 (dA v), .int .i8 (dB v), .int .i64 (dN v)]] wx fun e w' => e = .returned (.tuple #[.int .u32 0, .int .i64 10]) ∧ Below wx.heap.size wx w' := fun wx => by
      have h := isaencode_any (dOp v) (dD v) (dA v) (dB v) (dN v) (by have := dOp_le h1; omega) wx
      rw [(word_no hI).1, (word_no hI).2] at h; exact h
    rw [e] at D R E
    exact wordsNo v (dD v) (dA v) (dB v) (dN v) (tgV v) (endsB (dOp v)) (!endsB (dOp v) || dOp v == 16) (isT v) w hn D R (isatarget_any v h0 h1) (reftarget_any v h0 h1) (isaends_any v h0 h1) (refends_any v h0 h1) (isafalls_any v h0 h1) (reffalls_any v h0 h1) E

end Go.Proofs.YtfdkefnfebnmgaaDoor
