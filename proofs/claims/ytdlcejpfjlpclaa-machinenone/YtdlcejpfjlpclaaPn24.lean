/-
  The statement MachineNone, walked.
-/
import Derived.Test.YtdlcejpfjlpclaaProg
import Derived.WalkKit
import Derived.WalkSpells
import Derived.WalkLawsBesides
import Derived.RowKit3
import Derived.Below
import Derived.Deep.QuietTactic
import Derived.BigQuiet
import Derived.WalkSmall
import Derived.Laws.Rows
import Derived.Test.YtdlcejpfjlpclaaPn19
import Derived.Test.YtdlcejpfjlpclaaPn23
namespace Go.Proofs.Ytdlcejpfjlpclaa
open Go.RowKit

set_option maxRecDepth 100000 in
set_option maxHeartbeats 8000000 in
theorem lawNone (n : Int) (w : World) : Calls Try.prog 4 #[.int .i64 n] w fun e w' => e = .returned (.bool true) ∧ Below w.heap.size w w' := by
  obtain ⟨W, HW⟩ : ∃ W, Hid (w.alloc (.cells #[.slice none 0 0, .slice none 0 0, .int .i64 0, .bool false, .int .i64 0, .bool false, .int .i64 0, .bool false, .int .i64 0, .bool false, .int .i64 0, .bool false, .int .i64 0, .bool false, .int .i64 0, .bool false, .int .i64 0, .bool false, .int .i64 0, .bool false, .int .i64 0, .bool false, .int .i64 0, .bool false, .int .i64 0, .bool false, .int .i64 0, .bool false, .int .i64 0, .bool false, .int .i64 0, .bool false, .int .i64 0, .bool false, .slice none 0 0, .slice none 0 0, .int .i64 0, .int .i64 0, .int .i64 0, .int .i8 0] 50) = W) := ⟨_, rfl⟩
  have HB : Hid (Below w.heap.size w W) := by unfold Hid; rw [← HW.out]; exact lb_alloc (Below.refl _ _) _
  have z0 : W.cell? ⟨w.heap.size, 0, none⟩ = some (.slice none 0 0) := by rw [← HW.out]; simp [go_sem]
  have HN0 : Hid (NotM (.pointer none) W) := not_nil W
  have HN1 : Hid (NotM (.pointer (some ⟨w.heap.size, 0, none⟩)) W) := not_zero z0
  clear z0
  go_enter Try.func4, Try.ntmps4
  go_upto_region 3 with fail
  rw [HW.out]
  clear HW
  have HBa : Hid (Below W.heap.size W W) := Below.refl _ _
  go_wp2_with fail
  refine (run_no (HN0.out.keep (HBa.out)) n).mono ?_
  rintro e v0 ⟨rfl, hb⟩
  have HB0 : Hid (Below W.heap.size W v0) := lb_trans (HBa.out) hb
  clear hb
  go_wp2_with fail
  refine (run_no (HN1.out.keep (HB0.out)) n).mono ?_
  rintro e v1 ⟨rfl, hb⟩
  have HB1 : Hid (Below W.heap.size W v1) := lb_trans (HB0.out) hb
  clear hb
  go_wp2_with fail
  refine (reg_no (HN0.out.keep (HB1.out)) 0).mono ?_
  rintro e v2 ⟨rfl, hb⟩
  have HB2 : Hid (Below W.heap.size W v2) := lb_trans (HB1.out) hb
  clear hb
  go_wp2_with fail
  refine (reg_no (HN1.out.keep (lb_alloc HB2.out _)) n).mono ?_
  rintro e v3 ⟨rfl, hb⟩
  have HB3 : Hid (Below W.heap.size W v3) := lb_trans (lb_alloc HB2.out _) hb
  clear hb
  go_wp2_with fail
  refine (step_no (HN0.out.keep (lb_alloc HB3.out _))).mono ?_
  rintro e v4 ⟨rfl, hb⟩
  have HB4 : Hid (Below W.heap.size W v4) := lb_trans (lb_alloc HB3.out _) hb
  clear hb
  go_wp2_with fail
  refine (step_no (HN1.out.keep (HB4.out))).mono ?_
  rintro e v5 ⟨rfl, hb⟩
  have HB5 : Hid (Below W.heap.size W v5) := lb_trans (HB4.out) hb
  clear hb
  go_wp2_with fail
  refine (status_no (HN0.out.keep (HB5.out))).mono ?_
  rintro e v6 ⟨rfl, hb⟩
  have HB6 : Hid (Below W.heap.size W v6) := lb_trans (HB5.out) hb
  clear hb
  go_wp2_with fail
  refine (status_no (HN1.out.keep (HB6.out))).mono ?_
  rintro e v7 ⟨rfl, hb⟩
  have HB7 : Hid (Below W.heap.size W v7) := lb_trans (HB6.out) hb
  clear hb
  go_wp2_with fail
  refine (at_no (HN0.out.keep (HB7.out))).mono ?_
  rintro e v8 ⟨rfl, hb⟩
  have HB8 : Hid (Below W.heap.size W v8) := lb_trans (HB7.out) hb
  clear hb
  go_wp2_with fail
  refine (at_no (HN1.out.keep (HB8.out))).mono ?_
  rintro e v9 ⟨rfl, hb⟩
  have HB9 : Hid (Below W.heap.size W v9) := lb_trans (HB8.out) hb
  clear hb
  go_wp2_with fail
  refine (steps_no (HN0.out.keep (HB9.out))).mono ?_
  rintro e v10 ⟨rfl, hb⟩
  have HB10 : Hid (Below W.heap.size W v10) := lb_trans (HB9.out) hb
  clear hb
  go_wp2_with fail
  refine (steps_no (HN1.out.keep (HB10.out))).mono ?_
  rintro e v11 ⟨rfl, hb⟩
  have HB11 : Hid (Below W.heap.size W v11) := lb_trans (HB10.out) hb
  clear hb
  go_wp2_with fail
  refine (taken_no (HN0.out.keep (HB11.out))).mono ?_
  rintro e v12 ⟨rfl, hb⟩
  have HB12 : Hid (Below W.heap.size W v12) := lb_trans (HB11.out) hb
  clear hb
  go_wp2_with fail
  refine (taken_no (HN1.out.keep (HB12.out))).mono ?_
  rintro e v13 ⟨rfl, hb⟩
  have HB13 : Hid (Below W.heap.size W v13) := lb_trans (HB12.out) hb
  clear hb
  go_wp2_with fail
  refine (memory_no (HN0.out.keep (HB13.out))).mono ?_
  rintro e v14 ⟨rfl, hb⟩
  have HB14 : Hid (Below W.heap.size W v14) := lb_trans (HB13.out) hb
  clear hb
  go_wp2_with fail
  refine (memory_no (HN1.out.keep (HB14.out))).mono ?_
  rintro e v15 ⟨rfl, hb⟩
  have HB15 : Hid (Below W.heap.size W v15) := lb_trans (HB14.out) hb
  clear hb
  go_wp2_with fail
  refine (ports_no (HN0.out.keep (HB15.out))).mono ?_
  rintro e v16 ⟨rfl, hb⟩
  have HB16 : Hid (Below W.heap.size W v16) := lb_trans (HB15.out) hb
  clear hb
  go_wp2_with fail
  refine (ports_no (HN1.out.keep (HB16.out))).mono ?_
  rintro e v17 ⟨rfl, hb⟩
  have HB17 : Hid (Below W.heap.size W v17) := lb_trans (HB16.out) hb
  clear hb
  go_wp2_with fail
  refine (works_any _).mono ?_
  rintro e vz ⟨rfl, hb⟩
  have HBz : Hid (Below w.heap.size w vz) := lb_trans HB.out (lb_trans (HB17.out) hb)
  clear hb
  go_wp2
  go_ret
  exact ⟨rfl, HBz.out⟩

end Go.Proofs.Ytdlcejpfjlpclaa
