/-
  Of of package isa, for every string, where the names lie as listed.
-/
import Derived.Test.YtfdkefnfebnmgaaDoorNm
import Derived.Deep.DeepCutAuto
import Derived.Laws.Rows
namespace Go.Proofs.YtfdkefnfebnmgaaDoor
open Go.RowKit

/-- The names, as the variable holds them. -/
def nmV : Array Value := (ops.map fun k => Value.string (nameB k)).toArray
theorem index_nm0 (w : World) : (Instr.index 50 (.agg nmV) (.int .i64 0)).run Tryd.prog w = .ok (.string (nameB 0)) w := by kernel_rfl
theorem index_nm1 (w : World) : (Instr.index 50 (.agg nmV) (.int .i64 1)).run Tryd.prog w = .ok (.string (nameB 1)) w := by kernel_rfl
theorem index_nm2 (w : World) : (Instr.index 50 (.agg nmV) (.int .i64 2)).run Tryd.prog w = .ok (.string (nameB 2)) w := by kernel_rfl
theorem index_nm3 (w : World) : (Instr.index 50 (.agg nmV) (.int .i64 3)).run Tryd.prog w = .ok (.string (nameB 3)) w := by kernel_rfl
theorem index_nm4 (w : World) : (Instr.index 50 (.agg nmV) (.int .i64 4)).run Tryd.prog w = .ok (.string (nameB 4)) w := by kernel_rfl
theorem index_nm5 (w : World) : (Instr.index 50 (.agg nmV) (.int .i64 5)).run Tryd.prog w = .ok (.string (nameB 5)) w := by kernel_rfl
theorem index_nm6 (w : World) : (Instr.index 50 (.agg nmV) (.int .i64 6)).run Tryd.prog w = .ok (.string (nameB 6)) w := by kernel_rfl
theorem index_nm7 (w : World) : (Instr.index 50 (.agg nmV) (.int .i64 7)).run Tryd.prog w = .ok (.string (nameB 7)) w := by kernel_rfl
theorem index_nm8 (w : World) : (Instr.index 50 (.agg nmV) (.int .i64 8)).run Tryd.prog w = .ok (.string (nameB 8)) w := by kernel_rfl
theorem index_nm9 (w : World) : (Instr.index 50 (.agg nmV) (.int .i64 9)).run Tryd.prog w = .ok (.string (nameB 9)) w := by kernel_rfl
theorem index_nm10 (w : World) : (Instr.index 50 (.agg nmV) (.int .i64 10)).run Tryd.prog w = .ok (.string (nameB 10)) w := by kernel_rfl
theorem index_nm11 (w : World) : (Instr.index 50 (.agg nmV) (.int .i64 11)).run Tryd.prog w = .ok (.string (nameB 11)) w := by kernel_rfl
theorem index_nm12 (w : World) : (Instr.index 50 (.agg nmV) (.int .i64 12)).run Tryd.prog w = .ok (.string (nameB 12)) w := by kernel_rfl
theorem index_nm13 (w : World) : (Instr.index 50 (.agg nmV) (.int .i64 13)).run Tryd.prog w = .ok (.string (nameB 13)) w := by kernel_rfl
theorem index_nm14 (w : World) : (Instr.index 50 (.agg nmV) (.int .i64 14)).run Tryd.prog w = .ok (.string (nameB 14)) w := by kernel_rfl
theorem index_nm15 (w : World) : (Instr.index 50 (.agg nmV) (.int .i64 15)).run Tryd.prog w = .ok (.string (nameB 15)) w := by kernel_rfl
theorem index_nm16 (w : World) : (Instr.index 50 (.agg nmV) (.int .i64 16)).run Tryd.prog w = .ok (.string (nameB 16)) w := by kernel_rfl
theorem index_nm17 (w : World) : (Instr.index 50 (.agg nmV) (.int .i64 17)).run Tryd.prog w = .ok (.string (nameB 17)) w := by kernel_rfl
theorem index_nm18 (w : World) : (Instr.index 50 (.agg nmV) (.int .i64 18)).run Tryd.prog w = .ok (.string (nameB 18)) w := by kernel_rfl
theorem index_nm19 (w : World) : (Instr.index 50 (.agg nmV) (.int .i64 19)).run Tryd.prog w = .ok (.string (nameB 19)) w := by kernel_rfl
theorem index_nm20 (w : World) : (Instr.index 50 (.agg nmV) (.int .i64 20)).run Tryd.prog w = .ok (.string (nameB 20)) w := by kernel_rfl
theorem index_nm21 (w : World) : (Instr.index 50 (.agg nmV) (.int .i64 21)).run Tryd.prog w = .ok (.string (nameB 21)) w := by kernel_rfl
theorem index_nm (j : Nat) (h1 : j < 22) (w : World) : (Instr.index 50 (.agg nmV) (.int .i64 (j : Int))).run Tryd.prog w = .ok (.string (nameB (j : Int))) w := by
  have h : j = 0 ∨ j = 1 ∨ j = 2 ∨ j = 3 ∨ j = 4 ∨ j = 5 ∨ j = 6 ∨ j = 7 ∨ j = 8 ∨ j = 9 ∨ j = 10 ∨ j = 11 ∨ j = 12 ∨ j = 13 ∨ j = 14 ∨ j = 15 ∨ j = 16 ∨ j = 17 ∨ j = 18 ∨ j = 19 ∨ j = 20 ∨ j = 21 := by omega
  rcases h with rfl | rfl | rfl | rfl | rfl | rfl | rfl | rfl | rfl | rfl | rfl | rfl | rfl | rfl | rfl | rfl | rfl | rfl | rfl | rfl | rfl | rfl
  · exact index_nm0 w
  · exact index_nm1 w
  · exact index_nm2 w
  · exact index_nm3 w
  · exact index_nm4 w
  · exact index_nm5 w
  · exact index_nm6 w
  · exact index_nm7 w
  · exact index_nm8 w
  · exact index_nm9 w
  · exact index_nm10 w
  · exact index_nm11 w
  · exact index_nm12 w
  · exact index_nm13 w
  · exact index_nm14 w
  · exact index_nm15 w
  · exact index_nm16 w
  · exact index_nm17 w
  · exact index_nm18 w
  · exact index_nm19 w
  · exact index_nm20 w
  · exact index_nm21 w

theorem Nm.row {w : World} (h : Nm w) : ∃ t fr, w.heap[0]? = some (.cells nmV t fr) := by
  unfold Nm World.var? at h
  rw [gNm] at h
  simp only [Option.bind_some] at h
  split at h
  · rename_i cs t fr he
    exact ⟨t, fr, by rw [he]; rw [Option.some.inj h]; rfl⟩
  · cases h

set_option maxRecDepth 100000 in
set_option maxHeartbeats 1000000 in
theorem isaof_any (s : ByteArray) (w : World) (hn : Nm w) : Calls Tryd.prog 8 #[.string s] w fun e w' => e = .returned (.tuple #[.int .i8 ((ofF s.data.toList).getD 0), .bool (ofF s.data.toList).isSome]) ∧ Below w.heap.size w w' := by
  obtain ⟨t, fr, hrow⟩ := hn.row
  clear hn
  go_enter Tryd.func8, Tryd.ntmps8
  go_upto_region 1 with fail
  rename_i hK
  apply wp_region_lit
  refine wpList_load_row rfl 50 _ rfl 0 rfl t nmV fr _ hrow Tryd.underlying50 rfl (by kernel_rfl) ?_
  clear hrow
  show wpList _ _ _ _ ⟨#[.string s, undef, .int .i8 0, .bool false, undef, undef, .agg nmV, undef, undef, undef, undef, undef, undef, undef, undef, undef, undef], []⟩ w
  go_wp2
  go_loop [7] (fun i => ∃ j : Nat, i = .int .i64 j ∧ j ≤ 22 ∧ Hid (ofAux (ops.drop j) s.data.toList = ofF s.data.toList)) (fun i => 22 - (intOf i).toNat)
  case atStart => exact ⟨0, rfl, by omega, rfl⟩
  case round =>
    obtain ⟨j, rfl, hj, HG⟩ := hrel
    by_cases hlt : j < 22
    · have hlt' : (j : Int) ≤ 21 := by omega
      have hI := index_nm j hlt
      by_cases hn : (nameB j).data.toList = s.data.toList
      · have hq : ((nameB j).toList == s.toList) = true := by rw [ByteArray.toList_eq, ByteArray.toList_eq, hn]; simp
        have HF : Hid (ofF s.data.toList = some (j : Int)) := by rw [Hid, ← HG.out]; exact of_yes hlt hn
        clear hn
        go_wp2
        go_ret2
        exact ⟨by rw [HF.out]; rfl, Below.refl _ _⟩
      · have hq : ((nameB j).toList == s.toList) = false := by rw [ByteArray.toList_eq, ByteArray.toList_eq]; simpa using hn
        have e := of_no hlt hn
        have HE : Hid (ofAux (ops.drop j) s.data.toList = ofAux (ops.drop (j + 1)) s.data.toList) := e
        clear hn e
        go_wp2
        go_round
        case rel => exact ⟨j + 1, by go_num, by omega, by rw [Hid, ← HE.out]; exact HG.out⟩
        case measure => simp [intOf]; omega
    · have HF : Hid (ofF s.data.toList = none) := by
        rw [Hid, ← HG.out, List.drop_eq_nil_of_le (by show 22 ≤ j; omega)]; rfl
      go_wp2
      go_ret2
      exact ⟨by rw [HF.out]; rfl, Below.refl _ _⟩

end Go.Proofs.YtfdkefnfebnmgaaDoor
