/-
  The table of the ops' fields, as the program makes it anew, and what is read of it; no condition. Encode of package isa, for every instruction whose op is an int8's number. Decode of package isa, for every word of 32 bits; no other condition. Ends, Falls, Target and Aim of the document's answer, for every word of 32 bits; no other condition.
-/
import Derived.Test.YtokhclindfipbaaGreatDoorProg
import Derived.Deep.DeepCutAuto
import Derived.Laws.Tables
import Derived.Laws.Rows
import Derived.Laws.CopyOwn
import Derived.Great.BuildSlice
import Derived.Test.YtokhclindfipbaaGreatDoorPa23
import Derived.Deep.RegionHeld3
import Derived.Test.YtokhclindfipbaaGreatDoorPa03
namespace Go.Proofs.YtokhclindfipbaaGreatDoor
open Go.RowKit

def shV : Array Value := #[.int .u8 0, .int .u8 9, .int .u8 3, .int .u8 7, .int .u8 7, .int .u8 7, .int .u8 7, .int .u8 7, .int .u8 7, .int .u8 7, .int .u8 7, .int .u8 11, .int .u8 14, .int .u8 1, .int .u8 10, .int .u8 24, .int .u8 26, .int .u8 24, .int .u8 2, .int .u8 2, .int .u8 25, .int .u8 0]
def zs22 : Array Value := #[.int .u8 0, .int .u8 0, .int .u8 0, .int .u8 0, .int .u8 0, .int .u8 0, .int .u8 0, .int .u8 0, .int .u8 0, .int .u8 0, .int .u8 0, .int .u8 0, .int .u8 0, .int .u8 0, .int .u8 0, .int .u8 0, .int .u8 0, .int .u8 0, .int .u8 0, .int .u8 0, .int .u8 0, .int .u8 0]

theorem heap_new (w : World) (o : Obj) : (w.alloc o).heap[w.heap.size]? = some o := heap_alloc_new w o

theorem shapes_res (w1 : World) (g : Nat) (h : w1.heap[g]? = some (.cells shV 205 (0, 0))) : (results Tryz.f134 #[.pointer (some ⟨g, 0, none⟩), .agg shV]).run Tryz.prog w1 = .ok (.agg shV) w1 := by
  have hl := run_loadVar_row (P := Tryz.prog) w1 g 205 205 shV (0, 0) _ h Tryz.underlying205 rfl (by kernel_rfl)
  have ha : (asAddr (Value.pointer (some ⟨g, 0, none⟩))).run Tryz.prog w1 = .ok ⟨g, 0, none⟩ w1 := rfl
  have hm : (results Tryz.f134 #[.pointer (some ⟨g, 0, none⟩), .agg shV]) = (do
      let vs ← (Tryz.f134.results.mapM fun
        | .tmp t => pure ((#[Value.pointer (some ⟨g, 0, none⟩), .agg shV] : Array Value).getD t undef)
        | .cell a t => do loadVar t (← asAddr ((#[Value.pointer (some ⟨g, 0, none⟩), .agg shV] : Array Value).getD a undef)) : Sem (Array Value))
      pure (if h : vs.size = 1 then vs[0] else .tuple vs)) := rfl
  rw [hm, Tryz.results134]
  have hg0 : (#[Value.pointer (some ⟨g, 0, none⟩), Value.agg shV] : Array Value).getD 0 undef = .pointer (some ⟨g, 0, none⟩) := rfl
  simp only [List.mapM_toArray, List.mapM_cons, List.mapM_nil, map_eq_pure_bind, bind_assoc, pure_bind, Sem.run_bind, Sem.run_pure, Result.andThen_ok, hg0, ha, hl]
  rfl

set_option maxRecDepth 100000 in
theorem shapes_any (w : World) : Calls Tryz.prog 134 #[] w fun e w' => e = .returned (.agg shV) ∧ Below w.heap.size w w' := by
  go_enter Tryz.func134, Tryz.ntmps134
  go_upto_region 1 with fail
  rename_i hK
  apply wp_region_lit
  refine wpList_buildTo rfl 205 _ rfl (some 1) rfl shV (by kernel_rfl) ?_
  refine wpList_store_row rfl 205 _ _ rfl w.heap.size shV rfl rfl 205 zs22 (heap_new _ _) (by kernel_rfl) (by kernel_rfl) (by kernel_rfl) ?_
  apply wpList_nil
  refine hK _ _ (wp_ret ?_)
  exact bodyPost_ret (v := .agg shV) (shapes_res _ _ (setRow_heap _ _ zs22 _ _ _ (heap_new _ _))) rfl ⟨rfl, below_setRow (bel_alloc (Below.refl _ _) _) (Nat.le_refl _) _⟩
theorem index_sh0 (w : World) : (Instr.index 205 (.agg shV) (.int .i8 0)).run Tryz.prog w = .ok (.int .u8 (sh 0)) w := by kernel_rfl
theorem index_sh1 (w : World) : (Instr.index 205 (.agg shV) (.int .i8 1)).run Tryz.prog w = .ok (.int .u8 (sh 1)) w := by kernel_rfl
theorem index_sh2 (w : World) : (Instr.index 205 (.agg shV) (.int .i8 2)).run Tryz.prog w = .ok (.int .u8 (sh 2)) w := by kernel_rfl
theorem index_sh3 (w : World) : (Instr.index 205 (.agg shV) (.int .i8 3)).run Tryz.prog w = .ok (.int .u8 (sh 3)) w := by kernel_rfl
theorem index_sh4 (w : World) : (Instr.index 205 (.agg shV) (.int .i8 4)).run Tryz.prog w = .ok (.int .u8 (sh 4)) w := by kernel_rfl
theorem index_sh5 (w : World) : (Instr.index 205 (.agg shV) (.int .i8 5)).run Tryz.prog w = .ok (.int .u8 (sh 5)) w := by kernel_rfl
theorem index_sh6 (w : World) : (Instr.index 205 (.agg shV) (.int .i8 6)).run Tryz.prog w = .ok (.int .u8 (sh 6)) w := by kernel_rfl
theorem index_sh7 (w : World) : (Instr.index 205 (.agg shV) (.int .i8 7)).run Tryz.prog w = .ok (.int .u8 (sh 7)) w := by kernel_rfl
theorem index_sh8 (w : World) : (Instr.index 205 (.agg shV) (.int .i8 8)).run Tryz.prog w = .ok (.int .u8 (sh 8)) w := by kernel_rfl
theorem index_sh9 (w : World) : (Instr.index 205 (.agg shV) (.int .i8 9)).run Tryz.prog w = .ok (.int .u8 (sh 9)) w := by kernel_rfl
theorem index_sh10 (w : World) : (Instr.index 205 (.agg shV) (.int .i8 10)).run Tryz.prog w = .ok (.int .u8 (sh 10)) w := by kernel_rfl
theorem index_sh11 (w : World) : (Instr.index 205 (.agg shV) (.int .i8 11)).run Tryz.prog w = .ok (.int .u8 (sh 11)) w := by kernel_rfl
theorem index_sh12 (w : World) : (Instr.index 205 (.agg shV) (.int .i8 12)).run Tryz.prog w = .ok (.int .u8 (sh 12)) w := by kernel_rfl
theorem index_sh13 (w : World) : (Instr.index 205 (.agg shV) (.int .i8 13)).run Tryz.prog w = .ok (.int .u8 (sh 13)) w := by kernel_rfl
theorem index_sh14 (w : World) : (Instr.index 205 (.agg shV) (.int .i8 14)).run Tryz.prog w = .ok (.int .u8 (sh 14)) w := by kernel_rfl
theorem index_sh15 (w : World) : (Instr.index 205 (.agg shV) (.int .i8 15)).run Tryz.prog w = .ok (.int .u8 (sh 15)) w := by kernel_rfl
theorem index_sh16 (w : World) : (Instr.index 205 (.agg shV) (.int .i8 16)).run Tryz.prog w = .ok (.int .u8 (sh 16)) w := by kernel_rfl
theorem index_sh17 (w : World) : (Instr.index 205 (.agg shV) (.int .i8 17)).run Tryz.prog w = .ok (.int .u8 (sh 17)) w := by kernel_rfl
theorem index_sh18 (w : World) : (Instr.index 205 (.agg shV) (.int .i8 18)).run Tryz.prog w = .ok (.int .u8 (sh 18)) w := by kernel_rfl
theorem index_sh19 (w : World) : (Instr.index 205 (.agg shV) (.int .i8 19)).run Tryz.prog w = .ok (.int .u8 (sh 19)) w := by kernel_rfl
theorem index_sh20 (w : World) : (Instr.index 205 (.agg shV) (.int .i8 20)).run Tryz.prog w = .ok (.int .u8 (sh 20)) w := by kernel_rfl
theorem index_sh21 (w : World) : (Instr.index 205 (.agg shV) (.int .i8 21)).run Tryz.prog w = .ok (.int .u8 (sh 21)) w := by kernel_rfl
theorem index_sh (op : Int) (h0 : 0 ≤ op) (h1 : op ≤ 21) (w : World) : (Instr.index 205 (.agg shV) (.int .i8 op)).run Tryz.prog w = .ok (.int .u8 (sh op)) w := by
  have h : op = 0 ∨ op = 1 ∨ op = 2 ∨ op = 3 ∨ op = 4 ∨ op = 5 ∨ op = 6 ∨ op = 7 ∨ op = 8 ∨ op = 9 ∨ op = 10 ∨ op = 11 ∨ op = 12 ∨ op = 13 ∨ op = 14 ∨ op = 15 ∨ op = 16 ∨ op = 17 ∨ op = 18 ∨ op = 19 ∨ op = 20 ∨ op = 21 := by omega
  rcases h with rfl | rfl | rfl | rfl | rfl | rfl | rfl | rfl | rfl | rfl | rfl | rfl | rfl | rfl | rfl | rfl | rfl | rfl | rfl | rfl | rfl | rfl
  · exact index_sh0 w
  · exact index_sh1 w
  · exact index_sh2 w
  · exact index_sh3 w
  · exact index_sh4 w
  · exact index_sh5 w
  · exact index_sh6 w
  · exact index_sh7 w
  · exact index_sh8 w
  · exact index_sh9 w
  · exact index_sh10 w
  · exact index_sh11 w
  · exact index_sh12 w
  · exact index_sh13 w
  · exact index_sh14 w
  · exact index_sh15 w
  · exact index_sh16 w
  · exact index_sh17 w
  · exact index_sh18 w
  · exact index_sh19 w
  · exact index_sh20 w
  · exact index_sh21 w









end Go.Proofs.YtokhclindfipbaaGreatDoor

namespace Go.Proofs.YtokhclindfipbaaGreatDoor
open Go.RowKit

set_option maxRecDepth 100000 in
set_option maxHeartbeats 1000000 in
theorem encOut (op d a b n : Int) (h8 : op ≤ 127) (hr : ¬ (0 ≤ op ∧ op ≤ 21)) (w : World) : Calls Tryz.prog 132 #[.agg #[.int .i8 op, .int .i8 d, .int .i8 a, .int .i8 b, .int .i64 n]] w fun e w' => e = .returned (.tuple #[.int .u32 (encV op d a b n), .int .i64 (encE op d a b n)]) ∧ Below w.heap.size w w' := by
  have CK := known_any op h8
  rw [decide_eq_false hr] at CK
  have hq : op < 0 ∨ 21 < op := by omega
  have HE : Hid (encV op d a b n = 0 ∧ encE op d a b n = 10) := by unfold Hid encV encE; rw [if_pos hq, if_pos hq]; exact ⟨rfl, rfl⟩
  go_enter Tryz.func132, Tryz.ntmps132
  go_wp2_with fail
  refine (CK _).mono ?_
  rintro e w1 ⟨rfl, rfl⟩
  go_wp2
  go_ret2
  exact ⟨ret2 HE.out.1.symm HE.out.2.symm, bel_alloc (Below.refl _ _) _⟩

set_option maxRecDepth 100000 in
set_option maxHeartbeats 1000000 in
theorem encNo (op d a b n : Int) (h0 : 0 ≤ op) (h1 : op ≤ 21) (hi : insOK op d a b n = false) (w : World) : Calls Tryz.prog 132 #[.agg #[.int .i8 op, .int .i8 d, .int .i8 a, .int .i8 b, .int .i64 n]] w fun e w' => e = .returned (.tuple #[.int .u32 (encV op d a b n), .int .i64 (encE op d a b n)]) ∧ Below w.heap.size w w' := by
    have CK := known_any op (by omega)
    rw [decide_eq_true ⟨h0, h1⟩] at CK
    have HE : Hid (encV op d a b n = 0 ∧ encE op d a b n = 11) := encE_no (by omega) hi
    have CA : ∀ wx : World, Calls Tryz.prog 148 #[.int .u8 (sh op), .agg #[.int .i8 op, .int .i8 d, .int .i8 a, .int .i8 b, .int .i64 n]] wx fun e w' => e = .returned (.bool false) ∧ Below wx.heap.size wx w' := fun wx => (allow_any op op d a b n h0 h1 wx).mono fun e w' ⟨h, k⟩ => ⟨by rw [h, hi], by rw [k]; exact bel_alloc (Below.refl _ _) _⟩
    have hX := index_sh op h0 h1
    clear hi
    go_enter Tryz.func132, Tryz.ntmps132
    go_wp2_with fail
    refine (CK _).mono ?_
    rintro e w1 ⟨rfl, hw⟩
    have c0 : w1.cell? ⟨w.heap.size, 0, none⟩ = some (.int .i8 op) := by rw [hw]; simp [go_sem]
    have c1 : w1.cell? ⟨w.heap.size, 1, none⟩ = some (.int .i8 d) := by rw [hw]; simp [go_sem]
    have c2 : w1.cell? ⟨w.heap.size, 2, none⟩ = some (.int .i8 a) := by rw [hw]; simp [go_sem]
    have c3 : w1.cell? ⟨w.heap.size, 3, none⟩ = some (.int .i8 b) := by rw [hw]; simp [go_sem]
    have c4 : w1.cell? ⟨w.heap.size, 4, none⟩ = some (.int .i64 n) := by rw [hw]; simp [go_sem]
    have B1 : Below w.heap.size w w1.drew := by rw [hw]; exact (bel_alloc (Below.refl _ _) _).drew
    clear hw CK
    go_wp2_with fail
    go_region_held3 (fun W => W.cell? ⟨w.heap.size, 0, none⟩ = some (.int .i8 op) ∧ W.cell? ⟨w.heap.size, 1, none⟩ = some (.int .i8 d) ∧ W.cell? ⟨w.heap.size, 2, none⟩ = some (.int .i8 a) ∧ W.cell? ⟨w.heap.size, 3, none⟩ = some (.int .i8 b) ∧ W.cell? ⟨w.heap.size, 4, none⟩ = some (.int .i64 n) ∧ Below w.heap.size w W) (first | (refine ⟨cell_keep hb ?_, cell_keep hb ?_, cell_keep hb ?_, cell_keep hb ?_, cell_keep hb ?_, bel_trans ?_ hb⟩ <;> (simp [*]; done)) | (simp [*]; done))
      (first
        | (go_at_call 134; refine (shapes_any _).mono ?_; rintro e w4 ⟨rfl, hb⟩)
        | (go_at_call 148; refine (CA _).mono ?_; rintro e w4 ⟨rfl, hb⟩))
    rename_i hS
    obtain ⟨s0, s1, s2, s3, s4, sB⟩ := hS
    have HB : Hid (Below w.heap.size w _) := sB
    clear sB CA hX c0 c1 c2 c3 c4 B1
    go_wp2
    go_ret2
    exact ⟨ret2 HE.out.1.symm HE.out.2.symm, HB.out⟩

set_option maxRecDepth 100000 in
set_option maxHeartbeats 1000000 in
theorem encYes (op d a b n : Int) (h0 : 0 ≤ op) (h1 : op ≤ 21) (hi : insOK op d a b n = true) (w : World) : Calls Tryz.prog 132 #[.agg #[.int .i8 op, .int .i8 d, .int .i8 a, .int .i8 b, .int .i64 n]] w fun e w' => e = .returned (.tuple #[.int .u32 (encV op d a b n), .int .i64 (encE op d a b n)]) ∧ Below w.heap.size w w' := by
    have CK := known_any op (by omega)
    rw [decide_eq_true ⟨h0, h1⟩] at CK
    have HE : Hid (encV op d a b n = encW op d a b n ∧ encE op d a b n = 0) := encE_yes (by omega) hi
    have CA : ∀ wx : World, Calls Tryz.prog 148 #[.int .u8 (sh op), .agg #[.int .i8 op, .int .i8 d, .int .i8 a, .int .i8 b, .int .i64 n]] wx fun e w' => e = .returned (.bool true) ∧ Below wx.heap.size wx w' := fun wx => (allow_any op op d a b n h0 h1 wx).mono fun e w' ⟨h, k⟩ => ⟨by rw [h, hi], by rw [k]; exact bel_alloc (Below.refl _ _) _⟩
    have hX := index_sh op h0 h1
    unfold insOK at hi
    simp only [Bool.and_eq_true] at hi
    obtain ⟨d1, d2⟩ := reg_range hi.1.1.1
    obtain ⟨a1, a2⟩ := reg_range hi.1.1.2
    obtain ⟨b1, b2⟩ := reg_range hi.1.2
    obtain ⟨n1, n2⟩ := num_range hi.2
    clear hi
    have o1 := or_add (op * 134217728) (d * 8388608) op 27 (by omega) (by omega) (by omega) (by omega) (by omega)
    have o2 := or_add (op * 134217728 + d * 8388608) (a * 524288) (op * 16 + d) 23 (by omega) (by omega) (by omega) (by omega) (by omega)
    have o3 := or_add (op * 134217728 + d * 8388608 + a * 524288) (b * 32768) ((op * 16 + d) * 16 + a) 19 (by omega) (by omega) (by omega) (by omega) (by omega)
    have o5 : bits .and .u32 (n % 4294967296) 32767 = n % 32768 := by rw [and32767 _ (by omega) (by omega)]; omega
    have o4 := or_add (op * 134217728 + d * 8388608 + a * 524288 + b * 32768) (n % 32768) (((op * 16 + d) * 16 + a) * 16 + b) 15 (by omega) (by omega) (by omega) (by omega) (by omega)
    go_enter Tryz.func132, Tryz.ntmps132
    go_wp2_with fail
    refine (CK _).mono ?_
    rintro e w1 ⟨rfl, hw⟩
    have c0 : w1.cell? ⟨w.heap.size, 0, none⟩ = some (.int .i8 op) := by rw [hw]; simp [go_sem]
    have c1 : w1.cell? ⟨w.heap.size, 1, none⟩ = some (.int .i8 d) := by rw [hw]; simp [go_sem]
    have c2 : w1.cell? ⟨w.heap.size, 2, none⟩ = some (.int .i8 a) := by rw [hw]; simp [go_sem]
    have c3 : w1.cell? ⟨w.heap.size, 3, none⟩ = some (.int .i8 b) := by rw [hw]; simp [go_sem]
    have c4 : w1.cell? ⟨w.heap.size, 4, none⟩ = some (.int .i64 n) := by rw [hw]; simp [go_sem]
    have B1 : Below w.heap.size w w1.drew := by rw [hw]; exact (bel_alloc (Below.refl _ _) _).drew
    clear hw CK
    go_wp2_with fail
    go_region_held3 (fun W => W.cell? ⟨w.heap.size, 0, none⟩ = some (.int .i8 op) ∧ W.cell? ⟨w.heap.size, 1, none⟩ = some (.int .i8 d) ∧ W.cell? ⟨w.heap.size, 2, none⟩ = some (.int .i8 a) ∧ W.cell? ⟨w.heap.size, 3, none⟩ = some (.int .i8 b) ∧ W.cell? ⟨w.heap.size, 4, none⟩ = some (.int .i64 n) ∧ Below w.heap.size w W) (first | (refine ⟨cell_keep hb ?_, cell_keep hb ?_, cell_keep hb ?_, cell_keep hb ?_, cell_keep hb ?_, bel_trans ?_ hb⟩ <;> (simp [*]; done)) | (simp [*]; done))
      (first
        | (go_at_call 134; refine (shapes_any _).mono ?_; rintro e w4 ⟨rfl, hb⟩)
        | (go_at_call 148; refine (CA _).mono ?_; rintro e w4 ⟨rfl, hb⟩))
    rename_i hS
    obtain ⟨s0, s1, s2, s3, s4, sB⟩ := hS
    have HB : Hid (Below w.heap.size w _) := sB
    clear sB CA hX c0 c1 c2 c3 c4 B1
    go_wp2
    go_ret2
    exact ⟨ret2 (by rw [HE.out.1]; rfl) HE.out.2.symm, HB.out⟩

theorem isaencode_any (op d a b n : Int) (h8 : op ≤ 127) (w : World) : Calls Tryz.prog 132 #[.agg #[.int .i8 op, .int .i8 d, .int .i8 a, .int .i8 b, .int .i64 n]] w fun e w' => e = .returned (.tuple #[.int .u32 (encV op d a b n), .int .i64 (encE op d a b n)]) ∧ Below w.heap.size w w' := by
  by_cases hr : 0 ≤ op ∧ op ≤ 21
  · cases hi : insOK op d a b n
    · exact encNo op d a b n hr.1 hr.2 hi w
    · exact encYes op d a b n hr.1 hr.2 hi w
  · exact encOut op d a b n h8 hr w









end Go.Proofs.YtokhclindfipbaaGreatDoor

namespace Go.Proofs.YtokhclindfipbaaGreatDoor
open Go.RowKit

/-- N as the program reads it: by its highest bit. -/
def sN (v : Int) : Int := if 16383 < v % 32768 then v % 32768 - 32768 else v % 32768
theorem sN_num0 (n p : Bool) (r : Int) (h0 : 0 ≤ r) (h1 : r < 32768) : numOK n p (if 16383 < r then r - 32768 else r) = numOK n p (if n && !p && decide (16384 ≤ r) then r - 32768 else r) := by
  by_cases h : 16383 < r
  · have h' : 16384 ≤ r := by omega
    cases n <;> cases p <;> (rw [Bool.eq_iff_iff]; simp [numOK, h, h']; try omega)
  · have h' : ¬ 16384 ≤ r := by omega
    cases n <;> cases p <;> simp [numOK, h, h']
theorem sN_eq0 (n p : Bool) (r : Int) (h0 : 0 ≤ r) (h1 : r < 32768) (hn : numOK n p (if n && !p && decide (16384 ≤ r) then r - 32768 else r) = true) : (if 16383 < r then r - 32768 else r) = (if n && !p && decide (16384 ≤ r) then r - 32768 else r) := by
  by_cases h : 16383 < r
  · have h' : 16384 ≤ r := by omega
    cases n <;> cases p <;> simp [numOK, h, h'] at hn ⊢ <;> omega
  · have h' : ¬ 16384 ≤ r := by omega
    cases n <;> cases p <;> simp [h, h']
theorem ins_sN (v : Int) : insOK (wOp v) (wD v) (wA v) (wB v) (sN v) = insOK (wOp v) (wD v) (wA v) (wB v) (wN v) := by
  unfold insOK
  rw [show numOK (hN (wOp v)) (hP (wOp v)) (sN v) = numOK (hN (wOp v)) (hP (wOp v)) (wN v) from sN_num0 _ _ (v % 32768) (by omega) (by omega)]
theorem isIns_sN {v : Int} (h : isIns v = true) : sN v = wN v := by
  unfold isIns insOK at h
  simp only [Bool.and_eq_true] at h
  exact sN_eq0 _ _ (v % 32768) (by omega) (by omega) h.2.2
theorem encS_no {v : Int} (h0 : 0 ≤ v) (h : isIns v = false) : encV (wOp v) (wD v) (wA v) (wB v) (sN v) = 0 ∧ (encE (wOp v) (wD v) (wA v) (wB v) (sN v) = 10 ∨ encE (wOp v) (wD v) (wA v) (wB v) (sN v) = 11) := by
  unfold isIns at h
  have hop : 0 ≤ wOp v := by unfold wOp; omega
  unfold encV encE
  by_cases hb : wOp v < 0 ∨ 21 < wOp v
  · rw [if_pos hb, if_pos hb]; exact ⟨rfl, Or.inl rfl⟩
  · rw [if_neg hb, if_neg hb]
    have hle : wOp v ≤ 21 := by omega
    rw [decide_eq_true hle, Bool.true_and] at h
    rw [ins_sN, h]; exact ⟨rfl, Or.inr rfl⟩

set_option maxRecDepth 100000 in
set_option maxHeartbeats 1000000 in
theorem decYes (v : Int) (h0 : 0 ≤ v) (h1 : v < 4294967296) (hI : isIns v = true) (w : World) : Calls Tryz.prog 111 #[.int .u32 v] w fun e w' => e = .returned (.agg #[.int .i8 (dOp v), .int .i8 (dD v), .int .i8 (dA v), .int .i8 (dB v), .int .i64 (dN v)]) ∧ Below w.heap.size w w' := by
    have m1 : bits .and .u32 v 125829120 = v / 8388608 % 16 * 8388608 := mask_mid v 23 125829120 (by decide) (by decide) h0 h1
    have m2 : bits .and .u32 v 7864320 = v / 524288 % 16 * 524288 := mask_mid v 19 7864320 (by decide) (by decide) h0 h1
    have m3 : bits .and .u32 v 491520 = v / 32768 % 16 * 32768 := mask_mid v 15 491520 (by decide) (by decide) h0 h1
    have m4 := and32767 v h0 h1
    have CS : ∀ wx : World, Calls Tryz.prog 131 #[.int .u32 (v % 32768)] wx fun e w' => e = .returned (.int .i64 (wN v)) ∧ w' = wx := fun wx => by
      have h := signed_any (v % 32768) (by omega) (by omega) wx
      rw [← isIns_sN hI]; exact h
    have CE : ∀ wx : World, Calls Tryz.prog 132 #[.agg #[.int .i8 (v / 134217728), .int .i8 (v / 8388608 % 16), .int .i8 (v / 524288 % 16), .int .i8 (v / 32768 % 16), .int .i64 (wN v)]] wx fun e w' => e = .returned (.tuple #[.int .u32 v, .int .i64 0]) ∧ Below wx.heap.size wx w' := fun wx => by
      have h := isaencode_any (wOp v) (wD v) (wA v) (wB v) (wN v) (by unfold wOp; omega) wx
      rw [(enc_yes h0 h1 hI).1, (enc_yes h0 h1 hI).2] at h
      exact h
    have HI : Hid (isIns v = true) := hI
    clear hI
    go_enter Tryz.func111, Tryz.ntmps111
    go_wp2_with fail
    refine (CS _).mono ?_
    rintro e w1 ⟨rfl, rfl⟩
    clear m1 m2 m3 m4 CS
    go_wp2_with fail
    refine (CE _).mono ?_
    rintro e w2 ⟨rfl, hb2⟩
    clear CE
    have z0 : w2.cell? ⟨w.heap.size, 0, none⟩ = some (.int .i8 0) := cell_keep hb2 (by simp [go_sem])
    have y0 : w2.frozen? ⟨w.heap.size, 0, none⟩ = false := frozen_keep hb2 (v := .int .i8 0) (by simp [go_sem]) (by simp [go_sem])
    have x0 : w2.cell? ⟨w.heap.size + 1, 0, none⟩ = some (.int .i8 (v / 134217728)) := cell_keep hb2 (by simp [go_sem])
    have z1 : w2.cell? ⟨w.heap.size, 1, none⟩ = some (.int .i8 0) := cell_keep hb2 (by simp [go_sem])
    have y1 : w2.frozen? ⟨w.heap.size, 1, none⟩ = false := frozen_keep hb2 (v := .int .i8 0) (by simp [go_sem]) (by simp [go_sem])
    have x1 : w2.cell? ⟨w.heap.size + 1, 1, none⟩ = some (.int .i8 (v / 8388608 % 16)) := cell_keep hb2 (by simp [go_sem])
    have z2 : w2.cell? ⟨w.heap.size, 2, none⟩ = some (.int .i8 0) := cell_keep hb2 (by simp [go_sem])
    have y2 : w2.frozen? ⟨w.heap.size, 2, none⟩ = false := frozen_keep hb2 (v := .int .i8 0) (by simp [go_sem]) (by simp [go_sem])
    have x2 : w2.cell? ⟨w.heap.size + 1, 2, none⟩ = some (.int .i8 (v / 524288 % 16)) := cell_keep hb2 (by simp [go_sem])
    have z3 : w2.cell? ⟨w.heap.size, 3, none⟩ = some (.int .i8 0) := cell_keep hb2 (by simp [go_sem])
    have y3 : w2.frozen? ⟨w.heap.size, 3, none⟩ = false := frozen_keep hb2 (v := .int .i8 0) (by simp [go_sem]) (by simp [go_sem])
    have x3 : w2.cell? ⟨w.heap.size + 1, 3, none⟩ = some (.int .i8 (v / 32768 % 16)) := cell_keep hb2 (by simp [go_sem])
    have z4 : w2.cell? ⟨w.heap.size, 4, none⟩ = some (.int .i64 0) := cell_keep hb2 (by simp [go_sem])
    have y4 : w2.frozen? ⟨w.heap.size, 4, none⟩ = false := frozen_keep hb2 (v := .int .i64 0) (by simp [go_sem]) (by simp [go_sem])
    have x4 : w2.cell? ⟨w.heap.size + 1, 4, none⟩ = some (.int .i64 (wN v)) := cell_keep hb2 (by simp [go_sem])
    have HB2 : Hid (Below w.heap.size w w2) := bel_trans (bel_alloc (bel_alloc (Below.refl _ _) _) _) hb2
    clear hb2
    go_wp2
    exact bodyPost_ret (v := .agg #[.int .i8 (v / 134217728), .int .i8 (v / 8388608 % 16), .int .i8 (v / 524288 % 16), .int .i8 (v / 32768 % 16), .int .i64 (wN v)]) (by simp [results, Tryz.results111, go_sem, z0, z1, z2, z3, z4]) rfl ⟨dec_yes HI.out, ((((HB2.out.setCell (Nat.le_refl _) _).setCell (Nat.le_refl _) _).setCell (Nat.le_refl _) _).setCell (Nat.le_refl _) _).setCell (Nat.le_refl _) _⟩

set_option maxRecDepth 100000 in
set_option maxHeartbeats 1000000 in
theorem decNo (v : Int) (h0 : 0 ≤ v) (h1 : v < 4294967296) (hI : isIns v = false) (w : World) : Calls Tryz.prog 111 #[.int .u32 v] w fun e w' => e = .returned (.agg #[.int .i8 (dOp v), .int .i8 (dD v), .int .i8 (dA v), .int .i8 (dB v), .int .i64 (dN v)]) ∧ Below w.heap.size w w' := by
    have m1 : bits .and .u32 v 125829120 = v / 8388608 % 16 * 8388608 := mask_mid v 23 125829120 (by decide) (by decide) h0 h1
    have m2 : bits .and .u32 v 7864320 = v / 524288 % 16 * 524288 := mask_mid v 19 7864320 (by decide) (by decide) h0 h1
    have m3 : bits .and .u32 v 491520 = v / 32768 % 16 * 32768 := mask_mid v 15 491520 (by decide) (by decide) h0 h1
    have m4 := and32767 v h0 h1
    have CS : ∀ wx : World, Calls Tryz.prog 131 #[.int .u32 (v % 32768)] wx fun e w' => e = .returned (.int .i64 (sN v)) ∧ w' = wx := fun wx => signed_any (v % 32768) (by omega) (by omega) wx
    obtain ⟨E, hE, CE⟩ : ∃ E : Int, (E == 0) = false ∧ ∀ wx : World, Calls Tryz.prog 132 #[.agg #[.int .i8 (v / 134217728), .int .i8 (v / 8388608 % 16), .int .i8 (v / 524288 % 16), .int .i8 (v / 32768 % 16), .int .i64 (sN v)]] wx fun e w' => e = .returned (.tuple #[.int .u32 0, .int .i64 E]) ∧ Below wx.heap.size wx w' := by
      obtain ⟨e1, e2⟩ := encS_no h0 hI
      refine ⟨encE (wOp v) (wD v) (wA v) (wB v) (sN v), by rcases e2 with e2 | e2 <;> (rw [e2]; rfl), fun wx => ?_⟩
      have h := isaencode_any (wOp v) (wD v) (wA v) (wB v) (sN v) (by unfold wOp; omega) wx
      rw [e1] at h
      exact h
    have HI : Hid (isIns v = false) := hI
    clear hI
    go_enter Tryz.func111, Tryz.ntmps111
    go_wp2_with fail
    refine (CS _).mono ?_
    rintro e w1 ⟨rfl, rfl⟩
    clear m1 m2 m3 m4 CS
    go_wp2_with fail
    refine (CE _).mono ?_
    rintro e w2 ⟨rfl, hb2⟩
    clear CE
    have z0 : w2.cell? ⟨w.heap.size, 0, none⟩ = some (.int .i8 0) := cell_keep hb2 (by simp [go_sem])
    have y0 : w2.frozen? ⟨w.heap.size, 0, none⟩ = false := frozen_keep hb2 (v := .int .i8 0) (by simp [go_sem]) (by simp [go_sem])
    have x0 : w2.cell? ⟨w.heap.size + 1, 0, none⟩ = some (.int .i8 (v / 134217728)) := cell_keep hb2 (by simp [go_sem])
    have z1 : w2.cell? ⟨w.heap.size, 1, none⟩ = some (.int .i8 0) := cell_keep hb2 (by simp [go_sem])
    have y1 : w2.frozen? ⟨w.heap.size, 1, none⟩ = false := frozen_keep hb2 (v := .int .i8 0) (by simp [go_sem]) (by simp [go_sem])
    have x1 : w2.cell? ⟨w.heap.size + 1, 1, none⟩ = some (.int .i8 (v / 8388608 % 16)) := cell_keep hb2 (by simp [go_sem])
    have z2 : w2.cell? ⟨w.heap.size, 2, none⟩ = some (.int .i8 0) := cell_keep hb2 (by simp [go_sem])
    have y2 : w2.frozen? ⟨w.heap.size, 2, none⟩ = false := frozen_keep hb2 (v := .int .i8 0) (by simp [go_sem]) (by simp [go_sem])
    have x2 : w2.cell? ⟨w.heap.size + 1, 2, none⟩ = some (.int .i8 (v / 524288 % 16)) := cell_keep hb2 (by simp [go_sem])
    have z3 : w2.cell? ⟨w.heap.size, 3, none⟩ = some (.int .i8 0) := cell_keep hb2 (by simp [go_sem])
    have y3 : w2.frozen? ⟨w.heap.size, 3, none⟩ = false := frozen_keep hb2 (v := .int .i8 0) (by simp [go_sem]) (by simp [go_sem])
    have x3 : w2.cell? ⟨w.heap.size + 1, 3, none⟩ = some (.int .i8 (v / 32768 % 16)) := cell_keep hb2 (by simp [go_sem])
    have z4 : w2.cell? ⟨w.heap.size, 4, none⟩ = some (.int .i64 0) := cell_keep hb2 (by simp [go_sem])
    have y4 : w2.frozen? ⟨w.heap.size, 4, none⟩ = false := frozen_keep hb2 (v := .int .i64 0) (by simp [go_sem]) (by simp [go_sem])
    have x4 : w2.cell? ⟨w.heap.size + 1, 4, none⟩ = some (.int .i64 (sN v)) := cell_keep hb2 (by simp [go_sem])
    have HB2 : Hid (Below w.heap.size w w2) := bel_trans (bel_alloc (bel_alloc (Below.refl _ _) _) _) hb2
    clear hb2
    go_wp2
    exact bodyPost_ret (v := .agg #[.int .i8 (-1), .int .i8 0, .int .i8 0, .int .i8 0, .int .i64 v]) (by simp [results, Tryz.results111, go_sem, z0, z1, z2, z3, z4]) rfl ⟨dec_no HI.out, ((((HB2.out.setCell (Nat.le_refl _) _).setCell (Nat.le_refl _) _).setCell (Nat.le_refl _) _).setCell (Nat.le_refl _) _).setCell (Nat.le_refl _) _⟩

theorem isadecode_any (v : Int) (h0 : 0 ≤ v) (h1 : v < 4294967296) (w : World) : Calls Tryz.prog 111 #[.int .u32 v] w fun e w' => e = .returned (.agg #[.int .i8 (dOp v), .int .i8 (dD v), .int .i8 (dA v), .int .i8 (dB v), .int .i64 (dN v)]) ∧ Below w.heap.size w w' := by
  cases hI : isIns v
  · exact decNo v h0 h1 hI w
  · exact decYes v h0 h1 hI w









end Go.Proofs.YtokhclindfipbaaGreatDoor

namespace Go.Proofs.YtokhclindfipbaaGreatDoor
open Go.RowKit

@[go_sem] theorem field_ins0 (x d a b n : Int) (w : World) : (Instr.field 99 (.agg #[.int .i8 x, .int .i8 d, .int .i8 a, .int .i8 b, .int .i64 n]) 0).run Tryz.prog w = .ok (.int .i8 x) w := by kernel_rfl
@[go_sem] theorem field_has4 (x d a b n : Bool) (w : World) : (Instr.field 148 (.agg #[.bool x, .bool d, .bool a, .bool b, .bool n]) 4).run Tryz.prog w = .ok (.bool n) w := by kernel_rfl
theorem endsm1 (v : Int) (w : World) (CE : ∀ wx : World, Calls Tryz.prog 58 #[.int .u32 v] wx fun e w' => e = .returned (.agg #[.int .i8 (-1), .int .i8 (dD v), .int .i8 (dA v), .int .i8 (dB v), .int .i64 (dN v)]) ∧ Below wx.heap.size wx w') : Calls Tryz.prog 93 #[.int .u32 v] w fun e w' => e = .returned (.bool true) ∧ Below w.heap.size w w' := by
  go_enter Tryz.func93, Tryz.ntmps93
  go_wp2_with (go_at_call 58; refine (CE _).mono ?_; rintro e w1 ⟨rfl, hb⟩)
  go_ret
  exact ⟨rfl, hb⟩
theorem ends0 (v : Int) (w : World) (CE : ∀ wx : World, Calls Tryz.prog 58 #[.int .u32 v] wx fun e w' => e = .returned (.agg #[.int .i8 (0), .int .i8 (dD v), .int .i8 (dA v), .int .i8 (dB v), .int .i64 (dN v)]) ∧ Below wx.heap.size wx w') : Calls Tryz.prog 93 #[.int .u32 v] w fun e w' => e = .returned (.bool true) ∧ Below w.heap.size w w' := by
  go_enter Tryz.func93, Tryz.ntmps93
  go_wp2_with (go_at_call 58; refine (CE _).mono ?_; rintro e w1 ⟨rfl, hb⟩)
  go_ret
  exact ⟨rfl, hb⟩
theorem ends15 (v : Int) (w : World) (CE : ∀ wx : World, Calls Tryz.prog 58 #[.int .u32 v] wx fun e w' => e = .returned (.agg #[.int .i8 (15), .int .i8 (dD v), .int .i8 (dA v), .int .i8 (dB v), .int .i64 (dN v)]) ∧ Below wx.heap.size wx w') : Calls Tryz.prog 93 #[.int .u32 v] w fun e w' => e = .returned (.bool true) ∧ Below w.heap.size w w' := by
  go_enter Tryz.func93, Tryz.ntmps93
  go_wp2_with (go_at_call 58; refine (CE _).mono ?_; rintro e w1 ⟨rfl, hb⟩)
  go_ret
  exact ⟨rfl, hb⟩
theorem ends16 (v : Int) (w : World) (CE : ∀ wx : World, Calls Tryz.prog 58 #[.int .u32 v] wx fun e w' => e = .returned (.agg #[.int .i8 (16), .int .i8 (dD v), .int .i8 (dA v), .int .i8 (dB v), .int .i64 (dN v)]) ∧ Below wx.heap.size wx w') : Calls Tryz.prog 93 #[.int .u32 v] w fun e w' => e = .returned (.bool true) ∧ Below w.heap.size w w' := by
  go_enter Tryz.func93, Tryz.ntmps93
  go_wp2_with (go_at_call 58; refine (CE _).mono ?_; rintro e w1 ⟨rfl, hb⟩)
  go_ret
  exact ⟨rfl, hb⟩
theorem ends17 (v : Int) (w : World) (CE : ∀ wx : World, Calls Tryz.prog 58 #[.int .u32 v] wx fun e w' => e = .returned (.agg #[.int .i8 (17), .int .i8 (dD v), .int .i8 (dA v), .int .i8 (dB v), .int .i64 (dN v)]) ∧ Below wx.heap.size wx w') : Calls Tryz.prog 93 #[.int .u32 v] w fun e w' => e = .returned (.bool true) ∧ Below w.heap.size w w' := by
  go_enter Tryz.func93, Tryz.ntmps93
  go_wp2_with (go_at_call 58; refine (CE _).mono ?_; rintro e w1 ⟨rfl, hb⟩)
  go_ret
  exact ⟨rfl, hb⟩
theorem ends18 (v : Int) (w : World) (CE : ∀ wx : World, Calls Tryz.prog 58 #[.int .u32 v] wx fun e w' => e = .returned (.agg #[.int .i8 (18), .int .i8 (dD v), .int .i8 (dA v), .int .i8 (dB v), .int .i64 (dN v)]) ∧ Below wx.heap.size wx w') : Calls Tryz.prog 93 #[.int .u32 v] w fun e w' => e = .returned (.bool true) ∧ Below w.heap.size w w' := by
  go_enter Tryz.func93, Tryz.ntmps93
  go_wp2_with (go_at_call 58; refine (CE _).mono ?_; rintro e w1 ⟨rfl, hb⟩)
  go_ret
  exact ⟨rfl, hb⟩
theorem ends19 (v : Int) (w : World) (CE : ∀ wx : World, Calls Tryz.prog 58 #[.int .u32 v] wx fun e w' => e = .returned (.agg #[.int .i8 (19), .int .i8 (dD v), .int .i8 (dA v), .int .i8 (dB v), .int .i64 (dN v)]) ∧ Below wx.heap.size wx w') : Calls Tryz.prog 93 #[.int .u32 v] w fun e w' => e = .returned (.bool true) ∧ Below w.heap.size w w' := by
  go_enter Tryz.func93, Tryz.ntmps93
  go_wp2_with (go_at_call 58; refine (CE _).mono ?_; rintro e w1 ⟨rfl, hb⟩)
  go_ret
  exact ⟨rfl, hb⟩
theorem ends21 (v : Int) (w : World) (CE : ∀ wx : World, Calls Tryz.prog 58 #[.int .u32 v] wx fun e w' => e = .returned (.agg #[.int .i8 (21), .int .i8 (dD v), .int .i8 (dA v), .int .i8 (dB v), .int .i64 (dN v)]) ∧ Below wx.heap.size wx w') : Calls Tryz.prog 93 #[.int .u32 v] w fun e w' => e = .returned (.bool true) ∧ Below w.heap.size w w' := by
  go_enter Tryz.func93, Tryz.ntmps93
  go_wp2_with (go_at_call 58; refine (CE _).mono ?_; rintro e w1 ⟨rfl, hb⟩)
  go_ret
  exact ⟨rfl, hb⟩
theorem endsno (v x : Int) (w : World) (CE : ∀ wx : World, Calls Tryz.prog 58 #[.int .u32 v] wx fun e w' => e = .returned (.agg #[.int .i8 x, .int .i8 (dD v), .int .i8 (dA v), .int .i8 (dB v), .int .i64 (dN v)]) ∧ Below wx.heap.size wx w') (hm1 : (x == -1) = false) (h0 : (x == 0) = false) (h15 : (x == 15) = false) (h16 : (x == 16) = false) (h17 : (x == 17) = false) (h18 : (x == 18) = false) (h19 : (x == 19) = false) (h21 : (x == 21) = false) : Calls Tryz.prog 93 #[.int .u32 v] w fun e w' => e = .returned (.bool false) ∧ Below w.heap.size w w' := by
  go_enter Tryz.func93, Tryz.ntmps93
  go_wp2_with (go_at_call 58; refine (CE _).mono ?_; rintro e w1 ⟨rfl, hb⟩)
  go_ret
  exact ⟨rfl, hb⟩
theorem refends_any (v : Int) (h0 : 0 ≤ v) (h1 : v < 4294967296) (w : World) : Calls Tryz.prog 93 #[.int .u32 v] w fun e w' => e = .returned (.bool (endsB (dOp v))) ∧ Below w.heap.size w w' := by
  have CE : ∀ wx : World, Calls Tryz.prog 58 #[.int .u32 v] wx fun e w' => e = .returned (.agg #[.int .i8 (dOp v), .int .i8 (dD v), .int .i8 (dA v), .int .i8 (dB v), .int .i64 (dN v)]) ∧ Below wx.heap.size wx w' := fun wx => refdecode_any v h0 h1 wx
  generalize dOp v = x at CE ⊢
  by_cases hm1 : x = -1
  · subst hm1; exact endsm1 v w CE
  by_cases h0 : x = 0
  · subst h0; exact ends0 v w CE
  by_cases h15 : x = 15
  · subst h15; exact ends15 v w CE
  by_cases h16 : x = 16
  · subst h16; exact ends16 v w CE
  by_cases h17 : x = 17
  · subst h17; exact ends17 v w CE
  by_cases h18 : x = 18
  · subst h18; exact ends18 v w CE
  by_cases h19 : x = 19
  · subst h19; exact ends19 v w CE
  by_cases h21 : x = 21
  · subst h21; exact ends21 v w CE
  have e : endsB x = false := by unfold endsB; exact decide_eq_false (by omega)
  rw [e]
  exact endsno v x w CE (by simpa using hm1) (by simpa using h0) (by simpa using h15) (by simpa using h16) (by simpa using h17) (by simpa using h18) (by simpa using h19) (by simpa using h21)

theorem reftarget_any (v : Int) (h0 : 0 ≤ v) (h1 : v < 4294967296) (w : World) : Calls Tryz.prog 57 #[.int .u32 v] w fun e w' => e = .returned (.tuple #[.int .i64 (tgV v), .bool (isT v)]) ∧ Below w.heap.size w w' := by
  have CE : ∀ wx : World, Calls Tryz.prog 58 #[.int .u32 v] wx fun e w' => e = .returned (.agg #[.int .i8 (dOp v), .int .i8 (dD v), .int .i8 (dA v), .int .i8 (dB v), .int .i64 (dN v)]) ∧ Below wx.heap.size wx w' := fun wx => refdecode_any v h0 h1 wx
  unfold tgV isT
  generalize dOp v = x at CE ⊢
  generalize dN v = n at CE ⊢
  by_cases hx : x < 0
  · have e : decide (0 ≤ x) = false := decide_eq_false (by omega)
    rw [e]
    go_enter Tryz.func57, Tryz.ntmps57
    go_wp2_with (go_at_call 58; refine (CE _).mono ?_; rintro e w1 ⟨rfl, hb⟩)
    go_ret2
    exact ⟨rfl, bel_alloc hb _⟩
  · have e : decide (0 ≤ x) = true := decide_eq_true (by omega)
    rw [e]
    clear e
    cases hp : hP x
    · go_enter Tryz.func57, Tryz.ntmps57
      go_wp2_with (first | (go_at_call 58; refine (CE _).mono ?_; rintro e w1 ⟨rfl, hb⟩) | (go_at_call 72; refine (refhas_any _ _).mono ?_; rintro e w2 ⟨rfl, rfl⟩))
      go_ret2
      exact ⟨rfl, bel_alloc (bel_alloc hb _) _⟩
    · go_enter Tryz.func57, Tryz.ntmps57
      go_wp2_with (first | (go_at_call 58; refine (CE _).mono ?_; rintro e w1 ⟨rfl, hb⟩) | (go_at_call 72; refine (refhas_any _ _).mono ?_; rintro e w2 ⟨rfl, rfl⟩))
      go_ret2
      exact ⟨rfl, bel_alloc (bel_alloc hb _) _⟩




end Go.Proofs.YtokhclindfipbaaGreatDoor
