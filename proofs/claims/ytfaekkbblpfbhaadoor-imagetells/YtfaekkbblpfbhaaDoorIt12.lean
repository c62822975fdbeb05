/-
  The table of the ops' fields, as the program makes it anew, and what is read of it; no condition. Whether the fields of an instruction may be: allow of package isa, for every op that there is; no other condition.
-/
import Derived.Test.YtfaekkbblpfbhaaDoorIt11
import Derived.Deep.DeepCutAuto
import Derived.Laws.Tables
import Derived.Laws.Rows
import Derived.Laws.CopyOwn
import Derived.Great.BuildSlice
namespace Go.Proofs.YtfaekkbblpfbhaaDoor
open Go.RowKit

def shV : Array Value := #[.int .u8 0, .int .u8 9, .int .u8 3, .int .u8 7, .int .u8 7, .int .u8 7, .int .u8 7, .int .u8 7, .int .u8 7, .int .u8 7, .int .u8 7, .int .u8 11, .int .u8 14, .int .u8 1, .int .u8 10, .int .u8 24, .int .u8 26, .int .u8 24, .int .u8 2, .int .u8 2, .int .u8 25, .int .u8 0]
def zs22 : Array Value := #[.int .u8 0, .int .u8 0, .int .u8 0, .int .u8 0, .int .u8 0, .int .u8 0, .int .u8 0, .int .u8 0, .int .u8 0, .int .u8 0, .int .u8 0, .int .u8 0, .int .u8 0, .int .u8 0, .int .u8 0, .int .u8 0, .int .u8 0, .int .u8 0, .int .u8 0, .int .u8 0, .int .u8 0, .int .u8 0]

theorem heap_new (w : World) (o : Obj) : (w.alloc o).heap[w.heap.size]? = some o := heap_alloc_new w o

theorem shapes_res (w1 : World) (g : Nat) (h : w1.heap[g]? = some (.cells shV 155 (0, 0))) : (results Tryd.f86 #[.pointer (some ⟨g, 0, none⟩), .agg shV]).run Tryd.prog w1 = .ok (.agg shV) w1 := by
  have hl := run_loadVar_row (P := Tryd.prog) w1 g 155 155 shV (0, 0) _ h Tryd.underlying155 rfl (by kernel_rfl)
  have ha : (asAddr (Value.pointer (some ⟨g, 0, none⟩))).run Tryd.prog w1 = .ok ⟨g, 0, none⟩ w1 := rfl
  have hm : (results Tryd.f86 #[.pointer (some ⟨g, 0, none⟩), .agg shV]) = (do
      let vs ← (Tryd.f86.results.mapM fun
        | .tmp t => pure ((#[Value.pointer (some ⟨g, 0, none⟩), .agg shV] : Array Value).getD t undef)
        | .cell a t => do loadVar t (← asAddr ((#[Value.pointer (some ⟨g, 0, none⟩), .agg shV] : Array Value).getD a undef)) : Sem (Array Value))
      pure (if h : vs.size = 1 then vs[0] else .tuple vs)) := rfl
  rw [hm, Tryd.results86]
  have hg0 : (#[Value.pointer (some ⟨g, 0, none⟩), Value.agg shV] : Array Value).getD 0 undef = .pointer (some ⟨g, 0, none⟩) := rfl
  simp only [List.mapM_toArray, List.mapM_cons, List.mapM_nil, map_eq_pure_bind, bind_assoc, pure_bind, Sem.run_bind, Sem.run_pure, Result.andThen_ok, hg0, ha, hl]
  rfl

set_option maxRecDepth 100000 in
theorem shapes_any (w : World) : Calls Tryd.prog 86 #[] w fun e w' => e = .returned (.agg shV) ∧ Below w.heap.size w w' := by
  go_enter Tryd.func86, Tryd.ntmps86
  go_upto_region 1 with fail
  rename_i hK
  apply wp_region_lit
  refine wpList_buildTo rfl 155 _ rfl (some 1) rfl shV (by kernel_rfl) ?_
  refine wpList_store_row rfl 155 _ _ rfl w.heap.size shV rfl rfl 155 zs22 (heap_new _ _) (by kernel_rfl) (by kernel_rfl) (by kernel_rfl) ?_
  apply wpList_nil
  refine hK _ _ (wp_ret ?_)
  exact bodyPost_ret (v := .agg shV) (shapes_res _ _ (setRow_heap _ _ zs22 _ _ _ (heap_new _ _))) rfl ⟨rfl, below_setRow (bel_alloc (Below.refl _ _) _) (Nat.le_refl _) _⟩
theorem index_sh0 (w : World) : (Instr.index 155 (.agg shV) (.int .i8 0)).run Tryd.prog w = .ok (.int .u8 (sh 0)) w := by kernel_rfl
theorem index_sh1 (w : World) : (Instr.index 155 (.agg shV) (.int .i8 1)).run Tryd.prog w = .ok (.int .u8 (sh 1)) w := by kernel_rfl
theorem index_sh2 (w : World) : (Instr.index 155 (.agg shV) (.int .i8 2)).run Tryd.prog w = .ok (.int .u8 (sh 2)) w := by kernel_rfl
theorem index_sh3 (w : World) : (Instr.index 155 (.agg shV) (.int .i8 3)).run Tryd.prog w = .ok (.int .u8 (sh 3)) w := by kernel_rfl
theorem index_sh4 (w : World) : (Instr.index 155 (.agg shV) (.int .i8 4)).run Tryd.prog w = .ok (.int .u8 (sh 4)) w := by kernel_rfl
theorem index_sh5 (w : World) : (Instr.index 155 (.agg shV) (.int .i8 5)).run Tryd.prog w = .ok (.int .u8 (sh 5)) w := by kernel_rfl
theorem index_sh6 (w : World) : (Instr.index 155 (.agg shV) (.int .i8 6)).run Tryd.prog w = .ok (.int .u8 (sh 6)) w := by kernel_rfl
theorem index_sh7 (w : World) : (Instr.index 155 (.agg shV) (.int .i8 7)).run Tryd.prog w = .ok (.int .u8 (sh 7)) w := by kernel_rfl
theorem index_sh8 (w : World) : (Instr.index 155 (.agg shV) (.int .i8 8)).run Tryd.prog w = .ok (.int .u8 (sh 8)) w := by kernel_rfl
theorem index_sh9 (w : World) : (Instr.index 155 (.agg shV) (.int .i8 9)).run Tryd.prog w = .ok (.int .u8 (sh 9)) w := by kernel_rfl
theorem index_sh10 (w : World) : (Instr.index 155 (.agg shV) (.int .i8 10)).run Tryd.prog w = .ok (.int .u8 (sh 10)) w := by kernel_rfl
theorem index_sh11 (w : World) : (Instr.index 155 (.agg shV) (.int .i8 11)).run Tryd.prog w = .ok (.int .u8 (sh 11)) w := by kernel_rfl
theorem index_sh12 (w : World) : (Instr.index 155 (.agg shV) (.int .i8 12)).run Tryd.prog w = .ok (.int .u8 (sh 12)) w := by kernel_rfl
theorem index_sh13 (w : World) : (Instr.index 155 (.agg shV) (.int .i8 13)).run Tryd.prog w = .ok (.int .u8 (sh 13)) w := by kernel_rfl
theorem index_sh14 (w : World) : (Instr.index 155 (.agg shV) (.int .i8 14)).run Tryd.prog w = .ok (.int .u8 (sh 14)) w := by kernel_rfl
theorem index_sh15 (w : World) : (Instr.index 155 (.agg shV) (.int .i8 15)).run Tryd.prog w = .ok (.int .u8 (sh 15)) w := by kernel_rfl
theorem index_sh16 (w : World) : (Instr.index 155 (.agg shV) (.int .i8 16)).run Tryd.prog w = .ok (.int .u8 (sh 16)) w := by kernel_rfl
theorem index_sh17 (w : World) : (Instr.index 155 (.agg shV) (.int .i8 17)).run Tryd.prog w = .ok (.int .u8 (sh 17)) w := by kernel_rfl
theorem index_sh18 (w : World) : (Instr.index 155 (.agg shV) (.int .i8 18)).run Tryd.prog w = .ok (.int .u8 (sh 18)) w := by kernel_rfl
theorem index_sh19 (w : World) : (Instr.index 155 (.agg shV) (.int .i8 19)).run Tryd.prog w = .ok (.int .u8 (sh 19)) w := by kernel_rfl
theorem index_sh20 (w : World) : (Instr.index 155 (.agg shV) (.int .i8 20)).run Tryd.prog w = .ok (.int .u8 (sh 20)) w := by kernel_rfl
theorem index_sh21 (w : World) : (Instr.index 155 (.agg shV) (.int .i8 21)).run Tryd.prog w = .ok (.int .u8 (sh 21)) w := by kernel_rfl
theorem index_sh (op : Int) (h0 : 0 ≤ op) (h1 : op ≤ 21) (w : World) : (Instr.index 155 (.agg shV) (.int .i8 op)).run Tryd.prog w = .ok (.int .u8 (sh op)) w := by
  have h : op = 0 ∨ op = 1 ∨ op = 2 ∨ op = 3 ∨ op = 4 ∨ op = 5 ∨ op = 6 ∨ op = 7 ∨ op = 8 ∨ op = 9 ∨ op = 10 ∨ op = 11 ∨ op = 12 ∨ op = 13 ∨ op = 14 ∨ op = 15 ∨ op = 16 ∨ op = 17 ∨ op = 18 ∨ op = 19 ∨ op = 20 ∨ op = 21 := by omega
  rcases h with rfl | rfl | rfl | rfl | rfl | rfl | rfl | rfl | rfl | rfl | rfl | rfl | rfl | rfl | rfl | rfl | rfl | rfl | rfl | rfl | rfl | rfl
  · exact index_sh0 w
  · exact index_sh1 w
  · exact index_sh2 w
  · exact index_sh3 w
  · exact index_sh4 w
  · exact index_sh5 w
  · exact index_sh6 w
  · exact index_sh7 w
  · exact index_sh8 w
  · exact index_sh9 w
  · exact index_sh10 w
  · exact index_sh11 w
  · exact index_sh12 w
  · exact index_sh13 w
  · exact index_sh14 w
  · exact index_sh15 w
  · exact index_sh16 w
  · exact index_sh17 w
  · exact index_sh18 w
  · exact index_sh19 w
  · exact index_sh20 w
  · exact index_sh21 w


end Go.Proofs.YtfaekkbblpfbhaaDoor

namespace Go.Proofs.YtfaekkbblpfbhaaDoor
open Go.RowKit


set_option maxRecDepth 100000 in
set_option maxHeartbeats 1000000 in
theorem allow_of (f x d a b n lo hi : Int) (rd ra rb : Bool) (w : World)
    (CR : ∀ wx : World, Calls Tryd.prog 97 #[.int .u8 f] wx fun e w' => e = .returned (.tuple #[.int .i64 lo, .int .i64 hi]) ∧ w' = wx)
    (C1 : ∀ wx : World, Calls Tryd.prog 98 #[.int .u8 f, .int .u8 1, .int .i8 d] wx fun e w' => e = .returned (.bool rd) ∧ w' = wx)
    (C2 : ∀ wx : World, Calls Tryd.prog 98 #[.int .u8 f, .int .u8 2, .int .i8 a] wx fun e w' => e = .returned (.bool ra) ∧ w' = wx)
    (C4 : ∀ wx : World, Calls Tryd.prog 98 #[.int .u8 f, .int .u8 4, .int .i8 b] wx fun e w' => e = .returned (.bool rb) ∧ w' = wx) :
    Calls Tryd.prog 88 #[.int .u8 f, .agg #[.int .i8 x, .int .i8 d, .int .i8 a, .int .i8 b, .int .i64 n]] w fun e w' => e = .returned (.bool (rd && ra && rb && (decide (lo ≤ n) && decide (n ≤ hi)))) ∧ w' = w.alloc (.cells #[.int .i8 x, .int .i8 d, .int .i8 a, .int .i8 b, .int .i64 n] 70) := by
  cases rd with
  | false =>
    go_enter Tryd.func88, Tryd.ntmps88
    go_wp2_with fail
    refine (CR _).mono ?_
    rintro e w1 ⟨rfl, rfl⟩
    go_wp2_with fail
    refine (C1 _).mono ?_
    rintro e w1 ⟨rfl, rfl⟩
    go_wp2
    go_ret
    exact ⟨by first | rfl | (simp [*]; done) | (simp [*]; omega), rfl⟩
  | true =>
  cases ra with
  | false =>
    go_enter Tryd.func88, Tryd.ntmps88
    go_wp2_with fail
    refine (CR _).mono ?_
    rintro e w1 ⟨rfl, rfl⟩
    go_wp2_with fail
    refine (C1 _).mono ?_
    rintro e w1 ⟨rfl, rfl⟩
    go_wp2_with fail
    refine (C2 _).mono ?_
    rintro e w1 ⟨rfl, rfl⟩
    go_wp2
    go_ret
    exact ⟨by first | rfl | (simp [*]; done) | (simp [*]; omega), rfl⟩
  | true =>
  cases rb with
  | false =>
    go_enter Tryd.func88, Tryd.ntmps88
    go_wp2_with fail
    refine (CR _).mono ?_
    rintro e w1 ⟨rfl, rfl⟩
    go_wp2_with fail
    refine (C1 _).mono ?_
    rintro e w1 ⟨rfl, rfl⟩
    go_wp2_with fail
    refine (C2 _).mono ?_
    rintro e w1 ⟨rfl, rfl⟩
    go_wp2_with fail
    refine (C4 _).mono ?_
    rintro e w1 ⟨rfl, rfl⟩
    go_wp2
    go_ret
    exact ⟨by first | rfl | (simp [*]; done) | (simp [*]; omega), rfl⟩
  | true =>
  by_cases hl : lo ≤ n
  · go_enter Tryd.func88, Tryd.ntmps88
    go_wp2_with fail
    refine (CR _).mono ?_
    rintro e w1 ⟨rfl, rfl⟩
    go_wp2_with fail
    refine (C1 _).mono ?_
    rintro e w1 ⟨rfl, rfl⟩
    go_wp2_with fail
    refine (C2 _).mono ?_
    rintro e w1 ⟨rfl, rfl⟩
    go_wp2_with fail
    refine (C4 _).mono ?_
    rintro e w1 ⟨rfl, rfl⟩
    go_wp2
    go_ret
    exact ⟨by first | rfl | (simp [*]; done) | (simp [*]; omega), rfl⟩
  · go_enter Tryd.func88, Tryd.ntmps88
    go_wp2_with fail
    refine (CR _).mono ?_
    rintro e w1 ⟨rfl, rfl⟩
    go_wp2_with fail
    refine (C1 _).mono ?_
    rintro e w1 ⟨rfl, rfl⟩
    go_wp2_with fail
    refine (C2 _).mono ?_
    rintro e w1 ⟨rfl, rfl⟩
    go_wp2_with fail
    refine (C4 _).mono ?_
    rintro e w1 ⟨rfl, rfl⟩
    go_wp2
    go_ret
    exact ⟨by first | rfl | (simp [*]; done) | (simp [*]; omega), rfl⟩

theorem allow_any (op x d a b n : Int) (h0 : 0 ≤ op) (h1 : op ≤ 21) (w : World) : Calls Tryd.prog 88 #[.int .u8 (sh op), .agg #[.int .i8 x, .int .i8 d, .int .i8 a, .int .i8 b, .int .i64 n]] w fun e w' => e = .returned (.bool (insOK op d a b n)) ∧ w' = w.alloc (.cells #[.int .i8 x, .int .i8 d, .int .i8 a, .int .i8 b, .int .i64 n] 70) := by
  obtain ⟨b1, b2, b4, b8, b16⟩ := sh_bits op h0 h1
  have h := allow_of (sh op) x d a b n _ _ _ _ _ w (frange_any (sh op) _ _ b8 b16) (fregister_any (sh op) 1 d _ b1) (fregister_any (sh op) 2 a _ b2) (fregister_any (sh op) 4 b _ b4)
  rw [num_lohi _ _ (hP_hN op)] at h
  exact h


end Go.Proofs.YtfaekkbblpfbhaaDoor
