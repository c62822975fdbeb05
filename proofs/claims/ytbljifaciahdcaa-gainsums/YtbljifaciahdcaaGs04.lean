/-
  The program: costs, Cost, Size.
-/
import Derived.Test.YtbljifaciahdcaaProg
import Derived.WalkKit
import Derived.WalkSpells
import Derived.WalkLawsBesides
import Derived.RowKit3
import Derived.Below
import Derived.Deep.QuietTactic
import Derived.BigQuiet
import Derived.WalkSmall
import Derived.Laws.Rows
import Derived.Test.YtbljifaciahdcaaGs03
import Derived.Deep.WholeRow
namespace Go.Proofs.Ytbljifaciahdcaa
open Go.RowKit

theorem results_cell1 {fn : Func} {p : Tmp} {ty : TypeId} (h : fn.results = #[.cell p ty]) (tmps : Array Value) (P : Program) (w : World) :
    (results fn tmps).run P w = ((asAddr (tmps.getD p undef)).run P w).andThen fun a w₁ => (loadVar ty a).run P w₁ := by
  simp only [results, h]
  simp [Sem.run_bind, Result.andThen]
def COSTS : Array Value := #[.int .i64 0, .int .i64 1, .int .i64 1, .int .i64 1, .int .i64 3]
theorem pcosts_any (w : World) : Calls Try.prog 16 #[] w fun e w' => e = .returned (.agg COSTS) ∧ Below w.heap.size w w' := by
  have HL := run_loadVar_new (P := Try.prog) w 37 COSTS 5 3 Try.underlying37 (by kernel_rfl)
  have HB : Hid (Below w.heap.size w (w.alloc (.cells COSTS 37))) := lb_alloc (Below.refl _ _) _
  unfold COSTS at *
  go_enter Try.func16, Try.ntmps16
  go_wp2
  refine bodyPost_ret (v := .agg COSTS) ?_ rfl ⟨rfl, HB.out⟩
  rw [results_cell1 rfl]
  simp [asAddr, Result.andThen, HL, COSTS]
theorem cost_none {c : Int} (h : c < 0 ∨ 5 ≤ c) : costN c = 0 := by
  unfold costN
  rw [if_neg (by omega), if_neg (by omega)]
theorem wrap64_small {x : Int} (h : -128 ≤ x ∧ x ≤ 127) : wrap64 x = x := by
  unfold wrap64
  omega
set_option maxRecDepth 100000 in
set_option maxHeartbeats 4000000 in
theorem pcost_any (c : Int) (w : World) (hc : In8 c) : Calls Try.prog 9 #[.int .i8 c] w fun e w' => e = .returned (.int .i64 (costN c)) ∧ Below w.heap.size w w' := by
  have C := pcosts_any w
  unfold COSTS at C
  by_cases h0 : c < 0
  · have HV : Hid (costN c = 0) := cost_none (.inl h0)
    clear hc
    go_enter Try.func9, Try.ntmps9
    go_wp2_with fail
    refine C.mono ?_
    rintro e w1 ⟨rfl, hb1⟩
    go_wp2
    go_ret
    exact ⟨by rw [HV.out]; rfl, lb_alloc hb1 _⟩
  · by_cases h5 : 5 ≤ c
    · have HV : Hid (costN c = 0) := cost_none (.inr h5)
      have hw := wrap64_small hc
      clear hc
      go_enter Try.func9, Try.ntmps9
      go_wp2_with fail
      refine C.mono ?_
      rintro e w1 ⟨rfl, hb1⟩
      go_wp2
      go_ret
      exact ⟨by rw [HV.out]; rfl, lb_alloc hb1 _⟩
    · have hq : c = 0 ∨ c = 1 ∨ c = 2 ∨ c = 3 ∨ c = 4 := by omega
      clear hc
      rcases hq with rfl | rfl | rfl | rfl | rfl
      all_goals (
        go_enter Try.func9, Try.ntmps9
        go_wp2_with fail
        refine C.mono ?_
        rintro e w1 ⟨rfl, hb1⟩
        go_wp2
        go_ret
        exact ⟨rfl, lb_alloc hb1 _⟩)

theorem psizeW_any (c n : Int) (w : World) : Calls Try.prog 11 #[.int .i8 c, .int .i64 n] w fun e w' => e = .returned (.int .i64 (sizeN c n)) ∧ w' = w := by
  by_cases h0 : n < 1
  · have HV : Hid (sizeN c n = 0) := if_pos h0
    go_enter Try.func11, Try.ntmps11
    go_wp2
    go_ret
    exact ⟨by rw [HV.out]; rfl, rfl⟩
  · by_cases h : c = 1 ∨ c = 2
    · have HV : Hid (sizeN c n = n) := by unfold Hid sizeN; rw [if_neg h0, if_pos h]
      rcases h with rfl | rfl
      all_goals (
        go_enter Try.func11, Try.ntmps11
        go_wp2
        go_ret
        exact ⟨by rw [HV.out]; rfl, rfl⟩)
    · have o1 : (c == 1) = false := by rw [beq_eq_false_iff_ne]; omega
      have o2 : (c == 2) = false := by rw [beq_eq_false_iff_ne]; omega
      by_cases h4 : c = 3 ∨ c = 4
      · have HV : Hid (sizeN c n = wrap64 (n + 1)) := by unfold Hid sizeN; rw [if_neg h0, if_neg h, if_pos h4]
        obtain ⟨z, hz⟩ : ∃ z, Hid (sizeN c n = z) := ⟨_, rfl⟩
        have HZ : Hid (z = wrap64 (n + 1)) := by rw [← hz.out]; exact HV.out
        rw [hz.out]
        clear h o1 o2 HV hz
        rcases h4 with rfl | rfl
        all_goals (
          go_enter Try.func11, Try.ntmps11
          go_wp2
          go_ret
          exact ⟨by rw [HZ.out]; rfl, rfl⟩)
      · have HV : Hid (sizeN c n = 0) := by unfold Hid sizeN; rw [if_neg h0, if_neg h, if_neg h4]
        have o3 : (c == 3) = false := by rw [beq_eq_false_iff_ne]; omega
        have o4 : (c == 4) = false := by rw [beq_eq_false_iff_ne]; omega
        clear h h4
        go_enter Try.func11, Try.ntmps11
        go_wp2
        go_ret
        exact ⟨by rw [HV.out]; rfl, rfl⟩

theorem psize_any (c n : Int) (w : World) : Calls Try.prog 11 #[.int .i8 c, .int .i64 n] w fun e w' => e = .returned (.int .i64 (sizeN c n)) ∧ Below w.heap.size w w' :=
  (psizeW_any c n w).mono fun _ _ ⟨h, h2⟩ => ⟨h, by rw [h2]; exact Below.refl _ _⟩

end Go.Proofs.Ytbljifaciahdcaa
