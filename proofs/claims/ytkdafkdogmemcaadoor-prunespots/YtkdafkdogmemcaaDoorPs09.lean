/-
  The document's within and overlap.
-/
import Derived.Test.YtkdafkdogmemcaaDoorProg
import Derived.WalkKit
import Derived.WalkSpells
import Derived.WalkLawsBesides
import Derived.RowKit3
import Derived.Below
import Derived.Deep.QuietTactic
import Derived.BigQuiet
import Derived.WalkSmall
import Derived.Laws.Rows
import Derived.Test.YtkdafkdogmemcaaDoorPs04
import Derived.Deep.Cut
namespace Go.Proofs.YtkdafkdogmemcaaDoor
open Go.RowKit

set_option maxRecDepth 100000 in
set_option maxHeartbeats 4000000 in
theorem within_any (n : Int) (A : Option Addr) (c : Nat) (l : List Spt) (w : World) (hA : SpAt w A l) (hl : l.length ≤ 1048576) :
    Calls Tryd.prog 18 #[.int .i64 n, .slice A l.length c] w fun e w' => e = .returned (.bool (wiB n l)) ∧ w' = w := by
  go_enter Tryd.func18, Tryd.ntmps18
  go_wp2
  go_loopw [5] (fun v wr => ∃ k : Nat, v = .int .i64 (k : Int) ∧ k ≤ l.length ∧ Hid ((l.take k).all okS1 = true) ∧ Hid (wr = w)) (fun v _ => l.length - (intOf v).toNat)
  case atStart => exact ⟨0, rfl, Nat.zero_le _, rfl, rfl⟩
  case round =>
    obtain ⟨k, rfl, hk, HT, HW⟩ := hrel
    obtain rfl := HW.out.symm
    clear HW
    by_cases hlt : k < l.length
    · have hlt' : (k : Int) < (l.length : Int) := by omega
      obtain ⟨a, ea, c0, -, -⟩ := hA k hlt
      subst ea
      have hm := spt_mem hlt
      by_cases h0 : (spt l k).1 < 0
      · have HN : Hid (wiB n l = false) := wi_not hm (by unfold okS1; rw [decide_eq_false (by omega)]; rfl)
        clear hm
        generalize spt l k = s at *
        go_wp2
        go_ret
        exact ⟨retB HN.out.symm, by first | exact rfl | exact trivial⟩
      by_cases h1 : 16384 < (spt l k).1
      · have HN : Hid (wiB n l = false) := wi_not hm (by unfold okS1; rw [decide_eq_false (show ¬ (spt l k).1 ≤ 16384 by omega), Bool.and_false])
        clear hm
        generalize spt l k = s at *
        go_wp2
        go_ret
        exact ⟨retB HN.out.symm, by first | exact rfl | exact trivial⟩
      · have HT2 : Hid ((l.take (k + 1)).all okS1 = true) := all_take hlt HT.out (by unfold okS1; rw [decide_eq_true (by omega), decide_eq_true (by omega)]; rfl)
        clear hm HT
        generalize spt l k = s at *
        go_wp2
        go_roundw
        case rel => exact ⟨k + 1, by go_num, by omega, HT2, by first | exact rfl | exact trivial⟩
        case measure => simp [intOf]; omega
    · obtain rfl : k = l.length := by omega
      have hlt' : ¬ (l.length : Int) < (l.length : Int) := by omega
      have HV : Hid (wiB n l = (decide (1 ≤ n) && decide (n ≤ 16384))) := wi_all HT.out
      by_cases h1 : 1 ≤ n
      · by_cases h2 : n ≤ 16384
        · have HV2 : Hid (wiB n l = true) := by unfold Hid; rw [HV.out, decide_eq_true h1, decide_eq_true h2]; rfl
          clear HV HT
          go_wp2
          go_ret
          exact ⟨retB HV2.out.symm, by first | exact rfl | exact trivial⟩
        · have HV2 : Hid (wiB n l = false) := by unfold Hid; rw [HV.out, decide_eq_false h2, Bool.and_false]
          clear HV HT
          go_wp2
          go_ret
          exact ⟨retB HV2.out.symm, by first | exact rfl | exact trivial⟩
      · have HV2 : Hid (wiB n l = false) := by unfold Hid; rw [HV.out, decide_eq_false h1]; rfl
        clear HV HT
        go_wp2
        go_ret
        exact ⟨retB HV2.out.symm, by first | exact rfl | exact trivial⟩
set_option maxRecDepth 100000 in
set_option maxHeartbeats 4000000 in
theorem overlap_any (n a0 a1 a2 b0 b1 b2 : Int) (w : World) (hn : 1 ≤ n ∧ n ≤ 16384) (ha : 0 ≤ a0 ∧ a0 ≤ 16384) (hb : 0 ≤ b0 ∧ b0 ≤ 16384) :
    Calls Tryd.prog 19 #[.int .i64 n, .agg #[.int .i64 a0, .int .i8 a1, .int .i8 a2], .agg #[.int .i64 b0, .int .i8 b1, .int .i8 b2]] w fun e w' => e = .returned (.bool (ovl n (a0, a1, a2) (b0, b1, b2))) ∧ Below w.heap.size w w' := by
  have HB : Hid (Below w.heap.size w ((w.alloc (.cells #[.int .i64 a0, .int .i8 a1, .int .i8 a2] 53)).alloc (.cells #[.int .i64 b0, .int .i8 b1, .int .i8 b2] 53))) := lb_alloc (lb_alloc (Below.refl _ _) _) _
  by_cases h : b0 < a0
  · have HV : Hid (ovl n (a0, a1, a2) (b0, b1, b2) = decide (a0 - n < b0)) := if_pos h
    rw [HV.out]
    clear HV
    go_enter Tryd.func19, Tryd.ntmps19
    go_wp2
    go_ret
    exact ⟨rfl, lb_alloc (lb_alloc (Below.refl _ _) _) _⟩
  · have HV : Hid (ovl n (a0, a1, a2) (b0, b1, b2) = decide (b0 - n < a0)) := if_neg h
    rw [HV.out]
    clear HV
    go_enter Tryd.func19, Tryd.ntmps19
    go_wp2
    go_ret
    exact ⟨rfl, HB.out⟩

end Go.Proofs.YtkdafkdogmemcaaDoor
