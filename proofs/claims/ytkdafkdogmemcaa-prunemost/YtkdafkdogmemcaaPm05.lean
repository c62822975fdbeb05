/-
  mayBe.
-/
import Derived.Test.YtkdafkdogmemcaaProg
import Derived.WalkKit
import Derived.WalkSpells
import Derived.WalkLawsBesides
import Derived.RowKit3
import Derived.Below
import Derived.Deep.QuietTactic
import Derived.BigQuiet
import Derived.WalkSmall
import Derived.Laws.Rows
import Derived.Test.YtkdafkdogmemcaaPm03
import Derived.Test.YtkdafkdogmemcaaPm02
import Derived.Deep.Cut
import Derived.Deep.RegionHeld3
namespace Go.Proofs.Ytkdafkdogmemcaa
open Go.RowKit

theorem retB20 {b c : Bool} (h : b = c) : Ending.returned (.bool b) = .returned (.bool c) := by rw [h]
set_option maxRecDepth 100000 in
set_option maxHeartbeats 2000000 in
theorem mb1_any (s0 s1 s2 : Int) (w : World) :
    Calls Try.prog 14 #[.agg #[.int .i64 s0, .int .i8 s1, .int .i8 s2]] w fun e w' => e = .returned (.bool (!okS1 (s0, s1, s2))) ∧ Below w.heap.size w w' := by
  obtain ⟨X, HX⟩ : ∃ X, Hid (w.alloc (.cells #[.int .i64 s0, .int .i8 s1, .int .i8 s2] 27) = X) := ⟨_, rfl⟩
  have HB : Hid (Below w.heap.size w X) := by unfold Hid; rw [← HX.out]; exact lb_alloc (Below.refl _ _) _
  have x0 : X.cell? ⟨w.heap.size, 0, none⟩ = some (.int .i64 s0) := by rw [← HX.out]; simp [go_sem]
  by_cases h0 : s0 < 0
  · have HV : Hid ((!okS1 (s0, s1, s2)) = true) := by unfold Hid okS1; rw [decide_eq_false (by omega)]; rfl
    go_enter Try.func14, Try.ntmps14
    go_upto_region 1 with fail
    rw [HX.out]
    clear HX
    go_wp2
    go_ret
    exact ⟨retB20 HV.out.symm, by first | exact HB.out | exact below_drewN HB.out _ | exact HB.out.drew⟩
  · by_cases h1 : 16384 < s0
    · have HV : Hid ((!okS1 (s0, s1, s2)) = true) := by unfold Hid okS1; rw [decide_eq_false (show ¬ s0 ≤ 16384 by omega), Bool.and_false]; rfl
      go_enter Try.func14, Try.ntmps14
      go_upto_region 1 with fail
      rw [HX.out]
      clear HX
      go_wp2
      go_ret
      exact ⟨retB20 HV.out.symm, by first | exact HB.out | exact below_drewN HB.out _ | exact HB.out.drew⟩
    · have HV : Hid ((!okS1 (s0, s1, s2)) = false) := by unfold Hid okS1; rw [decide_eq_true (show 0 ≤ s0 by omega), decide_eq_true (show s0 ≤ 16384 by omega)]; rfl
      go_enter Try.func14, Try.ntmps14
      go_upto_region 1 with fail
      rw [HX.out]
      clear HX
      go_wp2
      go_ret
      exact ⟨retB20 HV.out.symm, by first | exact HB.out | exact below_drewN HB.out _ | exact HB.out.drew⟩
set_option maxRecDepth 100000 in
set_option maxHeartbeats 4000000 in
theorem mbi_any (A : Option Addr) (c : Nat) (l : List Spt) (w : World) (hA : SpAt w A l) (hl : l.length ≤ 1048576) :
    Calls Try.prog 20 #[.slice A l.length c, .func (.func 14) #[] #[]] w fun e w' => (∃ k : Int, e = .returned (.int .i64 k) ∧ (decide (0 ≤ k)) = !l.all okS1) ∧ Below w.heap.size w w' := by
  have HA : Hid (SpAt w A l) := hA
  clear hA
  go_enter Try.func20, Try.ntmps20
  go_wp2
  go_loopw [8] (fun v wr => ∃ k : Nat, v = .int .i64 (k : Int) ∧ k ≤ l.length ∧ Hid ((l.take k).all okS1 = true) ∧ Hid (Below w.heap.size w wr)) (fun v _ => l.length - (intOf v).toNat)
  case atStart => exact ⟨0, rfl, Nat.zero_le _, rfl, Below.refl _ _⟩
  case round =>
    obtain ⟨k, rfl, hk, HT, HB⟩ := hrel
    by_cases hlt : k < l.length
    · have hlt' : (k : Int) < (l.length : Int) := by omega
      obtain ⟨a, ea, c0, c1, c2⟩ := (HA.out.keep HB.out) k hlt
      subst ea
      replace c0 : wr.cell? (a.add (k * 3)) = some (.int .i64 (spt l k).1) := c0
      replace c1 : wr.cell? ⟨(a.add (k * 3)).block, (a.add (k * 3)).off + 1, none⟩ = some (.int .i8 (spt l k).2.1) := c1
      replace c2 : wr.cell? ⟨(a.add (k * 3)).block, (a.add (k * 3)).off + 2, none⟩ = some (.int .i8 (spt l k).2.2) := c2
      have HM : Hid (spt l k ∈ l) := spt_mem hlt
      have HT2 : Hid (okS1 (spt l k) = true → (l.take (k + 1)).all okS1 = true) := fun h => all_take hlt HT.out h
      clear HT
      generalize spt l k = s at *
      obtain ⟨s0, s1, s2⟩ := s
      have C := fun Z => mb1_any s0 s1 s2 Z
      cases hs : okS1 (s0, s1, s2) with
      | true =>
        rw [hs] at C
        have HT3 := HT2.out hs
        have HTT : Hid ((l.take (k + 1)).all okS1 = true) := HT3
        clear hs HT3 HT2
        go_wp2_with (go_at_call 14; refine (C _).mono ?_; rintro e w5 ⟨rfl, hb5⟩)
        have HW5 : Hid (Below w.heap.size w w5) := lb_trans HB.out hb5
        clear hb5
        go_wp2
        go_roundw
        case rel => exact ⟨k + 1, by go_num, by omega, HTT, HW5⟩
        case measure => simp [intOf]; omega
      | false =>
        rw [hs] at C
        have HV : Hid ((decide (0 ≤ (k : Int))) = !l.all okS1) := by
          unfold Hid
          rw [decide_eq_true (by omega)]
          have : l.all okS1 = false := by
            rw [List.all_eq_false]
            exact ⟨_, HM.out, by rw [hs]; exact Bool.false_ne_true⟩
          rw [this]; rfl
        clear hs HT2
        go_wp2_with (go_at_call 14; refine (C _).mono ?_; rintro e w5 ⟨rfl, hb5⟩)
        have HW5 : Hid (Below w.heap.size w w5) := lb_trans HB.out hb5
        clear hb5
        go_wp2
        go_ret
        exact ⟨⟨_, rfl, HV.out⟩, HW5.out⟩
    · obtain rfl : k = l.length := by omega
      have hlt' : ¬ (l.length : Int) < (l.length : Int) := by omega
      have HV : Hid ((decide (0 ≤ (-1 : Int))) = !l.all okS1) := by
        have := HT.out
        rw [List.take_length] at this
        unfold Hid
        rw [this]; rfl
      clear HT
      go_wp2
      go_ret
      exact ⟨⟨_, rfl, HV.out⟩, HB.out⟩
set_option maxRecDepth 100000 in
theorem mbc_any (A : Option Addr) (c : Nat) (l : List Spt) (w : World) (hA : SpAt w A l) (hl : l.length ≤ 1048576) :
    Calls Try.prog 13 #[.slice A l.length c, .func (.func 14) #[] #[]] w fun e w' => e = .returned (.bool (!l.all okS1)) ∧ Below w.heap.size w w' := by
  have C := mbi_any A c l w hA hl
  clear hA
  go_enter Try.func13, Try.ntmps13
  go_wp2_with fail
  refine C.mono ?_
  rintro e w1 ⟨⟨k, rfl, hv⟩, hb⟩
  have HV : Hid ((decide (0 ≤ k)) = !l.all okS1) := hv
  have HB : Hid (Below w.heap.size w w1) := hb
  clear hv hb
  go_wp2
  go_ret
  exact ⟨retB20 HV.out, HB.out⟩
set_option maxRecDepth 100000 in
set_option maxHeartbeats 2000000 in
theorem maybe_any (n : Int) (A : Option Addr) (c : Nat) (l : List Spt) (w : World) (hA : SpAt w A l) (hl : l.length ≤ 1048576) :
    Calls Try.prog 7 #[.int .i64 n, .slice A l.length c] w fun e w' => e = .returned (.bool (wiB n l)) ∧ Below w.heap.size w w' := by
  have C := mbc_any A c l w hA hl
  clear hA
  by_cases h1 : n < 1
  · have HV : Hid (wiB n l = false) := by unfold Hid wiB; rw [decide_eq_false (show ¬ 1 ≤ n by omega), Bool.false_and, Bool.and_false]
    go_enter Try.func7, Try.ntmps7
    go_wp2
    go_ret
    exact ⟨retB20 HV.out.symm, by first | exact Below.refl _ _ | exact below_drewN (Below.refl _ _) _⟩
  · by_cases h2 : 16384 < n
    · have HV : Hid (wiB n l = false) := by unfold Hid wiB; rw [decide_eq_false (show ¬ n ≤ 16384 by omega), Bool.and_false, Bool.and_false]
      go_enter Try.func7, Try.ntmps7
      go_wp2
      go_ret
      exact ⟨retB20 HV.out.symm, by first | exact Below.refl _ _ | exact below_drewN (Below.refl _ _) _⟩
    · have HV : Hid (wiB n l = l.all okS1) := by unfold Hid wiB; rw [decide_eq_true (show 1 ≤ n by omega), decide_eq_true (show n ≤ 16384 by omega), Bool.and_self, Bool.and_true]
      go_enter Try.func7, Try.ntmps7
      go_wp2_with fail
      refine C.mono ?_
      rintro e w1 ⟨rfl, hb⟩
      go_wp2
      go_ret
      exact ⟨retB20 (by rw [HV.out]), hb⟩

end Go.Proofs.Ytkdafkdogmemcaa
