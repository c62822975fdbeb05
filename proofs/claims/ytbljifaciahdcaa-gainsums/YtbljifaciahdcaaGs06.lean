/-
  The document's Cost, Size and Gain. GainSums.
-/
import Derived.Test.YtbljifaciahdcaaProg
import Derived.WalkKit
import Derived.WalkSpells
import Derived.WalkLawsBesides
import Derived.RowKit3
import Derived.Below
import Derived.Deep.QuietTactic
import Derived.BigQuiet
import Derived.WalkSmall
import Derived.Laws.Rows
import Derived.Test.YtbljifaciahdcaaGs03
import Derived.Deep.Cut
import Derived.Test.YtbljifaciahdcaaGs05
namespace Go.Proofs.Ytbljifaciahdcaa
open Go.RowKit

theorem refcost_any (c : Int) (w : World) : Calls Try.prog 10 #[.int .i8 c] w fun e w' => e = .returned (.int .i64 (costN c)) ∧ w' = w := by
  by_cases h : c = 1 ∨ c = 2 ∨ c = 3
  · have HV : Hid (costN c = 1) := if_pos h
    rcases h with rfl | rfl | rfl
    all_goals (
      go_enter Try.func10, Try.ntmps10
      go_wp2
      go_ret
      exact ⟨by rw [HV.out]; rfl, rfl⟩)
  · have o1 : (c == 1) = false := by rw [beq_eq_false_iff_ne]; omega
    have o2 : (c == 2) = false := by rw [beq_eq_false_iff_ne]; omega
    have o3 : (c == 3) = false := by rw [beq_eq_false_iff_ne]; omega
    by_cases h4 : c = 4
    · have HV : Hid (costN c = 3) := by unfold Hid costN; rw [if_neg h, if_pos h4]
      subst h4
      clear h o1 o2 o3
      go_enter Try.func10, Try.ntmps10
      go_wp2
      go_ret
      exact ⟨by rw [HV.out]; rfl, rfl⟩
    · have HV : Hid (costN c = 0) := by unfold Hid costN; rw [if_neg h, if_neg h4]
      have o4 : (c == 4) = false := by rw [beq_eq_false_iff_ne]; omega
      clear h h4
      go_enter Try.func10, Try.ntmps10
      go_wp2
      go_ret
      exact ⟨by rw [HV.out]; rfl, rfl⟩

theorem refsize_any (c n : Int) (w : World) : Calls Try.prog 12 #[.int .i8 c, .int .i64 n] w fun e w' => e = .returned (.int .i64 (sizeN c n)) ∧ w' = w := by
  by_cases h0 : n < 1
  · have HV : Hid (sizeN c n = 0) := if_pos h0
    go_enter Try.func12, Try.ntmps12
    go_wp2
    go_ret
    exact ⟨by rw [HV.out]; rfl, rfl⟩
  · by_cases h : c = 1 ∨ c = 2
    · have HV : Hid (sizeN c n = n) := by unfold Hid sizeN; rw [if_neg h0, if_pos h]
      rcases h with rfl | rfl
      all_goals (
        go_enter Try.func12, Try.ntmps12
        go_wp2
        go_ret
        exact ⟨by rw [HV.out]; rfl, rfl⟩)
    · have o1 : (c == 1) = false := by rw [beq_eq_false_iff_ne]; omega
      have o2 : (c == 2) = false := by rw [beq_eq_false_iff_ne]; omega
      by_cases h4 : c = 3 ∨ c = 4
      · have HV : Hid (sizeN c n = wrap64 (n + 1)) := by unfold Hid sizeN; rw [if_neg h0, if_neg h, if_pos h4]
        obtain ⟨z, hz⟩ : ∃ z, Hid (sizeN c n = z) := ⟨_, rfl⟩
        have HZ : Hid (z = wrap64 (n + 1)) := by rw [← hz.out]; exact HV.out
        rw [hz.out]
        clear h o1 o2 HV hz
        rcases h4 with rfl | rfl
        all_goals (
          go_enter Try.func12, Try.ntmps12
          go_wp2
          go_ret
          exact ⟨by rw [HZ.out]; rfl, rfl⟩)
      · have HV : Hid (sizeN c n = 0) := by unfold Hid sizeN; rw [if_neg h0, if_neg h, if_neg h4]
        have o3 : (c == 3) = false := by rw [beq_eq_false_iff_ne]; omega
        have o4 : (c == 4) = false := by rw [beq_eq_false_iff_ne]; omega
        clear h h4
        go_enter Try.func12, Try.ntmps12
        go_wp2
        go_ret
        exact ⟨by rw [HV.out]; rfl, rfl⟩

set_option maxRecDepth 100000 in
set_option maxHeartbeats 4000000 in
theorem refgain_any (n : Int) (A : Option Addr) (c : Nat) (l : List Spt) (w : World) (hA : SpAt w A l) (hl : l.length ≤ 65536) :
    Calls Try.prog 8 #[.int .i64 n, .slice A l.length c] w fun e w' => e = .returned (.int .i64 (gainN n l)) ∧ w' = w := by
  by_cases h0 : 0 < l.length
  · have h0' : ((l.length : Int) == 0) = false := by rw [beq_eq_false_iff_ne]; omega
    by_cases h1 : n < 1
    · have HV : Hid (gainN n l = 0) := gain_no (by omega)
      clear hA
      go_enter Try.func8, Try.ntmps8
      go_wp2
      go_ret
      exact ⟨by rw [HV.out]; rfl, rfl⟩
    · by_cases h2 : 16384 < n
      · have HV : Hid (gainN n l = 0) := gain_no (by omega)
        clear hA
        go_enter Try.func8, Try.ntmps8
        go_wp2
        go_ret
        exact ⟨by rw [HV.out]; rfl, rfl⟩
      · have HV : Hid (gainN n l = sumN n l l.length) := gain_yes h0 (by omega)
        have HA : Hid (SpAt w A l) := hA
        have HS : Hid (∀ k : Nat, -16385 - 3 * (k : Int) ≤ sumN n l k ∧ sumN n l k ≤ 16384 * (k : Int)) := sumN_b l (by omega)
        have HZ : Hid (sumN n l 0 = - sizeN (spt l 0).2.1 n) := rfl
        have HN : Hid (∀ k, sumN n l (k + 1) = sumN n l k + n - costN (spt l k).2.1) := fun _ => rfl
        have hsb := sizeN_b (c := (spt l 0).2.1) (n := n) (by omega)
        obtain ⟨a, ea, -, p1, -⟩ := hA 0 h0
        subst ea
        replace p1 : w.cell? ⟨(a.add (0 * 3)).block, (a.add (0 * 3)).off + 1, none⟩ = some (.int .i8 (spt l 0).2.1) := p1
        have e0 : a.add (0 * 3) = a := by simp [Addr.add]
        rw [e0] at p1
        have C := fun Z => refsize_any (spt l 0).2.1 n Z
        rw [HV.out]
        clear hA HV e0
        generalize hq : sizeN (spt l 0).2.1 n = q at *
        generalize hc0 : (spt l 0).2.1 = c0 at *
        have HQ : Hid (sumN n l 0 = - q) := HZ.out
        have hl0 : (0 : Int) < (l.length : Int) := by omega
        have h1' : 1 ≤ n := by omega
        have h2' : n ≤ 16384 := by omega
        clear HZ h1 h2 hq hc0
        go_enter Try.func8, Try.ntmps8
        go_upto_region 4 with (go_at_call 12; refine (C _).mono ?_; rintro e w1 ⟨rfl, rfl⟩)
        clear C p1
        go_wp2
        go_loopw [5, 6] (fun vs vi wr => ∃ k : Nat, vi = .int .i64 (k : Int) ∧ k ≤ l.length ∧ vs = .int .i64 (sumN n l k) ∧ Hid (wr = w1)) (fun _ vi _ => l.length - (intOf vi).toNat)
        case atStart => exact ⟨0, rfl, Nat.zero_le _, by rw [HQ.out], rfl⟩
        case round =>
          clear HQ hsb
          obtain ⟨k, rfl, hk, rfl, HW⟩ := hrel
          obtain rfl := HW.out
          clear HW
          by_cases hlt : k < l.length
          · have hlt' : (k : Int) < (l.length : Int) := by omega
            have hk0 : (0 : Int) ≤ (k : Int) := by omega
            obtain ⟨a', ea, -, q1, -⟩ := HA.out k hlt
            cases ea
            replace q1 : wr.cell? ⟨(a.add (k * 3)).block, (a.add (k * 3)).off + 1, none⟩ = some (.int .i8 (spt l k).2.1) := q1
            have C := fun Z => refcost_any (spt l k).2.1 Z
            have HNk : Hid (sumN n l (k + 1) = sumN n l k + n - costN (spt l k).2.1) := HN.out k
            have hsk := HS.out k
            have hck := costN_b (spt l k).2.1
            generalize costN (spt l k).2.1 = ck at *
            generalize (spt l k).2.1 = kc at *
            generalize sumN n l k = sk at *
            go_wp2_with (go_at_call 10; refine (C _).mono ?_; rintro e w2 ⟨rfl, rfl⟩)
            go_roundw
            case rel => exact ⟨k + 1, by go_num, by omega, by rw [HNk.out], by first | exact rfl | exact trivial⟩
            case measure => simp [intOf]; omega
          · obtain rfl : k = l.length := by omega
            have hlt' : ¬ (l.length : Int) < (l.length : Int) := by omega
            go_wp2
            go_ret
            exact ⟨rfl, rfl⟩
  · have HV : Hid (gainN n l = 0) := gain_no (by omega)
    obtain rfl : l = [] := List.eq_nil_of_length_eq_zero (by omega)
    clear hA
    go_enter Try.func8, Try.ntmps8
    go_wp2
    go_ret
    exact ⟨by rw [HV.out]; rfl, rfl⟩

end Go.Proofs.Ytbljifaciahdcaa

namespace Go.Proofs.Ytbljifaciahdcaa
open Go.RowKit

set_option maxRecDepth 100000 in
set_option maxHeartbeats 4000000 in
theorem lawSums21 (n cl : Int) (A : Option Addr) (c : Nat) (zs : List Spt) (w : World) (hA : SpAt w A zs) (h0 : A = none → c = 0) (_hc : zs.length ≤ c) (hI : SpI zs) (hcl : In8 cl) :
    Calls Try.prog 3 #[.int .i64 n, .slice A zs.length c, .int .i8 cl] w fun e w' => e = .returned (.bool true) ∧ Below w.heap.size w w' := by
  have LV := fun wx => works_any wx
  by_cases hbig : 4096 < zs.length
  · have hbig' : (4096 : Int) < (zs.length : Int) := by omega
    clear hA
    go_enter Try.func3, Try.ntmps3
    go_wp2_with fail
    refine (LV _).mono ?_
    rintro e w1 ⟨rfl, hb1⟩
    go_wp2
    go_ret
    exact ⟨rfl, hb1⟩
  · have hbig' : ¬ (4096 : Int) < (zs.length : Int) := by omega
    have CC := copyspots_any A c zs w hA h0 (by omega)
    unfold SpsP at CC
    have hl : zs.length ≤ 65536 := by omega
    have HA : Hid (SpAt w A zs) := hA
    have P1 := fun (X : Option Addr) (k : Nat) (Z : World) (h : SpAt Z X zs) (hk : zs.length ≤ k) => pof_any n X k zs Z h hI hl hk
    have R1 := fun (Z : World) (h : SpAt Z A zs) => refgain_any n A c zs Z h hl
    have P2 := fun (Z : World) => pcost_any cl Z hcl
    have R2 := fun (Z : World) => refcost_any cl Z
    have P3 := fun (Z : World) => psize_any cl n Z
    have R3 := fun (Z : World) => refsize_any cl n Z
    have E1 := fun (X : Option Addr) (k : Nat) (Z : World) (h : SpAt Z X zs) (h2 : SpAt Z A zs) => eqspots_any X A k c zs zs Z h h2 (by omega)
    rw [decide_eq_true rfl] at E1
    clear hA
    generalize gainN n zs = g at *
    generalize costN cl = g2 at *
    generalize sizeN cl n = g3 at *
    go_enter Try.func3, Try.ntmps3
    go_upto_region 4 with (go_at_call 6; refine CC.mono ?_; rintro e w1 ⟨X, k, rfl, hr1, hb1⟩; have HX1 : Hid (SpAt w1 X zs) := row_sps hr1; have HK1 : Hid (zs.length ≤ k) := (by obtain ⟨X', k', e', hk'⟩ := own_formS hr1; cases e'; exact hk'); have HB1 : Hid (Below w.heap.size w w1) := hb1; clear hr1 hb1)
    clear CC
    go_wp2_with fail
    refine (P1 _ _ _ HX1.out HK1.out).mono ?_
    rintro e w2 ⟨rfl, hb2⟩
    have HX2 : Hid (SpAt w2 X zs) := HX1.out.keep hb2
    have HB2 : Hid (Below w.heap.size w w2) := lb_trans HB1.out hb2
    clear hb2 P1
    go_wp2_with fail
    refine (R1 _ (HA.out.keep HB2.out)).mono ?_
    rintro e w2' ⟨rfl, e1⟩
    have e2 := e1.symm
    clear e1 R1
    subst e2
    go_wp2_with fail
    refine (P2 _).mono ?_
    rintro e w3 ⟨rfl, hb3⟩
    have HX3 : Hid (SpAt w3 X zs) := HX2.out.keep hb3
    have HB3 : Hid (Below w.heap.size w w3) := lb_trans HB2.out hb3
    clear hb3 P2
    go_wp2_with fail
    refine (R2 _).mono ?_
    rintro e w3' ⟨rfl, e1⟩
    have e2 := e1.symm
    clear e1 R2
    subst e2
    go_wp2_with fail
    refine (P3 _).mono ?_
    rintro e w4 ⟨rfl, hb4⟩
    have HX4 : Hid (SpAt w4 X zs) := HX3.out.keep hb4
    have HB4 : Hid (Below w.heap.size w w4) := lb_trans HB3.out hb4
    clear hb4 P3
    go_wp2_with fail
    refine (R3 _).mono ?_
    rintro e w4' ⟨rfl, e1⟩
    have e2 := e1.symm
    clear e1 R3
    subst e2
    go_wp2_with fail
    refine (E1 _ _ _ HX4.out (HA.out.keep HB4.out)).mono ?_
    rintro e w5 ⟨rfl, hb5⟩
    have HB5 : Hid (Below w.heap.size w w5) := lb_trans HB4.out hb5
    clear hb5 E1
    go_wp2_with fail
    refine (LV _).mono ?_
    rintro e w6 ⟨rfl, hb6⟩
    have HB6 : Hid (Below w.heap.size w w6) := lb_trans HB5.out hb6
    clear hb6 LV
    go_wp2
    go_ret
    exact ⟨rfl, HB6.out⟩

end Go.Proofs.Ytbljifaciahdcaa
