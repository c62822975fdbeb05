/-
  The law's own less.
-/
import Derived.Test.YthhfkcmoncgknaaProg
import Derived.WalkKit
import Derived.WalkSpells
import Derived.WalkLawsBesides
import Derived.RowKit3
import Derived.Below
import Derived.Deep.QuietTactic
import Derived.BigQuiet
import Derived.WalkSmall
import Derived.Laws.Rows
import Derived.Deep.Cut
import Derived.Test.YthhfkcmoncgknaaPo05
namespace Go.Proofs.Ythhfkcmoncgknaa
open Go.RowKit

set_option maxRecDepth 100000 in
set_option maxHeartbeats 4000000 in
theorem lless_any (A : Option Addr) (c : Nat) (l : List Int) (i k : Nat) (w : World) (hA : IntsAt w A .i64 l) (hl : l.length ≤ 1048576) (hi : i ≤ l.length) (hk : k ≤ l.length) :
    Calls Try.prog 15 #[.slice A l.length c, .int .i64 (i : Int), .int .i64 (k : Int)] w fun e w' => e = .returned (.bool (lsS l i k)) ∧ Below w.heap.size w w' := by
  have HA : Hid (IntsAt w A .i64 l) := hA
  clear hA
  go_enter Try.func15, Try.ntmps15
  go_wp2
  go_loopw [7] (fun x wr => ∃ n : Nat, x = .int .i64 (n : Int) ∧ i + n ≤ l.length ∧ k + n ≤ l.length ∧ Hid (lsS l (i + n) (k + n) = lsS l i k) ∧ Hid (Below w.heap.size w wr)) (fun x _ => l.length - (intOf x).toNat)
  case atStart => exact ⟨0, rfl, hi, hk, rfl, Below.refl _ _⟩
  case round =>
    obtain ⟨n, rfl, hp, hq, HS, HB⟩ := hrel
    clear hi hk
    by_cases a1 : i + n < l.length
    · have b1 : (i : Int) + (n : Int) < (l.length : Int) := by omega
      by_cases a2 : k + n < l.length
      · have b2 : (k : Int) + (n : Int) < (l.length : Int) := by omega
        obtain ⟨a, ea, q1⟩ := (HA.out.keep HB.out) (i + n) a1
        subst ea
        obtain ⟨a', ea', q2⟩ := (HA.out.keep HB.out) (k + n) a2
        obtain rfl := Option.some.inj ea'
        have p1 : ((i : Int) + (n : Int)).toNat = i + n := by omega
        have p2 : ((k : Int) + (n : Int)).toNat = k + n := by omega
        by_cases he : nth l (i + n) = nth l (k + n)
        · have HS2 : Hid (lsS l (i + (n + 1)) (k + (n + 1)) = lsS l i k) := by
            unfold Hid
            rw [← HS.out, lsS_step a1 a2, if_pos he]; rfl
          rw [he] at q1
          generalize nth l (k + n) = x at *
          clear he
          have hx : (x == x) = true := by simp
          go_upto_region 2 with fail
          go_big_quiet (fail)
          go_wp2
          go_roundw
          case rel => exact ⟨n + 1, by go_num, by omega, by omega, HS2, below_drewN HB.out _⟩
          case measure => simp [intOf]; omega
        · have HS2 : Hid (lsS l i k = decide (nth l (i + n) < nth l (k + n))) := by
            unfold Hid
            rw [← HS.out, lsS_step a1 a2, if_neg he]
          have hx : (nth l (i + n) == nth l (k + n)) = false := by rw [beq_eq_false_iff_ne]; exact he
          have b3 : ((i : Int) + (n : Int) == (l.length : Int)) = false := by rw [beq_eq_false_iff_ne]; omega
          clear HS he
          generalize nth l (i + n) = x at *
          generalize nth l (k + n) = y at *
          go_upto_region 2 with fail
          go_big_quiet (fail)
          go_upto_region 6 with fail
          go_big_quiet (fail)
          go_wp2
          go_ret
          exact ⟨by rw [HS2.out]; rfl, below_drewN HB.out _⟩
      · have b2 : ¬ (k : Int) + (n : Int) < (l.length : Int) := by omega
        have b3 : ((i : Int) + (n : Int) == (l.length : Int)) = false := by rw [beq_eq_false_iff_ne]; omega
        have HS2 : Hid (lsS l i k = false) := by
          unfold Hid
          rw [← HS.out, lsS_endK (by omega)]
        go_upto_region 2 with fail
        go_big_quiet (fail)
        go_upto_region 6 with fail
        go_big_quiet (fail)
        go_wp2
        go_ret
        exact ⟨by rw [HS2.out]; rfl, below_drewN HB.out _⟩
    · have hpe : i + n = l.length := by omega
      have b1 : ¬ (i : Int) + (n : Int) < (l.length : Int) := by omega
      have b3 : ((i : Int) + (n : Int) == (l.length : Int)) = true := by rw [beq_iff_eq]; omega
      have HS2 : Hid (lsS l i k = decide ((k : Int) + (n : Int) < (l.length : Int))) := by
        unfold Hid
        rw [← HS.out, lsS_endI (by omega)]
        congr 1
        rw [eq_iff_iff]
        omega
      go_upto_region 2 with fail
      go_big_quiet (fail)
      go_wp2
      go_ret
      exact ⟨by rw [HS2.out]; rfl, below_drewN HB.out _⟩


end Go.Proofs.Ythhfkcmoncgknaa
