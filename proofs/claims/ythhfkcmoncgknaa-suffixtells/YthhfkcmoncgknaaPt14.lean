/-
  The document's Less and Compare.
-/
import Derived.Test.YthhfkcmoncgknaaProg
import Derived.WalkKit
import Derived.WalkSpells
import Derived.WalkLawsBesides
import Derived.RowKit3
import Derived.Below
import Derived.Deep.QuietTactic
import Derived.BigQuiet
import Derived.WalkSmall
import Derived.Laws.Rows
import Derived.Deep.Cut
import Derived.Deep.LoopGhost
import Derived.Test.YthhfkcmoncgknaaPt05
namespace Go.Proofs.Ythhfkcmoncgknaa
open Go.RowKit

set_option maxRecDepth 100000 in
set_option maxHeartbeats 2000000 in
theorem refless_any (A : Option Addr) (c : Nat) (l : List Int) (i k : Nat) (w : World) (hA : IntsAt w A .i64 l) (hl : l.length ≤ 1048576) (hi : i ≤ l.length) (hk : k ≤ l.length) :
    Calls Try.prog 19 #[.slice A l.length c, .int .i64 (i : Int), .int .i64 (k : Int)] w fun e w' => e = .returned (.bool (lsS l i k)) ∧ Below w.heap.size w w' := by
  have HA : Hid (IntsAt w A .i64 l) := hA
  clear hA
  go_enter Try.func19, Try.ntmps19
  go_wp2
  go_loopw [1, 2] (fun x y wr => ∃ p q : Nat, x = .int .i64 (p : Int) ∧ y = .int .i64 (q : Int) ∧ p ≤ l.length ∧ q ≤ l.length ∧ Hid (lsS l p q = lsS l i k) ∧ Hid (Below w.heap.size w wr)) (fun x _ _ => l.length - (intOf x).toNat)
  case atStart => exact ⟨i, k, rfl, rfl, hi, hk, rfl, Below.refl _ _⟩
  case round =>
    obtain ⟨p, q, rfl, rfl, hp, hq, HS, HB⟩ := hrel
    clear hi hk
    by_cases a1 : p < l.length
    · have b1 : (p : Int) < (l.length : Int) := by omega
      by_cases a2 : q < l.length
      · have b2 : (q : Int) < (l.length : Int) := by omega
        obtain ⟨a, ea, q1⟩ := (HA.out.keep HB.out) p a1
        subst ea
        obtain ⟨a', ea', q2⟩ := (HA.out.keep HB.out) q a2
        obtain rfl := Option.some.inj ea'
        by_cases he : nth l p = nth l q
        · have HS2 : Hid (lsS l (p + 1) (q + 1) = lsS l i k) := by
            unfold Hid
            rw [← HS.out, lsS_step a1 a2, if_pos he]
          rw [he] at q1
          generalize nth l q = x at *
          clear he
          go_upto_region 2 with fail
          go_quiet (fail)
          go_wp2
          go_roundw
          case rel => exact ⟨p + 1, q + 1, by go_num, by go_num, by omega, by omega, HS2, below_drewN HB.out _⟩
          case measure => simp [intOf]; omega
        · have HS2 : Hid (lsS l i k = decide (nth l p < nth l q)) := by
            unfold Hid
            rw [← HS.out, lsS_step a1 a2, if_neg he]
          have hx : (nth l p != nth l q) = true := by simpa using he
          clear HS he
          generalize nth l p = x at *
          generalize nth l q = y at *
          go_upto_region 2 with fail
          go_quiet (fail)
          go_upto_region 3 with fail
          go_quiet (fail)
          go_wp2
          go_ret
          exact ⟨by rw [HS2.out]; rfl, below_drewN HB.out _⟩
      · have b2 : ¬ (q : Int) < (l.length : Int) := by omega
        have b3 : ((p : Int) == (l.length : Int)) = false := by rw [beq_eq_false_iff_ne]; omega
        have HS2 : Hid (lsS l i k = false) := by
          unfold Hid
          rw [← HS.out, lsS_endK (by omega)]
        go_wp2
        go_ret
        exact ⟨by rw [HS2.out]; rfl, HB.out⟩
    · obtain rfl : p = l.length := by omega
      have HS2 : Hid (lsS l i k = decide (q < l.length)) := by
        unfold Hid
        rw [← HS.out, lsS_endI (Nat.le_refl _)]
      go_wp2
      go_ret
      exact ⟨by rw [HS2.out]; rfl, HB.out⟩
theorem cmp_none {l : List Int} {i k : Int} (h : i < 0 ∨ k < 0 ∨ (l.length : Int) ≤ i ∨ (l.length : Int) ≤ k ∨ i = k) : cmpS l i k = 0 := if_pos h
set_option maxRecDepth 100000 in
set_option maxHeartbeats 2000000 in
theorem refcompare_any (A : Option Addr) (c : Nat) (l : List Int) (i k : Int) (w : World) (hA : IntsAt w A .i64 l) (hl : l.length ≤ 1048576) :
    Calls Try.prog 8 #[.slice A l.length c, .int .i64 i, .int .i64 k] w fun e w' => e = .returned (.int .i64 (cmpS l i k)) ∧ Below w.heap.size w w' := by
  by_cases h1 : i < 0
  · rw [cmp_none (.inl h1)]
    go_enter Try.func8, Try.ntmps8
    go_wp2
    go_ret
    exact ⟨rfl, Below.refl _ _⟩
  by_cases h2 : k < 0
  · rw [cmp_none (.inr (.inl h2))]
    go_enter Try.func8, Try.ntmps8
    go_wp2
    go_ret
    exact ⟨rfl, Below.refl _ _⟩
  by_cases h3 : (l.length : Int) ≤ i
  · rw [cmp_none (.inr (.inr (.inl h3)))]
    go_enter Try.func8, Try.ntmps8
    go_wp2
    go_ret
    exact ⟨rfl, Below.refl _ _⟩
  by_cases h4 : (l.length : Int) ≤ k
  · rw [cmp_none (.inr (.inr (.inr (.inl h4))))]
    go_enter Try.func8, Try.ntmps8
    go_wp2
    go_ret
    exact ⟨rfl, Below.refl _ _⟩
  by_cases h5 : i = k
  · rw [cmp_none (.inr (.inr (.inr (.inr h5))))]
    have h6 : (i == k) = true := by simpa using h5
    clear h5
    go_enter Try.func8, Try.ntmps8
    go_wp2
    go_ret
    exact ⟨rfl, Below.refl _ _⟩
  have h6 : (i == k) = false := by rw [beq_eq_false_iff_ne]; exact h5
  have HC : Hid (cmpS l i k = if lsS l i.toNat k.toNat = true then -1 else 1) := by
    unfold Hid cmpS
    rw [if_neg (by omega)]
  have C := fun wx (h : Below w.heap.size w wx) => refless_any A c l i.toNat k.toNat wx (hA.keep h) hl (by omega) (by omega)
  rw [show ((i.toNat : Nat) : Int) = i by omega, show ((k.toNat : Nat) : Int) = k by omega] at C
  rw [HC.out]
  cases hb : lsS l i.toNat k.toNat with
  | true =>
    rw [hb] at C
    rw [if_pos rfl]
    clear HC hb hA h5
    go_enter Try.func8, Try.ntmps8
    go_wp2_with (go_at_call 19; refine (C _ (Below.refl _ _)).mono ?_; rintro e w1 ⟨rfl, hb1⟩)
    go_ret
    exact ⟨rfl, hb1⟩
  | false =>
    rw [hb] at C
    rw [if_neg (by decide)]
    clear HC hb hA h5
    go_enter Try.func8, Try.ntmps8
    go_wp2_with (go_at_call 19; refine (C _ (Below.refl _ _)).mono ?_; rintro e w1 ⟨rfl, hb1⟩)
    go_ret
    exact ⟨rfl, hb1⟩


end Go.Proofs.Ythhfkcmoncgknaa
