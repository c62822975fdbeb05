/-
  Compare keeps its contract.
-/
import Derived.Test.YthhfkcmoncgknaaProg
import Derived.WalkKit
import Derived.WalkSpells
import Derived.WalkLawsBesides
import Derived.RowKit3
import Derived.Below
import Derived.Deep.QuietTactic
import Derived.BigQuiet
import Derived.WalkSmall
import Derived.Laws.Rows
import Derived.Test.YthhfkcmoncgknaaPt27
import Derived.Test.YthhfkcmoncgknaaPt30
import Derived.Deep.RegionHeld3
namespace Go.Proofs.Ythhfkcmoncgknaa
open Go.RowKit

theorem isplace_any (A : Option Addr) (n c : Nat) (i : Int) (w : World) : Calls Try.prog 17 #[.slice A n c, .int .i64 i] w fun e w' => e = .returned (.bool (decide (0 ≤ i ∧ i < (n : Int)))) ∧ w' = w := by
  by_cases h1 : 0 ≤ i
  · by_cases h2 : i < (n : Int)
    · rw [show decide (0 ≤ i ∧ i < (n : Int)) = true from decide_eq_true ⟨h1, h2⟩]
      go_enter Try.func17, Try.ntmps17
      go_wp2
      go_ret
      exact ⟨rfl, rfl⟩
    · rw [show decide (0 ≤ i ∧ i < (n : Int)) = false from decide_eq_false fun h => h2 h.2]
      go_enter Try.func17, Try.ntmps17
      go_wp2
      go_ret
      exact ⟨rfl, rfl⟩
  · rw [show decide (0 ≤ i ∧ i < (n : Int)) = false from decide_eq_false fun h => h1 h.1]
    go_enter Try.func17, Try.ntmps17
    go_wp2
    go_ret
    exact ⟨rfl, rfl⟩
theorem cut_runS (X : Addr) (n c k : Nat) (hk : k < n) (h : n ≤ c) (w : World) : (Instr.slice 22 (.slice (some X) n c) (some (.int .i64 (k : Int))) none none).run Try.prog w = .ok (.slice (some (X.add k)) (n - k) (c - k)) w := by
  rw [run_slice_l (P := Try.prog) w 22 (some X) n c (by kernel_rfl) .i64 (k : Int) (by omega) (by omega)]
  rw [show (sizeOf (Try.prog.elem 22)).run Try.prog w = .ok 1 w by kernel_rfl]
  show Result.ok (sliced (some X) (k : Int).toNat n c 1) w = _
  unfold sliced
  rw [show ((k : Int)).toNat = k by omega, if_neg (show ¬ c = k by omega)]
  simp
theorem add_addS (X : Addr) (i j : Nat) : (X.add i).add j = X.add (i + j) := by
  unfold Addr.add
  by_cases h : i = 0
  · subst h; simp
  · by_cases h2 : j = 0
    · subst h2; simp [h]
    · simp [h, h2, Nat.add_assoc]
theorem ints_cut {w : World} {X : Addr} {l : List Int} (h : IntsAt w (some X) .i64 l) (k : Nat) : IntsAt w (some (X.add k)) .i64 (l.drop k) := fun i hi => by
  obtain ⟨a, ea, q⟩ := h (k + i) (by rw [List.length_drop] at hi; omega)
  obtain rfl := Option.some.inj ea
  exact ⟨_, rfl, by rw [add_addS, q, nth_dropS]⟩
def sgS (l : List Int) (i k : Nat) : Int := if lsS l i k = true then -1 else 1
set_option maxRecDepth 100000 in
set_option maxHeartbeats 4000000 in
theorem slcmp_any (X Y : Addr) (c1 c2 : Nat) (l : List Int) (i k : Nat) (w : World) (hX : IntsAt w (some X) .i64 (l.drop i)) (hY : IntsAt w (some Y) .i64 (l.drop k)) (hi : i < l.length) (hk : k < l.length) (hne : i ≠ k) (hl : l.length ≤ 1048576) :
    Calls Try.prog 18 #[.slice (some X) (l.length - i) c1, .slice (some Y) (l.length - k) c2] w fun e w' => e = .returned (.int .i64 (sgS l i k)) ∧ w' = w := by
  have HX : Hid (∀ p, p < l.length - i → w.cell? (X.add p) = some (.int .i64 (nth l (i + p)))) := fun p hp => by
    obtain ⟨a, ea, q⟩ := hX p (by rw [List.length_drop]; exact hp)
    obtain rfl := Option.some.inj ea
    rw [q, nth_dropS]
  have HY : Hid (∀ p, p < l.length - k → w.cell? (Y.add p) = some (.int .i64 (nth l (k + p)))) := fun p hp => by
    obtain ⟨a, ea, q⟩ := hY p (by rw [List.length_drop]; exact hp)
    obtain rfl := Option.some.inj ea
    rw [q, nth_dropS]
  clear hX hY
  have H1 : Hid (∃ n1, n1 = l.length - i) := ⟨_, rfl⟩
  have H2 : Hid (∃ n2, n2 = l.length - k) := ⟨_, rfl⟩
  obtain ⟨n1, e1⟩ := H1.out
  obtain ⟨n2, e2⟩ := H2.out
  rw [← e1] at HX
  rw [← e2] at HY
  rw [← e1, ← e2]
  have HE1 : Hid (n1 = l.length - i) := e1
  have HE2 : Hid (n2 = l.length - k) := e2
  have hn1 : n1 ≤ 1048576 := by omega
  have hn2 : n2 ≤ 1048576 := by omega
  have HI : Hid (i < l.length ∧ k < l.length ∧ i ≠ k) := ⟨hi, hk, hne⟩
  clear H1 H2 e1 e2 hi hk hne hl
  go_enter Try.func18, Try.ntmps18
  go_wp2
  go_loopw [11] (fun v wr => ∃ p : Nat, v = .int .i64 (p : Int) ∧ p ≤ n1 ∧ p ≤ n2 ∧ Hid (lsS l (i + p) (k + p) = lsS l i k) ∧ Hid (wr = w)) (fun v _ => n1 - (intOf v).toNat)
  case atStart => exact ⟨0, rfl, Nat.zero_le _, Nat.zero_le _, rfl, rfl⟩
  case round =>
    obtain ⟨p, rfl, hp1, hp2, HS, HW⟩ := hrel
    obtain rfl := HW.out
    by_cases a1 : p < n1
    · have b1 : (p : Int) < (n1 : Int) := by omega
      have q1 := HX.out p a1
      by_cases a2 : p < n2
      · have b2 : ¬ (n2 : Int) ≤ (p : Int) := by omega
        have b3 : (p : Int) < (n2 : Int) := by omega
        have q2 := HY.out p a2
        have CM := fun wx => cmp_any (nth l (i + p)) (nth l (k + p)) wx
        have HST : Hid (lsS l i k = if nth l (i + p) = nth l (k + p) then lsS l (i + p + 1) (k + p + 1) else decide (nth l (i + p) < nth l (k + p))) := by
          unfold Hid
          have := HE1.out
          have := HE2.out
          have := HI.out.1
          have := HI.out.2.1
          rw [← HS.out, lsS_step (by omega) (by omega)]
        by_cases he : nth l (i + p) = nth l (k + p)
        · have HS2 : Hid (lsS l (i + (p + 1)) (k + (p + 1)) = lsS l i k) := by
            have h := HST.out
            rw [if_pos he] at h
            exact h.symm
          rw [show cmpI (nth l (i + p)) (nth l (k + p)) = 0 by unfold cmpI; rw [if_neg (by omega), if_neg (by omega)]] at CM
          clear HST he HS
          generalize nth l (i + p) = x at *
          generalize nth l (k + p) = y at *
          go_wp2_with (go_at_call 25; refine (CM _).mono ?_; rintro e w1 ⟨rfl, rfl⟩)
          go_roundw
          case rel => exact ⟨p + 1, by go_num, by omega, by omega, HS2, by first | exact rfl | exact trivial⟩
          case measure => simp [intOf]; omega
        · have HS2 : Hid (cmpI (nth l (i + p)) (nth l (k + p)) = sgS l i k) := by
            have h := HST.out
            rw [if_neg he] at h
            unfold Hid cmpI sgS
            rw [h]
            by_cases hlt : nth l (i + p) < nth l (k + p)
            · rw [if_pos hlt, if_pos (decide_eq_true hlt)]
            · rw [if_neg hlt, if_pos (by omega), if_neg (by simp; omega)]
          have hv : (cmpI (nth l (i + p)) (nth l (k + p)) != 0) = true := by
            rw [HS2.out]
            unfold sgS
            by_cases h : lsS l i k = true
            · rw [if_pos h]; rfl
            · rw [if_neg h]; rfl
          clear HST he HS
          generalize cmpI (nth l (i + p)) (nth l (k + p)) = v at *
          generalize nth l (i + p) = x at *
          generalize nth l (k + p) = y at *
          go_wp2_with (go_at_call 25; refine (CM _).mono ?_; rintro e w1 ⟨rfl, rfl⟩)
          go_ret
          exact ⟨by rw [← HS2.out]; rfl, rfl⟩
      · have b2 : (n2 : Int) ≤ (p : Int) := by omega
        have HS2 : Hid (sgS l i k = 1) := by
          unfold Hid sgS
          have := HE2.out
          rw [← HS.out, lsS_endK (by omega)]
          rfl
        generalize nth l (i + p) = x at *
        go_wp2
        go_ret
        exact ⟨by rw [HS2.out]; rfl, rfl⟩
    · obtain rfl : p = n1 := by omega
      have b1 : ¬ (p : Int) < (p : Int) := by omega
      have b2 : p < n2 := by
        have := HE1.out
        have := HE2.out
        have := HI.out
        omega
      have b3 : (p : Int) < (n2 : Int) := by omega
      have HS2 : Hid (sgS l i k = -1) := by
        unfold Hid sgS
        have := HE1.out
        have := HE2.out
        rw [← HS.out, lsS_endI (by omega), if_pos (decide_eq_true (by omega))]
      go_wp2
      go_ret
      exact ⟨by rw [HS2.out]; rfl, rfl⟩
set_option maxRecDepth 100000 in
set_option maxHeartbeats 4000000 in
theorem compareOK : CompareOK := fun A c l i k w hA hl hc hi hk => by
  have P1 := fun W => isplace_any A l.length c i W
  have P2 := fun W => isplace_any A l.length c k W
  by_cases h1 : 0 ≤ i ∧ i < (l.length : Int)
  · rw [show decide (0 ≤ i ∧ i < (l.length : Int)) = true from decide_eq_true h1] at P1
    by_cases h2 : 0 ≤ k ∧ k < (l.length : Int)
    · rw [show decide (0 ≤ k ∧ k < (l.length : Int)) = true from decide_eq_true h2] at P2
      by_cases h3 : i = k
      · subst h3
        rw [show cmpS l i i = 0 from if_pos (by omega)]
        have e1 : (i == i) = true := by simp
        clear hA
        go_enter Try.func7, Try.ntmps7
        go_wp2_with (go_at_call 17; refine (P1 _).mono ?_; rintro e w1 ⟨rfl, rfl⟩)
        go_ret
        exact ⟨rfl, Below.refl _ _⟩
      · obtain ⟨p, rfl⟩ : ∃ p : Nat, i = (p : Int) := ⟨i.toNat, by omega⟩
        obtain ⟨q, rfl⟩ : ∃ q : Nat, k = (q : Int) := ⟨k.toNat, by omega⟩
        have hp : p < l.length := by omega
        have hq : q < l.length := by omega
        obtain ⟨X, rfl, -⟩ := hA p hp
        have e1 : ((p : Int) == (q : Int)) = false := by simpa using h3
        have HV : Hid (cmpS l (p : Int) (q : Int) = sgS l p q) := if_neg (by omega)
        have CC := fun W (h : Below w.heap.size w W) => slcmp_any (X.add p) (X.add q) (c - p) (c - q) l p q W (ints_cut (hA.keep h) p) (ints_cut (hA.keep h) q) hp hq (by omega) (by omega)
        rw [← HV.out] at CC
        have s1 := cut_runS X l.length c p hp hc
        have s2 := cut_runS X l.length c q hq hc
        have BW : Below w.heap.size w w.drew := (Below.refl _ _).drew
        have BW0 : Below w.heap.size w w := Below.refl _ _
        clear hA HV h1 h2
        generalize cmpS l (p : Int) (q : Int) = v at *
        go_enter Try.func7, Try.ntmps7
        go_upto_region 3 with (first | (go_at_call_of 17 (Value.int IntKind.i64 (p : Int)); refine (P1 _).mono ?_; rintro e w1 ⟨rfl, hw⟩; rw [hw]; clear hw) | (go_at_call_of 17 (Value.int IntKind.i64 (q : Int)); refine (P2 _).mono ?_; rintro e w1 ⟨rfl, hw⟩; rw [hw]; clear hw))
        go_region_held3 (fun W => Below w.heap.size w W) (first | assumption | exact BW | exact BW0 | (simp [*]; done)) (first | (go_at_call 18; refine (CC _ (by first | assumption | exact BW | exact BW0)).mono ?_; rintro e w5 ⟨rfl, rfl⟩))
        all_goals go_wp2
        all_goals go_ret
        all_goals exact ⟨rfl, by first | assumption | exact BW | exact BW0⟩
    · rw [show decide (0 ≤ k ∧ k < (l.length : Int)) = false from decide_eq_false h2] at P2
      rw [show cmpS l i k = 0 from if_pos (by omega)]
      clear hA
      go_enter Try.func7, Try.ntmps7
      go_wp2_with (first | (go_at_call_of 17 (Value.int IntKind.i64 i); refine (P1 _).mono ?_; rintro e w1 ⟨rfl, rfl⟩) | (go_at_call_of 17 (Value.int IntKind.i64 k); refine (P2 _).mono ?_; rintro e w1 ⟨rfl, rfl⟩))
      go_ret
      exact ⟨rfl, Below.refl _ _⟩
  · rw [show decide (0 ≤ i ∧ i < (l.length : Int)) = false from decide_eq_false h1] at P1
    rw [show cmpS l i k = 0 from if_pos (by omega)]
    clear hA
    go_enter Try.func7, Try.ntmps7
    go_wp2_with (go_at_call 17; refine (P1 _).mono ?_; rintro e w1 ⟨rfl, rfl⟩)
    go_ret
    exact ⟨rfl, Below.refl _ _⟩

end Go.Proofs.Ythhfkcmoncgknaa
