/-
  The program's Least keeps its contract.
-/
import Derived.Test.YtpmaiblgnblpeaaDoorProg
import Derived.WalkKit
import Derived.WalkSpells
import Derived.WalkLawsBesides
import Derived.RowKit3
import Derived.Below
import Derived.Deep.QuietTactic
import Derived.BigQuiet
import Derived.WalkSmall
import Derived.Laws.Rows
import Derived.Lib.MinMax
import Derived.OwnWalk
import Derived.Deep.Cut
import Derived.Deep.RegionHeld3
import Derived.Test.YtpmaiblgnblpeaaDoorPf08
namespace Go.Proofs.YtpmaiblgnblpeaaDoor
open Go.RowKit

theorem isplace_any (A : Option Addr) (n c : Nat) (i : Int) (w : World) : Calls Tryd.prog 40 #[.slice A n c, .int .i64 i] w fun e w' => e = .returned (.bool (decide (0 ≤ i ∧ i < (n : Int)))) ∧ w' = w := by
  by_cases h1 : 0 ≤ i
  · by_cases h2 : i < (n : Int)
    · rw [show decide (0 ≤ i ∧ i < (n : Int)) = true from decide_eq_true ⟨h1, h2⟩]
      go_enter Tryd.func40, Tryd.ntmps40
      go_wp2
      go_ret
      exact ⟨rfl, rfl⟩
    · rw [show decide (0 ≤ i ∧ i < (n : Int)) = false from decide_eq_false fun h => h2 h.2]
      go_enter Tryd.func40, Tryd.ntmps40
      go_wp2
      go_ret
      exact ⟨rfl, rfl⟩
  · rw [show decide (0 ≤ i ∧ i < (n : Int)) = false from decide_eq_false fun h => h1 h.1]
    go_enter Tryd.func40, Tryd.ntmps40
    go_wp2
    go_ret
    exact ⟨rfl, rfl⟩
theorem add_addM (X : Addr) (i j : Nat) : (X.add i).add j = X.add (i + j) := by
  unfold Addr.add
  by_cases h : i = 0
  · subst h; simp
  · by_cases h2 : j = 0
    · subst h2; simp [h]
    · simp [h, h2, Nat.add_assoc]
theorem cut_runM (X : Addr) (n c a b : Nat) (h1 : a < b) (h2 : b ≤ n) (h3 : n ≤ c) (w : World) : (Instr.slice 22 (.slice (some X) n c) (some (.int .i64 (a : Int))) (some (.int .i64 (b : Int))) none).run Tryd.prog w = .ok (.slice (some (X.add a)) (b - a) (c - a)) w := by
  rw [run_slice_lh (P := Tryd.prog) w 22 (some X) n c (by kernel_rfl) .i64 .i64 (a : Int) (b : Int) (by omega) (by omega) (by omega)]
  rw [show (sizeOf (Tryd.prog.elem 22)).run Tryd.prog w = .ok 1 w by kernel_rfl]
  show Result.ok (sliced (some X) (a : Int).toNat (b : Int).toNat c 1) w = _
  unfold sliced
  simp
  omega
set_option maxHeartbeats 4000000 in
theorem slmin_any (X : Addr) (n c : Nat) (q : List Int) (w : World) (hX : ∀ j, j < n → w.cell? (X.add j) = some (.int .i64 (nth q j))) (hn : 0 < n) (hl : n ≤ 16384) :
    Calls Tryd.prog 41 #[.slice (some X) n c] w fun e w' => e = .returned (.int .i64 (minR q 0 (n - 1))) ∧ w' = w := by
  have c0 := hX 0 hn
  rw [show X.add 0 = X by simp [Addr.add]] at c0
  have HX : Hid (∀ j, j < n → w.cell? (X.add j) = some (.int .i64 (nth q j))) := hX
  have hn1 : ¬ (n : Int) < 1 := by omega
  have hn2 : (0 : Int) < (n : Int) := by omega
  have HS : Hid (nth q 0 = minR q 0 0) := rfl
  clear hX
  generalize nth q 0 = z0 at *
  go_enter Tryd.func41, Tryd.ntmps41
  go_wp2
  go_loopw [3, 4] (fun u v wr => ∃ (z : Int) (j : Nat), u = .int .i64 z ∧ v = .int .i64 (j : Int) ∧ 1 ≤ j ∧ j ≤ n ∧ Hid (z = minR q 0 (j - 1)) ∧ Hid (wr = w)) (fun _ v _ => n - (intOf v).toNat)
  case atStart => exact ⟨z0, 1, rfl, rfl, Nat.le_refl _, hn, HS, rfl⟩
  case round =>
    clear HS c0
    obtain ⟨z, j, rfl, rfl, h1, h2, HS, HW⟩ := hrel
    obtain rfl := HW.out.symm
    clear HW
    by_cases hlt : j < n
    · have hlt' : (j : Int) < (n : Int) := by omega
      have cj := HX.out j hlt
      have HN : Hid (min z (nth q j) = minR q 0 (j + 1 - 1)) := by
        unfold Hid
        obtain ⟨d, rfl⟩ : ∃ d, j = d + 1 := ⟨j - 1, by omega⟩
        rw [HS.out, show d + 1 + 1 - 1 = d + 1 by omega, minR, show d + 1 - 1 = d by omega, show 0 + d + 1 = d + 1 by omega]
      generalize nth q j = v at *
      go_wp2
      go_roundw
      case rel => exact ⟨min z v, j + 1, by first | rfl | go_num, by go_num, by omega, by omega, HN, by first | exact rfl | exact trivial⟩
      case measure => simp [intOf]; omega
    · obtain rfl : j = n := by omega
      have hlt' : ¬ (j : Int) < (j : Int) := by omega
      go_wp2
      go_ret
      exact ⟨by rw [HS.out]; rfl, rfl⟩
set_option maxRecDepth 100000 in
set_option maxHeartbeats 4000000 in
theorem leastOK : LeastOK := fun A c p i k w hA hl hc hi hk => by
  unfold LeR
  unfold Rng at hi hk
  have P1 := fun W => isplace_any A p.length c i W
  have P2 := fun W => isplace_any A p.length c k W
  by_cases h1 : 0 ≤ i ∧ i < (p.length : Int)
  · rw [show decide (0 ≤ i ∧ i < (p.length : Int)) = true from decide_eq_true h1] at P1
    by_cases h2 : 0 ≤ k ∧ k < (p.length : Int)
    · rw [show decide (0 ≤ k ∧ k < (p.length : Int)) = true from decide_eq_true h2] at P2
      have hb : ¬ (i < 0 ∨ k < 0 ∨ (p.length : Int) ≤ i ∨ (p.length : Int) ≤ k) := by omega
      rw [show leE p i k = 0 from if_neg hb]
      by_cases h3 : i = k
      · subst h3
        rw [show leI p i i = -1 by unfold leI; rw [if_neg hb, if_pos rfl]]
        have e1 : (i == i) = true := by simp
        clear hA hb
        go_enter Tryd.func14, Tryd.ntmps14
        go_wp2_with (go_at_call 40; refine (P1 _).mono ?_; rintro e w1 ⟨rfl, rfl⟩)
        go_ret2
        exact ⟨rfl, Below.refl _ _⟩
      · obtain ⟨x, rfl⟩ : ∃ x : Nat, i = (x : Int) := ⟨i.toNat, by omega⟩
        obtain ⟨y, rfl⟩ : ∃ y : Nat, k = (y : Int) := ⟨k.toNat, by omega⟩
        have e1 : ((x : Int) == (y : Int)) = false := by simpa using h3
        obtain ⟨m, hm⟩ : ∃ m, m = min x y := ⟨_, rfl⟩
        obtain ⟨h, hh⟩ : ∃ h, h = max x y := ⟨_, rfl⟩
        have q1 : min (x : Int) (y : Int) = (m : Int) := by omega
        have q2 : max (x : Int) (y : Int) = (h : Int) := by omega
        have q3 : m < h := by omega
        have q4 : h < p.length := by omega
        have HV : Hid (leI p (x : Int) (y : Int) = minR (p.drop (m + 1)) 0 (h + 1 - (m + 1) - 1)) := by
          unfold Hid leI
          rw [if_neg hb, if_neg (by omega), minR_drop, hm, hh]
          simp only [Int.toNat_natCast]
          congr 1
          omega
        obtain ⟨X, rfl, -⟩ := hA h q4
        have CM := slmin_any (X.add (m + 1)) (h + 1 - (m + 1)) (c - (m + 1)) (p.drop (m + 1)) w (fun j hj => by
          obtain ⟨a, ea, q⟩ := hA (m + 1 + j) (by omega)
          obtain rfl := Option.some.inj ea
          rw [add_addM, q, nth_dropS]) (by omega) (by omega)
        rw [← HV.out] at CM
        have s1 := cut_runM X p.length c (m + 1) (h + 1) (by omega) (by omega) hc
        have w1 : IntKind.i64.wrap ((m : Int) + 1) = ((m + 1 : Nat) : Int) := by simp [IntKind.wrap, IntKind.bits, IntKind.signed]; omega
        have w2 : IntKind.i64.wrap ((h : Int) + 1) = ((h + 1 : Nat) : Int) := by simp [IntKind.wrap, IntKind.bits, IntKind.signed]; omega
        obtain ⟨m1, hm1⟩ : ∃ m1, m1 = m + 1 := ⟨_, rfl⟩
        obtain ⟨h', hh1⟩ : ∃ h', h' = h + 1 := ⟨_, rfl⟩
        rw [← hm1, ← hh1] at s1 CM
        rw [← hm1] at w1
        rw [← hh1] at w2
        have w3 : (m : Int) + 1 = (m1 : Int) := by omega
        have w4 : (h : Int) + 1 = (h' : Int) := by omega
        clear hA HV h1 h2 hb hm1 hh1 hm hh hi hk
        generalize leI p (x : Int) (y : Int) = v at *
        go_enter Tryd.func14, Tryd.ntmps14
        go_wp2_with (first | (go_at_call_of 40 (Value.int IntKind.i64 (x : Int)); refine (P1 _).mono ?_; rintro e w1 ⟨rfl, rfl⟩) | (go_at_call_of 40 (Value.int IntKind.i64 (y : Int)); refine (P2 _).mono ?_; rintro e w1 ⟨rfl, rfl⟩) | (go_at_call 41; refine CM.mono ?_; rintro e w1 ⟨rfl, rfl⟩))
        go_ret2
        exact ⟨rfl, Below.refl _ _⟩
    · rw [show decide (0 ≤ k ∧ k < (p.length : Int)) = false from decide_eq_false h2] at P2
      have hb : i < 0 ∨ k < 0 ∨ (p.length : Int) ≤ i ∨ (p.length : Int) ≤ k := by omega
      rw [show leE p i k = 1 from if_pos hb, show leI p i k = 0 from if_pos hb]
      clear hA hb
      go_enter Tryd.func14, Tryd.ntmps14
      go_wp2_with (first | (go_at_call_of 40 (Value.int IntKind.i64 i); refine (P1 _).mono ?_; rintro e w1 ⟨rfl, rfl⟩) | (go_at_call_of 40 (Value.int IntKind.i64 k); refine (P2 _).mono ?_; rintro e w1 ⟨rfl, rfl⟩))
      go_ret2
      exact ⟨rfl, Below.refl _ _⟩
  · rw [show decide (0 ≤ i ∧ i < (p.length : Int)) = false from decide_eq_false h1] at P1
    have hb : i < 0 ∨ k < 0 ∨ (p.length : Int) ≤ i ∨ (p.length : Int) ≤ k := by omega
    rw [show leE p i k = 1 from if_pos hb, show leI p i k = 0 from if_pos hb]
    clear hA hb
    go_enter Tryd.func14, Tryd.ntmps14
    go_wp2_with (go_at_call 40; refine (P1 _).mono ?_; rintro e w1 ⟨rfl, rfl⟩)
    go_ret2
    exact ⟨rfl, Below.refl _ _⟩


end Go.Proofs.YtpmaiblgnblpeaaDoor
