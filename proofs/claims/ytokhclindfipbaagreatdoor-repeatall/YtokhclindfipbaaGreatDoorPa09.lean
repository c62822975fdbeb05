/-
  The order of two places.
-/
import Derived.Test.YtokhclindfipbaaGreatDoorProg
import Derived.WalkKit
import Derived.WalkSpells
import Derived.WalkLawsBesides
import Derived.RowKit3
import Derived.Below
import Derived.Deep.QuietTactic
import Derived.BigQuiet
import Derived.WalkSmall
import Derived.Laws.Rows
import Derived.Deep.RegionHeld3
import Derived.Deep.Cut
import Derived.Lib.MinMax
import Derived.Test.YtokhclindfipbaaGreatDoorPa08
namespace Go.Proofs.YtokhclindfipbaaGreatDoor
open Go.RowKit

theorem Sur.drew {w : World} {bk br bs bl bc x0 : Nat} {r : List Int} {n s : Nat} (h : Sur w bk br bs bl bc x0 r n s) : Sur w.drew bk br bs bl bc x0 r n s := h.but ((But.refl bc w).drewN 1)
set_option maxRecDepth 100000 in
set_option maxHeartbeats 4000000 in
theorem order_any (bk br bs bl bc x0 : Nat) (r : List Int) (n s i k c : Nat) (w : World) (hS : Sur w bk br bs bl bc x0 r n s) (hc : Cst w bc c) (hi : i < n) (hk : k < n) (hn : n ≤ 1048576) (hs : s ≤ 1048576) (hl : c + ordC r n s i k ≤ 1099511627776) :
    Calls Tryz.prog 84 #[.int .i64 (i : Int), .int .i64 (k : Int), .pointer (some ⟨bk, 0, none⟩), .pointer (some ⟨br, 0, none⟩), .pointer (some ⟨bs, 0, none⟩), .pointer (some ⟨bl, 0, none⟩)] w fun e w' => e = .returned (.int .i64 (ordV r n s i k)) ∧ Cst w' bc (c + ordC r n s i k) ∧ But bc w w' := by
  have HS : Hid (∀ W, But bc w W → Sur W bk br bs bl bc x0 r n s) := fun W h => hS.but h
  obtain ⟨cx, hrk⟩ := hS.rk
  have hiI : (i : Int) < (n : Int) := by omega
  have hkI : (k : Int) < (n : Int) := by omega
  have CC := fun W (h : But bc w W) (hW : Cst W bc c) => count_any (nth r i) (nth r k) bc c W hW (by omega)
  obtain ⟨ri, g1⟩ : ∃ x, nth r i = x := ⟨_, rfl⟩
  obtain ⟨rk, g2⟩ : ∃ x, nth r k = x := ⟨_, rfl⟩
  have HQ : Hid (∀ W, But bc w W → W.cell? ⟨bk, 0, none⟩ = some (.func (.func 82) #[] #[.pointer (some ⟨bc, 0, none⟩)]) ∧ W.cell? ⟨br, 0, none⟩ = some (.slice (some ⟨x0, 0, none⟩) n cx) ∧ W.cell? ⟨x0, i, none⟩ = some (.int .i64 ri) ∧ W.cell? ⟨x0, k, none⟩ = some (.int .i64 rk)) := fun W h => ⟨(hS.but h).fk, h.cell hS.off.2.1 hrk, by rw [← g1]; exact (hS.but h).row i hi, by rw [← g2]; exact (hS.but h).row k hk⟩
  rw [g1, g2] at CC
  obtain ⟨A0, c0, q6⟩ := hS.ln
  have HT : Hid (∀ W, But bc w W → W.cell? ⟨bs, 0, none⟩ = some (.int .i64 (s : Int)) ∧ W.cell? ⟨bl, 0, none⟩ = some (.slice A0 n c0)) := fun W h => ⟨(hS.but h).st, h.cell hS.off.2.2.2.1 q6⟩
  have HN : Hid (br ≠ bc) := hS.off.2.1
  have HRK : Hid (w.cell? ⟨br, 0, none⟩ = some (.slice (some ⟨x0, 0, none⟩) n cx)) := hrk
  clear hS q6 hrk
  by_cases e0 : cmpI (nth r i) (nth r k) = 0
  · by_cases e1 : n ≤ max i k + s
    · have ev : ordV r n s i k = cmpI (k : Int) (i : Int) := by unfold ordV; rw [if_pos e0, if_pos e1]
      have ec : ordC r n s i k = 1 := by unfold ordC; rw [if_pos e0, if_pos e1]
      rw [g1, g2] at e0
      rw [ev, ec]
      rw [e0] at CC
      have CM := fun W => cmp_any (k : Int) (i : Int) W
      generalize cmpI (k : Int) (i : Int) = v at *
      clear HS ev ec g1 g2 e0 HRK HN
      obtain ⟨m, hm⟩ : ∃ m, m = max i k := ⟨_, rfl⟩
      have hmx : max (i : Int) (k : Int) = (m : Int) := by omega
      have hgeq : (n : Int) ≤ (m : Int) + (s : Int) := by omega
      have hmn : m < n := by omega
      clear e1 hm
      go_enter Tryz.func84, Tryz.ntmps84
      go_upto_region 1 with fail
      go_region_held3 (fun W => W.cell? ⟨bk, 0, none⟩ = some (.func (.func 82) #[] #[.pointer (some ⟨bc, 0, none⟩)]) ∧ W.cell? ⟨br, 0, none⟩ = some (.slice (some ⟨x0, 0, none⟩) n cx) ∧ W.cell? ⟨x0, i, none⟩ = some (.int .i64 ri) ∧ W.cell? ⟨x0, k, none⟩ = some (.int .i64 rk)) (first | exact HQ.out _ (But.refl _ _) | exact HQ.out _ hb5) (first | (go_at_call 82; refine (CC _ (by first | exact (But.refl bc w).drewN 1 | exact But.refl bc w) (by first | exact hc)).mono ?_; rintro e w5 ⟨rfl, hc5, hb5⟩))
      obtain ⟨q7, q8⟩ := HT.out _ hb5
      clear HT HQ CC
      go_wp2_with fail
      refine (CM _).mono ?_
      rintro e w6 ⟨rfl, rfl⟩
      go_wp2
      go_ret
      exact ⟨rfl, hc5, hb5⟩
    · have ev : ordV r n s i k = cmpI (nth r (i + s)) (nth r (k + s)) := by unfold ordV; rw [if_pos e0, if_neg e1]
      have ec : ordC r n s i k = 1 + 1 := by unfold ordC; rw [if_pos e0, if_neg e1]
      rw [g1, g2] at e0
      rw [ev, ec]
      rw [ec] at hl
      rw [e0] at CC
      have C3 := fun W (hW : Cst W bc (c + 1)) => count_any (nth r (i + s)) (nth r (k + s)) bc (c + 1) W hW (by omega)
      obtain ⟨ri2, g3⟩ : ∃ x, nth r (i + s) = x := ⟨_, rfl⟩
      obtain ⟨rk2, g4⟩ : ∃ x, nth r (k + s) = x := ⟨_, rfl⟩
      have HQ2 : Hid (∀ W, But bc w W → W.cell? ⟨bk, 0, none⟩ = some (.func (.func 82) #[] #[.pointer (some ⟨bc, 0, none⟩)]) ∧ W.cell? ⟨br, 0, none⟩ = some (.slice (some ⟨x0, 0, none⟩) n cx) ∧ W.cell? ⟨bs, 0, none⟩ = some (.int .i64 (s : Int)) ∧ W.cell? ⟨x0, i + s, none⟩ = some (.int .i64 ri2) ∧ W.cell? ⟨x0, k + s, none⟩ = some (.int .i64 rk2)) := fun W h => ⟨(HS.out W h).fk, h.cell HN.out HRK.out, (HS.out W h).st, by rw [← g3]; exact (HS.out W h).row _ (by omega), by rw [← g4]; exact (HS.out W h).row _ (by omega)⟩
      rw [g3, g4] at C3 ⊢
      generalize cmpI ri2 rk2 = v at *
      clear HS ev ec g1 g2 g3 g4 e0 hl HRK HN
      obtain ⟨m, hm⟩ : ∃ m, m = max i k := ⟨_, rfl⟩
      have hmx : max (i : Int) (k : Int) = (m : Int) := by omega
      have hgeq : ¬ (n : Int) ≤ (m : Int) + (s : Int) := by omega
      have hi2 : (i : Int) + (s : Int) < (n : Int) := by omega
      have hk2 : (k : Int) + (s : Int) < (n : Int) := by omega
      have hmn : m < n := by omega
      have hi3 : ((i : Int) + (s : Int)).toNat = i + s := by omega
      have wi : IntKind.i64.wrap ((i : Int) + (s : Int)) = (i : Int) + (s : Int) := by simp [IntKind.wrap, IntKind.bits, IntKind.signed]; omega
      have wk : IntKind.i64.wrap ((k : Int) + (s : Int)) = (k : Int) + (s : Int) := by simp [IntKind.wrap, IntKind.bits, IntKind.signed]; omega
      have hi4 : (0 : Int) ≤ (i : Int) + (s : Int) := by omega
      have hk4 : (0 : Int) ≤ (k : Int) + (s : Int) := by omega
      have hk3 : ((k : Int) + (s : Int)).toNat = k + s := by omega
      clear e1 hm
      go_enter Tryz.func84, Tryz.ntmps84
      go_upto_region 1 with fail
      go_region_held3 (fun W => W.cell? ⟨bk, 0, none⟩ = some (.func (.func 82) #[] #[.pointer (some ⟨bc, 0, none⟩)]) ∧ W.cell? ⟨br, 0, none⟩ = some (.slice (some ⟨x0, 0, none⟩) n cx) ∧ W.cell? ⟨x0, i, none⟩ = some (.int .i64 ri) ∧ W.cell? ⟨x0, k, none⟩ = some (.int .i64 rk)) (first | exact HQ.out _ (But.refl _ _) | exact HQ.out _ hb5) (first | (go_at_call 82; refine (CC _ (by first | exact (But.refl bc w).drewN 1 | exact But.refl bc w) (by first | exact hc)).mono ?_; rintro e w5 ⟨rfl, hc5, hb5⟩))
      obtain ⟨q7, q8⟩ := HT.out _ hb5
      clear HT HQ CC
      go_upto_region 6 with fail
      go_region_held3 (fun W => W.cell? ⟨bk, 0, none⟩ = some (.func (.func 82) #[] #[.pointer (some ⟨bc, 0, none⟩)]) ∧ W.cell? ⟨br, 0, none⟩ = some (.slice (some ⟨x0, 0, none⟩) n cx) ∧ W.cell? ⟨bs, 0, none⟩ = some (.int .i64 (s : Int)) ∧ W.cell? ⟨x0, i + s, none⟩ = some (.int .i64 ri2) ∧ W.cell? ⟨x0, k + s, none⟩ = some (.int .i64 rk2)) (first | exact HQ2.out _ hb5 | exact HQ2.out _ (But.trans hb5 hb6)) (first | (go_at_call 82; refine (C3 _ (by first | exact hc5)).mono ?_; rintro e w6 ⟨rfl, hc6, hb6⟩))
      go_wp2
      go_ret
      exact ⟨rfl, hc6, hb5.trans hb6⟩
  · have ev : ordV r n s i k = cmpI (nth r i) (nth r k) := by unfold ordV; rw [if_neg e0]
    have ec : ordC r n s i k = 1 := by unfold ordC; rw [if_neg e0]
    rw [ev, ec]
    rw [g1, g2] at e0 ⊢
    have e1 : (cmpI ri rk != 0) = true := by simp [e0]
    clear ev ec e0 g1 g2 HS HT HRK HN
    generalize cmpI ri rk = v at *
    go_enter Tryz.func84, Tryz.ntmps84
    go_upto_region 1 with fail
    go_region_held3 (fun W => W.cell? ⟨bk, 0, none⟩ = some (.func (.func 82) #[] #[.pointer (some ⟨bc, 0, none⟩)]) ∧ W.cell? ⟨br, 0, none⟩ = some (.slice (some ⟨x0, 0, none⟩) n cx) ∧ W.cell? ⟨x0, i, none⟩ = some (.int .i64 ri) ∧ W.cell? ⟨x0, k, none⟩ = some (.int .i64 rk)) (first | exact HQ.out _ (But.refl _ _) | exact HQ.out _ hb5) (first | (go_at_call 82; refine (CC _ (by first | exact (But.refl bc w).drewN 1 | exact But.refl bc w) (by first | exact hc)).mono ?_; rintro e w5 ⟨rfl, hc5, hb5⟩))
    go_wp2
    go_ret
    exact ⟨rfl, hc5, hb5⟩




end Go.Proofs.YtokhclindfipbaaGreatDoor
