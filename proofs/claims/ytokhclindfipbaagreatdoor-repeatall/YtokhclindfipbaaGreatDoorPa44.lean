/-
  The program: Reads, Writes, Links, Alone, All, each by what it answers; each word is of 32 bits.
-/
import Derived.Test.YtokhclindfipbaaGreatDoorProg
import Derived.WalkKit
import Derived.WalkSpells
import Derived.WalkLawsBesides
import Derived.RowKit3
import Derived.Below
import Derived.Deep.QuietTactic
import Derived.BigQuiet
import Derived.WalkSmall
import Derived.Laws.Rows
import Derived.Deep.RegionHeld3
import Derived.Test.YtokhclindfipbaaGreatDoorPa41
import Derived.Test.YtokhclindfipbaaGreatDoorPa43
namespace Go.Proofs.YtokhclindfipbaaGreatDoor
open Go.RowKit

theorem mkFnT : ∀ (fn : Fn) (first cap : Array Value) (w : World), (Instr.makeFunc fn first cap).run Tryz.prog w = .ok (.func fn first cap) w := fun _ _ _ _ => rfl
set_option maxRecDepth 100000 in
set_option maxHeartbeats 2000000 in
theorem joined_any (op dd da db dn : Int) (h8 : op ≤ 127) (hd : 0 ≤ dd ∧ dd ≤ 15) (ha : 0 ≤ da ∧ da ≤ 15) (hb : 0 ≤ db ∧ db ≤ 15) (g : Nat) (w : World) (k0 : w.cell? ⟨g, 0, none⟩ = some (.func (.func 150) #[.agg #[.int .i8 op, .int .i8 dd, .int .i8 da, .int .i8 db, .int .i64 dn]] #[])) (k1 : w.cell? ⟨g, 1, none⟩ = some (.func (.func 151) #[.agg #[.int .i8 op, .int .i8 dd, .int .i8 da, .int .i8 db, .int .i64 dn]] #[])) : Calls Tryz.prog 149 #[.slice (some ⟨g, 0, none⟩) 2 2] w fun e w' => e = .returned (.int .u16 ((irdN op da db ||| iwrN op dd : Nat) : Int)) ∧ Below w.heap.size w w' := by
  have C1 := fun wx => ireads_any op dd da db dn h8 ha hb wx
  have C2 := fun wx => iwrites_any op dd da db dn h8 hd wx
  have l1 := irdN_lt (op := op) ha.2 hb.2
  have l2 := iwrN_lt (op := op) hd.2
  have hor1 := orI (a := 0) (by omega) l1
  have hor2 := orI l1 l2
  clear h8 hd ha hb
  rw [Nat.zero_or, show ((0 : Nat) : Int) = 0 from rfl] at hor1
  generalize irdN op da db = x at *
  generalize iwrN op dd = y at *
  clear l1 l2
  have HK0 : Hid (w.cell? ⟨g, 0, none⟩ = some (.func (.func 150) #[.agg #[.int .i8 op, .int .i8 dd, .int .i8 da, .int .i8 db, .int .i64 dn]] #[])) := k0
  have HK1 : Hid (w.cell? ⟨g, 1, none⟩ = some (.func (.func 151) #[.agg #[.int .i8 op, .int .i8 dd, .int .i8 da, .int .i8 db, .int .i64 dn]] #[])) := k1
  clear k0 k1
  go_enter Tryz.func149, Tryz.ntmps149
  go_wp2
  go_loopw [3, 8] (fun r i wr => ∃ k : Nat, i = .int .i64 k ∧ r = .int .u16 (((if k = 0 then 0 else if k = 1 then x else x ||| y) : Nat) : Int) ∧ k ≤ 2 ∧ Hid (Below w.heap.size w wr)) (fun _ i _ => 2 - (intOf i).toNat)
  case atStart => exact ⟨0, rfl, rfl, Nat.zero_le _, Below.refl _ _⟩
  case round =>
    obtain ⟨k, rfl, rfl, hk, HB⟩ := hrel
    rcases (show k = 0 ∨ k = 1 ∨ k = 2 by omega) with rfl | rfl | rfl
    · have q := lkeep HB.out HK0.out
      rw [if_pos rfl]
      go_wp2_with (go_at_call 150; refine (C1 _).mono ?_; rintro e w1 ⟨rfl, hb1⟩; have HB1 : Hid (Below w.heap.size w w1) := lb_trans HB.out hb1; clear hb1)
      go_roundw
      case rel => exact ⟨0 + 1, by go_num, rfl, by omega, HB1⟩
      case measure => simp [intOf]
    · have q := lkeep HB.out HK1.out
      rw [if_neg (by omega), if_pos rfl]
      go_wp2_with (go_at_call 151; refine (C2 _).mono ?_; rintro e w1 ⟨rfl, hb1⟩; have HB1 : Hid (Below w.heap.size w w1) := lb_trans HB.out hb1; clear hb1)
      go_roundw
      case rel => exact ⟨1 + 1, by go_num, rfl, by omega, HB1⟩
      case measure => simp [intOf]
    · rw [if_neg (by omega), if_neg (by omega)]
      go_wp2
      go_ret
      exact ⟨rfl, HB.out⟩
set_option maxRecDepth 100000 in
set_option maxHeartbeats 2000000 in
theorem ilinks_any (op dd da db dn : Int) (h8 : op ≤ 127) (hd : 0 ≤ dd ∧ dd ≤ 15) (ha : 0 ≤ da ∧ da ≤ 15) (hb : 0 ≤ db ∧ db ≤ 15) (w : World) : Calls Tryz.prog 137 #[.agg #[.int .i8 op, .int .i8 dd, .int .i8 da, .int .i8 db, .int .i64 dn]] w fun e w' => e = .returned (.bool (decide ((irdN op da db ||| iwrN op dd) / 32768 = 1))) ∧ Below w.heap.size w w' := by
  have C := fun g wx => joined_any op dd da db dn h8 hd ha hb g wx
  have hlk := linkA (orN_lt (irdN_lt (op := op) ha.2 hb.2) (iwrN_lt (op := op) hd.2))
  have HL : Hid ((bits .and .u16 ((irdN op da db ||| iwrN op dd : Nat) : Int) 32768 != 0) = decide ((irdN op da db ||| iwrN op dd) / 32768 = 1)) := hlk
  rw [← HL.out]
  clear HL hlk h8 hd ha hb
  generalize irdN op da db ||| iwrN op dd = z at *
  have mk := mkFnT
  go_enter Tryz.func137, Tryz.ntmps137
  go_wp2_with (go_at_call 149; refine (C _ _ (by simp [go_sem]) (by simp [go_sem])).mono ?_; rintro e w1 ⟨rfl, hb1⟩)
  go_ret
  exact ⟨rfl, lb_trans (lb_alloc (lb_alloc (Below.refl _ _) _) _) hb1⟩
theorem dOp_le7 (v : Int) (h0 : 0 ≤ v) (h1 : v < 4294967296) : dOp v ≤ 127 := by
  unfold dOp
  split
  · unfold wOp; omega
  · omega
theorem lnB_is (v : Int) : lnB v = decide ((irdN (dOp v) (dA v) (dB v) ||| iwrN (dOp v) (dD v)) / 32768 = 1) := by
  unfold lnB
  rw [rdN_is, wrN_is]
set_option maxHeartbeats 2000000 in
theorem aloneOK : AloneOK := fun v w h0 h1 => by
  have C := fun wx => decoded_any v h0 h1 wx
  have CL := fun wx => ilinks_any (dOp v) (dD v) (dA v) (dB v) (dN v) (dOp_le7 v h0 h1) (dD_reg v) (dA_reg v) (dB_reg v) wx
  have HA : Hid (alB v = if dOp v = -1 ∨ dOp v = 16 then true else if dOp v = 19 ∨ dOp v = 17 then false else if dOp v = 18 then dA v == 15 else lnB v) := rfl
  rw [lnB_is] at HA
  generalize alB v = r at *
  generalize decide ((irdN (dOp v) (dA v) (dB v) ||| iwrN (dOp v) (dD v)) / 32768 = 1) = lk at *
  generalize dOp v = op at *
  generalize dD v = dd at *
  generalize dA v = da at *
  generalize dB v = db at *
  generalize dN v = dn at *
  by_cases k1 : op = -1 ∨ op = 16
  · rw [if_pos k1] at HA
    rcases k1 with rfl | rfl
    all_goals (
      go_enter Tryz.func113, Tryz.ntmps113
      go_wp2_with (go_at_call 136; refine (C _).mono ?_; rintro e w1 ⟨rfl, hb1⟩)
      go_ret
      exact ⟨by rw [HA.out]; rfl, lb_alloc hb1 _⟩)
  · rw [if_neg k1] at HA
    by_cases k2 : op = 19 ∨ op = 17
    · rw [if_pos k2] at HA
      rcases k2 with rfl | rfl
      all_goals (
        go_enter Tryz.func113, Tryz.ntmps113
        go_wp2_with (go_at_call 136; refine (C _).mono ?_; rintro e w1 ⟨rfl, hb1⟩)
        go_ret
        exact ⟨by rw [HA.out]; rfl, lb_alloc hb1 _⟩)
    · rw [if_neg k2] at HA
      by_cases k3 : op = 18
      · rw [if_pos k3] at HA
        subst k3
        go_enter Tryz.func113, Tryz.ntmps113
        go_wp2_with (go_at_call 136; refine (C _).mono ?_; rintro e w1 ⟨rfl, hb1⟩)
        go_ret
        exact ⟨by rw [HA.out]; rfl, lb_alloc hb1 _⟩
      · rw [if_neg k3] at HA
        have o1 : (op == -1) = false := by rw [beq_eq_false_iff_ne]; omega
        have o2 : (op == 16) = false := by rw [beq_eq_false_iff_ne]; omega
        have o3 : (op == 19) = false := by rw [beq_eq_false_iff_ne]; omega
        have o4 : (op == 17) = false := by rw [beq_eq_false_iff_ne]; omega
        have o5 : (op == 18) = false := by rw [beq_eq_false_iff_ne]; omega
        clear k1 k2 k3
        go_enter Tryz.func113, Tryz.ntmps113
        go_wp2_with (first
          | (go_at_call 136; refine (C _).mono ?_; rintro e w1 ⟨rfl, hb1⟩)
          | (go_at_call 137; refine (CL _).mono ?_; rintro e w2 ⟨rfl, hb2⟩))
        go_ret
        exact ⟨by rw [HA.out]; rfl, lb_trans (lb_alloc hb1 _) hb2⟩



end Go.Proofs.YtokhclindfipbaaGreatDoor
