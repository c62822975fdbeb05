/-
  The program: a set of one register, whether an instruction is a call, an instruction of a word; registers are 0 to 15, each word is of 32 bits. The program: what an instruction reads and writes; registers are 0 to 15. The program: Reads, Writes, Links, Alone, All, each by what it answers; each word is of 32 bits.
-/
import Derived.Test.YtmlhnnmelopleaaGreatDoorProg
import Derived.WalkKit
import Derived.WalkSpells
import Derived.WalkLawsBesides
import Derived.RowKit3
import Derived.Below
import Derived.Deep.QuietTactic
import Derived.BigQuiet
import Derived.WalkSmall
import Derived.Laws.Rows
import Derived.Deep.RegionHeld3
import Derived.Test.YtmlhnnmelopleaaGreatDoorPs08
import Derived.Test.YtmlhnnmelopleaaGreatDoorPs14
namespace Go.Proofs.YtmlhnnmelopleaaGreatDoor
open Go.RowKit

theorem tbcell {W w1 : World} (hb : Below W.heap.size W w1) : (∀ b o, b < W.heap.size → w1.cell? ⟨b, o, none⟩ = W.cell? ⟨b, o, none⟩) ∧ (∀ b o, b < W.heap.size → w1.frozen? ⟨b, o, none⟩ = W.frozen? ⟨b, o, none⟩) :=
  ⟨fun b o h => hb.cell (p := ⟨b, o, none⟩) h, fun b o h => hb.frozen (p := ⟨b, o, none⟩) h⟩
set_option maxHeartbeats 2000000 in
theorem only_any (h : Bool) (r : Int) (h0 : 0 ≤ r) (h1 : r ≤ 15) (w : World) : Calls Tryz.prog 84 #[.bool h, .int .i8 r] w fun e w' => e = .returned (.int .u16 ((bitN h r : Nat) : Int)) ∧ w' = w := by
  cases h with
  | false =>
    go_enter Tryz.func84, Tryz.ntmps84
    go_wp2
    go_ret
    exact ⟨rfl, rfl⟩
  | true =>
    rcases (show r = 0 ∨ r = 1 ∨ r = 2 ∨ r = 3 ∨ r = 4 ∨ r = 5 ∨ r = 6 ∨ r = 7 ∨ r = 8 ∨ r = 9 ∨ r = 10 ∨ r = 11 ∨ r = 12 ∨ r = 13 ∨ r = 14 ∨ r = 15 by omega) with rfl | rfl | rfl | rfl | rfl | rfl | rfl | rfl | rfl | rfl | rfl | rfl | rfl | rfl | rfl | rfl
    all_goals (
      go_enter Tryz.func84, Tryz.ntmps84
      go_wp2
      go_ret
      exact ⟨rfl, rfl⟩)
set_option maxHeartbeats 2000000 in
theorem icalls_any (op dd da db dn : Int) (w : World) : Calls Tryz.prog 85 #[.agg #[.int .i8 op, .int .i8 dd, .int .i8 da, .int .i8 db, .int .i64 dn]] w fun e w' => e = .returned (.bool (cllB op)) ∧ Below w.heap.size w w' := by
  by_cases k1 : op = 17
  · subst k1
    go_enter Tryz.func85, Tryz.ntmps85
    go_wp2
    go_ret
    exact ⟨rfl, lb_alloc (Below.refl _ _) _⟩
  · by_cases k2 : op = 18
    · subst k2
      go_enter Tryz.func85, Tryz.ntmps85
      go_wp2
      go_ret
      exact ⟨rfl, lb_alloc (Below.refl _ _) _⟩
    · have o1 : (op == 17) = false := by rw [beq_eq_false_iff_ne]; exact k1
      have o2 : (op == 18) = false := by rw [beq_eq_false_iff_ne]; exact k2
      have HC : Hid (cllB op = false) := by unfold Hid cllB; rw [o1, o2]; rfl
      clear k1 k2
      go_enter Tryz.func85, Tryz.ntmps85
      go_wp2
      go_ret
      exact ⟨by rw [HC.out]; try rfl, lb_alloc (Below.refl _ _) _⟩
set_option maxHeartbeats 2000000 in
theorem decoded_any (v : Int) (h0 : 0 ≤ v) (h1 : v < 4294967296) (w : World) : Calls Tryz.prog 46 #[.int .u32 v] w fun e w' => e = .returned (.agg #[.int .i8 (dOp v), .int .i8 (dD v), .int .i8 (dA v), .int .i8 (dB v), .int .i64 (dN v)]) ∧ Below w.heap.size w w' := by
  have C := fun wx => isadecode_any v h0 h1 wx
  generalize dOp v = op at *
  generalize dD v = dd at *
  generalize dA v = da at *
  generalize dB v = db at *
  generalize dN v = dn at *
  go_enter Tryz.func46, Tryz.ntmps46
  go_wp2_with (go_at_call 28; refine (C _).mono ?_; rintro e w1 ⟨rfl, hb1⟩; obtain ⟨hc, hf⟩ := tbcell hb1; have hz : w.heap.size < w1.heap.size := by have := hb1.size; simp at this; omega)
  exact bodyPost_ret (v := .agg #[.int .i8 op, .int .i8 dd, .int .i8 da, .int .i8 db, .int .i64 dn]) (by simp [results, Tryz.results46, go_sem, hc]) rfl ⟨rfl, (((((lb_alloc (Below.refl _ _) _).trans (hb1.mono (by simp))).setCell (by simp) _).setCell (by simp) _).setCell (by simp) _ |>.setCell (by simp) _).setCell (by simp) _⟩


end Go.Proofs.YtmlhnnmelopleaaGreatDoor

namespace Go.Proofs.YtmlhnnmelopleaaGreatDoor
open Go.RowKit

set_option maxRecDepth 100000 in
set_option maxHeartbeats 2000000 in
theorem ireads_any (op dd da db dn : Int) (h8 : op ≤ 127) (ha : 0 ≤ da ∧ da ≤ 15) (hb : 0 ≤ db ∧ db ≤ 15) (w : World) : Calls Tryz.prog 64 #[.agg #[.int .i8 op, .int .i8 dd, .int .i8 da, .int .i8 db, .int .i64 dn]] w fun e w' => e = .returned (.int .u16 ((irdN op da db : Nat) : Int)) ∧ Below w.heap.size w w' := by
  have B1 := fun wx => only_any (hA op) da ha.1 ha.2 wx
  have B2 := fun wx => only_any (hB op) db hb.1 hb.2 wx
  have CH := fun wx => isahas_any op h8 wx
  have hor := orI (bitN_lt (hA op) ha.2) (bitN_lt (hB op) hb.2)
  have HR : Hid (irdN op da db = bitN (hA op) da ||| bitN (hB op) db) := rfl
  rw [HR.out]
  clear HR ha hb h8
  generalize bitN (hA op) da = x at *
  generalize bitN (hB op) db = y at *
  generalize hD op = p1 at *
  generalize hA op = p2 at *
  generalize hB op = p3 at *
  generalize hN op = p4 at *
  generalize hP op = p5 at *
  go_enter Tryz.func64, Tryz.ntmps64
  go_upto_region 2 with (go_at_call 83; refine (CH _).mono ?_; rintro e w1 ⟨rfl, hb1⟩; have HB1 : Hid (Below w.heap.size w w1) := (lb_alloc (Below.refl _ _) _).trans (hb1.mono (by simp)); have c2 : w1.cell? ⟨w.heap.size, 2, none⟩ = some (.int .i8 da) := (lkeep hb1 (by simp [go_sem])); have c3 : w1.cell? ⟨w.heap.size, 3, none⟩ = some (.int .i8 db) := (lkeep hb1 (by simp [go_sem])); clear hb1)
  go_region_held3 (fun Y => Below w.heap.size w Y ∧ Y.cell? ⟨w.heap.size, 2, none⟩ = some (.int .i8 da) ∧ Y.cell? ⟨w.heap.size, 3, none⟩ = some (.int .i8 db)) (first | exact ⟨HB1.out, c2, c3⟩ | exact ⟨HB1.out.drew, c2, c3⟩ | (simp [*]; done))
    ((go_at_call 84; first | (refine (B1 _).mono ?_; rintro e w5 ⟨rfl, hw5⟩; have hw5 := hw5.symm; subst hw5) | (refine (B2 _).mono ?_; rintro e w5 ⟨rfl, hw5⟩; have hw5 := hw5.symm; subst hw5)))
  all_goals (
    rename_i hS
    clear hS
    go_wp2_with fail
    go_ret
    exact ⟨by first | rfl | (rw [← hor]), by first | exact HB1.out | exact HB1.out.drew⟩)
set_option maxRecDepth 100000 in
set_option maxHeartbeats 2000000 in
theorem iwrites_any (op dd da db dn : Int) (h8 : op ≤ 127) (hd : 0 ≤ dd ∧ dd ≤ 15) (w : World) : Calls Tryz.prog 65 #[.agg #[.int .i8 op, .int .i8 dd, .int .i8 da, .int .i8 db, .int .i64 dn]] w fun e w' => e = .returned (.int .u16 ((iwrN op dd : Nat) : Int)) ∧ Below w.heap.size w w' := by
  have B1 := fun wx => only_any (hD op) dd hd.1 hd.2 wx
  have B2 := fun wx => only_any (cllB op) 15 (by omega) (by omega) wx
  have CC := fun wx => icalls_any op dd da db dn wx
  have CH := fun wx => isahas_any op h8 wx
  have hor := orI (bitN_lt (hD op) hd.2) (bitN_lt (cllB op) (r := 15) (by omega))
  have HR : Hid (iwrN op dd = bitN (hD op) dd ||| bitN (cllB op) 15) := rfl
  rw [HR.out]
  clear HR hd h8
  generalize bitN (hD op) dd = x at *
  generalize bitN (cllB op) 15 = y at *
  generalize cllB op = cb at *
  generalize hD op = p1 at *
  generalize hA op = p2 at *
  generalize hB op = p3 at *
  generalize hN op = p4 at *
  generalize hP op = p5 at *
  go_enter Tryz.func65, Tryz.ntmps65
  go_upto_region 2 with (go_at_call 83; refine (CH _).mono ?_; rintro e w1 ⟨rfl, hb1⟩; have HB1 : Hid (Below w.heap.size w w1) := (lb_alloc (Below.refl _ _) _).trans (hb1.mono (by simp)); have c0 : w1.cell? ⟨w.heap.size, 0, none⟩ = some (.int .i8 op) := (lkeep hb1 (by simp [go_sem])); have c1 : w1.cell? ⟨w.heap.size, 1, none⟩ = some (.int .i8 dd) := (lkeep hb1 (by simp [go_sem])); have c2 : w1.cell? ⟨w.heap.size, 2, none⟩ = some (.int .i8 da) := (lkeep hb1 (by simp [go_sem])); have c3 : w1.cell? ⟨w.heap.size, 3, none⟩ = some (.int .i8 db) := (lkeep hb1 (by simp [go_sem])); have c4 : w1.cell? ⟨w.heap.size, 4, none⟩ = some (.int .i64 dn) := (lkeep hb1 (by simp [go_sem])); clear hb1)
  have hXX := Below.refl w1.heap.size w1
  go_region_held3 (fun Y => Below w1.heap.size w1 Y ∧ Y.cell? ⟨w.heap.size, 0, none⟩ = some (.int .i8 op) ∧ Y.cell? ⟨w.heap.size, 1, none⟩ = some (.int .i8 dd) ∧ Y.cell? ⟨w.heap.size, 2, none⟩ = some (.int .i8 da) ∧ Y.cell? ⟨w.heap.size, 3, none⟩ = some (.int .i8 db) ∧ Y.cell? ⟨w.heap.size, 4, none⟩ = some (.int .i64 dn)) (first | exact ⟨hXX, c0, c1, c2, c3, c4⟩ | exact ⟨hXX.drew, c0, c1, c2, c3, c4⟩ | exact ⟨hY, lkeep hY c0, lkeep hY c1, lkeep hY c2, lkeep hY c3, lkeep hY c4⟩ | exact ⟨hY.drew, lkeep hY.drew c0, lkeep hY.drew c1, lkeep hY.drew c2, lkeep hY.drew c3, lkeep hY.drew c4⟩)
    (first
      | (go_at_call 85; refine (CC _).mono ?_; rintro e w2 ⟨rfl, hw2⟩; have hY : Below w1.heap.size w1 w2 := (by first | exact hw2 | exact lb_trans hXX.drew hw2 | exact lb_trans hXX hw2); clear hw2)
      | (go_at_call 84; first | (refine (B1 _).mono ?_; rintro e w5 ⟨rfl, hw5⟩; have hw5 := hw5.symm; subst hw5) | (refine (B2 _).mono ?_; rintro e w5 ⟨rfl, hw5⟩; have hw5 := hw5.symm; subst hw5)))
  all_goals (
    rename_i hS
    clear hS
    go_wp2_with fail
    go_ret
    exact ⟨by first | rfl | (rw [← hor]), by first | exact lb_trans HB1.out hY | exact lb_trans HB1.out hY.drew⟩)


end Go.Proofs.YtmlhnnmelopleaaGreatDoor

namespace Go.Proofs.YtmlhnnmelopleaaGreatDoor
open Go.RowKit

theorem mkFnT : ∀ (fn : Fn) (first cap : Array Value) (w : World), (Instr.makeFunc fn first cap).run Tryz.prog w = .ok (.func fn first cap) w := fun _ _ _ _ => rfl
set_option maxRecDepth 100000 in
set_option maxHeartbeats 2000000 in
theorem joined_any (op dd da db dn : Int) (h8 : op ≤ 127) (hd : 0 ≤ dd ∧ dd ≤ 15) (ha : 0 ≤ da ∧ da ≤ 15) (hb : 0 ≤ db ∧ db ≤ 15) (g : Nat) (w : World) (k0 : w.cell? ⟨g, 0, none⟩ = some (.func (.func 64) #[.agg #[.int .i8 op, .int .i8 dd, .int .i8 da, .int .i8 db, .int .i64 dn]] #[])) (k1 : w.cell? ⟨g, 1, none⟩ = some (.func (.func 65) #[.agg #[.int .i8 op, .int .i8 dd, .int .i8 da, .int .i8 db, .int .i64 dn]] #[])) : Calls Tryz.prog 63 #[.slice (some ⟨g, 0, none⟩) 2 2] w fun e w' => e = .returned (.int .u16 ((irdN op da db ||| iwrN op dd : Nat) : Int)) ∧ Below w.heap.size w w' := by
  have C1 := fun wx => ireads_any op dd da db dn h8 ha hb wx
  have C2 := fun wx => iwrites_any op dd da db dn h8 hd wx
  have l1 := irdN_lt (op := op) ha.2 hb.2
  have l2 := iwrN_lt (op := op) hd.2
  have hor1 := orI (a := 0) (by omega) l1
  have hor2 := orI l1 l2
  clear h8 hd ha hb
  rw [Nat.zero_or, show ((0 : Nat) : Int) = 0 from rfl] at hor1
  generalize irdN op da db = x at *
  generalize iwrN op dd = y at *
  clear l1 l2
  have HK0 : Hid (w.cell? ⟨g, 0, none⟩ = some (.func (.func 64) #[.agg #[.int .i8 op, .int .i8 dd, .int .i8 da, .int .i8 db, .int .i64 dn]] #[])) := k0
  have HK1 : Hid (w.cell? ⟨g, 1, none⟩ = some (.func (.func 65) #[.agg #[.int .i8 op, .int .i8 dd, .int .i8 da, .int .i8 db, .int .i64 dn]] #[])) := k1
  clear k0 k1
  go_enter Tryz.func63, Tryz.ntmps63
  go_wp2
  go_loopw [3, 8] (fun r i wr => ∃ k : Nat, i = .int .i64 k ∧ r = .int .u16 (((if k = 0 then 0 else if k = 1 then x else x ||| y) : Nat) : Int) ∧ k ≤ 2 ∧ Hid (Below w.heap.size w wr)) (fun _ i _ => 2 - (intOf i).toNat)
  case atStart => exact ⟨0, rfl, rfl, Nat.zero_le _, Below.refl _ _⟩
  case round =>
    obtain ⟨k, rfl, rfl, hk, HB⟩ := hrel
    rcases (show k = 0 ∨ k = 1 ∨ k = 2 by omega) with rfl | rfl | rfl
    · have q := lkeep HB.out HK0.out
      rw [if_pos rfl]
      go_wp2_with (go_at_call 64; refine (C1 _).mono ?_; rintro e w1 ⟨rfl, hb1⟩; have HB1 : Hid (Below w.heap.size w w1) := lb_trans HB.out hb1; clear hb1)
      go_roundw
      case rel => exact ⟨0 + 1, by go_num, rfl, by omega, HB1⟩
      case measure => simp [intOf]
    · have q := lkeep HB.out HK1.out
      rw [if_neg (by omega), if_pos rfl]
      go_wp2_with (go_at_call 65; refine (C2 _).mono ?_; rintro e w1 ⟨rfl, hb1⟩; have HB1 : Hid (Below w.heap.size w w1) := lb_trans HB.out hb1; clear hb1)
      go_roundw
      case rel => exact ⟨1 + 1, by go_num, rfl, by omega, HB1⟩
      case measure => simp [intOf]
    · rw [if_neg (by omega), if_neg (by omega)]
      go_wp2
      go_ret
      exact ⟨rfl, HB.out⟩
set_option maxRecDepth 100000 in
set_option maxHeartbeats 2000000 in
theorem ilinks_any (op dd da db dn : Int) (h8 : op ≤ 127) (hd : 0 ≤ dd ∧ dd ≤ 15) (ha : 0 ≤ da ∧ da ≤ 15) (hb : 0 ≤ db ∧ db ≤ 15) (w : World) : Calls Tryz.prog 47 #[.agg #[.int .i8 op, .int .i8 dd, .int .i8 da, .int .i8 db, .int .i64 dn]] w fun e w' => e = .returned (.bool (decide ((irdN op da db ||| iwrN op dd) / 32768 = 1))) ∧ Below w.heap.size w w' := by
  have C := fun g wx => joined_any op dd da db dn h8 hd ha hb g wx
  have hlk := linkA (orN_lt (irdN_lt (op := op) ha.2 hb.2) (iwrN_lt (op := op) hd.2))
  have HL : Hid ((bits .and .u16 ((irdN op da db ||| iwrN op dd : Nat) : Int) 32768 != 0) = decide ((irdN op da db ||| iwrN op dd) / 32768 = 1)) := hlk
  rw [← HL.out]
  clear HL hlk h8 hd ha hb
  generalize irdN op da db ||| iwrN op dd = z at *
  have mk := mkFnT
  go_enter Tryz.func47, Tryz.ntmps47
  go_wp2_with (go_at_call 63; refine (C _ _ (by simp [go_sem]) (by simp [go_sem])).mono ?_; rintro e w1 ⟨rfl, hb1⟩)
  go_ret
  exact ⟨rfl, lb_trans (lb_alloc (lb_alloc (Below.refl _ _) _) _) hb1⟩
theorem dOp_le7 (v : Int) (h0 : 0 ≤ v) (h1 : v < 4294967296) : dOp v ≤ 127 := by
  unfold dOp
  split
  · unfold wOp; omega
  · omega
set_option maxHeartbeats 2000000 in
theorem readsOK : ReadsOK := fun v w h0 h1 => by
  have C := fun wx => decoded_any v h0 h1 wx
  have C1 := fun wx => ireads_any (dOp v) (dD v) (dA v) (dB v) (dN v) (dOp_le7 v h0 h1) (dA_reg v) (dB_reg v) wx
  rw [rdN_is]
  generalize irdN (dOp v) (dA v) (dB v) = x at *
  generalize dOp v = op at *
  generalize dD v = dd at *
  generalize dA v = da at *
  generalize dB v = db at *
  generalize dN v = dn at *
  go_enter Tryz.func92, Tryz.ntmps92
  go_wp2_with (first
    | (go_at_call 46; refine (C _).mono ?_; rintro e w1 ⟨rfl, hb1⟩)
    | (go_at_call 64; refine (C1 _).mono ?_; rintro e w2 ⟨rfl, hb2⟩))
  go_ret
  exact ⟨rfl, lb_trans hb1 hb2⟩
set_option maxHeartbeats 2000000 in
theorem writesOK : WritesOK := fun v w h0 h1 => by
  have C := fun wx => decoded_any v h0 h1 wx
  have C1 := fun wx => iwrites_any (dOp v) (dD v) (dA v) (dB v) (dN v) (dOp_le7 v h0 h1) (dD_reg v) wx
  rw [wrN_is]
  generalize iwrN (dOp v) (dD v) = x at *
  generalize dOp v = op at *
  generalize dD v = dd at *
  generalize dA v = da at *
  generalize dB v = db at *
  generalize dN v = dn at *
  go_enter Tryz.func93, Tryz.ntmps93
  go_wp2_with (first
    | (go_at_call 46; refine (C _).mono ?_; rintro e w1 ⟨rfl, hb1⟩)
    | (go_at_call 65; refine (C1 _).mono ?_; rintro e w2 ⟨rfl, hb2⟩))
  go_ret
  exact ⟨rfl, lb_trans hb1 hb2⟩
theorem lnB_is (v : Int) : lnB v = decide ((irdN (dOp v) (dA v) (dB v) ||| iwrN (dOp v) (dD v)) / 32768 = 1) := by
  unfold lnB
  rw [rdN_is, wrN_is]
set_option maxHeartbeats 2000000 in
theorem aloneOK : AloneOK := fun v w h0 h1 => by
  have C := fun wx => decoded_any v h0 h1 wx
  have CL := fun wx => ilinks_any (dOp v) (dD v) (dA v) (dB v) (dN v) (dOp_le7 v h0 h1) (dD_reg v) (dA_reg v) (dB_reg v) wx
  have HA : Hid (alB v = if dOp v = -1 ∨ dOp v = 16 then true else if dOp v = 19 ∨ dOp v = 17 then false else if dOp v = 18 then dA v == 15 else lnB v) := rfl
  rw [lnB_is] at HA
  generalize alB v = r at *
  generalize decide ((irdN (dOp v) (dA v) (dB v) ||| iwrN (dOp v) (dD v)) / 32768 = 1) = lk at *
  generalize dOp v = op at *
  generalize dD v = dd at *
  generalize dA v = da at *
  generalize dB v = db at *
  generalize dN v = dn at *
  by_cases k1 : op = -1 ∨ op = 16
  · rw [if_pos k1] at HA
    rcases k1 with rfl | rfl
    all_goals (
      go_enter Tryz.func26, Tryz.ntmps26
      go_wp2_with (go_at_call 46; refine (C _).mono ?_; rintro e w1 ⟨rfl, hb1⟩)
      go_ret
      exact ⟨by rw [HA.out]; rfl, lb_alloc hb1 _⟩)
  · rw [if_neg k1] at HA
    by_cases k2 : op = 19 ∨ op = 17
    · rw [if_pos k2] at HA
      rcases k2 with rfl | rfl
      all_goals (
        go_enter Tryz.func26, Tryz.ntmps26
        go_wp2_with (go_at_call 46; refine (C _).mono ?_; rintro e w1 ⟨rfl, hb1⟩)
        go_ret
        exact ⟨by rw [HA.out]; rfl, lb_alloc hb1 _⟩)
    · rw [if_neg k2] at HA
      by_cases k3 : op = 18
      · rw [if_pos k3] at HA
        subst k3
        go_enter Tryz.func26, Tryz.ntmps26
        go_wp2_with (go_at_call 46; refine (C _).mono ?_; rintro e w1 ⟨rfl, hb1⟩)
        go_ret
        exact ⟨by rw [HA.out]; rfl, lb_alloc hb1 _⟩
      · rw [if_neg k3] at HA
        have o1 : (op == -1) = false := by rw [beq_eq_false_iff_ne]; omega
        have o2 : (op == 16) = false := by rw [beq_eq_false_iff_ne]; omega
        have o3 : (op == 19) = false := by rw [beq_eq_false_iff_ne]; omega
        have o4 : (op == 17) = false := by rw [beq_eq_false_iff_ne]; omega
        have o5 : (op == 18) = false := by rw [beq_eq_false_iff_ne]; omega
        clear k1 k2 k3
        go_enter Tryz.func26, Tryz.ntmps26
        go_wp2_with (first
          | (go_at_call 46; refine (C _).mono ?_; rintro e w1 ⟨rfl, hb1⟩)
          | (go_at_call 47; refine (CL _).mono ?_; rintro e w2 ⟨rfl, hb2⟩))
        go_ret
        exact ⟨by rw [HA.out]; rfl, lb_trans (lb_alloc hb1 _) hb2⟩
set_option maxHeartbeats 2000000 in
theorem allOK : AllOK := fun A c l w hA hR hl => by
  have HA : Hid (IntsAt w A .u32 l) := hA
  have HR : Hid (∀ i, i < l.length → 0 ≤ nth l i ∧ nth l i < 4294967296) := hR
  clear hA hR
  go_enter Tryz.func73, Tryz.ntmps73
  go_wp2
  go_loopw [2, 3, 9] (fun r x i wr => ∃ k : Nat, i = .int .i64 k ∧ r = .int .u16 ((allR l k : Nat) : Int) ∧ x = .int .u16 ((allW l k : Nat) : Int) ∧ k ≤ l.length ∧ Hid (Below w.heap.size w wr)) (fun _ _ i _ => l.length - (intOf i).toNat)
  case atStart => exact ⟨0, rfl, rfl, rfl, Nat.zero_le _, Below.refl _ _⟩
  case round =>
    obtain ⟨k, rfl, rfl, rfl, hk, HB⟩ := hrel
    by_cases hlt : k < l.length
    · have hlt' : (k : Int) < (l.length : Int) := by omega
      obtain ⟨a, ea, q⟩ := HA.out k hlt
      subst ea
      replace q := lkeep HB.out q
      obtain ⟨v0, v1⟩ := HR.out k hlt
      have C := fun wx => decoded_any (nth l k) v0 v1 wx
      have C1 := fun wx => ireads_any (dOp (nth l k)) (dD (nth l k)) (dA (nth l k)) (dB (nth l k)) (dN (nth l k)) (dOp_le7 _ v0 v1) (dA_reg _) (dB_reg _) wx
      have C2 := fun wx => iwrites_any (dOp (nth l k)) (dD (nth l k)) (dA (nth l k)) (dB (nth l k)) (dN (nth l k)) (dOp_le7 _ v0 v1) (dD_reg _) wx
      have hless := lessI (rdN_lt (nth l k)) (allW_lt l k)
      have hor := orI (allR_lt l k) (lessN_lt (b := allW l k) (rdN_lt (nth l k)))
      have hor2 := orI (allW_lt l k) (wrN_lt (nth l k))
      have HS1 : Hid (allR l (k + 1) = allR l k ||| lessN (rdN (nth l k)) (allW l k)) := rfl
      have HS2 : Hid (allW l (k + 1) = allW l k ||| wrN (nth l k)) := rfl
      rw [← rdN_is] at C1
      rw [← wrN_is] at C2
      generalize rdN (nth l k) = x at *
      generalize wrN (nth l k) = y at *
      generalize nth l k = v at *
      generalize lessN x (allW l k) = z at *
      generalize dOp v = op at *
      generalize dD v = dd at *
      generalize dA v = da at *
      generalize dB v = db at *
      generalize dN v = dn at *
      go_upto_region 5 with (go_at_call 46; refine (C _).mono ?_; rintro e w1 ⟨rfl, hb1⟩; have HB1 : Hid (Below w.heap.size w w1) := lb_trans HB.out hb1; clear hb1)
      obtain ⟨X, HX⟩ : ∃ X, Hid (w1.alloc (.cells #[.int .i8 op, .int .i8 dd, .int .i8 da, .int .i8 db, .int .i64 dn] 91) = X) := ⟨_, rfl⟩
      have HBX : Hid (Below w.heap.size w X) := by unfold Hid; rw [← HX.out]; exact lb_alloc HB1.out _
      have c0 : X.cell? ⟨w1.heap.size, 0, none⟩ = some (.int .i8 op) := by rw [← HX.out]; simp [go_sem]
      have c1 : X.cell? ⟨w1.heap.size, 1, none⟩ = some (.int .i8 dd) := by rw [← HX.out]; simp [go_sem]
      have c2 : X.cell? ⟨w1.heap.size, 2, none⟩ = some (.int .i8 da) := by rw [← HX.out]; simp [go_sem]
      have c3 : X.cell? ⟨w1.heap.size, 3, none⟩ = some (.int .i8 db) := by rw [← HX.out]; simp [go_sem]
      have c4 : X.cell? ⟨w1.heap.size, 4, none⟩ = some (.int .i64 dn) := by rw [← HX.out]; simp [go_sem]
      rw [HX.out]
      clear HX
      go_upto_region 6 with (go_at_call 64; refine (C1 _).mono ?_; rintro e w2 ⟨rfl, hb2⟩; have HB2 : Hid (Below w.heap.size w w2) := lb_trans HBX.out hb2; have d0 := lkeep hb2 c0; have d1 := lkeep hb2 c1; have d2 := lkeep hb2 c2; have d3 := lkeep hb2 c3; have d4 := lkeep hb2 c4; clear hb2)
      go_wp2_with (go_at_call 65; refine (C2 _).mono ?_; rintro e w3 ⟨rfl, hb3⟩; have HB3 : Hid (Below w.heap.size w w3) := lb_trans HB2.out hb3; clear hb3)
      go_roundw
      case rel => exact ⟨k + 1, by go_num, by rw [HS1.out], by rw [HS2.out], by omega, HB3⟩
      case measure => simp [intOf]; omega
    · obtain rfl : k = l.length := by omega
      go_wp2
      go_ret2
      exact ⟨rfl, HB.out⟩


end Go.Proofs.YtmlhnnmelopleaaGreatDoor
