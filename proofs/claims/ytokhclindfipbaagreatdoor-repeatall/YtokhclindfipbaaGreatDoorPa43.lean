/-
  The program: what an instruction reads and writes; registers are 0 to 15.
-/
import Derived.Test.YtokhclindfipbaaGreatDoorProg
import Derived.WalkKit
import Derived.WalkSpells
import Derived.WalkLawsBesides
import Derived.RowKit3
import Derived.Below
import Derived.Deep.QuietTactic
import Derived.BigQuiet
import Derived.WalkSmall
import Derived.Laws.Rows
import Derived.Deep.RegionHeld3
import Derived.Test.YtokhclindfipbaaGreatDoorPa42
namespace Go.Proofs.YtokhclindfipbaaGreatDoor
open Go.RowKit

set_option maxRecDepth 100000 in
set_option maxHeartbeats 2000000 in
theorem ireads_any (op dd da db dn : Int) (h8 : op ≤ 127) (ha : 0 ≤ da ∧ da ≤ 15) (hb : 0 ≤ db ∧ db ≤ 15) (w : World) : Calls Tryz.prog 150 #[.agg #[.int .i8 op, .int .i8 dd, .int .i8 da, .int .i8 db, .int .i64 dn]] w fun e w' => e = .returned (.int .u16 ((irdN op da db : Nat) : Int)) ∧ Below w.heap.size w w' := by
  have B1 := fun wx => only_any (hA op) da ha.1 ha.2 wx
  have B2 := fun wx => only_any (hB op) db hb.1 hb.2 wx
  have CH := fun wx => isahas_any op h8 wx
  have hor := orI (bitN_lt (hA op) ha.2) (bitN_lt (hB op) hb.2)
  have HR : Hid (irdN op da db = bitN (hA op) da ||| bitN (hB op) db) := rfl
  rw [HR.out]
  clear HR ha hb h8
  generalize bitN (hA op) da = x at *
  generalize bitN (hB op) db = y at *
  generalize hD op = p1 at *
  generalize hA op = p2 at *
  generalize hB op = p3 at *
  generalize hN op = p4 at *
  generalize hP op = p5 at *
  go_enter Tryz.func150, Tryz.ntmps150
  go_upto_region 2 with (go_at_call 112; refine (CH _).mono ?_; rintro e w1 ⟨rfl, hb1⟩; have HB1 : Hid (Below w.heap.size w w1) := (lb_alloc (Below.refl _ _) _).trans (hb1.mono (by simp)); have c2 : w1.cell? ⟨w.heap.size, 2, none⟩ = some (.int .i8 da) := (lkeep hb1 (by simp [go_sem])); have c3 : w1.cell? ⟨w.heap.size, 3, none⟩ = some (.int .i8 db) := (lkeep hb1 (by simp [go_sem])); clear hb1)
  go_region_held3 (fun Y => Below w.heap.size w Y ∧ Y.cell? ⟨w.heap.size, 2, none⟩ = some (.int .i8 da) ∧ Y.cell? ⟨w.heap.size, 3, none⟩ = some (.int .i8 db)) (first | exact ⟨HB1.out, c2, c3⟩ | exact ⟨HB1.out.drew, c2, c3⟩ | (simp [*]; done))
    ((go_at_call 159; first | (refine (B1 _).mono ?_; rintro e w5 ⟨rfl, hw5⟩; have hw5 := hw5.symm; subst hw5) | (refine (B2 _).mono ?_; rintro e w5 ⟨rfl, hw5⟩; have hw5 := hw5.symm; subst hw5)))
  all_goals (
    rename_i hS
    clear hS
    go_wp2_with fail
    go_ret
    exact ⟨by first | rfl | (rw [← hor]), by first | exact HB1.out | exact HB1.out.drew⟩)
set_option maxRecDepth 100000 in
set_option maxHeartbeats 2000000 in
theorem iwrites_any (op dd da db dn : Int) (h8 : op ≤ 127) (hd : 0 ≤ dd ∧ dd ≤ 15) (w : World) : Calls Tryz.prog 151 #[.agg #[.int .i8 op, .int .i8 dd, .int .i8 da, .int .i8 db, .int .i64 dn]] w fun e w' => e = .returned (.int .u16 ((iwrN op dd : Nat) : Int)) ∧ Below w.heap.size w w' := by
  have B1 := fun wx => only_any (hD op) dd hd.1 hd.2 wx
  have B2 := fun wx => only_any (cllB op) 15 (by omega) (by omega) wx
  have CC := fun wx => icalls_any op dd da db dn wx
  have CH := fun wx => isahas_any op h8 wx
  have hor := orI (bitN_lt (hD op) hd.2) (bitN_lt (cllB op) (r := 15) (by omega))
  have HR : Hid (iwrN op dd = bitN (hD op) dd ||| bitN (cllB op) 15) := rfl
  rw [HR.out]
  clear HR hd h8
  generalize bitN (hD op) dd = x at *
  generalize bitN (cllB op) 15 = y at *
  generalize cllB op = cb at *
  generalize hD op = p1 at *
  generalize hA op = p2 at *
  generalize hB op = p3 at *
  generalize hN op = p4 at *
  generalize hP op = p5 at *
  go_enter Tryz.func151, Tryz.ntmps151
  go_upto_region 2 with (go_at_call 112; refine (CH _).mono ?_; rintro e w1 ⟨rfl, hb1⟩; have HB1 : Hid (Below w.heap.size w w1) := (lb_alloc (Below.refl _ _) _).trans (hb1.mono (by simp)); have c0 : w1.cell? ⟨w.heap.size, 0, none⟩ = some (.int .i8 op) := (lkeep hb1 (by simp [go_sem])); have c1 : w1.cell? ⟨w.heap.size, 1, none⟩ = some (.int .i8 dd) := (lkeep hb1 (by simp [go_sem])); have c2 : w1.cell? ⟨w.heap.size, 2, none⟩ = some (.int .i8 da) := (lkeep hb1 (by simp [go_sem])); have c3 : w1.cell? ⟨w.heap.size, 3, none⟩ = some (.int .i8 db) := (lkeep hb1 (by simp [go_sem])); have c4 : w1.cell? ⟨w.heap.size, 4, none⟩ = some (.int .i64 dn) := (lkeep hb1 (by simp [go_sem])); clear hb1)
  have hXX := Below.refl w1.heap.size w1
  go_region_held3 (fun Y => Below w1.heap.size w1 Y ∧ Y.cell? ⟨w.heap.size, 0, none⟩ = some (.int .i8 op) ∧ Y.cell? ⟨w.heap.size, 1, none⟩ = some (.int .i8 dd) ∧ Y.cell? ⟨w.heap.size, 2, none⟩ = some (.int .i8 da) ∧ Y.cell? ⟨w.heap.size, 3, none⟩ = some (.int .i8 db) ∧ Y.cell? ⟨w.heap.size, 4, none⟩ = some (.int .i64 dn)) (first | exact ⟨hXX, c0, c1, c2, c3, c4⟩ | exact ⟨hXX.drew, c0, c1, c2, c3, c4⟩ | exact ⟨hY, lkeep hY c0, lkeep hY c1, lkeep hY c2, lkeep hY c3, lkeep hY c4⟩ | exact ⟨hY.drew, lkeep hY.drew c0, lkeep hY.drew c1, lkeep hY.drew c2, lkeep hY.drew c3, lkeep hY.drew c4⟩)
    (first
      | (go_at_call 160; refine (CC _).mono ?_; rintro e w2 ⟨rfl, hw2⟩; have hY : Below w1.heap.size w1 w2 := (by first | exact hw2 | exact lb_trans hXX.drew hw2 | exact lb_trans hXX hw2); clear hw2)
      | (go_at_call 159; first | (refine (B1 _).mono ?_; rintro e w5 ⟨rfl, hw5⟩; have hw5 := hw5.symm; subst hw5) | (refine (B2 _).mono ?_; rintro e w5 ⟨rfl, hw5⟩; have hw5 := hw5.symm; subst hw5)))
  all_goals (
    rename_i hS
    clear hS
    go_wp2_with fail
    go_ret
    exact ⟨by first | rfl | (rw [← hor]), by first | exact lb_trans HB1.out hY | exact lb_trans HB1.out hY.drew⟩)




end Go.Proofs.YtokhclindfipbaaGreatDoor
