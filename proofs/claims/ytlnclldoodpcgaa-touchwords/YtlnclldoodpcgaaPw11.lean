/-
  Has of package isa, for every op that is an int8's number. The program: a set of one register, whether an instruction is a call, an instruction of a word; registers are 0 to 15, each word is of 32 bits. The program: what an instruction reads and writes; registers are 0 to 15.
-/
import Derived.Test.YtlnclldoodpcgaaProg
import Derived.Test.YtlnclldoodpcgaaPw10
import Derived.WalkKit
import Derived.WalkSpells
import Derived.WalkLawsBesides
import Derived.RowKit3
import Derived.Below
import Derived.Deep.QuietTactic
import Derived.BigQuiet
import Derived.WalkSmall
import Derived.Laws.Rows
import Derived.Test.YtlnclldoodpcgaaPw08
import Derived.Test.YtlnclldoodpcgaaPw07
import Derived.Deep.RegionHeld3
namespace Go.Proofs.Ytlnclldoodpcgaa
open Go.RowKit


set_option maxRecDepth 100000 in
theorem isahas_any (op : Int) (h8 : op ≤ 127) (w : World) : Calls Try.prog 26 #[.int .i8 op] w fun e w' => e = .returned (.tuple #[.bool (hD op), .bool (hA op), .bool (hB op), .bool (hN op), .bool (hP op)]) ∧ Below w.heap.size w w' := by
  have CK := known_any op h8
  by_cases hr : 0 ≤ op ∧ op ≤ 21
  · rw [decide_eq_true hr] at CK
    obtain ⟨b1, b2, b4, b8, b16⟩ := sh_bits op hr.1 hr.2
    have hI := index_sh op hr.1 hr.2
    have C1 := fun wx => fhas_any (sh op) 1 wx
    have C2 := fun wx => fhas_any (sh op) 2 wx
    have C4 := fun wx => fhas_any (sh op) 4 wx
    have C8 := fun wx => fhas_any (sh op) 8 wx
    have C16 := fun wx => fhas_any (sh op) 16 wx
    rw [b1] at C1; rw [b2] at C2; rw [b4] at C4; rw [b8] at C8; rw [b16] at C16
    clear b1 b2 b4 b8 b16
    go_enter Try.func26, Try.ntmps26
    go_wp2_with fail
    refine (CK _).mono ?_
    rintro e w1 ⟨rfl, rfl⟩
    go_wp2_with fail
    refine (shapes_any _).mono ?_
    rintro e w2 ⟨rfl, hb⟩
    have HB : Hid (Below w1.heap.size w1 w2) := hb
    clear hb CK
    go_wp2_with fail
    refine (C1 _).mono ?_
    rintro e w3 ⟨rfl, rfl⟩
    go_wp2_with fail
    refine (C2 _).mono ?_
    rintro e w3 ⟨rfl, rfl⟩
    go_wp2_with fail
    refine (C4 _).mono ?_
    rintro e w3 ⟨rfl, rfl⟩
    go_wp2_with fail
    refine (C8 _).mono ?_
    rintro e w3 ⟨rfl, rfl⟩
    go_wp2_with fail
    refine (C16 _).mono ?_
    rintro e w3 ⟨rfl, rfl⟩
    go_wp2
    exact bodyPost_ret (v := .tuple #[.bool (hD op), .bool (hA op), .bool (hB op), .bool (hN op), .bool (hP op)]) (by simp [results, Try.results26, go_sem]) rfl ⟨rfl, HB.out⟩
  · rw [decide_eq_false hr] at CK
    have e1 : hD op = false := by unfold hD; exact decide_eq_false (by omega)
    have e2 : hA op = false := by unfold hA; exact decide_eq_false (by omega)
    have e3 : hB op = false := by unfold hB; exact decide_eq_false (by omega)
    have e4 : hN op = false := by unfold hN; exact decide_eq_false (by omega)
    have e5 : hP op = false := by unfold hP; exact decide_eq_false (by omega)
    rw [e1, e2, e3, e4, e5]
    clear e1 e2 e3 e4 e5
    go_enter Try.func26, Try.ntmps26
    go_wp2_with fail
    refine (CK _).mono ?_
    rintro e w1 ⟨rfl, rfl⟩
    go_wp2
    exact bodyPost_ret (v := .tuple #[.bool false, .bool false, .bool false, .bool false, .bool false]) (by simp [results, Try.results26, go_sem]) rfl ⟨rfl, Below.refl _ _⟩





end Go.Proofs.Ytlnclldoodpcgaa

namespace Go.Proofs.Ytlnclldoodpcgaa
open Go.RowKit

theorem tbcell {W w1 : World} (hb : Below W.heap.size W w1) : (∀ b o, b < W.heap.size → w1.cell? ⟨b, o, none⟩ = W.cell? ⟨b, o, none⟩) ∧ (∀ b o, b < W.heap.size → w1.frozen? ⟨b, o, none⟩ = W.frozen? ⟨b, o, none⟩) :=
  ⟨fun b o h => hb.cell (p := ⟨b, o, none⟩) h, fun b o h => hb.frozen (p := ⟨b, o, none⟩) h⟩
set_option maxHeartbeats 2000000 in
theorem only_any (h : Bool) (r : Int) (h0 : 0 ≤ r) (h1 : r ≤ 15) (w : World) : Calls Try.prog 27 #[.bool h, .int .i8 r] w fun e w' => e = .returned (.int .u16 ((bitN h r : Nat) : Int)) ∧ w' = w := by
  cases h with
  | false =>
    go_enter Try.func27, Try.ntmps27
    go_wp2
    go_ret
    exact ⟨rfl, rfl⟩
  | true =>
    rcases (show r = 0 ∨ r = 1 ∨ r = 2 ∨ r = 3 ∨ r = 4 ∨ r = 5 ∨ r = 6 ∨ r = 7 ∨ r = 8 ∨ r = 9 ∨ r = 10 ∨ r = 11 ∨ r = 12 ∨ r = 13 ∨ r = 14 ∨ r = 15 by omega) with rfl | rfl | rfl | rfl | rfl | rfl | rfl | rfl | rfl | rfl | rfl | rfl | rfl | rfl | rfl | rfl
    all_goals (
      go_enter Try.func27, Try.ntmps27
      go_wp2
      go_ret
      exact ⟨rfl, rfl⟩)
set_option maxHeartbeats 2000000 in
theorem icalls_any (op dd da db dn : Int) (w : World) : Calls Try.prog 29 #[.agg #[.int .i8 op, .int .i8 dd, .int .i8 da, .int .i8 db, .int .i64 dn]] w fun e w' => e = .returned (.bool (cllB op)) ∧ Below w.heap.size w w' := by
  by_cases k1 : op = 17
  · subst k1
    go_enter Try.func29, Try.ntmps29
    go_wp2
    go_ret
    exact ⟨rfl, lb_alloc (Below.refl _ _) _⟩
  · by_cases k2 : op = 18
    · subst k2
      go_enter Try.func29, Try.ntmps29
      go_wp2
      go_ret
      exact ⟨rfl, lb_alloc (Below.refl _ _) _⟩
    · have o1 : (op == 17) = false := by rw [beq_eq_false_iff_ne]; exact k1
      have o2 : (op == 18) = false := by rw [beq_eq_false_iff_ne]; exact k2
      have HC : Hid (cllB op = false) := by unfold Hid cllB; rw [o1, o2]; rfl
      clear k1 k2
      go_enter Try.func29, Try.ntmps29
      go_wp2
      go_ret
      exact ⟨by rw [HC.out]; try rfl, lb_alloc (Below.refl _ _) _⟩
set_option maxHeartbeats 2000000 in
theorem decoded_any (v : Int) (h0 : 0 ≤ v) (h1 : v < 4294967296) (w : World) : Calls Try.prog 18 #[.int .u32 v] w fun e w' => e = .returned (.agg #[.int .i8 (dOp v), .int .i8 (dD v), .int .i8 (dA v), .int .i8 (dB v), .int .i64 (dN v)]) ∧ Below w.heap.size w w' := by
  have C := fun wx => isadecode_any v h0 h1 wx
  generalize dOp v = op at *
  generalize dD v = dd at *
  generalize dA v = da at *
  generalize dB v = db at *
  generalize dN v = dn at *
  go_enter Try.func18, Try.ntmps18
  go_wp2_with (go_at_call 25; refine (C _).mono ?_; rintro e w1 ⟨rfl, hb1⟩; obtain ⟨hc, hf⟩ := tbcell hb1; have hz : w.heap.size < w1.heap.size := by have := hb1.size; simp at this; omega)
  exact bodyPost_ret (v := .agg #[.int .i8 op, .int .i8 dd, .int .i8 da, .int .i8 db, .int .i64 dn]) (by simp [results, Try.results18, go_sem, hc]) rfl ⟨rfl, (((((lb_alloc (Below.refl _ _) _).trans (hb1.mono (by simp))).setCell (by simp) _).setCell (by simp) _).setCell (by simp) _ |>.setCell (by simp) _).setCell (by simp) _⟩

end Go.Proofs.Ytlnclldoodpcgaa

namespace Go.Proofs.Ytlnclldoodpcgaa
open Go.RowKit

set_option maxRecDepth 100000 in
set_option maxHeartbeats 2000000 in
theorem ireads_any (op dd da db dn : Int) (h8 : op ≤ 127) (ha : 0 ≤ da ∧ da ≤ 15) (hb : 0 ≤ db ∧ db ≤ 15) (w : World) : Calls Try.prog 19 #[.agg #[.int .i8 op, .int .i8 dd, .int .i8 da, .int .i8 db, .int .i64 dn]] w fun e w' => e = .returned (.int .u16 ((irdN op da db : Nat) : Int)) ∧ Below w.heap.size w w' := by
  have B1 := fun wx => only_any (hA op) da ha.1 ha.2 wx
  have B2 := fun wx => only_any (hB op) db hb.1 hb.2 wx
  have CH := fun wx => isahas_any op h8 wx
  have hor := orI (bitN_lt (hA op) ha.2) (bitN_lt (hB op) hb.2)
  have HR : Hid (irdN op da db = bitN (hA op) da ||| bitN (hB op) db) := rfl
  rw [HR.out]
  clear HR ha hb h8
  generalize bitN (hA op) da = x at *
  generalize bitN (hB op) db = y at *
  generalize hD op = p1 at *
  generalize hA op = p2 at *
  generalize hB op = p3 at *
  generalize hN op = p4 at *
  generalize hP op = p5 at *
  go_enter Try.func19, Try.ntmps19
  go_upto_region 2 with (go_at_call 26; refine (CH _).mono ?_; rintro e w1 ⟨rfl, hb1⟩; have HB1 : Hid (Below w.heap.size w w1) := (lb_alloc (Below.refl _ _) _).trans (hb1.mono (by simp)); have c2 : w1.cell? ⟨w.heap.size, 2, none⟩ = some (.int .i8 da) := (lkeep hb1 (by simp [go_sem])); have c3 : w1.cell? ⟨w.heap.size, 3, none⟩ = some (.int .i8 db) := (lkeep hb1 (by simp [go_sem])); clear hb1)
  go_region_held3 (fun Y => Below w.heap.size w Y ∧ Y.cell? ⟨w.heap.size, 2, none⟩ = some (.int .i8 da) ∧ Y.cell? ⟨w.heap.size, 3, none⟩ = some (.int .i8 db)) (first | exact ⟨HB1.out, c2, c3⟩ | exact ⟨HB1.out.drew, c2, c3⟩ | (simp [*]; done))
    ((go_at_call 27; first | (refine (B1 _).mono ?_; rintro e w5 ⟨rfl, hw5⟩; have hw5 := hw5.symm; subst hw5) | (refine (B2 _).mono ?_; rintro e w5 ⟨rfl, hw5⟩; have hw5 := hw5.symm; subst hw5)))
  all_goals (
    rename_i hS
    clear hS
    go_wp2_with fail
    go_ret
    exact ⟨by first | rfl | (rw [← hor]), by first | exact HB1.out | exact HB1.out.drew⟩)
set_option maxRecDepth 100000 in
set_option maxHeartbeats 2000000 in
theorem iwrites_any (op dd da db dn : Int) (h8 : op ≤ 127) (hd : 0 ≤ dd ∧ dd ≤ 15) (w : World) : Calls Try.prog 23 #[.agg #[.int .i8 op, .int .i8 dd, .int .i8 da, .int .i8 db, .int .i64 dn]] w fun e w' => e = .returned (.int .u16 ((iwrN op dd : Nat) : Int)) ∧ Below w.heap.size w w' := by
  have B1 := fun wx => only_any (hD op) dd hd.1 hd.2 wx
  have B2 := fun wx => only_any (cllB op) 15 (by omega) (by omega) wx
  have CC := fun wx => icalls_any op dd da db dn wx
  have CH := fun wx => isahas_any op h8 wx
  have hor := orI (bitN_lt (hD op) hd.2) (bitN_lt (cllB op) (r := 15) (by omega))
  have HR : Hid (iwrN op dd = bitN (hD op) dd ||| bitN (cllB op) 15) := rfl
  rw [HR.out]
  clear HR hd h8
  generalize bitN (hD op) dd = x at *
  generalize bitN (cllB op) 15 = y at *
  generalize cllB op = cb at *
  generalize hD op = p1 at *
  generalize hA op = p2 at *
  generalize hB op = p3 at *
  generalize hN op = p4 at *
  generalize hP op = p5 at *
  go_enter Try.func23, Try.ntmps23
  go_upto_region 2 with (go_at_call 26; refine (CH _).mono ?_; rintro e w1 ⟨rfl, hb1⟩; have HB1 : Hid (Below w.heap.size w w1) := (lb_alloc (Below.refl _ _) _).trans (hb1.mono (by simp)); have c0 : w1.cell? ⟨w.heap.size, 0, none⟩ = some (.int .i8 op) := (lkeep hb1 (by simp [go_sem])); have c1 : w1.cell? ⟨w.heap.size, 1, none⟩ = some (.int .i8 dd) := (lkeep hb1 (by simp [go_sem])); have c2 : w1.cell? ⟨w.heap.size, 2, none⟩ = some (.int .i8 da) := (lkeep hb1 (by simp [go_sem])); have c3 : w1.cell? ⟨w.heap.size, 3, none⟩ = some (.int .i8 db) := (lkeep hb1 (by simp [go_sem])); have c4 : w1.cell? ⟨w.heap.size, 4, none⟩ = some (.int .i64 dn) := (lkeep hb1 (by simp [go_sem])); clear hb1)
  have hXX := Below.refl w1.heap.size w1
  go_region_held3 (fun Y => Below w1.heap.size w1 Y ∧ Y.cell? ⟨w.heap.size, 0, none⟩ = some (.int .i8 op) ∧ Y.cell? ⟨w.heap.size, 1, none⟩ = some (.int .i8 dd) ∧ Y.cell? ⟨w.heap.size, 2, none⟩ = some (.int .i8 da) ∧ Y.cell? ⟨w.heap.size, 3, none⟩ = some (.int .i8 db) ∧ Y.cell? ⟨w.heap.size, 4, none⟩ = some (.int .i64 dn)) (first | exact ⟨hXX, c0, c1, c2, c3, c4⟩ | exact ⟨hXX.drew, c0, c1, c2, c3, c4⟩ | exact ⟨hY, lkeep hY c0, lkeep hY c1, lkeep hY c2, lkeep hY c3, lkeep hY c4⟩ | exact ⟨hY.drew, lkeep hY.drew c0, lkeep hY.drew c1, lkeep hY.drew c2, lkeep hY.drew c3, lkeep hY.drew c4⟩)
    (first
      | (go_at_call 29; refine (CC _).mono ?_; rintro e w2 ⟨rfl, hw2⟩; have hY : Below w1.heap.size w1 w2 := (by first | exact hw2 | exact lb_trans hXX.drew hw2 | exact lb_trans hXX hw2); clear hw2)
      | (go_at_call 27; first | (refine (B1 _).mono ?_; rintro e w5 ⟨rfl, hw5⟩; have hw5 := hw5.symm; subst hw5) | (refine (B2 _).mono ?_; rintro e w5 ⟨rfl, hw5⟩; have hw5 := hw5.symm; subst hw5)))
  all_goals (
    rename_i hS
    clear hS
    go_wp2_with fail
    go_ret
    exact ⟨by first | rfl | (rw [← hor]), by first | exact lb_trans HB1.out hY | exact lb_trans HB1.out hY.drew⟩)

end Go.Proofs.Ytlnclldoodpcgaa
