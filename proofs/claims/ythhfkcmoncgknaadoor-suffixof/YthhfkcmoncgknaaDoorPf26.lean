/-
  THE LAW SuffixOf, over the program's contracts.
-/
import Derived.Test.YthhfkcmoncgknaaDoorProg
import Derived.WalkKit
import Derived.WalkSpells
import Derived.WalkLawsBesides
import Derived.RowKit3
import Derived.Below
import Derived.Deep.QuietTactic
import Derived.BigQuiet
import Derived.WalkSmall
import Derived.Laws.Rows
import Derived.Deep.Cut
import Derived.Deep.RegionHeld3
import Derived.Test.YthhfkcmoncgknaaDoorPf15
import Derived.Test.YthhfkcmoncgknaaDoorPf16
import Derived.Test.YthhfkcmoncgknaaDoorPf17
import Derived.Test.YthhfkcmoncgknaaDoorPf25
namespace Go.Proofs.YthhfkcmoncgknaaDoor
open Go.RowKit

theorem Fr.below {qs : List (Value × Nat)} {w w1 w2 : World} {n : Nat} (h : Fr qs w1 w2) (hb : Below n w w1) (hn : n ≤ w1.heap.size) (hq : ∀ m, m < qs.length → ∀ b, (rv qs m).ownBlock = some b → n ≤ b) : Below n w w2 :=
  ⟨h.os.trans hb.os, h.tape.trans hb.tape, h.output.trans hb.output, Nat.le_trans hb.size h.size, fun b hlt => (h.block b (by omega) (fun m hm e => by have := hq m hm b e; omega)).trans (hb.block b hlt)⟩
/-- Two lists in a bag. -/
theorem sep_two {a b : Value} {la lb : Nat} (h : Off a.ownBlock b.ownBlock) : Sep [(a, la), (b, lb)] := fun m m' h1 h2 => by
  have hm : m = 0 ∧ m' = 1 := by simp at h2; omega
  obtain ⟨rfl, rfl⟩ := hm
  exact h
theorem two_all {P : Nat → Prop} (h0 : P 0) (h1 : P 1) (m : Nat) (hm : m < 2) : P m := by
  have hq : m = 0 ∨ m = 1 := by omega
  rcases hq with rfl | rfl
  · exact h0
  · exact h1
theorem rl_two {a b : Value} {la lb M : Nat} (ha : la ≤ M) (hb : lb ≤ M) (m : Nat) : rl [(a, la), (b, lb)] m ≤ M := by
  have hq : m = 0 ∨ m = 1 ∨ 2 ≤ m := by omega
  rcases hq with rfl | rfl | h
  · exact ha
  · exact hb
  · unfold rl
    rw [List.getD_eq_getElem?_getD, List.getElem?_eq_none (by simp; omega)]
    exact Nat.zero_le _
theorem bag_new (w : World) : BagIs (w.alloc (.cells #[.slice none 0 0, .slice none 0 0, .slice none 0 0, .slice none 0 0, .slice none 0 0, .slice none 0 0, .slice none 0 0, .slice none 0 0, .slice none 0 0, .slice none 0 0, .slice none 0 0, .slice none 0 0, .slice none 0 0, .slice none 0 0, .slice none 0 0, .slice none 0 0, .slice none 0 0] 50)) w.heap.size (fun _ => .slice none 0 0) := by
  refine ⟨_, heap_alloc_new _ _, fun k hk => ?_⟩
  have hq : k = 0 ∨ k = 1 ∨ k = 2 ∨ k = 3 ∨ k = 4 ∨ k = 5 ∨ k = 6 ∨ k = 7 ∨ k = 8 ∨ k = 9 ∨ k = 10 ∨ k = 11 ∨ k = 12 ∨ k = 13 ∨ k = 14 ∨ k = 15 ∨ k = 16 := by omega
  rcases hq with rfl | rfl | rfl | rfl | rfl | rfl | rfl | rfl | rfl | rfl | rfl | rfl | rfl | rfl | rfl | rfl | rfl <;> rfl


theorem sep_four {a b c d : Value} {la lb lc ld : Nat} (h1 : Off a.ownBlock b.ownBlock) (h2 : Off a.ownBlock c.ownBlock) (h3 : Off a.ownBlock d.ownBlock) (h4 : Off b.ownBlock c.ownBlock) (h5 : Off b.ownBlock d.ownBlock) (h6 : Off c.ownBlock d.ownBlock) : Sep [(a, la), (b, lb), (c, lc), (d, ld)] := fun m m' h x => by
  have x : m' < 4 := by simpa using x
  have hm : (m = 0 ∧ m' = 1) ∨ (m = 0 ∧ m' = 2) ∨ (m = 0 ∧ m' = 3) ∨ (m = 1 ∧ m' = 2) ∨ (m = 1 ∧ m' = 3) ∨ (m = 2 ∧ m' = 3) := by omega
  rcases hm with ⟨rfl, rfl⟩ | ⟨rfl, rfl⟩ | ⟨rfl, rfl⟩ | ⟨rfl, rfl⟩ | ⟨rfl, rfl⟩ | ⟨rfl, rfl⟩
  · exact h1
  · exact h2
  · exact h3
  · exact h4
  · exact h5
  · exact h6
theorem four_all {P : Nat → Prop} (h0 : P 0) (h1 : P 1) (h2 : P 2) (h3 : P 3) (m : Nat) (hm : m < 4) : P m := by
  have hq : m = 0 ∨ m = 1 ∨ m = 2 ∨ m = 3 := by omega
  rcases hq with rfl | rfl | rfl | rfl
  · exact h0
  · exact h1
  · exact h2
  · exact h3
theorem rl_four {a b c d : Value} {n M : Nat} (h : n ≤ M) (m : Nat) : rl [(a, n), (b, n), (c, n), (d, n)] m ≤ M := by
  have hq : m = 0 ∨ m = 1 ∨ m = 2 ∨ m = 3 ∨ 4 ≤ m := by omega
  rcases hq with rfl | rfl | rfl | rfl | x
  · exact h
  · exact h
  · exact h
  · exact h
  · unfold rl
    rw [List.getD_eq_getElem?_getD, List.getElem?_eq_none (by simp; omega)]
    exact Nat.zero_le _
theorem off_late {w w' : World} {b b' n c n' c' : Nat} {A B : Option Addr} {xs ys : List Value} (h1 : w.ownsRow b 3 1 (.slice A n c) n xs) (h2 : w'.ownsRow b' 3 1 (.slice B n' c') n' ys) (hb : w.heap.size ≤ b') : Off (Value.slice A n c).ownBlock (Value.slice B n' c').ownBlock := fun k e1 e2 => by
  have := own_lt h1 e1
  have := (h2.lt k e2).1
  omega
set_option maxRecDepth 100000 in
set_option maxHeartbeats 8000000 in
theorem lawOf {cst : List Int → Int} (ho : OfOK cst) (hcs : CostOK cst) (LV : LivesOK) (A : Option Addr) (c : Nat) (l : List Int) (w : World) (hA : IntsAt w A .i64 l) (hR : ∀ i, i < l.length → -9223372036854775808 ≤ nth l i ∧ nth l i ≤ 9223372036854775807) :
    Calls Tryd.prog 3 #[.slice A l.length c] w fun e w' => e = .returned (.bool true) ∧ Below w.heap.size w w' := by
  by_cases hbig : 2048 < l.length
  · have hb' : (2048 : Int) < (l.length : Int) := by omega
    go_enter Tryd.func3, Tryd.ntmps3
    go_wp2_with fail
    refine (LV _).mono ?_
    rintro e w1 ⟨rfl, hb1⟩
    go_wp2
    go_ret
    exact ⟨rfl, hb1⟩
  have hb' : ¬ (2048 : Int) < (l.length : Int) := by omega
  have hl : l.length ≤ 2048 := by omega
  have hl1 : l.length ≤ 1048576 := by omega
  obtain ⟨hc0, hc1, hc2⟩ := hcs l hl
  have HO0 := fun (B : Option Addr) (k : Nat) (Z : World) (hB : IntsAt Z B .i64 l) => ho.ok B k l Z hB hR hl
  generalize cst l = cs at *
  have M1 := fun wx => refmost_any (l.length : Int) wx
  generalize mostI (l.length : Int) = mm at *
  clear hbig ho hcs
  go_enter Tryd.func3, Tryd.ntmps3
  go_wp2_with fail
  refine (wideints_lies A c l _ hA hl1).mono ?_
  rintro r w1 ⟨g, rfl, hb1, kA, m3⟩
  have HB1 : Hid (Below w.heap.size w w1) := hb1
  have HKA : Hid (IntsAt w1 (some ⟨g, 0, none⟩) .i64 l) := kA
  have HM : Hid (MarkI w1 .i64 g l.length) := m3
  clear hb1 kA m3
  go_wp2_with fail
  refine (HO0 _ _ _ HKA.out).mono ?_
  rintro r w2 ⟨A1, A2, k1, k2, rfl, ho1, ho2, hof, hb2⟩
  obtain ⟨X1, HX1⟩ : ∃ X, Hid (w2.alloc (.cells #[.slice A1 l.length k1, .slice A2 l.length k2, .int .i64 cs] 26) = X) := ⟨_, rfl⟩
  have HB2 : Hid (Below w1.heap.size w1 X1) := by unfold Hid; rw [← HX1.out]; exact lb_alloc hb2 _
  have hs2 : w2.heap.size < X1.heap.size := by rw [← HX1.out]; simp
  have p0 : X1.cell? ⟨w2.heap.size, 0, none⟩ = some (.slice A1 l.length k1) := by rw [← HX1.out]; simp [go_sem]
  have p1 : X1.cell? ⟨w2.heap.size, 1, none⟩ = some (.slice A2 l.length k2) := by rw [← HX1.out]; simp [go_sem]
  have p2 : X1.cell? ⟨w2.heap.size, 2, none⟩ = some (.int .i64 cs) := by rw [← HX1.out]; simp [go_sem]
  have HP : Hid (∀ Z, Below X1.heap.size X1 Z → Z.cell? ⟨w2.heap.size, 0, none⟩ = some (.slice A1 l.length k1) ∧ Z.cell? ⟨w2.heap.size, 1, none⟩ = some (.slice A2 l.length k2) ∧ Z.cell? ⟨w2.heap.size, 2, none⟩ = some (.int .i64 cs)) := fun Z hZ => ⟨lkeep hZ p0, lkeep hZ p1, lkeep hZ p2⟩
  have HRa : Hid (X1.ownsRow w1.heap.size 3 1 (.slice A1 l.length k1) l.length (iVals .i64 (sufL l))) := by unfold Hid; rw [← HX1.out]; exact row_keep ho1 (lb_alloc (Below.refl _ _) _)
  have HRb : Hid (X1.ownsRow w1.heap.size 3 1 (.slice A2 l.length k2) l.length (iVals .i64 (rkL l))) := by unfold Hid; rw [← HX1.out]; exact row_keep ho2 (lb_alloc (Below.refl _ _) _)
  have HF1 : Hid (Off (Value.slice A1 l.length k1).ownBlock (Value.slice A2 l.length k2).ownBlock) := hof
  clear ho1 ho2 hof hb2 p0 p1 p2
  go_upto_region 5 with fail
  rw [HX1.out]
  clear HX1
  go_wp2_with fail
  refine (HO0 _ _ _ (HKA.out.keep HB2.out)).mono ?_
  rintro r w4 ⟨B1, B2, m1, m2, rfl, ho1, ho2, hof, hb4⟩
  obtain ⟨X2, HX2⟩ : ∃ X, Hid (w4.alloc (.cells #[.slice B1 l.length m1, .slice B2 l.length m2, .int .i64 cs] 26) = X) := ⟨_, rfl⟩
  have HB4 : Hid (Below X1.heap.size X1 X2) := by unfold Hid; rw [← HX2.out]; exact lb_alloc hb4 _
  have q0 : X2.cell? ⟨w4.heap.size, 0, none⟩ = some (.slice B1 l.length m1) := by rw [← HX2.out]; simp [go_sem]
  have q1 : X2.cell? ⟨w4.heap.size, 1, none⟩ = some (.slice B2 l.length m2) := by rw [← HX2.out]; simp [go_sem]
  have q2 : X2.cell? ⟨w4.heap.size, 2, none⟩ = some (.int .i64 cs) := by rw [← HX2.out]; simp [go_sem]
  have HQ : Hid (∀ Z, Below X2.heap.size X2 Z → Z.cell? ⟨w2.heap.size, 0, none⟩ = some (.slice A1 l.length k1) ∧ Z.cell? ⟨w2.heap.size, 1, none⟩ = some (.slice A2 l.length k2) ∧ Z.cell? ⟨w2.heap.size, 2, none⟩ = some (.int .i64 cs) ∧ Z.cell? ⟨w4.heap.size, 0, none⟩ = some (.slice B1 l.length m1) ∧ Z.cell? ⟨w4.heap.size, 1, none⟩ = some (.slice B2 l.length m2) ∧ Z.cell? ⟨w4.heap.size, 2, none⟩ = some (.int .i64 cs)) := fun Z hZ => ⟨(HP.out Z (lb_trans HB4.out hZ)).1, (HP.out Z (lb_trans HB4.out hZ)).2.1, (HP.out Z (lb_trans HB4.out hZ)).2.2, lkeep hZ q0, lkeep hZ q1, lkeep hZ q2⟩
  have hsz1 : w1.heap.size ≤ X1.heap.size := HB2.out.size
  have HO13 : Hid (Off (Value.slice A1 l.length k1).ownBlock (Value.slice B1 l.length m1).ownBlock) := off_late HRa.out ho1 (Nat.le_refl _)
  have HO14 : Hid (Off (Value.slice A1 l.length k1).ownBlock (Value.slice B2 l.length m2).ownBlock) := off_late HRa.out ho2 (Nat.le_refl _)
  have HO23 : Hid (Off (Value.slice A2 l.length k2).ownBlock (Value.slice B1 l.length m1).ownBlock) := off_late HRb.out ho1 (Nat.le_refl _)
  have HO24 : Hid (Off (Value.slice A2 l.length k2).ownBlock (Value.slice B2 l.length m2).ownBlock) := off_late HRb.out ho2 (Nat.le_refl _)
  have HO34 : Hid (Off (Value.slice B1 l.length m1).ownBlock (Value.slice B2 l.length m2).ownBlock) := hof
  have HRa2 : Hid (X2.ownsRow w1.heap.size 3 1 (.slice A1 l.length k1) l.length (iVals .i64 (sufL l))) := row_keep HRa.out HB4.out
  have HRb2 : Hid (X2.ownsRow w1.heap.size 3 1 (.slice A2 l.length k2) l.length (iVals .i64 (rkL l))) := row_keep HRb.out HB4.out
  have HRc2 : Hid (X2.ownsRow w1.heap.size 3 1 (.slice B1 l.length m1) l.length (iVals .i64 (sufL l))) := by unfold Hid; rw [← HX2.out]; exact row_keep (ownsRow_mono ho1 hsz1) (lb_alloc (Below.refl _ _) _)
  have HRd2 : Hid (X2.ownsRow w1.heap.size 3 1 (.slice B2 l.length m2) l.length (iVals .i64 (rkL l))) := by unfold Hid; rw [← HX2.out]; exact row_keep (ownsRow_mono ho2 hsz1) (lb_alloc (Below.refl _ _) _)
  have HX12 : Hid (Below w1.heap.size w1 X2) := lb_trans HB2.out HB4.out
  clear ho1 ho2 hof hb4 q0 q1 q2 HRa HRb HP HO0
  go_upto_region 6 with fail
  rw [HX2.out]
  clear HX2
  go_wp2_with fail
  refine (refarray_any A c l _ (hA.keep (lb_trans HB1.out HX12.out)) hl1).mono ?_
  rintro r Y ⟨C, kc, rfl, hoc, hby⟩
  have HBY2 : Hid (Below X2.heap.size X2 Y) := hby
  have HCY : Hid (IntsAt Y C .i64 (sufL l)) := row_ints (l := sufL l) (by rw [sufL_len]; exact hoc)
  have HI : Hid (∀ Z, Below Y.heap.size Y Z → Z.cell? ⟨w2.heap.size, 0, none⟩ = some (.slice A1 l.length k1) ∧ Z.cell? ⟨w2.heap.size, 1, none⟩ = some (.slice A2 l.length k2) ∧ Z.cell? ⟨w2.heap.size, 2, none⟩ = some (.int .i64 cs) ∧ Z.cell? ⟨w4.heap.size, 0, none⟩ = some (.slice B1 l.length m1) ∧ Z.cell? ⟨w4.heap.size, 1, none⟩ = some (.slice B2 l.length m2) ∧ Z.cell? ⟨w4.heap.size, 2, none⟩ = some (.int .i64 cs)) := fun Z hZ => HQ.out Z (lb_trans HBY2.out hZ)
  have HRaY : Hid (Y.ownsRow w1.heap.size 3 1 (.slice A1 l.length k1) l.length (iVals .i64 (sufL l))) := row_keep HRa2.out hby
  have HRbY : Hid (Y.ownsRow w1.heap.size 3 1 (.slice A2 l.length k2) l.length (iVals .i64 (rkL l))) := row_keep HRb2.out hby
  have HRcY : Hid (Y.ownsRow w1.heap.size 3 1 (.slice B1 l.length m1) l.length (iVals .i64 (sufL l))) := row_keep HRc2.out hby
  have HRdY : Hid (Y.ownsRow w1.heap.size 3 1 (.slice B2 l.length m2) l.length (iVals .i64 (rkL l))) := row_keep HRd2.out hby
  have HJa : Hid (IntsAt Y A1 .i64 (sufL l)) := row_ints (l := sufL l) (by rw [sufL_len]; exact HRaY.out)
  have HJb : Hid (IntsAt Y A2 .i64 (rkL l)) := row_ints (l := rkL l) (by rw [rkL_len]; exact HRbY.out)
  have HJc : Hid (IntsAt Y B1 .i64 (sufL l)) := row_ints (l := sufL l) (by rw [sufL_len]; exact HRcY.out)
  have HJd : Hid (IntsAt Y B2 .i64 (rkL l)) := row_ints (l := rkL l) (by rw [rkL_len]; exact HRdY.out)
  have HX1Y : Hid (Below w1.heap.size w1 Y) := lb_trans HX12.out HBY2.out
  clear hoc hby HRa2 HRb2 HRc2 HRd2 HQ HX12 HBY2
  have QS := fun (P Q : Option Addr) (kp kq : Nat) (Z : World) (h1 : IntsAt Z P .i64 (sufL l)) (h2 : IntsAt Z Q .i64 (sufL l)) => eqints_any P Q kp kq (sufL l) (sufL l) Z h1 h2 (by rw [sufL_len]; exact hl1)
  have QR := fun (P Q : Option Addr) (kp kq : Nat) (Z : World) (h1 : IntsAt Z P .i64 (rkL l)) (h2 : IntsAt Z Q .i64 (rkL l)) => eqints_any P Q kp kq (rkL l) (rkL l) Z h1 h2 (by rw [rkL_len]; exact hl1)
  simp only [decide_true, sufL_len, rkL_len] at QS QR
  have RK := fun Z (hZ : Below Y.heap.size Y Z) => refrank_any C kc l Z (HCY.out.keep hZ) hl1
  have hcc : (cs != cs) = false := by simp
  have BY : Below Y.heap.size Y Y.drew := (Below.refl _ _).drew
  go_upto_region 7 with fail
  go_region_held3 (fun Z => Below Y.heap.size Y Z ∧ Z.cell? ⟨w2.heap.size, 0, none⟩ = some (.slice A1 l.length k1) ∧ Z.cell? ⟨w2.heap.size, 1, none⟩ = some (.slice A2 l.length k2) ∧ Z.cell? ⟨w2.heap.size, 2, none⟩ = some (.int .i64 cs) ∧ Z.cell? ⟨w4.heap.size, 0, none⟩ = some (.slice B1 l.length m1) ∧ Z.cell? ⟨w4.heap.size, 1, none⟩ = some (.slice B2 l.length m2) ∧ Z.cell? ⟨w4.heap.size, 2, none⟩ = some (.int .i64 cs)) (first | exact ⟨lb_trans (‹Below _ _ _ ∧ _›).1 hb, HI.out _ (lb_trans (‹Below _ _ _ ∧ _›).1 hb)⟩ | exact ⟨lb_alloc (‹Below _ _ _ ∧ _›).1 _, HI.out _ (lb_alloc (‹Below _ _ _ ∧ _›).1 _)⟩ | exact ⟨BY, HI.out _ BY⟩ | assumption | (simp [*]; done))
    (first
      | (go_at_call_of 8 C; refine (QS A1 C k1 kc _ (HJa.out.keep (by first | assumption | exact (‹Below _ _ _ ∧ _›).1)) (HCY.out.keep (by first | assumption | exact (‹Below _ _ _ ∧ _›).1))).mono ?_; rintro e x1 ⟨rfl, hb⟩)
      | (go_at_call_of 8 B1; refine (QS B1 A1 m1 k1 _ (HJc.out.keep (by first | assumption | exact (‹Below _ _ _ ∧ _›).1)) (HJa.out.keep (by first | assumption | exact (‹Below _ _ _ ∧ _›).1))).mono ?_; rintro e x2 ⟨rfl, hb⟩)
      | (go_at_call_of 8 B2; refine (QR B2 A2 m2 k2 _ (HJd.out.keep (by first | assumption | exact (‹Below _ _ _ ∧ _›).1)) (HJb.out.keep (by first | assumption | exact (‹Below _ _ _ ∧ _›).1))).mono ?_; rintro e x3 ⟨rfl, hb⟩)
      | (go_at_call 8; refine (QR A2 _ k2 _ _ (HJb.out.keep (by first | assumption | exact (‹Below _ _ _ ∧ _›).1)) (by assumption)).mono ?_; rintro e x4 ⟨rfl, hb⟩)
      | (go_at_call 9; refine (RK _ (by first | assumption | exact (‹Below _ _ _ ∧ _›).1)).mono ?_; rintro e x5 ⟨D, kd, rfl, hod, hb⟩; have hD : IntsAt x5 D .i64 (rkL l) := row_ints (l := rkL l) (by rw [rkL_len]; exact hod)))
  rename_i hS'
  obtain ⟨sB, d0, d1, d2, d3, d4, d5⟩ := hS'
  obtain ⟨W5, rfl⟩ : ∃ W5, W5 = x3 := ⟨x3, rfl⟩
  have HBW : Hid (Below Y.heap.size Y W5) := sB
  clear QS QR RK BY HCY sB d0 d1 d2 d3 d4 d5
  obtain ⟨d0, d1, d2, d3, d4, d5⟩ := HI.out _ HBW.out
  have QL := fun Z (hZ : Below Y.heap.size Y Z) => eqints_any (some ⟨g, 0, none⟩) A (l.length + 64) c l l Z (HKA.out.keep (lb_trans HX1Y.out hZ)) (hA.keep (lb_trans HB1.out (lb_trans HX1Y.out hZ))) hl1
  simp only [decide_true] at QL
  have SPR := fun Z (hZ : Below Y.heap.size Y Z) => spareints_any g l.length Z (HM.out.keep (lb_trans HX1Y.out hZ)) hl1
  have BY : Below Y.heap.size Y W5.drew := HBW.out.drew
  have hmm : ¬ mm < cs := by omega
  have hw : IntKind.i64.wrap ((l.length : Int) - 1) = (l.length : Int) - 1 := by
    simp [IntKind.wrap, IntKind.signed, IntKind.bits]
    omega
  have hm2 : decide (mm < cs) = false := by rw [decide_eq_false_iff_not]; omega
  have hmn : ¬ cs < 0 := by omega
  have hmo : ¬ cs < (l.length : Int) - 1 := by omega
  go_upto_region 9 with fail
  rcases (show (l.length : Int) - 1 < 0 ∨ ¬ (l.length : Int) - 1 < 0 by omega) with z0 | z0
  all_goals (
    go_region_held3 (fun Z => Below Y.heap.size Y Z ∧ Z.cell? ⟨w2.heap.size, 0, none⟩ = some (.slice A1 l.length k1) ∧ Z.cell? ⟨w2.heap.size, 1, none⟩ = some (.slice A2 l.length k2) ∧ Z.cell? ⟨w2.heap.size, 2, none⟩ = some (.int .i64 cs) ∧ Z.cell? ⟨w4.heap.size, 0, none⟩ = some (.slice B1 l.length m1) ∧ Z.cell? ⟨w4.heap.size, 1, none⟩ = some (.slice B2 l.length m2) ∧ Z.cell? ⟨w4.heap.size, 2, none⟩ = some (.int .i64 cs)) (first | exact ⟨lb_trans (‹Below _ _ _ ∧ _›).1 hb, HI.out _ (lb_trans (‹Below _ _ _ ∧ _›).1 hb)⟩ | exact ⟨lb_alloc (‹Below _ _ _ ∧ _›).1 _, HI.out _ (lb_alloc (‹Below _ _ _ ∧ _›).1 _)⟩ | exact ⟨BY, HI.out _ BY⟩ | assumption | (simp [*]; done))
      (first
        | (go_at_call 10; refine (M1 _).mono ?_; rintro e x6 ⟨rfl, hb⟩)
        | (go_at_call 8; refine (QL _ (by first | assumption | exact (‹Below _ _ _ ∧ _›).1)).mono ?_; rintro e x7 ⟨rfl, hb⟩)
        | (go_at_call 11; refine (SPR _ (by first | assumption | exact (‹Below _ _ _ ∧ _›).1)).mono ?_; rintro e x8 ⟨rfl, rfl⟩))
    rename_i hS'
    obtain ⟨sB, _⟩ := hS'
    obtain ⟨wb, rfl⟩ : ∃ wb, wb = x8 := ⟨x8, rfl⟩
    have HBY : Hid (Below Y.heap.size Y wb) := sB
    have HRaw : Hid (wb.ownsRow w1.heap.size 3 1 (.slice A1 l.length k1) l.length (iVals .i64 (sufL l))) := row_keep HRaY.out HBY.out
    have HRbw : Hid (wb.ownsRow w1.heap.size 3 1 (.slice A2 l.length k2) l.length (iVals .i64 (rkL l))) := row_keep HRbY.out HBY.out
    have HRcw : Hid (wb.ownsRow w1.heap.size 3 1 (.slice B1 l.length m1) l.length (iVals .i64 (sufL l))) := row_keep HRcY.out HBY.out
    have HRdw : Hid (wb.ownsRow w1.heap.size 3 1 (.slice B2 l.length m2) l.length (iVals .i64 (rkL l))) := row_keep HRdY.out HBY.out
    have HB1b : Hid (Below w1.heap.size w1 wb) := lb_trans HX1Y.out HBY.out
    have HGb : Hid (BagIs (wb.alloc (.cells #[.slice none 0 0, .slice none 0 0, .slice none 0 0, .slice none 0 0, .slice none 0 0, .slice none 0 0, .slice none 0 0, .slice none 0 0, .slice none 0 0, .slice none 0 0, .slice none 0 0, .slice none 0 0, .slice none 0 0, .slice none 0 0, .slice none 0 0, .slice none 0 0, .slice none 0 0] 50)) wb.heap.size (fun _ => .slice none 0 0)) := bag_new wb
    have HN0 : Hid (Below wb.heap.size wb (wb.alloc (.cells #[.slice none 0 0, .slice none 0 0, .slice none 0 0, .slice none 0 0, .slice none 0 0, .slice none 0 0, .slice none 0 0, .slice none 0 0, .slice none 0 0, .slice none 0 0, .slice none 0 0, .slice none 0 0, .slice none 0 0, .slice none 0 0, .slice none 0 0, .slice none 0 0, .slice none 0 0] 50))) := lb_alloc (Below.refl _ _) _
    clear sB HRaY HRbY HRcY HRdY HJa HJb HJc HJd BY SPR M1 d0 d1 d2 d3 d4 d5
    go_upto_region 12 with fail
    obtain ⟨c0, c1, c2, c3, c4, c5⟩ := HI.out _ (lb_trans HBY.out HN0.out)
    go_wp2_with fail
    refine (addints_any wb.heap.size wb.heap.size _ [] A1 l.length k1 _ (Nat.le_refl _) HGb.out (World.ownsRow_nil _ _ _ _) (by simp)).mono ?_
    rintro r y1 ⟨rfl, V1, hg, ho', hbl, -⟩
    have HG1 : Hid (BagIs y1 wb.heap.size (upd (fun _ => .slice none 0 0) 1 V1)) := hg
    have HO1 : Hid (y1.ownsRow wb.heap.size 22 1 V1 1 [.slice A1 l.length k1]) := ho'
    have HN1 : Hid (Below wb.heap.size wb y1) := Below.trans HN0.out hbl
    clear hg ho' hbl c0 c1 c2 c3 c4 c5
    obtain ⟨c0, c1, c2, c3, c4, c5⟩ := HI.out _ (lb_trans HBY.out HN1.out)
    go_wp2_with fail
    refine (addints_any wb.heap.size wb.heap.size _ [.slice A1 l.length k1] A2 l.length k2 _ (Nat.le_refl _) HG1.out HO1.out (by simp)).mono ?_
    rintro r y2 ⟨rfl, V2, hg, ho', hbl, -⟩
    have HG2 : Hid (BagIs y2 wb.heap.size (upd (upd (fun _ => .slice none 0 0) 1 V1) 1 V2)) := hg
    have HO2 : Hid (y2.ownsRow wb.heap.size 22 1 V2 2 [.slice A1 l.length k1, .slice A2 l.length k2]) := ho'
    have HN2 : Hid (Below wb.heap.size wb y2) := Below.trans HN1.out hbl
    clear hg ho' hbl c0 c1 c2 c3 c4 c5
    obtain ⟨c0, c1, c2, c3, c4, c5⟩ := HI.out _ (lb_trans HBY.out HN2.out)
    go_wp2_with fail
    refine (addints_any wb.heap.size wb.heap.size _ [.slice A1 l.length k1, .slice A2 l.length k2] B1 l.length m1 _ (Nat.le_refl _) HG2.out HO2.out (by simp)).mono ?_
    rintro r y3 ⟨rfl, V3, hg, ho', hbl, -⟩
    have HG3 : Hid (BagIs y3 wb.heap.size (upd (upd (upd (fun _ => .slice none 0 0) 1 V1) 1 V2) 1 V3)) := hg
    have HO3 : Hid (y3.ownsRow wb.heap.size 22 1 V3 3 [.slice A1 l.length k1, .slice A2 l.length k2, .slice B1 l.length m1]) := ho'
    have HN3 : Hid (Below wb.heap.size wb y3) := Below.trans HN2.out hbl
    clear hg ho' hbl c0 c1 c2 c3 c4 c5
    obtain ⟨c0, c1, c2, c3, c4, c5⟩ := HI.out _ (lb_trans HBY.out HN3.out)
    go_wp2_with fail
    refine (addints_any wb.heap.size wb.heap.size _ [.slice A1 l.length k1, .slice A2 l.length k2, .slice B1 l.length m1] B2 l.length m2 _ (Nat.le_refl _) HG3.out HO3.out (by simp)).mono ?_
    rintro r y4 ⟨rfl, V4, hg, ho', hbl, -⟩
    have HG4 : Hid (BagIs y4 wb.heap.size (upd (upd (upd (upd (fun _ => .slice none 0 0) 1 V1) 1 V2) 1 V3) 1 V4)) := hg
    have HO4 : Hid (y4.ownsRow wb.heap.size 22 1 V4 4 [.slice A1 l.length k1, .slice A2 l.length k2, .slice B1 l.length m1, .slice B2 l.length m2]) := ho'
    have HN4 : Hid (Below wb.heap.size wb y4) := Below.trans HN3.out hbl
    clear hg ho' hbl c0 c1 c2 c3 c4 c5
    have HBd : Hid (Below w1.heap.size w1 y4) := lb_trans HB1b.out HN4.out
    have HRa4 : Hid (y4.ownsRow w1.heap.size 3 1 (.slice A1 l.length k1) l.length (iVals .i64 (sufL l))) := row_keep HRaw.out HN4.out
    have HRb4 : Hid (y4.ownsRow w1.heap.size 3 1 (.slice A2 l.length k2) l.length (iVals .i64 (rkL l))) := row_keep HRbw.out HN4.out
    have HRc4 : Hid (y4.ownsRow w1.heap.size 3 1 (.slice B1 l.length m1) l.length (iVals .i64 (sufL l))) := row_keep HRcw.out HN4.out
    have HRd4 : Hid (y4.ownsRow w1.heap.size 3 1 (.slice B2 l.length m2) l.length (iVals .i64 (rkL l))) := row_keep HRdw.out HN4.out
    have AP : Hid _ := apartN wb.heap.size _ [(.slice A1 l.length k1, l.length), (.slice A2 l.length k2, l.length), (.slice B1 l.length m1, l.length), (.slice B2 l.length m2, l.length)] y4 HG4.out (ownsRow_mono HO4.out (Nat.zero_le _)) (fun k h1 h2 => by unfold upd; rw [if_neg (by omega), if_neg (by omega), if_neg (by omega), if_neg (by omega)])
      (four_all ⟨_, ownsRow_mono HRa4.out (Nat.zero_le _)⟩ ⟨_, ownsRow_mono HRb4.out (Nat.zero_le _)⟩ ⟨_, ownsRow_mono HRc4.out (Nat.zero_le _)⟩ ⟨_, ownsRow_mono HRd4.out (Nat.zero_le _)⟩) (sep_four HF1.out HO13.out HO14.out HO23.out HO24.out HO34.out) (by simp) (rl_four hl1)
    have HQQ : Hid (∀ m, m < 4 → ∀ b, (rv [(.slice A1 l.length k1, l.length), (.slice A2 l.length k2, l.length), (.slice B1 l.length m1, l.length), (.slice B2 l.length m2, l.length)] m).ownBlock = some b → w1.heap.size ≤ b) := four_all (fun b hb => (HRa4.out.lt b hb).1) (fun b hb => (HRb4.out.lt b hb).1) (fun b hb => (HRc4.out.lt b hb).1) (fun b hb => (HRd4.out.lt b hb).1)
    clear HG4 HO4 HRa4 HRb4 HRc4 HRd4 HRaw HRbw HRcw HRdw
    go_wp2_with fail
    refine (Calls.mono AP.out ?_)
    rintro r we ⟨rfl, hfr⟩
    have HBe : Hid (Below w1.heap.size w1 we) := hfr.below HBd.out HBd.out.size HQQ.out
    clear hfr AP
    have QE := eqints_any (some ⟨g, 0, none⟩) A (l.length + 64) c l l we (HKA.out.keep HBe.out) (hA.keep (lb_trans HB1.out HBe.out)) hl1
    simp only [decide_true] at QE
    go_wp2_with fail
    refine QE.mono ?_
    rintro r wf ⟨rfl, hbf⟩
    have HBf : Hid (Below w.heap.size w wf) := lb_trans (lb_trans HB1.out HBe.out) hbf
    clear hbf QE
    go_wp2_with fail
    refine (LV _).mono ?_
    rintro r wg ⟨rfl, hbg⟩
    have HBg : Hid (Below w.heap.size w wg) := lb_trans HBf.out hbg
    clear hbg
    go_wp2
    go_ret
    exact ⟨rfl, HBg.out⟩)


end Go.Proofs.YthhfkcmoncgknaaDoor
