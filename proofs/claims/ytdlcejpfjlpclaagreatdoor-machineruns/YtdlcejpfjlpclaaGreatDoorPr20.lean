/-
  The document's machine: call, calls, go, zero. Calc of the document's answer, case by case, by a walk of its text; no condition. Calc of the document's answer, case by case, by a walk of its text; no condition.
-/
import Derived.Test.YtdlcejpfjlpclaaGreatDoorProg
import Derived.WalkKit
import Derived.WalkSpells
import Derived.WalkLawsBesides
import Derived.RowKit3
import Derived.Below
import Derived.Deep.QuietTactic
import Derived.BigQuiet
import Derived.WalkSmall
import Derived.Laws.Rows
import Derived.Test.YtdlcejpfjlpclaaGreatDoorPr19
import Derived.Deep.DeepCutAuto
import Derived.Test.YtdlcejpfjlpclaaGreatDoorPr02
namespace Go.Proofs.YtdlcejpfjlpclaaGreatDoor
open Go.RowKit

section
variable {w : World} {base P : Nat} {s : QLoc} {m : Mach}
set_option maxRecDepth 100000 in
set_option maxHeartbeats 4000000 in
theorem qcall (h : QAt w base P s m) (hm : Fine m) {d a b n : Int} (hi : InsIn 17 d a b n) : Calls Tryz.prog 34 #[.pointer (some ⟨P, 0, none⟩), .agg #[.int .i8 17, .int .i8 d, .int .i8 a, .int .i8 b, .int .i64 n]] w (DoQP w base P s m (callD m n)) := by
  obtain ⟨k, hk0⟩ := Int.eq_ofNat_of_zero_le hi.d0
  obtain ⟨j, hj0⟩ := Int.eq_ofNat_of_zero_le hi.a0
  obtain ⟨i, hi0⟩ := Int.eq_ofNat_of_zero_le hi.b0
  have hk : k < 16 := by have := hi.d1; omega
  have hj : j < 16 := by have := hi.a1; omega
  have hi2 : i < 16 := by have := hi.b1; omega
  subst hk0 hj0 hi0
  have zk : (0 : Int) ≤ (k : Int) := Int.natCast_nonneg _
  have yk : (k : Int) < 16 := by omega
  have zj : (0 : Int) ≤ (j : Int) := Int.natCast_nonneg _
  have yj : (j : Int) < 16 := by omega
  have zi : (0 : Int) ≤ (i : Int) := Int.natCast_nonneg _
  have yi : (i : Int) < 16 := by omega
  obtain ⟨W0, HW⟩ : ∃ W0, Hid (w.alloc (.cells #[.int .i8 17, .int .i8 k, .int .i8 j, .int .i8 i, .int .i64 n] 82) = W0) := ⟨_, rfl⟩
  have x0 : W0.cell? ⟨w.heap.size, 0, none⟩ = some (.int .i8 17) := by rw [← HW.out]; simp [go_sem]
  have x1 : W0.cell? ⟨w.heap.size, 1, none⟩ = some (.int .i8 k) := by rw [← HW.out]; simp [go_sem]
  have x2 : W0.cell? ⟨w.heap.size, 2, none⟩ = some (.int .i8 j) := by rw [← HW.out]; simp [go_sem]
  have x3 : W0.cell? ⟨w.heap.size, 3, none⟩ = some (.int .i8 i) := by rw [← HW.out]; simp [go_sem]
  have x4 : W0.cell? ⟨w.heap.size, 4, none⟩ = some (.int .i64 n) := by rw [← HW.out]; simp [go_sem]
  have h0 : QAt W0 base P s m := by rw [← HW.out]; exact h.alloc _
  have HB0 : Hid (Below w.heap.size w W0) := by unfold Hid; rw [← HW.out]; exact lb_alloc (Below.refl _ _) _
  have hP := h.lt
  have hpc := hm.pc
  have hWW := Below.refl W0.heap.size W0
  have HZ0 : Hid (w.heap.size ≤ W0.heap.size) := HB0.out.size
  have p1 : W0.cell? ⟨P, 1, none⟩ = some (.int .i64 m.pc) := h0.cells.2.1
  have p6 : W0.cell? ⟨P, 6, none⟩ = some (.slice (some ⟨s.R, 0, none⟩) 16 16) := h0.cells.2.2.2.2.2.2.1
  obtain ⟨d0, d1, -, -⟩ := h0.reg hm.sixteen hj
  obtain ⟨b0, b1, -, -⟩ := h0.reg hm.sixteen hi2
  go_enter Tryz.func34, Tryz.ntmps34
  go_upto_region 1 with fail
  rw [HW.out]
  clear HW
  go_upto_region 2 with fail
  go_cut [7] (fun x wx => ∃ ga, x = .pointer (some ⟨ga, 0, none⟩) ∧ wx.cell? ⟨ga, 0, none⟩ = some (.int .i64 (wV m.regs j)) ∧ wx.cell? ⟨ga, 1, none⟩ = some (.bool (wC m.regs j)) ∧ Hid (w.heap.size ≤ ga) ∧ Hid (Below W0.heap.size W0 wx))
  case first =>
    go_region_held3 (fun Z => Below W0.heap.size W0 Z ∧ Z.cell? ⟨w.heap.size, 2, none⟩ = some (.int .i8 j) ∧ Z.cell? ⟨P, 6, none⟩ = some (.slice (some ⟨s.R, 0, none⟩) 16 16) ∧ Z.cell? ⟨s.R, j * 2, none⟩ = some (.int .i64 (wV m.regs j)) ∧ Z.cell? ⟨s.R, j * 2 + 1, none⟩ = some (.bool (wC m.regs j)))
      (first | (refine ⟨?_, lkeep ?_ x2, lkeep ?_ p6, lkeep ?_ d0, lkeep ?_ d1⟩ <;> ((repeat (first | assumption | exact (‹Below _ _ _ ∧ _›).1 | apply Below.drew | apply lb_alloc | apply lb_newq | refine lb_trans ?_ hb)); done)))
      (fail)

    all_goals (
      rename_i hS
      have sB : Hid _ := hS.1
      clear hS
      go_wp2_with fail
      go_meet
      exact ⟨_, rfl, by first | (simp [go_sem]; done) | (simp [go_sem, *]; done), by first | (simp [go_sem]; done) | (simp [go_sem, *]; done), HZ0.out, sB⟩)
  case rest =>
  obtain ⟨ga, rfl, ga0, ga1, HGA, HBa⟩ := hcut
  obtain ⟨W1, HW1⟩ : ∃ W1, Hid (wc = W1) := ⟨_, rfl⟩
  rw [HW1.out] at ga0 ga1 HBa
  rw [HW1.out]
  clear HW1
  have y1 := lkeep HBa.out x1
  have y0 := lkeep HBa.out x0
  have y2 := lkeep HBa.out x2
  have y3 := lkeep HBa.out x3
  have y4 := lkeep HBa.out x4
  have p6a := lkeep HBa.out p6
  have b0a := lkeep HBa.out b0
  have b1a := lkeep HBa.out b1
  have hWW1 := Below.refl W1.heap.size W1
  go_upto_region 3 with fail
  go_cut [8] (fun x wx => ∃ g, x = .pointer (some ⟨g, 0, none⟩) ∧ wx.cell? ⟨g, 0, none⟩ = some (.int .i64 (wV m.regs i)) ∧ wx.cell? ⟨g, 1, none⟩ = some (.bool (wC m.regs i)) ∧ Hid (Below W1.heap.size W1 wx))
  case first =>
    go_region_held3 (fun Z => Below W1.heap.size W1 Z ∧ Z.cell? ⟨w.heap.size, 3, none⟩ = some (.int .i8 i) ∧ Z.cell? ⟨P, 6, none⟩ = some (.slice (some ⟨s.R, 0, none⟩) 16 16) ∧ Z.cell? ⟨s.R, i * 2, none⟩ = some (.int .i64 (wV m.regs i)) ∧ Z.cell? ⟨s.R, i * 2 + 1, none⟩ = some (.bool (wC m.regs i)))
      (first | (refine ⟨?_, lkeep ?_ y3, lkeep ?_ p6a, lkeep ?_ b0a, lkeep ?_ b1a⟩ <;> ((repeat (first | assumption | exact (‹Below _ _ _ ∧ _›).1 | apply Below.drew | apply lb_alloc | apply lb_newq | refine lb_trans ?_ hb)); done)))
      (fail)

    all_goals (
      rename_i hS
      have sB : Hid _ := hS.1
      clear hS
      go_wp2_with fail
      go_meet
      exact ⟨_, rfl, by first | (simp [go_sem]; done) | (simp [go_sem, *]; done), by first | (simp [go_sem]; done) | (simp [go_sem, *]; done), sB⟩)
  case rest =>
  obtain ⟨gb, rfl, gb0, gb1, HBb⟩ := hcut
  obtain ⟨W, HW2⟩ : ∃ W, Hid (wc = W) := ⟨_, rfl⟩
  rw [HW2.out] at gb0 gb1 HBb
  rw [HW2.out]
  have HB : Hid (Below w.heap.size w W) := lb_trans HB0.out (lb_trans HBa.out HBb.out)
  have hq : QAt W base P s m := (h0.keep HBa.out).keep HBb.out
  have ga0 := lkeep HBb.out ga0
  have ga1 := lkeep HBb.out ga1
  have x0 := lkeep HBb.out y0
  have x1 := lkeep HBb.out y1
  have x2 := lkeep HBb.out y2
  have x3 := lkeep HBb.out y3
  have x4 := lkeep HBb.out y4
  have c6 := lkeep HBb.out p6a
  have hPW := hq.lt
  have hXW : w.heap.size < W.heap.size := World.block_lt_of_cell? W _ x0
  have hgaW : ga < W.heap.size := World.block_lt_of_cell? W _ ga0
  have hgbW : gb < W.heap.size := World.block_lt_of_cell? W _ gb0
  have hRW : s.R < W.heap.size := (hq.foot (.inr (.inr (.inr (.inl rfl))))).2
  have hgaR : ga ≠ s.R := fun e => by have := (h.foot (b := s.R) (.inr (.inr (.inr (.inl rfl))))).2; have := HGA.out; omega
  have nXR : w.heap.size ≠ s.R := fun e => by have := (h.foot (b := s.R) (.inr (.inr (.inr (.inl rfl))))).2; omega
  clear HW2 h0 HB0 HBa HBb hWW hWW1 p1 p6 p6a d0 d1 b0 b1 b0a b1a y0 y1 y2 y3 y4 h
  obtain ⟨e0, e1, f0, f1⟩ := hq.reg hm.sixteen (show 15 < 16 by omega)
  have HQ : Hid _ := hq.put hm.sixteen 15 ((m.pc : Int) + 1, true)
  have HU : Hid (Upto (QFoot s P) w ((W.setCell ⟨s.R, 15 * 2, none⟩ (.int .i64 ((m.pc : Int) + 1))).setCell ⟨s.R, 15 * 2 + 1, none⟩ (.bool (true)))) := ((Upto.of HB.out).set (Or.inl (Or.inr (Or.inr (Or.inr (Or.inl rfl))))) _ _).set (Or.inl (Or.inr (Or.inr (Or.inr (Or.inl rfl))))) _ _
  simp only [Nat.reduceMul, Nat.reduceAdd] at e0 e1 f0 f1 HQ HU
  have hn := (hi.pl (.inr (.inr (.inl rfl)))).1
  have x4b : ((W.setCell ⟨s.R, 30, none⟩ (.int .i64 ((m.pc : Int) + 1))).setCell ⟨s.R, 31, none⟩ (.bool true)).cell? ⟨w.heap.size, 4, none⟩ = some (.int .i64 n) := by simp [go_sem, x4]
  go_wp2_with fail
  go_quiet (fail)
  go_wp2
  go_ret2
  exact q_yes rfl (fun _ => by simp [callD]; omega) (HQ.out.drewN _) (HU.out.drewN _)
set_option maxRecDepth 100000 in
set_option maxHeartbeats 4000000 in
theorem qcalls (h : QAt w base P s m) (hm : Fine m) {d a b n : Int} (hi : InsIn 18 d a b n) : Calls Tryz.prog 34 #[.pointer (some ⟨P, 0, none⟩), .agg #[.int .i8 18, .int .i8 d, .int .i8 a, .int .i8 b, .int .i64 n]] w (DoQP w base P s m (callsD m a)) := by
  obtain ⟨k, hk0⟩ := Int.eq_ofNat_of_zero_le hi.d0
  obtain ⟨j, hj0⟩ := Int.eq_ofNat_of_zero_le hi.a0
  obtain ⟨i, hi0⟩ := Int.eq_ofNat_of_zero_le hi.b0
  have hk : k < 16 := by have := hi.d1; omega
  have hj : j < 16 := by have := hi.a1; omega
  have hi2 : i < 16 := by have := hi.b1; omega
  subst hk0 hj0 hi0
  have zk : (0 : Int) ≤ (k : Int) := Int.natCast_nonneg _
  have yk : (k : Int) < 16 := by omega
  have zj : (0 : Int) ≤ (j : Int) := Int.natCast_nonneg _
  have yj : (j : Int) < 16 := by omega
  have zi : (0 : Int) ≤ (i : Int) := Int.natCast_nonneg _
  have yi : (i : Int) < 16 := by omega
  obtain ⟨W0, HW⟩ : ∃ W0, Hid (w.alloc (.cells #[.int .i8 18, .int .i8 k, .int .i8 j, .int .i8 i, .int .i64 n] 82) = W0) := ⟨_, rfl⟩
  have x0 : W0.cell? ⟨w.heap.size, 0, none⟩ = some (.int .i8 18) := by rw [← HW.out]; simp [go_sem]
  have x1 : W0.cell? ⟨w.heap.size, 1, none⟩ = some (.int .i8 k) := by rw [← HW.out]; simp [go_sem]
  have x2 : W0.cell? ⟨w.heap.size, 2, none⟩ = some (.int .i8 j) := by rw [← HW.out]; simp [go_sem]
  have x3 : W0.cell? ⟨w.heap.size, 3, none⟩ = some (.int .i8 i) := by rw [← HW.out]; simp [go_sem]
  have x4 : W0.cell? ⟨w.heap.size, 4, none⟩ = some (.int .i64 n) := by rw [← HW.out]; simp [go_sem]
  have h0 : QAt W0 base P s m := by rw [← HW.out]; exact h.alloc _
  have HB0 : Hid (Below w.heap.size w W0) := by unfold Hid; rw [← HW.out]; exact lb_alloc (Below.refl _ _) _
  have hP := h.lt
  have hpc := hm.pc
  have hWW := Below.refl W0.heap.size W0
  have HZ0 : Hid (w.heap.size ≤ W0.heap.size) := HB0.out.size
  have p1 : W0.cell? ⟨P, 1, none⟩ = some (.int .i64 m.pc) := h0.cells.2.1
  have p6 : W0.cell? ⟨P, 6, none⟩ = some (.slice (some ⟨s.R, 0, none⟩) 16 16) := h0.cells.2.2.2.2.2.2.1
  obtain ⟨d0, d1, -, -⟩ := h0.reg hm.sixteen hj
  obtain ⟨b0, b1, -, -⟩ := h0.reg hm.sixteen hi2
  go_enter Tryz.func34, Tryz.ntmps34
  go_upto_region 1 with fail
  rw [HW.out]
  clear HW
  go_upto_region 2 with fail
  go_cut [7] (fun x wx => ∃ ga, x = .pointer (some ⟨ga, 0, none⟩) ∧ wx.cell? ⟨ga, 0, none⟩ = some (.int .i64 (wV m.regs j)) ∧ wx.cell? ⟨ga, 1, none⟩ = some (.bool (wC m.regs j)) ∧ Hid (w.heap.size ≤ ga) ∧ Hid (Below W0.heap.size W0 wx))
  case first =>
    go_region_held3 (fun Z => Below W0.heap.size W0 Z ∧ Z.cell? ⟨w.heap.size, 2, none⟩ = some (.int .i8 j) ∧ Z.cell? ⟨P, 6, none⟩ = some (.slice (some ⟨s.R, 0, none⟩) 16 16) ∧ Z.cell? ⟨s.R, j * 2, none⟩ = some (.int .i64 (wV m.regs j)) ∧ Z.cell? ⟨s.R, j * 2 + 1, none⟩ = some (.bool (wC m.regs j)))
      (first | (refine ⟨?_, lkeep ?_ x2, lkeep ?_ p6, lkeep ?_ d0, lkeep ?_ d1⟩ <;> ((repeat (first | assumption | exact (‹Below _ _ _ ∧ _›).1 | apply Below.drew | apply lb_alloc | apply lb_newq | refine lb_trans ?_ hb)); done)))
      (fail)

    all_goals (
      rename_i hS
      have sB : Hid _ := hS.1
      clear hS
      go_wp2_with fail
      go_meet
      exact ⟨_, rfl, by first | (simp [go_sem]; done) | (simp [go_sem, *]; done), by first | (simp [go_sem]; done) | (simp [go_sem, *]; done), HZ0.out, sB⟩)
  case rest =>
  obtain ⟨ga, rfl, ga0, ga1, HGA, HBa⟩ := hcut
  obtain ⟨W1, HW1⟩ : ∃ W1, Hid (wc = W1) := ⟨_, rfl⟩
  rw [HW1.out] at ga0 ga1 HBa
  rw [HW1.out]
  clear HW1
  have y1 := lkeep HBa.out x1
  have y0 := lkeep HBa.out x0
  have y2 := lkeep HBa.out x2
  have y3 := lkeep HBa.out x3
  have y4 := lkeep HBa.out x4
  have p6a := lkeep HBa.out p6
  have b0a := lkeep HBa.out b0
  have b1a := lkeep HBa.out b1
  have hWW1 := Below.refl W1.heap.size W1
  go_upto_region 3 with fail
  go_cut [8] (fun x wx => ∃ g, x = .pointer (some ⟨g, 0, none⟩) ∧ wx.cell? ⟨g, 0, none⟩ = some (.int .i64 (wV m.regs i)) ∧ wx.cell? ⟨g, 1, none⟩ = some (.bool (wC m.regs i)) ∧ Hid (Below W1.heap.size W1 wx))
  case first =>
    go_region_held3 (fun Z => Below W1.heap.size W1 Z ∧ Z.cell? ⟨w.heap.size, 3, none⟩ = some (.int .i8 i) ∧ Z.cell? ⟨P, 6, none⟩ = some (.slice (some ⟨s.R, 0, none⟩) 16 16) ∧ Z.cell? ⟨s.R, i * 2, none⟩ = some (.int .i64 (wV m.regs i)) ∧ Z.cell? ⟨s.R, i * 2 + 1, none⟩ = some (.bool (wC m.regs i)))
      (first | (refine ⟨?_, lkeep ?_ y3, lkeep ?_ p6a, lkeep ?_ b0a, lkeep ?_ b1a⟩ <;> ((repeat (first | assumption | exact (‹Below _ _ _ ∧ _›).1 | apply Below.drew | apply lb_alloc | apply lb_newq | refine lb_trans ?_ hb)); done)))
      (fail)

    all_goals (
      rename_i hS
      have sB : Hid _ := hS.1
      clear hS
      go_wp2_with fail
      go_meet
      exact ⟨_, rfl, by first | (simp [go_sem]; done) | (simp [go_sem, *]; done), by first | (simp [go_sem]; done) | (simp [go_sem, *]; done), sB⟩)
  case rest =>
  obtain ⟨gb, rfl, gb0, gb1, HBb⟩ := hcut
  obtain ⟨W, HW2⟩ : ∃ W, Hid (wc = W) := ⟨_, rfl⟩
  rw [HW2.out] at gb0 gb1 HBb
  rw [HW2.out]
  have HB : Hid (Below w.heap.size w W) := lb_trans HB0.out (lb_trans HBa.out HBb.out)
  have hq : QAt W base P s m := (h0.keep HBa.out).keep HBb.out
  have ga0 := lkeep HBb.out ga0
  have ga1 := lkeep HBb.out ga1
  have x0 := lkeep HBb.out y0
  have x1 := lkeep HBb.out y1
  have x2 := lkeep HBb.out y2
  have x3 := lkeep HBb.out y3
  have x4 := lkeep HBb.out y4
  have c6 := lkeep HBb.out p6a
  have hPW := hq.lt
  have hXW : w.heap.size < W.heap.size := World.block_lt_of_cell? W _ x0
  have hgaW : ga < W.heap.size := World.block_lt_of_cell? W _ ga0
  have hgbW : gb < W.heap.size := World.block_lt_of_cell? W _ gb0
  have hRW : s.R < W.heap.size := (hq.foot (.inr (.inr (.inr (.inl rfl))))).2
  have hgaR : ga ≠ s.R := fun e => by have := (h.foot (b := s.R) (.inr (.inr (.inr (.inl rfl))))).2; have := HGA.out; omega
  have nXR : w.heap.size ≠ s.R := fun e => by have := (h.foot (b := s.R) (.inr (.inr (.inr (.inl rfl))))).2; omega
  clear HW2 h0 HB0 HBa HBb hWW hWW1 p1 p6 p6a d0 d1 b0 b1 b0a b1a y0 y1 y2 y3 y4 h
  by_cases hc : wC m.regs j = true
  · have e0 : callsD m j = callD m (wV m.regs j) := by unfold callsD; rw [if_pos (show rC m j = true from hc)]; rfl
    rw [hc] at ga1
    have hv := (hm.regs j hc).1
    have HE : Hid _ := e0
    clear e0 hc
    obtain ⟨e0, e1, f0, f1⟩ := hq.reg hm.sixteen (show 15 < 16 by omega)
    have HQ : Hid _ := hq.put hm.sixteen 15 ((m.pc : Int) + 1, true)
    have HU : Hid (Upto (QFoot s P) w ((W.setCell ⟨s.R, 15 * 2, none⟩ (.int .i64 ((m.pc : Int) + 1))).setCell ⟨s.R, 15 * 2 + 1, none⟩ (.bool (true)))) := ((Upto.of HB.out).set (Or.inl (Or.inr (Or.inr (Or.inr (Or.inl rfl))))) _ _).set (Or.inl (Or.inr (Or.inr (Or.inr (Or.inl rfl))))) _ _
    simp only [Nat.reduceMul, Nat.reduceAdd] at e0 e1 f0 f1 HQ HU
    have nGR : ga ≠ s.R := hgaR
    have g4 : ((W.setCell ⟨s.R, 30, none⟩ (.int .i64 ((m.pc : Int) + 1))).setCell ⟨s.R, 31, none⟩ (.bool true)).cell? ⟨ga, 0, none⟩ = some (.int .i64 (wV m.regs j)) := by simp [go_sem, ga0]
    go_wp2_with fail
    go_quiet (fail)
    go_wp2
    go_ret2
    rw [HE.out]
    exact q_yes rfl (fun _ => by simp [callD]; omega) (HQ.out.drewN _) (HU.out.drewN _)
  · have hc : wC m.regs j = false := by simpa using hc
    have e0 : callsD m j = noD m 4 := by unfold callsD; rw [if_neg (by show ¬ wC m.regs j = true; rw [hc]; decide)]
    rw [hc] at ga1
    have HE : Hid _ := e0
    clear e0 hc
    go_wp2
    go_ret2
    rw [HE.out]
    exact q_no (by decide) HB.out
set_option maxRecDepth 100000 in
set_option maxHeartbeats 4000000 in
theorem qgoto (h : QAt w base P s m) (hm : Fine m) {d a b n : Int} (hi : InsIn 19 d a b n) : Calls Tryz.prog 34 #[.pointer (some ⟨P, 0, none⟩), .agg #[.int .i8 19, .int .i8 d, .int .i8 a, .int .i8 b, .int .i64 n]] w (DoQP w base P s m (gotoD m a)) := by
  obtain ⟨k, hk0⟩ := Int.eq_ofNat_of_zero_le hi.d0
  obtain ⟨j, hj0⟩ := Int.eq_ofNat_of_zero_le hi.a0
  obtain ⟨i, hi0⟩ := Int.eq_ofNat_of_zero_le hi.b0
  have hk : k < 16 := by have := hi.d1; omega
  have hj : j < 16 := by have := hi.a1; omega
  have hi2 : i < 16 := by have := hi.b1; omega
  subst hk0 hj0 hi0
  have zk : (0 : Int) ≤ (k : Int) := Int.natCast_nonneg _
  have yk : (k : Int) < 16 := by omega
  have zj : (0 : Int) ≤ (j : Int) := Int.natCast_nonneg _
  have yj : (j : Int) < 16 := by omega
  have zi : (0 : Int) ≤ (i : Int) := Int.natCast_nonneg _
  have yi : (i : Int) < 16 := by omega
  obtain ⟨W0, HW⟩ : ∃ W0, Hid (w.alloc (.cells #[.int .i8 19, .int .i8 k, .int .i8 j, .int .i8 i, .int .i64 n] 82) = W0) := ⟨_, rfl⟩
  have x0 : W0.cell? ⟨w.heap.size, 0, none⟩ = some (.int .i8 19) := by rw [← HW.out]; simp [go_sem]
  have x1 : W0.cell? ⟨w.heap.size, 1, none⟩ = some (.int .i8 k) := by rw [← HW.out]; simp [go_sem]
  have x2 : W0.cell? ⟨w.heap.size, 2, none⟩ = some (.int .i8 j) := by rw [← HW.out]; simp [go_sem]
  have x3 : W0.cell? ⟨w.heap.size, 3, none⟩ = some (.int .i8 i) := by rw [← HW.out]; simp [go_sem]
  have x4 : W0.cell? ⟨w.heap.size, 4, none⟩ = some (.int .i64 n) := by rw [← HW.out]; simp [go_sem]
  have h0 : QAt W0 base P s m := by rw [← HW.out]; exact h.alloc _
  have HB0 : Hid (Below w.heap.size w W0) := by unfold Hid; rw [← HW.out]; exact lb_alloc (Below.refl _ _) _
  have hP := h.lt
  have hpc := hm.pc
  have hWW := Below.refl W0.heap.size W0
  have HZ0 : Hid (w.heap.size ≤ W0.heap.size) := HB0.out.size
  have p1 : W0.cell? ⟨P, 1, none⟩ = some (.int .i64 m.pc) := h0.cells.2.1
  have p6 : W0.cell? ⟨P, 6, none⟩ = some (.slice (some ⟨s.R, 0, none⟩) 16 16) := h0.cells.2.2.2.2.2.2.1
  obtain ⟨d0, d1, -, -⟩ := h0.reg hm.sixteen hj
  obtain ⟨b0, b1, -, -⟩ := h0.reg hm.sixteen hi2
  go_enter Tryz.func34, Tryz.ntmps34
  go_upto_region 1 with fail
  rw [HW.out]
  clear HW
  go_upto_region 2 with fail
  go_cut [7] (fun x wx => ∃ ga, x = .pointer (some ⟨ga, 0, none⟩) ∧ wx.cell? ⟨ga, 0, none⟩ = some (.int .i64 (wV m.regs j)) ∧ wx.cell? ⟨ga, 1, none⟩ = some (.bool (wC m.regs j)) ∧ Hid (w.heap.size ≤ ga) ∧ Hid (Below W0.heap.size W0 wx))
  case first =>
    go_region_held3 (fun Z => Below W0.heap.size W0 Z ∧ Z.cell? ⟨w.heap.size, 2, none⟩ = some (.int .i8 j) ∧ Z.cell? ⟨P, 6, none⟩ = some (.slice (some ⟨s.R, 0, none⟩) 16 16) ∧ Z.cell? ⟨s.R, j * 2, none⟩ = some (.int .i64 (wV m.regs j)) ∧ Z.cell? ⟨s.R, j * 2 + 1, none⟩ = some (.bool (wC m.regs j)))
      (first | (refine ⟨?_, lkeep ?_ x2, lkeep ?_ p6, lkeep ?_ d0, lkeep ?_ d1⟩ <;> ((repeat (first | assumption | exact (‹Below _ _ _ ∧ _›).1 | apply Below.drew | apply lb_alloc | apply lb_newq | refine lb_trans ?_ hb)); done)))
      (fail)

    all_goals (
      rename_i hS
      have sB : Hid _ := hS.1
      clear hS
      go_wp2_with fail
      go_meet
      exact ⟨_, rfl, by first | (simp [go_sem]; done) | (simp [go_sem, *]; done), by first | (simp [go_sem]; done) | (simp [go_sem, *]; done), HZ0.out, sB⟩)
  case rest =>
  obtain ⟨ga, rfl, ga0, ga1, HGA, HBa⟩ := hcut
  obtain ⟨W1, HW1⟩ : ∃ W1, Hid (wc = W1) := ⟨_, rfl⟩
  rw [HW1.out] at ga0 ga1 HBa
  rw [HW1.out]
  clear HW1
  have y1 := lkeep HBa.out x1
  have y0 := lkeep HBa.out x0
  have y2 := lkeep HBa.out x2
  have y3 := lkeep HBa.out x3
  have y4 := lkeep HBa.out x4
  have p6a := lkeep HBa.out p6
  have b0a := lkeep HBa.out b0
  have b1a := lkeep HBa.out b1
  have hWW1 := Below.refl W1.heap.size W1
  go_upto_region 3 with fail
  go_cut [8] (fun x wx => ∃ g, x = .pointer (some ⟨g, 0, none⟩) ∧ wx.cell? ⟨g, 0, none⟩ = some (.int .i64 (wV m.regs i)) ∧ wx.cell? ⟨g, 1, none⟩ = some (.bool (wC m.regs i)) ∧ Hid (Below W1.heap.size W1 wx))
  case first =>
    go_region_held3 (fun Z => Below W1.heap.size W1 Z ∧ Z.cell? ⟨w.heap.size, 3, none⟩ = some (.int .i8 i) ∧ Z.cell? ⟨P, 6, none⟩ = some (.slice (some ⟨s.R, 0, none⟩) 16 16) ∧ Z.cell? ⟨s.R, i * 2, none⟩ = some (.int .i64 (wV m.regs i)) ∧ Z.cell? ⟨s.R, i * 2 + 1, none⟩ = some (.bool (wC m.regs i)))
      (first | (refine ⟨?_, lkeep ?_ y3, lkeep ?_ p6a, lkeep ?_ b0a, lkeep ?_ b1a⟩ <;> ((repeat (first | assumption | exact (‹Below _ _ _ ∧ _›).1 | apply Below.drew | apply lb_alloc | apply lb_newq | refine lb_trans ?_ hb)); done)))
      (fail)

    all_goals (
      rename_i hS
      have sB : Hid _ := hS.1
      clear hS
      go_wp2_with fail
      go_meet
      exact ⟨_, rfl, by first | (simp [go_sem]; done) | (simp [go_sem, *]; done), by first | (simp [go_sem]; done) | (simp [go_sem, *]; done), sB⟩)
  case rest =>
  obtain ⟨gb, rfl, gb0, gb1, HBb⟩ := hcut
  obtain ⟨W, HW2⟩ : ∃ W, Hid (wc = W) := ⟨_, rfl⟩
  rw [HW2.out] at gb0 gb1 HBb
  rw [HW2.out]
  have HB : Hid (Below w.heap.size w W) := lb_trans HB0.out (lb_trans HBa.out HBb.out)
  have hq : QAt W base P s m := (h0.keep HBa.out).keep HBb.out
  have ga0 := lkeep HBb.out ga0
  have ga1 := lkeep HBb.out ga1
  have x0 := lkeep HBb.out y0
  have x1 := lkeep HBb.out y1
  have x2 := lkeep HBb.out y2
  have x3 := lkeep HBb.out y3
  have x4 := lkeep HBb.out y4
  have c6 := lkeep HBb.out p6a
  have hPW := hq.lt
  have hXW : w.heap.size < W.heap.size := World.block_lt_of_cell? W _ x0
  have hgaW : ga < W.heap.size := World.block_lt_of_cell? W _ ga0
  have hgbW : gb < W.heap.size := World.block_lt_of_cell? W _ gb0
  have hRW : s.R < W.heap.size := (hq.foot (.inr (.inr (.inr (.inl rfl))))).2
  have hgaR : ga ≠ s.R := fun e => by have := (h.foot (b := s.R) (.inr (.inr (.inr (.inl rfl))))).2; have := HGA.out; omega
  have nXR : w.heap.size ≠ s.R := fun e => by have := (h.foot (b := s.R) (.inr (.inr (.inr (.inl rfl))))).2; omega
  clear HW2 h0 HB0 HBa HBb hWW hWW1 p1 p6 p6a d0 d1 b0 b1 b0a b1a y0 y1 y2 y3 y4 h
  by_cases hc : wC m.regs j = true
  · have e0 : gotoD m j = goD m (wV m.regs j) := by unfold gotoD; rw [if_pos (show rC m j = true from hc)]; rfl
    rw [hc] at ga1
    have hv := (hm.regs j hc).1
    have HE : Hid _ := e0
    clear e0 hc
    go_wp2_with fail
    go_quiet (fail)
    go_wp2
    go_ret2
    rw [HE.out]
    exact q_yes rfl (fun _ => by simp [goD]; omega) (hq.drewN _) ((Upto.of HB.out).drewN _)
  · have hc : wC m.regs j = false := by simpa using hc
    have e0 : gotoD m j = noD m 4 := by unfold gotoD; rw [if_neg (by show ¬ wC m.regs j = true; rw [hc]; decide)]
    rw [hc] at ga1
    have HE : Hid _ := e0
    clear e0 hc
    go_wp2
    go_ret2
    rw [HE.out]
    exact q_no (by decide) HB.out
set_option maxRecDepth 100000 in
set_option maxHeartbeats 4000000 in
theorem qzero (h : QAt w base P s m) (hm : Fine m) {d a b n : Int} (hi : InsIn 16 d a b n) : Calls Tryz.prog 34 #[.pointer (some ⟨P, 0, none⟩), .agg #[.int .i8 16, .int .i8 d, .int .i8 a, .int .i8 b, .int .i64 n]] w (DoQP w base P s m (zeroD m a n)) := by
  obtain ⟨k, hk0⟩ := Int.eq_ofNat_of_zero_le hi.d0
  obtain ⟨j, hj0⟩ := Int.eq_ofNat_of_zero_le hi.a0
  obtain ⟨i, hi0⟩ := Int.eq_ofNat_of_zero_le hi.b0
  have hk : k < 16 := by have := hi.d1; omega
  have hj : j < 16 := by have := hi.a1; omega
  have hi2 : i < 16 := by have := hi.b1; omega
  subst hk0 hj0 hi0
  have zk : (0 : Int) ≤ (k : Int) := Int.natCast_nonneg _
  have yk : (k : Int) < 16 := by omega
  have zj : (0 : Int) ≤ (j : Int) := Int.natCast_nonneg _
  have yj : (j : Int) < 16 := by omega
  have zi : (0 : Int) ≤ (i : Int) := Int.natCast_nonneg _
  have yi : (i : Int) < 16 := by omega
  obtain ⟨W0, HW⟩ : ∃ W0, Hid (w.alloc (.cells #[.int .i8 16, .int .i8 k, .int .i8 j, .int .i8 i, .int .i64 n] 82) = W0) := ⟨_, rfl⟩
  have x0 : W0.cell? ⟨w.heap.size, 0, none⟩ = some (.int .i8 16) := by rw [← HW.out]; simp [go_sem]
  have x1 : W0.cell? ⟨w.heap.size, 1, none⟩ = some (.int .i8 k) := by rw [← HW.out]; simp [go_sem]
  have x2 : W0.cell? ⟨w.heap.size, 2, none⟩ = some (.int .i8 j) := by rw [← HW.out]; simp [go_sem]
  have x3 : W0.cell? ⟨w.heap.size, 3, none⟩ = some (.int .i8 i) := by rw [← HW.out]; simp [go_sem]
  have x4 : W0.cell? ⟨w.heap.size, 4, none⟩ = some (.int .i64 n) := by rw [← HW.out]; simp [go_sem]
  have h0 : QAt W0 base P s m := by rw [← HW.out]; exact h.alloc _
  have HB0 : Hid (Below w.heap.size w W0) := by unfold Hid; rw [← HW.out]; exact lb_alloc (Below.refl _ _) _
  have hP := h.lt
  have hpc := hm.pc
  have hWW := Below.refl W0.heap.size W0
  have HZ0 : Hid (w.heap.size ≤ W0.heap.size) := HB0.out.size
  have p1 : W0.cell? ⟨P, 1, none⟩ = some (.int .i64 m.pc) := h0.cells.2.1
  have p6 : W0.cell? ⟨P, 6, none⟩ = some (.slice (some ⟨s.R, 0, none⟩) 16 16) := h0.cells.2.2.2.2.2.2.1
  obtain ⟨d0, d1, -, -⟩ := h0.reg hm.sixteen hj
  obtain ⟨b0, b1, -, -⟩ := h0.reg hm.sixteen hi2
  go_enter Tryz.func34, Tryz.ntmps34
  go_upto_region 1 with fail
  rw [HW.out]
  clear HW
  go_upto_region 2 with fail
  go_cut [7] (fun x wx => ∃ ga, x = .pointer (some ⟨ga, 0, none⟩) ∧ wx.cell? ⟨ga, 0, none⟩ = some (.int .i64 (wV m.regs j)) ∧ wx.cell? ⟨ga, 1, none⟩ = some (.bool (wC m.regs j)) ∧ Hid (w.heap.size ≤ ga) ∧ Hid (Below W0.heap.size W0 wx))
  case first =>
    go_region_held3 (fun Z => Below W0.heap.size W0 Z ∧ Z.cell? ⟨w.heap.size, 2, none⟩ = some (.int .i8 j) ∧ Z.cell? ⟨P, 6, none⟩ = some (.slice (some ⟨s.R, 0, none⟩) 16 16) ∧ Z.cell? ⟨s.R, j * 2, none⟩ = some (.int .i64 (wV m.regs j)) ∧ Z.cell? ⟨s.R, j * 2 + 1, none⟩ = some (.bool (wC m.regs j)))
      (first | (refine ⟨?_, lkeep ?_ x2, lkeep ?_ p6, lkeep ?_ d0, lkeep ?_ d1⟩ <;> ((repeat (first | assumption | exact (‹Below _ _ _ ∧ _›).1 | apply Below.drew | apply lb_alloc | apply lb_newq | refine lb_trans ?_ hb)); done)))
      (fail)

    all_goals (
      rename_i hS
      have sB : Hid _ := hS.1
      clear hS
      go_wp2_with fail
      go_meet
      exact ⟨_, rfl, by first | (simp [go_sem]; done) | (simp [go_sem, *]; done), by first | (simp [go_sem]; done) | (simp [go_sem, *]; done), HZ0.out, sB⟩)
  case rest =>
  obtain ⟨ga, rfl, ga0, ga1, HGA, HBa⟩ := hcut
  obtain ⟨W1, HW1⟩ : ∃ W1, Hid (wc = W1) := ⟨_, rfl⟩
  rw [HW1.out] at ga0 ga1 HBa
  rw [HW1.out]
  clear HW1
  have y1 := lkeep HBa.out x1
  have y0 := lkeep HBa.out x0
  have y2 := lkeep HBa.out x2
  have y3 := lkeep HBa.out x3
  have y4 := lkeep HBa.out x4
  have p6a := lkeep HBa.out p6
  have b0a := lkeep HBa.out b0
  have b1a := lkeep HBa.out b1
  have hWW1 := Below.refl W1.heap.size W1
  go_upto_region 3 with fail
  go_cut [8] (fun x wx => ∃ g, x = .pointer (some ⟨g, 0, none⟩) ∧ wx.cell? ⟨g, 0, none⟩ = some (.int .i64 (wV m.regs i)) ∧ wx.cell? ⟨g, 1, none⟩ = some (.bool (wC m.regs i)) ∧ Hid (Below W1.heap.size W1 wx))
  case first =>
    go_region_held3 (fun Z => Below W1.heap.size W1 Z ∧ Z.cell? ⟨w.heap.size, 3, none⟩ = some (.int .i8 i) ∧ Z.cell? ⟨P, 6, none⟩ = some (.slice (some ⟨s.R, 0, none⟩) 16 16) ∧ Z.cell? ⟨s.R, i * 2, none⟩ = some (.int .i64 (wV m.regs i)) ∧ Z.cell? ⟨s.R, i * 2 + 1, none⟩ = some (.bool (wC m.regs i)))
      (first | (refine ⟨?_, lkeep ?_ y3, lkeep ?_ p6a, lkeep ?_ b0a, lkeep ?_ b1a⟩ <;> ((repeat (first | assumption | exact (‹Below _ _ _ ∧ _›).1 | apply Below.drew | apply lb_alloc | apply lb_newq | refine lb_trans ?_ hb)); done)))
      (fail)

    all_goals (
      rename_i hS
      have sB : Hid _ := hS.1
      clear hS
      go_wp2_with fail
      go_meet
      exact ⟨_, rfl, by first | (simp [go_sem]; done) | (simp [go_sem, *]; done), by first | (simp [go_sem]; done) | (simp [go_sem, *]; done), sB⟩)
  case rest =>
  obtain ⟨gb, rfl, gb0, gb1, HBb⟩ := hcut
  obtain ⟨W, HW2⟩ : ∃ W, Hid (wc = W) := ⟨_, rfl⟩
  rw [HW2.out] at gb0 gb1 HBb
  rw [HW2.out]
  have HB : Hid (Below w.heap.size w W) := lb_trans HB0.out (lb_trans HBa.out HBb.out)
  have hq : QAt W base P s m := (h0.keep HBa.out).keep HBb.out
  have ga0 := lkeep HBb.out ga0
  have ga1 := lkeep HBb.out ga1
  have x0 := lkeep HBb.out y0
  have x1 := lkeep HBb.out y1
  have x2 := lkeep HBb.out y2
  have x3 := lkeep HBb.out y3
  have x4 := lkeep HBb.out y4
  have c6 := lkeep HBb.out p6a
  have hPW := hq.lt
  have hXW : w.heap.size < W.heap.size := World.block_lt_of_cell? W _ x0
  have hgaW : ga < W.heap.size := World.block_lt_of_cell? W _ ga0
  have hgbW : gb < W.heap.size := World.block_lt_of_cell? W _ gb0
  have hRW : s.R < W.heap.size := (hq.foot (.inr (.inr (.inr (.inl rfl))))).2
  have hgaR : ga ≠ s.R := fun e => by have := (h.foot (b := s.R) (.inr (.inr (.inr (.inl rfl))))).2; have := HGA.out; omega
  have nXR : w.heap.size ≠ s.R := fun e => by have := (h.foot (b := s.R) (.inr (.inr (.inr (.inl rfl))))).2; omega
  clear HW2 h0 HB0 HBa HBb hWW hWW1 p1 p6 p6a d0 d1 b0 b1 b0a b1a y0 y1 y2 y3 y4 h
  have hn := (hi.pl (.inr (.inl rfl))).1
  by_cases hc : wC m.regs j = true
  · have e0 : zeroD m j n = noD m 4 := by unfold zeroD; rw [if_pos (show rC m j = true from hc)]
    rw [hc] at ga1
    have HE : Hid _ := e0
    clear e0 hc
    go_wp2
    go_ret2
    rw [HE.out]
    exact q_no (by decide) HB.out
  · have hc : wC m.regs j = false := by simpa using hc
    rw [hc] at ga1
    have e0 : zeroD m j n = if wV m.regs j = 0 then goD m n else ⟨0, m, m.pc + 1⟩ := by unfold zeroD; rw [if_neg (by show ¬ wC m.regs j = true; rw [hc]; decide)]; rfl
    by_cases hz : wV m.regs j = 0
    · rw [if_pos hz] at e0
      rw [hz] at ga0
      have HE : Hid _ := e0
      clear e0 hc hz
      go_wp2_with fail
      go_quiet (fail)
      go_wp2
      go_ret2
      rw [HE.out]
      exact q_yes rfl (fun _ => by simp [goD]; omega) (hq.drewN _) ((Upto.of HB.out).drewN _)
    · rw [if_neg hz] at e0
      have hz2 : (wV m.regs j == 0) = false := by simpa using hz
      have HE : Hid _ := e0
      clear e0 hc hz
      go_wp2
      go_ret2
      rw [HE.out]
      exact q_yes rfl (fun _ => rfl) hq (Upto.of HB.out)
end

end Go.Proofs.YtdlcejpfjlpclaaGreatDoor

namespace Go.Proofs.YtdlcejpfjlpclaaGreatDoor
open Go.RowKit

theorem refcalc3ff (x y : Int) (w : World) : Calls Tryz.prog 66 #[.int .i8 3, .agg #[.int .i64 x, .bool false], .agg #[.int .i64 y, .bool false]] w fun e w' =>
    e = .returned (.tuple #[.agg #[.int .i64 (wrap64 (x + y)), .bool false], .int .i8 0]) ∧ Below w.heap.size w w' := by
  go_enter Tryz.func66, Tryz.ntmps66
  go_wp2_with (first | (go_at_call 91; refine (reftruth_any _ _).mono ?_; rintro e w' ⟨rfl, rfl⟩) | go_in)
  all_goals (simp [bodyPost, results, Tryz.results66, go_sem])
  all_goals (repeat (first | exact Below.refl _ _ | refine wbel_alloc ?_ _))
theorem refcalc3t (x y : Int) (q : Bool) (w : World) : Calls Tryz.prog 66 #[.int .i8 3, .agg #[.int .i64 x, .bool true], .agg #[.int .i64 y, .bool q]] w fun e w' =>
    e = .returned (.tuple #[.agg #[.int .i64 (0), .bool false], .int .i8 4]) ∧ Below w.heap.size w w' := by
  go_enter Tryz.func66, Tryz.ntmps66
  go_wp2_with (first | (go_at_call 91; refine (reftruth_any _ _).mono ?_; rintro e w' ⟨rfl, rfl⟩) | go_in)
  all_goals (simp [bodyPost, results, Tryz.results66, go_sem])
  all_goals (repeat (first | exact Below.refl _ _ | refine wbel_alloc ?_ _))
theorem refcalc3ft (x y : Int) (w : World) : Calls Tryz.prog 66 #[.int .i8 3, .agg #[.int .i64 x, .bool false], .agg #[.int .i64 y, .bool true]] w fun e w' =>
    e = .returned (.tuple #[.agg #[.int .i64 (0), .bool false], .int .i8 4]) ∧ Below w.heap.size w w' := by
  go_enter Tryz.func66, Tryz.ntmps66
  go_wp2_with (first | (go_at_call 91; refine (reftruth_any _ _).mono ?_; rintro e w' ⟨rfl, rfl⟩) | go_in)
  all_goals (simp [bodyPost, results, Tryz.results66, go_sem])
  all_goals (repeat (first | exact Below.refl _ _ | refine wbel_alloc ?_ _))
theorem refcalc4ff (x y : Int) (w : World) : Calls Tryz.prog 66 #[.int .i8 4, .agg #[.int .i64 x, .bool false], .agg #[.int .i64 y, .bool false]] w fun e w' =>
    e = .returned (.tuple #[.agg #[.int .i64 (wrap64 (x - y)), .bool false], .int .i8 0]) ∧ Below w.heap.size w w' := by
  go_enter Tryz.func66, Tryz.ntmps66
  go_wp2_with (first | (go_at_call 91; refine (reftruth_any _ _).mono ?_; rintro e w' ⟨rfl, rfl⟩) | go_in)
  all_goals (simp [bodyPost, results, Tryz.results66, go_sem])
  all_goals (repeat (first | exact Below.refl _ _ | refine wbel_alloc ?_ _))
theorem refcalc4t (x y : Int) (q : Bool) (w : World) : Calls Tryz.prog 66 #[.int .i8 4, .agg #[.int .i64 x, .bool true], .agg #[.int .i64 y, .bool q]] w fun e w' =>
    e = .returned (.tuple #[.agg #[.int .i64 (0), .bool false], .int .i8 4]) ∧ Below w.heap.size w w' := by
  go_enter Tryz.func66, Tryz.ntmps66
  go_wp2_with (first | (go_at_call 91; refine (reftruth_any _ _).mono ?_; rintro e w' ⟨rfl, rfl⟩) | go_in)
  all_goals (simp [bodyPost, results, Tryz.results66, go_sem])
  all_goals (repeat (first | exact Below.refl _ _ | refine wbel_alloc ?_ _))
theorem refcalc4ft (x y : Int) (w : World) : Calls Tryz.prog 66 #[.int .i8 4, .agg #[.int .i64 x, .bool false], .agg #[.int .i64 y, .bool true]] w fun e w' =>
    e = .returned (.tuple #[.agg #[.int .i64 (0), .bool false], .int .i8 4]) ∧ Below w.heap.size w w' := by
  go_enter Tryz.func66, Tryz.ntmps66
  go_wp2_with (first | (go_at_call 91; refine (reftruth_any _ _).mono ?_; rintro e w' ⟨rfl, rfl⟩) | go_in)
  all_goals (simp [bodyPost, results, Tryz.results66, go_sem])
  all_goals (repeat (first | exact Below.refl _ _ | refine wbel_alloc ?_ _))


end Go.Proofs.YtdlcejpfjlpclaaGreatDoor

namespace Go.Proofs.YtdlcejpfjlpclaaGreatDoor
open Go.RowKit

theorem refcalc5ff (x y : Int) (w : World) : Calls Tryz.prog 66 #[.int .i8 5, .agg #[.int .i64 x, .bool false], .agg #[.int .i64 y, .bool false]] w fun e w' =>
    e = .returned (.tuple #[.agg #[.int .i64 (wrap64 (x * y)), .bool false], .int .i8 0]) ∧ Below w.heap.size w w' := by
  go_enter Tryz.func66, Tryz.ntmps66
  go_wp2_with (first | (go_at_call 91; refine (reftruth_any _ _).mono ?_; rintro e w' ⟨rfl, rfl⟩) | go_in)
  all_goals (simp [bodyPost, results, Tryz.results66, go_sem])
  all_goals (repeat (first | exact Below.refl _ _ | refine wbel_alloc ?_ _))
theorem refcalc5t (x y : Int) (q : Bool) (w : World) : Calls Tryz.prog 66 #[.int .i8 5, .agg #[.int .i64 x, .bool true], .agg #[.int .i64 y, .bool q]] w fun e w' =>
    e = .returned (.tuple #[.agg #[.int .i64 (0), .bool false], .int .i8 4]) ∧ Below w.heap.size w w' := by
  go_enter Tryz.func66, Tryz.ntmps66
  go_wp2_with (first | (go_at_call 91; refine (reftruth_any _ _).mono ?_; rintro e w' ⟨rfl, rfl⟩) | go_in)
  all_goals (simp [bodyPost, results, Tryz.results66, go_sem])
  all_goals (repeat (first | exact Below.refl _ _ | refine wbel_alloc ?_ _))
theorem refcalc5ft (x y : Int) (w : World) : Calls Tryz.prog 66 #[.int .i8 5, .agg #[.int .i64 x, .bool false], .agg #[.int .i64 y, .bool true]] w fun e w' =>
    e = .returned (.tuple #[.agg #[.int .i64 (0), .bool false], .int .i8 4]) ∧ Below w.heap.size w w' := by
  go_enter Tryz.func66, Tryz.ntmps66
  go_wp2_with (first | (go_at_call 91; refine (reftruth_any _ _).mono ?_; rintro e w' ⟨rfl, rfl⟩) | go_in)
  all_goals (simp [bodyPost, results, Tryz.results66, go_sem])
  all_goals (repeat (first | exact Below.refl _ _ | refine wbel_alloc ?_ _))
theorem refcalc6ff (x y : Int) (w : World) : Calls Tryz.prog 66 #[.int .i8 6, .agg #[.int .i64 x, .bool false], .agg #[.int .i64 y, .bool false]] w fun e w' =>
    e = .returned (.tuple #[.agg #[.int .i64 (bits BinOp.and IntKind.i64 x y), .bool false], .int .i8 0]) ∧ Below w.heap.size w w' := by
  go_enter Tryz.func66, Tryz.ntmps66
  go_wp2_with (first | (go_at_call 91; refine (reftruth_any _ _).mono ?_; rintro e w' ⟨rfl, rfl⟩) | go_in)
  all_goals (simp [bodyPost, results, Tryz.results66, go_sem])
  all_goals (repeat (first | exact Below.refl _ _ | refine wbel_alloc ?_ _))
theorem refcalc6t (x y : Int) (q : Bool) (w : World) : Calls Tryz.prog 66 #[.int .i8 6, .agg #[.int .i64 x, .bool true], .agg #[.int .i64 y, .bool q]] w fun e w' =>
    e = .returned (.tuple #[.agg #[.int .i64 (0), .bool false], .int .i8 4]) ∧ Below w.heap.size w w' := by
  go_enter Tryz.func66, Tryz.ntmps66
  go_wp2_with (first | (go_at_call 91; refine (reftruth_any _ _).mono ?_; rintro e w' ⟨rfl, rfl⟩) | go_in)
  all_goals (simp [bodyPost, results, Tryz.results66, go_sem])
  all_goals (repeat (first | exact Below.refl _ _ | refine wbel_alloc ?_ _))
theorem refcalc6ft (x y : Int) (w : World) : Calls Tryz.prog 66 #[.int .i8 6, .agg #[.int .i64 x, .bool false], .agg #[.int .i64 y, .bool true]] w fun e w' =>
    e = .returned (.tuple #[.agg #[.int .i64 (0), .bool false], .int .i8 4]) ∧ Below w.heap.size w w' := by
  go_enter Tryz.func66, Tryz.ntmps66
  go_wp2_with (first | (go_at_call 91; refine (reftruth_any _ _).mono ?_; rintro e w' ⟨rfl, rfl⟩) | go_in)
  all_goals (simp [bodyPost, results, Tryz.results66, go_sem])
  all_goals (repeat (first | exact Below.refl _ _ | refine wbel_alloc ?_ _))


end Go.Proofs.YtdlcejpfjlpclaaGreatDoor
