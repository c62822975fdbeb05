/-
  What an instruction of the document's machine answers. The document's machine: set, place, move. The document's machine: a word that is none, trap, jump, halt.
-/
import Derived.Test.YtdlcejpfjlpclaaGreatDoorProg
import Derived.WalkKit
import Derived.WalkSpells
import Derived.WalkLawsBesides
import Derived.RowKit3
import Derived.Below
import Derived.Deep.QuietTactic
import Derived.BigQuiet
import Derived.WalkSmall
import Derived.Laws.Rows
import Derived.Test.YtdlcejpfjlpclaaGreatDoorPr13
import Derived.Deep.DeepCutAuto
namespace Go.Proofs.YtdlcejpfjlpclaaGreatDoor
open Go.RowKit

/-- Done: it faults, and nothing is other; or the machine is as r says, and the next place is told. -/
def DoQP (w : World) (base P : Nat) (s : QLoc) (_m : Mach) (r : Did) (e : Ending) (w' : World) : Prop :=
  (¬ r.err = 0 ∧ ∃ t, e = .returned (.tuple #[.int .i8 r.err, .int .i64 t]) ∧ Below w.heap.size w w') ∨ (r.err = 0 ∧ ∃ (t : Int) (s' : QLoc), e = .returned (.tuple #[.int .i8 0, .int .i64 t]) ∧ (r.m.status = 0 → t = r.to) ∧ QAt w' base P s' r.m ∧ Upto (QFoot s P) w w' ∧ ∀ b, QFoot s' P b → QFoot s P b ∨ w.heap.size ≤ b)
section
variable {w w' : World} {base P : Nat} {s : QLoc} {m : Mach}
theorem q_no {f t : Int} (hf : ¬ f = 0) (hb : Below w.heap.size w w') : DoQP w base P s m (noD m f) (.returned (.tuple #[.int .i8 f, .int .i64 t])) w' := .inl ⟨hf, t, rfl, hb⟩
theorem q_yes {r : Did} {t : Int} (he : r.err = 0) (ht : r.m.status = 0 → t = r.to) (h : QAt w' base P s r.m) (hu : Upto (QFoot s P) w w') : DoQP w base P s m r (.returned (.tuple #[.int .i8 0, .int .i64 t])) w' := .inr ⟨he, t, s, rfl, ht, h, hu, fun _ hb => .inl hb⟩
theorem lb_newq {w w1 : World} {i : Nat} {v : Value} (h : Below w.heap.size w w1) : Below w.heap.size w (w1.setCell ⟨w.heap.size, i, none⟩ v) := h.setCell (p := ⟨w.heap.size, i, none⟩) (Nat.le_refl _) v
end

end Go.Proofs.YtdlcejpfjlpclaaGreatDoor

namespace Go.Proofs.YtdlcejpfjlpclaaGreatDoor
open Go.RowKit

section
variable {w : World} {base P : Nat} {s : QLoc} {m : Mach}
set_option maxRecDepth 100000 in
set_option maxHeartbeats 4000000 in
theorem qset (h : QAt w base P s m) (hm : Fine m) {d a b n : Int} (hi : InsIn 1 d a b n) : Calls Tryz.prog 34 #[.pointer (some ⟨P, 0, none⟩), .agg #[.int .i8 1, .int .i8 d, .int .i8 a, .int .i8 b, .int .i64 n]] w (DoQP w base P s m (putD m d (n, false))) := by
  obtain ⟨k, hk0⟩ := Int.eq_ofNat_of_zero_le hi.d0
  obtain ⟨j, hj0⟩ := Int.eq_ofNat_of_zero_le hi.a0
  obtain ⟨i, hi0⟩ := Int.eq_ofNat_of_zero_le hi.b0
  have hk : k < 16 := by have := hi.d1; omega
  have hj : j < 16 := by have := hi.a1; omega
  have hi2 : i < 16 := by have := hi.b1; omega
  subst hk0 hj0 hi0
  have zk : (0 : Int) ≤ (k : Int) := Int.natCast_nonneg _
  have yk : (k : Int) < 16 := by omega
  have zj : (0 : Int) ≤ (j : Int) := Int.natCast_nonneg _
  have yj : (j : Int) < 16 := by omega
  have zi : (0 : Int) ≤ (i : Int) := Int.natCast_nonneg _
  have yi : (i : Int) < 16 := by omega
  obtain ⟨W0, HW⟩ : ∃ W0, Hid (w.alloc (.cells #[.int .i8 1, .int .i8 k, .int .i8 j, .int .i8 i, .int .i64 n] 82) = W0) := ⟨_, rfl⟩
  have x0 : W0.cell? ⟨w.heap.size, 0, none⟩ = some (.int .i8 1) := by rw [← HW.out]; simp [go_sem]
  have x1 : W0.cell? ⟨w.heap.size, 1, none⟩ = some (.int .i8 k) := by rw [← HW.out]; simp [go_sem]
  have x2 : W0.cell? ⟨w.heap.size, 2, none⟩ = some (.int .i8 j) := by rw [← HW.out]; simp [go_sem]
  have x3 : W0.cell? ⟨w.heap.size, 3, none⟩ = some (.int .i8 i) := by rw [← HW.out]; simp [go_sem]
  have x4 : W0.cell? ⟨w.heap.size, 4, none⟩ = some (.int .i64 n) := by rw [← HW.out]; simp [go_sem]
  have h0 : QAt W0 base P s m := by rw [← HW.out]; exact h.alloc _
  have HB0 : Hid (Below w.heap.size w W0) := by unfold Hid; rw [← HW.out]; exact lb_alloc (Below.refl _ _) _
  have hP := h.lt
  have hpc := hm.pc
  have hWW := Below.refl W0.heap.size W0
  have HZ0 : Hid (w.heap.size ≤ W0.heap.size) := HB0.out.size
  have p1 : W0.cell? ⟨P, 1, none⟩ = some (.int .i64 m.pc) := h0.cells.2.1
  have p6 : W0.cell? ⟨P, 6, none⟩ = some (.slice (some ⟨s.R, 0, none⟩) 16 16) := h0.cells.2.2.2.2.2.2.1
  obtain ⟨d0, d1, -, -⟩ := h0.reg hm.sixteen hj
  obtain ⟨b0, b1, -, -⟩ := h0.reg hm.sixteen hi2
  go_enter Tryz.func34, Tryz.ntmps34
  go_upto_region 1 with fail
  rw [HW.out]
  clear HW
  go_upto_region 2 with fail
  go_cut [7] (fun x wx => ∃ ga, x = .pointer (some ⟨ga, 0, none⟩) ∧ wx.cell? ⟨ga, 0, none⟩ = some (.int .i64 (wV m.regs j)) ∧ wx.cell? ⟨ga, 1, none⟩ = some (.bool (wC m.regs j)) ∧ Hid (w.heap.size ≤ ga) ∧ Hid (Below W0.heap.size W0 wx))
  case first =>
    go_region_held3 (fun Z => Below W0.heap.size W0 Z ∧ Z.cell? ⟨w.heap.size, 2, none⟩ = some (.int .i8 j) ∧ Z.cell? ⟨P, 6, none⟩ = some (.slice (some ⟨s.R, 0, none⟩) 16 16) ∧ Z.cell? ⟨s.R, j * 2, none⟩ = some (.int .i64 (wV m.regs j)) ∧ Z.cell? ⟨s.R, j * 2 + 1, none⟩ = some (.bool (wC m.regs j)))
      (first | (refine ⟨?_, lkeep ?_ x2, lkeep ?_ p6, lkeep ?_ d0, lkeep ?_ d1⟩ <;> ((repeat (first | assumption | exact (‹Below _ _ _ ∧ _›).1 | apply Below.drew | apply lb_alloc | apply lb_newq | refine lb_trans ?_ hb)); done)))
      (fail)

    all_goals (
      rename_i hS
      have sB : Hid _ := hS.1
      clear hS
      go_wp2_with fail
      go_meet
      exact ⟨_, rfl, by first | (simp [go_sem]; done) | (simp [go_sem, *]; done), by first | (simp [go_sem]; done) | (simp [go_sem, *]; done), HZ0.out, sB⟩)
  case rest =>
  obtain ⟨ga, rfl, ga0, ga1, HGA, HBa⟩ := hcut
  obtain ⟨W1, HW1⟩ : ∃ W1, Hid (wc = W1) := ⟨_, rfl⟩
  rw [HW1.out] at ga0 ga1 HBa
  rw [HW1.out]
  clear HW1
  have y1 := lkeep HBa.out x1
  have y0 := lkeep HBa.out x0
  have y2 := lkeep HBa.out x2
  have y3 := lkeep HBa.out x3
  have y4 := lkeep HBa.out x4
  have p6a := lkeep HBa.out p6
  have b0a := lkeep HBa.out b0
  have b1a := lkeep HBa.out b1
  have hWW1 := Below.refl W1.heap.size W1
  go_upto_region 3 with fail
  go_cut [8] (fun x wx => ∃ g, x = .pointer (some ⟨g, 0, none⟩) ∧ wx.cell? ⟨g, 0, none⟩ = some (.int .i64 (wV m.regs i)) ∧ wx.cell? ⟨g, 1, none⟩ = some (.bool (wC m.regs i)) ∧ Hid (Below W1.heap.size W1 wx))
  case first =>
    go_region_held3 (fun Z => Below W1.heap.size W1 Z ∧ Z.cell? ⟨w.heap.size, 3, none⟩ = some (.int .i8 i) ∧ Z.cell? ⟨P, 6, none⟩ = some (.slice (some ⟨s.R, 0, none⟩) 16 16) ∧ Z.cell? ⟨s.R, i * 2, none⟩ = some (.int .i64 (wV m.regs i)) ∧ Z.cell? ⟨s.R, i * 2 + 1, none⟩ = some (.bool (wC m.regs i)))
      (first | (refine ⟨?_, lkeep ?_ y3, lkeep ?_ p6a, lkeep ?_ b0a, lkeep ?_ b1a⟩ <;> ((repeat (first | assumption | exact (‹Below _ _ _ ∧ _›).1 | apply Below.drew | apply lb_alloc | apply lb_newq | refine lb_trans ?_ hb)); done)))
      (fail)

    all_goals (
      rename_i hS
      have sB : Hid _ := hS.1
      clear hS
      go_wp2_with fail
      go_meet
      exact ⟨_, rfl, by first | (simp [go_sem]; done) | (simp [go_sem, *]; done), by first | (simp [go_sem]; done) | (simp [go_sem, *]; done), sB⟩)
  case rest =>
  obtain ⟨gb, rfl, gb0, gb1, HBb⟩ := hcut
  obtain ⟨W, HW2⟩ : ∃ W, Hid (wc = W) := ⟨_, rfl⟩
  rw [HW2.out] at gb0 gb1 HBb
  rw [HW2.out]
  have HB : Hid (Below w.heap.size w W) := lb_trans HB0.out (lb_trans HBa.out HBb.out)
  have hq : QAt W base P s m := (h0.keep HBa.out).keep HBb.out
  have ga0 := lkeep HBb.out ga0
  have ga1 := lkeep HBb.out ga1
  have x0 := lkeep HBb.out y0
  have x1 := lkeep HBb.out y1
  have x2 := lkeep HBb.out y2
  have x3 := lkeep HBb.out y3
  have x4 := lkeep HBb.out y4
  have c6 := lkeep HBb.out p6a
  have hPW := hq.lt
  have hXW : w.heap.size < W.heap.size := World.block_lt_of_cell? W _ x0
  have hgaW : ga < W.heap.size := World.block_lt_of_cell? W _ ga0
  have hgbW : gb < W.heap.size := World.block_lt_of_cell? W _ gb0
  have hRW : s.R < W.heap.size := (hq.foot (.inr (.inr (.inr (.inl rfl))))).2
  have hgaR : ga ≠ s.R := fun e => by have := (h.foot (b := s.R) (.inr (.inr (.inr (.inl rfl))))).2; have := HGA.out; omega
  have nXR : w.heap.size ≠ s.R := fun e => by have := (h.foot (b := s.R) (.inr (.inr (.inr (.inl rfl))))).2; omega
  clear HW2 h0 HB0 HBa HBb hWW hWW1 p1 p6 p6a d0 d1 b0 b1 b0a b1a y0 y1 y2 y3 y4 h
  obtain ⟨e0, e1, f0, f1⟩ := hq.reg hm.sixteen hk
  have HQ : Hid _ := hq.put hm.sixteen k (n, false)
  have HU : Hid (Upto (QFoot s P) w ((W.setCell ⟨s.R, k * 2, none⟩ (.int .i64 (n))).setCell ⟨s.R, k * 2 + 1, none⟩ (.bool (false)))) := ((Upto.of HB.out).set (Or.inl (Or.inr (Or.inr (Or.inr (Or.inl rfl))))) _ _).set (Or.inl (Or.inr (Or.inr (Or.inr (Or.inl rfl))))) _ _
  go_wp2_with fail
  go_region
  all_goals (
    go_wp2
    go_ret2
    exact q_yes rfl (fun _ => rfl) HQ.out.drew HU.out.drew)
set_option maxRecDepth 100000 in
set_option maxHeartbeats 4000000 in
theorem qplace (h : QAt w base P s m) (hm : Fine m) {d a b n : Int} (hi : InsIn 20 d a b n) : Calls Tryz.prog 34 #[.pointer (some ⟨P, 0, none⟩), .agg #[.int .i8 20, .int .i8 d, .int .i8 a, .int .i8 b, .int .i64 n]] w (DoQP w base P s m (putD m d (n, true))) := by
  obtain ⟨k, hk0⟩ := Int.eq_ofNat_of_zero_le hi.d0
  obtain ⟨j, hj0⟩ := Int.eq_ofNat_of_zero_le hi.a0
  obtain ⟨i, hi0⟩ := Int.eq_ofNat_of_zero_le hi.b0
  have hk : k < 16 := by have := hi.d1; omega
  have hj : j < 16 := by have := hi.a1; omega
  have hi2 : i < 16 := by have := hi.b1; omega
  subst hk0 hj0 hi0
  have zk : (0 : Int) ≤ (k : Int) := Int.natCast_nonneg _
  have yk : (k : Int) < 16 := by omega
  have zj : (0 : Int) ≤ (j : Int) := Int.natCast_nonneg _
  have yj : (j : Int) < 16 := by omega
  have zi : (0 : Int) ≤ (i : Int) := Int.natCast_nonneg _
  have yi : (i : Int) < 16 := by omega
  obtain ⟨W0, HW⟩ : ∃ W0, Hid (w.alloc (.cells #[.int .i8 20, .int .i8 k, .int .i8 j, .int .i8 i, .int .i64 n] 82) = W0) := ⟨_, rfl⟩
  have x0 : W0.cell? ⟨w.heap.size, 0, none⟩ = some (.int .i8 20) := by rw [← HW.out]; simp [go_sem]
  have x1 : W0.cell? ⟨w.heap.size, 1, none⟩ = some (.int .i8 k) := by rw [← HW.out]; simp [go_sem]
  have x2 : W0.cell? ⟨w.heap.size, 2, none⟩ = some (.int .i8 j) := by rw [← HW.out]; simp [go_sem]
  have x3 : W0.cell? ⟨w.heap.size, 3, none⟩ = some (.int .i8 i) := by rw [← HW.out]; simp [go_sem]
  have x4 : W0.cell? ⟨w.heap.size, 4, none⟩ = some (.int .i64 n) := by rw [← HW.out]; simp [go_sem]
  have h0 : QAt W0 base P s m := by rw [← HW.out]; exact h.alloc _
  have HB0 : Hid (Below w.heap.size w W0) := by unfold Hid; rw [← HW.out]; exact lb_alloc (Below.refl _ _) _
  have hP := h.lt
  have hpc := hm.pc
  have hWW := Below.refl W0.heap.size W0
  have HZ0 : Hid (w.heap.size ≤ W0.heap.size) := HB0.out.size
  have p1 : W0.cell? ⟨P, 1, none⟩ = some (.int .i64 m.pc) := h0.cells.2.1
  have p6 : W0.cell? ⟨P, 6, none⟩ = some (.slice (some ⟨s.R, 0, none⟩) 16 16) := h0.cells.2.2.2.2.2.2.1
  obtain ⟨d0, d1, -, -⟩ := h0.reg hm.sixteen hj
  obtain ⟨b0, b1, -, -⟩ := h0.reg hm.sixteen hi2
  go_enter Tryz.func34, Tryz.ntmps34
  go_upto_region 1 with fail
  rw [HW.out]
  clear HW
  go_upto_region 2 with fail
  go_cut [7] (fun x wx => ∃ ga, x = .pointer (some ⟨ga, 0, none⟩) ∧ wx.cell? ⟨ga, 0, none⟩ = some (.int .i64 (wV m.regs j)) ∧ wx.cell? ⟨ga, 1, none⟩ = some (.bool (wC m.regs j)) ∧ Hid (w.heap.size ≤ ga) ∧ Hid (Below W0.heap.size W0 wx))
  case first =>
    go_region_held3 (fun Z => Below W0.heap.size W0 Z ∧ Z.cell? ⟨w.heap.size, 2, none⟩ = some (.int .i8 j) ∧ Z.cell? ⟨P, 6, none⟩ = some (.slice (some ⟨s.R, 0, none⟩) 16 16) ∧ Z.cell? ⟨s.R, j * 2, none⟩ = some (.int .i64 (wV m.regs j)) ∧ Z.cell? ⟨s.R, j * 2 + 1, none⟩ = some (.bool (wC m.regs j)))
      (first | (refine ⟨?_, lkeep ?_ x2, lkeep ?_ p6, lkeep ?_ d0, lkeep ?_ d1⟩ <;> ((repeat (first | assumption | exact (‹Below _ _ _ ∧ _›).1 | apply Below.drew | apply lb_alloc | apply lb_newq | refine lb_trans ?_ hb)); done)))
      (fail)

    all_goals (
      rename_i hS
      have sB : Hid _ := hS.1
      clear hS
      go_wp2_with fail
      go_meet
      exact ⟨_, rfl, by first | (simp [go_sem]; done) | (simp [go_sem, *]; done), by first | (simp [go_sem]; done) | (simp [go_sem, *]; done), HZ0.out, sB⟩)
  case rest =>
  obtain ⟨ga, rfl, ga0, ga1, HGA, HBa⟩ := hcut
  obtain ⟨W1, HW1⟩ : ∃ W1, Hid (wc = W1) := ⟨_, rfl⟩
  rw [HW1.out] at ga0 ga1 HBa
  rw [HW1.out]
  clear HW1
  have y1 := lkeep HBa.out x1
  have y0 := lkeep HBa.out x0
  have y2 := lkeep HBa.out x2
  have y3 := lkeep HBa.out x3
  have y4 := lkeep HBa.out x4
  have p6a := lkeep HBa.out p6
  have b0a := lkeep HBa.out b0
  have b1a := lkeep HBa.out b1
  have hWW1 := Below.refl W1.heap.size W1
  go_upto_region 3 with fail
  go_cut [8] (fun x wx => ∃ g, x = .pointer (some ⟨g, 0, none⟩) ∧ wx.cell? ⟨g, 0, none⟩ = some (.int .i64 (wV m.regs i)) ∧ wx.cell? ⟨g, 1, none⟩ = some (.bool (wC m.regs i)) ∧ Hid (Below W1.heap.size W1 wx))
  case first =>
    go_region_held3 (fun Z => Below W1.heap.size W1 Z ∧ Z.cell? ⟨w.heap.size, 3, none⟩ = some (.int .i8 i) ∧ Z.cell? ⟨P, 6, none⟩ = some (.slice (some ⟨s.R, 0, none⟩) 16 16) ∧ Z.cell? ⟨s.R, i * 2, none⟩ = some (.int .i64 (wV m.regs i)) ∧ Z.cell? ⟨s.R, i * 2 + 1, none⟩ = some (.bool (wC m.regs i)))
      (first | (refine ⟨?_, lkeep ?_ y3, lkeep ?_ p6a, lkeep ?_ b0a, lkeep ?_ b1a⟩ <;> ((repeat (first | assumption | exact (‹Below _ _ _ ∧ _›).1 | apply Below.drew | apply lb_alloc | apply lb_newq | refine lb_trans ?_ hb)); done)))
      (fail)

    all_goals (
      rename_i hS
      have sB : Hid _ := hS.1
      clear hS
      go_wp2_with fail
      go_meet
      exact ⟨_, rfl, by first | (simp [go_sem]; done) | (simp [go_sem, *]; done), by first | (simp [go_sem]; done) | (simp [go_sem, *]; done), sB⟩)
  case rest =>
  obtain ⟨gb, rfl, gb0, gb1, HBb⟩ := hcut
  obtain ⟨W, HW2⟩ : ∃ W, Hid (wc = W) := ⟨_, rfl⟩
  rw [HW2.out] at gb0 gb1 HBb
  rw [HW2.out]
  have HB : Hid (Below w.heap.size w W) := lb_trans HB0.out (lb_trans HBa.out HBb.out)
  have hq : QAt W base P s m := (h0.keep HBa.out).keep HBb.out
  have ga0 := lkeep HBb.out ga0
  have ga1 := lkeep HBb.out ga1
  have x0 := lkeep HBb.out y0
  have x1 := lkeep HBb.out y1
  have x2 := lkeep HBb.out y2
  have x3 := lkeep HBb.out y3
  have x4 := lkeep HBb.out y4
  have c6 := lkeep HBb.out p6a
  have hPW := hq.lt
  have hXW : w.heap.size < W.heap.size := World.block_lt_of_cell? W _ x0
  have hgaW : ga < W.heap.size := World.block_lt_of_cell? W _ ga0
  have hgbW : gb < W.heap.size := World.block_lt_of_cell? W _ gb0
  have hRW : s.R < W.heap.size := (hq.foot (.inr (.inr (.inr (.inl rfl))))).2
  have hgaR : ga ≠ s.R := fun e => by have := (h.foot (b := s.R) (.inr (.inr (.inr (.inl rfl))))).2; have := HGA.out; omega
  have nXR : w.heap.size ≠ s.R := fun e => by have := (h.foot (b := s.R) (.inr (.inr (.inr (.inl rfl))))).2; omega
  clear HW2 h0 HB0 HBa HBb hWW hWW1 p1 p6 p6a d0 d1 b0 b1 b0a b1a y0 y1 y2 y3 y4 h
  obtain ⟨e0, e1, f0, f1⟩ := hq.reg hm.sixteen hk
  have HQ : Hid _ := hq.put hm.sixteen k (n, true)
  have HU : Hid (Upto (QFoot s P) w ((W.setCell ⟨s.R, k * 2, none⟩ (.int .i64 (n))).setCell ⟨s.R, k * 2 + 1, none⟩ (.bool (true)))) := ((Upto.of HB.out).set (Or.inl (Or.inr (Or.inr (Or.inr (Or.inl rfl))))) _ _).set (Or.inl (Or.inr (Or.inr (Or.inr (Or.inl rfl))))) _ _
  go_wp2_with fail
  go_region
  all_goals (
    go_wp2
    go_ret2
    exact q_yes rfl (fun _ => rfl) HQ.out.drew HU.out.drew)
set_option maxRecDepth 100000 in
set_option maxHeartbeats 4000000 in
theorem qmove (h : QAt w base P s m) (hm : Fine m) {d a b n : Int} (hi : InsIn 2 d a b n) : Calls Tryz.prog 34 #[.pointer (some ⟨P, 0, none⟩), .agg #[.int .i8 2, .int .i8 d, .int .i8 a, .int .i8 b, .int .i64 n]] w (DoQP w base P s m (putD m d (rV m a, rC m a))) := by
  obtain ⟨k, hk0⟩ := Int.eq_ofNat_of_zero_le hi.d0
  obtain ⟨j, hj0⟩ := Int.eq_ofNat_of_zero_le hi.a0
  obtain ⟨i, hi0⟩ := Int.eq_ofNat_of_zero_le hi.b0
  have hk : k < 16 := by have := hi.d1; omega
  have hj : j < 16 := by have := hi.a1; omega
  have hi2 : i < 16 := by have := hi.b1; omega
  subst hk0 hj0 hi0
  have zk : (0 : Int) ≤ (k : Int) := Int.natCast_nonneg _
  have yk : (k : Int) < 16 := by omega
  have zj : (0 : Int) ≤ (j : Int) := Int.natCast_nonneg _
  have yj : (j : Int) < 16 := by omega
  have zi : (0 : Int) ≤ (i : Int) := Int.natCast_nonneg _
  have yi : (i : Int) < 16 := by omega
  obtain ⟨W0, HW⟩ : ∃ W0, Hid (w.alloc (.cells #[.int .i8 2, .int .i8 k, .int .i8 j, .int .i8 i, .int .i64 n] 82) = W0) := ⟨_, rfl⟩
  have x0 : W0.cell? ⟨w.heap.size, 0, none⟩ = some (.int .i8 2) := by rw [← HW.out]; simp [go_sem]
  have x1 : W0.cell? ⟨w.heap.size, 1, none⟩ = some (.int .i8 k) := by rw [← HW.out]; simp [go_sem]
  have x2 : W0.cell? ⟨w.heap.size, 2, none⟩ = some (.int .i8 j) := by rw [← HW.out]; simp [go_sem]
  have x3 : W0.cell? ⟨w.heap.size, 3, none⟩ = some (.int .i8 i) := by rw [← HW.out]; simp [go_sem]
  have x4 : W0.cell? ⟨w.heap.size, 4, none⟩ = some (.int .i64 n) := by rw [← HW.out]; simp [go_sem]
  have h0 : QAt W0 base P s m := by rw [← HW.out]; exact h.alloc _
  have HB0 : Hid (Below w.heap.size w W0) := by unfold Hid; rw [← HW.out]; exact lb_alloc (Below.refl _ _) _
  have hP := h.lt
  have hpc := hm.pc
  have hWW := Below.refl W0.heap.size W0
  have HZ0 : Hid (w.heap.size ≤ W0.heap.size) := HB0.out.size
  have p1 : W0.cell? ⟨P, 1, none⟩ = some (.int .i64 m.pc) := h0.cells.2.1
  have p6 : W0.cell? ⟨P, 6, none⟩ = some (.slice (some ⟨s.R, 0, none⟩) 16 16) := h0.cells.2.2.2.2.2.2.1
  obtain ⟨d0, d1, -, -⟩ := h0.reg hm.sixteen hj
  obtain ⟨b0, b1, -, -⟩ := h0.reg hm.sixteen hi2
  go_enter Tryz.func34, Tryz.ntmps34
  go_upto_region 1 with fail
  rw [HW.out]
  clear HW
  go_upto_region 2 with fail
  go_cut [7] (fun x wx => ∃ ga, x = .pointer (some ⟨ga, 0, none⟩) ∧ wx.cell? ⟨ga, 0, none⟩ = some (.int .i64 (wV m.regs j)) ∧ wx.cell? ⟨ga, 1, none⟩ = some (.bool (wC m.regs j)) ∧ Hid (w.heap.size ≤ ga) ∧ Hid (Below W0.heap.size W0 wx))
  case first =>
    go_region_held3 (fun Z => Below W0.heap.size W0 Z ∧ Z.cell? ⟨w.heap.size, 2, none⟩ = some (.int .i8 j) ∧ Z.cell? ⟨P, 6, none⟩ = some (.slice (some ⟨s.R, 0, none⟩) 16 16) ∧ Z.cell? ⟨s.R, j * 2, none⟩ = some (.int .i64 (wV m.regs j)) ∧ Z.cell? ⟨s.R, j * 2 + 1, none⟩ = some (.bool (wC m.regs j)))
      (first | (refine ⟨?_, lkeep ?_ x2, lkeep ?_ p6, lkeep ?_ d0, lkeep ?_ d1⟩ <;> ((repeat (first | assumption | exact (‹Below _ _ _ ∧ _›).1 | apply Below.drew | apply lb_alloc | apply lb_newq | refine lb_trans ?_ hb)); done)))
      (fail)

    all_goals (
      rename_i hS
      have sB : Hid _ := hS.1
      clear hS
      go_wp2_with fail
      go_meet
      exact ⟨_, rfl, by first | (simp [go_sem]; done) | (simp [go_sem, *]; done), by first | (simp [go_sem]; done) | (simp [go_sem, *]; done), HZ0.out, sB⟩)
  case rest =>
  obtain ⟨ga, rfl, ga0, ga1, HGA, HBa⟩ := hcut
  obtain ⟨W1, HW1⟩ : ∃ W1, Hid (wc = W1) := ⟨_, rfl⟩
  rw [HW1.out] at ga0 ga1 HBa
  rw [HW1.out]
  clear HW1
  have y1 := lkeep HBa.out x1
  have y0 := lkeep HBa.out x0
  have y2 := lkeep HBa.out x2
  have y3 := lkeep HBa.out x3
  have y4 := lkeep HBa.out x4
  have p6a := lkeep HBa.out p6
  have b0a := lkeep HBa.out b0
  have b1a := lkeep HBa.out b1
  have hWW1 := Below.refl W1.heap.size W1
  go_upto_region 3 with fail
  go_cut [8] (fun x wx => ∃ g, x = .pointer (some ⟨g, 0, none⟩) ∧ wx.cell? ⟨g, 0, none⟩ = some (.int .i64 (wV m.regs i)) ∧ wx.cell? ⟨g, 1, none⟩ = some (.bool (wC m.regs i)) ∧ Hid (Below W1.heap.size W1 wx))
  case first =>
    go_region_held3 (fun Z => Below W1.heap.size W1 Z ∧ Z.cell? ⟨w.heap.size, 3, none⟩ = some (.int .i8 i) ∧ Z.cell? ⟨P, 6, none⟩ = some (.slice (some ⟨s.R, 0, none⟩) 16 16) ∧ Z.cell? ⟨s.R, i * 2, none⟩ = some (.int .i64 (wV m.regs i)) ∧ Z.cell? ⟨s.R, i * 2 + 1, none⟩ = some (.bool (wC m.regs i)))
      (first | (refine ⟨?_, lkeep ?_ y3, lkeep ?_ p6a, lkeep ?_ b0a, lkeep ?_ b1a⟩ <;> ((repeat (first | assumption | exact (‹Below _ _ _ ∧ _›).1 | apply Below.drew | apply lb_alloc | apply lb_newq | refine lb_trans ?_ hb)); done)))
      (fail)

    all_goals (
      rename_i hS
      have sB : Hid _ := hS.1
      clear hS
      go_wp2_with fail
      go_meet
      exact ⟨_, rfl, by first | (simp [go_sem]; done) | (simp [go_sem, *]; done), by first | (simp [go_sem]; done) | (simp [go_sem, *]; done), sB⟩)
  case rest =>
  obtain ⟨gb, rfl, gb0, gb1, HBb⟩ := hcut
  obtain ⟨W, HW2⟩ : ∃ W, Hid (wc = W) := ⟨_, rfl⟩
  rw [HW2.out] at gb0 gb1 HBb
  rw [HW2.out]
  have HB : Hid (Below w.heap.size w W) := lb_trans HB0.out (lb_trans HBa.out HBb.out)
  have hq : QAt W base P s m := (h0.keep HBa.out).keep HBb.out
  have ga0 := lkeep HBb.out ga0
  have ga1 := lkeep HBb.out ga1
  have x0 := lkeep HBb.out y0
  have x1 := lkeep HBb.out y1
  have x2 := lkeep HBb.out y2
  have x3 := lkeep HBb.out y3
  have x4 := lkeep HBb.out y4
  have c6 := lkeep HBb.out p6a
  have hPW := hq.lt
  have hXW : w.heap.size < W.heap.size := World.block_lt_of_cell? W _ x0
  have hgaW : ga < W.heap.size := World.block_lt_of_cell? W _ ga0
  have hgbW : gb < W.heap.size := World.block_lt_of_cell? W _ gb0
  have hRW : s.R < W.heap.size := (hq.foot (.inr (.inr (.inr (.inl rfl))))).2
  have hgaR : ga ≠ s.R := fun e => by have := (h.foot (b := s.R) (.inr (.inr (.inr (.inl rfl))))).2; have := HGA.out; omega
  have nXR : w.heap.size ≠ s.R := fun e => by have := (h.foot (b := s.R) (.inr (.inr (.inr (.inl rfl))))).2; omega
  clear HW2 h0 HB0 HBa HBb hWW hWW1 p1 p6 p6a d0 d1 b0 b1 b0a b1a y0 y1 y2 y3 y4 h
  obtain ⟨e0, e1, f0, f1⟩ := hq.reg hm.sixteen hk
  have HQ : Hid _ := hq.put hm.sixteen k (wV m.regs j, wC m.regs j)
  have HU : Hid (Upto (QFoot s P) w ((W.setCell ⟨s.R, k * 2, none⟩ (.int .i64 (wV m.regs j))).setCell ⟨s.R, k * 2 + 1, none⟩ (.bool (wC m.regs j)))) := ((Upto.of HB.out).set (Or.inl (Or.inr (Or.inr (Or.inr (Or.inl rfl))))) _ _).set (Or.inl (Or.inr (Or.inr (Or.inr (Or.inl rfl))))) _ _
  go_wp2_with fail
  go_region
  all_goals (
    go_wp2
    go_ret2
    exact q_yes rfl (fun _ => rfl) HQ.out.drew HU.out.drew)
end

end Go.Proofs.YtdlcejpfjlpclaaGreatDoor

namespace Go.Proofs.YtdlcejpfjlpclaaGreatDoor
open Go.RowKit

section
variable {w : World} {base P : Nat} {s : QLoc} {m : Mach}
set_option maxRecDepth 100000 in
set_option maxHeartbeats 4000000 in
theorem qneg (h : QAt w base P s m) (hm : Fine m) {d a b n : Int} (hi : InsIn (-1) d a b n) : Calls Tryz.prog 34 #[.pointer (some ⟨P, 0, none⟩), .agg #[.int .i8 (-1), .int .i8 d, .int .i8 a, .int .i8 b, .int .i64 n]] w (DoQP w base P s m (noD m 3)) := by
  obtain ⟨k, hk0⟩ := Int.eq_ofNat_of_zero_le hi.d0
  obtain ⟨j, hj0⟩ := Int.eq_ofNat_of_zero_le hi.a0
  obtain ⟨i, hi0⟩ := Int.eq_ofNat_of_zero_le hi.b0
  have hk : k < 16 := by have := hi.d1; omega
  have hj : j < 16 := by have := hi.a1; omega
  have hi2 : i < 16 := by have := hi.b1; omega
  subst hk0 hj0 hi0
  have zk : (0 : Int) ≤ (k : Int) := Int.natCast_nonneg _
  have yk : (k : Int) < 16 := by omega
  have zj : (0 : Int) ≤ (j : Int) := Int.natCast_nonneg _
  have yj : (j : Int) < 16 := by omega
  have zi : (0 : Int) ≤ (i : Int) := Int.natCast_nonneg _
  have yi : (i : Int) < 16 := by omega
  obtain ⟨W0, HW⟩ : ∃ W0, Hid (w.alloc (.cells #[.int .i8 (-1), .int .i8 k, .int .i8 j, .int .i8 i, .int .i64 n] 82) = W0) := ⟨_, rfl⟩
  have x0 : W0.cell? ⟨w.heap.size, 0, none⟩ = some (.int .i8 (-1)) := by rw [← HW.out]; simp [go_sem]
  have x1 : W0.cell? ⟨w.heap.size, 1, none⟩ = some (.int .i8 k) := by rw [← HW.out]; simp [go_sem]
  have x2 : W0.cell? ⟨w.heap.size, 2, none⟩ = some (.int .i8 j) := by rw [← HW.out]; simp [go_sem]
  have x3 : W0.cell? ⟨w.heap.size, 3, none⟩ = some (.int .i8 i) := by rw [← HW.out]; simp [go_sem]
  have x4 : W0.cell? ⟨w.heap.size, 4, none⟩ = some (.int .i64 n) := by rw [← HW.out]; simp [go_sem]
  have h0 : QAt W0 base P s m := by rw [← HW.out]; exact h.alloc _
  have HB0 : Hid (Below w.heap.size w W0) := by unfold Hid; rw [← HW.out]; exact lb_alloc (Below.refl _ _) _
  have hP := h.lt
  have hpc := hm.pc
  have hWW := Below.refl W0.heap.size W0
  have HZ0 : Hid (w.heap.size ≤ W0.heap.size) := HB0.out.size
  have p1 : W0.cell? ⟨P, 1, none⟩ = some (.int .i64 m.pc) := h0.cells.2.1
  have p6 : W0.cell? ⟨P, 6, none⟩ = some (.slice (some ⟨s.R, 0, none⟩) 16 16) := h0.cells.2.2.2.2.2.2.1
  obtain ⟨d0, d1, -, -⟩ := h0.reg hm.sixteen hj
  obtain ⟨b0, b1, -, -⟩ := h0.reg hm.sixteen hi2
  go_enter Tryz.func34, Tryz.ntmps34
  go_upto_region 1 with fail
  rw [HW.out]
  clear HW
  go_upto_region 2 with fail
  go_cut [7] (fun x wx => ∃ ga, x = .pointer (some ⟨ga, 0, none⟩) ∧ wx.cell? ⟨ga, 0, none⟩ = some (.int .i64 (wV m.regs j)) ∧ wx.cell? ⟨ga, 1, none⟩ = some (.bool (wC m.regs j)) ∧ Hid (w.heap.size ≤ ga) ∧ Hid (Below W0.heap.size W0 wx))
  case first =>
    go_region_held3 (fun Z => Below W0.heap.size W0 Z ∧ Z.cell? ⟨w.heap.size, 2, none⟩ = some (.int .i8 j) ∧ Z.cell? ⟨P, 6, none⟩ = some (.slice (some ⟨s.R, 0, none⟩) 16 16) ∧ Z.cell? ⟨s.R, j * 2, none⟩ = some (.int .i64 (wV m.regs j)) ∧ Z.cell? ⟨s.R, j * 2 + 1, none⟩ = some (.bool (wC m.regs j)))
      (first | (refine ⟨?_, lkeep ?_ x2, lkeep ?_ p6, lkeep ?_ d0, lkeep ?_ d1⟩ <;> ((repeat (first | assumption | exact (‹Below _ _ _ ∧ _›).1 | apply Below.drew | apply lb_alloc | apply lb_newq | refine lb_trans ?_ hb)); done)))
      (fail)

    all_goals (
      rename_i hS
      have sB : Hid _ := hS.1
      clear hS
      go_wp2_with fail
      go_meet
      exact ⟨_, rfl, by first | (simp [go_sem]; done) | (simp [go_sem, *]; done), by first | (simp [go_sem]; done) | (simp [go_sem, *]; done), HZ0.out, sB⟩)
  case rest =>
  obtain ⟨ga, rfl, ga0, ga1, HGA, HBa⟩ := hcut
  obtain ⟨W1, HW1⟩ : ∃ W1, Hid (wc = W1) := ⟨_, rfl⟩
  rw [HW1.out] at ga0 ga1 HBa
  rw [HW1.out]
  clear HW1
  have y1 := lkeep HBa.out x1
  have y0 := lkeep HBa.out x0
  have y2 := lkeep HBa.out x2
  have y3 := lkeep HBa.out x3
  have y4 := lkeep HBa.out x4
  have p6a := lkeep HBa.out p6
  have b0a := lkeep HBa.out b0
  have b1a := lkeep HBa.out b1
  have hWW1 := Below.refl W1.heap.size W1
  go_upto_region 3 with fail
  go_cut [8] (fun x wx => ∃ g, x = .pointer (some ⟨g, 0, none⟩) ∧ wx.cell? ⟨g, 0, none⟩ = some (.int .i64 (wV m.regs i)) ∧ wx.cell? ⟨g, 1, none⟩ = some (.bool (wC m.regs i)) ∧ Hid (Below W1.heap.size W1 wx))
  case first =>
    go_region_held3 (fun Z => Below W1.heap.size W1 Z ∧ Z.cell? ⟨w.heap.size, 3, none⟩ = some (.int .i8 i) ∧ Z.cell? ⟨P, 6, none⟩ = some (.slice (some ⟨s.R, 0, none⟩) 16 16) ∧ Z.cell? ⟨s.R, i * 2, none⟩ = some (.int .i64 (wV m.regs i)) ∧ Z.cell? ⟨s.R, i * 2 + 1, none⟩ = some (.bool (wC m.regs i)))
      (first | (refine ⟨?_, lkeep ?_ y3, lkeep ?_ p6a, lkeep ?_ b0a, lkeep ?_ b1a⟩ <;> ((repeat (first | assumption | exact (‹Below _ _ _ ∧ _›).1 | apply Below.drew | apply lb_alloc | apply lb_newq | refine lb_trans ?_ hb)); done)))
      (fail)

    all_goals (
      rename_i hS
      have sB : Hid _ := hS.1
      clear hS
      go_wp2_with fail
      go_meet
      exact ⟨_, rfl, by first | (simp [go_sem]; done) | (simp [go_sem, *]; done), by first | (simp [go_sem]; done) | (simp [go_sem, *]; done), sB⟩)
  case rest =>
  obtain ⟨gb, rfl, gb0, gb1, HBb⟩ := hcut
  obtain ⟨W, HW2⟩ : ∃ W, Hid (wc = W) := ⟨_, rfl⟩
  rw [HW2.out] at gb0 gb1 HBb
  rw [HW2.out]
  have HB : Hid (Below w.heap.size w W) := lb_trans HB0.out (lb_trans HBa.out HBb.out)
  have hq : QAt W base P s m := (h0.keep HBa.out).keep HBb.out
  have ga0 := lkeep HBb.out ga0
  have ga1 := lkeep HBb.out ga1
  have x0 := lkeep HBb.out y0
  have x1 := lkeep HBb.out y1
  have x2 := lkeep HBb.out y2
  have x3 := lkeep HBb.out y3
  have x4 := lkeep HBb.out y4
  have c6 := lkeep HBb.out p6a
  have hPW := hq.lt
  have hXW : w.heap.size < W.heap.size := World.block_lt_of_cell? W _ x0
  have hgaW : ga < W.heap.size := World.block_lt_of_cell? W _ ga0
  have hgbW : gb < W.heap.size := World.block_lt_of_cell? W _ gb0
  have hRW : s.R < W.heap.size := (hq.foot (.inr (.inr (.inr (.inl rfl))))).2
  have hgaR : ga ≠ s.R := fun e => by have := (h.foot (b := s.R) (.inr (.inr (.inr (.inl rfl))))).2; have := HGA.out; omega
  have nXR : w.heap.size ≠ s.R := fun e => by have := (h.foot (b := s.R) (.inr (.inr (.inr (.inl rfl))))).2; omega
  clear HW2 h0 HB0 HBa HBb hWW hWW1 p1 p6 p6a d0 d1 b0 b1 b0a b1a y0 y1 y2 y3 y4 h
  go_wp2
  go_ret2
  exact q_no (by decide) HB.out
set_option maxRecDepth 100000 in
set_option maxHeartbeats 4000000 in
theorem qtrap (h : QAt w base P s m) (hm : Fine m) {d a b n : Int} (hi : InsIn 0 d a b n) : Calls Tryz.prog 34 #[.pointer (some ⟨P, 0, none⟩), .agg #[.int .i8 0, .int .i8 d, .int .i8 a, .int .i8 b, .int .i64 n]] w (DoQP w base P s m (noD m 2)) := by
  obtain ⟨k, hk0⟩ := Int.eq_ofNat_of_zero_le hi.d0
  obtain ⟨j, hj0⟩ := Int.eq_ofNat_of_zero_le hi.a0
  obtain ⟨i, hi0⟩ := Int.eq_ofNat_of_zero_le hi.b0
  have hk : k < 16 := by have := hi.d1; omega
  have hj : j < 16 := by have := hi.a1; omega
  have hi2 : i < 16 := by have := hi.b1; omega
  subst hk0 hj0 hi0
  have zk : (0 : Int) ≤ (k : Int) := Int.natCast_nonneg _
  have yk : (k : Int) < 16 := by omega
  have zj : (0 : Int) ≤ (j : Int) := Int.natCast_nonneg _
  have yj : (j : Int) < 16 := by omega
  have zi : (0 : Int) ≤ (i : Int) := Int.natCast_nonneg _
  have yi : (i : Int) < 16 := by omega
  obtain ⟨W0, HW⟩ : ∃ W0, Hid (w.alloc (.cells #[.int .i8 0, .int .i8 k, .int .i8 j, .int .i8 i, .int .i64 n] 82) = W0) := ⟨_, rfl⟩
  have x0 : W0.cell? ⟨w.heap.size, 0, none⟩ = some (.int .i8 0) := by rw [← HW.out]; simp [go_sem]
  have x1 : W0.cell? ⟨w.heap.size, 1, none⟩ = some (.int .i8 k) := by rw [← HW.out]; simp [go_sem]
  have x2 : W0.cell? ⟨w.heap.size, 2, none⟩ = some (.int .i8 j) := by rw [← HW.out]; simp [go_sem]
  have x3 : W0.cell? ⟨w.heap.size, 3, none⟩ = some (.int .i8 i) := by rw [← HW.out]; simp [go_sem]
  have x4 : W0.cell? ⟨w.heap.size, 4, none⟩ = some (.int .i64 n) := by rw [← HW.out]; simp [go_sem]
  have h0 : QAt W0 base P s m := by rw [← HW.out]; exact h.alloc _
  have HB0 : Hid (Below w.heap.size w W0) := by unfold Hid; rw [← HW.out]; exact lb_alloc (Below.refl _ _) _
  have hP := h.lt
  have hpc := hm.pc
  have hWW := Below.refl W0.heap.size W0
  have HZ0 : Hid (w.heap.size ≤ W0.heap.size) := HB0.out.size
  have p1 : W0.cell? ⟨P, 1, none⟩ = some (.int .i64 m.pc) := h0.cells.2.1
  have p6 : W0.cell? ⟨P, 6, none⟩ = some (.slice (some ⟨s.R, 0, none⟩) 16 16) := h0.cells.2.2.2.2.2.2.1
  obtain ⟨d0, d1, -, -⟩ := h0.reg hm.sixteen hj
  obtain ⟨b0, b1, -, -⟩ := h0.reg hm.sixteen hi2
  go_enter Tryz.func34, Tryz.ntmps34
  go_upto_region 1 with fail
  rw [HW.out]
  clear HW
  go_upto_region 2 with fail
  go_cut [7] (fun x wx => ∃ ga, x = .pointer (some ⟨ga, 0, none⟩) ∧ wx.cell? ⟨ga, 0, none⟩ = some (.int .i64 (wV m.regs j)) ∧ wx.cell? ⟨ga, 1, none⟩ = some (.bool (wC m.regs j)) ∧ Hid (w.heap.size ≤ ga) ∧ Hid (Below W0.heap.size W0 wx))
  case first =>
    go_region_held3 (fun Z => Below W0.heap.size W0 Z ∧ Z.cell? ⟨w.heap.size, 2, none⟩ = some (.int .i8 j) ∧ Z.cell? ⟨P, 6, none⟩ = some (.slice (some ⟨s.R, 0, none⟩) 16 16) ∧ Z.cell? ⟨s.R, j * 2, none⟩ = some (.int .i64 (wV m.regs j)) ∧ Z.cell? ⟨s.R, j * 2 + 1, none⟩ = some (.bool (wC m.regs j)))
      (first | (refine ⟨?_, lkeep ?_ x2, lkeep ?_ p6, lkeep ?_ d0, lkeep ?_ d1⟩ <;> ((repeat (first | assumption | exact (‹Below _ _ _ ∧ _›).1 | apply Below.drew | apply lb_alloc | apply lb_newq | refine lb_trans ?_ hb)); done)))
      (fail)

    all_goals (
      rename_i hS
      have sB : Hid _ := hS.1
      clear hS
      go_wp2_with fail
      go_meet
      exact ⟨_, rfl, by first | (simp [go_sem]; done) | (simp [go_sem, *]; done), by first | (simp [go_sem]; done) | (simp [go_sem, *]; done), HZ0.out, sB⟩)
  case rest =>
  obtain ⟨ga, rfl, ga0, ga1, HGA, HBa⟩ := hcut
  obtain ⟨W1, HW1⟩ : ∃ W1, Hid (wc = W1) := ⟨_, rfl⟩
  rw [HW1.out] at ga0 ga1 HBa
  rw [HW1.out]
  clear HW1
  have y1 := lkeep HBa.out x1
  have y0 := lkeep HBa.out x0
  have y2 := lkeep HBa.out x2
  have y3 := lkeep HBa.out x3
  have y4 := lkeep HBa.out x4
  have p6a := lkeep HBa.out p6
  have b0a := lkeep HBa.out b0
  have b1a := lkeep HBa.out b1
  have hWW1 := Below.refl W1.heap.size W1
  go_upto_region 3 with fail
  go_cut [8] (fun x wx => ∃ g, x = .pointer (some ⟨g, 0, none⟩) ∧ wx.cell? ⟨g, 0, none⟩ = some (.int .i64 (wV m.regs i)) ∧ wx.cell? ⟨g, 1, none⟩ = some (.bool (wC m.regs i)) ∧ Hid (Below W1.heap.size W1 wx))
  case first =>
    go_region_held3 (fun Z => Below W1.heap.size W1 Z ∧ Z.cell? ⟨w.heap.size, 3, none⟩ = some (.int .i8 i) ∧ Z.cell? ⟨P, 6, none⟩ = some (.slice (some ⟨s.R, 0, none⟩) 16 16) ∧ Z.cell? ⟨s.R, i * 2, none⟩ = some (.int .i64 (wV m.regs i)) ∧ Z.cell? ⟨s.R, i * 2 + 1, none⟩ = some (.bool (wC m.regs i)))
      (first | (refine ⟨?_, lkeep ?_ y3, lkeep ?_ p6a, lkeep ?_ b0a, lkeep ?_ b1a⟩ <;> ((repeat (first | assumption | exact (‹Below _ _ _ ∧ _›).1 | apply Below.drew | apply lb_alloc | apply lb_newq | refine lb_trans ?_ hb)); done)))
      (fail)

    all_goals (
      rename_i hS
      have sB : Hid _ := hS.1
      clear hS
      go_wp2_with fail
      go_meet
      exact ⟨_, rfl, by first | (simp [go_sem]; done) | (simp [go_sem, *]; done), by first | (simp [go_sem]; done) | (simp [go_sem, *]; done), sB⟩)
  case rest =>
  obtain ⟨gb, rfl, gb0, gb1, HBb⟩ := hcut
  obtain ⟨W, HW2⟩ : ∃ W, Hid (wc = W) := ⟨_, rfl⟩
  rw [HW2.out] at gb0 gb1 HBb
  rw [HW2.out]
  have HB : Hid (Below w.heap.size w W) := lb_trans HB0.out (lb_trans HBa.out HBb.out)
  have hq : QAt W base P s m := (h0.keep HBa.out).keep HBb.out
  have ga0 := lkeep HBb.out ga0
  have ga1 := lkeep HBb.out ga1
  have x0 := lkeep HBb.out y0
  have x1 := lkeep HBb.out y1
  have x2 := lkeep HBb.out y2
  have x3 := lkeep HBb.out y3
  have x4 := lkeep HBb.out y4
  have c6 := lkeep HBb.out p6a
  have hPW := hq.lt
  have hXW : w.heap.size < W.heap.size := World.block_lt_of_cell? W _ x0
  have hgaW : ga < W.heap.size := World.block_lt_of_cell? W _ ga0
  have hgbW : gb < W.heap.size := World.block_lt_of_cell? W _ gb0
  have hRW : s.R < W.heap.size := (hq.foot (.inr (.inr (.inr (.inl rfl))))).2
  have hgaR : ga ≠ s.R := fun e => by have := (h.foot (b := s.R) (.inr (.inr (.inr (.inl rfl))))).2; have := HGA.out; omega
  have nXR : w.heap.size ≠ s.R := fun e => by have := (h.foot (b := s.R) (.inr (.inr (.inr (.inl rfl))))).2; omega
  clear HW2 h0 HB0 HBa HBb hWW hWW1 p1 p6 p6a d0 d1 b0 b1 b0a b1a y0 y1 y2 y3 y4 h
  go_wp2
  go_ret2
  exact q_no (by decide) HB.out
set_option maxRecDepth 100000 in
set_option maxHeartbeats 4000000 in
theorem qjump (h : QAt w base P s m) (hm : Fine m) {d a b n : Int} (hi : InsIn 15 d a b n) : Calls Tryz.prog 34 #[.pointer (some ⟨P, 0, none⟩), .agg #[.int .i8 15, .int .i8 d, .int .i8 a, .int .i8 b, .int .i64 n]] w (DoQP w base P s m (goD m n)) := by
  obtain ⟨k, hk0⟩ := Int.eq_ofNat_of_zero_le hi.d0
  obtain ⟨j, hj0⟩ := Int.eq_ofNat_of_zero_le hi.a0
  obtain ⟨i, hi0⟩ := Int.eq_ofNat_of_zero_le hi.b0
  have hk : k < 16 := by have := hi.d1; omega
  have hj : j < 16 := by have := hi.a1; omega
  have hi2 : i < 16 := by have := hi.b1; omega
  subst hk0 hj0 hi0
  have zk : (0 : Int) ≤ (k : Int) := Int.natCast_nonneg _
  have yk : (k : Int) < 16 := by omega
  have zj : (0 : Int) ≤ (j : Int) := Int.natCast_nonneg _
  have yj : (j : Int) < 16 := by omega
  have zi : (0 : Int) ≤ (i : Int) := Int.natCast_nonneg _
  have yi : (i : Int) < 16 := by omega
  obtain ⟨W0, HW⟩ : ∃ W0, Hid (w.alloc (.cells #[.int .i8 15, .int .i8 k, .int .i8 j, .int .i8 i, .int .i64 n] 82) = W0) := ⟨_, rfl⟩
  have x0 : W0.cell? ⟨w.heap.size, 0, none⟩ = some (.int .i8 15) := by rw [← HW.out]; simp [go_sem]
  have x1 : W0.cell? ⟨w.heap.size, 1, none⟩ = some (.int .i8 k) := by rw [← HW.out]; simp [go_sem]
  have x2 : W0.cell? ⟨w.heap.size, 2, none⟩ = some (.int .i8 j) := by rw [← HW.out]; simp [go_sem]
  have x3 : W0.cell? ⟨w.heap.size, 3, none⟩ = some (.int .i8 i) := by rw [← HW.out]; simp [go_sem]
  have x4 : W0.cell? ⟨w.heap.size, 4, none⟩ = some (.int .i64 n) := by rw [← HW.out]; simp [go_sem]
  have h0 : QAt W0 base P s m := by rw [← HW.out]; exact h.alloc _
  have HB0 : Hid (Below w.heap.size w W0) := by unfold Hid; rw [← HW.out]; exact lb_alloc (Below.refl _ _) _
  have hP := h.lt
  have hpc := hm.pc
  have hWW := Below.refl W0.heap.size W0
  have HZ0 : Hid (w.heap.size ≤ W0.heap.size) := HB0.out.size
  have p1 : W0.cell? ⟨P, 1, none⟩ = some (.int .i64 m.pc) := h0.cells.2.1
  have p6 : W0.cell? ⟨P, 6, none⟩ = some (.slice (some ⟨s.R, 0, none⟩) 16 16) := h0.cells.2.2.2.2.2.2.1
  obtain ⟨d0, d1, -, -⟩ := h0.reg hm.sixteen hj
  obtain ⟨b0, b1, -, -⟩ := h0.reg hm.sixteen hi2
  go_enter Tryz.func34, Tryz.ntmps34
  go_upto_region 1 with fail
  rw [HW.out]
  clear HW
  go_upto_region 2 with fail
  go_cut [7] (fun x wx => ∃ ga, x = .pointer (some ⟨ga, 0, none⟩) ∧ wx.cell? ⟨ga, 0, none⟩ = some (.int .i64 (wV m.regs j)) ∧ wx.cell? ⟨ga, 1, none⟩ = some (.bool (wC m.regs j)) ∧ Hid (w.heap.size ≤ ga) ∧ Hid (Below W0.heap.size W0 wx))
  case first =>
    go_region_held3 (fun Z => Below W0.heap.size W0 Z ∧ Z.cell? ⟨w.heap.size, 2, none⟩ = some (.int .i8 j) ∧ Z.cell? ⟨P, 6, none⟩ = some (.slice (some ⟨s.R, 0, none⟩) 16 16) ∧ Z.cell? ⟨s.R, j * 2, none⟩ = some (.int .i64 (wV m.regs j)) ∧ Z.cell? ⟨s.R, j * 2 + 1, none⟩ = some (.bool (wC m.regs j)))
      (first | (refine ⟨?_, lkeep ?_ x2, lkeep ?_ p6, lkeep ?_ d0, lkeep ?_ d1⟩ <;> ((repeat (first | assumption | exact (‹Below _ _ _ ∧ _›).1 | apply Below.drew | apply lb_alloc | apply lb_newq | refine lb_trans ?_ hb)); done)))
      (fail)

    all_goals (
      rename_i hS
      have sB : Hid _ := hS.1
      clear hS
      go_wp2_with fail
      go_meet
      exact ⟨_, rfl, by first | (simp [go_sem]; done) | (simp [go_sem, *]; done), by first | (simp [go_sem]; done) | (simp [go_sem, *]; done), HZ0.out, sB⟩)
  case rest =>
  obtain ⟨ga, rfl, ga0, ga1, HGA, HBa⟩ := hcut
  obtain ⟨W1, HW1⟩ : ∃ W1, Hid (wc = W1) := ⟨_, rfl⟩
  rw [HW1.out] at ga0 ga1 HBa
  rw [HW1.out]
  clear HW1
  have y1 := lkeep HBa.out x1
  have y0 := lkeep HBa.out x0
  have y2 := lkeep HBa.out x2
  have y3 := lkeep HBa.out x3
  have y4 := lkeep HBa.out x4
  have p6a := lkeep HBa.out p6
  have b0a := lkeep HBa.out b0
  have b1a := lkeep HBa.out b1
  have hWW1 := Below.refl W1.heap.size W1
  go_upto_region 3 with fail
  go_cut [8] (fun x wx => ∃ g, x = .pointer (some ⟨g, 0, none⟩) ∧ wx.cell? ⟨g, 0, none⟩ = some (.int .i64 (wV m.regs i)) ∧ wx.cell? ⟨g, 1, none⟩ = some (.bool (wC m.regs i)) ∧ Hid (Below W1.heap.size W1 wx))
  case first =>
    go_region_held3 (fun Z => Below W1.heap.size W1 Z ∧ Z.cell? ⟨w.heap.size, 3, none⟩ = some (.int .i8 i) ∧ Z.cell? ⟨P, 6, none⟩ = some (.slice (some ⟨s.R, 0, none⟩) 16 16) ∧ Z.cell? ⟨s.R, i * 2, none⟩ = some (.int .i64 (wV m.regs i)) ∧ Z.cell? ⟨s.R, i * 2 + 1, none⟩ = some (.bool (wC m.regs i)))
      (first | (refine ⟨?_, lkeep ?_ y3, lkeep ?_ p6a, lkeep ?_ b0a, lkeep ?_ b1a⟩ <;> ((repeat (first | assumption | exact (‹Below _ _ _ ∧ _›).1 | apply Below.drew | apply lb_alloc | apply lb_newq | refine lb_trans ?_ hb)); done)))
      (fail)

    all_goals (
      rename_i hS
      have sB : Hid _ := hS.1
      clear hS
      go_wp2_with fail
      go_meet
      exact ⟨_, rfl, by first | (simp [go_sem]; done) | (simp [go_sem, *]; done), by first | (simp [go_sem]; done) | (simp [go_sem, *]; done), sB⟩)
  case rest =>
  obtain ⟨gb, rfl, gb0, gb1, HBb⟩ := hcut
  obtain ⟨W, HW2⟩ : ∃ W, Hid (wc = W) := ⟨_, rfl⟩
  rw [HW2.out] at gb0 gb1 HBb
  rw [HW2.out]
  have HB : Hid (Below w.heap.size w W) := lb_trans HB0.out (lb_trans HBa.out HBb.out)
  have hq : QAt W base P s m := (h0.keep HBa.out).keep HBb.out
  have ga0 := lkeep HBb.out ga0
  have ga1 := lkeep HBb.out ga1
  have x0 := lkeep HBb.out y0
  have x1 := lkeep HBb.out y1
  have x2 := lkeep HBb.out y2
  have x3 := lkeep HBb.out y3
  have x4 := lkeep HBb.out y4
  have c6 := lkeep HBb.out p6a
  have hPW := hq.lt
  have hXW : w.heap.size < W.heap.size := World.block_lt_of_cell? W _ x0
  have hgaW : ga < W.heap.size := World.block_lt_of_cell? W _ ga0
  have hgbW : gb < W.heap.size := World.block_lt_of_cell? W _ gb0
  have hRW : s.R < W.heap.size := (hq.foot (.inr (.inr (.inr (.inl rfl))))).2
  have hgaR : ga ≠ s.R := fun e => by have := (h.foot (b := s.R) (.inr (.inr (.inr (.inl rfl))))).2; have := HGA.out; omega
  have nXR : w.heap.size ≠ s.R := fun e => by have := (h.foot (b := s.R) (.inr (.inr (.inr (.inl rfl))))).2; omega
  clear HW2 h0 HB0 HBa HBb hWW hWW1 p1 p6 p6a d0 d1 b0 b1 b0a b1a y0 y1 y2 y3 y4 h
  have hn := (hi.pl (.inl rfl)).1
  go_wp2_with fail
  go_quiet (fail)
  go_wp2
  go_ret2
  exact q_yes rfl (fun _ => by simp [goD]; omega) (hq.drewN _) ((Upto.of HB.out).drewN _)
set_option maxRecDepth 100000 in
set_option maxHeartbeats 4000000 in
theorem qhalt (h : QAt w base P s m) (hm : Fine m) {d a b n : Int} (hi : InsIn 21 d a b n) (hs : m.status = 0) : Calls Tryz.prog 34 #[.pointer (some ⟨P, 0, none⟩), .agg #[.int .i8 21, .int .i8 d, .int .i8 a, .int .i8 b, .int .i64 n]] w (DoQP w base P s m (haltD m)) := by
  obtain ⟨k, hk0⟩ := Int.eq_ofNat_of_zero_le hi.d0
  obtain ⟨j, hj0⟩ := Int.eq_ofNat_of_zero_le hi.a0
  obtain ⟨i, hi0⟩ := Int.eq_ofNat_of_zero_le hi.b0
  have hk : k < 16 := by have := hi.d1; omega
  have hj : j < 16 := by have := hi.a1; omega
  have hi2 : i < 16 := by have := hi.b1; omega
  subst hk0 hj0 hi0
  have zk : (0 : Int) ≤ (k : Int) := Int.natCast_nonneg _
  have yk : (k : Int) < 16 := by omega
  have zj : (0 : Int) ≤ (j : Int) := Int.natCast_nonneg _
  have yj : (j : Int) < 16 := by omega
  have zi : (0 : Int) ≤ (i : Int) := Int.natCast_nonneg _
  have yi : (i : Int) < 16 := by omega
  obtain ⟨W0, HW⟩ : ∃ W0, Hid (w.alloc (.cells #[.int .i8 21, .int .i8 k, .int .i8 j, .int .i8 i, .int .i64 n] 82) = W0) := ⟨_, rfl⟩
  have x0 : W0.cell? ⟨w.heap.size, 0, none⟩ = some (.int .i8 21) := by rw [← HW.out]; simp [go_sem]
  have x1 : W0.cell? ⟨w.heap.size, 1, none⟩ = some (.int .i8 k) := by rw [← HW.out]; simp [go_sem]
  have x2 : W0.cell? ⟨w.heap.size, 2, none⟩ = some (.int .i8 j) := by rw [← HW.out]; simp [go_sem]
  have x3 : W0.cell? ⟨w.heap.size, 3, none⟩ = some (.int .i8 i) := by rw [← HW.out]; simp [go_sem]
  have x4 : W0.cell? ⟨w.heap.size, 4, none⟩ = some (.int .i64 n) := by rw [← HW.out]; simp [go_sem]
  have h0 : QAt W0 base P s m := by rw [← HW.out]; exact h.alloc _
  have HB0 : Hid (Below w.heap.size w W0) := by unfold Hid; rw [← HW.out]; exact lb_alloc (Below.refl _ _) _
  have hP := h.lt
  have hpc := hm.pc
  have hWW := Below.refl W0.heap.size W0
  have HZ0 : Hid (w.heap.size ≤ W0.heap.size) := HB0.out.size
  have p1 : W0.cell? ⟨P, 1, none⟩ = some (.int .i64 m.pc) := h0.cells.2.1
  have p6 : W0.cell? ⟨P, 6, none⟩ = some (.slice (some ⟨s.R, 0, none⟩) 16 16) := h0.cells.2.2.2.2.2.2.1
  obtain ⟨d0, d1, -, -⟩ := h0.reg hm.sixteen hj
  obtain ⟨b0, b1, -, -⟩ := h0.reg hm.sixteen hi2
  go_enter Tryz.func34, Tryz.ntmps34
  go_upto_region 1 with fail
  rw [HW.out]
  clear HW
  go_upto_region 2 with fail
  go_cut [7] (fun x wx => ∃ ga, x = .pointer (some ⟨ga, 0, none⟩) ∧ wx.cell? ⟨ga, 0, none⟩ = some (.int .i64 (wV m.regs j)) ∧ wx.cell? ⟨ga, 1, none⟩ = some (.bool (wC m.regs j)) ∧ Hid (w.heap.size ≤ ga) ∧ Hid (Below W0.heap.size W0 wx))
  case first =>
    go_region_held3 (fun Z => Below W0.heap.size W0 Z ∧ Z.cell? ⟨w.heap.size, 2, none⟩ = some (.int .i8 j) ∧ Z.cell? ⟨P, 6, none⟩ = some (.slice (some ⟨s.R, 0, none⟩) 16 16) ∧ Z.cell? ⟨s.R, j * 2, none⟩ = some (.int .i64 (wV m.regs j)) ∧ Z.cell? ⟨s.R, j * 2 + 1, none⟩ = some (.bool (wC m.regs j)))
      (first | (refine ⟨?_, lkeep ?_ x2, lkeep ?_ p6, lkeep ?_ d0, lkeep ?_ d1⟩ <;> ((repeat (first | assumption | exact (‹Below _ _ _ ∧ _›).1 | apply Below.drew | apply lb_alloc | apply lb_newq | refine lb_trans ?_ hb)); done)))
      (fail)

    all_goals (
      rename_i hS
      have sB : Hid _ := hS.1
      clear hS
      go_wp2_with fail
      go_meet
      exact ⟨_, rfl, by first | (simp [go_sem]; done) | (simp [go_sem, *]; done), by first | (simp [go_sem]; done) | (simp [go_sem, *]; done), HZ0.out, sB⟩)
  case rest =>
  obtain ⟨ga, rfl, ga0, ga1, HGA, HBa⟩ := hcut
  obtain ⟨W1, HW1⟩ : ∃ W1, Hid (wc = W1) := ⟨_, rfl⟩
  rw [HW1.out] at ga0 ga1 HBa
  rw [HW1.out]
  clear HW1
  have y1 := lkeep HBa.out x1
  have y0 := lkeep HBa.out x0
  have y2 := lkeep HBa.out x2
  have y3 := lkeep HBa.out x3
  have y4 := lkeep HBa.out x4
  have p6a := lkeep HBa.out p6
  have b0a := lkeep HBa.out b0
  have b1a := lkeep HBa.out b1
  have hWW1 := Below.refl W1.heap.size W1
  go_upto_region 3 with fail
  go_cut [8] (fun x wx => ∃ g, x = .pointer (some ⟨g, 0, none⟩) ∧ wx.cell? ⟨g, 0, none⟩ = some (.int .i64 (wV m.regs i)) ∧ wx.cell? ⟨g, 1, none⟩ = some (.bool (wC m.regs i)) ∧ Hid (Below W1.heap.size W1 wx))
  case first =>
    go_region_held3 (fun Z => Below W1.heap.size W1 Z ∧ Z.cell? ⟨w.heap.size, 3, none⟩ = some (.int .i8 i) ∧ Z.cell? ⟨P, 6, none⟩ = some (.slice (some ⟨s.R, 0, none⟩) 16 16) ∧ Z.cell? ⟨s.R, i * 2, none⟩ = some (.int .i64 (wV m.regs i)) ∧ Z.cell? ⟨s.R, i * 2 + 1, none⟩ = some (.bool (wC m.regs i)))
      (first | (refine ⟨?_, lkeep ?_ y3, lkeep ?_ p6a, lkeep ?_ b0a, lkeep ?_ b1a⟩ <;> ((repeat (first | assumption | exact (‹Below _ _ _ ∧ _›).1 | apply Below.drew | apply lb_alloc | apply lb_newq | refine lb_trans ?_ hb)); done)))
      (fail)

    all_goals (
      rename_i hS
      have sB : Hid _ := hS.1
      clear hS
      go_wp2_with fail
      go_meet
      exact ⟨_, rfl, by first | (simp [go_sem]; done) | (simp [go_sem, *]; done), by first | (simp [go_sem]; done) | (simp [go_sem, *]; done), sB⟩)
  case rest =>
  obtain ⟨gb, rfl, gb0, gb1, HBb⟩ := hcut
  obtain ⟨W, HW2⟩ : ∃ W, Hid (wc = W) := ⟨_, rfl⟩
  rw [HW2.out] at gb0 gb1 HBb
  rw [HW2.out]
  have HB : Hid (Below w.heap.size w W) := lb_trans HB0.out (lb_trans HBa.out HBb.out)
  have hq : QAt W base P s m := (h0.keep HBa.out).keep HBb.out
  have ga0 := lkeep HBb.out ga0
  have ga1 := lkeep HBb.out ga1
  have x0 := lkeep HBb.out y0
  have x1 := lkeep HBb.out y1
  have x2 := lkeep HBb.out y2
  have x3 := lkeep HBb.out y3
  have x4 := lkeep HBb.out y4
  have c6 := lkeep HBb.out p6a
  have hPW := hq.lt
  have hXW : w.heap.size < W.heap.size := World.block_lt_of_cell? W _ x0
  have hgaW : ga < W.heap.size := World.block_lt_of_cell? W _ ga0
  have hgbW : gb < W.heap.size := World.block_lt_of_cell? W _ gb0
  have hRW : s.R < W.heap.size := (hq.foot (.inr (.inr (.inr (.inl rfl))))).2
  have hgaR : ga ≠ s.R := fun e => by have := (h.foot (b := s.R) (.inr (.inr (.inr (.inl rfl))))).2; have := HGA.out; omega
  have nXR : w.heap.size ≠ s.R := fun e => by have := (h.foot (b := s.R) (.inr (.inr (.inr (.inl rfl))))).2; omega
  clear HW2 h0 HB0 HBa HBb hWW hWW1 p1 p6 p6a d0 d1 b0 b1 b0a b1a y0 y1 y2 y3 y4 h
  have c2 := hq.cells.2.2.1
  have f2 := hq.fro 2
  have HQ : Hid _ := hq.status 1
  have HU : Hid (Upto (QFoot s P) w (W.setCell ⟨P, 2, none⟩ (.int .i8 1))) := (Upto.of HB.out).set (Or.inl (Or.inl rfl)) _ _
  go_wp2
  go_ret2
  exact q_yes rfl (fun e => by cases e) HQ.out HU.out
end

end Go.Proofs.YtdlcejpfjlpclaaGreatDoor
