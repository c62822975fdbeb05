/-
  The document's machine: in. The document's machine: out. The document's machine: every instruction done.
-/
import Derived.Test.YtdlcejpfjlpclaaGreatDoorProg
import Derived.WalkKit
import Derived.WalkSpells
import Derived.WalkLawsBesides
import Derived.RowKit3
import Derived.Below
import Derived.Deep.QuietTactic
import Derived.BigQuiet
import Derived.WalkSmall
import Derived.Laws.Rows
import Derived.Test.YtdlcejpfjlpclaaGreatDoorPr19
import Derived.Deep.DeepCutAuto
import Derived.Deep.RegionLaw
import Derived.Deep.AppendLies
import Derived.Test.YtdlcejpfjlpclaaGreatDoorPr20
import Derived.Test.YtdlcejpfjlpclaaGreatDoorPr22
namespace Go.Proofs.YtdlcejpfjlpclaaGreatDoor
open Go.RowKit

section
variable {w : World} {base P : Nat} {s : QLoc} {m : Mach}
theorem QAt.off (h : QAt w base P s m) {B : Nat} (hB : ¬ QFoot s P B) (i : Nat) (v : Value) : QAt (w.setCell ⟨B, i, none⟩ v) base P s m := h.stay fun b hb => Below.heap_setCell _ _ _ _ (fun e => hB (by have e : b = B := e; rw [← e]; exact hb))
theorem QAt.num (h : QAt w base P s m) {k : Nat} (hk : k < m.tape.length) : ∃ g, s.X = some ⟨g, 0, none⟩ ∧ m.tape.length ≤ s.xc ∧ w.cell? ⟨g, k, none⟩ = some (.int .i64 (nth m.tape k)) := by
  have e1 := iVals_get (K := .i64) hk
  rcases h.tape.2 with ⟨e, e0⟩ | ⟨g, cap, cur, e, hb, hg, hc, _, hs, ht⟩
  · omega
  · simp only [Value.slice.injEq] at e
    obtain ⟨e3, -, e4⟩ := e
    subst e4
    refine ⟨g, e3, hc, box_at hg ?_⟩
    rw [← ht, List.getElem?_take_of_lt (by omega)] at e1
    simpa using e1
set_option maxRecDepth 100000 in
set_option maxHeartbeats 4000000 in
theorem qin (h : QAt w base P s m) (hm : Fine m) {d a b n : Int} (hi : InsIn 13 d a b n) : Calls Tryz.prog 34 #[.pointer (some ⟨P, 0, none⟩), .agg #[.int .i8 13, .int .i8 d, .int .i8 a, .int .i8 b, .int .i64 n]] w (DoQP w base P s m (inD m d)) := by
  obtain ⟨k, hk0⟩ := Int.eq_ofNat_of_zero_le hi.d0
  obtain ⟨j, hj0⟩ := Int.eq_ofNat_of_zero_le hi.a0
  obtain ⟨i, hi0⟩ := Int.eq_ofNat_of_zero_le hi.b0
  have hk : k < 16 := by have := hi.d1; omega
  have hj : j < 16 := by have := hi.a1; omega
  have hi2 : i < 16 := by have := hi.b1; omega
  subst hk0 hj0 hi0
  have zk : (0 : Int) ≤ (k : Int) := Int.natCast_nonneg _
  have yk : (k : Int) < 16 := by omega
  have zj : (0 : Int) ≤ (j : Int) := Int.natCast_nonneg _
  have yj : (j : Int) < 16 := by omega
  have zi : (0 : Int) ≤ (i : Int) := Int.natCast_nonneg _
  have yi : (i : Int) < 16 := by omega
  obtain ⟨W0, HW⟩ : ∃ W0, Hid (w.alloc (.cells #[.int .i8 13, .int .i8 k, .int .i8 j, .int .i8 i, .int .i64 n] 82) = W0) := ⟨_, rfl⟩
  have x0 : W0.cell? ⟨w.heap.size, 0, none⟩ = some (.int .i8 13) := by rw [← HW.out]; simp [go_sem]
  have x1 : W0.cell? ⟨w.heap.size, 1, none⟩ = some (.int .i8 k) := by rw [← HW.out]; simp [go_sem]
  have x2 : W0.cell? ⟨w.heap.size, 2, none⟩ = some (.int .i8 j) := by rw [← HW.out]; simp [go_sem]
  have x3 : W0.cell? ⟨w.heap.size, 3, none⟩ = some (.int .i8 i) := by rw [← HW.out]; simp [go_sem]
  have x4 : W0.cell? ⟨w.heap.size, 4, none⟩ = some (.int .i64 n) := by rw [← HW.out]; simp [go_sem]
  have h0 : QAt W0 base P s m := by rw [← HW.out]; exact h.alloc _
  have HB0 : Hid (Below w.heap.size w W0) := by unfold Hid; rw [← HW.out]; exact lb_alloc (Below.refl _ _) _
  have hP := h.lt
  have hpc := hm.pc
  have hWW := Below.refl W0.heap.size W0
  have HZ0 : Hid (w.heap.size ≤ W0.heap.size) := HB0.out.size
  have p1 : W0.cell? ⟨P, 1, none⟩ = some (.int .i64 m.pc) := h0.cells.2.1
  have p6 : W0.cell? ⟨P, 6, none⟩ = some (.slice (some ⟨s.R, 0, none⟩) 16 16) := h0.cells.2.2.2.2.2.2.1
  obtain ⟨d0, d1, -, -⟩ := h0.reg hm.sixteen hj
  obtain ⟨b0, b1, -, -⟩ := h0.reg hm.sixteen hi2
  go_enter Tryz.func34, Tryz.ntmps34
  go_upto_region 1 with fail
  rw [HW.out]
  clear HW
  go_upto_region 2 with fail
  go_cut [7] (fun x wx => ∃ ga, x = .pointer (some ⟨ga, 0, none⟩) ∧ wx.cell? ⟨ga, 0, none⟩ = some (.int .i64 (wV m.regs j)) ∧ wx.cell? ⟨ga, 1, none⟩ = some (.bool (wC m.regs j)) ∧ Hid (w.heap.size ≤ ga) ∧ Hid (Below W0.heap.size W0 wx))
  case first =>
    go_region_held3 (fun Z => Below W0.heap.size W0 Z ∧ Z.cell? ⟨w.heap.size, 2, none⟩ = some (.int .i8 j) ∧ Z.cell? ⟨P, 6, none⟩ = some (.slice (some ⟨s.R, 0, none⟩) 16 16) ∧ Z.cell? ⟨s.R, j * 2, none⟩ = some (.int .i64 (wV m.regs j)) ∧ Z.cell? ⟨s.R, j * 2 + 1, none⟩ = some (.bool (wC m.regs j)))
      (first | (refine ⟨?_, lkeep ?_ x2, lkeep ?_ p6, lkeep ?_ d0, lkeep ?_ d1⟩ <;> ((repeat (first | assumption | exact (‹Below _ _ _ ∧ _›).1 | apply Below.drew | apply lb_alloc | apply lb_newq | refine lb_trans ?_ hb)); done)))
      (fail)

    all_goals (
      rename_i hS
      have sB : Hid _ := hS.1
      clear hS
      go_wp2_with fail
      go_meet
      exact ⟨_, rfl, by first | (simp [go_sem]; done) | (simp [go_sem, *]; done), by first | (simp [go_sem]; done) | (simp [go_sem, *]; done), HZ0.out, sB⟩)
  case rest =>
  obtain ⟨ga, rfl, ga0, ga1, HGA, HBa⟩ := hcut
  obtain ⟨W1, HW1⟩ : ∃ W1, Hid (wc = W1) := ⟨_, rfl⟩
  rw [HW1.out] at ga0 ga1 HBa
  rw [HW1.out]
  clear HW1
  have y1 := lkeep HBa.out x1
  have y0 := lkeep HBa.out x0
  have y2 := lkeep HBa.out x2
  have y3 := lkeep HBa.out x3
  have y4 := lkeep HBa.out x4
  have p6a := lkeep HBa.out p6
  have b0a := lkeep HBa.out b0
  have b1a := lkeep HBa.out b1
  have hWW1 := Below.refl W1.heap.size W1
  go_upto_region 3 with fail
  go_cut [8] (fun x wx => ∃ g, x = .pointer (some ⟨g, 0, none⟩) ∧ wx.cell? ⟨g, 0, none⟩ = some (.int .i64 (wV m.regs i)) ∧ wx.cell? ⟨g, 1, none⟩ = some (.bool (wC m.regs i)) ∧ Hid (Below W1.heap.size W1 wx))
  case first =>
    go_region_held3 (fun Z => Below W1.heap.size W1 Z ∧ Z.cell? ⟨w.heap.size, 3, none⟩ = some (.int .i8 i) ∧ Z.cell? ⟨P, 6, none⟩ = some (.slice (some ⟨s.R, 0, none⟩) 16 16) ∧ Z.cell? ⟨s.R, i * 2, none⟩ = some (.int .i64 (wV m.regs i)) ∧ Z.cell? ⟨s.R, i * 2 + 1, none⟩ = some (.bool (wC m.regs i)))
      (first | (refine ⟨?_, lkeep ?_ y3, lkeep ?_ p6a, lkeep ?_ b0a, lkeep ?_ b1a⟩ <;> ((repeat (first | assumption | exact (‹Below _ _ _ ∧ _›).1 | apply Below.drew | apply lb_alloc | apply lb_newq | refine lb_trans ?_ hb)); done)))
      (fail)

    all_goals (
      rename_i hS
      have sB : Hid _ := hS.1
      clear hS
      go_wp2_with fail
      go_meet
      exact ⟨_, rfl, by first | (simp [go_sem]; done) | (simp [go_sem, *]; done), by first | (simp [go_sem]; done) | (simp [go_sem, *]; done), sB⟩)
  case rest =>
  obtain ⟨gb, rfl, gb0, gb1, HBb⟩ := hcut
  obtain ⟨W, HW2⟩ : ∃ W, Hid (wc = W) := ⟨_, rfl⟩
  rw [HW2.out] at gb0 gb1 HBb
  rw [HW2.out]
  have HB : Hid (Below w.heap.size w W) := lb_trans HB0.out (lb_trans HBa.out HBb.out)
  have hq : QAt W base P s m := (h0.keep HBa.out).keep HBb.out
  have ga0 := lkeep HBb.out ga0
  have ga1 := lkeep HBb.out ga1
  have x0 := lkeep HBb.out y0
  have x1 := lkeep HBb.out y1
  have x2 := lkeep HBb.out y2
  have x3 := lkeep HBb.out y3
  have x4 := lkeep HBb.out y4
  have c6 := lkeep HBb.out p6a
  have hPW := hq.lt
  have hXW : w.heap.size < W.heap.size := World.block_lt_of_cell? W _ x0
  have hgaW : ga < W.heap.size := World.block_lt_of_cell? W _ ga0
  have hgbW : gb < W.heap.size := World.block_lt_of_cell? W _ gb0
  have hRW : s.R < W.heap.size := (hq.foot (.inr (.inr (.inr (.inl rfl))))).2
  have hgaR : ga ≠ s.R := fun e => by have := (h.foot (b := s.R) (.inr (.inr (.inr (.inl rfl))))).2; have := HGA.out; omega
  have nXR : w.heap.size ≠ s.R := fun e => by have := (h.foot (b := s.R) (.inr (.inr (.inr (.inl rfl))))).2; omega
  clear HW2 h0 HB0 HBa HBb hWW hWW1 p1 p6 p6a d0 d1 b0 b1 b0a b1a y0 y1 y2 y3 y4 h
  have hlX := hm.tape
  have htk := hm.taken
  have c4 : W.cell? ⟨P, 4, none⟩ = some (.int .i64 m.taken) := hq.cells.2.2.2.2.1
  have c5 : W.cell? ⟨P, 5, none⟩ = some (.slice s.X m.tape.length s.xc) := hq.cells.2.2.2.2.2.1
  by_cases he : m.taken = m.tape.length
  · have e0 : inD m k = putD m k (0, false) := by unfold inD; rw [if_pos he]
    rw [he] at c4
    have HE : Hid _ := e0
    have nlt : ¬ (m.tape.length : Int) < (m.tape.length : Int) := by omega
    clear e0 he htk
    obtain ⟨e0, e1, f0, f1⟩ := hq.reg hm.sixteen hk
    go_upto_region 22 with fail
    go_quiet (fail)
    go_wp2_with fail
    go_region
    all_goals (
      go_wp2
      go_ret2
      rw [HE.out]
      exact q_yes rfl (fun _ => rfl) (((hq.alloc _).drewN _).put hm.sixteen k (0, false)) (((((Upto.of HB.out).alloc _).drewN _).set (Or.inl (Or.inr (Or.inr (Or.inr (Or.inl rfl))))) _ _).set (Or.inl (Or.inr (Or.inr (Or.inr (Or.inl rfl))))) _ _))
  · have hlt : m.taken < m.tape.length := by omega
    have e0 : inD m k = ⟨0, putM (takeM m) k (nth m.tape m.taken, false), m.pc + 1⟩ := by unfold inD; rw [if_neg he]
    have HE : Hid _ := e0
    have ylt : (m.taken : Int) < (m.tape.length : Int) := by omega
    clear e0 he
    obtain ⟨g, hX, hcap, t0⟩ := hq.num hlt
    rw [hX] at c5
    have zt : (0 : Int) ≤ (m.taken : Int) := Int.natCast_nonneg _
    have hgW : g < W.heap.size := World.block_lt_of_cell? W _ t0
    have f4 := hq.fro 4
    have hm2 : Fine (takeM m) := ⟨hm.sixteen, hm.regs, hm.mem, hm.words, hm.text, hm.some, hm.tape, hm.mlen, hm.pc, hlt, hm.ports⟩
    have nWF : ¬ QFoot s P W.heap.size := fun hf => Nat.lt_irrefl _ (hq.foot hf).2
    have HsW : Hid (w.heap.size ≤ W.heap.size) := Nat.le_of_lt hXW
    clear hX
    go_upto_region 22 with fail
    go_quiet (fail)
    go_wp2_with fail
    go_region
    all_goals (
      go_upto_region 25 with fail
      obtain ⟨W3, HW3⟩ : ∃ W3, Hid (((((W.alloc (.cells #[.int .i64 0, .bool false] 71)).drewN (nq + 1)).setCell ⟨W.heap.size, 0, none⟩ (.int .i64 (nth m.tape m.taken))).setCell ⟨P, 4, none⟩ (.int .i64 ((m.taken : Int) + 1))) = W3) := ⟨_, rfl⟩
      have h3 : QAt W3 base P s (takeM m) := by rw [← HW3.out]; exact (((hq.alloc _).drewN _).off nWF 0 _).taken (m.taken + 1)
      have HU3 : Hid (Upto (QFoot s P) w W3) := by unfold Hid; rw [← HW3.out]; exact ((((Upto.of HB.out).alloc _).drewN _).set (Or.inr HsW.out) _ _).set (Or.inl (Or.inl rfl)) _ _
      have u0 : W3.cell? ⟨W.heap.size, 0, none⟩ = some (.int .i64 (nth m.tape m.taken)) := by rw [← HW3.out]; simp [go_sem, *]
      have u1 : W3.cell? ⟨W.heap.size, 1, none⟩ = some (.bool false) := by rw [← HW3.out]; simp [go_sem, *]
      have v1 : W3.cell? ⟨w.heap.size, 1, none⟩ = some (.int .i8 k) := by rw [← HW3.out]; simp [go_sem, *]
      have v6 : W3.cell? ⟨P, 6, none⟩ = some (.slice (some ⟨s.R, 0, none⟩) 16 16) := h3.cells.2.2.2.2.2.2.1
      obtain ⟨e0, e1, f0, f1⟩ := h3.reg hm.sixteen hk
      have HQ : Hid _ := h3.put hm.sixteen k (nth m.tape m.taken, false)
      rw [HW3.out]
      clear HW3 ga0 ga1 gb0 gb1 x0 x1 x2 x3 x4 c6 c4 c5 t0 f4 hq
      go_region
      all_goals (
        go_wp2
        go_ret2
        rw [HE.out]
        exact q_yes rfl (fun _ => rfl) HQ.out.drew ((HU3.out.set (Or.inl (Or.inr (Or.inr (Or.inr (Or.inl rfl))))) _ _).set (Or.inl (Or.inr (Or.inr (Or.inr (Or.inl rfl))))) _ _).drew))
end

end Go.Proofs.YtdlcejpfjlpclaaGreatDoor

namespace Go.Proofs.YtdlcejpfjlpclaaGreatDoor
open Go.RowKit

section
variable {w : World} {base P : Nat} {s : QLoc} {m : Mach}
theorem qinfoPort : ∃ i, Tryz.prog.info? 100 = some i ∧ i.zero = some (.agg #[.int .i64 0, .int .i64 0]) ∧ i.size = 2 ∧ i.bytes = 16 :=
  ⟨(Tryz.prog.info? 100).get (by kernel_rfl), by kernel_rfl, by kernel_rfl, by kernel_rfl, by kernel_rfl⟩
theorem qout_up {w w' : World} {v : Value} {g H : Nat} (hg : w.grownBy w' s.V.ownBlock) (hv : v.ownBlock = some g) (hl : s.V.ownBlock = some g ∨ g = H) (hH : w.heap.size = H) : Upto (QFoot s P) w (w'.setCell ⟨P, 8, none⟩ v) ∧ ∀ b, QFoot (s.at v) P b → QFoot s P b ∨ w.heap.size ≤ b := by
  refine ⟨?_, ?_⟩
  · refine Upto.set (a := w) (b := w') ⟨hg.os, hg.tape, hg.output, hg.size, fun b hb hn => hg.block b hb fun e => hn (.inr (.inr (.inr (.inr (.inr e.symm)))))⟩ (Or.inl (Or.inl rfl)) _ _
  · intro b hb
    rcases hb with e | e | e | e | e | e
    · exact .inl (.inl e)
    · exact .inl (.inr (.inl e))
    · exact .inl (.inr (.inr (.inl e)))
    · exact .inl (.inr (.inr (.inr (.inl e))))
    · exact .inl (.inr (.inr (.inr (.inr (.inl e)))))
    · have e : v.ownBlock = some b := e
      rw [hv] at e
      cases e
      rcases hl with e | e
      · exact .inl (.inr (.inr (.inr (.inr (.inr e)))))
      · exact .inr (by omega)
set_option maxRecDepth 100000 in
set_option maxHeartbeats 4000000 in
theorem qout (h : QAt w base P s m) (hm : Fine m) {d a b n : Int} (hi : InsIn 14 d a b n) (hst : m.steps < 1048576) : Calls Tryz.prog 34 #[.pointer (some ⟨P, 0, none⟩), .agg #[.int .i8 14, .int .i8 d, .int .i8 a, .int .i8 b, .int .i64 n]] w (DoQP w base P s m (outD m a n)) := by
  obtain ⟨k, hk0⟩ := Int.eq_ofNat_of_zero_le hi.d0
  obtain ⟨j, hj0⟩ := Int.eq_ofNat_of_zero_le hi.a0
  obtain ⟨i, hi0⟩ := Int.eq_ofNat_of_zero_le hi.b0
  have hk : k < 16 := by have := hi.d1; omega
  have hj : j < 16 := by have := hi.a1; omega
  have hi2 : i < 16 := by have := hi.b1; omega
  subst hk0 hj0 hi0
  have zk : (0 : Int) ≤ (k : Int) := Int.natCast_nonneg _
  have yk : (k : Int) < 16 := by omega
  have zj : (0 : Int) ≤ (j : Int) := Int.natCast_nonneg _
  have yj : (j : Int) < 16 := by omega
  have zi : (0 : Int) ≤ (i : Int) := Int.natCast_nonneg _
  have yi : (i : Int) < 16 := by omega
  obtain ⟨W0, HW⟩ : ∃ W0, Hid (w.alloc (.cells #[.int .i8 14, .int .i8 k, .int .i8 j, .int .i8 i, .int .i64 n] 82) = W0) := ⟨_, rfl⟩
  have x0 : W0.cell? ⟨w.heap.size, 0, none⟩ = some (.int .i8 14) := by rw [← HW.out]; simp [go_sem]
  have x1 : W0.cell? ⟨w.heap.size, 1, none⟩ = some (.int .i8 k) := by rw [← HW.out]; simp [go_sem]
  have x2 : W0.cell? ⟨w.heap.size, 2, none⟩ = some (.int .i8 j) := by rw [← HW.out]; simp [go_sem]
  have x3 : W0.cell? ⟨w.heap.size, 3, none⟩ = some (.int .i8 i) := by rw [← HW.out]; simp [go_sem]
  have x4 : W0.cell? ⟨w.heap.size, 4, none⟩ = some (.int .i64 n) := by rw [← HW.out]; simp [go_sem]
  have h0 : QAt W0 base P s m := by rw [← HW.out]; exact h.alloc _
  have HB0 : Hid (Below w.heap.size w W0) := by unfold Hid; rw [← HW.out]; exact lb_alloc (Below.refl _ _) _
  have hP := h.lt
  have hpc := hm.pc
  have hWW := Below.refl W0.heap.size W0
  have HZ0 : Hid (w.heap.size ≤ W0.heap.size) := HB0.out.size
  have p1 : W0.cell? ⟨P, 1, none⟩ = some (.int .i64 m.pc) := h0.cells.2.1
  have p6 : W0.cell? ⟨P, 6, none⟩ = some (.slice (some ⟨s.R, 0, none⟩) 16 16) := h0.cells.2.2.2.2.2.2.1
  obtain ⟨d0, d1, -, -⟩ := h0.reg hm.sixteen hj
  obtain ⟨b0, b1, -, -⟩ := h0.reg hm.sixteen hi2
  go_enter Tryz.func34, Tryz.ntmps34
  go_upto_region 1 with fail
  rw [HW.out]
  clear HW
  go_upto_region 2 with fail
  go_cut [7] (fun x wx => ∃ ga, x = .pointer (some ⟨ga, 0, none⟩) ∧ wx.cell? ⟨ga, 0, none⟩ = some (.int .i64 (wV m.regs j)) ∧ wx.cell? ⟨ga, 1, none⟩ = some (.bool (wC m.regs j)) ∧ Hid (w.heap.size ≤ ga) ∧ Hid (Below W0.heap.size W0 wx))
  case first =>
    go_region_held3 (fun Z => Below W0.heap.size W0 Z ∧ Z.cell? ⟨w.heap.size, 2, none⟩ = some (.int .i8 j) ∧ Z.cell? ⟨P, 6, none⟩ = some (.slice (some ⟨s.R, 0, none⟩) 16 16) ∧ Z.cell? ⟨s.R, j * 2, none⟩ = some (.int .i64 (wV m.regs j)) ∧ Z.cell? ⟨s.R, j * 2 + 1, none⟩ = some (.bool (wC m.regs j)))
      (first | (refine ⟨?_, lkeep ?_ x2, lkeep ?_ p6, lkeep ?_ d0, lkeep ?_ d1⟩ <;> ((repeat (first | assumption | exact (‹Below _ _ _ ∧ _›).1 | apply Below.drew | apply lb_alloc | apply lb_newq | refine lb_trans ?_ hb)); done)))
      (fail)

    all_goals (
      rename_i hS
      have sB : Hid _ := hS.1
      clear hS
      go_wp2_with fail
      go_meet
      exact ⟨_, rfl, by first | (simp [go_sem]; done) | (simp [go_sem, *]; done), by first | (simp [go_sem]; done) | (simp [go_sem, *]; done), HZ0.out, sB⟩)
  case rest =>
  obtain ⟨ga, rfl, ga0, ga1, HGA, HBa⟩ := hcut
  obtain ⟨W1, HW1⟩ : ∃ W1, Hid (wc = W1) := ⟨_, rfl⟩
  rw [HW1.out] at ga0 ga1 HBa
  rw [HW1.out]
  clear HW1
  have y1 := lkeep HBa.out x1
  have y0 := lkeep HBa.out x0
  have y2 := lkeep HBa.out x2
  have y3 := lkeep HBa.out x3
  have y4 := lkeep HBa.out x4
  have p6a := lkeep HBa.out p6
  have b0a := lkeep HBa.out b0
  have b1a := lkeep HBa.out b1
  have hWW1 := Below.refl W1.heap.size W1
  go_upto_region 3 with fail
  go_cut [8] (fun x wx => ∃ g, x = .pointer (some ⟨g, 0, none⟩) ∧ wx.cell? ⟨g, 0, none⟩ = some (.int .i64 (wV m.regs i)) ∧ wx.cell? ⟨g, 1, none⟩ = some (.bool (wC m.regs i)) ∧ Hid (Below W1.heap.size W1 wx))
  case first =>
    go_region_held3 (fun Z => Below W1.heap.size W1 Z ∧ Z.cell? ⟨w.heap.size, 3, none⟩ = some (.int .i8 i) ∧ Z.cell? ⟨P, 6, none⟩ = some (.slice (some ⟨s.R, 0, none⟩) 16 16) ∧ Z.cell? ⟨s.R, i * 2, none⟩ = some (.int .i64 (wV m.regs i)) ∧ Z.cell? ⟨s.R, i * 2 + 1, none⟩ = some (.bool (wC m.regs i)))
      (first | (refine ⟨?_, lkeep ?_ y3, lkeep ?_ p6a, lkeep ?_ b0a, lkeep ?_ b1a⟩ <;> ((repeat (first | assumption | exact (‹Below _ _ _ ∧ _›).1 | apply Below.drew | apply lb_alloc | apply lb_newq | refine lb_trans ?_ hb)); done)))
      (fail)

    all_goals (
      rename_i hS
      have sB : Hid _ := hS.1
      clear hS
      go_wp2_with fail
      go_meet
      exact ⟨_, rfl, by first | (simp [go_sem]; done) | (simp [go_sem, *]; done), by first | (simp [go_sem]; done) | (simp [go_sem, *]; done), sB⟩)
  case rest =>
  obtain ⟨gb, rfl, gb0, gb1, HBb⟩ := hcut
  obtain ⟨W, HW2⟩ : ∃ W, Hid (wc = W) := ⟨_, rfl⟩
  rw [HW2.out] at gb0 gb1 HBb
  rw [HW2.out]
  have HB : Hid (Below w.heap.size w W) := lb_trans HB0.out (lb_trans HBa.out HBb.out)
  have hq : QAt W base P s m := (h0.keep HBa.out).keep HBb.out
  have ga0 := lkeep HBb.out ga0
  have ga1 := lkeep HBb.out ga1
  have x0 := lkeep HBb.out y0
  have x1 := lkeep HBb.out y1
  have x2 := lkeep HBb.out y2
  have x3 := lkeep HBb.out y3
  have x4 := lkeep HBb.out y4
  have c6 := lkeep HBb.out p6a
  have hPW := hq.lt
  have hXW : w.heap.size < W.heap.size := World.block_lt_of_cell? W _ x0
  have hgaW : ga < W.heap.size := World.block_lt_of_cell? W _ ga0
  have hgbW : gb < W.heap.size := World.block_lt_of_cell? W _ gb0
  have hRW : s.R < W.heap.size := (hq.foot (.inr (.inr (.inr (.inl rfl))))).2
  have hgaR : ga ≠ s.R := fun e => by have := (h.foot (b := s.R) (.inr (.inr (.inr (.inl rfl))))).2; have := HGA.out; omega
  have nXR : w.heap.size ≠ s.R := fun e => by have := (h.foot (b := s.R) (.inr (.inr (.inr (.inl rfl))))).2; omega
  clear HW2 h0 HB0 HBa HBb hWW hWW1 p1 p6 p6a d0 d1 b0 b1 b0a b1a y0 y1 y2 y3 y4 h
  by_cases hc : wC m.regs j = true
  · have e0 : outD m j n = noD m 4 := by unfold outD; rw [if_pos (show rC m j = true from hc)]
    rw [hc] at ga1
    have HE : Hid _ := e0
    clear e0 hc
    go_wp2
    go_ret2
    rw [HE.out]
    exact q_no (by decide) HB.out
  · have hc : wC m.regs j = false := by simpa using hc
    have e0 : outD m j n = ⟨0, outM m n (wV m.regs j), m.pc + 1⟩ := by unfold outD; rw [if_neg (by show ¬ wC m.regs j = true; rw [hc]; decide)]; rfl
    rw [hc] at ga1
    have HE : Hid _ := e0
    clear e0 hc
    obtain ⟨ip, hp0, hp1, hp2, hp3⟩ := qinfoPort
    have hpl := hm.ports
    have hbase : base ≤ W.heap.size := Nat.le_of_lt (Nat.lt_of_le_of_lt hq.bP hq.lt)
    have c8 : W.cell? ⟨P, 8, none⟩ = some s.V := hq.cells.2.2.2.2.2.2.2.2
    have HT3 : Hid (QAt (W.alloc (.cells #[.int .i64 n, .int .i64 (wV m.regs j)] 100)).drew base P s m) := (hq.alloc _).drew
    have HO2 : Hid ((W.alloc (.cells #[.int .i64 n, .int .i64 (wV m.regs j)] 100)).drew.ownsRow base 100 2 s.V m.ports.length (pVals m.ports)) := HT3.out.ports
    have HNw : Hid ((W.alloc (.cells #[.int .i64 n, .int .i64 (wV m.regs j)] 100)).drew.heap[W.heap.size]? = some (.cells #[.int .i64 n, .int .i64 (wV m.regs j)] 100 (0, 0))) := heap_alloc_new _ _
    have cE : (W.alloc (.cells #[.int .i64 n, .int .i64 (wV m.regs j)] 100)).drew.cell? ⟨P, 8, none⟩ = some s.V := HT3.out.cells.2.2.2.2.2.2.2.2
    generalize wV m.regs j = V at *
    clear x1 x2 x3 gb0 gb1
    go_upto_region 29 with fail
    go_region_law
      (first
        | (revert HO2; intro HO2; refine step_append_lies _ rfl (.tmp 136) (.tmp 142) 68 rfl base 100 ip (.agg #[.int .i64 0, .int .i64 0]) 2 16 Tryz.underlying68 hp0 hp1 hp2 hp3 rfl (by decide) s.V m.ports.length (pVals m.ports) rfl HO2.out ⟨W.heap.size, 0, none⟩ 1 1 [.int .i64 n, .int .i64 V] rfl rfl (fun j u hu => World.news_of_block HNw.out j u hu) (by simp [Value.oneCell']) (by omega) (by unfold maxLen; omega) (by omega) (by simp; omega) (W.heap.size + 1) (by simp) ?_; intro g3 cap3 we hown hgrow hlie hlt3; have HG3 : Hid _ := hgrow; have HO3 : Hid _ := hown; have HL3 : Hid _ := hlie; have yD : we.cell? ⟨P, 8, none⟩ = some s.V := (World.grownBy.cell hgrow (a := ⟨P, 8, none⟩) cE (fun e => own_ne HO2.out e.symm (QAt.box HT3.out) (by decide) rfl)); have fD : we.frozen? ⟨P, 8, none⟩ = false := box_fro ((hgrow.block P (QAt.lt HT3.out) (fun e => own_ne HO2.out e.symm (QAt.box HT3.out) (by decide) rfl)).trans (QAt.box HT3.out)) 8; clear hown hgrow hlie))
    all_goals (
      have HG4 : Hid ((W.alloc (.cells #[.int .i64 n, .int .i64 V] 100)).drew.grownBy we s.V.ownBlock) := ⟨HG3.out.os, HG3.out.tape, HG3.out.output, HG3.out.size, HG3.out.block⟩
      have h8 : Hid _ := QAt.out HT3.out HG4.out HO3.out
      have HU : Hid _ := qout_up (P := P) HG4.out (v := .slice (some ⟨g3, 0, none⟩) (m.ports.length + 1) cap3) rfl HL3.out (by simp)
      have HB9 : Hid (Below w.heap.size w (W.alloc (.cells #[.int .i64 n, .int .i64 V] 100)).drew) := Below.drew (lb_alloc HB.out _)
      clear HG3 HG4 HO3 HL3 HT3 HO2 HNw cE yD fD
      go_wp2
      go_ret2
      rw [HE.out]
      exact .inr ⟨rfl, _, _, rfl, fun _ => rfl, h8.out, up_on HB9.out HU.out.1, fun b hb => (HU.out.2 b hb).imp id fun hb => Nat.le_trans HB9.out.size hb⟩)
end

end Go.Proofs.YtdlcejpfjlpclaaGreatDoor

namespace Go.Proofs.YtdlcejpfjlpclaaGreatDoor
open Go.RowKit

section
variable {w : World} {base P : Nat} {s : QLoc} {m : Mach}
theorem qcases22 {op : Int} (h0 : 0 ≤ op) (h1 : op ≤ 21) : op = 0 ∨ op = 1 ∨ op = 2 ∨ op = 3 ∨ op = 4 ∨ op = 5 ∨ op = 6 ∨ op = 7 ∨ op = 8 ∨ op = 9 ∨ op = 10 ∨ op = 11 ∨ op = 12 ∨ op = 13 ∨ op = 14 ∨ op = 15 ∨ op = 16 ∨ op = 17 ∨ op = 18 ∨ op = 19 ∨ op = 20 ∨ op = 21 := by omega
theorem qdeed (h : QAt w base P s m) (hm : Fine m) (hst : m.steps < 1048576) (hs : m.status = 0) {op d a b n : Int} (hi : InsIn op d a b n) : Calls Tryz.prog 34 #[.pointer (some ⟨P, 0, none⟩), .agg #[.int .i8 op, .int .i8 d, .int .i8 a, .int .i8 b, .int .i64 n]] w (DoQP w base P s m (deedM m op d a b n)) := by
  have h1 := hi.o1
  have h2 := hi.o0
  by_cases h0 : op < 0
  · have e0 : op = -1 := by omega
    subst e0
    exact qneg h hm hi
  rcases qcases22 (by omega) h1 with e | e | e | e | e | e | e | e | e | e | e | e | e | e | e | e | e | e | e | e | e | e
  · subst e
    exact qtrap h hm hi
  · subst e
    exact qset h hm hi
  · subst e
    exact qmove h hm hi
  · subst e
    exact qcalc h hm hi (by decide) (by decide)
  · subst e
    exact qcalc h hm hi (by decide) (by decide)
  · subst e
    exact qcalc h hm hi (by decide) (by decide)
  · subst e
    exact qcalc h hm hi (by decide) (by decide)
  · subst e
    exact qcalc h hm hi (by decide) (by decide)
  · subst e
    exact qcalc h hm hi (by decide) (by decide)
  · subst e
    exact qcalc h hm hi (by decide) (by decide)
  · subst e
    exact qcalc h hm hi (by decide) (by decide)
  · subst e
    exact qload h hm hi
  · subst e
    exact qstore h hm hi
  · subst e
    exact qin h hm hi
  · subst e
    exact qout h hm hi hst
  · subst e
    exact qjump h hm hi
  · subst e
    exact qzero h hm hi
  · subst e
    exact qcall h hm hi
  · subst e
    exact qcalls h hm hi
  · subst e
    exact qgoto h hm hi
  · subst e
    exact qplace h hm hi
  · subst e
    exact qhalt h hm hi hs
/-- Where an instruction ends the run the machine stays where it was. -/
theorem deed_stay {m : Mach} {op d a b n : Int} (hs : m.status = 0) (he : (deedM m op d a b n).err = 0) (h : ¬ (deedM m op d a b n).m.status = 0) : (deedM m op d a b n).to = (deedM m op d a b n).m.pc := by
  unfold deedM at he h ⊢
  by_cases c1 : op < 0
  · rw [if_pos c1] at he; cases he
  rw [if_neg c1] at he h ⊢
  by_cases c2 : op = 0
  · rw [if_pos c2] at he; cases he
  rw [if_neg c2] at he h ⊢
  by_cases c3 : op = 1
  · rw [if_pos c3] at h; exact absurd hs h
  rw [if_neg c3] at he h ⊢
  by_cases c4 : op = 2
  · rw [if_pos c4] at h; exact absurd hs h
  rw [if_neg c4] at he h ⊢
  by_cases c5 : op ≤ 10
  · rw [if_pos c5] at he h
    unfold calcD at he h
    by_cases k : cE m op a b = 0
    · rw [if_pos k] at h; exact absurd hs h
    · rw [if_neg k] at he; exact absurd he k
  rw [if_neg c5] at he h ⊢
  by_cases c6 : op = 11
  · rw [if_pos c6] at he h
    unfold loadD at he h
    by_cases k : aE m a n = 0
    · rw [if_pos k] at h; exact absurd hs h
    · rw [if_neg k] at he; exact absurd he k
  rw [if_neg c6] at he h ⊢
  by_cases c7 : op = 12
  · rw [if_pos c7] at he h
    unfold storeD at he h
    by_cases k : aE m a n = 0
    · rw [if_pos k] at h; exact absurd hs h
    · rw [if_neg k] at he; exact absurd he k
  rw [if_neg c7] at he h ⊢
  by_cases c8 : op = 13
  · rw [if_pos c8] at h
    unfold inD at h
    by_cases k : m.taken = m.tape.length
    · rw [if_pos k] at h; exact absurd hs h
    · rw [if_neg k] at h; exact absurd hs h
  rw [if_neg c8] at he h ⊢
  by_cases c9 : op = 14
  · rw [if_pos c9] at he h
    unfold outD at he h
    by_cases k : rC m a = true
    · rw [if_pos k] at he; cases he
    · rw [if_neg k] at h; exact absurd hs h
  rw [if_neg c9] at he h ⊢
  by_cases c10 : op = 15
  · rw [if_pos c10] at h; exact absurd hs h
  rw [if_neg c10] at he h ⊢
  by_cases c11 : op = 16
  · rw [if_pos c11] at he h
    unfold zeroD at he h
    by_cases k : rC m a = true
    · rw [if_pos k] at he; cases he
    · rw [if_neg k] at h
      by_cases k2 : rV m a = 0
      · rw [if_pos k2] at h; exact absurd hs h
      · rw [if_neg k2] at h; exact absurd hs h
  rw [if_neg c11] at he h ⊢
  by_cases c12 : op = 17
  · rw [if_pos c12] at h; exact absurd hs h
  rw [if_neg c12] at he h ⊢
  by_cases c13 : op = 18
  · rw [if_pos c13] at he h
    unfold callsD at he h
    by_cases k : rC m a = true
    · rw [if_pos k] at h; exact absurd hs h
    · rw [if_neg k] at he; cases he
  rw [if_neg c13] at he h ⊢
  by_cases c14 : op = 19
  · rw [if_pos c14] at he h
    unfold gotoD at he h
    by_cases k : rC m a = true
    · rw [if_pos k] at h; exact absurd hs h
    · rw [if_neg k] at he; cases he
  rw [if_neg c14] at he h ⊢
  by_cases c15 : op = 20
  · rw [if_pos c15] at h; exact absurd hs h
  rw [if_neg c15]
  rfl
end

end Go.Proofs.YtdlcejpfjlpclaaGreatDoor
