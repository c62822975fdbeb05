/-
  Calc of the document's answer returns what the two plain functions say, for every op and two words; no condition. The document's machine: calculations. The document's machine: load and store.
-/
import Derived.Test.YtdlcejpfjlpclaaGreatDoorProg
import Derived.Test.YtdlcejpfjlpclaaGreatDoorPr02
import Derived.Test.YtdlcejpfjlpclaaGreatDoorPr20
import Derived.Test.YtdlcejpfjlpclaaGreatDoorPr21
import Derived.WalkKit
import Derived.WalkSpells
import Derived.WalkLawsBesides
import Derived.RowKit3
import Derived.Below
import Derived.Deep.QuietTactic
import Derived.BigQuiet
import Derived.WalkSmall
import Derived.Laws.Rows
import Derived.Test.YtdlcejpfjlpclaaGreatDoorPr19
import Derived.Deep.DeepCutAuto
import Derived.Test.YtdlcejpfjlpclaaGreatDoorPr03
namespace Go.Proofs.YtdlcejpfjlpclaaGreatDoor
open Go.RowKit

theorem refcalc_any (op x y : Int) (p q : Bool) (w : World) : Calls Tryz.prog 66 #[.int .i8 op, .agg #[.int .i64 x, .bool p], .agg #[.int .i64 y, .bool q]] w fun e w' =>
    e = .returned (.tuple #[.agg #[.int .i64 (calcV op x y p q), .bool false], .int .i8 (calcE op p q)]) ∧ Below w.heap.size w w' := by
  by_cases h3 : op = 3
  · subst h3
    cases p
    · cases q
      · exact refcalc3ff x y w
      · exact refcalc3ft x y w
    · cases q
      · exact refcalc3t x y false w
      · exact refcalc3t x y true w
  by_cases h4 : op = 4
  · subst h4
    cases p
    · cases q
      · exact refcalc4ff x y w
      · exact refcalc4ft x y w
    · cases q
      · exact refcalc4t x y false w
      · exact refcalc4t x y true w
  by_cases h5 : op = 5
  · subst h5
    cases p
    · cases q
      · exact refcalc5ff x y w
      · exact refcalc5ft x y w
    · cases q
      · exact refcalc5t x y false w
      · exact refcalc5t x y true w
  by_cases h6 : op = 6
  · subst h6
    cases p
    · cases q
      · exact refcalc6ff x y w
      · exact refcalc6ft x y w
    · cases q
      · exact refcalc6t x y false w
      · exact refcalc6t x y true w
  by_cases h7 : op = 7
  · subst h7
    cases p
    · cases q
      · exact refcalc7ff x y w
      · exact refcalc7ft x y w
    · cases q
      · exact refcalc7t x y false w
      · exact refcalc7t x y true w
  by_cases h8 : op = 8
  · subst h8
    cases p
    · cases q
      · exact refcalc8ff x y w
      · exact refcalc8ft x y w
    · cases q
      · exact refcalc8t x y false w
      · exact refcalc8t x y true w
  by_cases h9 : op = 9
  · subst h9
    cases p
    · cases q
      · exact refcalc9ff x y w
      · exact refcalc9ft x y w
    · cases q
      · exact refcalc9t x y false w
      · exact refcalc9t x y true w
  by_cases h10 : op = 10
  · subst h10
    cases p <;> cases q
    · exact refcalc10ff x y w
    · exact refcalc10ft x y w
    · exact refcalc10tf x y w
    · exact refcalc10tt x y w
  have e0 : calcE op p q = 3 := by unfold calcE; rw [if_pos (by omega)]
  have e1 : calcV op x y p q = 0 := by unfold calcV; rw [e0]; rfl
  rw [e0, e1]
  by_cases hl : op < 3
  · exact refcalclo op x y p q w hl
  · exact refcalchi op x y p q w hl (by omega)


end Go.Proofs.YtdlcejpfjlpclaaGreatDoor

namespace Go.Proofs.YtdlcejpfjlpclaaGreatDoor
open Go.RowKit

section
variable {w : World} {base P : Nat} {s : QLoc} {m : Mach}
set_option maxRecDepth 100000 in
set_option maxHeartbeats 4000000 in
theorem qcalc (h : QAt w base P s m) (hm : Fine m) {d a b n : Int} {op : Int} (hi : InsIn op d a b n) (h3 : 3 ≤ op) (h10 : op ≤ 10) : Calls Tryz.prog 34 #[.pointer (some ⟨P, 0, none⟩), .agg #[.int .i8 op, .int .i8 d, .int .i8 a, .int .i8 b, .int .i64 n]] w (DoQP w base P s m (calcD m op d a b)) := by
  have t0 : (op == -1) = false := by simp; omega
  have t1 : (op == 0) = false := by simp; omega
  have t2 : (op == 1) = false := by simp; omega
  have t3 : (op == 2) = false := by simp; omega
  have t4 : (op == 11) = false := by simp; omega
  have t5 : (op == 12) = false := by simp; omega
  have t6 : (op == 13) = false := by simp; omega
  have t7 : (op == 14) = false := by simp; omega
  have t8 : (op == 15) = false := by simp; omega
  have t9 : (op == 16) = false := by simp; omega
  have t10 : (op == 17) = false := by simp; omega
  have t11 : (op == 18) = false := by simp; omega
  have t12 : (op == 19) = false := by simp; omega
  have t13 : (op == 20) = false := by simp; omega
  have t14 : (op == 21) = false := by simp; omega
  obtain ⟨k, hk0⟩ := Int.eq_ofNat_of_zero_le hi.d0
  obtain ⟨j, hj0⟩ := Int.eq_ofNat_of_zero_le hi.a0
  obtain ⟨i, hi0⟩ := Int.eq_ofNat_of_zero_le hi.b0
  have hk : k < 16 := by have := hi.d1; omega
  have hj : j < 16 := by have := hi.a1; omega
  have hi2 : i < 16 := by have := hi.b1; omega
  subst hk0 hj0 hi0
  have zk : (0 : Int) ≤ (k : Int) := Int.natCast_nonneg _
  have yk : (k : Int) < 16 := by omega
  have zj : (0 : Int) ≤ (j : Int) := Int.natCast_nonneg _
  have yj : (j : Int) < 16 := by omega
  have zi : (0 : Int) ≤ (i : Int) := Int.natCast_nonneg _
  have yi : (i : Int) < 16 := by omega
  obtain ⟨W0, HW⟩ : ∃ W0, Hid (w.alloc (.cells #[.int .i8 op, .int .i8 k, .int .i8 j, .int .i8 i, .int .i64 n] 82) = W0) := ⟨_, rfl⟩
  have x0 : W0.cell? ⟨w.heap.size, 0, none⟩ = some (.int .i8 op) := by rw [← HW.out]; simp [go_sem]
  have x1 : W0.cell? ⟨w.heap.size, 1, none⟩ = some (.int .i8 k) := by rw [← HW.out]; simp [go_sem]
  have x2 : W0.cell? ⟨w.heap.size, 2, none⟩ = some (.int .i8 j) := by rw [← HW.out]; simp [go_sem]
  have x3 : W0.cell? ⟨w.heap.size, 3, none⟩ = some (.int .i8 i) := by rw [← HW.out]; simp [go_sem]
  have x4 : W0.cell? ⟨w.heap.size, 4, none⟩ = some (.int .i64 n) := by rw [← HW.out]; simp [go_sem]
  have h0 : QAt W0 base P s m := by rw [← HW.out]; exact h.alloc _
  have HB0 : Hid (Below w.heap.size w W0) := by unfold Hid; rw [← HW.out]; exact lb_alloc (Below.refl _ _) _
  have hP := h.lt
  have hpc := hm.pc
  have hWW := Below.refl W0.heap.size W0
  have HZ0 : Hid (w.heap.size ≤ W0.heap.size) := HB0.out.size
  have p1 : W0.cell? ⟨P, 1, none⟩ = some (.int .i64 m.pc) := h0.cells.2.1
  have p6 : W0.cell? ⟨P, 6, none⟩ = some (.slice (some ⟨s.R, 0, none⟩) 16 16) := h0.cells.2.2.2.2.2.2.1
  obtain ⟨d0, d1, -, -⟩ := h0.reg hm.sixteen hj
  obtain ⟨b0, b1, -, -⟩ := h0.reg hm.sixteen hi2
  go_enter Tryz.func34, Tryz.ntmps34
  go_upto_region 1 with fail
  rw [HW.out]
  clear HW
  go_upto_region 2 with fail
  go_cut [7] (fun x wx => ∃ ga, x = .pointer (some ⟨ga, 0, none⟩) ∧ wx.cell? ⟨ga, 0, none⟩ = some (.int .i64 (wV m.regs j)) ∧ wx.cell? ⟨ga, 1, none⟩ = some (.bool (wC m.regs j)) ∧ Hid (w.heap.size ≤ ga) ∧ Hid (Below W0.heap.size W0 wx))
  case first =>
    go_region_held3 (fun Z => Below W0.heap.size W0 Z ∧ Z.cell? ⟨w.heap.size, 2, none⟩ = some (.int .i8 j) ∧ Z.cell? ⟨P, 6, none⟩ = some (.slice (some ⟨s.R, 0, none⟩) 16 16) ∧ Z.cell? ⟨s.R, j * 2, none⟩ = some (.int .i64 (wV m.regs j)) ∧ Z.cell? ⟨s.R, j * 2 + 1, none⟩ = some (.bool (wC m.regs j)))
      (first | (refine ⟨?_, lkeep ?_ x2, lkeep ?_ p6, lkeep ?_ d0, lkeep ?_ d1⟩ <;> ((repeat (first | assumption | exact (‹Below _ _ _ ∧ _›).1 | apply Below.drew | apply lb_alloc | apply lb_newq | refine lb_trans ?_ hb)); done)))
      (fail)

    all_goals (
      rename_i hS
      have sB : Hid _ := hS.1
      clear hS
      go_wp2_with fail
      go_meet
      exact ⟨_, rfl, by first | (simp [go_sem]; done) | (simp [go_sem, *]; done), by first | (simp [go_sem]; done) | (simp [go_sem, *]; done), HZ0.out, sB⟩)
  case rest =>
  obtain ⟨ga, rfl, ga0, ga1, HGA, HBa⟩ := hcut
  obtain ⟨W1, HW1⟩ : ∃ W1, Hid (wc = W1) := ⟨_, rfl⟩
  rw [HW1.out] at ga0 ga1 HBa
  rw [HW1.out]
  clear HW1
  have y1 := lkeep HBa.out x1
  have y0 := lkeep HBa.out x0
  have y2 := lkeep HBa.out x2
  have y3 := lkeep HBa.out x3
  have y4 := lkeep HBa.out x4
  have p6a := lkeep HBa.out p6
  have b0a := lkeep HBa.out b0
  have b1a := lkeep HBa.out b1
  have hWW1 := Below.refl W1.heap.size W1
  go_upto_region 3 with fail
  go_cut [8] (fun x wx => ∃ g, x = .pointer (some ⟨g, 0, none⟩) ∧ wx.cell? ⟨g, 0, none⟩ = some (.int .i64 (wV m.regs i)) ∧ wx.cell? ⟨g, 1, none⟩ = some (.bool (wC m.regs i)) ∧ Hid (Below W1.heap.size W1 wx))
  case first =>
    go_region_held3 (fun Z => Below W1.heap.size W1 Z ∧ Z.cell? ⟨w.heap.size, 3, none⟩ = some (.int .i8 i) ∧ Z.cell? ⟨P, 6, none⟩ = some (.slice (some ⟨s.R, 0, none⟩) 16 16) ∧ Z.cell? ⟨s.R, i * 2, none⟩ = some (.int .i64 (wV m.regs i)) ∧ Z.cell? ⟨s.R, i * 2 + 1, none⟩ = some (.bool (wC m.regs i)))
      (first | (refine ⟨?_, lkeep ?_ y3, lkeep ?_ p6a, lkeep ?_ b0a, lkeep ?_ b1a⟩ <;> ((repeat (first | assumption | exact (‹Below _ _ _ ∧ _›).1 | apply Below.drew | apply lb_alloc | apply lb_newq | refine lb_trans ?_ hb)); done)))
      (fail)

    all_goals (
      rename_i hS
      have sB : Hid _ := hS.1
      clear hS
      go_wp2_with fail
      go_meet
      exact ⟨_, rfl, by first | (simp [go_sem]; done) | (simp [go_sem, *]; done), by first | (simp [go_sem]; done) | (simp [go_sem, *]; done), sB⟩)
  case rest =>
  obtain ⟨gb, rfl, gb0, gb1, HBb⟩ := hcut
  obtain ⟨W, HW2⟩ : ∃ W, Hid (wc = W) := ⟨_, rfl⟩
  rw [HW2.out] at gb0 gb1 HBb
  rw [HW2.out]
  have HB : Hid (Below w.heap.size w W) := lb_trans HB0.out (lb_trans HBa.out HBb.out)
  have hq : QAt W base P s m := (h0.keep HBa.out).keep HBb.out
  have ga0 := lkeep HBb.out ga0
  have ga1 := lkeep HBb.out ga1
  have x0 := lkeep HBb.out y0
  have x1 := lkeep HBb.out y1
  have x2 := lkeep HBb.out y2
  have x3 := lkeep HBb.out y3
  have x4 := lkeep HBb.out y4
  have c6 := lkeep HBb.out p6a
  have hPW := hq.lt
  have hXW : w.heap.size < W.heap.size := World.block_lt_of_cell? W _ x0
  have hgaW : ga < W.heap.size := World.block_lt_of_cell? W _ ga0
  have hgbW : gb < W.heap.size := World.block_lt_of_cell? W _ gb0
  have hRW : s.R < W.heap.size := (hq.foot (.inr (.inr (.inr (.inl rfl))))).2
  have hgaR : ga ≠ s.R := fun e => by have := (h.foot (b := s.R) (.inr (.inr (.inr (.inl rfl))))).2; have := HGA.out; omega
  have nXR : w.heap.size ≠ s.R := fun e => by have := (h.foot (b := s.R) (.inr (.inr (.inr (.inl rfl))))).2; omega
  clear HW2 h0 HB0 HBa HBb hWW hWW1 p1 p6 p6a d0 d1 b0 b1 b0a b1a y0 y1 y2 y3 y4 h
  obtain ⟨e0, e1, f0, f1⟩ := hq.reg hm.sixteen hk
  have C1 := refcalc_any op (wV m.regs j) (wV m.regs i) (wC m.regs j) (wC m.regs i) W
  have HE : Hid (calcE op (wC m.regs j) (wC m.regs i) = cE m op j i) := rfl
  have HV : Hid (calcV op (wV m.regs j) (wV m.regs i) (wC m.regs j) (wC m.regs i) = cV m op j i) := rfl
  rw [HE.out, HV.out] at C1
  have HD : Hid (calcD m op k j i = if cE m op j i = 0 then putD m k (cV m op j i, false) else noD m (cE m op j i)) := rfl
  clear HE HV
  generalize cV m op j i = V at *
  generalize cE m op j i = E at *
  by_cases he : E = 0
  · subst he
    rw [if_pos rfl] at HD
    go_wp2_with fail
    refine C1.mono ?_
    rintro e w1 ⟨rfl, hb⟩
    have HB1 : Hid (Below w.heap.size w w1) := lb_trans HB.out hb
    have hq1 := hq.keep hb
    obtain ⟨e0, e1, f0, f1⟩ := hq1.reg hm.sixteen hk
    have HQ : Hid _ := (hq1.put hm.sixteen k (V, false)).alloc (.cells #[.int .i64 V, .bool false] 71)
    have HU : Hid (Upto (QFoot s P) w (((w1.setCell ⟨s.R, k * 2, none⟩ (.int .i64 V)).setCell ⟨s.R, k * 2 + 1, none⟩ (.bool false)).alloc (.cells #[.int .i64 V, .bool false] 71))) := (((Upto.of HB1.out).set (Or.inl (Or.inr (Or.inr (Or.inr (Or.inl rfl))))) _ _).set (Or.inl (Or.inr (Or.inr (Or.inr (Or.inl rfl))))) _ _).alloc _
    have z1 := lkeep hb x1
    have z6 := lkeep hb c6
    have hPW1 := hq1.lt
    have hXW1 : w.heap.size < w1.heap.size := World.block_lt_of_cell? w1 _ z1
    have hRW1 : s.R < w1.heap.size := World.block_lt_of_cell? w1 _ e0
    clear x0 x1 x2 x3 x4 c6 ga0 ga1 gb0 gb1 hb hq hgaW hgbW C1
    go_wp2_with fail
    go_region
    all_goals (
      go_wp2
      go_ret2
      rw [HD.out]
      exact q_yes rfl (fun _ => rfl) HQ.out.drew HU.out.drew)
  · rw [if_neg he] at HD
    have he2 : (E != 0) = true := by simpa using he
    have he3 : (E == 0) = false := by simpa using he
    have HN : Hid _ := he
    clear he
    go_wp2_with fail
    refine C1.mono ?_
    rintro e w1 ⟨rfl, hb⟩
    have HB1 : Hid (Below w.heap.size w w1) := lb_trans HB.out hb
    go_wp2
    go_ret2
    rw [HD.out]
    exact q_no HN.out (lb_alloc HB1.out _)
end

end Go.Proofs.YtdlcejpfjlpclaaGreatDoor

namespace Go.Proofs.YtdlcejpfjlpclaaGreatDoor
open Go.RowKit

section
variable {w : World} {base P : Nat} {s : QLoc} {m : Mach}
theorem qload_to {m : Mach} {d a n : Int} (h : (loadD m d a n).err = 0) : (loadD m d a n).to = m.pc + 1 := by
  unfold loadD at h ⊢
  split at h
  · rename_i c; rw [if_pos c]; rfl
  · rename_i c; exact absurd h c
theorem qstore_to {m : Mach} {a b n : Int} (h : (storeD m a b n).err = 0) : (storeD m a b n).to = m.pc + 1 := by
  unfold storeD at h ⊢
  split at h
  · rename_i c; rw [if_pos c]
  · rename_i c; exact absurd h c
def DataQP (w : World) (base P : Nat) (s : QLoc) (_m : Mach) (r : Did) (e : Ending) (w' : World) : Prop :=
  (¬ r.err = 0 ∧ e = .returned (.int .i8 r.err) ∧ Below w.heap.size w w') ∨ (r.err = 0 ∧ e = .returned (.int .i8 0) ∧ QAt w' base P s r.m ∧ Upto (QFoot s P) w w')
set_option maxRecDepth 100000 in
set_option maxHeartbeats 4000000 in
theorem qd_load (h : QAt w base P s m) (hm : Fine m) {n : Int} {k j i : Nat} (hk : k < 16) (_hi2 : i < 16) : Calls Tryz.prog 65 #[.pointer (some ⟨P, 0, none⟩), .agg #[.int .i8 11, .int .i8 k, .int .i8 j, .int .i8 i, .int .i64 n], .agg #[.int .i64 (wV m.regs j), .bool (wC m.regs j)], .agg #[.int .i64 (wV m.regs i), .bool (wC m.regs i)]] w (DataQP w base P s m (loadD m k j n)) := by
  have zk : (0 : Int) ≤ (k : Int) := Int.natCast_nonneg _
  have yk : (k : Int) < 16 := by omega
  obtain ⟨W0, HW⟩ : ∃ W0, Hid (((w.alloc (.cells #[.int .i8 11, .int .i8 k, .int .i8 j, .int .i8 i, .int .i64 n] 82)).alloc (.cells #[.int .i64 (wV m.regs j), .bool (wC m.regs j)] 71)).alloc (.cells #[.int .i64 (wV m.regs i), .bool (wC m.regs i)] 71) = W0) := ⟨_, rfl⟩
  have HB0 : Hid (Below w.heap.size w W0) := by unfold Hid; rw [← HW.out]; exact lb_alloc (lb_alloc (lb_alloc (Below.refl _ _) _) _) _
  have x0 : W0.cell? ⟨w.heap.size, 0, none⟩ = some (.int .i8 11) := by rw [← HW.out]; simp [go_sem]
  have x1 : W0.cell? ⟨w.heap.size, 1, none⟩ = some (.int .i8 k) := by rw [← HW.out]; simp [go_sem]
  have x4 : W0.cell? ⟨w.heap.size, 4, none⟩ = some (.int .i64 n) := by rw [← HW.out]; simp [go_sem]
  have a0 : W0.cell? ⟨w.heap.size + 1, 0, none⟩ = some (.int .i64 (wV m.regs j)) := by rw [← HW.out]; simp [go_sem]
  have a1 : W0.cell? ⟨w.heap.size + 1, 1, none⟩ = some (.bool (wC m.regs j)) := by rw [← HW.out]; simp [go_sem]
  have b0 : W0.cell? ⟨w.heap.size + 2, 0, none⟩ = some (.int .i64 (wV m.regs i)) := by rw [← HW.out]; simp [go_sem]
  have b1 : W0.cell? ⟨w.heap.size + 2, 1, none⟩ = some (.bool (wC m.regs i)) := by rw [← HW.out]; simp [go_sem]
  have h0 : QAt W0 base P s m := by rw [← HW.out]; exact ((h.alloc _).alloc _).alloc _
  have hml := hm.mlen
  have p7 : W0.cell? ⟨P, 7, none⟩ = some (.slice s.M m.mem.length s.mc) := h0.cells.2.2.2.2.2.2.2.1
  have hWW := Below.refl W0.heap.size W0
  have C1 := refaddr_any (wV m.regs j) n m.mem.length (wC m.regs j)
  have HE : Hid (addrE (wV m.regs j) n m.mem.length (wC m.regs j) = aE m j n) := rfl
  have HV : Hid (addrV (wV m.regs j) n m.mem.length (wC m.regs j) = aV m j n) := rfl
  rw [HE.out, HV.out] at C1
  have HRg : Hid (aE m j n = 0 → 0 ≤ aV m j n ∧ aV m j n < m.mem.length) := aV_range
  have nXR : w.heap.size ≠ s.R ∧ w.heap.size + 2 ≠ s.R := by have := (h.foot (b := s.R) (.inr (.inr (.inr (.inl rfl))))).2; exact ⟨by omega, by omega⟩
  have HD : Hid (loadD m k j n = if aE m j n = 0 then putD m k (wV m.mem (aV m j n).toNat, wC m.mem (aV m j n).toNat) else noD m (aE m j n)) := rfl
  clear HE HV
  generalize aV m j n = V at *
  generalize aE m j n = E at *
  go_enter Tryz.func65, Tryz.ntmps65
  go_upto_region 1 with fail
  rw [HW.out]
  clear HW
  go_cut [9, 10] (fun x y wx => x = .int .i64 V ∧ y = .int .i8 E ∧ Hid (Below W0.heap.size W0 wx))
  case first =>
    go_region_held3 (fun Z => Below W0.heap.size W0 Z ∧ Z.cell? ⟨w.heap.size, 4, none⟩ = some (.int .i64 n) ∧ Z.cell? ⟨w.heap.size + 1, 0, none⟩ = some (.int .i64 (wV m.regs j)) ∧ Z.cell? ⟨w.heap.size + 1, 1, none⟩ = some (.bool (wC m.regs j)) ∧ Z.cell? ⟨P, 7, none⟩ = some (.slice s.M m.mem.length s.mc))
      (first | (refine ⟨?_, lkeep ?_ x4, lkeep ?_ a0, lkeep ?_ a1, lkeep ?_ p7⟩ <;> ((repeat (first | assumption | exact (‹Below _ _ _ ∧ _›).1 | apply Below.drew | apply lb_alloc | apply lb_newq | refine lb_trans ?_ hb)); done)))
      (first | (go_at_call 90; refine (C1 _).mono ?_; rintro e w1 ⟨rfl, rfl⟩))

    all_goals (
      rename_i hS
      have sB : Hid _ := hS.1
      clear hS
      go_wp2_with fail
      go_meet
      exact ⟨rfl, rfl, sB⟩)
  case rest =>
  obtain ⟨rfl, rfl, HBc⟩ := hcut
  obtain ⟨W, HW2⟩ : ∃ W, Hid (wc = W) := ⟨_, rfl⟩
  rw [HW2.out] at HBc
  rw [HW2.out]
  clear HW2
  have HB : Hid (Below w.heap.size w W) := lb_trans HB0.out HBc.out
  have hq := h0.keep HBc.out
  have x0 := lkeep HBc.out x0
  have x1 := lkeep HBc.out x1
  have b0 := lkeep HBc.out b0
  have b1 := lkeep HBc.out b1
  have c6 : W.cell? ⟨P, 6, none⟩ = some (.slice (some ⟨s.R, 0, none⟩) 16 16) := hq.cells.2.2.2.2.2.2.1
  have c7 := lkeep HBc.out p7
  clear h0 HB0 HBc hWW x4 a0 a1 p7 C1 h
  by_cases he : E = 0
  · subst he
    rw [if_pos rfl] at HD
    obtain ⟨r0, r1⟩ := HRg.out rfl
    obtain ⟨q, hq0⟩ := Int.eq_ofNat_of_zero_le r0
    subst hq0
    have hql : q < m.mem.length := by omega
    have hlM := wVals_len m.mem
    obtain ⟨g, hM⟩ : ∃ g, s.M = some ⟨g, 0, none⟩ := by
      rcases hq.mem.2 with ⟨e, e0⟩ | ⟨g, cap, cur, e, -⟩
      · omega
      · simp only [Value.slice.injEq] at e; exact ⟨g, e.1⟩
    have hmm := hq.mem
    rw [hM] at hmm
    obtain ⟨m0, m1, m2, m3⟩ := word_of hmm hql
    have hcp : m.mem.length ≤ s.mc := by
      rcases hmm.2 with ⟨e, e0⟩ | ⟨g2, cap, cur, e, -, -, hc, -⟩
      · omega
      · simp only [Value.slice.injEq] at e; rw [e.2.2]; exact hc
    rw [hM] at c7
    have zq : (0 : Int) ≤ (q : Int) := Int.natCast_nonneg _
    have yq : (q : Int) < (m.mem.length : Int) := by omega
    have hXW : w.heap.size < W.heap.size := World.block_lt_of_cell? W _ x0
    have hRW : s.R < W.heap.size := (hq.foot (.inr (.inr (.inr (.inl rfl))))).2
    have hgW : g < W.heap.size := World.block_lt_of_cell? W _ m0
    have hPW := hq.lt
    clear hmm r0 r1 HRg
    obtain ⟨e0, e1, f0, f1⟩ := hq.reg hm.sixteen hk
    have HQ : Hid _ := hq.put hm.sixteen k (wV m.mem q, wC m.mem q)
    have HU : Hid (Upto (QFoot s P) w ((W.setCell ⟨s.R, k * 2, none⟩ (.int .i64 (wV m.mem q))).setCell ⟨s.R, k * 2 + 1, none⟩ (.bool (wC m.mem q)))) := ((Upto.of HB.out).set (Or.inl (Or.inr (Or.inr (Or.inr (Or.inl rfl))))) _ _).set (Or.inl (Or.inr (Or.inr (Or.inr (Or.inl rfl))))) _ _
    clear hM
    go_wp2_with fail
    go_region
    all_goals (
      go_wp2
      go_ret
      rw [HD.out]
      exact .inr ⟨rfl, rfl, HQ.out.drew, HU.out.drew⟩)
  · rw [if_neg he] at HD
    have he2 : (E != 0) = true := by simpa using he
    have he3 : (E == 0) = false := by simpa using he
    have HN : Hid _ := he
    clear he HRg
    go_wp2
    go_ret
    rw [HD.out]
    exact .inl ⟨HN.out, rfl, HB.out⟩
set_option maxRecDepth 100000 in
set_option maxHeartbeats 4000000 in
theorem qd_store (h : QAt w base P s m) (hm : Fine m) {n : Int} {k j i : Nat} (hk : k < 16) (_hi2 : i < 16) : Calls Tryz.prog 65 #[.pointer (some ⟨P, 0, none⟩), .agg #[.int .i8 12, .int .i8 k, .int .i8 j, .int .i8 i, .int .i64 n], .agg #[.int .i64 (wV m.regs j), .bool (wC m.regs j)], .agg #[.int .i64 (wV m.regs i), .bool (wC m.regs i)]] w (DataQP w base P s m (storeD m j i n)) := by
  have zk : (0 : Int) ≤ (k : Int) := Int.natCast_nonneg _
  have yk : (k : Int) < 16 := by omega
  obtain ⟨W0, HW⟩ : ∃ W0, Hid (((w.alloc (.cells #[.int .i8 12, .int .i8 k, .int .i8 j, .int .i8 i, .int .i64 n] 82)).alloc (.cells #[.int .i64 (wV m.regs j), .bool (wC m.regs j)] 71)).alloc (.cells #[.int .i64 (wV m.regs i), .bool (wC m.regs i)] 71) = W0) := ⟨_, rfl⟩
  have HB0 : Hid (Below w.heap.size w W0) := by unfold Hid; rw [← HW.out]; exact lb_alloc (lb_alloc (lb_alloc (Below.refl _ _) _) _) _
  have x0 : W0.cell? ⟨w.heap.size, 0, none⟩ = some (.int .i8 12) := by rw [← HW.out]; simp [go_sem]
  have x1 : W0.cell? ⟨w.heap.size, 1, none⟩ = some (.int .i8 k) := by rw [← HW.out]; simp [go_sem]
  have x4 : W0.cell? ⟨w.heap.size, 4, none⟩ = some (.int .i64 n) := by rw [← HW.out]; simp [go_sem]
  have a0 : W0.cell? ⟨w.heap.size + 1, 0, none⟩ = some (.int .i64 (wV m.regs j)) := by rw [← HW.out]; simp [go_sem]
  have a1 : W0.cell? ⟨w.heap.size + 1, 1, none⟩ = some (.bool (wC m.regs j)) := by rw [← HW.out]; simp [go_sem]
  have b0 : W0.cell? ⟨w.heap.size + 2, 0, none⟩ = some (.int .i64 (wV m.regs i)) := by rw [← HW.out]; simp [go_sem]
  have b1 : W0.cell? ⟨w.heap.size + 2, 1, none⟩ = some (.bool (wC m.regs i)) := by rw [← HW.out]; simp [go_sem]
  have h0 : QAt W0 base P s m := by rw [← HW.out]; exact ((h.alloc _).alloc _).alloc _
  have hml := hm.mlen
  have p7 : W0.cell? ⟨P, 7, none⟩ = some (.slice s.M m.mem.length s.mc) := h0.cells.2.2.2.2.2.2.2.1
  have hWW := Below.refl W0.heap.size W0
  have C1 := refaddr_any (wV m.regs j) n m.mem.length (wC m.regs j)
  have HE : Hid (addrE (wV m.regs j) n m.mem.length (wC m.regs j) = aE m j n) := rfl
  have HV : Hid (addrV (wV m.regs j) n m.mem.length (wC m.regs j) = aV m j n) := rfl
  rw [HE.out, HV.out] at C1
  have HRg : Hid (aE m j n = 0 → 0 ≤ aV m j n ∧ aV m j n < m.mem.length) := aV_range
  have nXR : w.heap.size ≠ s.R ∧ w.heap.size + 2 ≠ s.R := by have := (h.foot (b := s.R) (.inr (.inr (.inr (.inl rfl))))).2; exact ⟨by omega, by omega⟩
  have HD : Hid (storeD m j i n = if aE m j n = 0 then ⟨0, storeM m (aV m j n).toNat (rV m i, rC m i), m.pc + 1⟩ else noD m (aE m j n)) := rfl
  clear HE HV
  generalize aV m j n = V at *
  generalize aE m j n = E at *
  go_enter Tryz.func65, Tryz.ntmps65
  go_upto_region 1 with fail
  rw [HW.out]
  clear HW
  go_cut [9, 10] (fun x y wx => x = .int .i64 V ∧ y = .int .i8 E ∧ Hid (Below W0.heap.size W0 wx))
  case first =>
    go_region_held3 (fun Z => Below W0.heap.size W0 Z ∧ Z.cell? ⟨w.heap.size, 4, none⟩ = some (.int .i64 n) ∧ Z.cell? ⟨w.heap.size + 1, 0, none⟩ = some (.int .i64 (wV m.regs j)) ∧ Z.cell? ⟨w.heap.size + 1, 1, none⟩ = some (.bool (wC m.regs j)) ∧ Z.cell? ⟨P, 7, none⟩ = some (.slice s.M m.mem.length s.mc))
      (first | (refine ⟨?_, lkeep ?_ x4, lkeep ?_ a0, lkeep ?_ a1, lkeep ?_ p7⟩ <;> ((repeat (first | assumption | exact (‹Below _ _ _ ∧ _›).1 | apply Below.drew | apply lb_alloc | apply lb_newq | refine lb_trans ?_ hb)); done)))
      (first | (go_at_call 90; refine (C1 _).mono ?_; rintro e w1 ⟨rfl, rfl⟩))

    all_goals (
      rename_i hS
      have sB : Hid _ := hS.1
      clear hS
      go_wp2_with fail
      go_meet
      exact ⟨rfl, rfl, sB⟩)
  case rest =>
  obtain ⟨rfl, rfl, HBc⟩ := hcut
  obtain ⟨W, HW2⟩ : ∃ W, Hid (wc = W) := ⟨_, rfl⟩
  rw [HW2.out] at HBc
  rw [HW2.out]
  clear HW2
  have HB : Hid (Below w.heap.size w W) := lb_trans HB0.out HBc.out
  have hq := h0.keep HBc.out
  have x0 := lkeep HBc.out x0
  have x1 := lkeep HBc.out x1
  have b0 := lkeep HBc.out b0
  have b1 := lkeep HBc.out b1
  have c6 : W.cell? ⟨P, 6, none⟩ = some (.slice (some ⟨s.R, 0, none⟩) 16 16) := hq.cells.2.2.2.2.2.2.1
  have c7 := lkeep HBc.out p7
  clear h0 HB0 HBc hWW x4 a0 a1 p7 C1 h
  by_cases he : E = 0
  · subst he
    rw [if_pos rfl] at HD
    obtain ⟨r0, r1⟩ := HRg.out rfl
    obtain ⟨q, hq0⟩ := Int.eq_ofNat_of_zero_le r0
    subst hq0
    have hql : q < m.mem.length := by omega
    have hlM := wVals_len m.mem
    obtain ⟨g, hM⟩ : ∃ g, s.M = some ⟨g, 0, none⟩ := by
      rcases hq.mem.2 with ⟨e, e0⟩ | ⟨g, cap, cur, e, -⟩
      · omega
      · simp only [Value.slice.injEq] at e; exact ⟨g, e.1⟩
    have hmm := hq.mem
    rw [hM] at hmm
    obtain ⟨m0, m1, m2, m3⟩ := word_of hmm hql
    have hcp : m.mem.length ≤ s.mc := by
      rcases hmm.2 with ⟨e, e0⟩ | ⟨g2, cap, cur, e, -, -, hc, -⟩
      · omega
      · simp only [Value.slice.injEq] at e; rw [e.2.2]; exact hc
    rw [hM] at c7
    have zq : (0 : Int) ≤ (q : Int) := Int.natCast_nonneg _
    have yq : (q : Int) < (m.mem.length : Int) := by omega
    have hXW : w.heap.size < W.heap.size := World.block_lt_of_cell? W _ x0
    have hRW : s.R < W.heap.size := (hq.foot (.inr (.inr (.inr (.inl rfl))))).2
    have hgW : g < W.heap.size := World.block_lt_of_cell? W _ m0
    have hPW := hq.lt
    clear hmm r0 r1 HRg
    have HQ : Hid _ := hq.store hM (q := q) (wV m.regs i, wC m.regs i)
    have HF : Hid (QFoot s P g) := .inr (.inr (.inr (.inr (.inl (by rw [hM]; rfl)))))
    have HU : Hid (Upto (QFoot s P) w ((W.setCell ⟨g, q * 2, none⟩ (.int .i64 (wV m.regs i))).setCell ⟨g, q * 2 + 1, none⟩ (.bool (wC m.regs i)))) := ((Upto.of HB.out).set (Or.inl HF.out) _ _).set (Or.inl HF.out) _ _
    clear hM
    go_wp2_with fail
    go_region
    all_goals (
      go_wp2
      go_ret
      rw [HD.out]
      exact .inr ⟨rfl, rfl, HQ.out.drew, HU.out.drew⟩)
  · rw [if_neg he] at HD
    have he2 : (E != 0) = true := by simpa using he
    have he3 : (E == 0) = false := by simpa using he
    have HN : Hid _ := he
    clear he HRg
    go_wp2
    go_ret
    rw [HD.out]
    exact .inl ⟨HN.out, rfl, HB.out⟩
set_option maxRecDepth 100000 in
set_option maxHeartbeats 4000000 in
theorem qload (h : QAt w base P s m) (hm : Fine m) {d a b n : Int} (hi : InsIn 11 d a b n) : Calls Tryz.prog 34 #[.pointer (some ⟨P, 0, none⟩), .agg #[.int .i8 11, .int .i8 d, .int .i8 a, .int .i8 b, .int .i64 n]] w (DoQP w base P s m (loadD m d a n)) := by
  obtain ⟨k, hk0⟩ := Int.eq_ofNat_of_zero_le hi.d0
  obtain ⟨j, hj0⟩ := Int.eq_ofNat_of_zero_le hi.a0
  obtain ⟨i, hi0⟩ := Int.eq_ofNat_of_zero_le hi.b0
  have hk : k < 16 := by have := hi.d1; omega
  have hj : j < 16 := by have := hi.a1; omega
  have hi2 : i < 16 := by have := hi.b1; omega
  subst hk0 hj0 hi0
  have zk : (0 : Int) ≤ (k : Int) := Int.natCast_nonneg _
  have yk : (k : Int) < 16 := by omega
  have zj : (0 : Int) ≤ (j : Int) := Int.natCast_nonneg _
  have yj : (j : Int) < 16 := by omega
  have zi : (0 : Int) ≤ (i : Int) := Int.natCast_nonneg _
  have yi : (i : Int) < 16 := by omega
  obtain ⟨W0, HW⟩ : ∃ W0, Hid (w.alloc (.cells #[.int .i8 11, .int .i8 k, .int .i8 j, .int .i8 i, .int .i64 n] 82) = W0) := ⟨_, rfl⟩
  have x0 : W0.cell? ⟨w.heap.size, 0, none⟩ = some (.int .i8 11) := by rw [← HW.out]; simp [go_sem]
  have x1 : W0.cell? ⟨w.heap.size, 1, none⟩ = some (.int .i8 k) := by rw [← HW.out]; simp [go_sem]
  have x2 : W0.cell? ⟨w.heap.size, 2, none⟩ = some (.int .i8 j) := by rw [← HW.out]; simp [go_sem]
  have x3 : W0.cell? ⟨w.heap.size, 3, none⟩ = some (.int .i8 i) := by rw [← HW.out]; simp [go_sem]
  have x4 : W0.cell? ⟨w.heap.size, 4, none⟩ = some (.int .i64 n) := by rw [← HW.out]; simp [go_sem]
  have h0 : QAt W0 base P s m := by rw [← HW.out]; exact h.alloc _
  have HB0 : Hid (Below w.heap.size w W0) := by unfold Hid; rw [← HW.out]; exact lb_alloc (Below.refl _ _) _
  have hP := h.lt
  have hpc := hm.pc
  have hWW := Below.refl W0.heap.size W0
  have HZ0 : Hid (w.heap.size ≤ W0.heap.size) := HB0.out.size
  have p1 : W0.cell? ⟨P, 1, none⟩ = some (.int .i64 m.pc) := h0.cells.2.1
  have p6 : W0.cell? ⟨P, 6, none⟩ = some (.slice (some ⟨s.R, 0, none⟩) 16 16) := h0.cells.2.2.2.2.2.2.1
  obtain ⟨d0, d1, -, -⟩ := h0.reg hm.sixteen hj
  obtain ⟨b0, b1, -, -⟩ := h0.reg hm.sixteen hi2
  go_enter Tryz.func34, Tryz.ntmps34
  go_upto_region 1 with fail
  rw [HW.out]
  clear HW
  go_upto_region 2 with fail
  go_cut [7] (fun x wx => ∃ ga, x = .pointer (some ⟨ga, 0, none⟩) ∧ wx.cell? ⟨ga, 0, none⟩ = some (.int .i64 (wV m.regs j)) ∧ wx.cell? ⟨ga, 1, none⟩ = some (.bool (wC m.regs j)) ∧ Hid (w.heap.size ≤ ga) ∧ Hid (Below W0.heap.size W0 wx))
  case first =>
    go_region_held3 (fun Z => Below W0.heap.size W0 Z ∧ Z.cell? ⟨w.heap.size, 2, none⟩ = some (.int .i8 j) ∧ Z.cell? ⟨P, 6, none⟩ = some (.slice (some ⟨s.R, 0, none⟩) 16 16) ∧ Z.cell? ⟨s.R, j * 2, none⟩ = some (.int .i64 (wV m.regs j)) ∧ Z.cell? ⟨s.R, j * 2 + 1, none⟩ = some (.bool (wC m.regs j)))
      (first | (refine ⟨?_, lkeep ?_ x2, lkeep ?_ p6, lkeep ?_ d0, lkeep ?_ d1⟩ <;> ((repeat (first | assumption | exact (‹Below _ _ _ ∧ _›).1 | apply Below.drew | apply lb_alloc | apply lb_newq | refine lb_trans ?_ hb)); done)))
      (fail)

    all_goals (
      rename_i hS
      have sB : Hid _ := hS.1
      clear hS
      go_wp2_with fail
      go_meet
      exact ⟨_, rfl, by first | (simp [go_sem]; done) | (simp [go_sem, *]; done), by first | (simp [go_sem]; done) | (simp [go_sem, *]; done), HZ0.out, sB⟩)
  case rest =>
  obtain ⟨ga, rfl, ga0, ga1, HGA, HBa⟩ := hcut
  obtain ⟨W1, HW1⟩ : ∃ W1, Hid (wc = W1) := ⟨_, rfl⟩
  rw [HW1.out] at ga0 ga1 HBa
  rw [HW1.out]
  clear HW1
  have y1 := lkeep HBa.out x1
  have y0 := lkeep HBa.out x0
  have y2 := lkeep HBa.out x2
  have y3 := lkeep HBa.out x3
  have y4 := lkeep HBa.out x4
  have p6a := lkeep HBa.out p6
  have b0a := lkeep HBa.out b0
  have b1a := lkeep HBa.out b1
  have hWW1 := Below.refl W1.heap.size W1
  go_upto_region 3 with fail
  go_cut [8] (fun x wx => ∃ g, x = .pointer (some ⟨g, 0, none⟩) ∧ wx.cell? ⟨g, 0, none⟩ = some (.int .i64 (wV m.regs i)) ∧ wx.cell? ⟨g, 1, none⟩ = some (.bool (wC m.regs i)) ∧ Hid (Below W1.heap.size W1 wx))
  case first =>
    go_region_held3 (fun Z => Below W1.heap.size W1 Z ∧ Z.cell? ⟨w.heap.size, 3, none⟩ = some (.int .i8 i) ∧ Z.cell? ⟨P, 6, none⟩ = some (.slice (some ⟨s.R, 0, none⟩) 16 16) ∧ Z.cell? ⟨s.R, i * 2, none⟩ = some (.int .i64 (wV m.regs i)) ∧ Z.cell? ⟨s.R, i * 2 + 1, none⟩ = some (.bool (wC m.regs i)))
      (first | (refine ⟨?_, lkeep ?_ y3, lkeep ?_ p6a, lkeep ?_ b0a, lkeep ?_ b1a⟩ <;> ((repeat (first | assumption | exact (‹Below _ _ _ ∧ _›).1 | apply Below.drew | apply lb_alloc | apply lb_newq | refine lb_trans ?_ hb)); done)))
      (fail)

    all_goals (
      rename_i hS
      have sB : Hid _ := hS.1
      clear hS
      go_wp2_with fail
      go_meet
      exact ⟨_, rfl, by first | (simp [go_sem]; done) | (simp [go_sem, *]; done), by first | (simp [go_sem]; done) | (simp [go_sem, *]; done), sB⟩)
  case rest =>
  obtain ⟨gb, rfl, gb0, gb1, HBb⟩ := hcut
  obtain ⟨W, HW2⟩ : ∃ W, Hid (wc = W) := ⟨_, rfl⟩
  rw [HW2.out] at gb0 gb1 HBb
  rw [HW2.out]
  have HB : Hid (Below w.heap.size w W) := lb_trans HB0.out (lb_trans HBa.out HBb.out)
  have hq : QAt W base P s m := (h0.keep HBa.out).keep HBb.out
  have ga0 := lkeep HBb.out ga0
  have ga1 := lkeep HBb.out ga1
  have x0 := lkeep HBb.out y0
  have x1 := lkeep HBb.out y1
  have x2 := lkeep HBb.out y2
  have x3 := lkeep HBb.out y3
  have x4 := lkeep HBb.out y4
  have c6 := lkeep HBb.out p6a
  have hPW := hq.lt
  have hXW : w.heap.size < W.heap.size := World.block_lt_of_cell? W _ x0
  have hgaW : ga < W.heap.size := World.block_lt_of_cell? W _ ga0
  have hgbW : gb < W.heap.size := World.block_lt_of_cell? W _ gb0
  have hRW : s.R < W.heap.size := (hq.foot (.inr (.inr (.inr (.inl rfl))))).2
  have hgaR : ga ≠ s.R := fun e => by have := (h.foot (b := s.R) (.inr (.inr (.inr (.inl rfl))))).2; have := HGA.out; omega
  have nXR : w.heap.size ≠ s.R := fun e => by have := (h.foot (b := s.R) (.inr (.inr (.inr (.inl rfl))))).2; omega
  clear HW2 h0 HB0 HBa HBb hWW hWW1 p1 p6 p6a d0 d1 b0 b1 b0a b1a y0 y1 y2 y3 y4 h
  have C1 := qd_load hq hm (n := n) (k := k) (j := j) (i := i) hk hi2
  go_wp2_with fail
  refine C1.mono ?_
  intro e w1 hr
  rcases hr with ⟨hE, rfl, hb⟩ | ⟨hE, rfl, h1, hu⟩
  · have HE : Hid _ := hE
    have HB1 : Hid (Below w.heap.size w w1) := lb_trans HB.out hb
    clear hE hb C1
    go_wp2
    go_ret2
    exact .inl ⟨HE.out, _, rfl, HB1.out⟩
  · have HE : Hid _ := hE
    have HQ : Hid _ := h1
    have HU : Hid (Upto (QFoot s P) w w1) := (Upto.of HB.out).trans hu
    clear hE h1 hu C1
    go_wp2
    go_ret2
    exact q_yes HE.out (fun _ => by have e := qload_to HE.out; rw [e]; rfl) HQ.out HU.out
set_option maxRecDepth 100000 in
set_option maxHeartbeats 4000000 in
theorem qstore (h : QAt w base P s m) (hm : Fine m) {d a b n : Int} (hi : InsIn 12 d a b n) : Calls Tryz.prog 34 #[.pointer (some ⟨P, 0, none⟩), .agg #[.int .i8 12, .int .i8 d, .int .i8 a, .int .i8 b, .int .i64 n]] w (DoQP w base P s m (storeD m a b n)) := by
  obtain ⟨k, hk0⟩ := Int.eq_ofNat_of_zero_le hi.d0
  obtain ⟨j, hj0⟩ := Int.eq_ofNat_of_zero_le hi.a0
  obtain ⟨i, hi0⟩ := Int.eq_ofNat_of_zero_le hi.b0
  have hk : k < 16 := by have := hi.d1; omega
  have hj : j < 16 := by have := hi.a1; omega
  have hi2 : i < 16 := by have := hi.b1; omega
  subst hk0 hj0 hi0
  have zk : (0 : Int) ≤ (k : Int) := Int.natCast_nonneg _
  have yk : (k : Int) < 16 := by omega
  have zj : (0 : Int) ≤ (j : Int) := Int.natCast_nonneg _
  have yj : (j : Int) < 16 := by omega
  have zi : (0 : Int) ≤ (i : Int) := Int.natCast_nonneg _
  have yi : (i : Int) < 16 := by omega
  obtain ⟨W0, HW⟩ : ∃ W0, Hid (w.alloc (.cells #[.int .i8 12, .int .i8 k, .int .i8 j, .int .i8 i, .int .i64 n] 82) = W0) := ⟨_, rfl⟩
  have x0 : W0.cell? ⟨w.heap.size, 0, none⟩ = some (.int .i8 12) := by rw [← HW.out]; simp [go_sem]
  have x1 : W0.cell? ⟨w.heap.size, 1, none⟩ = some (.int .i8 k) := by rw [← HW.out]; simp [go_sem]
  have x2 : W0.cell? ⟨w.heap.size, 2, none⟩ = some (.int .i8 j) := by rw [← HW.out]; simp [go_sem]
  have x3 : W0.cell? ⟨w.heap.size, 3, none⟩ = some (.int .i8 i) := by rw [← HW.out]; simp [go_sem]
  have x4 : W0.cell? ⟨w.heap.size, 4, none⟩ = some (.int .i64 n) := by rw [← HW.out]; simp [go_sem]
  have h0 : QAt W0 base P s m := by rw [← HW.out]; exact h.alloc _
  have HB0 : Hid (Below w.heap.size w W0) := by unfold Hid; rw [← HW.out]; exact lb_alloc (Below.refl _ _) _
  have hP := h.lt
  have hpc := hm.pc
  have hWW := Below.refl W0.heap.size W0
  have HZ0 : Hid (w.heap.size ≤ W0.heap.size) := HB0.out.size
  have p1 : W0.cell? ⟨P, 1, none⟩ = some (.int .i64 m.pc) := h0.cells.2.1
  have p6 : W0.cell? ⟨P, 6, none⟩ = some (.slice (some ⟨s.R, 0, none⟩) 16 16) := h0.cells.2.2.2.2.2.2.1
  obtain ⟨d0, d1, -, -⟩ := h0.reg hm.sixteen hj
  obtain ⟨b0, b1, -, -⟩ := h0.reg hm.sixteen hi2
  go_enter Tryz.func34, Tryz.ntmps34
  go_upto_region 1 with fail
  rw [HW.out]
  clear HW
  go_upto_region 2 with fail
  go_cut [7] (fun x wx => ∃ ga, x = .pointer (some ⟨ga, 0, none⟩) ∧ wx.cell? ⟨ga, 0, none⟩ = some (.int .i64 (wV m.regs j)) ∧ wx.cell? ⟨ga, 1, none⟩ = some (.bool (wC m.regs j)) ∧ Hid (w.heap.size ≤ ga) ∧ Hid (Below W0.heap.size W0 wx))
  case first =>
    go_region_held3 (fun Z => Below W0.heap.size W0 Z ∧ Z.cell? ⟨w.heap.size, 2, none⟩ = some (.int .i8 j) ∧ Z.cell? ⟨P, 6, none⟩ = some (.slice (some ⟨s.R, 0, none⟩) 16 16) ∧ Z.cell? ⟨s.R, j * 2, none⟩ = some (.int .i64 (wV m.regs j)) ∧ Z.cell? ⟨s.R, j * 2 + 1, none⟩ = some (.bool (wC m.regs j)))
      (first | (refine ⟨?_, lkeep ?_ x2, lkeep ?_ p6, lkeep ?_ d0, lkeep ?_ d1⟩ <;> ((repeat (first | assumption | exact (‹Below _ _ _ ∧ _›).1 | apply Below.drew | apply lb_alloc | apply lb_newq | refine lb_trans ?_ hb)); done)))
      (fail)

    all_goals (
      rename_i hS
      have sB : Hid _ := hS.1
      clear hS
      go_wp2_with fail
      go_meet
      exact ⟨_, rfl, by first | (simp [go_sem]; done) | (simp [go_sem, *]; done), by first | (simp [go_sem]; done) | (simp [go_sem, *]; done), HZ0.out, sB⟩)
  case rest =>
  obtain ⟨ga, rfl, ga0, ga1, HGA, HBa⟩ := hcut
  obtain ⟨W1, HW1⟩ : ∃ W1, Hid (wc = W1) := ⟨_, rfl⟩
  rw [HW1.out] at ga0 ga1 HBa
  rw [HW1.out]
  clear HW1
  have y1 := lkeep HBa.out x1
  have y0 := lkeep HBa.out x0
  have y2 := lkeep HBa.out x2
  have y3 := lkeep HBa.out x3
  have y4 := lkeep HBa.out x4
  have p6a := lkeep HBa.out p6
  have b0a := lkeep HBa.out b0
  have b1a := lkeep HBa.out b1
  have hWW1 := Below.refl W1.heap.size W1
  go_upto_region 3 with fail
  go_cut [8] (fun x wx => ∃ g, x = .pointer (some ⟨g, 0, none⟩) ∧ wx.cell? ⟨g, 0, none⟩ = some (.int .i64 (wV m.regs i)) ∧ wx.cell? ⟨g, 1, none⟩ = some (.bool (wC m.regs i)) ∧ Hid (Below W1.heap.size W1 wx))
  case first =>
    go_region_held3 (fun Z => Below W1.heap.size W1 Z ∧ Z.cell? ⟨w.heap.size, 3, none⟩ = some (.int .i8 i) ∧ Z.cell? ⟨P, 6, none⟩ = some (.slice (some ⟨s.R, 0, none⟩) 16 16) ∧ Z.cell? ⟨s.R, i * 2, none⟩ = some (.int .i64 (wV m.regs i)) ∧ Z.cell? ⟨s.R, i * 2 + 1, none⟩ = some (.bool (wC m.regs i)))
      (first | (refine ⟨?_, lkeep ?_ y3, lkeep ?_ p6a, lkeep ?_ b0a, lkeep ?_ b1a⟩ <;> ((repeat (first | assumption | exact (‹Below _ _ _ ∧ _›).1 | apply Below.drew | apply lb_alloc | apply lb_newq | refine lb_trans ?_ hb)); done)))
      (fail)

    all_goals (
      rename_i hS
      have sB : Hid _ := hS.1
      clear hS
      go_wp2_with fail
      go_meet
      exact ⟨_, rfl, by first | (simp [go_sem]; done) | (simp [go_sem, *]; done), by first | (simp [go_sem]; done) | (simp [go_sem, *]; done), sB⟩)
  case rest =>
  obtain ⟨gb, rfl, gb0, gb1, HBb⟩ := hcut
  obtain ⟨W, HW2⟩ : ∃ W, Hid (wc = W) := ⟨_, rfl⟩
  rw [HW2.out] at gb0 gb1 HBb
  rw [HW2.out]
  have HB : Hid (Below w.heap.size w W) := lb_trans HB0.out (lb_trans HBa.out HBb.out)
  have hq : QAt W base P s m := (h0.keep HBa.out).keep HBb.out
  have ga0 := lkeep HBb.out ga0
  have ga1 := lkeep HBb.out ga1
  have x0 := lkeep HBb.out y0
  have x1 := lkeep HBb.out y1
  have x2 := lkeep HBb.out y2
  have x3 := lkeep HBb.out y3
  have x4 := lkeep HBb.out y4
  have c6 := lkeep HBb.out p6a
  have hPW := hq.lt
  have hXW : w.heap.size < W.heap.size := World.block_lt_of_cell? W _ x0
  have hgaW : ga < W.heap.size := World.block_lt_of_cell? W _ ga0
  have hgbW : gb < W.heap.size := World.block_lt_of_cell? W _ gb0
  have hRW : s.R < W.heap.size := (hq.foot (.inr (.inr (.inr (.inl rfl))))).2
  have hgaR : ga ≠ s.R := fun e => by have := (h.foot (b := s.R) (.inr (.inr (.inr (.inl rfl))))).2; have := HGA.out; omega
  have nXR : w.heap.size ≠ s.R := fun e => by have := (h.foot (b := s.R) (.inr (.inr (.inr (.inl rfl))))).2; omega
  clear HW2 h0 HB0 HBa HBb hWW hWW1 p1 p6 p6a d0 d1 b0 b1 b0a b1a y0 y1 y2 y3 y4 h
  have C1 := qd_store hq hm (n := n) (k := k) (j := j) (i := i) hk hi2
  go_wp2_with fail
  refine C1.mono ?_
  intro e w1 hr
  rcases hr with ⟨hE, rfl, hb⟩ | ⟨hE, rfl, h1, hu⟩
  · have HE : Hid _ := hE
    have HB1 : Hid (Below w.heap.size w w1) := lb_trans HB.out hb
    clear hE hb C1
    go_wp2
    go_ret2
    exact .inl ⟨HE.out, _, rfl, HB1.out⟩
  · have HE : Hid _ := hE
    have HQ : Hid _ := h1
    have HU : Hid (Upto (QFoot s P) w w1) := (Upto.of HB.out).trans hu
    clear hE h1 hu C1
    go_wp2
    go_ret2
    exact q_yes HE.out (fun _ => by have e := qstore_to HE.out; rw [e]; rfl) HQ.out HU.out
end

end Go.Proofs.YtdlcejpfjlpclaaGreatDoor
