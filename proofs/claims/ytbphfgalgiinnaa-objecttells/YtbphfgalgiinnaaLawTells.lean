/-
  The law ObjectTells returns true for every object, text and place; its words are of 32 bits, its lists no longer than any can be.
-/
import Derived.Test.YtbphfgalgiinnaaProg
import Derived.WalkKit
import Derived.WalkSpells
import Derived.WalkLawsBesides
import Derived.RowKit3
import Derived.Below
import Derived.Deep.QuietTactic
import Derived.BigQuiet
import Derived.WalkSmall
import Derived.Test.YtbphfgalgiinnaaLives
import Derived.Test.YtbphfgalgiinnaaHeavy
import Derived.Test.YtbphfgalgiinnaaEqObj
import Derived.Deep.RegionHeld3
namespace Go.Proofs.Ytbphfgalgiinnaa
open Go.RowKit

set_option maxRecDepth 100000 in
set_option maxHeartbeats 4000000 in
theorem lawTells (nm : ByteArray) (dA : Int) (A1 A2 A3 A4 : Option Addr) (c1 c2 c3 c4 : Nat) (code data : List Int) (ss : List Sym) (rs : List Rel) (name : ByteArray) (place : Int) (w : World) (hC : IntsAt w A1 .u32 code) (hD : IntsAt w A2 .i64 data) (hS : SymsAt w A3 ss) (hL : RelsAt w A4 rs) (hR : ∀ i, i < code.length → 0 ≤ nth code i ∧ nth code i < 4294967296) (hN : ∀ i, (sName ss i).size ≤ 140737488355328) (hsl : ss.length ≤ 140737488355328) (hA : -9223372036854775808 ≤ dA ∧ dA ≤ 9223372036854775807) :
    Calls Try.prog 3 #[.agg #[.string nm, .slice A1 code.length c1, .int .i64 dA, .slice A2 data.length c2, .slice A3 ss.length c3, .slice A4 rs.length c4], .string name, .int .i64 place] w fun e w' => e = .returned (.bool true) ∧ Below w.heap.size w w' := by
  go_enter Try.func3, Try.ntmps3
  go_wp2_with fail
  refine (heavy_any nm dA A1 A2 A3 A4 code.length c1 data.length c2 c3 rs.length c4 ss _ (hS.keep (lb_alloc (Below.refl _ _) _)) hN hsl).mono ?_
  rintro e w1 ⟨B, rfl, hBnd, hb1⟩
  have p10 : w1.cell? ⟨w.heap.size, 0, none⟩ = some (.string nm) := lkeep hb1 (by simp [go_sem])
  have p11 : w1.cell? ⟨w.heap.size, 1, none⟩ = some (.slice A1 code.length c1) := lkeep hb1 (by simp [go_sem])
  have p12 : w1.cell? ⟨w.heap.size, 2, none⟩ = some (.int .i64 dA) := lkeep hb1 (by simp [go_sem])
  have p13 : w1.cell? ⟨w.heap.size, 3, none⟩ = some (.slice A2 data.length c2) := lkeep hb1 (by simp [go_sem])
  have p14 : w1.cell? ⟨w.heap.size, 4, none⟩ = some (.slice A3 ss.length c3) := lkeep hb1 (by simp [go_sem])
  have p15 : w1.cell? ⟨w.heap.size, 5, none⟩ = some (.slice A4 rs.length c4) := lkeep hb1 (by simp [go_sem])
  have HB1 : Hid (Below w.heap.size w w1) := lb_trans (lb_alloc (Below.refl _ _) _) hb1
  clear hb1
  cases B with
  | true =>
    clear hBnd
    go_wp2_with fail
    refine (lives_any _).mono ?_
    rintro e w9 ⟨rfl, hb9⟩
    have HB9 : Hid (Below w.heap.size w w9) := lb_trans HB1.out hb9
    clear hb9
    go_wp2
    go_ret
    exact ⟨rfl, HB9.out⟩
  | false =>
    obtain ⟨b3, _, b1, b2, b4⟩ := hBnd rfl
    clear hBnd
    by_cases hnm : 1048576 < name.size
    · skip
      go_wp2_with fail
      refine (lives_any _).mono ?_
      rintro e w9 ⟨rfl, hb9⟩
      have HB9 : Hid (Below w.heap.size w w9) := lb_trans HB1.out hb9
      clear hb9
      go_wp2
      go_ret
      exact ⟨rfl, HB9.out⟩
    have hc : code.length ≤ 1048576 := by omega
    have hd : data.length ≤ 1048576 := by omega
    have hl : rs.length ≤ 1048576 := by omega
    go_wp2_with fail
    refine (wideobj_lies nm dA A1 A2 A3 A4 c1 c2 c3 c4 code data ss rs _ (hC.keep HB1.out) (hD.keep HB1.out) (hS.keep HB1.out) (hL.keep HB1.out) hc hd b3 hl).mono ?_
    rintro e w2 ⟨g1, g2, g3, g4, rfl, hb2, kC, kD, kS, kL, m1, m2, m3, m4⟩
    have HB2 : Hid (Below w.heap.size w w2) := lb_trans HB1.out hb2
    have p20 : w2.cell? ⟨w.heap.size, 0, none⟩ = some (.string nm) := lkeep hb2 p10
    have p21 : w2.cell? ⟨w.heap.size, 1, none⟩ = some (.slice A1 code.length c1) := lkeep hb2 p11
    have p22 : w2.cell? ⟨w.heap.size, 2, none⟩ = some (.int .i64 dA) := lkeep hb2 p12
    have p23 : w2.cell? ⟨w.heap.size, 3, none⟩ = some (.slice A2 data.length c2) := lkeep hb2 p13
    have p24 : w2.cell? ⟨w.heap.size, 4, none⟩ = some (.slice A3 ss.length c3) := lkeep hb2 p14
    have p25 : w2.cell? ⟨w.heap.size, 5, none⟩ = some (.slice A4 rs.length c4) := lkeep hb2 p15
    have HKC : Hid (IntsAt w2 (some ⟨g1, 0, none⟩) .u32 code) := kC
    have HKD : Hid (IntsAt w2 (some ⟨g2, 0, none⟩) .i64 data) := kD
    have HKS : Hid (SymsAt w2 (some ⟨g3, 0, none⟩) ss) := kS
    have HKL : Hid (RelsAt w2 (some ⟨g4, 0, none⟩) rs) := kL
    have HM1 : Hid (MarkI w2 .u32 g1 code.length) := m1
    have HM2 : Hid (MarkI w2 .i64 g2 data.length) := m2
    have HM3 : Hid (MarkS w2 g3 ss.length) := m3
    have HM4 : Hid (MarkR w2 g4 rs.length) := m4
    clear hb2 kC kD kS kL m1 m2 m3 m4 p10 p11 p12 p13 p14 p15
    go_wp2_with fail
    refine (objcheck_any nm dA (some ⟨g1, 0, none⟩) (some ⟨g2, 0, none⟩) (some ⟨g3, 0, none⟩) (some ⟨g4, 0, none⟩) (code.length + 64) data.length (data.length + 64) (ss.length + 64) (rs.length + 64) code ss rs _ (HKC.out.keep (lb_alloc (Below.refl _ _) _)) (HKS.out.keep (lb_alloc (Below.refl _ _) _)) (HKL.out.keep (lb_alloc (Below.refl _ _) _)) hR hc hd b3 hl hN hA).mono ?_
    rintro e w3 ⟨rfl, hb3⟩
    have HD3 : Hid (Below w2.heap.size w2 w3) := lb_trans (lb_alloc (Below.refl _ _) _) hb3
    have HB3 : Hid (Below w.heap.size w w3) := lb_trans HB2.out HD3.out
    have p30 : w3.cell? ⟨w.heap.size, 0, none⟩ = some (.string nm) := lkeep HD3.out p20
    have p31 : w3.cell? ⟨w.heap.size, 1, none⟩ = some (.slice A1 code.length c1) := lkeep HD3.out p21
    have p32 : w3.cell? ⟨w.heap.size, 2, none⟩ = some (.int .i64 dA) := lkeep HD3.out p22
    have p33 : w3.cell? ⟨w.heap.size, 3, none⟩ = some (.slice A2 data.length c2) := lkeep HD3.out p23
    have p34 : w3.cell? ⟨w.heap.size, 4, none⟩ = some (.slice A3 ss.length c3) := lkeep HD3.out p24
    have p35 : w3.cell? ⟨w.heap.size, 5, none⟩ = some (.slice A4 rs.length c4) := lkeep HD3.out p25
    have q30 : w3.cell? ⟨w2.heap.size, 0, none⟩ = some (.string nm) := lkeep hb3 (by simp [go_sem])
    have q31 : w3.cell? ⟨w2.heap.size, 1, none⟩ = some (.slice (some ⟨g1, 0, none⟩) code.length (code.length + 64)) := lkeep hb3 (by simp [go_sem])
    have q32 : w3.cell? ⟨w2.heap.size, 2, none⟩ = some (.int .i64 dA) := lkeep hb3 (by simp [go_sem])
    have q33 : w3.cell? ⟨w2.heap.size, 3, none⟩ = some (.slice (some ⟨g2, 0, none⟩) data.length (data.length + 64)) := lkeep hb3 (by simp [go_sem])
    have q34 : w3.cell? ⟨w2.heap.size, 4, none⟩ = some (.slice (some ⟨g3, 0, none⟩) ss.length (ss.length + 64)) := lkeep hb3 (by simp [go_sem])
    have q35 : w3.cell? ⟨w2.heap.size, 5, none⟩ = some (.slice (some ⟨g4, 0, none⟩) rs.length (rs.length + 64)) := lkeep hb3 (by simp [go_sem])
    clear hb3 p20 p21 p22 p23 p24 p25
    go_wp2_with fail
    refine (refcheck_any nm dA A1 A2 A3 A4 c1 data.length c2 c3 c4 code ss rs _ (hC.keep HB3.out) hR (hS.keep HB3.out) (hL.keep HB3.out) hc hd b3 hl).mono ?_
    rintro e w4 ⟨rfl, hb4⟩
    have HB4 : Hid (Below w.heap.size w w4) := lb_trans HB3.out hb4
    have HD4 : Hid (Below w2.heap.size w2 w4) := lb_trans HD3.out hb4
    have p40 : w4.cell? ⟨w.heap.size, 0, none⟩ = some (.string nm) := lkeep hb4 p30
    have p41 : w4.cell? ⟨w.heap.size, 1, none⟩ = some (.slice A1 code.length c1) := lkeep hb4 p31
    have p42 : w4.cell? ⟨w.heap.size, 2, none⟩ = some (.int .i64 dA) := lkeep hb4 p32
    have p43 : w4.cell? ⟨w.heap.size, 3, none⟩ = some (.slice A2 data.length c2) := lkeep hb4 p33
    have p44 : w4.cell? ⟨w.heap.size, 4, none⟩ = some (.slice A3 ss.length c3) := lkeep hb4 p34
    have p45 : w4.cell? ⟨w.heap.size, 5, none⟩ = some (.slice A4 rs.length c4) := lkeep hb4 p35
    have q40 : w4.cell? ⟨w2.heap.size, 0, none⟩ = some (.string nm) := lkeep hb4 q30
    have q41 : w4.cell? ⟨w2.heap.size, 1, none⟩ = some (.slice (some ⟨g1, 0, none⟩) code.length (code.length + 64)) := lkeep hb4 q31
    have q42 : w4.cell? ⟨w2.heap.size, 2, none⟩ = some (.int .i64 dA) := lkeep hb4 q32
    have q43 : w4.cell? ⟨w2.heap.size, 3, none⟩ = some (.slice (some ⟨g2, 0, none⟩) data.length (data.length + 64)) := lkeep hb4 q33
    have q44 : w4.cell? ⟨w2.heap.size, 4, none⟩ = some (.slice (some ⟨g3, 0, none⟩) ss.length (ss.length + 64)) := lkeep hb4 q34
    have q45 : w4.cell? ⟨w2.heap.size, 5, none⟩ = some (.slice (some ⟨g4, 0, none⟩) rs.length (rs.length + 64)) := lkeep hb4 q35
    clear hb4 p30 p31 p32 p33 p34 p35 q30 q31 q32 q33 q34 q35
    have C1 := fun wx (h : Below w4.heap.size w4 wx) => objof_any nm dA (some ⟨g1, 0, none⟩) (some ⟨g2, 0, none⟩) (some ⟨g4, 0, none⟩) (some ⟨g3, 0, none⟩) code.length (code.length + 64) data.length (data.length + 64) rs.length (rs.length + 64) (ss.length + 64) ss name wx ((HKS.out.keep HD4.out).keep h) b3
    have C2 := fun wx (h : Below w4.heap.size w4 wx) => refof_any nm dA A1 A2 A4 A3 code.length c1 data.length c2 rs.length c4 c3 ss name wx ((hS.keep HB4.out).keep h) b3
    have C3 := fun wx (h : Below w4.heap.size w4 wx) => objat_any nm dA (some ⟨g1, 0, none⟩) (some ⟨g2, 0, none⟩) (some ⟨g3, 0, none⟩) (some ⟨g4, 0, none⟩) code.length (code.length + 64) data.length (data.length + 64) ss.length (ss.length + 64) (rs.length + 64) rs place wx ((HKL.out.keep HD4.out).keep h) hl
    have C4 := fun wx (h : Below w4.heap.size w4 wx) => refat_any nm dA A1 A2 A3 A4 code.length c1 data.length c2 ss.length c3 c4 rs place wx ((hL.keep HB4.out).keep h) hl
    generalize checkC nm code dA data.length ss rs = z
    obtain ⟨z1, z2⟩ := z
    generalize ofS ss name = z3 at C1 C2
    generalize atR rs place = z4 at C3 C4
    have B4 : Below w4.heap.size w4 w4.drew := (Below.refl _ _).drew
    go_wp2_with fail
    go_region_held3 (fun W => Below w4.heap.size w4 W ∧ W.cell? ⟨w.heap.size, 0, none⟩ = some (.string nm) ∧ W.cell? ⟨w.heap.size, 1, none⟩ = some (.slice A1 code.length c1) ∧ W.cell? ⟨w.heap.size, 2, none⟩ = some (.int .i64 dA) ∧ W.cell? ⟨w.heap.size, 3, none⟩ = some (.slice A2 data.length c2) ∧ W.cell? ⟨w.heap.size, 4, none⟩ = some (.slice A3 ss.length c3) ∧ W.cell? ⟨w.heap.size, 5, none⟩ = some (.slice A4 rs.length c4) ∧ W.cell? ⟨w2.heap.size, 0, none⟩ = some (.string nm) ∧ W.cell? ⟨w2.heap.size, 1, none⟩ = some (.slice (some ⟨g1, 0, none⟩) code.length (code.length + 64)) ∧ W.cell? ⟨w2.heap.size, 2, none⟩ = some (.int .i64 dA) ∧ W.cell? ⟨w2.heap.size, 3, none⟩ = some (.slice (some ⟨g2, 0, none⟩) data.length (data.length + 64)) ∧ W.cell? ⟨w2.heap.size, 4, none⟩ = some (.slice (some ⟨g3, 0, none⟩) ss.length (ss.length + 64)) ∧ W.cell? ⟨w2.heap.size, 5, none⟩ = some (.slice (some ⟨g4, 0, none⟩) rs.length (rs.length + 64))) (first | (refine ⟨lb_trans ?_ hb, lkeep hb ?_, lkeep hb ?_, lkeep hb ?_, lkeep hb ?_, lkeep hb ?_, lkeep hb ?_, lkeep hb ?_, lkeep hb ?_, lkeep hb ?_, lkeep hb ?_, lkeep hb ?_, lkeep hb ?_⟩ <;> (simp [*]; done)) | (simp [*]; done))
      (first
        | (go_at_call 11; refine (C1 _ (by first | assumption | exact (‹Below _ _ _ ∧ _›).1)).mono ?_; rintro e w5 ⟨rfl, hb⟩)
        | (go_at_call 12; refine (C2 _ (by first | assumption | exact (‹Below _ _ _ ∧ _›).1)).mono ?_; rintro e w5 ⟨rfl, hb⟩)
        | (go_at_call 13; refine (C3 _ (by first | assumption | exact (‹Below _ _ _ ∧ _›).1)).mono ?_; rintro e w5 ⟨rfl, hb⟩)
        | (go_at_call 14; refine (C4 _ (by first | assumption | exact (‹Below _ _ _ ∧ _›).1)).mono ?_; rintro e w5 ⟨rfl, hb⟩))
    rename_i hS'
    obtain ⟨sB, s0, s1, s2, s3, s4, s5, t0, t1, t2, t3, t4, t5⟩ := hS'
    have HD5 : Hid (Below w2.heap.size w2 _) := lb_trans HD4.out sB
    have HB5 : Hid (Below w.heap.size w _) := lb_trans HB4.out sB
    clear sB C1 C2 C3 C4 B4 p40 p41 p42 p43 p44 p45 q40 q41 q42 q43 q44 q45
    go_wp2_with fail
    refine (eqobj_same nm dA (some ⟨g1, 0, none⟩) (some ⟨g2, 0, none⟩) (some ⟨g3, 0, none⟩) (some ⟨g4, 0, none⟩) (code.length + 64) (data.length + 64) (ss.length + 64) (rs.length + 64) code data ss rs _ A1 A2 A3 A4 c1 c2 c3 c4 (HKC.out.keep HD5.out) (HKD.out.keep HD5.out) (HKS.out.keep HD5.out) (HKL.out.keep HD5.out) hc hd b3 hl (hC.keep HB5.out) (hD.keep HB5.out) (hS.keep HB5.out) (hL.keep HB5.out)).mono ?_
    rintro e w6 ⟨rfl, hb6⟩
    have u0 := lkeep hb6 t0
    have u1 := lkeep hb6 t1
    have u2 := lkeep hb6 t2
    have u3 := lkeep hb6 t3
    have u4 := lkeep hb6 t4
    have u5 := lkeep hb6 t5
    have HD6 : Hid (Below w2.heap.size w2 w6) := lb_trans HD5.out hb6
    have HB6 : Hid (Below w.heap.size w w6) := lb_trans HB5.out hb6
    clear hb6 s0 s1 s2 s3 s4 s5 t0 t1 t2 t3 t4 t5
    go_wp2_with fail
    refine (spareobj_any nm dA g1 code.length g2 data.length g3 ss.length g4 rs.length _ (HM1.out.keep HD6.out) (HM2.out.keep HD6.out) (HM3.out.keep HD6.out) (HM4.out.keep HD6.out) hc hd b3 hl).mono ?_
    rintro e w7 ⟨rfl, hb7⟩
    have HB7 : Hid (Below w.heap.size w w7) := lb_trans HB6.out hb7
    clear hb7
    go_wp2_with fail
    refine (lives_any _).mono ?_
    rintro e w9 ⟨rfl, hb9⟩
    have HB9 : Hid (Below w.heap.size w w9) := lb_trans HB7.out hb9
    clear hb9
    go_wp2
    go_ret
    exact ⟨rfl, HB9.out⟩


end Go.Proofs.Ytbphfgalgiinnaa
