/-
  Check of the document's answer: what is wrong with an object first; its lists are at most 2^20 long, its words of 32 bits. Package object: what is asked of the targets; the code is at most 2^14 long, words of 32 bits. Package object: the later questions, each by what it answers; the lists are at most 2^20 long, names at most 2^47 bytes, words of 32 bits. What is asked of an object, answer by answer, as plain mathematics; no Go in sight.
-/
import Derived.Test.YthfcimmfkibmjaaGreatDoorProg
import Derived.WalkKit
import Derived.WalkSpells
import Derived.WalkLawsBesides
import Derived.RowKit3
import Derived.Below
import Derived.Deep.QuietTactic
import Derived.BigQuiet
import Derived.WalkSmall
import Derived.Test.YthfcimmfkibmjaaGreatDoorP15
import Derived.Test.YthfcimmfkibmjaaGreatDoorP16
import Derived.Test.YthfcimmfkibmjaaGreatDoorP02
import Derived.Test.YthfcimmfkibmjaaGreatDoorP13
import Derived.Test.YthfcimmfkibmjaaGreatDoorP11
import Derived.Test.YthfcimmfkibmjaaGreatDoorP10
namespace Go.Proofs.YthfcimmfkibmjaaGreatDoor
open Go.RowKit

theorem cod_hit {code : List Int} {k : Nat} (hk : k < code.length) (h : ∀ j, j < k → codE code j = 0) (e : codE code k = 22) : codC code = (22, -1 - (k : Int)) := by
  unfold codC
  rw [first_hit hk h (by rw [e]; omega), e, if_neg (by simp)]
theorem cod_none {code : List Int} (h : ∀ j, j < code.length → codE code j = 0) : codC code = (0, 0) := by
  unfold codC
  rw [first_none h]; rfl
set_option maxRecDepth 100000 in
set_option maxHeartbeats 2000000 in
theorem check1 (nm : ByteArray) (dA : Int) (A1 A2 A3 A4 : Option Addr) (c1 nd c2 c3 c4 : Nat) (code : List Int) (ss : List Sym) (rs : List Rel) (S Y R : Int × Int) (w : World)
    (C1 : ∀ wx : World, Calls Tryz.prog 87 #[.agg #[.string nm, .slice A1 code.length c1, .int .i64 dA, .slice A2 nd c2, .slice A3 ss.length c3, .slice A4 rs.length c4]] wx fun e w' => e = .returned (.tuple #[.int .i64 S.1, .int .i64 S.2]) ∧ Below wx.heap.size wx w')
    (_C2 : ∀ wx : World, Below w.heap.size w wx → Calls Tryz.prog 88 #[.agg #[.string nm, .slice A1 code.length c1, .int .i64 dA, .slice A2 nd c2, .slice A3 ss.length c3, .slice A4 rs.length c4]] wx fun e w' => e = .returned (.tuple #[.int .i64 Y.1, .int .i64 Y.2]) ∧ Below wx.heap.size wx w')
    (_C3 : ∀ wx : World, Below w.heap.size w wx → Calls Tryz.prog 89 #[.agg #[.string nm, .slice A1 code.length c1, .int .i64 dA, .slice A2 nd c2, .slice A3 ss.length c3, .slice A4 rs.length c4]] wx fun e w' => e = .returned (.tuple #[.int .i64 R.1, .int .i64 R.2]) ∧ Below wx.heap.size wx w') (e1 : (S.1 == 0) = false) : Calls Tryz.prog 32 #[.agg #[.string nm, .slice A1 code.length c1, .int .i64 dA, .slice A2 nd c2, .slice A3 ss.length c3, .slice A4 rs.length c4]] w fun e w' => e = .returned (.tuple #[.int .i64 S.1, .int .i64 S.2]) ∧ Below w.heap.size w w' := by
  go_enter Tryz.func32, Tryz.ntmps32
  go_wp2_with fail
  refine (C1 _).mono ?_
  rintro e w1 ⟨rfl, hb1⟩
  have HX1 : Hid (Below (w.alloc (.cells #[.string nm, .slice A1 code.length c1, .int .i64 dA, .slice A2 nd c2, .slice A3 ss.length c3, .slice A4 rs.length c4] 27)).heap.size (w.alloc (.cells #[.string nm, .slice A1 code.length c1, .int .i64 dA, .slice A2 nd c2, .slice A3 ss.length c3, .slice A4 rs.length c4] 27)) w1) := hb1
  have HB1 : Hid (Below w.heap.size w w1) := lb_trans (lb_alloc (Below.refl _ _) _) HX1.out
  have f10 : w1.cell? ⟨w.heap.size, 0, none⟩ = some (.string nm) := lkeep HX1.out (by simp [go_sem])
  have f11 : w1.cell? ⟨w.heap.size, 1, none⟩ = some (.slice A1 code.length c1) := lkeep HX1.out (by simp [go_sem])
  have f12 : w1.cell? ⟨w.heap.size, 2, none⟩ = some (.int .i64 dA) := lkeep HX1.out (by simp [go_sem])
  have f13 : w1.cell? ⟨w.heap.size, 3, none⟩ = some (.slice A2 nd c2) := lkeep HX1.out (by simp [go_sem])
  have f14 : w1.cell? ⟨w.heap.size, 4, none⟩ = some (.slice A3 ss.length c3) := lkeep HX1.out (by simp [go_sem])
  have f15 : w1.cell? ⟨w.heap.size, 5, none⟩ = some (.slice A4 rs.length c4) := lkeep HX1.out (by simp [go_sem])
  clear hb1
  go_wp2
  go_ret2
  exact ⟨rfl, HB1.out⟩
set_option maxRecDepth 100000 in
set_option maxHeartbeats 2000000 in
theorem check2 (nm : ByteArray) (dA : Int) (A1 A2 A3 A4 : Option Addr) (c1 nd c2 c3 c4 : Nat) (code : List Int) (ss : List Sym) (rs : List Rel) (S Y R : Int × Int) (w : World)
    (C1 : ∀ wx : World, Calls Tryz.prog 87 #[.agg #[.string nm, .slice A1 code.length c1, .int .i64 dA, .slice A2 nd c2, .slice A3 ss.length c3, .slice A4 rs.length c4]] wx fun e w' => e = .returned (.tuple #[.int .i64 0, .int .i64 S.2]) ∧ Below wx.heap.size wx w')
    (C2 : ∀ wx : World, Below w.heap.size w wx → Calls Tryz.prog 88 #[.agg #[.string nm, .slice A1 code.length c1, .int .i64 dA, .slice A2 nd c2, .slice A3 ss.length c3, .slice A4 rs.length c4]] wx fun e w' => e = .returned (.tuple #[.int .i64 Y.1, .int .i64 Y.2]) ∧ Below wx.heap.size wx w')
    (_C3 : ∀ wx : World, Below w.heap.size w wx → Calls Tryz.prog 89 #[.agg #[.string nm, .slice A1 code.length c1, .int .i64 dA, .slice A2 nd c2, .slice A3 ss.length c3, .slice A4 rs.length c4]] wx fun e w' => e = .returned (.tuple #[.int .i64 R.1, .int .i64 R.2]) ∧ Below wx.heap.size wx w') (e2 : (Y.1 == 0) = false) : Calls Tryz.prog 32 #[.agg #[.string nm, .slice A1 code.length c1, .int .i64 dA, .slice A2 nd c2, .slice A3 ss.length c3, .slice A4 rs.length c4]] w fun e w' => e = .returned (.tuple #[.int .i64 Y.1, .int .i64 Y.2]) ∧ Below w.heap.size w w' := by
  go_enter Tryz.func32, Tryz.ntmps32
  go_wp2_with fail
  refine (C1 _).mono ?_
  rintro e w1 ⟨rfl, hb1⟩
  have HX1 : Hid (Below (w.alloc (.cells #[.string nm, .slice A1 code.length c1, .int .i64 dA, .slice A2 nd c2, .slice A3 ss.length c3, .slice A4 rs.length c4] 27)).heap.size (w.alloc (.cells #[.string nm, .slice A1 code.length c1, .int .i64 dA, .slice A2 nd c2, .slice A3 ss.length c3, .slice A4 rs.length c4] 27)) w1) := hb1
  have HB1 : Hid (Below w.heap.size w w1) := lb_trans (lb_alloc (Below.refl _ _) _) HX1.out
  have f10 : w1.cell? ⟨w.heap.size, 0, none⟩ = some (.string nm) := lkeep HX1.out (by simp [go_sem])
  have f11 : w1.cell? ⟨w.heap.size, 1, none⟩ = some (.slice A1 code.length c1) := lkeep HX1.out (by simp [go_sem])
  have f12 : w1.cell? ⟨w.heap.size, 2, none⟩ = some (.int .i64 dA) := lkeep HX1.out (by simp [go_sem])
  have f13 : w1.cell? ⟨w.heap.size, 3, none⟩ = some (.slice A2 nd c2) := lkeep HX1.out (by simp [go_sem])
  have f14 : w1.cell? ⟨w.heap.size, 4, none⟩ = some (.slice A3 ss.length c3) := lkeep HX1.out (by simp [go_sem])
  have f15 : w1.cell? ⟨w.heap.size, 5, none⟩ = some (.slice A4 rs.length c4) := lkeep HX1.out (by simp [go_sem])
  clear hb1
  go_wp2_with fail
  refine (C2 _ HB1.out).mono ?_
  rintro e w2 ⟨rfl, hb2⟩
  have HX2 : Hid (Below (w.alloc (.cells #[.string nm, .slice A1 code.length c1, .int .i64 dA, .slice A2 nd c2, .slice A3 ss.length c3, .slice A4 rs.length c4] 27)).heap.size (w.alloc (.cells #[.string nm, .slice A1 code.length c1, .int .i64 dA, .slice A2 nd c2, .slice A3 ss.length c3, .slice A4 rs.length c4] 27)) w2) := lb_trans HX1.out hb2
  have HB2 : Hid (Below w.heap.size w w2) := lb_trans (lb_alloc (Below.refl _ _) _) HX2.out
  have f20 : w2.cell? ⟨w.heap.size, 0, none⟩ = some (.string nm) := lkeep HX2.out (by simp [go_sem])
  have f21 : w2.cell? ⟨w.heap.size, 1, none⟩ = some (.slice A1 code.length c1) := lkeep HX2.out (by simp [go_sem])
  have f22 : w2.cell? ⟨w.heap.size, 2, none⟩ = some (.int .i64 dA) := lkeep HX2.out (by simp [go_sem])
  have f23 : w2.cell? ⟨w.heap.size, 3, none⟩ = some (.slice A2 nd c2) := lkeep HX2.out (by simp [go_sem])
  have f24 : w2.cell? ⟨w.heap.size, 4, none⟩ = some (.slice A3 ss.length c3) := lkeep HX2.out (by simp [go_sem])
  have f25 : w2.cell? ⟨w.heap.size, 5, none⟩ = some (.slice A4 rs.length c4) := lkeep HX2.out (by simp [go_sem])
  clear hb2 f10 f11 f12 f13 f14 f15
  go_wp2
  go_ret2
  exact ⟨rfl, HB2.out⟩
set_option maxRecDepth 100000 in
set_option maxHeartbeats 2000000 in
theorem check3 (nm : ByteArray) (dA : Int) (A1 A2 A3 A4 : Option Addr) (c1 nd c2 c3 c4 : Nat) (code : List Int) (ss : List Sym) (rs : List Rel) (S Y R : Int × Int) (w : World)
    (C1 : ∀ wx : World, Calls Tryz.prog 87 #[.agg #[.string nm, .slice A1 code.length c1, .int .i64 dA, .slice A2 nd c2, .slice A3 ss.length c3, .slice A4 rs.length c4]] wx fun e w' => e = .returned (.tuple #[.int .i64 0, .int .i64 S.2]) ∧ Below wx.heap.size wx w')
    (C2 : ∀ wx : World, Below w.heap.size w wx → Calls Tryz.prog 88 #[.agg #[.string nm, .slice A1 code.length c1, .int .i64 dA, .slice A2 nd c2, .slice A3 ss.length c3, .slice A4 rs.length c4]] wx fun e w' => e = .returned (.tuple #[.int .i64 0, .int .i64 Y.2]) ∧ Below wx.heap.size wx w')
    (C3 : ∀ wx : World, Below w.heap.size w wx → Calls Tryz.prog 89 #[.agg #[.string nm, .slice A1 code.length c1, .int .i64 dA, .slice A2 nd c2, .slice A3 ss.length c3, .slice A4 rs.length c4]] wx fun e w' => e = .returned (.tuple #[.int .i64 R.1, .int .i64 R.2]) ∧ Below wx.heap.size wx w') (e3 : (R.1 == 0) = false) : Calls Tryz.prog 32 #[.agg #[.string nm, .slice A1 code.length c1, .int .i64 dA, .slice A2 nd c2, .slice A3 ss.length c3, .slice A4 rs.length c4]] w fun e w' => e = .returned (.tuple #[.int .i64 R.1, .int .i64 R.2]) ∧ Below w.heap.size w w' := by
  go_enter Tryz.func32, Tryz.ntmps32
  go_wp2_with fail
  refine (C1 _).mono ?_
  rintro e w1 ⟨rfl, hb1⟩
  have HX1 : Hid (Below (w.alloc (.cells #[.string nm, .slice A1 code.length c1, .int .i64 dA, .slice A2 nd c2, .slice A3 ss.length c3, .slice A4 rs.length c4] 27)).heap.size (w.alloc (.cells #[.string nm, .slice A1 code.length c1, .int .i64 dA, .slice A2 nd c2, .slice A3 ss.length c3, .slice A4 rs.length c4] 27)) w1) := hb1
  have HB1 : Hid (Below w.heap.size w w1) := lb_trans (lb_alloc (Below.refl _ _) _) HX1.out
  have f10 : w1.cell? ⟨w.heap.size, 0, none⟩ = some (.string nm) := lkeep HX1.out (by simp [go_sem])
  have f11 : w1.cell? ⟨w.heap.size, 1, none⟩ = some (.slice A1 code.length c1) := lkeep HX1.out (by simp [go_sem])
  have f12 : w1.cell? ⟨w.heap.size, 2, none⟩ = some (.int .i64 dA) := lkeep HX1.out (by simp [go_sem])
  have f13 : w1.cell? ⟨w.heap.size, 3, none⟩ = some (.slice A2 nd c2) := lkeep HX1.out (by simp [go_sem])
  have f14 : w1.cell? ⟨w.heap.size, 4, none⟩ = some (.slice A3 ss.length c3) := lkeep HX1.out (by simp [go_sem])
  have f15 : w1.cell? ⟨w.heap.size, 5, none⟩ = some (.slice A4 rs.length c4) := lkeep HX1.out (by simp [go_sem])
  clear hb1
  go_wp2_with fail
  refine (C2 _ HB1.out).mono ?_
  rintro e w2 ⟨rfl, hb2⟩
  have HX2 : Hid (Below (w.alloc (.cells #[.string nm, .slice A1 code.length c1, .int .i64 dA, .slice A2 nd c2, .slice A3 ss.length c3, .slice A4 rs.length c4] 27)).heap.size (w.alloc (.cells #[.string nm, .slice A1 code.length c1, .int .i64 dA, .slice A2 nd c2, .slice A3 ss.length c3, .slice A4 rs.length c4] 27)) w2) := lb_trans HX1.out hb2
  have HB2 : Hid (Below w.heap.size w w2) := lb_trans (lb_alloc (Below.refl _ _) _) HX2.out
  have f20 : w2.cell? ⟨w.heap.size, 0, none⟩ = some (.string nm) := lkeep HX2.out (by simp [go_sem])
  have f21 : w2.cell? ⟨w.heap.size, 1, none⟩ = some (.slice A1 code.length c1) := lkeep HX2.out (by simp [go_sem])
  have f22 : w2.cell? ⟨w.heap.size, 2, none⟩ = some (.int .i64 dA) := lkeep HX2.out (by simp [go_sem])
  have f23 : w2.cell? ⟨w.heap.size, 3, none⟩ = some (.slice A2 nd c2) := lkeep HX2.out (by simp [go_sem])
  have f24 : w2.cell? ⟨w.heap.size, 4, none⟩ = some (.slice A3 ss.length c3) := lkeep HX2.out (by simp [go_sem])
  have f25 : w2.cell? ⟨w.heap.size, 5, none⟩ = some (.slice A4 rs.length c4) := lkeep HX2.out (by simp [go_sem])
  clear hb2 f10 f11 f12 f13 f14 f15
  go_wp2_with fail
  refine (C3 _ HB2.out).mono ?_
  rintro e w3 ⟨rfl, hb3⟩
  have HX3 : Hid (Below (w.alloc (.cells #[.string nm, .slice A1 code.length c1, .int .i64 dA, .slice A2 nd c2, .slice A3 ss.length c3, .slice A4 rs.length c4] 27)).heap.size (w.alloc (.cells #[.string nm, .slice A1 code.length c1, .int .i64 dA, .slice A2 nd c2, .slice A3 ss.length c3, .slice A4 rs.length c4] 27)) w3) := lb_trans HX2.out hb3
  have HB3 : Hid (Below w.heap.size w w3) := lb_trans (lb_alloc (Below.refl _ _) _) HX3.out
  have f30 : w3.cell? ⟨w.heap.size, 0, none⟩ = some (.string nm) := lkeep HX3.out (by simp [go_sem])
  have f31 : w3.cell? ⟨w.heap.size, 1, none⟩ = some (.slice A1 code.length c1) := lkeep HX3.out (by simp [go_sem])
  have f32 : w3.cell? ⟨w.heap.size, 2, none⟩ = some (.int .i64 dA) := lkeep HX3.out (by simp [go_sem])
  have f33 : w3.cell? ⟨w.heap.size, 3, none⟩ = some (.slice A2 nd c2) := lkeep HX3.out (by simp [go_sem])
  have f34 : w3.cell? ⟨w.heap.size, 4, none⟩ = some (.slice A3 ss.length c3) := lkeep HX3.out (by simp [go_sem])
  have f35 : w3.cell? ⟨w.heap.size, 5, none⟩ = some (.slice A4 rs.length c4) := lkeep HX3.out (by simp [go_sem])
  clear hb3 f20 f21 f22 f23 f24 f25
  go_wp2
  go_ret2
  exact ⟨rfl, HB3.out⟩
set_option maxRecDepth 100000 in
set_option maxHeartbeats 2000000 in
theorem check4 (nm : ByteArray) (dA : Int) (A1 A2 A3 A4 : Option Addr) (c1 nd c2 c3 c4 : Nat) (code : List Int) (ss : List Sym) (rs : List Rel) (S Y R : Int × Int) (w : World)
    (C1 : ∀ wx : World, Calls Tryz.prog 87 #[.agg #[.string nm, .slice A1 code.length c1, .int .i64 dA, .slice A2 nd c2, .slice A3 ss.length c3, .slice A4 rs.length c4]] wx fun e w' => e = .returned (.tuple #[.int .i64 0, .int .i64 S.2]) ∧ Below wx.heap.size wx w')
    (C2 : ∀ wx : World, Below w.heap.size w wx → Calls Tryz.prog 88 #[.agg #[.string nm, .slice A1 code.length c1, .int .i64 dA, .slice A2 nd c2, .slice A3 ss.length c3, .slice A4 rs.length c4]] wx fun e w' => e = .returned (.tuple #[.int .i64 0, .int .i64 Y.2]) ∧ Below wx.heap.size wx w')
    (C3 : ∀ wx : World, Below w.heap.size w wx → Calls Tryz.prog 89 #[.agg #[.string nm, .slice A1 code.length c1, .int .i64 dA, .slice A2 nd c2, .slice A3 ss.length c3, .slice A4 rs.length c4]] wx fun e w' => e = .returned (.tuple #[.int .i64 0, .int .i64 R.2]) ∧ Below wx.heap.size wx w') (hC : IntsAt w A1 .u32 code) (hR : ∀ i, i < code.length → 0 ≤ nth code i ∧ nth code i < 4294967296) (hc : code.length ≤ 1048576) : Calls Tryz.prog 32 #[.agg #[.string nm, .slice A1 code.length c1, .int .i64 dA, .slice A2 nd c2, .slice A3 ss.length c3, .slice A4 rs.length c4]] w fun e w' => e = .returned (.tuple #[.int .i64 (codC code).1, .int .i64 (codC code).2]) ∧ Below w.heap.size w w' := by
  go_enter Tryz.func32, Tryz.ntmps32
  go_wp2_with fail
  refine (C1 _).mono ?_
  rintro e w1 ⟨rfl, hb1⟩
  have HX1 : Hid (Below (w.alloc (.cells #[.string nm, .slice A1 code.length c1, .int .i64 dA, .slice A2 nd c2, .slice A3 ss.length c3, .slice A4 rs.length c4] 27)).heap.size (w.alloc (.cells #[.string nm, .slice A1 code.length c1, .int .i64 dA, .slice A2 nd c2, .slice A3 ss.length c3, .slice A4 rs.length c4] 27)) w1) := hb1
  have HB1 : Hid (Below w.heap.size w w1) := lb_trans (lb_alloc (Below.refl _ _) _) HX1.out
  have f10 : w1.cell? ⟨w.heap.size, 0, none⟩ = some (.string nm) := lkeep HX1.out (by simp [go_sem])
  have f11 : w1.cell? ⟨w.heap.size, 1, none⟩ = some (.slice A1 code.length c1) := lkeep HX1.out (by simp [go_sem])
  have f12 : w1.cell? ⟨w.heap.size, 2, none⟩ = some (.int .i64 dA) := lkeep HX1.out (by simp [go_sem])
  have f13 : w1.cell? ⟨w.heap.size, 3, none⟩ = some (.slice A2 nd c2) := lkeep HX1.out (by simp [go_sem])
  have f14 : w1.cell? ⟨w.heap.size, 4, none⟩ = some (.slice A3 ss.length c3) := lkeep HX1.out (by simp [go_sem])
  have f15 : w1.cell? ⟨w.heap.size, 5, none⟩ = some (.slice A4 rs.length c4) := lkeep HX1.out (by simp [go_sem])
  clear hb1
  go_wp2_with fail
  refine (C2 _ HB1.out).mono ?_
  rintro e w2 ⟨rfl, hb2⟩
  have HX2 : Hid (Below (w.alloc (.cells #[.string nm, .slice A1 code.length c1, .int .i64 dA, .slice A2 nd c2, .slice A3 ss.length c3, .slice A4 rs.length c4] 27)).heap.size (w.alloc (.cells #[.string nm, .slice A1 code.length c1, .int .i64 dA, .slice A2 nd c2, .slice A3 ss.length c3, .slice A4 rs.length c4] 27)) w2) := lb_trans HX1.out hb2
  have HB2 : Hid (Below w.heap.size w w2) := lb_trans (lb_alloc (Below.refl _ _) _) HX2.out
  have f20 : w2.cell? ⟨w.heap.size, 0, none⟩ = some (.string nm) := lkeep HX2.out (by simp [go_sem])
  have f21 : w2.cell? ⟨w.heap.size, 1, none⟩ = some (.slice A1 code.length c1) := lkeep HX2.out (by simp [go_sem])
  have f22 : w2.cell? ⟨w.heap.size, 2, none⟩ = some (.int .i64 dA) := lkeep HX2.out (by simp [go_sem])
  have f23 : w2.cell? ⟨w.heap.size, 3, none⟩ = some (.slice A2 nd c2) := lkeep HX2.out (by simp [go_sem])
  have f24 : w2.cell? ⟨w.heap.size, 4, none⟩ = some (.slice A3 ss.length c3) := lkeep HX2.out (by simp [go_sem])
  have f25 : w2.cell? ⟨w.heap.size, 5, none⟩ = some (.slice A4 rs.length c4) := lkeep HX2.out (by simp [go_sem])
  clear hb2 f10 f11 f12 f13 f14 f15
  go_wp2_with fail
  refine (C3 _ HB2.out).mono ?_
  rintro e w3 ⟨rfl, hb3⟩
  have HX3 : Hid (Below (w.alloc (.cells #[.string nm, .slice A1 code.length c1, .int .i64 dA, .slice A2 nd c2, .slice A3 ss.length c3, .slice A4 rs.length c4] 27)).heap.size (w.alloc (.cells #[.string nm, .slice A1 code.length c1, .int .i64 dA, .slice A2 nd c2, .slice A3 ss.length c3, .slice A4 rs.length c4] 27)) w3) := lb_trans HX2.out hb3
  have HB3 : Hid (Below w.heap.size w w3) := lb_trans (lb_alloc (Below.refl _ _) _) HX3.out
  have f30 : w3.cell? ⟨w.heap.size, 0, none⟩ = some (.string nm) := lkeep HX3.out (by simp [go_sem])
  have f31 : w3.cell? ⟨w.heap.size, 1, none⟩ = some (.slice A1 code.length c1) := lkeep HX3.out (by simp [go_sem])
  have f32 : w3.cell? ⟨w.heap.size, 2, none⟩ = some (.int .i64 dA) := lkeep HX3.out (by simp [go_sem])
  have f33 : w3.cell? ⟨w.heap.size, 3, none⟩ = some (.slice A2 nd c2) := lkeep HX3.out (by simp [go_sem])
  have f34 : w3.cell? ⟨w.heap.size, 4, none⟩ = some (.slice A3 ss.length c3) := lkeep HX3.out (by simp [go_sem])
  have f35 : w3.cell? ⟨w.heap.size, 5, none⟩ = some (.slice A4 rs.length c4) := lkeep HX3.out (by simp [go_sem])
  clear hb3 f20 f21 f22 f23 f24 f25
  clear C1 C2 C3 f30 f31 f32 f33 f34 f35
  go_wp2
  go_loopw [6] (fun i wr => ∃ k : Nat, i = .int .i64 k ∧ k ≤ code.length ∧ Below (w.alloc (.cells #[.string nm, .slice A1 code.length c1, .int .i64 dA, .slice A2 nd c2, .slice A3 ss.length c3, .slice A4 rs.length c4] 27)).heap.size (w.alloc (.cells #[.string nm, .slice A1 code.length c1, .int .i64 dA, .slice A2 nd c2, .slice A3 ss.length c3, .slice A4 rs.length c4] 27)) wr ∧ Hid (∀ j, j < k → codE code j = 0)) (fun i _ => code.length - (intOf i).toNat)
  case atStart => exact ⟨0, rfl, by omega, HX3.out, fun j hj => by omega⟩
  case round =>
    obtain ⟨k, rfl, hk, hB, HT⟩ := hrel
    rename_i wr _
    have f1 : wr.cell? ⟨w.heap.size, 1, none⟩ = some (.slice A1 code.length c1) := lkeep hB (by simp [go_sem])
    have HB : Hid (Below w.heap.size w wr) := lb_trans (lb_alloc (Below.refl _ _) _) hB
    have HB0 : Hid (Below (w.alloc (.cells #[.string nm, .slice A1 code.length c1, .int .i64 dA, .slice A2 nd c2, .slice A3 ss.length c3, .slice A4 rs.length c4] 27)).heap.size (w.alloc (.cells #[.string nm, .slice A1 code.length c1, .int .i64 dA, .slice A2 nd c2, .slice A3 ss.length c3, .slice A4 rs.length c4] 27)) wr) := hB
    clear hB
    by_cases hlt : k < code.length
    · obtain ⟨a, rfl, q0⟩ := (hC.keep HB.out) k hlt
      obtain ⟨v0, v1⟩ := hR k hlt
      have CT := reftarget_any (nth code k) v0 v1
      have HE1 : Hid (isT (nth code k) = true ∧ (code.length : Int) < tgV (nth code k) → codE code k = 22) := fun h => by unfold codE; rw [if_pos h]
      have HE0 : Hid (¬ (isT (nth code k) = true ∧ (code.length : Int) < tgV (nth code k)) → codE code k = 0) := fun h => by unfold codE; rw [if_neg h]
      generalize nth code k = v at q0 v0 v1 CT HE1 HE0
      go_wp2_with fail
      refine (CT _).mono ?_
      rintro e w5 ⟨rfl, hb5⟩
      have f5 := lkeep hb5 f1
      have HB5 : Hid (Below w.heap.size w w5) := lb_trans HB.out hb5
      have HB6 : Hid (Below (w.alloc (.cells #[.string nm, .slice (some a) code.length c1, .int .i64 dA, .slice A2 nd c2, .slice A3 ss.length c3, .slice A4 rs.length c4] 27)).heap.size (w.alloc (.cells #[.string nm, .slice (some a) code.length c1, .int .i64 dA, .slice A2 nd c2, .slice A3 ss.length c3, .slice A4 rs.length c4] 27)) w5) := lb_trans HB0.out hb5
      clear hb5 CT q0 f1
      cases hT : isT v with
      | false =>
        have HE : Hid (codE code k = 0) := HE0.out (by rw [hT]; simp)
        clear hT
        go_wp2
        go_roundw
        case rel => exact ⟨k + 1, by go_num, by omega, HB6.out, fun j hj => by
          by_cases hjk : j = k
          · rw [hjk]; exact HE.out
          · exact HT.out j (by omega)⟩
        case measure => simp [intOf]; omega
      | true =>
      by_cases hV : (code.length : Int) < tgV v
      · have HE : Hid (codE code k = 22) := HE1.out ⟨hT, hV⟩
        clear hT
        go_wp2
        go_ret2
        exact ⟨ret2I (by rw [cod_hit hlt HT.out HE.out]), HB5.out⟩
      · have HE : Hid (codE code k = 0) := HE0.out (fun h => hV h.2)
        clear hT
        go_wp2
        go_roundw
        case rel => exact ⟨k + 1, by go_num, by omega, HB6.out, fun j hj => by
          by_cases hjk : j = k
          · rw [hjk]; exact HE.out
          · exact HT.out j (by omega)⟩
        case measure => simp [intOf]; omega
    · have HC : Hid (codC code = (0, 0)) := cod_none fun j hj => HT.out j (by omega)
      go_wp2
      go_ret2
      exact ⟨ret2I (by rw [HC.out]), HB.out⟩
theorem refcheck_any (nm : ByteArray) (dA : Int) (A1 A2 A3 A4 : Option Addr) (c1 nd c2 c3 c4 : Nat) (code : List Int) (ss : List Sym) (rs : List Rel) (w : World) (hC : IntsAt w A1 .u32 code) (hR : ∀ i, i < code.length → 0 ≤ nth code i ∧ nth code i < 4294967296) (hS : SymsAt w A3 ss) (hL : RelsAt w A4 rs) (hc : code.length ≤ 1048576) (hd : nd ≤ 1048576) (hs : ss.length ≤ 1048576) (hl : rs.length ≤ 1048576) : Calls Tryz.prog 32 #[.agg #[.string nm, .slice A1 code.length c1, .int .i64 dA, .slice A2 nd c2, .slice A3 ss.length c3, .slice A4 rs.length c4]] w fun e w' => e = .returned (.tuple #[.int .i64 (checkC nm code dA nd ss rs).1, .int .i64 (checkC nm code dA nd ss rs).2]) ∧ Below w.heap.size w w' := by
  have C1 := refsize_any nm dA A1 A2 A3 A4 code.length c1 nd c2 ss.length c3 rs.length c4
  have C2 := fun wx (h : Below w.heap.size w wx) => refsyms_any nm dA A1 A2 A3 A4 code.length c1 nd c2 c3 rs.length c4 ss wx (hS.keep h) hs
  have C3 := fun wx (h : Below w.heap.size w wx) => refrels_any nm dA A1 A2 A3 A4 c1 nd c2 ss.length c3 c4 code rs wx (hC.keep h) hR (hL.keep h) hl hc
  unfold checkC
  by_cases e1 : (sizeC (nameOK nm) code.length ss.length rs.length nd dA).1 = 0
  · rw [if_neg (by simpa using e1)]
    rw [e1] at C1
    by_cases e2 : (symC ss code.length).1 = 0
    · rw [if_neg (by simpa using e2)]
      have C2' := C2
      simp only [e2] at C2'
      by_cases e3 : (relC rs code ss.length).1 = 0
      · rw [if_neg (by simpa using e3)]
        have C3' := C3
        simp only [e3] at C3'
        exact check4 nm dA A1 A2 A3 A4 c1 nd c2 c3 c4 code ss rs _ _ _ w (fun wx => C1 wx hd) C2' C3' hC hR hc
      · rw [if_pos e3]
        exact check3 nm dA A1 A2 A3 A4 c1 nd c2 c3 c4 code ss rs _ _ _ w (fun wx => C1 wx hd) C2' C3 (by simpa using e3)
    · rw [if_pos e2]
      exact check2 nm dA A1 A2 A3 A4 c1 nd c2 c3 c4 code ss rs _ _ _ w (fun wx => C1 wx hd) C2 C3 (by simpa using e2)
  · rw [if_pos e1]
    exact check1 nm dA A1 A2 A3 A4 c1 nd c2 c3 c4 code ss rs _ _ _ w (fun wx => C1 wx hd) C2 C3 (by simpa using e1)



end Go.Proofs.YthfcimmfkibmjaaGreatDoor

namespace Go.Proofs.YthfcimmfkibmjaaGreatDoor
open Go.RowKit

set_option maxRecDepth 100000 in
set_option maxHeartbeats 4000000 in
theorem asktgts_any (nm : ByteArray) (dA : Int) (A1 A2 A3 A4 : Option Addr) (c1 nd c2 ns c3 nr c4 : Nat) (code : List Int) (g : Nat) (m : Nat → Bool) (w : World) (hC : IntsAt w A1 .u32 code) (hR : ∀ i, i < code.length → 0 ≤ nth code i ∧ nth code i < 4294967296) (hc : code.length ≤ 16384) (hm : MarksAt w g m) (hs : Safe code m) :
    Calls Tryz.prog 128 #[.agg #[.string nm, .slice A1 code.length c1, .int .i64 dA, .slice A2 nd c2, .slice A3 ns c3, .slice A4 nr c4], .pointer (some ⟨g, 0, none⟩)] w fun e w' => e = .returned (.tuple #[.int .i64 (codC code).1, .int .i64 (codC code).2]) ∧ Below w.heap.size w w' := by
  go_enter Tryz.func128, Tryz.ntmps128
  go_wp2
  go_loopw [13] (fun i wr => ∃ k : Nat, i = .int .i64 k ∧ k ≤ code.length ∧ Below (w.alloc (.cells #[.string nm, .slice A1 code.length c1, .int .i64 dA, .slice A2 nd c2, .slice A3 ns c3, .slice A4 nr c4] 27)).heap.size (w.alloc (.cells #[.string nm, .slice A1 code.length c1, .int .i64 dA, .slice A2 nd c2, .slice A3 ns c3, .slice A4 nr c4] 27)) wr ∧ Hid (∀ j, j < k → codE code j = 0)) (fun i _ => code.length - (intOf i).toNat)
  case atStart => exact ⟨0, rfl, by omega, Below.refl _ _, fun j hj => by omega⟩
  case round =>
    obtain ⟨k, rfl, hk, hB, HT⟩ := hrel
    rename_i wr _
    have f0 : wr.cell? ⟨w.heap.size, 0, none⟩ = some (.string nm) := lkeep hB (by simp [go_sem])
    have f1 : wr.cell? ⟨w.heap.size, 1, none⟩ = some (.slice A1 code.length c1) := lkeep hB (by simp [go_sem])
    have f2 : wr.cell? ⟨w.heap.size, 2, none⟩ = some (.int .i64 dA) := lkeep hB (by simp [go_sem])
    have f3 : wr.cell? ⟨w.heap.size, 3, none⟩ = some (.slice A2 nd c2) := lkeep hB (by simp [go_sem])
    have f4 : wr.cell? ⟨w.heap.size, 4, none⟩ = some (.slice A3 ns c3) := lkeep hB (by simp [go_sem])
    have f5 : wr.cell? ⟨w.heap.size, 5, none⟩ = some (.slice A4 nr c4) := lkeep hB (by simp [go_sem])
    have HB : Hid (Below w.heap.size w wr) := lb_trans (lb_alloc (Below.refl _ _) _) hB
    have HB0 : Hid (Below (w.alloc (.cells #[.string nm, .slice A1 code.length c1, .int .i64 dA, .slice A2 nd c2, .slice A3 ns c3, .slice A4 nr c4] 27)).heap.size (w.alloc (.cells #[.string nm, .slice A1 code.length c1, .int .i64 dA, .slice A2 nd c2, .slice A3 ns c3, .slice A4 nr c4] 27)) wr) := hB
    clear hB
    by_cases hlt : k < code.length
    · obtain ⟨a1, rfl, q1⟩ := (hC.keep HB.out) k hlt
      obtain ⟨v0, v1⟩ := hR _ hlt
      have CT := isatarget_any (nth code k) v0 v1
      have HE1 : Hid (isT (nth code k) = true ∧ (code.length : Int) < tgV (nth code k) → codE code k = 22) := fun h => by unfold codE; rw [if_pos h]
      have HE0 : Hid (¬ (isT (nth code k) = true ∧ (code.length : Int) < tgV (nth code k)) → codE code k = 0) := fun h => by unfold codE; rw [if_neg h]
      have HV : Hid (m k = true → tgV (nth code k) = 0) := hs k
      have HMR : Hid (MarksAt wr g m) := hm.keep HB.out
      generalize nth code k = v at q1 v0 v1 CT HE1 HE0 HV
      go_wp2_with fail
      refine (CT _).mono ?_
      rintro e w5 ⟨rfl, hb5⟩
      have e1 := lkeep hb5 f1
      have z0 : w5.cell? ⟨g, k, none⟩ = some (.bool (m k)) := (HMR.out.keep hb5).1 k (by omega)
      have HB5 : Hid (Below w.heap.size w w5) := lb_trans HB.out hb5
      have HB6 : Hid (Below (w.alloc (.cells #[.string nm, .slice (some a1) code.length c1, .int .i64 dA, .slice A2 nd c2, .slice A3 ns c3, .slice A4 nr c4] 27)).heap.size (w.alloc (.cells #[.string nm, .slice (some a1) code.length c1, .int .i64 dA, .slice A2 nd c2, .slice A3 ns c3, .slice A4 nr c4] 27)) w5) := lb_trans HB0.out hb5
      clear CT hb5 q1 f0 f1 f2 f3 f4 f5
      cases hT : isT v with
      | false =>
          have HE : Hid (codE code k = 0) := HE0.out (by rw [hT]; simp)
          clear hT
          go_wp2
          go_roundw
          case rel => exact ⟨k + 1, by go_num, by omega, HB6.out, fun j hj => by
            by_cases hjk : j = k
            · rw [hjk]; exact HE.out
            · exact HT.out j (by omega)⟩
          case measure => simp [intOf]; omega
      | true =>
        cases hM : m k with
        | true =>
          rw [hM] at z0
          have HE : Hid (codE code k = 0) := HE0.out (by rw [HV.out hM]; omega)
          clear hT hM
          go_wp2
          go_roundw
          case rel => exact ⟨k + 1, by go_num, by omega, HB6.out, fun j hj => by
            by_cases hjk : j = k
            · rw [hjk]; exact HE.out
            · exact HT.out j (by omega)⟩
          case measure => simp [intOf]; omega
        | false =>
          rw [hM] at z0
          by_cases h6 : (code.length : Int) < tgV v
          · have HE : Hid (codE code k = 22) := HE1.out ⟨hT, h6⟩
            clear hT hM
            go_wp2
            go_ret2
            exact ⟨ret2I (by rw [cod_hit hlt HT.out HE.out]), HB5.out⟩
          have HE : Hid (codE code k = 0) := HE0.out (by omega)
          clear hT hM
          go_wp2
          go_roundw
          case rel => exact ⟨k + 1, by go_num, by omega, HB6.out, fun j hj => by
            by_cases hjk : j = k
            · rw [hjk]; exact HE.out
            · exact HT.out j (by omega)⟩
          case measure => simp [intOf]; omega
    · have HC : Hid (codC code = (0, 0)) := cod_none fun j hj => HT.out j (by omega)
      go_wp2
      go_ret2
      exact ⟨ret2I (by rw [HC.out]), HB.out⟩


end Go.Proofs.YthfcimmfkibmjaaGreatDoor

namespace Go.Proofs.YthfcimmfkibmjaaGreatDoor
open Go.RowKit

theorem q6_any (nm : ByteArray) (dA : Int) (A1 A2 A3 A4 : Option Addr) (nc c1 nd c2 c3 nr c4 : Nat) (zs : List Sym) (b : Nat) (w : World) (o0 : w.cell? ⟨b, 0, none⟩ = some (.string nm)) (o1 : w.cell? ⟨b, 1, none⟩ = some (.slice A1 nc c1)) (o2 : w.cell? ⟨b, 2, none⟩ = some (.int .i64 dA)) (o3 : w.cell? ⟨b, 3, none⟩ = some (.slice A2 nd c2)) (o4 : w.cell? ⟨b, 4, none⟩ = some (.slice A3 zs.length c3)) (o5 : w.cell? ⟨b, 5, none⟩ = some (.slice A4 nr c4)) (hA : SymsAt w A3 zs) (hz : zs.length ≤ 1048576) (hN : ∀ i, (sName zs i).size ≤ 140737488355328) : Calls Tryz.prog 123 #[.pointer (some ⟨b, 0, none⟩)] w fun r w' => r = .returned (.tuple #[.int .i64 (symC zs nc).1, .int .i64 (symC zs nc).2]) ∧ Below w.heap.size w w' := by
  go_enter Tryz.func123, Tryz.ntmps123
  go_wp2_with fail
  refine (asksyms_any nm dA A1 A2 A3 A4 nc c1 nd c2 c3 nr c4 zs _ hA hz hN).mono ?_
  rintro r w1 ⟨rfl, hb⟩
  have HB : Hid (Below w.heap.size w w1) := hb
  clear hb
  go_wp2
  go_ret2
  exact ⟨rfl, HB.out⟩
theorem q7_any (nm : ByteArray) (dA : Int) (A1 A2 A3 A4 : Option Addr) (c1 nd c2 ns c3 c4 : Nat) (code : List Int) (zs : List Rel) (g : Nat) (m0 : Nat → Bool) (b : Nat) (w0 w : World) (o0 : w.cell? ⟨b, 0, none⟩ = some (.string nm)) (o1 : w.cell? ⟨b, 1, none⟩ = some (.slice A1 code.length c1)) (o2 : w.cell? ⟨b, 2, none⟩ = some (.int .i64 dA)) (o3 : w.cell? ⟨b, 3, none⟩ = some (.slice A2 nd c2)) (o4 : w.cell? ⟨b, 4, none⟩ = some (.slice A3 ns c3)) (o5 : w.cell? ⟨b, 5, none⟩ = some (.slice A4 zs.length c4)) (hC : IntsAt w0 A1 .u32 code) (hR : ∀ i, i < code.length → 0 ≤ nth code i ∧ nth code i < 4294967296) (hA : RelsAt w0 A4 zs) (hb0 : Below w0.heap.size w0 w) (hg0 : w0.heap.size ≤ g) (hz : zs.length ≤ 1048576) (hc : code.length ≤ 16384) (hm : MarksAt w g m0) (hs : Safe code m0) : Calls Tryz.prog 125 #[.pointer (some ⟨b, 0, none⟩), .pointer (some ⟨g, 0, none⟩)] w fun r w' => r = .returned (.tuple #[.int .i64 (relC zs code ns).1, .int .i64 (relC zs code ns).2]) ∧ But g w w' ∧ ∃ m, MarksAt w' g m ∧ Safe code m := by
  go_enter Tryz.func125, Tryz.ntmps125
  go_wp2_with fail
  refine (askrels_any nm dA A1 A2 A3 A4 c1 nd c2 ns c3 c4 code zs g m0 w0 _ hC hR hA hb0 hg0 hz hc hm hs).mono ?_
  rintro r w1 ⟨rfl, hb, m, hm1, hs1⟩
  have HB : Hid (But g w w1) := hb
  have HM : Hid (MarksAt w1 g m) := hm1
  have HS : Hid (Safe code m) := hs1
  clear hb hm1 hs1
  go_wp2
  go_ret2
  exact ⟨rfl, HB.out, m, HM.out, HS.out⟩
theorem q8_any (nm : ByteArray) (dA : Int) (A1 A2 A3 A4 : Option Addr) (c1 nd c2 ns c3 nr c4 : Nat) (code : List Int) (g : Nat) (m : Nat → Bool) (b : Nat) (w : World) (o0 : w.cell? ⟨b, 0, none⟩ = some (.string nm)) (o1 : w.cell? ⟨b, 1, none⟩ = some (.slice A1 code.length c1)) (o2 : w.cell? ⟨b, 2, none⟩ = some (.int .i64 dA)) (o3 : w.cell? ⟨b, 3, none⟩ = some (.slice A2 nd c2)) (o4 : w.cell? ⟨b, 4, none⟩ = some (.slice A3 ns c3)) (o5 : w.cell? ⟨b, 5, none⟩ = some (.slice A4 nr c4)) (hC : IntsAt w A1 .u32 code) (hR : ∀ i, i < code.length → 0 ≤ nth code i ∧ nth code i < 4294967296) (hc : code.length ≤ 16384) (hm : MarksAt w g m) (hs : Safe code m) : Calls Tryz.prog 127 #[.pointer (some ⟨b, 0, none⟩), .pointer (some ⟨g, 0, none⟩)] w fun r w' => r = .returned (.tuple #[.int .i64 (codC code).1, .int .i64 (codC code).2]) ∧ Below w.heap.size w w' := by
  go_enter Tryz.func127, Tryz.ntmps127
  go_wp2_with fail
  refine (asktgts_any nm dA A1 A2 A3 A4 c1 nd c2 ns c3 nr c4 code g m _ hC hR hc hm hs).mono ?_
  rintro r w1 ⟨rfl, hb⟩
  have HB : Hid (Below w.heap.size w w1) := hb
  clear hb
  go_wp2
  go_ret2
  exact ⟨rfl, HB.out⟩


end Go.Proofs.YthfcimmfkibmjaaGreatDoor

namespace Go.Proofs.YthfcimmfkibmjaaGreatDoor
open Go.RowKit

def ansQ (nm : ByteArray) (code : List Int) (dA : Int) (nd : Nat) (ss : List Sym) (rs : List Rel) : Nat → Int × Int
  | 0 => (rfs (!nameOK nm) 20, rfs (!nameOK nm) (-1))
  | 1 => (rfs (decide (16384 < code.length)) 21, rfs (decide (16384 < code.length)) (-1))
  | 2 => (rfs (decide (256 < ss.length)) 21, rfs (decide (256 < ss.length)) (-2))
  | 3 => (rfs (decide (code.length < rs.length)) 21, rfs (decide (code.length < rs.length)) (-3))
  | 4 => (rfs (!decide (0 ≤ dA ∧ (nd : Int) ≤ 4096 - dA)) 25, rfs (!decide (0 ≤ dA ∧ (nd : Int) ≤ 4096 - dA)) (-1))
  | 5 => symC ss code.length
  | 6 => relC rs code ss.length
  | 7 => codC code
  | _ => (0, 0)
theorem rfs_zero {b : Bool} {e : Int} (he : ¬ e = 0) (h : rfs b e = 0) : b = false := by
  cases b with
  | false => rfl
  | true => exact absurd h he
theorem rfs_not {b : Bool} {e : Int} (h : ¬ rfs b e = 0) : b = true := by
  cases b with
  | false => exact absurd rfl h
  | true => rfl
theorem z0 {nm : ByteArray} {code : List Int} {dA : Int} {nd : Nat} {ss : List Sym} {rs : List Rel} (h : (ansQ nm code dA nd ss rs 0).1 = 0) : ¬ nameOK nm = false := by
  have := rfs_zero (by omega) h
  simpa using this
theorem z1 {nm : ByteArray} {code : List Int} {dA : Int} {nd : Nat} {ss : List Sym} {rs : List Rel} (h : (ansQ nm code dA nd ss rs 1).1 = 0) : ¬ 16384 < code.length := of_decide_eq_false (rfs_zero (by omega) h)
theorem z2 {nm : ByteArray} {code : List Int} {dA : Int} {nd : Nat} {ss : List Sym} {rs : List Rel} (h : (ansQ nm code dA nd ss rs 2).1 = 0) : ¬ 256 < ss.length := of_decide_eq_false (rfs_zero (by omega) h)
theorem z3 {nm : ByteArray} {code : List Int} {dA : Int} {nd : Nat} {ss : List Sym} {rs : List Rel} (h : (ansQ nm code dA nd ss rs 3).1 = 0) : ¬ code.length < rs.length := of_decide_eq_false (rfs_zero (by omega) h)
theorem z4 {nm : ByteArray} {code : List Int} {dA : Int} {nd : Nat} {ss : List Sym} {rs : List Rel} (h : (ansQ nm code dA nd ss rs 4).1 = 0) : ¬ (dA < 0 ∨ 4096 < dA ∨ 4096 - dA < (nd : Int)) := by
  have := rfs_zero (by omega) h
  rw [Bool.not_eq_false'] at this
  have := of_decide_eq_true this
  omega
theorem cod_zero {code : List Int} (h : (codC code).1 = 0) : codC code = (0, 0) := by
  unfold codC at h ⊢
  split at h
  · next h1 => rw [if_pos h1]
  · omega
theorem size_zero {nm : ByteArray} {code : List Int} {dA : Int} {nd : Nat} {ss : List Sym} {rs : List Rel} {k : Nat} (h : ∀ j, j < k → (ansQ nm code dA nd ss rs j).1 = 0) (hk : 5 ≤ k) : sizeC (nameOK nm) code.length ss.length rs.length nd dA = (0, 0) := by
  unfold sizeC; rw [if_neg (z0 (h 0 (by omega))), if_neg (z1 (h 1 (by omega))), if_neg (z2 (h 2 (by omega))), if_neg (z3 (h 3 (by omega))), if_neg (z4 (h 4 (by omega)))]
theorem ans_hit {nm : ByteArray} {code : List Int} {dA : Int} {nd : Nat} {ss : List Sym} {rs : List Rel} : ∀ (k : Nat), k < 8 → (∀ j, j < k → (ansQ nm code dA nd ss rs j).1 = 0) → ¬ (ansQ nm code dA nd ss rs k).1 = 0 → checkC nm code dA nd ss rs = ansQ nm code dA nd ss rs k
  | 0, _, _, e => by
    have hb : (!nameOK nm) = true := rfs_not e
    have hn : nameOK nm = false := by simpa using hb
    have hs : sizeC (nameOK nm) code.length ss.length rs.length nd dA = (20, -1) := by unfold sizeC; rw [if_pos hn]
    unfold checkC ansQ
    rw [hs, if_pos (by simp), hb]; rfl
  | 1, _, h, e => by
    have hb := rfs_not e
    have hs : sizeC (nameOK nm) code.length ss.length rs.length nd dA = (21, -1) := by unfold sizeC; rw [if_neg (z0 (h 0 (by omega))), if_pos (of_decide_eq_true hb)]
    unfold checkC ansQ
    rw [hs, if_pos (by simp), hb]; rfl
  | 2, _, h, e => by
    have hb := rfs_not e
    have hs : sizeC (nameOK nm) code.length ss.length rs.length nd dA = (21, -2) := by unfold sizeC; rw [if_neg (z0 (h 0 (by omega))), if_neg (z1 (h 1 (by omega))), if_pos (of_decide_eq_true hb)]
    unfold checkC ansQ
    rw [hs, if_pos (by simp), hb]; rfl
  | 3, _, h, e => by
    have hb := rfs_not e
    have hs : sizeC (nameOK nm) code.length ss.length rs.length nd dA = (21, -3) := by unfold sizeC; rw [if_neg (z0 (h 0 (by omega))), if_neg (z1 (h 1 (by omega))), if_neg (z2 (h 2 (by omega))), if_pos (of_decide_eq_true hb)]
    unfold checkC ansQ
    rw [hs, if_pos (by simp), hb]; rfl
  | 4, _, h, e => by
    have hb := rfs_not e
    have hx : dA < 0 ∨ 4096 < dA ∨ 4096 - dA < (nd : Int) := by
      have hb' := hb
      rw [Bool.not_eq_true'] at hb'
      have := of_decide_eq_false hb'
      omega
    have hs : sizeC (nameOK nm) code.length ss.length rs.length nd dA = (25, -1) := by unfold sizeC; rw [if_neg (z0 (h 0 (by omega))), if_neg (z1 (h 1 (by omega))), if_neg (z2 (h 2 (by omega))), if_neg (z3 (h 3 (by omega))), if_pos hx]
    unfold checkC ansQ
    rw [hs, if_pos (by simp), hb]; rfl
  | 5, _, h, e => by
    have hs := size_zero (nm := nm) (nd := nd) (dA := dA) h (by omega)
    unfold checkC
    rw [hs, if_neg (by simp), if_pos (show ¬ (symC ss code.length).1 = 0 from e)]; rfl
  | 6, _, h, e => by
    have hs := size_zero (nm := nm) (nd := nd) (dA := dA) h (by omega)
    unfold checkC
    rw [hs, if_neg (by simp), if_neg (by simpa using (show (symC ss code.length).1 = 0 from h 5 (by omega))), if_pos (show ¬ (relC rs code ss.length).1 = 0 from e)]; rfl
  | 7, _, h, _ => by
    have hs := size_zero (nm := nm) (nd := nd) (dA := dA) h (by omega)
    unfold checkC
    rw [hs, if_neg (by simp), if_neg (by simpa using (show (symC ss code.length).1 = 0 from h 5 (by omega))), if_neg (by simpa using (show (relC rs code ss.length).1 = 0 from h 6 (by omega)))]; rfl
  | k + 8, hk, _, _ => by omega
theorem ans_none {nm : ByteArray} {code : List Int} {dA : Int} {nd : Nat} {ss : List Sym} {rs : List Rel} (h : ∀ j, j < 8 → (ansQ nm code dA nd ss rs j).1 = 0) : checkC nm code dA nd ss rs = (0, 0) := by
  have hs := size_zero (nm := nm) (nd := nd) (dA := dA) h (by omega)
  unfold checkC
  rw [hs, if_neg (by simp), if_neg (by simpa using (show (symC ss code.length).1 = 0 from h 5 (by omega))), if_neg (by simpa using (show (relC rs code ss.length).1 = 0 from h 6 (by omega)))]
  exact cod_zero (h 7 (by omega))


end Go.Proofs.YthfcimmfkibmjaaGreatDoor
