/-
  Check of the document's answer: what is wrong with an object first; its lists are at most 2^20 long, its words of 32 bits. check of the document: what is asked of the objects. names of the document: what is asked of the symbols.
-/
import Derived.Test.YtiihfkjgdhfmiaaProg
import Derived.WalkKit
import Derived.WalkSpells
import Derived.WalkLawsBesides
import Derived.RowKit3
import Derived.Below
import Derived.Deep.QuietTactic
import Derived.BigQuiet
import Derived.WalkSmall
import Derived.Test.YtiihfkjgdhfmiaaSB12
import Derived.Test.YtiihfkjgdhfmiaaSB14
import Derived.Laws.Rows
import Derived.Test.YtiihfkjgdhfmiaaSB06
import Derived.Test.YtiihfkjgdhfmiaaSB11
namespace Go.Proofs.Ytiihfkjgdhfmiaa
open Go.RowKit

theorem cod_hit {code : List Int} {k : Nat} (hk : k < code.length) (h : ∀ j, j < k → codE code j = 0) (e : codE code k = 22) : codC code = (22, -1 - (k : Int)) := by
  unfold codC
  rw [first_hit hk h (by rw [e]; omega), e, if_neg (by simp)]
theorem cod_none {code : List Int} (h : ∀ j, j < code.length → codE code j = 0) : codC code = (0, 0) := by
  unfold codC
  rw [first_none h]; rfl
set_option maxRecDepth 100000 in
set_option maxHeartbeats 2000000 in
theorem check1 (nm : ByteArray) (dA : Int) (A1 A2 A3 A4 : Option Addr) (c1 nd c2 c3 c4 : Nat) (code : List Int) (ss : List Sym) (rs : List Rel) (S Y R : Int × Int) (w : World)
    (C1 : ∀ wx : World, Calls Try.prog 53 #[.agg #[.string nm, .slice A1 code.length c1, .int .i64 dA, .slice A2 nd c2, .slice A3 ss.length c3, .slice A4 rs.length c4]] wx fun e w' => e = .returned (.tuple #[.int .i64 S.1, .int .i64 S.2]) ∧ Below wx.heap.size wx w')
    (_C2 : ∀ wx : World, Below w.heap.size w wx → Calls Try.prog 54 #[.agg #[.string nm, .slice A1 code.length c1, .int .i64 dA, .slice A2 nd c2, .slice A3 ss.length c3, .slice A4 rs.length c4]] wx fun e w' => e = .returned (.tuple #[.int .i64 Y.1, .int .i64 Y.2]) ∧ Below wx.heap.size wx w')
    (_C3 : ∀ wx : World, Below w.heap.size w wx → Calls Try.prog 55 #[.agg #[.string nm, .slice A1 code.length c1, .int .i64 dA, .slice A2 nd c2, .slice A3 ss.length c3, .slice A4 rs.length c4]] wx fun e w' => e = .returned (.tuple #[.int .i64 R.1, .int .i64 R.2]) ∧ Below wx.heap.size wx w') (e1 : (S.1 == 0) = false) : Calls Try.prog 39 #[.agg #[.string nm, .slice A1 code.length c1, .int .i64 dA, .slice A2 nd c2, .slice A3 ss.length c3, .slice A4 rs.length c4]] w fun e w' => e = .returned (.tuple #[.int .i64 S.1, .int .i64 S.2]) ∧ Below w.heap.size w w' := by
  go_enter Try.func39, Try.ntmps39
  go_wp2_with fail
  refine (C1 _).mono ?_
  rintro e w1 ⟨rfl, hb1⟩
  have HX1 : Hid (Below (w.alloc (.cells #[.string nm, .slice A1 code.length c1, .int .i64 dA, .slice A2 nd c2, .slice A3 ss.length c3, .slice A4 rs.length c4] 49)).heap.size (w.alloc (.cells #[.string nm, .slice A1 code.length c1, .int .i64 dA, .slice A2 nd c2, .slice A3 ss.length c3, .slice A4 rs.length c4] 49)) w1) := hb1
  have HB1 : Hid (Below w.heap.size w w1) := lb_trans (lb_alloc (Below.refl _ _) _) HX1.out
  have f10 : w1.cell? ⟨w.heap.size, 0, none⟩ = some (.string nm) := lkeep HX1.out (by simp [go_sem])
  have f11 : w1.cell? ⟨w.heap.size, 1, none⟩ = some (.slice A1 code.length c1) := lkeep HX1.out (by simp [go_sem])
  have f12 : w1.cell? ⟨w.heap.size, 2, none⟩ = some (.int .i64 dA) := lkeep HX1.out (by simp [go_sem])
  have f13 : w1.cell? ⟨w.heap.size, 3, none⟩ = some (.slice A2 nd c2) := lkeep HX1.out (by simp [go_sem])
  have f14 : w1.cell? ⟨w.heap.size, 4, none⟩ = some (.slice A3 ss.length c3) := lkeep HX1.out (by simp [go_sem])
  have f15 : w1.cell? ⟨w.heap.size, 5, none⟩ = some (.slice A4 rs.length c4) := lkeep HX1.out (by simp [go_sem])
  clear hb1
  go_wp2
  go_ret2
  exact ⟨rfl, HB1.out⟩
set_option maxRecDepth 100000 in
set_option maxHeartbeats 2000000 in
theorem check2 (nm : ByteArray) (dA : Int) (A1 A2 A3 A4 : Option Addr) (c1 nd c2 c3 c4 : Nat) (code : List Int) (ss : List Sym) (rs : List Rel) (S Y R : Int × Int) (w : World)
    (C1 : ∀ wx : World, Calls Try.prog 53 #[.agg #[.string nm, .slice A1 code.length c1, .int .i64 dA, .slice A2 nd c2, .slice A3 ss.length c3, .slice A4 rs.length c4]] wx fun e w' => e = .returned (.tuple #[.int .i64 0, .int .i64 S.2]) ∧ Below wx.heap.size wx w')
    (C2 : ∀ wx : World, Below w.heap.size w wx → Calls Try.prog 54 #[.agg #[.string nm, .slice A1 code.length c1, .int .i64 dA, .slice A2 nd c2, .slice A3 ss.length c3, .slice A4 rs.length c4]] wx fun e w' => e = .returned (.tuple #[.int .i64 Y.1, .int .i64 Y.2]) ∧ Below wx.heap.size wx w')
    (_C3 : ∀ wx : World, Below w.heap.size w wx → Calls Try.prog 55 #[.agg #[.string nm, .slice A1 code.length c1, .int .i64 dA, .slice A2 nd c2, .slice A3 ss.length c3, .slice A4 rs.length c4]] wx fun e w' => e = .returned (.tuple #[.int .i64 R.1, .int .i64 R.2]) ∧ Below wx.heap.size wx w') (e2 : (Y.1 == 0) = false) : Calls Try.prog 39 #[.agg #[.string nm, .slice A1 code.length c1, .int .i64 dA, .slice A2 nd c2, .slice A3 ss.length c3, .slice A4 rs.length c4]] w fun e w' => e = .returned (.tuple #[.int .i64 Y.1, .int .i64 Y.2]) ∧ Below w.heap.size w w' := by
  go_enter Try.func39, Try.ntmps39
  go_wp2_with fail
  refine (C1 _).mono ?_
  rintro e w1 ⟨rfl, hb1⟩
  have HX1 : Hid (Below (w.alloc (.cells #[.string nm, .slice A1 code.length c1, .int .i64 dA, .slice A2 nd c2, .slice A3 ss.length c3, .slice A4 rs.length c4] 49)).heap.size (w.alloc (.cells #[.string nm, .slice A1 code.length c1, .int .i64 dA, .slice A2 nd c2, .slice A3 ss.length c3, .slice A4 rs.length c4] 49)) w1) := hb1
  have HB1 : Hid (Below w.heap.size w w1) := lb_trans (lb_alloc (Below.refl _ _) _) HX1.out
  have f10 : w1.cell? ⟨w.heap.size, 0, none⟩ = some (.string nm) := lkeep HX1.out (by simp [go_sem])
  have f11 : w1.cell? ⟨w.heap.size, 1, none⟩ = some (.slice A1 code.length c1) := lkeep HX1.out (by simp [go_sem])
  have f12 : w1.cell? ⟨w.heap.size, 2, none⟩ = some (.int .i64 dA) := lkeep HX1.out (by simp [go_sem])
  have f13 : w1.cell? ⟨w.heap.size, 3, none⟩ = some (.slice A2 nd c2) := lkeep HX1.out (by simp [go_sem])
  have f14 : w1.cell? ⟨w.heap.size, 4, none⟩ = some (.slice A3 ss.length c3) := lkeep HX1.out (by simp [go_sem])
  have f15 : w1.cell? ⟨w.heap.size, 5, none⟩ = some (.slice A4 rs.length c4) := lkeep HX1.out (by simp [go_sem])
  clear hb1
  go_wp2_with fail
  refine (C2 _ HB1.out).mono ?_
  rintro e w2 ⟨rfl, hb2⟩
  have HX2 : Hid (Below (w.alloc (.cells #[.string nm, .slice A1 code.length c1, .int .i64 dA, .slice A2 nd c2, .slice A3 ss.length c3, .slice A4 rs.length c4] 49)).heap.size (w.alloc (.cells #[.string nm, .slice A1 code.length c1, .int .i64 dA, .slice A2 nd c2, .slice A3 ss.length c3, .slice A4 rs.length c4] 49)) w2) := lb_trans HX1.out hb2
  have HB2 : Hid (Below w.heap.size w w2) := lb_trans (lb_alloc (Below.refl _ _) _) HX2.out
  have f20 : w2.cell? ⟨w.heap.size, 0, none⟩ = some (.string nm) := lkeep HX2.out (by simp [go_sem])
  have f21 : w2.cell? ⟨w.heap.size, 1, none⟩ = some (.slice A1 code.length c1) := lkeep HX2.out (by simp [go_sem])
  have f22 : w2.cell? ⟨w.heap.size, 2, none⟩ = some (.int .i64 dA) := lkeep HX2.out (by simp [go_sem])
  have f23 : w2.cell? ⟨w.heap.size, 3, none⟩ = some (.slice A2 nd c2) := lkeep HX2.out (by simp [go_sem])
  have f24 : w2.cell? ⟨w.heap.size, 4, none⟩ = some (.slice A3 ss.length c3) := lkeep HX2.out (by simp [go_sem])
  have f25 : w2.cell? ⟨w.heap.size, 5, none⟩ = some (.slice A4 rs.length c4) := lkeep HX2.out (by simp [go_sem])
  clear hb2 f10 f11 f12 f13 f14 f15
  go_wp2
  go_ret2
  exact ⟨rfl, HB2.out⟩
set_option maxRecDepth 100000 in
set_option maxHeartbeats 2000000 in
theorem check3 (nm : ByteArray) (dA : Int) (A1 A2 A3 A4 : Option Addr) (c1 nd c2 c3 c4 : Nat) (code : List Int) (ss : List Sym) (rs : List Rel) (S Y R : Int × Int) (w : World)
    (C1 : ∀ wx : World, Calls Try.prog 53 #[.agg #[.string nm, .slice A1 code.length c1, .int .i64 dA, .slice A2 nd c2, .slice A3 ss.length c3, .slice A4 rs.length c4]] wx fun e w' => e = .returned (.tuple #[.int .i64 0, .int .i64 S.2]) ∧ Below wx.heap.size wx w')
    (C2 : ∀ wx : World, Below w.heap.size w wx → Calls Try.prog 54 #[.agg #[.string nm, .slice A1 code.length c1, .int .i64 dA, .slice A2 nd c2, .slice A3 ss.length c3, .slice A4 rs.length c4]] wx fun e w' => e = .returned (.tuple #[.int .i64 0, .int .i64 Y.2]) ∧ Below wx.heap.size wx w')
    (C3 : ∀ wx : World, Below w.heap.size w wx → Calls Try.prog 55 #[.agg #[.string nm, .slice A1 code.length c1, .int .i64 dA, .slice A2 nd c2, .slice A3 ss.length c3, .slice A4 rs.length c4]] wx fun e w' => e = .returned (.tuple #[.int .i64 R.1, .int .i64 R.2]) ∧ Below wx.heap.size wx w') (e3 : (R.1 == 0) = false) : Calls Try.prog 39 #[.agg #[.string nm, .slice A1 code.length c1, .int .i64 dA, .slice A2 nd c2, .slice A3 ss.length c3, .slice A4 rs.length c4]] w fun e w' => e = .returned (.tuple #[.int .i64 R.1, .int .i64 R.2]) ∧ Below w.heap.size w w' := by
  go_enter Try.func39, Try.ntmps39
  go_wp2_with fail
  refine (C1 _).mono ?_
  rintro e w1 ⟨rfl, hb1⟩
  have HX1 : Hid (Below (w.alloc (.cells #[.string nm, .slice A1 code.length c1, .int .i64 dA, .slice A2 nd c2, .slice A3 ss.length c3, .slice A4 rs.length c4] 49)).heap.size (w.alloc (.cells #[.string nm, .slice A1 code.length c1, .int .i64 dA, .slice A2 nd c2, .slice A3 ss.length c3, .slice A4 rs.length c4] 49)) w1) := hb1
  have HB1 : Hid (Below w.heap.size w w1) := lb_trans (lb_alloc (Below.refl _ _) _) HX1.out
  have f10 : w1.cell? ⟨w.heap.size, 0, none⟩ = some (.string nm) := lkeep HX1.out (by simp [go_sem])
  have f11 : w1.cell? ⟨w.heap.size, 1, none⟩ = some (.slice A1 code.length c1) := lkeep HX1.out (by simp [go_sem])
  have f12 : w1.cell? ⟨w.heap.size, 2, none⟩ = some (.int .i64 dA) := lkeep HX1.out (by simp [go_sem])
  have f13 : w1.cell? ⟨w.heap.size, 3, none⟩ = some (.slice A2 nd c2) := lkeep HX1.out (by simp [go_sem])
  have f14 : w1.cell? ⟨w.heap.size, 4, none⟩ = some (.slice A3 ss.length c3) := lkeep HX1.out (by simp [go_sem])
  have f15 : w1.cell? ⟨w.heap.size, 5, none⟩ = some (.slice A4 rs.length c4) := lkeep HX1.out (by simp [go_sem])
  clear hb1
  go_wp2_with fail
  refine (C2 _ HB1.out).mono ?_
  rintro e w2 ⟨rfl, hb2⟩
  have HX2 : Hid (Below (w.alloc (.cells #[.string nm, .slice A1 code.length c1, .int .i64 dA, .slice A2 nd c2, .slice A3 ss.length c3, .slice A4 rs.length c4] 49)).heap.size (w.alloc (.cells #[.string nm, .slice A1 code.length c1, .int .i64 dA, .slice A2 nd c2, .slice A3 ss.length c3, .slice A4 rs.length c4] 49)) w2) := lb_trans HX1.out hb2
  have HB2 : Hid (Below w.heap.size w w2) := lb_trans (lb_alloc (Below.refl _ _) _) HX2.out
  have f20 : w2.cell? ⟨w.heap.size, 0, none⟩ = some (.string nm) := lkeep HX2.out (by simp [go_sem])
  have f21 : w2.cell? ⟨w.heap.size, 1, none⟩ = some (.slice A1 code.length c1) := lkeep HX2.out (by simp [go_sem])
  have f22 : w2.cell? ⟨w.heap.size, 2, none⟩ = some (.int .i64 dA) := lkeep HX2.out (by simp [go_sem])
  have f23 : w2.cell? ⟨w.heap.size, 3, none⟩ = some (.slice A2 nd c2) := lkeep HX2.out (by simp [go_sem])
  have f24 : w2.cell? ⟨w.heap.size, 4, none⟩ = some (.slice A3 ss.length c3) := lkeep HX2.out (by simp [go_sem])
  have f25 : w2.cell? ⟨w.heap.size, 5, none⟩ = some (.slice A4 rs.length c4) := lkeep HX2.out (by simp [go_sem])
  clear hb2 f10 f11 f12 f13 f14 f15
  go_wp2_with fail
  refine (C3 _ HB2.out).mono ?_
  rintro e w3 ⟨rfl, hb3⟩
  have HX3 : Hid (Below (w.alloc (.cells #[.string nm, .slice A1 code.length c1, .int .i64 dA, .slice A2 nd c2, .slice A3 ss.length c3, .slice A4 rs.length c4] 49)).heap.size (w.alloc (.cells #[.string nm, .slice A1 code.length c1, .int .i64 dA, .slice A2 nd c2, .slice A3 ss.length c3, .slice A4 rs.length c4] 49)) w3) := lb_trans HX2.out hb3
  have HB3 : Hid (Below w.heap.size w w3) := lb_trans (lb_alloc (Below.refl _ _) _) HX3.out
  have f30 : w3.cell? ⟨w.heap.size, 0, none⟩ = some (.string nm) := lkeep HX3.out (by simp [go_sem])
  have f31 : w3.cell? ⟨w.heap.size, 1, none⟩ = some (.slice A1 code.length c1) := lkeep HX3.out (by simp [go_sem])
  have f32 : w3.cell? ⟨w.heap.size, 2, none⟩ = some (.int .i64 dA) := lkeep HX3.out (by simp [go_sem])
  have f33 : w3.cell? ⟨w.heap.size, 3, none⟩ = some (.slice A2 nd c2) := lkeep HX3.out (by simp [go_sem])
  have f34 : w3.cell? ⟨w.heap.size, 4, none⟩ = some (.slice A3 ss.length c3) := lkeep HX3.out (by simp [go_sem])
  have f35 : w3.cell? ⟨w.heap.size, 5, none⟩ = some (.slice A4 rs.length c4) := lkeep HX3.out (by simp [go_sem])
  clear hb3 f20 f21 f22 f23 f24 f25
  go_wp2
  go_ret2
  exact ⟨rfl, HB3.out⟩
set_option maxRecDepth 100000 in
set_option maxHeartbeats 2000000 in
theorem check4 (nm : ByteArray) (dA : Int) (A1 A2 A3 A4 : Option Addr) (c1 nd c2 c3 c4 : Nat) (code : List Int) (ss : List Sym) (rs : List Rel) (S Y R : Int × Int) (w : World)
    (C1 : ∀ wx : World, Calls Try.prog 53 #[.agg #[.string nm, .slice A1 code.length c1, .int .i64 dA, .slice A2 nd c2, .slice A3 ss.length c3, .slice A4 rs.length c4]] wx fun e w' => e = .returned (.tuple #[.int .i64 0, .int .i64 S.2]) ∧ Below wx.heap.size wx w')
    (C2 : ∀ wx : World, Below w.heap.size w wx → Calls Try.prog 54 #[.agg #[.string nm, .slice A1 code.length c1, .int .i64 dA, .slice A2 nd c2, .slice A3 ss.length c3, .slice A4 rs.length c4]] wx fun e w' => e = .returned (.tuple #[.int .i64 0, .int .i64 Y.2]) ∧ Below wx.heap.size wx w')
    (C3 : ∀ wx : World, Below w.heap.size w wx → Calls Try.prog 55 #[.agg #[.string nm, .slice A1 code.length c1, .int .i64 dA, .slice A2 nd c2, .slice A3 ss.length c3, .slice A4 rs.length c4]] wx fun e w' => e = .returned (.tuple #[.int .i64 0, .int .i64 R.2]) ∧ Below wx.heap.size wx w') (hC : IntsAt w A1 .u32 code) (hR : ∀ i, i < code.length → 0 ≤ nth code i ∧ nth code i < 4294967296) (hc : code.length ≤ 1048576) : Calls Try.prog 39 #[.agg #[.string nm, .slice A1 code.length c1, .int .i64 dA, .slice A2 nd c2, .slice A3 ss.length c3, .slice A4 rs.length c4]] w fun e w' => e = .returned (.tuple #[.int .i64 (codC code).1, .int .i64 (codC code).2]) ∧ Below w.heap.size w w' := by
  go_enter Try.func39, Try.ntmps39
  go_wp2_with fail
  refine (C1 _).mono ?_
  rintro e w1 ⟨rfl, hb1⟩
  have HX1 : Hid (Below (w.alloc (.cells #[.string nm, .slice A1 code.length c1, .int .i64 dA, .slice A2 nd c2, .slice A3 ss.length c3, .slice A4 rs.length c4] 49)).heap.size (w.alloc (.cells #[.string nm, .slice A1 code.length c1, .int .i64 dA, .slice A2 nd c2, .slice A3 ss.length c3, .slice A4 rs.length c4] 49)) w1) := hb1
  have HB1 : Hid (Below w.heap.size w w1) := lb_trans (lb_alloc (Below.refl _ _) _) HX1.out
  have f10 : w1.cell? ⟨w.heap.size, 0, none⟩ = some (.string nm) := lkeep HX1.out (by simp [go_sem])
  have f11 : w1.cell? ⟨w.heap.size, 1, none⟩ = some (.slice A1 code.length c1) := lkeep HX1.out (by simp [go_sem])
  have f12 : w1.cell? ⟨w.heap.size, 2, none⟩ = some (.int .i64 dA) := lkeep HX1.out (by simp [go_sem])
  have f13 : w1.cell? ⟨w.heap.size, 3, none⟩ = some (.slice A2 nd c2) := lkeep HX1.out (by simp [go_sem])
  have f14 : w1.cell? ⟨w.heap.size, 4, none⟩ = some (.slice A3 ss.length c3) := lkeep HX1.out (by simp [go_sem])
  have f15 : w1.cell? ⟨w.heap.size, 5, none⟩ = some (.slice A4 rs.length c4) := lkeep HX1.out (by simp [go_sem])
  clear hb1
  go_wp2_with fail
  refine (C2 _ HB1.out).mono ?_
  rintro e w2 ⟨rfl, hb2⟩
  have HX2 : Hid (Below (w.alloc (.cells #[.string nm, .slice A1 code.length c1, .int .i64 dA, .slice A2 nd c2, .slice A3 ss.length c3, .slice A4 rs.length c4] 49)).heap.size (w.alloc (.cells #[.string nm, .slice A1 code.length c1, .int .i64 dA, .slice A2 nd c2, .slice A3 ss.length c3, .slice A4 rs.length c4] 49)) w2) := lb_trans HX1.out hb2
  have HB2 : Hid (Below w.heap.size w w2) := lb_trans (lb_alloc (Below.refl _ _) _) HX2.out
  have f20 : w2.cell? ⟨w.heap.size, 0, none⟩ = some (.string nm) := lkeep HX2.out (by simp [go_sem])
  have f21 : w2.cell? ⟨w.heap.size, 1, none⟩ = some (.slice A1 code.length c1) := lkeep HX2.out (by simp [go_sem])
  have f22 : w2.cell? ⟨w.heap.size, 2, none⟩ = some (.int .i64 dA) := lkeep HX2.out (by simp [go_sem])
  have f23 : w2.cell? ⟨w.heap.size, 3, none⟩ = some (.slice A2 nd c2) := lkeep HX2.out (by simp [go_sem])
  have f24 : w2.cell? ⟨w.heap.size, 4, none⟩ = some (.slice A3 ss.length c3) := lkeep HX2.out (by simp [go_sem])
  have f25 : w2.cell? ⟨w.heap.size, 5, none⟩ = some (.slice A4 rs.length c4) := lkeep HX2.out (by simp [go_sem])
  clear hb2 f10 f11 f12 f13 f14 f15
  go_wp2_with fail
  refine (C3 _ HB2.out).mono ?_
  rintro e w3 ⟨rfl, hb3⟩
  have HX3 : Hid (Below (w.alloc (.cells #[.string nm, .slice A1 code.length c1, .int .i64 dA, .slice A2 nd c2, .slice A3 ss.length c3, .slice A4 rs.length c4] 49)).heap.size (w.alloc (.cells #[.string nm, .slice A1 code.length c1, .int .i64 dA, .slice A2 nd c2, .slice A3 ss.length c3, .slice A4 rs.length c4] 49)) w3) := lb_trans HX2.out hb3
  have HB3 : Hid (Below w.heap.size w w3) := lb_trans (lb_alloc (Below.refl _ _) _) HX3.out
  have f30 : w3.cell? ⟨w.heap.size, 0, none⟩ = some (.string nm) := lkeep HX3.out (by simp [go_sem])
  have f31 : w3.cell? ⟨w.heap.size, 1, none⟩ = some (.slice A1 code.length c1) := lkeep HX3.out (by simp [go_sem])
  have f32 : w3.cell? ⟨w.heap.size, 2, none⟩ = some (.int .i64 dA) := lkeep HX3.out (by simp [go_sem])
  have f33 : w3.cell? ⟨w.heap.size, 3, none⟩ = some (.slice A2 nd c2) := lkeep HX3.out (by simp [go_sem])
  have f34 : w3.cell? ⟨w.heap.size, 4, none⟩ = some (.slice A3 ss.length c3) := lkeep HX3.out (by simp [go_sem])
  have f35 : w3.cell? ⟨w.heap.size, 5, none⟩ = some (.slice A4 rs.length c4) := lkeep HX3.out (by simp [go_sem])
  clear hb3 f20 f21 f22 f23 f24 f25
  clear C1 C2 C3 f30 f31 f32 f33 f34 f35
  go_wp2
  go_loopw [6] (fun i wr => ∃ k : Nat, i = .int .i64 k ∧ k ≤ code.length ∧ Below (w.alloc (.cells #[.string nm, .slice A1 code.length c1, .int .i64 dA, .slice A2 nd c2, .slice A3 ss.length c3, .slice A4 rs.length c4] 49)).heap.size (w.alloc (.cells #[.string nm, .slice A1 code.length c1, .int .i64 dA, .slice A2 nd c2, .slice A3 ss.length c3, .slice A4 rs.length c4] 49)) wr ∧ Hid (∀ j, j < k → codE code j = 0)) (fun i _ => code.length - (intOf i).toNat)
  case atStart => exact ⟨0, rfl, by omega, HX3.out, fun j hj => by omega⟩
  case round =>
    obtain ⟨k, rfl, hk, hB, HT⟩ := hrel
    rename_i wr _
    have f1 : wr.cell? ⟨w.heap.size, 1, none⟩ = some (.slice A1 code.length c1) := lkeep hB (by simp [go_sem])
    have HB : Hid (Below w.heap.size w wr) := lb_trans (lb_alloc (Below.refl _ _) _) hB
    have HB0 : Hid (Below (w.alloc (.cells #[.string nm, .slice A1 code.length c1, .int .i64 dA, .slice A2 nd c2, .slice A3 ss.length c3, .slice A4 rs.length c4] 49)).heap.size (w.alloc (.cells #[.string nm, .slice A1 code.length c1, .int .i64 dA, .slice A2 nd c2, .slice A3 ss.length c3, .slice A4 rs.length c4] 49)) wr) := hB
    clear hB
    by_cases hlt : k < code.length
    · obtain ⟨a, rfl, q0⟩ := (hC.keep HB.out) k hlt
      obtain ⟨v0, v1⟩ := hR k hlt
      have CT := reftarget_any (nth code k) v0 v1
      have HE1 : Hid (isT (nth code k) = true ∧ (code.length : Int) < tgV (nth code k) → codE code k = 22) := fun h => by unfold codE; rw [if_pos h]
      have HE0 : Hid (¬ (isT (nth code k) = true ∧ (code.length : Int) < tgV (nth code k)) → codE code k = 0) := fun h => by unfold codE; rw [if_neg h]
      generalize nth code k = v at q0 v0 v1 CT HE1 HE0
      go_wp2_with fail
      refine (CT _).mono ?_
      rintro e w5 ⟨rfl, hb5⟩
      have f5 := lkeep hb5 f1
      have HB5 : Hid (Below w.heap.size w w5) := lb_trans HB.out hb5
      have HB6 : Hid (Below (w.alloc (.cells #[.string nm, .slice (some a) code.length c1, .int .i64 dA, .slice A2 nd c2, .slice A3 ss.length c3, .slice A4 rs.length c4] 49)).heap.size (w.alloc (.cells #[.string nm, .slice (some a) code.length c1, .int .i64 dA, .slice A2 nd c2, .slice A3 ss.length c3, .slice A4 rs.length c4] 49)) w5) := lb_trans HB0.out hb5
      clear hb5 CT q0 f1
      cases hT : isT v with
      | false =>
        have HE : Hid (codE code k = 0) := HE0.out (by rw [hT]; simp)
        clear hT
        go_wp2
        go_roundw
        case rel => exact ⟨k + 1, by go_num, by omega, HB6.out, fun j hj => by
          by_cases hjk : j = k
          · rw [hjk]; exact HE.out
          · exact HT.out j (by omega)⟩
        case measure => simp [intOf]; omega
      | true =>
      by_cases hV : (code.length : Int) < tgV v
      · have HE : Hid (codE code k = 22) := HE1.out ⟨hT, hV⟩
        clear hT
        go_wp2
        go_ret2
        exact ⟨ret2I (by rw [cod_hit hlt HT.out HE.out]), HB5.out⟩
      · have HE : Hid (codE code k = 0) := HE0.out (fun h => hV h.2)
        clear hT
        go_wp2
        go_roundw
        case rel => exact ⟨k + 1, by go_num, by omega, HB6.out, fun j hj => by
          by_cases hjk : j = k
          · rw [hjk]; exact HE.out
          · exact HT.out j (by omega)⟩
        case measure => simp [intOf]; omega
    · have HC : Hid (codC code = (0, 0)) := cod_none fun j hj => HT.out j (by omega)
      go_wp2
      go_ret2
      exact ⟨ret2I (by rw [HC.out]), HB.out⟩
theorem refcheck_any (nm : ByteArray) (dA : Int) (A1 A2 A3 A4 : Option Addr) (c1 nd c2 c3 c4 : Nat) (code : List Int) (ss : List Sym) (rs : List Rel) (w : World) (hC : IntsAt w A1 .u32 code) (hR : ∀ i, i < code.length → 0 ≤ nth code i ∧ nth code i < 4294967296) (hS : SymsAt w A3 ss) (hL : RelsAt w A4 rs) (hc : code.length ≤ 1048576) (hd : nd ≤ 1048576) (hs : ss.length ≤ 1048576) (hl : rs.length ≤ 1048576) : Calls Try.prog 39 #[.agg #[.string nm, .slice A1 code.length c1, .int .i64 dA, .slice A2 nd c2, .slice A3 ss.length c3, .slice A4 rs.length c4]] w fun e w' => e = .returned (.tuple #[.int .i64 (checkC nm code dA nd ss rs).1, .int .i64 (checkC nm code dA nd ss rs).2]) ∧ Below w.heap.size w w' := by
  have C1 := refsize_any nm dA A1 A2 A3 A4 code.length c1 nd c2 ss.length c3 rs.length c4
  have C2 := fun wx (h : Below w.heap.size w wx) => refsyms_any nm dA A1 A2 A3 A4 code.length c1 nd c2 c3 rs.length c4 ss wx (hS.keep h) hs
  have C3 := fun wx (h : Below w.heap.size w wx) => refrels_any nm dA A1 A2 A3 A4 c1 nd c2 ss.length c3 c4 code rs wx (hC.keep h) hR (hL.keep h) hl hc
  unfold checkC
  by_cases e1 : (sizeC (nameOK nm) code.length ss.length rs.length nd dA).1 = 0
  · rw [if_neg (by simpa using e1)]
    rw [e1] at C1
    by_cases e2 : (symC ss code.length).1 = 0
    · rw [if_neg (by simpa using e2)]
      have C2' := C2
      simp only [e2] at C2'
      by_cases e3 : (relC rs code ss.length).1 = 0
      · rw [if_neg (by simpa using e3)]
        have C3' := C3
        simp only [e3] at C3'
        exact check4 nm dA A1 A2 A3 A4 c1 nd c2 c3 c4 code ss rs _ _ _ w (fun wx => C1 wx hd) C2' C3' hC hR hc
      · rw [if_pos e3]
        exact check3 nm dA A1 A2 A3 A4 c1 nd c2 c3 c4 code ss rs _ _ _ w (fun wx => C1 wx hd) C2' C3 (by simpa using e3)
    · rw [if_pos e2]
      exact check2 nm dA A1 A2 A3 A4 c1 nd c2 c3 c4 code ss rs _ _ _ w (fun wx => C1 wx hd) C2 C3 (by simpa using e2)
  · rw [if_pos e1]
    exact check1 nm dA A1 A2 A3 A4 c1 nd c2 c3 c4 code ss rs _ _ _ w (fun wx => C1 wx hd) C2 C3 (by simpa using e1)






end Go.Proofs.Ytiihfkjgdhfmiaa

namespace Go.Proofs.Ytiihfkjgdhfmiaa
open Go.RowKit

theorem ret3I {a b c d e f : Int} (h1 : a = b) (h2 : c = d) (h3 : e = f) : Ending.returned (.tuple #[.int .i64 a, .int .i64 c, .int .i64 e]) = .returned (.tuple #[.int .i64 b, .int .i64 d, .int .i64 f]) := by rw [h1, h2, h3]
theorem sameN_no {l : List Ob} {i k : Nat} (h : ((ob l k).nm.toList == (ob l i).nm.toList) = false) : sameN l i k = none := by
  unfold sameN; rw [if_neg (by rw [h]; simp)]
theorem sameN_yes {l : List Ob} {i k : Nat} (h : ((ob l k).nm.toList == (ob l i).nm.toList) = true) : sameN l i k = some () := by
  unfold sameN; rw [if_pos h]
set_option maxHeartbeats 4000000 in
set_option maxRecDepth 100000 in
theorem refchkl_any (A : Option Addr) (ca : Nat) (q : Nat → Pl) (l : List Ob) (w : World) (hA : ObsIn w A q l) :
    Calls Try.prog 25 #[.slice A l.length ca] w (ErrP (chkL l) w) := by
  have HA : Hid (ObsIn w A q l) := hA
  have hf := hA.few
  clear hA
  by_cases hm : 32 < l.length
  · have hm' : (32 : Int) < (l.length : Int) := by omega
    have HX : Hid (chkL l = some (21, 32, 0)) := by unfold Hid chkL; rw [if_pos hm]
    go_enter Try.func25, Try.ntmps25
    go_wp2
    go_ret3
    exact ⟨ret3I (by rw [HX.out]; rfl) (by rw [HX.out]; rfl) (by rw [HX.out]; rfl), Below.refl _ _⟩
  · have hm' : ¬ (32 : Int) < (l.length : Int) := by omega
    have HX : Hid (chkL l = fstN (badO l) l.length) := by unfold Hid chkL; rw [if_neg hm]
    go_enter Try.func25, Try.ntmps25
    go_wp2
    go_loopw [5] (fun i wr => ∃ k : Nat, i = .int .i64 k ∧ k ≤ l.length ∧ Hid (∀ j, j < k → badO l j = none) ∧ Hid (Below w.heap.size w wr)) (fun i _ => l.length - (intOf i).toNat)
    case atStart => exact ⟨0, rfl, Nat.zero_le _, fun j hj => absurd hj (Nat.not_lt_zero _), Below.refl _ _⟩
    case round =>
      obtain ⟨k, rfl, hk, HN, HB⟩ := hrel
      by_cases hkl : k < l.length
      · have hkl' : (k : Int) < (l.length : Int) := by omega
        obtain ⟨a, ea, x0, x1, x2, x3, x4, x5⟩ := HA.out.cells.six HB.out k hkl
        have oA := (HA.out.each k hkl).keep HB.out
        have CC := refcheck_any (ob l k).nm (ob l k).dA (q k).A1 (q k).A2 (q k).A3 (q k).A4 (q k).c1 (ob l k).data.length (q k).c2 (q k).c3 (q k).c4 (ob l k).code (ob l k).ss (ob l k).rs wr oA.cd oA.cr oA.sy oA.rl oA.hc oA.hd oA.hs oA.hl
        obtain ⟨E, hE⟩ : ∃ E, E = (obC (ob l k)).1 := ⟨_, rfl⟩
        obtain ⟨M, hM⟩ : ∃ M, M = (obC (ob l k)).2 := ⟨_, rfl⟩
        change Calls Try.prog 39 _ wr (fun e w' => e = .returned (.tuple #[.int .i64 (obC (ob l k)).1, .int .i64 (obC (ob l k)).2]) ∧ Below wr.heap.size wr w') at CC
        rw [← hE, ← hM] at CC
        have HE : Hid (E = (obC (ob l k)).1) := hE
        have HM : Hid (M = (obC (ob l k)).2) := hM
        clear oA hE hM
        subst ea
        by_cases he : E = 0
        · subst he
          go_wp2_with fail
          refine CC.mono ?_
          rintro e w1 ⟨rfl, hb1⟩
          have HB1 : Hid (Below w.heap.size w w1) := lb_trans HB.out hb1
          clear CC hb1 x0 x1 x2 x3 x4 x5
          go_wp2
          go_loopw [8] (fun i wr => ∃ j : Nat, i = .int .i64 j ∧ j ≤ k ∧ Hid (∀ m, m < j → sameN l k m = none) ∧ Hid (Below w.heap.size w wr)) (fun i _ => k - (intOf i).toNat)
          case atStart => exact ⟨0, rfl, Nat.zero_le _, fun j hj => absurd hj (Nat.not_lt_zero _), HB1⟩
          case round =>
            clear HB1 HB
            obtain ⟨j, rfl, hj, HS, HB2⟩ := hrel
            by_cases hjk : j < k
            · have hjk' : (j : Int) < (k : Int) := by omega
              have hjl : j < l.length := by omega
              have hjl' : (j : Int) < (l.length : Int) := by omega
              obtain ⟨b, eb, x0, -⟩ := HA.out.cells.six HB2.out k hkl
              obtain rfl := Option.some.inj eb
              clear eb
              obtain ⟨b, eb, y0, -⟩ := HA.out.cells.six HB2.out j hjl
              obtain rfl := Option.some.inj eb
              clear eb
              cases hn : ((ob l j).nm.toList == (ob l k).nm.toList)
              · have HS2 : Hid _ := fst_step HS.out (sameN_no hn)
                go_wp2
                go_quiet (fail)
                have HB3 : Hid (Below w.heap.size w (wr.drewN nq)) := below_drewN HB2.out _
                go_wp2
                go_roundw
                case rel => exact ⟨j + 1, by go_num, by omega, HS2, HB3⟩
                case measure => simp [intOf]; omega
              · have HX2 : Hid (chkL l = some (26, (k : Int), -1)) := by
                  rw [Hid, HX.out]
                  refine fst_hit HN.out ?_ hkl
                  unfold badO
                  rw [if_pos HE.out.symm, fst_hit HS.out (sameN_yes hn) hjk]
                go_wp2
                go_quiet (fail)
                have HB3 : Hid (Below w.heap.size w (wr.drewN nq)) := below_drewN HB2.out _
                go_wp2
                go_ret3
                exact ⟨ret3I (by rw [HX2.out]; rfl) (by rw [HX2.out]; rfl) (by rw [HX2.out]; rfl), HB3.out⟩
            · have hjk' : ¬ (j : Int) < (k : Int) := by omega
              have HN2 : Hid _ := fst_step HN.out (show badO l k = none by
                unfold badO
                rw [if_pos HE.out.symm, fst_none (fun m hm => HS.out m (by omega))])
              go_wp2
              go_roundw
              case rel => exact ⟨k + 1, by go_num, by omega, HN2, HB2⟩
              case measure => simp [intOf]; omega
        · have he' : (E != 0) = true := by simpa using he
          have HX2 : Hid (chkL l = some (E, (k : Int), M)) := by
            rw [Hid, HX.out]
            refine fst_hit HN.out ?_ hkl
            unfold badO
            rw [if_neg (by rw [← HE.out]; exact he), ← HE.out, ← HM.out]
          clear he
          go_wp2_with fail
          refine CC.mono ?_
          rintro e w1 ⟨rfl, hb1⟩
          have HB1 : Hid (Below w.heap.size w w1) := lb_trans HB.out hb1
          clear CC hb1 x0 x1 x2 x3 x4 x5
          go_wp2
          go_ret3
          exact ⟨ret3I (by rw [HX2.out]; rfl) (by rw [HX2.out]; rfl) (by rw [HX2.out]; rfl), HB1.out⟩
      · have hkl' : ¬ (k : Int) < (l.length : Int) := by omega
        have HX2 : Hid (chkL l = none) := by rw [Hid, HX.out]; exact fst_none (fun j hj => HN.out j (by omega))
        go_wp2
        go_ret3
        exact ⟨ret3I (by rw [HX2.out]; rfl) (by rw [HX2.out]; rfl) (by rw [HX2.out]; rfl), HB.out⟩


end Go.Proofs.Ytiihfkjgdhfmiaa

namespace Go.Proofs.Ytiihfkjgdhfmiaa
open Go.RowKit

theorem twS_no {l : List Ob} {i k : Nat} (h : (sKind (ob l i).ss k == 1) = false ∨ (firstF (sName (ob l i).ss k) 1 l i k).isSome = false) : twS l i k = none := by
  unfold twS
  rw [if_neg]
  rintro ⟨h1, h2⟩
  rcases h with h | h
  · rw [h1] at h; cases h
  · rw [h2] at h; cases h
theorem twS_yes {l : List Ob} {i k : Nat} (h : (sKind (ob l i).ss k == 1) = true) (h2 : (firstF (sName (ob l i).ss k) 1 l i k).isSome = true) : twS l i k = some (26, (i : Int), (k : Int)) := by
  unfold twS
  rw [if_pos ⟨h, h2⟩]
theorem unS_no {l : List Ob} {i k : Nat} (h : (sKind (ob l i).ss k == 3) = false ∨ (findF (sName (ob l i).ss k) l).isSome = true) : unS l i k = none := by
  unfold unS
  rw [if_neg]
  rintro ⟨h1, h2⟩
  rcases h with h | h
  · rw [h1] at h; cases h
  · rw [h2] at h; cases h
theorem unS_yes {l : List Ob} {i k : Nat} (h : (sKind (ob l i).ss k == 3) = true) (h2 : (findF (sName (ob l i).ss k) l).isSome = false) : unS l i k = some (40, (i : Int), (k : Int)) := by
  unfold unS
  rw [if_pos ⟨h, h2⟩]
set_option maxHeartbeats 8000000 in
set_option maxRecDepth 100000 in
theorem refnames_any (A : Option Addr) (ca : Nat) (q : Nat → Pl) (l : List Ob) (w : World) (hA : ObsIn w A q l) :
    Calls Try.prog 26 #[.slice A l.length ca] w (ErrP (namL l) w) := by
  have HA : Hid (ObsIn w A q l) := hA
  have hf := hA.few
  have C1 : Hid (∀ nm (o s : Nat) wx, Below w.heap.size w wx → o ≤ 64 → s ≤ 1048576 → Calls Try.prog 28 #[.slice A l.length ca, .string nm, .int .i8 1, .int .i64 o, .int .i64 s] wx (DefP (firstF nm 1 l o s) wx)) := fun nm o s wx hx ho hs => reffirst_any A ca q l nm 1 o s wx (hA.keep hx) ho hs
  have C2 : Hid (∀ nm wx, Below w.heap.size w wx → Calls Try.prog 11 #[.slice A l.length ca, .string nm] wx (DefP (findF nm l) wx)) := fun nm wx hx => reffind_any A ca q l nm wx (hA.keep hx)
  clear hA
  go_enter Try.func26, Try.ntmps26
  go_wp2
  go_loopw [5] (fun i wr => ∃ k : Nat, i = .int .i64 k ∧ k ≤ l.length ∧ Hid (∀ j, j < k → twO l j = none) ∧ Hid (Below w.heap.size w wr)) (fun i _ => l.length - (intOf i).toNat)
  case atStart => exact ⟨0, rfl, Nat.zero_le _, fun j hj => absurd hj (Nat.not_lt_zero _), Below.refl _ _⟩
  case round =>
    obtain ⟨k, rfl, hk, HN, HB⟩ := hrel
    by_cases hkl : k < l.length
    · have hkl' : (k : Int) < (l.length : Int) := by omega
      obtain ⟨a, ea, -⟩ := HA.out.cells k hkl
      subst ea
      go_wp2
      go_loopw [6] (fun i wr => ∃ j : Nat, i = .int .i64 j ∧ j ≤ (ob l k).ss.length ∧ Hid (∀ m, m < j → twS l k m = none) ∧ Hid (Below w.heap.size w wr)) (fun i _ => (ob l k).ss.length - (intOf i).toNat)
      case atStart => exact ⟨0, rfl, Nat.zero_le _, fun j hj => absurd hj (Nat.not_lt_zero _), HB⟩
      case round =>
        clear HB
        obtain ⟨j, rfl, hj, HS, HB1⟩ := hrel
        obtain ⟨b, eb, x0, x1, x2, x3, x4, x5⟩ := HA.out.cells.six HB1.out k hkl
        obtain rfl := Option.some.inj eb
        have hss := (HA.out.each k hkl).hs
        clear eb x0 x1 x2 x3 x5
        by_cases hjl : j < (ob l k).ss.length
        · have hjl' : (j : Int) < ((ob l k).ss.length : Int) := by omega
          obtain ⟨a3, e3, s0, s1, s2⟩ := (HA.out.each k hkl).sy j hjl
          have t0 := lkeep HB1.out s0
          have t1 : wr.cell? ⟨(a3.add (j * 3)).block, (a3.add (j * 3)).off + 1, none⟩ = some (.int .i8 (sKind (ob l k).ss j)) := lkeep HB1.out s1
          have t2 : wr.cell? ⟨(a3.add (j * 3)).block, (a3.add (j * 3)).off + 2, none⟩ = some (.int .i64 (sAt (ob l k).ss j)) := lkeep HB1.out s2
          rw [e3] at x4
          clear s0 s1 s2 e3
          have CF := C1.out (sName (ob l k).ss j) k j (wr.alloc (.cells #[.string (sName (ob l k).ss j), .int .i8 (sKind (ob l k).ss j), .int .i64 (sAt (ob l k).ss j)] 52)) (lb_alloc HB1.out _) (by omega) (by omega)
          obtain ⟨x, hx⟩ : ∃ x, x = firstF (sName (ob l k).ss j) 1 l k j := ⟨_, rfl⟩
          rw [← hx] at CF
          unfold DefP at CF
          have HX : Hid (x = firstF (sName (ob l k).ss j) 1 l k j) := hx
          clear hx
          go_wp2_with fail
          refine CF.mono ?_
          rintro e w1 ⟨rfl, hb1⟩
          have g1 : (w1.alloc (.cells #[.int .i64 (dfI x), .int .i64 (dfA x)] 37)).cell? ⟨wr.heap.size, 1, none⟩ = some (.int .i8 (sKind (ob l k).ss j)) := lkeep (lb_alloc (Below.refl _ _) _) (lkeep hb1 (by simp [go_sem]))
          have HB2 : Hid (Below w.heap.size w w1) := lb_trans (lb_alloc HB1.out _) hb1
          clear CF hb1 t0 t1 t2 x4
          cases hd : (sKind (ob l k).ss j == 1)
          · have HS2 : Hid _ := fst_step HS.out (twS_no (Or.inl hd))
            go_wp2
            go_roundw
            case rel => exact ⟨j + 1, by go_num, by omega, HS2, lb_alloc HB2.out _⟩
            case measure => simp [intOf]; omega
          · cases hy : x.isSome
            · have HS2 : Hid _ := fst_step HS.out (twS_no (Or.inr (by rw [← HX.out]; exact hy)))
              go_wp2
              go_roundw
              case rel => exact ⟨j + 1, by go_num, by omega, HS2, lb_alloc HB2.out _⟩
              case measure => simp [intOf]; omega
            · have HX2 : Hid (namL l = some (26, (k : Int), (j : Int))) := by
                unfold Hid namL
                rw [fst_hit HN.out (show twO l k = some (26, (k : Int), (j : Int)) from fst_hit HS.out (twS_yes hd (by rw [← HX.out]; exact hy)) hjl) hkl]
              go_wp2
              go_ret3
              exact ⟨ret3I (by rw [HX2.out]; rfl) (by rw [HX2.out]; rfl) (by rw [HX2.out]; rfl), lb_alloc HB2.out _⟩
        · have hjl' : ¬ (j : Int) < ((ob l k).ss.length : Int) := by omega
          have HN2 : Hid _ := fst_step HN.out (show twO l k = none from fst_none (fun m hm => HS.out m (by omega)))
          go_wp2
          go_roundw
          case rel => exact ⟨k + 1, by go_num, by omega, HN2, HB1⟩
          case measure => simp [intOf]; omega
    · have hkl' : ¬ (k : Int) < (l.length : Int) := by omega
      have HT : Hid (namL l = fstN (unO l) l.length) := by
        unfold Hid namL
        rw [fst_none (fun j hj => HN.out j (by omega))]
      clear HN
      go_wp2
      go_loopw [10] (fun i wr => ∃ k : Nat, i = .int .i64 k ∧ k ≤ l.length ∧ Hid (∀ j, j < k → unO l j = none) ∧ Hid (Below w.heap.size w wr)) (fun i _ => l.length - (intOf i).toNat)
      case atStart => exact ⟨0, rfl, Nat.zero_le _, fun j hj => absurd hj (Nat.not_lt_zero _), HB⟩
      case round =>
        clear HB hk hkl hkl'
        obtain ⟨k, rfl, hk, HN, HB⟩ := hrel
        by_cases hkl : k < l.length
        · have hkl' : (k : Int) < (l.length : Int) := by omega
          obtain ⟨a, ea, -⟩ := HA.out.cells k hkl
          subst ea
          go_wp2
          go_loopw [11] (fun i wr => ∃ j : Nat, i = .int .i64 j ∧ j ≤ (ob l k).ss.length ∧ Hid (∀ m, m < j → unS l k m = none) ∧ Hid (Below w.heap.size w wr)) (fun i _ => (ob l k).ss.length - (intOf i).toNat)
          case atStart => exact ⟨0, rfl, Nat.zero_le _, fun j hj => absurd hj (Nat.not_lt_zero _), HB⟩
          case round =>
            clear HB
            obtain ⟨j, rfl, hj, HS, HB1⟩ := hrel
            obtain ⟨b, eb, x0, x1, x2, x3, x4, x5⟩ := HA.out.cells.six HB1.out k hkl
            obtain rfl := Option.some.inj eb
            have hss := (HA.out.each k hkl).hs
            clear eb x0 x1 x2 x3 x5
            by_cases hjl : j < (ob l k).ss.length
            · have hjl' : (j : Int) < ((ob l k).ss.length : Int) := by omega
              obtain ⟨a3, e3, s0, s1, s2⟩ := (HA.out.each k hkl).sy j hjl
              have t0 := lkeep HB1.out s0
              have t1 : wr.cell? ⟨(a3.add (j * 3)).block, (a3.add (j * 3)).off + 1, none⟩ = some (.int .i8 (sKind (ob l k).ss j)) := lkeep HB1.out s1
              have t2 : wr.cell? ⟨(a3.add (j * 3)).block, (a3.add (j * 3)).off + 2, none⟩ = some (.int .i64 (sAt (ob l k).ss j)) := lkeep HB1.out s2
              rw [e3] at x4
              clear s0 s1 s2 e3
              have CF := C2.out (sName (ob l k).ss j) (wr.alloc (.cells #[.string (sName (ob l k).ss j), .int .i8 (sKind (ob l k).ss j), .int .i64 (sAt (ob l k).ss j)] 52)) (lb_alloc HB1.out _)
              obtain ⟨x, hx⟩ : ∃ x, x = findF (sName (ob l k).ss j) l := ⟨_, rfl⟩
              rw [← hx] at CF
              unfold DefP at CF
              have HX : Hid (x = findF (sName (ob l k).ss j) l) := hx
              clear hx
              go_wp2_with fail
              refine CF.mono ?_
              rintro e w1 ⟨rfl, hb1⟩
              have g1 : (w1.alloc (.cells #[.int .i64 (dfI x), .int .i64 (dfA x)] 37)).cell? ⟨wr.heap.size, 1, none⟩ = some (.int .i8 (sKind (ob l k).ss j)) := lkeep (lb_alloc (Below.refl _ _) _) (lkeep hb1 (by simp [go_sem]))
              have HB2 : Hid (Below w.heap.size w w1) := lb_trans (lb_alloc HB1.out _) hb1
              clear CF hb1 t0 t1 t2 x4
              cases hd : (sKind (ob l k).ss j == 3)
              · have HS2 : Hid _ := fst_step HS.out (unS_no (Or.inl hd))
                go_wp2
                go_roundw
                case rel => exact ⟨j + 1, by go_num, by omega, HS2, lb_alloc HB2.out _⟩
                case measure => simp [intOf]; omega
              · cases hy : x.isSome
                · have HX2 : Hid (namL l = some (40, (k : Int), (j : Int))) := by
                    rw [Hid, HT.out]
                    exact fst_hit HN.out (show unO l k = some (40, (k : Int), (j : Int)) from fst_hit HS.out (unS_yes hd (by rw [← HX.out]; exact hy)) hjl) hkl
                  go_wp2
                  go_ret3
                  exact ⟨ret3I (by rw [HX2.out]; rfl) (by rw [HX2.out]; rfl) (by rw [HX2.out]; rfl), lb_alloc HB2.out _⟩
                · have HS2 : Hid _ := fst_step HS.out (unS_no (Or.inr (by rw [← HX.out]; exact hy)))
                  go_wp2
                  go_roundw
                  case rel => exact ⟨j + 1, by go_num, by omega, HS2, lb_alloc HB2.out _⟩
                  case measure => simp [intOf]; omega
            · have hjl' : ¬ (j : Int) < ((ob l k).ss.length : Int) := by omega
              have HN2 : Hid _ := fst_step HN.out (show unO l k = none from fst_none (fun m hm => HS.out m (by omega)))
              go_wp2
              go_roundw
              case rel => exact ⟨k + 1, by go_num, by omega, HN2, HB1⟩
              case measure => simp [intOf]; omega
        · have hkl' : ¬ (k : Int) < (l.length : Int) := by omega
          have HX2 : Hid (namL l = none) := by rw [Hid, HT.out]; exact fst_none (fun j hj => HN.out j (by omega))
          go_wp2
          go_ret3
          exact ⟨ret3I (by rw [HX2.out]; rfl) (by rw [HX2.out]; rfl) (by rw [HX2.out]; rfl), HB.out⟩


end Go.Proofs.Ytiihfkjgdhfmiaa
