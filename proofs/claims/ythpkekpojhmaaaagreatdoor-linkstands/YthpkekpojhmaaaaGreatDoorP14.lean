/-
  The look at an object's symbols, by the document's answer; the lists are at most 2^20 long. Check of the document's answer: what is wrong with an object first; its lists are at most 2^20 long, its words of 32 bits. Package object: what is asked of the targets; the code is at most 2^14 long, words of 32 bits. Package object: the later questions, each by what it answers; the lists are at most 2^20 long, names at most 2^47 bytes, words of 32 bits.
-/
import Derived.Test.YthpkekpojhmaaaaGreatDoorProg
import Derived.WalkKit
import Derived.WalkSpells
import Derived.WalkLawsBesides
import Derived.RowKit3
import Derived.Below
import Derived.Deep.QuietTactic
import Derived.BigQuiet
import Derived.WalkSmall
import Derived.Test.YthpkekpojhmaaaaGreatDoorP13
import Derived.Test.YthpkekpojhmaaaaGreatDoorP12
import Derived.Test.YthpkekpojhmaaaaGreatDoorP02
namespace Go.Proofs.YthpkekpojhmaaaaGreatDoor
open Go.RowKit

set_option maxRecDepth 100000 in
set_option maxHeartbeats 2000000 in
theorem refsyms_any (nm : ByteArray) (dA : Int) (A1 A2 A A4 : Option Addr) (nc c1 nd c2 c3 nr c4 : Nat) (zs : List Sym) (w : World) (hA : SymsAt w A zs) (hz : zs.length ≤ 1048576) :
    Calls Tryz.prog 172 #[.agg #[.string nm, .slice A1 nc c1, .int .i64 dA, .slice A2 nd c2, .slice A zs.length c3, .slice A4 nr c4]] w fun e w' => e = .returned (.tuple #[.int .i64 (symC zs nc).1, .int .i64 (symC zs nc).2]) ∧ Below w.heap.size w w' := by
  go_enter Tryz.func172, Tryz.ntmps172
  go_wp2
  go_loopw [4] (fun i wr => ∃ k : Nat, i = .int .i64 k ∧ k ≤ zs.length ∧ Below (w.alloc (.cells #[.string nm, .slice A1 nc c1, .int .i64 dA, .slice A2 nd c2, .slice A zs.length c3, .slice A4 nr c4] 75)).heap.size (w.alloc (.cells #[.string nm, .slice A1 nc c1, .int .i64 dA, .slice A2 nd c2, .slice A zs.length c3, .slice A4 nr c4] 75)) wr ∧ Hid (∀ j, j < k → symE zs nc j = 0)) (fun i _ => zs.length - (intOf i).toNat)
  case atStart => exact ⟨0, rfl, by omega, Below.refl _ _, fun j hj => by omega⟩
  case round =>
    obtain ⟨k, rfl, hk, hB, HT⟩ := hrel
    rename_i wr _
    have f0 : wr.cell? ⟨w.heap.size, 0, none⟩ = some (.string nm) := lkeep hB (by simp [go_sem])
    have f1 : wr.cell? ⟨w.heap.size, 1, none⟩ = some (.slice A1 nc c1) := lkeep hB (by simp [go_sem])
    have f2 : wr.cell? ⟨w.heap.size, 2, none⟩ = some (.int .i64 dA) := lkeep hB (by simp [go_sem])
    have f3 : wr.cell? ⟨w.heap.size, 3, none⟩ = some (.slice A2 nd c2) := lkeep hB (by simp [go_sem])
    have f4 : wr.cell? ⟨w.heap.size, 4, none⟩ = some (.slice A zs.length c3) := lkeep hB (by simp [go_sem])
    have f5 : wr.cell? ⟨w.heap.size, 5, none⟩ = some (.slice A4 nr c4) := lkeep hB (by simp [go_sem])
    have HB : Hid (Below w.heap.size w wr) := lb_trans (lb_alloc (Below.refl _ _) _) hB
    have HB0 : Hid (Below (w.alloc (.cells #[.string nm, .slice A1 nc c1, .int .i64 dA, .slice A2 nd c2, .slice A zs.length c3, .slice A4 nr c4] 75)).heap.size (w.alloc (.cells #[.string nm, .slice A1 nc c1, .int .i64 dA, .slice A2 nd c2, .slice A zs.length c3, .slice A4 nr c4] 75)) wr) := hB
    clear hB
    by_cases hlt : k < zs.length
    · obtain ⟨a, rfl, c0, c1', c2'⟩ := (hA.keep HB.out) k hlt
      have d1 : wr.cell? ⟨(a.add (k * 3)).block, (a.add (k * 3)).off + 1, none⟩ = some (.int .i8 (sKind zs k)) := c1'
      have d2 : wr.cell? ⟨(a.add (k * 3)).block, (a.add (k * 3)).off + 2, none⟩ = some (.int .i64 (sAt zs k)) := c2'
      clear c1' c2'
      have CN := refname_any (sName zs k)
      have g0 : (wr.alloc (.cells #[.string (sName zs k), .int .i8 (sKind zs k), .int .i64 (sAt zs k)] 131)).cell? ⟨w.heap.size, 0, none⟩ = some (.string nm) := lkeep (lb_alloc (Below.refl _ _) _) f0
      have g1 : (wr.alloc (.cells #[.string (sName zs k), .int .i8 (sKind zs k), .int .i64 (sAt zs k)] 131)).cell? ⟨w.heap.size, 1, none⟩ = some (.slice A1 nc c1) := lkeep (lb_alloc (Below.refl _ _) _) f1
      have g2 : (wr.alloc (.cells #[.string (sName zs k), .int .i8 (sKind zs k), .int .i64 (sAt zs k)] 131)).cell? ⟨w.heap.size, 2, none⟩ = some (.int .i64 dA) := lkeep (lb_alloc (Below.refl _ _) _) f2
      have g3 : (wr.alloc (.cells #[.string (sName zs k), .int .i8 (sKind zs k), .int .i64 (sAt zs k)] 131)).cell? ⟨w.heap.size, 3, none⟩ = some (.slice A2 nd c2) := lkeep (lb_alloc (Below.refl _ _) _) f3
      have g4 : (wr.alloc (.cells #[.string (sName zs k), .int .i8 (sKind zs k), .int .i64 (sAt zs k)] 131)).cell? ⟨w.heap.size, 4, none⟩ = some (.slice (some a) zs.length c3) := lkeep (lb_alloc (Below.refl _ _) _) f4
      have g5 : (wr.alloc (.cells #[.string (sName zs k), .int .i8 (sKind zs k), .int .i64 (sAt zs k)] 131)).cell? ⟨w.heap.size, 5, none⟩ = some (.slice A4 nr c4) := lkeep (lb_alloc (Below.refl _ _) _) f5
      have HA2 : Hid (SymsAt (wr.alloc (.cells #[.string (sName zs k), .int .i8 (sKind zs k), .int .i64 (sAt zs k)] 131)) (some a) zs) := (hA.keep HB.out).keep (lb_alloc (Below.refl _ _) _)
      cases h1 : nameOK (sName zs k) with
      | false =>
        rw [h1] at CN
        have HE : Hid (symE zs nc k = 20) := by unfold Hid symE; rw [if_pos h1]
        clear h1
        go_wp2_with fail
        refine (CN _).mono ?_
        rintro e w2 ⟨rfl, rfl⟩
        go_wp2
        go_ret2
        exact ⟨ret2I (by rw [symC, first_hit hlt HT.out (by rw [HE.out]; omega), HE.out]), lb_alloc HB.out _⟩
      | true =>
        rw [h1] at CN
        have HN : Hid (¬ nameOK (sName zs k) = false) := by rw [Hid, h1]; simp
        clear h1
        go_wp2_with fail
        refine (CN _).mono ?_
        rintro e w2 ⟨rfl, rfl⟩
        clear CN
        go_wp2_with fail
        refine (refof_any nm dA A1 A2 A4 (some a) nc c1 nd c2 nr c4 c3 zs (sName zs k) _ HA2.out hz).mono ?_
        rintro e w3 ⟨rfl, hb3⟩
        have s0 : w3.cell? ⟨wr.heap.size, 0, none⟩ = some (.string (sName zs k)) := lkeep hb3 (by simp [go_sem])
        have s1 : w3.cell? ⟨wr.heap.size, 1, none⟩ = some (.int .i8 (sKind zs k)) := lkeep hb3 (by simp [go_sem])
        have s2 : w3.cell? ⟨wr.heap.size, 2, none⟩ = some (.int .i64 (sAt zs k)) := lkeep hb3 (by simp [go_sem])
        have b1 := lkeep hb3 g1
        have HB3 : Hid (Below (w.alloc (.cells #[.string nm, .slice A1 nc c1, .int .i64 dA, .slice A2 nd c2, .slice (some a) zs.length c3, .slice A4 nr c4] 75)).heap.size (w.alloc (.cells #[.string nm, .slice A1 nc c1, .int .i64 dA, .slice A2 nd c2, .slice (some a) zs.length c3, .slice A4 nr c4] 75)) w3) := lb_trans (lb_alloc HB0.out _) hb3
        have HW : Hid (Below w.heap.size w w3) := lb_trans (lb_alloc HB.out _) hb3
        clear hb3 g0 g1 g2 g3 g4 g5 f0 f1 f2 f3 f4 f5 c0 d1 d2
        cases h2 : (ofS zs (sName zs k) == (k : Int)) with
        | false =>
          have HE : Hid (symE zs nc k = 26) := by unfold Hid symE; rw [if_neg HN.out, if_pos (by simpa using h2)]
          go_wp2
          go_ret2
          exact ⟨ret2I (by rw [symC, first_hit hlt HT.out (by rw [HE.out]; omega), HE.out]), HW.out⟩
        | true =>
        have HO : Hid (¬ ¬ ofS zs (sName zs k) = (k : Int)) := by rw [Hid]; simpa using h2
        by_cases h3 : sKind zs k < 0
        · have HE : Hid (symE zs nc k = 23) := by unfold Hid symE; rw [if_neg HN.out, if_neg HO.out, if_pos (Or.inl h3)]
          go_wp2
          go_ret2
          exact ⟨ret2I (by rw [symC, first_hit hlt HT.out (by rw [HE.out]; omega), HE.out]), HW.out⟩
        by_cases h4 : 3 < sKind zs k
        · have HE : Hid (symE zs nc k = 23) := by unfold Hid symE; rw [if_neg HN.out, if_neg HO.out, if_pos (Or.inr h4)]
          go_wp2
          go_ret2
          exact ⟨ret2I (by rw [symC, first_hit hlt HT.out (by rw [HE.out]; omega), HE.out]), HW.out⟩
        have HK : Hid (¬ (sKind zs k < 0 ∨ 3 < sKind zs k)) := by rw [Hid]; omega
        by_cases h5 : sAt zs k < 0
        · have HE : Hid (symE zs nc k = 22) := by unfold Hid symE; rw [if_neg HN.out, if_neg HO.out, if_neg HK.out, if_pos (Or.inl h5)]
          go_wp2
          go_ret2
          exact ⟨ret2I (by rw [symC, first_hit hlt HT.out (by rw [HE.out]; omega), HE.out]), HW.out⟩
        by_cases h6 : (nc : Int) < sAt zs k
        · have HE : Hid (symE zs nc k = 22) := by unfold Hid symE; rw [if_neg HN.out, if_neg HO.out, if_neg HK.out, if_pos (Or.inr (Or.inl h6))]
          go_wp2
          go_ret2
          exact ⟨ret2I (by rw [symC, first_hit hlt HT.out (by rw [HE.out]; omega), HE.out]), HW.out⟩
        cases h7 : (sKind zs k == 3) with
        | false =>
          have HE : Hid (symE zs nc k = 0) := by
            have e7 : ¬ sKind zs k = 3 := by simpa using h7
            unfold Hid symE; rw [if_neg HN.out, if_neg HO.out, if_neg HK.out, if_neg (by omega)]
          go_wp2
          go_roundw
          case rel => exact ⟨k + 1, by go_num, by omega, HB3.out, fun j hj => by
            by_cases hjk : j = k
            · rw [hjk]; exact HE.out
            · exact HT.out j (by omega)⟩
          case measure => simp [intOf]; omega
        | true =>
        cases h8 : (sAt zs k == 0) with
        | false =>
          have h8' : (sAt zs k != 0) = true := by simpa using h8
          have HE : Hid (symE zs nc k = 22) := by unfold Hid symE; rw [if_neg HN.out, if_neg HO.out, if_neg HK.out, if_pos (Or.inr (Or.inr ⟨by simpa using h7, by simpa using h8⟩))]
          go_wp2
          go_ret2
          exact ⟨ret2I (by rw [symC, first_hit hlt HT.out (by rw [HE.out]; omega), HE.out]), HW.out⟩
        | true =>
          have h8' : (sAt zs k != 0) = false := by simpa using h8
          have HE : Hid (symE zs nc k = 0) := by
            have e8 : sAt zs k = 0 := by simpa using h8
            unfold Hid symE; rw [if_neg HN.out, if_neg HO.out, if_neg HK.out, if_neg (by omega)]
          go_wp2
          go_roundw
          case rel => exact ⟨k + 1, by go_num, by omega, HB3.out, fun j hj => by
            by_cases hjk : j = k
            · rw [hjk]; exact HE.out
            · exact HT.out j (by omega)⟩
          case measure => simp [intOf]; omega
    · have HC : Hid (symC zs nc = (0, 0)) := first_none fun j hj => HT.out j (by omega)
      go_wp2
      go_ret2
      exact ⟨ret2I (by rw [HC.out]), HB.out⟩







end Go.Proofs.YthpkekpojhmaaaaGreatDoor

namespace Go.Proofs.YthpkekpojhmaaaaGreatDoor
open Go.RowKit

theorem cod_hit {code : List Int} {k : Nat} (hk : k < code.length) (h : ∀ j, j < k → codE code j = 0) (e : codE code k = 22) : codC code = (22, -1 - (k : Int)) := by
  unfold codC
  rw [first_hit hk h (by rw [e]; omega), e, if_neg (by simp)]
theorem cod_none {code : List Int} (h : ∀ j, j < code.length → codE code j = 0) : codC code = (0, 0) := by
  unfold codC
  rw [first_none h]; rfl
set_option maxRecDepth 100000 in
set_option maxHeartbeats 2000000 in
theorem check1 (nm : ByteArray) (dA : Int) (A1 A2 A3 A4 : Option Addr) (c1 nd c2 c3 c4 : Nat) (code : List Int) (ss : List Sym) (rs : List Rel) (S Y R : Int × Int) (w : World)
    (C1 : ∀ wx : World, Calls Tryz.prog 171 #[.agg #[.string nm, .slice A1 code.length c1, .int .i64 dA, .slice A2 nd c2, .slice A3 ss.length c3, .slice A4 rs.length c4]] wx fun e w' => e = .returned (.tuple #[.int .i64 S.1, .int .i64 S.2]) ∧ Below wx.heap.size wx w')
    (_C2 : ∀ wx : World, Below w.heap.size w wx → Calls Tryz.prog 172 #[.agg #[.string nm, .slice A1 code.length c1, .int .i64 dA, .slice A2 nd c2, .slice A3 ss.length c3, .slice A4 rs.length c4]] wx fun e w' => e = .returned (.tuple #[.int .i64 Y.1, .int .i64 Y.2]) ∧ Below wx.heap.size wx w')
    (_C3 : ∀ wx : World, Below w.heap.size w wx → Calls Tryz.prog 173 #[.agg #[.string nm, .slice A1 code.length c1, .int .i64 dA, .slice A2 nd c2, .slice A3 ss.length c3, .slice A4 rs.length c4]] wx fun e w' => e = .returned (.tuple #[.int .i64 R.1, .int .i64 R.2]) ∧ Below wx.heap.size wx w') (e1 : (S.1 == 0) = false) : Calls Tryz.prog 143 #[.agg #[.string nm, .slice A1 code.length c1, .int .i64 dA, .slice A2 nd c2, .slice A3 ss.length c3, .slice A4 rs.length c4]] w fun e w' => e = .returned (.tuple #[.int .i64 S.1, .int .i64 S.2]) ∧ Below w.heap.size w w' := by
  go_enter Tryz.func143, Tryz.ntmps143
  go_wp2_with fail
  refine (C1 _).mono ?_
  rintro e w1 ⟨rfl, hb1⟩
  have HX1 : Hid (Below (w.alloc (.cells #[.string nm, .slice A1 code.length c1, .int .i64 dA, .slice A2 nd c2, .slice A3 ss.length c3, .slice A4 rs.length c4] 75)).heap.size (w.alloc (.cells #[.string nm, .slice A1 code.length c1, .int .i64 dA, .slice A2 nd c2, .slice A3 ss.length c3, .slice A4 rs.length c4] 75)) w1) := hb1
  have HB1 : Hid (Below w.heap.size w w1) := lb_trans (lb_alloc (Below.refl _ _) _) HX1.out
  have f10 : w1.cell? ⟨w.heap.size, 0, none⟩ = some (.string nm) := lkeep HX1.out (by simp [go_sem])
  have f11 : w1.cell? ⟨w.heap.size, 1, none⟩ = some (.slice A1 code.length c1) := lkeep HX1.out (by simp [go_sem])
  have f12 : w1.cell? ⟨w.heap.size, 2, none⟩ = some (.int .i64 dA) := lkeep HX1.out (by simp [go_sem])
  have f13 : w1.cell? ⟨w.heap.size, 3, none⟩ = some (.slice A2 nd c2) := lkeep HX1.out (by simp [go_sem])
  have f14 : w1.cell? ⟨w.heap.size, 4, none⟩ = some (.slice A3 ss.length c3) := lkeep HX1.out (by simp [go_sem])
  have f15 : w1.cell? ⟨w.heap.size, 5, none⟩ = some (.slice A4 rs.length c4) := lkeep HX1.out (by simp [go_sem])
  clear hb1
  go_wp2
  go_ret2
  exact ⟨rfl, HB1.out⟩
set_option maxRecDepth 100000 in
set_option maxHeartbeats 2000000 in
theorem check2 (nm : ByteArray) (dA : Int) (A1 A2 A3 A4 : Option Addr) (c1 nd c2 c3 c4 : Nat) (code : List Int) (ss : List Sym) (rs : List Rel) (S Y R : Int × Int) (w : World)
    (C1 : ∀ wx : World, Calls Tryz.prog 171 #[.agg #[.string nm, .slice A1 code.length c1, .int .i64 dA, .slice A2 nd c2, .slice A3 ss.length c3, .slice A4 rs.length c4]] wx fun e w' => e = .returned (.tuple #[.int .i64 0, .int .i64 S.2]) ∧ Below wx.heap.size wx w')
    (C2 : ∀ wx : World, Below w.heap.size w wx → Calls Tryz.prog 172 #[.agg #[.string nm, .slice A1 code.length c1, .int .i64 dA, .slice A2 nd c2, .slice A3 ss.length c3, .slice A4 rs.length c4]] wx fun e w' => e = .returned (.tuple #[.int .i64 Y.1, .int .i64 Y.2]) ∧ Below wx.heap.size wx w')
    (_C3 : ∀ wx : World, Below w.heap.size w wx → Calls Tryz.prog 173 #[.agg #[.string nm, .slice A1 code.length c1, .int .i64 dA, .slice A2 nd c2, .slice A3 ss.length c3, .slice A4 rs.length c4]] wx fun e w' => e = .returned (.tuple #[.int .i64 R.1, .int .i64 R.2]) ∧ Below wx.heap.size wx w') (e2 : (Y.1 == 0) = false) : Calls Tryz.prog 143 #[.agg #[.string nm, .slice A1 code.length c1, .int .i64 dA, .slice A2 nd c2, .slice A3 ss.length c3, .slice A4 rs.length c4]] w fun e w' => e = .returned (.tuple #[.int .i64 Y.1, .int .i64 Y.2]) ∧ Below w.heap.size w w' := by
  go_enter Tryz.func143, Tryz.ntmps143
  go_wp2_with fail
  refine (C1 _).mono ?_
  rintro e w1 ⟨rfl, hb1⟩
  have HX1 : Hid (Below (w.alloc (.cells #[.string nm, .slice A1 code.length c1, .int .i64 dA, .slice A2 nd c2, .slice A3 ss.length c3, .slice A4 rs.length c4] 75)).heap.size (w.alloc (.cells #[.string nm, .slice A1 code.length c1, .int .i64 dA, .slice A2 nd c2, .slice A3 ss.length c3, .slice A4 rs.length c4] 75)) w1) := hb1
  have HB1 : Hid (Below w.heap.size w w1) := lb_trans (lb_alloc (Below.refl _ _) _) HX1.out
  have f10 : w1.cell? ⟨w.heap.size, 0, none⟩ = some (.string nm) := lkeep HX1.out (by simp [go_sem])
  have f11 : w1.cell? ⟨w.heap.size, 1, none⟩ = some (.slice A1 code.length c1) := lkeep HX1.out (by simp [go_sem])
  have f12 : w1.cell? ⟨w.heap.size, 2, none⟩ = some (.int .i64 dA) := lkeep HX1.out (by simp [go_sem])
  have f13 : w1.cell? ⟨w.heap.size, 3, none⟩ = some (.slice A2 nd c2) := lkeep HX1.out (by simp [go_sem])
  have f14 : w1.cell? ⟨w.heap.size, 4, none⟩ = some (.slice A3 ss.length c3) := lkeep HX1.out (by simp [go_sem])
  have f15 : w1.cell? ⟨w.heap.size, 5, none⟩ = some (.slice A4 rs.length c4) := lkeep HX1.out (by simp [go_sem])
  clear hb1
  go_wp2_with fail
  refine (C2 _ HB1.out).mono ?_
  rintro e w2 ⟨rfl, hb2⟩
  have HX2 : Hid (Below (w.alloc (.cells #[.string nm, .slice A1 code.length c1, .int .i64 dA, .slice A2 nd c2, .slice A3 ss.length c3, .slice A4 rs.length c4] 75)).heap.size (w.alloc (.cells #[.string nm, .slice A1 code.length c1, .int .i64 dA, .slice A2 nd c2, .slice A3 ss.length c3, .slice A4 rs.length c4] 75)) w2) := lb_trans HX1.out hb2
  have HB2 : Hid (Below w.heap.size w w2) := lb_trans (lb_alloc (Below.refl _ _) _) HX2.out
  have f20 : w2.cell? ⟨w.heap.size, 0, none⟩ = some (.string nm) := lkeep HX2.out (by simp [go_sem])
  have f21 : w2.cell? ⟨w.heap.size, 1, none⟩ = some (.slice A1 code.length c1) := lkeep HX2.out (by simp [go_sem])
  have f22 : w2.cell? ⟨w.heap.size, 2, none⟩ = some (.int .i64 dA) := lkeep HX2.out (by simp [go_sem])
  have f23 : w2.cell? ⟨w.heap.size, 3, none⟩ = some (.slice A2 nd c2) := lkeep HX2.out (by simp [go_sem])
  have f24 : w2.cell? ⟨w.heap.size, 4, none⟩ = some (.slice A3 ss.length c3) := lkeep HX2.out (by simp [go_sem])
  have f25 : w2.cell? ⟨w.heap.size, 5, none⟩ = some (.slice A4 rs.length c4) := lkeep HX2.out (by simp [go_sem])
  clear hb2 f10 f11 f12 f13 f14 f15
  go_wp2
  go_ret2
  exact ⟨rfl, HB2.out⟩
set_option maxRecDepth 100000 in
set_option maxHeartbeats 2000000 in
theorem check3 (nm : ByteArray) (dA : Int) (A1 A2 A3 A4 : Option Addr) (c1 nd c2 c3 c4 : Nat) (code : List Int) (ss : List Sym) (rs : List Rel) (S Y R : Int × Int) (w : World)
    (C1 : ∀ wx : World, Calls Tryz.prog 171 #[.agg #[.string nm, .slice A1 code.length c1, .int .i64 dA, .slice A2 nd c2, .slice A3 ss.length c3, .slice A4 rs.length c4]] wx fun e w' => e = .returned (.tuple #[.int .i64 0, .int .i64 S.2]) ∧ Below wx.heap.size wx w')
    (C2 : ∀ wx : World, Below w.heap.size w wx → Calls Tryz.prog 172 #[.agg #[.string nm, .slice A1 code.length c1, .int .i64 dA, .slice A2 nd c2, .slice A3 ss.length c3, .slice A4 rs.length c4]] wx fun e w' => e = .returned (.tuple #[.int .i64 0, .int .i64 Y.2]) ∧ Below wx.heap.size wx w')
    (C3 : ∀ wx : World, Below w.heap.size w wx → Calls Tryz.prog 173 #[.agg #[.string nm, .slice A1 code.length c1, .int .i64 dA, .slice A2 nd c2, .slice A3 ss.length c3, .slice A4 rs.length c4]] wx fun e w' => e = .returned (.tuple #[.int .i64 R.1, .int .i64 R.2]) ∧ Below wx.heap.size wx w') (e3 : (R.1 == 0) = false) : Calls Tryz.prog 143 #[.agg #[.string nm, .slice A1 code.length c1, .int .i64 dA, .slice A2 nd c2, .slice A3 ss.length c3, .slice A4 rs.length c4]] w fun e w' => e = .returned (.tuple #[.int .i64 R.1, .int .i64 R.2]) ∧ Below w.heap.size w w' := by
  go_enter Tryz.func143, Tryz.ntmps143
  go_wp2_with fail
  refine (C1 _).mono ?_
  rintro e w1 ⟨rfl, hb1⟩
  have HX1 : Hid (Below (w.alloc (.cells #[.string nm, .slice A1 code.length c1, .int .i64 dA, .slice A2 nd c2, .slice A3 ss.length c3, .slice A4 rs.length c4] 75)).heap.size (w.alloc (.cells #[.string nm, .slice A1 code.length c1, .int .i64 dA, .slice A2 nd c2, .slice A3 ss.length c3, .slice A4 rs.length c4] 75)) w1) := hb1
  have HB1 : Hid (Below w.heap.size w w1) := lb_trans (lb_alloc (Below.refl _ _) _) HX1.out
  have f10 : w1.cell? ⟨w.heap.size, 0, none⟩ = some (.string nm) := lkeep HX1.out (by simp [go_sem])
  have f11 : w1.cell? ⟨w.heap.size, 1, none⟩ = some (.slice A1 code.length c1) := lkeep HX1.out (by simp [go_sem])
  have f12 : w1.cell? ⟨w.heap.size, 2, none⟩ = some (.int .i64 dA) := lkeep HX1.out (by simp [go_sem])
  have f13 : w1.cell? ⟨w.heap.size, 3, none⟩ = some (.slice A2 nd c2) := lkeep HX1.out (by simp [go_sem])
  have f14 : w1.cell? ⟨w.heap.size, 4, none⟩ = some (.slice A3 ss.length c3) := lkeep HX1.out (by simp [go_sem])
  have f15 : w1.cell? ⟨w.heap.size, 5, none⟩ = some (.slice A4 rs.length c4) := lkeep HX1.out (by simp [go_sem])
  clear hb1
  go_wp2_with fail
  refine (C2 _ HB1.out).mono ?_
  rintro e w2 ⟨rfl, hb2⟩
  have HX2 : Hid (Below (w.alloc (.cells #[.string nm, .slice A1 code.length c1, .int .i64 dA, .slice A2 nd c2, .slice A3 ss.length c3, .slice A4 rs.length c4] 75)).heap.size (w.alloc (.cells #[.string nm, .slice A1 code.length c1, .int .i64 dA, .slice A2 nd c2, .slice A3 ss.length c3, .slice A4 rs.length c4] 75)) w2) := lb_trans HX1.out hb2
  have HB2 : Hid (Below w.heap.size w w2) := lb_trans (lb_alloc (Below.refl _ _) _) HX2.out
  have f20 : w2.cell? ⟨w.heap.size, 0, none⟩ = some (.string nm) := lkeep HX2.out (by simp [go_sem])
  have f21 : w2.cell? ⟨w.heap.size, 1, none⟩ = some (.slice A1 code.length c1) := lkeep HX2.out (by simp [go_sem])
  have f22 : w2.cell? ⟨w.heap.size, 2, none⟩ = some (.int .i64 dA) := lkeep HX2.out (by simp [go_sem])
  have f23 : w2.cell? ⟨w.heap.size, 3, none⟩ = some (.slice A2 nd c2) := lkeep HX2.out (by simp [go_sem])
  have f24 : w2.cell? ⟨w.heap.size, 4, none⟩ = some (.slice A3 ss.length c3) := lkeep HX2.out (by simp [go_sem])
  have f25 : w2.cell? ⟨w.heap.size, 5, none⟩ = some (.slice A4 rs.length c4) := lkeep HX2.out (by simp [go_sem])
  clear hb2 f10 f11 f12 f13 f14 f15
  go_wp2_with fail
  refine (C3 _ HB2.out).mono ?_
  rintro e w3 ⟨rfl, hb3⟩
  have HX3 : Hid (Below (w.alloc (.cells #[.string nm, .slice A1 code.length c1, .int .i64 dA, .slice A2 nd c2, .slice A3 ss.length c3, .slice A4 rs.length c4] 75)).heap.size (w.alloc (.cells #[.string nm, .slice A1 code.length c1, .int .i64 dA, .slice A2 nd c2, .slice A3 ss.length c3, .slice A4 rs.length c4] 75)) w3) := lb_trans HX2.out hb3
  have HB3 : Hid (Below w.heap.size w w3) := lb_trans (lb_alloc (Below.refl _ _) _) HX3.out
  have f30 : w3.cell? ⟨w.heap.size, 0, none⟩ = some (.string nm) := lkeep HX3.out (by simp [go_sem])
  have f31 : w3.cell? ⟨w.heap.size, 1, none⟩ = some (.slice A1 code.length c1) := lkeep HX3.out (by simp [go_sem])
  have f32 : w3.cell? ⟨w.heap.size, 2, none⟩ = some (.int .i64 dA) := lkeep HX3.out (by simp [go_sem])
  have f33 : w3.cell? ⟨w.heap.size, 3, none⟩ = some (.slice A2 nd c2) := lkeep HX3.out (by simp [go_sem])
  have f34 : w3.cell? ⟨w.heap.size, 4, none⟩ = some (.slice A3 ss.length c3) := lkeep HX3.out (by simp [go_sem])
  have f35 : w3.cell? ⟨w.heap.size, 5, none⟩ = some (.slice A4 rs.length c4) := lkeep HX3.out (by simp [go_sem])
  clear hb3 f20 f21 f22 f23 f24 f25
  go_wp2
  go_ret2
  exact ⟨rfl, HB3.out⟩
set_option maxRecDepth 100000 in
set_option maxHeartbeats 2000000 in
theorem check4 (nm : ByteArray) (dA : Int) (A1 A2 A3 A4 : Option Addr) (c1 nd c2 c3 c4 : Nat) (code : List Int) (ss : List Sym) (rs : List Rel) (S Y R : Int × Int) (w : World)
    (C1 : ∀ wx : World, Calls Tryz.prog 171 #[.agg #[.string nm, .slice A1 code.length c1, .int .i64 dA, .slice A2 nd c2, .slice A3 ss.length c3, .slice A4 rs.length c4]] wx fun e w' => e = .returned (.tuple #[.int .i64 0, .int .i64 S.2]) ∧ Below wx.heap.size wx w')
    (C2 : ∀ wx : World, Below w.heap.size w wx → Calls Tryz.prog 172 #[.agg #[.string nm, .slice A1 code.length c1, .int .i64 dA, .slice A2 nd c2, .slice A3 ss.length c3, .slice A4 rs.length c4]] wx fun e w' => e = .returned (.tuple #[.int .i64 0, .int .i64 Y.2]) ∧ Below wx.heap.size wx w')
    (C3 : ∀ wx : World, Below w.heap.size w wx → Calls Tryz.prog 173 #[.agg #[.string nm, .slice A1 code.length c1, .int .i64 dA, .slice A2 nd c2, .slice A3 ss.length c3, .slice A4 rs.length c4]] wx fun e w' => e = .returned (.tuple #[.int .i64 0, .int .i64 R.2]) ∧ Below wx.heap.size wx w') (hC : IntsAt w A1 .u32 code) (hR : ∀ i, i < code.length → 0 ≤ nth code i ∧ nth code i < 4294967296) (hc : code.length ≤ 1048576) : Calls Tryz.prog 143 #[.agg #[.string nm, .slice A1 code.length c1, .int .i64 dA, .slice A2 nd c2, .slice A3 ss.length c3, .slice A4 rs.length c4]] w fun e w' => e = .returned (.tuple #[.int .i64 (codC code).1, .int .i64 (codC code).2]) ∧ Below w.heap.size w w' := by
  go_enter Tryz.func143, Tryz.ntmps143
  go_wp2_with fail
  refine (C1 _).mono ?_
  rintro e w1 ⟨rfl, hb1⟩
  have HX1 : Hid (Below (w.alloc (.cells #[.string nm, .slice A1 code.length c1, .int .i64 dA, .slice A2 nd c2, .slice A3 ss.length c3, .slice A4 rs.length c4] 75)).heap.size (w.alloc (.cells #[.string nm, .slice A1 code.length c1, .int .i64 dA, .slice A2 nd c2, .slice A3 ss.length c3, .slice A4 rs.length c4] 75)) w1) := hb1
  have HB1 : Hid (Below w.heap.size w w1) := lb_trans (lb_alloc (Below.refl _ _) _) HX1.out
  have f10 : w1.cell? ⟨w.heap.size, 0, none⟩ = some (.string nm) := lkeep HX1.out (by simp [go_sem])
  have f11 : w1.cell? ⟨w.heap.size, 1, none⟩ = some (.slice A1 code.length c1) := lkeep HX1.out (by simp [go_sem])
  have f12 : w1.cell? ⟨w.heap.size, 2, none⟩ = some (.int .i64 dA) := lkeep HX1.out (by simp [go_sem])
  have f13 : w1.cell? ⟨w.heap.size, 3, none⟩ = some (.slice A2 nd c2) := lkeep HX1.out (by simp [go_sem])
  have f14 : w1.cell? ⟨w.heap.size, 4, none⟩ = some (.slice A3 ss.length c3) := lkeep HX1.out (by simp [go_sem])
  have f15 : w1.cell? ⟨w.heap.size, 5, none⟩ = some (.slice A4 rs.length c4) := lkeep HX1.out (by simp [go_sem])
  clear hb1
  go_wp2_with fail
  refine (C2 _ HB1.out).mono ?_
  rintro e w2 ⟨rfl, hb2⟩
  have HX2 : Hid (Below (w.alloc (.cells #[.string nm, .slice A1 code.length c1, .int .i64 dA, .slice A2 nd c2, .slice A3 ss.length c3, .slice A4 rs.length c4] 75)).heap.size (w.alloc (.cells #[.string nm, .slice A1 code.length c1, .int .i64 dA, .slice A2 nd c2, .slice A3 ss.length c3, .slice A4 rs.length c4] 75)) w2) := lb_trans HX1.out hb2
  have HB2 : Hid (Below w.heap.size w w2) := lb_trans (lb_alloc (Below.refl _ _) _) HX2.out
  have f20 : w2.cell? ⟨w.heap.size, 0, none⟩ = some (.string nm) := lkeep HX2.out (by simp [go_sem])
  have f21 : w2.cell? ⟨w.heap.size, 1, none⟩ = some (.slice A1 code.length c1) := lkeep HX2.out (by simp [go_sem])
  have f22 : w2.cell? ⟨w.heap.size, 2, none⟩ = some (.int .i64 dA) := lkeep HX2.out (by simp [go_sem])
  have f23 : w2.cell? ⟨w.heap.size, 3, none⟩ = some (.slice A2 nd c2) := lkeep HX2.out (by simp [go_sem])
  have f24 : w2.cell? ⟨w.heap.size, 4, none⟩ = some (.slice A3 ss.length c3) := lkeep HX2.out (by simp [go_sem])
  have f25 : w2.cell? ⟨w.heap.size, 5, none⟩ = some (.slice A4 rs.length c4) := lkeep HX2.out (by simp [go_sem])
  clear hb2 f10 f11 f12 f13 f14 f15
  go_wp2_with fail
  refine (C3 _ HB2.out).mono ?_
  rintro e w3 ⟨rfl, hb3⟩
  have HX3 : Hid (Below (w.alloc (.cells #[.string nm, .slice A1 code.length c1, .int .i64 dA, .slice A2 nd c2, .slice A3 ss.length c3, .slice A4 rs.length c4] 75)).heap.size (w.alloc (.cells #[.string nm, .slice A1 code.length c1, .int .i64 dA, .slice A2 nd c2, .slice A3 ss.length c3, .slice A4 rs.length c4] 75)) w3) := lb_trans HX2.out hb3
  have HB3 : Hid (Below w.heap.size w w3) := lb_trans (lb_alloc (Below.refl _ _) _) HX3.out
  have f30 : w3.cell? ⟨w.heap.size, 0, none⟩ = some (.string nm) := lkeep HX3.out (by simp [go_sem])
  have f31 : w3.cell? ⟨w.heap.size, 1, none⟩ = some (.slice A1 code.length c1) := lkeep HX3.out (by simp [go_sem])
  have f32 : w3.cell? ⟨w.heap.size, 2, none⟩ = some (.int .i64 dA) := lkeep HX3.out (by simp [go_sem])
  have f33 : w3.cell? ⟨w.heap.size, 3, none⟩ = some (.slice A2 nd c2) := lkeep HX3.out (by simp [go_sem])
  have f34 : w3.cell? ⟨w.heap.size, 4, none⟩ = some (.slice A3 ss.length c3) := lkeep HX3.out (by simp [go_sem])
  have f35 : w3.cell? ⟨w.heap.size, 5, none⟩ = some (.slice A4 rs.length c4) := lkeep HX3.out (by simp [go_sem])
  clear hb3 f20 f21 f22 f23 f24 f25
  clear C1 C2 C3 f30 f31 f32 f33 f34 f35
  go_wp2
  go_loopw [6] (fun i wr => ∃ k : Nat, i = .int .i64 k ∧ k ≤ code.length ∧ Below (w.alloc (.cells #[.string nm, .slice A1 code.length c1, .int .i64 dA, .slice A2 nd c2, .slice A3 ss.length c3, .slice A4 rs.length c4] 75)).heap.size (w.alloc (.cells #[.string nm, .slice A1 code.length c1, .int .i64 dA, .slice A2 nd c2, .slice A3 ss.length c3, .slice A4 rs.length c4] 75)) wr ∧ Hid (∀ j, j < k → codE code j = 0)) (fun i _ => code.length - (intOf i).toNat)
  case atStart => exact ⟨0, rfl, by omega, HX3.out, fun j hj => by omega⟩
  case round =>
    obtain ⟨k, rfl, hk, hB, HT⟩ := hrel
    rename_i wr _
    have f1 : wr.cell? ⟨w.heap.size, 1, none⟩ = some (.slice A1 code.length c1) := lkeep hB (by simp [go_sem])
    have HB : Hid (Below w.heap.size w wr) := lb_trans (lb_alloc (Below.refl _ _) _) hB
    have HB0 : Hid (Below (w.alloc (.cells #[.string nm, .slice A1 code.length c1, .int .i64 dA, .slice A2 nd c2, .slice A3 ss.length c3, .slice A4 rs.length c4] 75)).heap.size (w.alloc (.cells #[.string nm, .slice A1 code.length c1, .int .i64 dA, .slice A2 nd c2, .slice A3 ss.length c3, .slice A4 rs.length c4] 75)) wr) := hB
    clear hB
    by_cases hlt : k < code.length
    · obtain ⟨a, rfl, q0⟩ := (hC.keep HB.out) k hlt
      obtain ⟨v0, v1⟩ := hR k hlt
      have CT := reftarget_any (nth code k) v0 v1
      have HE1 : Hid (isT (nth code k) = true ∧ (code.length : Int) < tgV (nth code k) → codE code k = 22) := fun h => by unfold codE; rw [if_pos h]
      have HE0 : Hid (¬ (isT (nth code k) = true ∧ (code.length : Int) < tgV (nth code k)) → codE code k = 0) := fun h => by unfold codE; rw [if_neg h]
      generalize nth code k = v at q0 v0 v1 CT HE1 HE0
      go_wp2_with fail
      refine (CT _).mono ?_
      rintro e w5 ⟨rfl, hb5⟩
      have f5 := lkeep hb5 f1
      have HB5 : Hid (Below w.heap.size w w5) := lb_trans HB.out hb5
      have HB6 : Hid (Below (w.alloc (.cells #[.string nm, .slice (some a) code.length c1, .int .i64 dA, .slice A2 nd c2, .slice A3 ss.length c3, .slice A4 rs.length c4] 75)).heap.size (w.alloc (.cells #[.string nm, .slice (some a) code.length c1, .int .i64 dA, .slice A2 nd c2, .slice A3 ss.length c3, .slice A4 rs.length c4] 75)) w5) := lb_trans HB0.out hb5
      clear hb5 CT q0 f1
      cases hT : isT v with
      | false =>
        have HE : Hid (codE code k = 0) := HE0.out (by rw [hT]; simp)
        clear hT
        go_wp2
        go_roundw
        case rel => exact ⟨k + 1, by go_num, by omega, HB6.out, fun j hj => by
          by_cases hjk : j = k
          · rw [hjk]; exact HE.out
          · exact HT.out j (by omega)⟩
        case measure => simp [intOf]; omega
      | true =>
      by_cases hV : (code.length : Int) < tgV v
      · have HE : Hid (codE code k = 22) := HE1.out ⟨hT, hV⟩
        clear hT
        go_wp2
        go_ret2
        exact ⟨ret2I (by rw [cod_hit hlt HT.out HE.out]), HB5.out⟩
      · have HE : Hid (codE code k = 0) := HE0.out (fun h => hV h.2)
        clear hT
        go_wp2
        go_roundw
        case rel => exact ⟨k + 1, by go_num, by omega, HB6.out, fun j hj => by
          by_cases hjk : j = k
          · rw [hjk]; exact HE.out
          · exact HT.out j (by omega)⟩
        case measure => simp [intOf]; omega
    · have HC : Hid (codC code = (0, 0)) := cod_none fun j hj => HT.out j (by omega)
      go_wp2
      go_ret2
      exact ⟨ret2I (by rw [HC.out]), HB.out⟩
theorem refcheck_any (nm : ByteArray) (dA : Int) (A1 A2 A3 A4 : Option Addr) (c1 nd c2 c3 c4 : Nat) (code : List Int) (ss : List Sym) (rs : List Rel) (w : World) (hC : IntsAt w A1 .u32 code) (hR : ∀ i, i < code.length → 0 ≤ nth code i ∧ nth code i < 4294967296) (hS : SymsAt w A3 ss) (hL : RelsAt w A4 rs) (hc : code.length ≤ 1048576) (hd : nd ≤ 1048576) (hs : ss.length ≤ 1048576) (hl : rs.length ≤ 1048576) : Calls Tryz.prog 143 #[.agg #[.string nm, .slice A1 code.length c1, .int .i64 dA, .slice A2 nd c2, .slice A3 ss.length c3, .slice A4 rs.length c4]] w fun e w' => e = .returned (.tuple #[.int .i64 (checkC nm code dA nd ss rs).1, .int .i64 (checkC nm code dA nd ss rs).2]) ∧ Below w.heap.size w w' := by
  have C1 := refsize_any nm dA A1 A2 A3 A4 code.length c1 nd c2 ss.length c3 rs.length c4
  have C2 := fun wx (h : Below w.heap.size w wx) => refsyms_any nm dA A1 A2 A3 A4 code.length c1 nd c2 c3 rs.length c4 ss wx (hS.keep h) hs
  have C3 := fun wx (h : Below w.heap.size w wx) => refrels_any nm dA A1 A2 A3 A4 c1 nd c2 ss.length c3 c4 code rs wx (hC.keep h) hR (hL.keep h) hl hc
  unfold checkC
  by_cases e1 : (sizeC (nameOK nm) code.length ss.length rs.length nd dA).1 = 0
  · rw [if_neg (by simpa using e1)]
    rw [e1] at C1
    by_cases e2 : (symC ss code.length).1 = 0
    · rw [if_neg (by simpa using e2)]
      have C2' := C2
      simp only [e2] at C2'
      by_cases e3 : (relC rs code ss.length).1 = 0
      · rw [if_neg (by simpa using e3)]
        have C3' := C3
        simp only [e3] at C3'
        exact check4 nm dA A1 A2 A3 A4 c1 nd c2 c3 c4 code ss rs _ _ _ w (fun wx => C1 wx hd) C2' C3' hC hR hc
      · rw [if_pos e3]
        exact check3 nm dA A1 A2 A3 A4 c1 nd c2 c3 c4 code ss rs _ _ _ w (fun wx => C1 wx hd) C2' C3 (by simpa using e3)
    · rw [if_pos e2]
      exact check2 nm dA A1 A2 A3 A4 c1 nd c2 c3 c4 code ss rs _ _ _ w (fun wx => C1 wx hd) C2 C3 (by simpa using e2)
  · rw [if_pos e1]
    exact check1 nm dA A1 A2 A3 A4 c1 nd c2 c3 c4 code ss rs _ _ _ w (fun wx => C1 wx hd) C2 C3 (by simpa using e1)







end Go.Proofs.YthpkekpojhmaaaaGreatDoor

namespace Go.Proofs.YthpkekpojhmaaaaGreatDoor
open Go.RowKit

set_option maxRecDepth 100000 in
set_option maxHeartbeats 4000000 in
theorem asktgts_any (nm : ByteArray) (dA : Int) (A1 A2 A3 A4 : Option Addr) (c1 nd c2 ns c3 nr c4 : Nat) (code : List Int) (g : Nat) (m : Nat → Bool) (w : World) (hC : IntsAt w A1 .u32 code) (hR : ∀ i, i < code.length → 0 ≤ nth code i ∧ nth code i < 4294967296) (hc : code.length ≤ 16384) (hm : MarksAt w g m) (hs : Safe code m) :
    Calls Tryz.prog 163 #[.agg #[.string nm, .slice A1 code.length c1, .int .i64 dA, .slice A2 nd c2, .slice A3 ns c3, .slice A4 nr c4], .pointer (some ⟨g, 0, none⟩)] w fun e w' => e = .returned (.tuple #[.int .i64 (codC code).1, .int .i64 (codC code).2]) ∧ Below w.heap.size w w' := by
  go_enter Tryz.func163, Tryz.ntmps163
  go_wp2
  go_loopw [13] (fun i wr => ∃ k : Nat, i = .int .i64 k ∧ k ≤ code.length ∧ Below (w.alloc (.cells #[.string nm, .slice A1 code.length c1, .int .i64 dA, .slice A2 nd c2, .slice A3 ns c3, .slice A4 nr c4] 75)).heap.size (w.alloc (.cells #[.string nm, .slice A1 code.length c1, .int .i64 dA, .slice A2 nd c2, .slice A3 ns c3, .slice A4 nr c4] 75)) wr ∧ Hid (∀ j, j < k → codE code j = 0)) (fun i _ => code.length - (intOf i).toNat)
  case atStart => exact ⟨0, rfl, by omega, Below.refl _ _, fun j hj => by omega⟩
  case round =>
    obtain ⟨k, rfl, hk, hB, HT⟩ := hrel
    rename_i wr _
    have f0 : wr.cell? ⟨w.heap.size, 0, none⟩ = some (.string nm) := lkeep hB (by simp [go_sem])
    have f1 : wr.cell? ⟨w.heap.size, 1, none⟩ = some (.slice A1 code.length c1) := lkeep hB (by simp [go_sem])
    have f2 : wr.cell? ⟨w.heap.size, 2, none⟩ = some (.int .i64 dA) := lkeep hB (by simp [go_sem])
    have f3 : wr.cell? ⟨w.heap.size, 3, none⟩ = some (.slice A2 nd c2) := lkeep hB (by simp [go_sem])
    have f4 : wr.cell? ⟨w.heap.size, 4, none⟩ = some (.slice A3 ns c3) := lkeep hB (by simp [go_sem])
    have f5 : wr.cell? ⟨w.heap.size, 5, none⟩ = some (.slice A4 nr c4) := lkeep hB (by simp [go_sem])
    have HB : Hid (Below w.heap.size w wr) := lb_trans (lb_alloc (Below.refl _ _) _) hB
    have HB0 : Hid (Below (w.alloc (.cells #[.string nm, .slice A1 code.length c1, .int .i64 dA, .slice A2 nd c2, .slice A3 ns c3, .slice A4 nr c4] 75)).heap.size (w.alloc (.cells #[.string nm, .slice A1 code.length c1, .int .i64 dA, .slice A2 nd c2, .slice A3 ns c3, .slice A4 nr c4] 75)) wr) := hB
    clear hB
    by_cases hlt : k < code.length
    · obtain ⟨a1, rfl, q1⟩ := (hC.keep HB.out) k hlt
      obtain ⟨v0, v1⟩ := hR _ hlt
      have CT := isatarget_any (nth code k) v0 v1
      have HE1 : Hid (isT (nth code k) = true ∧ (code.length : Int) < tgV (nth code k) → codE code k = 22) := fun h => by unfold codE; rw [if_pos h]
      have HE0 : Hid (¬ (isT (nth code k) = true ∧ (code.length : Int) < tgV (nth code k)) → codE code k = 0) := fun h => by unfold codE; rw [if_neg h]
      have HV : Hid (m k = true → tgV (nth code k) = 0) := hs k
      have HMR : Hid (MarksAt wr g m) := hm.keep HB.out
      generalize nth code k = v at q1 v0 v1 CT HE1 HE0 HV
      go_wp2_with fail
      refine (CT _).mono ?_
      rintro e w5 ⟨rfl, hb5⟩
      have e1 := lkeep hb5 f1
      have z0 : w5.cell? ⟨g, k, none⟩ = some (.bool (m k)) := (HMR.out.keep hb5).1 k (by omega)
      have HB5 : Hid (Below w.heap.size w w5) := lb_trans HB.out hb5
      have HB6 : Hid (Below (w.alloc (.cells #[.string nm, .slice (some a1) code.length c1, .int .i64 dA, .slice A2 nd c2, .slice A3 ns c3, .slice A4 nr c4] 75)).heap.size (w.alloc (.cells #[.string nm, .slice (some a1) code.length c1, .int .i64 dA, .slice A2 nd c2, .slice A3 ns c3, .slice A4 nr c4] 75)) w5) := lb_trans HB0.out hb5
      clear CT hb5 q1 f0 f1 f2 f3 f4 f5
      cases hT : isT v with
      | false =>
          have HE : Hid (codE code k = 0) := HE0.out (by rw [hT]; simp)
          clear hT
          go_wp2
          go_roundw
          case rel => exact ⟨k + 1, by go_num, by omega, HB6.out, fun j hj => by
            by_cases hjk : j = k
            · rw [hjk]; exact HE.out
            · exact HT.out j (by omega)⟩
          case measure => simp [intOf]; omega
      | true =>
        cases hM : m k with
        | true =>
          rw [hM] at z0
          have HE : Hid (codE code k = 0) := HE0.out (by rw [HV.out hM]; omega)
          clear hT hM
          go_wp2
          go_roundw
          case rel => exact ⟨k + 1, by go_num, by omega, HB6.out, fun j hj => by
            by_cases hjk : j = k
            · rw [hjk]; exact HE.out
            · exact HT.out j (by omega)⟩
          case measure => simp [intOf]; omega
        | false =>
          rw [hM] at z0
          by_cases h6 : (code.length : Int) < tgV v
          · have HE : Hid (codE code k = 22) := HE1.out ⟨hT, h6⟩
            clear hT hM
            go_wp2
            go_ret2
            exact ⟨ret2I (by rw [cod_hit hlt HT.out HE.out]), HB5.out⟩
          have HE : Hid (codE code k = 0) := HE0.out (by omega)
          clear hT hM
          go_wp2
          go_roundw
          case rel => exact ⟨k + 1, by go_num, by omega, HB6.out, fun j hj => by
            by_cases hjk : j = k
            · rw [hjk]; exact HE.out
            · exact HT.out j (by omega)⟩
          case measure => simp [intOf]; omega
    · have HC : Hid (codC code = (0, 0)) := cod_none fun j hj => HT.out j (by omega)
      go_wp2
      go_ret2
      exact ⟨ret2I (by rw [HC.out]), HB.out⟩





end Go.Proofs.YthpkekpojhmaaaaGreatDoor

namespace Go.Proofs.YthpkekpojhmaaaaGreatDoor
open Go.RowKit

theorem q6_any (nm : ByteArray) (dA : Int) (A1 A2 A3 A4 : Option Addr) (nc c1 nd c2 c3 nr c4 : Nat) (zs : List Sym) (b : Nat) (w : World) (o0 : w.cell? ⟨b, 0, none⟩ = some (.string nm)) (o1 : w.cell? ⟨b, 1, none⟩ = some (.slice A1 nc c1)) (o2 : w.cell? ⟨b, 2, none⟩ = some (.int .i64 dA)) (o3 : w.cell? ⟨b, 3, none⟩ = some (.slice A2 nd c2)) (o4 : w.cell? ⟨b, 4, none⟩ = some (.slice A3 zs.length c3)) (o5 : w.cell? ⟨b, 5, none⟩ = some (.slice A4 nr c4)) (hA : SymsAt w A3 zs) (hz : zs.length ≤ 1048576) (hN : ∀ i, (sName zs i).size ≤ 140737488355328) : Calls Tryz.prog 158 #[.pointer (some ⟨b, 0, none⟩)] w fun r w' => r = .returned (.tuple #[.int .i64 (symC zs nc).1, .int .i64 (symC zs nc).2]) ∧ Below w.heap.size w w' := by
  go_enter Tryz.func158, Tryz.ntmps158
  go_wp2_with fail
  refine (asksyms_any nm dA A1 A2 A3 A4 nc c1 nd c2 c3 nr c4 zs _ hA hz hN).mono ?_
  rintro r w1 ⟨rfl, hb⟩
  have HB : Hid (Below w.heap.size w w1) := hb
  clear hb
  go_wp2
  go_ret2
  exact ⟨rfl, HB.out⟩
theorem q7_any (nm : ByteArray) (dA : Int) (A1 A2 A3 A4 : Option Addr) (c1 nd c2 ns c3 c4 : Nat) (code : List Int) (zs : List Rel) (g : Nat) (m0 : Nat → Bool) (b : Nat) (w0 w : World) (o0 : w.cell? ⟨b, 0, none⟩ = some (.string nm)) (o1 : w.cell? ⟨b, 1, none⟩ = some (.slice A1 code.length c1)) (o2 : w.cell? ⟨b, 2, none⟩ = some (.int .i64 dA)) (o3 : w.cell? ⟨b, 3, none⟩ = some (.slice A2 nd c2)) (o4 : w.cell? ⟨b, 4, none⟩ = some (.slice A3 ns c3)) (o5 : w.cell? ⟨b, 5, none⟩ = some (.slice A4 zs.length c4)) (hC : IntsAt w0 A1 .u32 code) (hR : ∀ i, i < code.length → 0 ≤ nth code i ∧ nth code i < 4294967296) (hA : RelsAt w0 A4 zs) (hb0 : Below w0.heap.size w0 w) (hg0 : w0.heap.size ≤ g) (hz : zs.length ≤ 1048576) (hc : code.length ≤ 16384) (hm : MarksAt w g m0) (hs : Safe code m0) : Calls Tryz.prog 160 #[.pointer (some ⟨b, 0, none⟩), .pointer (some ⟨g, 0, none⟩)] w fun r w' => r = .returned (.tuple #[.int .i64 (relC zs code ns).1, .int .i64 (relC zs code ns).2]) ∧ But g w w' ∧ ∃ m, MarksAt w' g m ∧ Safe code m := by
  go_enter Tryz.func160, Tryz.ntmps160
  go_wp2_with fail
  refine (askrels_any nm dA A1 A2 A3 A4 c1 nd c2 ns c3 c4 code zs g m0 w0 _ hC hR hA hb0 hg0 hz hc hm hs).mono ?_
  rintro r w1 ⟨rfl, hb, m, hm1, hs1⟩
  have HB : Hid (But g w w1) := hb
  have HM : Hid (MarksAt w1 g m) := hm1
  have HS : Hid (Safe code m) := hs1
  clear hb hm1 hs1
  go_wp2
  go_ret2
  exact ⟨rfl, HB.out, m, HM.out, HS.out⟩
theorem q8_any (nm : ByteArray) (dA : Int) (A1 A2 A3 A4 : Option Addr) (c1 nd c2 ns c3 nr c4 : Nat) (code : List Int) (g : Nat) (m : Nat → Bool) (b : Nat) (w : World) (o0 : w.cell? ⟨b, 0, none⟩ = some (.string nm)) (o1 : w.cell? ⟨b, 1, none⟩ = some (.slice A1 code.length c1)) (o2 : w.cell? ⟨b, 2, none⟩ = some (.int .i64 dA)) (o3 : w.cell? ⟨b, 3, none⟩ = some (.slice A2 nd c2)) (o4 : w.cell? ⟨b, 4, none⟩ = some (.slice A3 ns c3)) (o5 : w.cell? ⟨b, 5, none⟩ = some (.slice A4 nr c4)) (hC : IntsAt w A1 .u32 code) (hR : ∀ i, i < code.length → 0 ≤ nth code i ∧ nth code i < 4294967296) (hc : code.length ≤ 16384) (hm : MarksAt w g m) (hs : Safe code m) : Calls Tryz.prog 162 #[.pointer (some ⟨b, 0, none⟩), .pointer (some ⟨g, 0, none⟩)] w fun r w' => r = .returned (.tuple #[.int .i64 (codC code).1, .int .i64 (codC code).2]) ∧ Below w.heap.size w w' := by
  go_enter Tryz.func162, Tryz.ntmps162
  go_wp2_with fail
  refine (asktgts_any nm dA A1 A2 A3 A4 c1 nd c2 ns c3 nr c4 code g m _ hC hR hc hm hs).mono ?_
  rintro r w1 ⟨rfl, hb⟩
  have HB : Hid (Below w.heap.size w w1) := hb
  clear hb
  go_wp2
  go_ret2
  exact ⟨rfl, HB.out⟩





end Go.Proofs.YthpkekpojhmaaaaGreatDoor
