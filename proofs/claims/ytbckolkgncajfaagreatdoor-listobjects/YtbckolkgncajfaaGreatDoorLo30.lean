/-
  The look at an object's symbols, by the document's answer; the lists are at most 2^20 long. The look at an object's relocations, by the document's answer; the lists are at most 2^20 long, the words of 32 bits.
-/
import Derived.Test.YtbckolkgncajfaaGreatDoorProg
import Derived.WalkKit
import Derived.WalkSpells
import Derived.WalkLawsBesides
import Derived.RowKit3
import Derived.Below
import Derived.Deep.QuietTactic
import Derived.BigQuiet
import Derived.WalkSmall
import Derived.Test.YtbckolkgncajfaaGreatDoorLo29
import Derived.Test.YtbckolkgncajfaaGreatDoorLo20
import Derived.Test.YtbckolkgncajfaaGreatDoorLo15
import Derived.Deep.DeepCutAuto
namespace Go.Proofs.YtbckolkgncajfaaGreatDoor
open Go.RowKit

set_option maxRecDepth 100000 in
set_option maxHeartbeats 2000000 in
theorem refsyms_any (nm : ByteArray) (dA : Int) (A1 A2 A A4 : Option Addr) (nc c1 nd c2 c3 nr c4 : Nat) (zs : List Sym) (w : World) (hA : SymsAt w A zs) (hz : zs.length ≤ 1048576) :
    Calls Tryz.prog 86 #[.agg #[.string nm, .slice A1 nc c1, .int .i64 dA, .slice A2 nd c2, .slice A zs.length c3, .slice A4 nr c4]] w fun e w' => e = .returned (.tuple #[.int .i64 (symC zs nc).1, .int .i64 (symC zs nc).2]) ∧ Below w.heap.size w w' := by
  go_enter Tryz.func86, Tryz.ntmps86
  go_wp2
  go_loopw [4] (fun i wr => ∃ k : Nat, i = .int .i64 k ∧ k ≤ zs.length ∧ Below (w.alloc (.cells #[.string nm, .slice A1 nc c1, .int .i64 dA, .slice A2 nd c2, .slice A zs.length c3, .slice A4 nr c4] 65)).heap.size (w.alloc (.cells #[.string nm, .slice A1 nc c1, .int .i64 dA, .slice A2 nd c2, .slice A zs.length c3, .slice A4 nr c4] 65)) wr ∧ Hid (∀ j, j < k → symE zs nc j = 0)) (fun i _ => zs.length - (intOf i).toNat)
  case atStart => exact ⟨0, rfl, by omega, Below.refl _ _, fun j hj => by omega⟩
  case round =>
    obtain ⟨k, rfl, hk, hB, HT⟩ := hrel
    rename_i wr _
    have f0 : wr.cell? ⟨w.heap.size, 0, none⟩ = some (.string nm) := lkeep hB (by simp [go_sem])
    have f1 : wr.cell? ⟨w.heap.size, 1, none⟩ = some (.slice A1 nc c1) := lkeep hB (by simp [go_sem])
    have f2 : wr.cell? ⟨w.heap.size, 2, none⟩ = some (.int .i64 dA) := lkeep hB (by simp [go_sem])
    have f3 : wr.cell? ⟨w.heap.size, 3, none⟩ = some (.slice A2 nd c2) := lkeep hB (by simp [go_sem])
    have f4 : wr.cell? ⟨w.heap.size, 4, none⟩ = some (.slice A zs.length c3) := lkeep hB (by simp [go_sem])
    have f5 : wr.cell? ⟨w.heap.size, 5, none⟩ = some (.slice A4 nr c4) := lkeep hB (by simp [go_sem])
    have HB : Hid (Below w.heap.size w wr) := lb_trans (lb_alloc (Below.refl _ _) _) hB
    have HB0 : Hid (Below (w.alloc (.cells #[.string nm, .slice A1 nc c1, .int .i64 dA, .slice A2 nd c2, .slice A zs.length c3, .slice A4 nr c4] 65)).heap.size (w.alloc (.cells #[.string nm, .slice A1 nc c1, .int .i64 dA, .slice A2 nd c2, .slice A zs.length c3, .slice A4 nr c4] 65)) wr) := hB
    clear hB
    by_cases hlt : k < zs.length
    · obtain ⟨a, rfl, c0, c1', c2'⟩ := (hA.keep HB.out) k hlt
      have d1 : wr.cell? ⟨(a.add (k * 3)).block, (a.add (k * 3)).off + 1, none⟩ = some (.int .i8 (sKind zs k)) := c1'
      have d2 : wr.cell? ⟨(a.add (k * 3)).block, (a.add (k * 3)).off + 2, none⟩ = some (.int .i64 (sAt zs k)) := c2'
      clear c1' c2'
      have CN := refname_any (sName zs k)
      have g0 : (wr.alloc (.cells #[.string (sName zs k), .int .i8 (sKind zs k), .int .i64 (sAt zs k)] 69)).cell? ⟨w.heap.size, 0, none⟩ = some (.string nm) := lkeep (lb_alloc (Below.refl _ _) _) f0
      have g1 : (wr.alloc (.cells #[.string (sName zs k), .int .i8 (sKind zs k), .int .i64 (sAt zs k)] 69)).cell? ⟨w.heap.size, 1, none⟩ = some (.slice A1 nc c1) := lkeep (lb_alloc (Below.refl _ _) _) f1
      have g2 : (wr.alloc (.cells #[.string (sName zs k), .int .i8 (sKind zs k), .int .i64 (sAt zs k)] 69)).cell? ⟨w.heap.size, 2, none⟩ = some (.int .i64 dA) := lkeep (lb_alloc (Below.refl _ _) _) f2
      have g3 : (wr.alloc (.cells #[.string (sName zs k), .int .i8 (sKind zs k), .int .i64 (sAt zs k)] 69)).cell? ⟨w.heap.size, 3, none⟩ = some (.slice A2 nd c2) := lkeep (lb_alloc (Below.refl _ _) _) f3
      have g4 : (wr.alloc (.cells #[.string (sName zs k), .int .i8 (sKind zs k), .int .i64 (sAt zs k)] 69)).cell? ⟨w.heap.size, 4, none⟩ = some (.slice (some a) zs.length c3) := lkeep (lb_alloc (Below.refl _ _) _) f4
      have g5 : (wr.alloc (.cells #[.string (sName zs k), .int .i8 (sKind zs k), .int .i64 (sAt zs k)] 69)).cell? ⟨w.heap.size, 5, none⟩ = some (.slice A4 nr c4) := lkeep (lb_alloc (Below.refl _ _) _) f5
      have HA2 : Hid (SymsAt (wr.alloc (.cells #[.string (sName zs k), .int .i8 (sKind zs k), .int .i64 (sAt zs k)] 69)) (some a) zs) := (hA.keep HB.out).keep (lb_alloc (Below.refl _ _) _)
      cases h1 : nameOK (sName zs k) with
      | false =>
        rw [h1] at CN
        have HE : Hid (symE zs nc k = 20) := by unfold Hid symE; rw [if_pos h1]
        clear h1
        go_wp2_with fail
        refine (CN _).mono ?_
        rintro e w2 ⟨rfl, rfl⟩
        go_wp2
        go_ret2
        exact ⟨ret2I (by rw [symC, first_hit hlt HT.out (by rw [HE.out]; omega), HE.out]), lb_alloc HB.out _⟩
      | true =>
        rw [h1] at CN
        have HN : Hid (¬ nameOK (sName zs k) = false) := by rw [Hid, h1]; simp
        clear h1
        go_wp2_with fail
        refine (CN _).mono ?_
        rintro e w2 ⟨rfl, rfl⟩
        clear CN
        go_wp2_with fail
        refine (refof_any nm dA A1 A2 A4 (some a) nc c1 nd c2 nr c4 c3 zs (sName zs k) _ HA2.out hz).mono ?_
        rintro e w3 ⟨rfl, hb3⟩
        have s0 : w3.cell? ⟨wr.heap.size, 0, none⟩ = some (.string (sName zs k)) := lkeep hb3 (by simp [go_sem])
        have s1 : w3.cell? ⟨wr.heap.size, 1, none⟩ = some (.int .i8 (sKind zs k)) := lkeep hb3 (by simp [go_sem])
        have s2 : w3.cell? ⟨wr.heap.size, 2, none⟩ = some (.int .i64 (sAt zs k)) := lkeep hb3 (by simp [go_sem])
        have b1 := lkeep hb3 g1
        have HB3 : Hid (Below (w.alloc (.cells #[.string nm, .slice A1 nc c1, .int .i64 dA, .slice A2 nd c2, .slice (some a) zs.length c3, .slice A4 nr c4] 65)).heap.size (w.alloc (.cells #[.string nm, .slice A1 nc c1, .int .i64 dA, .slice A2 nd c2, .slice (some a) zs.length c3, .slice A4 nr c4] 65)) w3) := lb_trans (lb_alloc HB0.out _) hb3
        have HW : Hid (Below w.heap.size w w3) := lb_trans (lb_alloc HB.out _) hb3
        clear hb3 g0 g1 g2 g3 g4 g5 f0 f1 f2 f3 f4 f5 c0 d1 d2
        cases h2 : (ofS zs (sName zs k) == (k : Int)) with
        | false =>
          have HE : Hid (symE zs nc k = 26) := by unfold Hid symE; rw [if_neg HN.out, if_pos (by simpa using h2)]
          go_wp2
          go_ret2
          exact ⟨ret2I (by rw [symC, first_hit hlt HT.out (by rw [HE.out]; omega), HE.out]), HW.out⟩
        | true =>
        have HO : Hid (¬ ¬ ofS zs (sName zs k) = (k : Int)) := by rw [Hid]; simpa using h2
        by_cases h3 : sKind zs k < 0
        · have HE : Hid (symE zs nc k = 23) := by unfold Hid symE; rw [if_neg HN.out, if_neg HO.out, if_pos (Or.inl h3)]
          go_wp2
          go_ret2
          exact ⟨ret2I (by rw [symC, first_hit hlt HT.out (by rw [HE.out]; omega), HE.out]), HW.out⟩
        by_cases h4 : 3 < sKind zs k
        · have HE : Hid (symE zs nc k = 23) := by unfold Hid symE; rw [if_neg HN.out, if_neg HO.out, if_pos (Or.inr h4)]
          go_wp2
          go_ret2
          exact ⟨ret2I (by rw [symC, first_hit hlt HT.out (by rw [HE.out]; omega), HE.out]), HW.out⟩
        have HK : Hid (¬ (sKind zs k < 0 ∨ 3 < sKind zs k)) := by rw [Hid]; omega
        by_cases h5 : sAt zs k < 0
        · have HE : Hid (symE zs nc k = 22) := by unfold Hid symE; rw [if_neg HN.out, if_neg HO.out, if_neg HK.out, if_pos (Or.inl h5)]
          go_wp2
          go_ret2
          exact ⟨ret2I (by rw [symC, first_hit hlt HT.out (by rw [HE.out]; omega), HE.out]), HW.out⟩
        by_cases h6 : (nc : Int) < sAt zs k
        · have HE : Hid (symE zs nc k = 22) := by unfold Hid symE; rw [if_neg HN.out, if_neg HO.out, if_neg HK.out, if_pos (Or.inr (Or.inl h6))]
          go_wp2
          go_ret2
          exact ⟨ret2I (by rw [symC, first_hit hlt HT.out (by rw [HE.out]; omega), HE.out]), HW.out⟩
        cases h7 : (sKind zs k == 3) with
        | false =>
          have HE : Hid (symE zs nc k = 0) := by
            have e7 : ¬ sKind zs k = 3 := by simpa using h7
            unfold Hid symE; rw [if_neg HN.out, if_neg HO.out, if_neg HK.out, if_neg (by omega)]
          go_wp2
          go_roundw
          case rel => exact ⟨k + 1, by go_num, by omega, HB3.out, fun j hj => by
            by_cases hjk : j = k
            · rw [hjk]; exact HE.out
            · exact HT.out j (by omega)⟩
          case measure => simp [intOf]; omega
        | true =>
        cases h8 : (sAt zs k == 0) with
        | false =>
          have h8' : (sAt zs k != 0) = true := by simpa using h8
          have HE : Hid (symE zs nc k = 22) := by unfold Hid symE; rw [if_neg HN.out, if_neg HO.out, if_neg HK.out, if_pos (Or.inr (Or.inr ⟨by simpa using h7, by simpa using h8⟩))]
          go_wp2
          go_ret2
          exact ⟨ret2I (by rw [symC, first_hit hlt HT.out (by rw [HE.out]; omega), HE.out]), HW.out⟩
        | true =>
          have h8' : (sAt zs k != 0) = false := by simpa using h8
          have HE : Hid (symE zs nc k = 0) := by
            have e8 : sAt zs k = 0 := by simpa using h8
            unfold Hid symE; rw [if_neg HN.out, if_neg HO.out, if_neg HK.out, if_neg (by omega)]
          go_wp2
          go_roundw
          case rel => exact ⟨k + 1, by go_num, by omega, HB3.out, fun j hj => by
            by_cases hjk : j = k
            · rw [hjk]; exact HE.out
            · exact HT.out j (by omega)⟩
          case measure => simp [intOf]; omega
    · have HC : Hid (symC zs nc = (0, 0)) := first_none fun j hj => HT.out j (by omega)
      go_wp2
      go_ret2
      exact ⟨ret2I (by rw [HC.out]), HB.out⟩




end Go.Proofs.YtbckolkgncajfaaGreatDoor

namespace Go.Proofs.YtbckolkgncajfaaGreatDoor
open Go.RowKit

set_option maxRecDepth 100000 in
set_option maxHeartbeats 2000000 in
theorem refrels_any (nm : ByteArray) (dA : Int) (A1 A2 A3 A : Option Addr) (c1 nd c2 ns c3 c4 : Nat) (code : List Int) (zs : List Rel) (w : World) (hC : IntsAt w A1 .u32 code) (hR : ∀ i, i < code.length → 0 ≤ nth code i ∧ nth code i < 4294967296) (hA : RelsAt w A zs) (hz : zs.length ≤ 1048576) (_hc : code.length ≤ 1048576) :
    Calls Tryz.prog 87 #[.agg #[.string nm, .slice A1 code.length c1, .int .i64 dA, .slice A2 nd c2, .slice A3 ns c3, .slice A zs.length c4]] w fun e w' => e = .returned (.tuple #[.int .i64 (relC zs code ns).1, .int .i64 (relC zs code ns).2]) ∧ Below w.heap.size w w' := by
  go_enter Tryz.func87, Tryz.ntmps87
  go_wp2
  go_loopw [4] (fun i wr => ∃ k : Nat, i = .int .i64 k ∧ k ≤ zs.length ∧ Below (w.alloc (.cells #[.string nm, .slice A1 code.length c1, .int .i64 dA, .slice A2 nd c2, .slice A3 ns c3, .slice A zs.length c4] 65)).heap.size (w.alloc (.cells #[.string nm, .slice A1 code.length c1, .int .i64 dA, .slice A2 nd c2, .slice A3 ns c3, .slice A zs.length c4] 65)) wr ∧ Hid (∀ j, j < k → relE zs code ns j = 0)) (fun i _ => zs.length - (intOf i).toNat)
  case atStart => exact ⟨0, rfl, by omega, Below.refl _ _, fun j hj => by omega⟩
  case round =>
    obtain ⟨k, rfl, hk, hB, HT⟩ := hrel
    rename_i wr _
    have f0 : wr.cell? ⟨w.heap.size, 0, none⟩ = some (.string nm) := lkeep hB (by simp [go_sem])
    have f1 : wr.cell? ⟨w.heap.size, 1, none⟩ = some (.slice A1 code.length c1) := lkeep hB (by simp [go_sem])
    have f2 : wr.cell? ⟨w.heap.size, 2, none⟩ = some (.int .i64 dA) := lkeep hB (by simp [go_sem])
    have f3 : wr.cell? ⟨w.heap.size, 3, none⟩ = some (.slice A2 nd c2) := lkeep hB (by simp [go_sem])
    have f4 : wr.cell? ⟨w.heap.size, 4, none⟩ = some (.slice A3 ns c3) := lkeep hB (by simp [go_sem])
    have f5 : wr.cell? ⟨w.heap.size, 5, none⟩ = some (.slice A zs.length c4) := lkeep hB (by simp [go_sem])
    have HB : Hid (Below w.heap.size w wr) := lb_trans (lb_alloc (Below.refl _ _) _) hB
    have HB0 : Hid (Below (w.alloc (.cells #[.string nm, .slice A1 code.length c1, .int .i64 dA, .slice A2 nd c2, .slice A3 ns c3, .slice A zs.length c4] 65)).heap.size (w.alloc (.cells #[.string nm, .slice A1 code.length c1, .int .i64 dA, .slice A2 nd c2, .slice A3 ns c3, .slice A zs.length c4] 65)) wr) := hB
    clear hB
    by_cases hlt : k < zs.length
    · have HAr : Hid (RelsAt wr A zs) := hA.keep HB.out
      obtain ⟨a, rfl, c0, c1'⟩ := HAr.out k hlt
      have d1 : wr.cell? ⟨(a.add (k * 2)).block, (a.add (k * 2)).off + 1, none⟩ = some (.int .i64 (rSym zs k)) := c1'
      clear c1'
      have g0 : (wr.alloc (.cells #[.int .i64 (rAt zs k), .int .i64 (rSym zs k)] 71)).cell? ⟨w.heap.size, 0, none⟩ = some (.string nm) := lkeep (lb_alloc (Below.refl _ _) _) f0
      have g1 : (wr.alloc (.cells #[.int .i64 (rAt zs k), .int .i64 (rSym zs k)] 71)).cell? ⟨w.heap.size, 1, none⟩ = some (.slice A1 code.length c1) := lkeep (lb_alloc (Below.refl _ _) _) f1
      have g2 : (wr.alloc (.cells #[.int .i64 (rAt zs k), .int .i64 (rSym zs k)] 71)).cell? ⟨w.heap.size, 2, none⟩ = some (.int .i64 dA) := lkeep (lb_alloc (Below.refl _ _) _) f2
      have g3 : (wr.alloc (.cells #[.int .i64 (rAt zs k), .int .i64 (rSym zs k)] 71)).cell? ⟨w.heap.size, 3, none⟩ = some (.slice A2 nd c2) := lkeep (lb_alloc (Below.refl _ _) _) f3
      have g4 : (wr.alloc (.cells #[.int .i64 (rAt zs k), .int .i64 (rSym zs k)] 71)).cell? ⟨w.heap.size, 4, none⟩ = some (.slice A3 ns c3) := lkeep (lb_alloc (Below.refl _ _) _) f4
      have g5 : (wr.alloc (.cells #[.int .i64 (rAt zs k), .int .i64 (rSym zs k)] 71)).cell? ⟨w.heap.size, 5, none⟩ = some (.slice (some a) zs.length c4) := lkeep (lb_alloc (Below.refl _ _) _) f5
      go_upto_region 5 with fail
      go_cut [59] (fun t wx => t = .bool (relBad zs code.length ns k) ∧ ∃ n, wx = (wr.alloc (.cells #[.int .i64 (rAt zs k), .int .i64 (rSym zs k)] 71)).drewN n)
      case first =>
        by_cases h1 : rAt zs k < 0
        · have HX : Hid (relBad zs code.length ns k = true) := decide_eq_true (Or.inl h1)
          go_big_quiet (fail)
          go_wp2
          go_meet
          case rel => exact ⟨by rw [HX.out], _, rfl⟩
        by_cases h2 : (code.length : Int) ≤ rAt zs k
        · have HX : Hid (relBad zs code.length ns k = true) := decide_eq_true (Or.inr (Or.inl h2))
          go_big_quiet (fail)
          go_wp2
          go_meet
          case rel => exact ⟨by rw [HX.out], _, rfl⟩
        by_cases h3 : k = 0
        · subst h3
          by_cases h5 : rSym zs 0 < 0
          · have HX : Hid (relBad zs code.length ns 0 = true) := decide_eq_true (Or.inr (Or.inr (Or.inr (Or.inl h5))))
            go_big_quiet (fail)
            go_wp2
            go_meet
            case rel => exact ⟨by rw [HX.out], _, rfl⟩
          by_cases h6 : (ns : Int) ≤ rSym zs 0
          · have HX : Hid (relBad zs code.length ns 0 = true) := decide_eq_true (Or.inr (Or.inr (Or.inr (Or.inr h6))))
            go_big_quiet (fail)
            go_wp2
            go_meet
            case rel => exact ⟨by rw [HX.out], _, rfl⟩
          · have HX : Hid (relBad zs code.length ns 0 = false) := decide_eq_false (by omega)
            go_big_quiet (fail)
            go_wp2
            go_meet
            case rel => exact ⟨by rw [HX.out], _, rfl⟩
        obtain ⟨j, rfl⟩ : ∃ j, k = j + 1 := ⟨k - 1, by omega⟩
        clear h3
        obtain ⟨a', ea, e0, _⟩ := HAr.out j (by omega)
        obtain rfl : a = a' := Option.some.inj ea
        clear ea
        have e1 : (wr.alloc (.cells #[.int .i64 (rAt zs (j + 1)), .int .i64 (rSym zs (j + 1))] 71)).cell? (a.add (j * 2)) = some (.int .i64 (rAt zs j)) := lkeep (lb_alloc (Below.refl _ _) _) e0
        clear e0
        by_cases h4 : rAt zs (j + 1) ≤ rAt zs j
        · have HX : Hid (relBad zs code.length ns (j + 1) = true) := decide_eq_true (Or.inr (Or.inr (Or.inl ⟨by omega, by simpa using h4⟩)))
          go_big_quiet (fail)
          go_wp2
          go_meet
          case rel => exact ⟨by rw [HX.out], _, rfl⟩
        by_cases h5 : rSym zs (j + 1) < 0
        · have HX : Hid (relBad zs code.length ns (j + 1) = true) := decide_eq_true (Or.inr (Or.inr (Or.inr (Or.inl h5))))
          go_big_quiet (fail)
          go_wp2
          go_meet
          case rel => exact ⟨by rw [HX.out], _, rfl⟩
        by_cases h6 : (ns : Int) ≤ rSym zs (j + 1)
        · have HX : Hid (relBad zs code.length ns (j + 1) = true) := decide_eq_true (Or.inr (Or.inr (Or.inr (Or.inr h6))))
          go_big_quiet (fail)
          go_wp2
          go_meet
          case rel => exact ⟨by rw [HX.out], _, rfl⟩
        · have HX : Hid (relBad zs code.length ns (j + 1) = false) := decide_eq_false (by rw [Nat.add_sub_cancel]; omega)
          go_big_quiet (fail)
          go_wp2
          go_meet
          case rel => exact ⟨by rw [HX.out], _, rfl⟩
      case rest =>
        obtain ⟨rfl, nq, rfl⟩ := hcut
        cases hx : relBad zs code.length ns k with
        | true =>
          have HE : Hid (relE zs code ns k = 24) := by unfold Hid relE; rw [if_pos (of_decide_eq_true hx)]
          clear hx
          go_wp2
          go_ret2
          exact ⟨ret2I (by rw [relC, first_hit hlt HT.out (by rw [HE.out]; omega), HE.out]), below_drewN (lb_alloc HB.out _) _⟩
        | false =>
          have hX := of_decide_eq_false hx
          have h1 : 0 ≤ rAt zs k := by omega
          have h2 : rAt zs k < (code.length : Int) := by omega
          have HX : Hid (¬ _) := hX
          clear hX hx
          have hl : (rAt zs k).toNat < code.length := by omega
          obtain ⟨a1, rfl, q0⟩ := (hC.keep HB.out) (rAt zs k).toNat hl
          have q1 : (wr.alloc (.cells #[.int .i64 (rAt zs k), .int .i64 (rSym zs k)] 71)).cell? (a1.add (rAt zs k).toNat) = some (.int .u32 (nth code (rAt zs k).toNat)) := lkeep (lb_alloc (Below.refl _ _) _) q0
          clear q0
          obtain ⟨v0, v1⟩ := hR _ hl
          have CT := reftarget_any (nth code (rAt zs k).toNat) v0 v1
          have HE1 : Hid (isT (nth code (rAt zs k).toNat) = false ∨ ¬ tgV (nth code (rAt zs k).toNat) = 0 → relE zs code ns k = 24) := fun h => by unfold relE; rw [if_neg HX.out, if_pos h]
          have HE0 : Hid (¬ (isT (nth code (rAt zs k).toNat) = false ∨ ¬ tgV (nth code (rAt zs k).toNat) = 0) → relE zs code ns k = 0) := fun h => by unfold relE; rw [if_neg HX.out, if_neg h]
          generalize nth code (rAt zs k).toNat = v at q1 v0 v1 CT HE1 HE0
          go_wp2_with fail
          refine (CT _).mono ?_
          rintro e w5 ⟨rfl, hb5⟩
          clear CT q1 g0 g1 g2 g3 g4 g5 f0 f1 f2 f3 f4 f5 c0 d1
          have HB5 : Hid (Below w.heap.size w w5) := lb_trans (below_drewN (lb_alloc HB.out _) _) hb5
          have HB6 : Hid (Below (w.alloc (.cells #[.string nm, .slice (some a1) code.length c1, .int .i64 dA, .slice A2 nd c2, .slice A3 ns c3, .slice (some a) zs.length c4] 65)).heap.size (w.alloc (.cells #[.string nm, .slice (some a1) code.length c1, .int .i64 dA, .slice A2 nd c2, .slice A3 ns c3, .slice (some a) zs.length c4] 65)) w5) := lb_trans (below_drewN (lb_alloc HB0.out _) _) hb5
          clear hb5
          cases hT : isT v with
          | false =>
            have HE : Hid (relE zs code ns k = 24) := HE1.out (Or.inl hT)
            clear hT
            go_wp2
            go_ret2
            exact ⟨ret2I (by rw [relC, first_hit hlt HT.out (by rw [HE.out]; omega), HE.out]), HB5.out⟩
          | true =>
          cases hV : (tgV v == 0) with
          | false =>
            have HE : Hid (relE zs code ns k = 24) := HE1.out (Or.inr (by simpa using hV))
            have hV' : (tgV v != 0) = true := by simpa using hV
            clear hT
            go_wp2
            go_ret2
            exact ⟨ret2I (by rw [relC, first_hit hlt HT.out (by rw [HE.out]; omega), HE.out]), HB5.out⟩
          | true =>
            have HE : Hid (relE zs code ns k = 0) := HE0.out (by rw [hT]; simp; simpa using hV)
            have hV' : (tgV v != 0) = false := by simpa using hV
            clear hT
            go_wp2
            go_roundw
            case rel => exact ⟨k + 1, by go_num, by omega, HB6.out, fun j hj => by
              by_cases hjk : j = k
              · rw [hjk]; exact HE.out
              · exact HT.out j (by omega)⟩
            case measure => simp [intOf]; omega
    · have HC : Hid (relC zs code ns = (0, 0)) := first_none fun j hj => HT.out j (by omega)
      go_wp2
      go_ret2
      exact ⟨ret2I (by rw [HC.out]), HB.out⟩




end Go.Proofs.YtbckolkgncajfaaGreatDoor
