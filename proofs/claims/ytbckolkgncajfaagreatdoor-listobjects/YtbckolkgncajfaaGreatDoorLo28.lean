/-
  Package object: what is asked of the relocations, and which places are marked; the list is at most 2^20 long, the code at most 2^14, words of 32 bits. Letters, by the document's answer; no condition but that a byte is one. Name of the document's answer, for every text; no condition.
-/
import Derived.Test.YtbckolkgncajfaaGreatDoorProg
import Derived.WalkKit
import Derived.WalkSpells
import Derived.WalkLawsBesides
import Derived.RowKit3
import Derived.Below
import Derived.Deep.QuietTactic
import Derived.BigQuiet
import Derived.WalkSmall
import Derived.Test.YtbckolkgncajfaaGreatDoorLo27
import Derived.Test.YtbckolkgncajfaaGreatDoorLo16
import Derived.Deep.DeepCutAuto
import Derived.Test.YtbckolkgncajfaaGreatDoorLo20
namespace Go.Proofs.YtbckolkgncajfaaGreatDoor
open Go.RowKit

set_option maxRecDepth 100000 in
set_option maxHeartbeats 4000000 in
theorem askrels_any (nm : ByteArray) (dA : Int) (A1 A2 A3 A : Option Addr) (c1 nd c2 ns c3 c4 : Nat) (code : List Int) (zs : List Rel) (g : Nat) (m0 : Nat → Bool) (w0 w : World) (hC : IntsAt w0 A1 .u32 code) (hR : ∀ i, i < code.length → 0 ≤ nth code i ∧ nth code i < 4294967296) (hA : RelsAt w0 A zs) (hb0 : Below w0.heap.size w0 w) (hg0 : w0.heap.size ≤ g) (hz : zs.length ≤ 1048576) (hc : code.length ≤ 16384) (hm : MarksAt w g m0) (hs : Safe code m0) :
    Calls Tryz.prog 110 #[.agg #[.string nm, .slice A1 code.length c1, .int .i64 dA, .slice A2 nd c2, .slice A3 ns c3, .slice A zs.length c4], .pointer (some ⟨g, 0, none⟩)] w fun e w' => e = .returned (.tuple #[.int .i64 (relC zs code ns).1, .int .i64 (relC zs code ns).2]) ∧ But g w w' ∧ ∃ m, MarksAt w' g m ∧ Safe code m := by
  have hgl : g < w.heap.size := World.block_lt_of_cell? w _ (hm.1 0 (by omega))
  have hgn : w.heap.size ≠ g := by omega
  go_enter Tryz.func110, Tryz.ntmps110
  go_wp2
  go_loopw [14, 6] (fun i ah wr => ∃ (k : Nat) (m : Nat → Bool), i = .int .i64 k ∧ k ≤ zs.length ∧ ah = .int .i64 (aheadV zs k) ∧ But g (w.alloc (.cells #[.string nm, .slice A1 code.length c1, .int .i64 dA, .slice A2 nd c2, .slice A3 ns c3, .slice A zs.length c4] 65)) wr ∧ MarksAt wr g m ∧ Hid (Safe code m) ∧ Hid (∀ j, j < k → relE zs code ns j = 0)) (fun i _ _ => zs.length - (intOf i).toNat)
  case atStart => exact ⟨0, m0, rfl, by omega, rfl, But.refl _ _, hm.keep (lb_alloc (Below.refl _ _) _), hs, fun j hj => by omega⟩
  case round =>
    obtain ⟨k, m, rfl, hk, rfl, hB, hM, HS, HT⟩ := hrel
    rename_i wr _
    have f0 : wr.cell? ⟨w.heap.size, 0, none⟩ = some (.string nm) := hB.cell hgn (by simp [go_sem])
    have f1 : wr.cell? ⟨w.heap.size, 1, none⟩ = some (.slice A1 code.length c1) := hB.cell hgn (by simp [go_sem])
    have f2 : wr.cell? ⟨w.heap.size, 2, none⟩ = some (.int .i64 dA) := hB.cell hgn (by simp [go_sem])
    have f3 : wr.cell? ⟨w.heap.size, 3, none⟩ = some (.slice A2 nd c2) := hB.cell hgn (by simp [go_sem])
    have f4 : wr.cell? ⟨w.heap.size, 4, none⟩ = some (.slice A3 ns c3) := hB.cell hgn (by simp [go_sem])
    have f5 : wr.cell? ⟨w.heap.size, 5, none⟩ = some (.slice A zs.length c4) := hB.cell hgn (by simp [go_sem])
    have HB0 : Hid (But g (w.alloc (.cells #[.string nm, .slice A1 code.length c1, .int .i64 dA, .slice A2 nd c2, .slice A3 ns c3, .slice A zs.length c4] 65)) wr) := hB
    have HB : Hid (But g w wr) := (But.of (lb_alloc (Below.refl _ _) _)).trans hB
    have HW : Hid (Below w0.heap.size w0 wr) := HB.out.below hb0 hg0
    clear hB
    by_cases hlt : k < zs.length
    · obtain ⟨a, rfl, c0, c1'⟩ := (hA.keep HW.out) k hlt
      have d1 : wr.cell? ⟨(a.add (k * 2)).block, (a.add (k * 2)).off + 1, none⟩ = some (.int .i64 (rSym zs k)) := c1'
      clear c1'
      have g0 : (wr.alloc (.cells #[.int .i64 (rAt zs k), .int .i64 (rSym zs k)] 71)).cell? ⟨w.heap.size, 0, none⟩ = some (.string nm) := lkeep (lb_alloc (Below.refl _ _) _) f0
      have g1 : (wr.alloc (.cells #[.int .i64 (rAt zs k), .int .i64 (rSym zs k)] 71)).cell? ⟨w.heap.size, 1, none⟩ = some (.slice A1 code.length c1) := lkeep (lb_alloc (Below.refl _ _) _) f1
      have g2 : (wr.alloc (.cells #[.int .i64 (rAt zs k), .int .i64 (rSym zs k)] 71)).cell? ⟨w.heap.size, 2, none⟩ = some (.int .i64 dA) := lkeep (lb_alloc (Below.refl _ _) _) f2
      have g3 : (wr.alloc (.cells #[.int .i64 (rAt zs k), .int .i64 (rSym zs k)] 71)).cell? ⟨w.heap.size, 3, none⟩ = some (.slice A2 nd c2) := lkeep (lb_alloc (Below.refl _ _) _) f3
      have g4 : (wr.alloc (.cells #[.int .i64 (rAt zs k), .int .i64 (rSym zs k)] 71)).cell? ⟨w.heap.size, 4, none⟩ = some (.slice A3 ns c3) := lkeep (lb_alloc (Below.refl _ _) _) f4
      have g5 : (wr.alloc (.cells #[.int .i64 (rAt zs k), .int .i64 (rSym zs k)] 71)).cell? ⟨w.heap.size, 5, none⟩ = some (.slice (some a) zs.length c4) := lkeep (lb_alloc (Below.refl _ _) _) f5
      have HBB : Hid (But g w (wr.alloc (.cells #[.int .i64 (rAt zs k), .int .i64 (rSym zs k)] 71))) := HB.out.on (lb_alloc (Below.refl _ _) _)
      have HBC : Hid (But g (w.alloc (.cells #[.string nm, .slice A1 code.length c1, .int .i64 dA, .slice A2 nd c2, .slice A3 ns c3, .slice (some a) zs.length c4] 65)) (wr.alloc (.cells #[.int .i64 (rAt zs k), .int .i64 (rSym zs k)] 71))) := HB0.out.on (lb_alloc (Below.refl _ _) _)
      have HMM : Hid (MarksAt (wr.alloc (.cells #[.int .i64 (rAt zs k), .int .i64 (rSym zs k)] 71)) g m) := hM.keep (lb_alloc (Below.refl _ _) _)
      clear hM
      by_cases h1 : rAt zs k ≤ aheadV zs k
      · have HE : Hid (relE zs code ns k = 24) := rel_bad HT.out (Or.inl h1)
        go_wp2
        go_ret2
        exact ⟨ret2I (by rw [relC, first_hit hlt HT.out (by rw [HE.out]; omega), HE.out]), HBB.out, m, HMM.out, HS.out⟩
      by_cases h2 : (code.length : Int) ≤ rAt zs k
      · have HE : Hid (relE zs code ns k = 24) := rel_bad HT.out (Or.inr (Or.inl h2))
        go_wp2
        go_ret2
        exact ⟨ret2I (by rw [relC, first_hit hlt HT.out (by rw [HE.out]; omega), HE.out]), HBB.out, m, HMM.out, HS.out⟩
      by_cases h3 : rSym zs k < 0
      · have HE : Hid (relE zs code ns k = 24) := rel_bad HT.out (Or.inr (Or.inr (Or.inl h3)))
        go_wp2
        go_ret2
        exact ⟨ret2I (by rw [relC, first_hit hlt HT.out (by rw [HE.out]; omega), HE.out]), HBB.out, m, HMM.out, HS.out⟩
      by_cases h4 : (ns : Int) ≤ rSym zs k
      · have HE : Hid (relE zs code ns k = 24) := rel_bad HT.out (Or.inr (Or.inr (Or.inr h4)))
        go_wp2
        go_ret2
        exact ⟨ret2I (by rw [relC, first_hit hlt HT.out (by rw [HE.out]; omega), HE.out]), HBB.out, m, HMM.out, HS.out⟩
      obtain ⟨p0, hE1, hE0⟩ := rel_fine HT.out h1 h2 h3 h4
      have hl : (rAt zs k).toNat < code.length := by omega
      obtain ⟨a1, rfl, q0⟩ := (hC.keep HW.out) (rAt zs k).toNat hl
      have q1 : (wr.alloc (.cells #[.int .i64 (rAt zs k), .int .i64 (rSym zs k)] 71)).cell? (a1.add (rAt zs k).toNat) = some (.int .u32 (nth code (rAt zs k).toNat)) := lkeep (lb_alloc (Below.refl _ _) _) q0
      clear q0
      obtain ⟨v0, v1⟩ := hR _ hl
      have CT := isatarget_any (nth code (rAt zs k).toNat) v0 v1
      have HE1 : Hid _ := hE1
      have HE0 : Hid _ := hE0
      clear hE1 hE0
      have HVV : Hid (tgV (nth code (rAt zs k).toNat) = 0 → Safe code (fun j => j == (rAt zs k).toNat || m j)) := fun h => HS.out.set _ h
      generalize nth code (rAt zs k).toNat = v at q1 v0 v1 CT HE1 HE0 HVV
      go_wp2_with fail
      refine (CT _).mono ?_
      rintro e w5 ⟨rfl, hb5⟩
      clear CT q1 c0 d1
      have k0 : w5.cell? ⟨wr.heap.size, 0, none⟩ = some (.int .i64 (rAt zs k)) := lkeep hb5 (by simp [go_sem])
      have k1 : w5.cell? ⟨wr.heap.size, 1, none⟩ = some (.int .i64 (rSym zs k)) := lkeep hb5 (by simp [go_sem])
      have HB5 : Hid (But g w w5) := HBB.out.on hb5
      have HC5 : Hid (But g (w.alloc (.cells #[.string nm, .slice (some a1) code.length c1, .int .i64 dA, .slice A2 nd c2, .slice A3 ns c3, .slice (some a) zs.length c4] 65)) w5) := HBC.out.on hb5
      have HM5 : Hid (MarksAt w5 g m) := HMM.out.keep hb5
      clear hb5 g0 g1 g2 g3 g4 g5 f0 f1 f2 f3 f4 f5
      cases hT : isT v with
      | false =>
        have HE : Hid (relE zs code ns k = 24) := HE1.out (Or.inl hT)
        clear hT
        go_wp2
        go_ret2
        exact ⟨ret2I (by rw [relC, first_hit hlt HT.out (by rw [HE.out]; omega), HE.out]), HB5.out, m, HM5.out, HS.out⟩
      | true =>
      cases hV : (tgV v == 0) with
      | false =>
        have HE : Hid (relE zs code ns k = 24) := HE1.out (Or.inr (by simpa using hV))
        have hV' : (tgV v != 0) = true := by simpa using hV
        clear hT
        go_wp2
        go_ret2
        exact ⟨ret2I (by rw [relC, first_hit hlt HT.out (by rw [HE.out]; omega), HE.out]), HB5.out, m, HM5.out, HS.out⟩
      | true =>
        have HE : Hid (relE zs code ns k = 0) := HE0.out (by rw [hT]; simp; simpa using hV)
        have HV2 : Hid _ := HVV.out (by simpa using hV)
        have hV' : (tgV v != 0) = false := by simpa using hV
        clear hT
        have z0 : w5.cell? ⟨g, (rAt zs k).toNat, none⟩ = some (.bool (m (rAt zs k).toNat)) := HM5.out.1 _ (by omega)
        have z1 : w5.frozen? ⟨g, (rAt zs k).toNat, none⟩ = false := HM5.out.2 _
        have p1 : rAt zs k < 16384 := by omega
        have n1 : g < wr.heap.size := Nat.lt_of_lt_of_le hgl HB.out.2.2.2.1
        have n2 : ¬ g = wr.heap.size := by omega
        have n3 : ¬ wr.heap.size = g := by omega
        go_wp2
        go_region
        all_goals go_wp2
        all_goals go_roundw
        case rel => exact ⟨k + 1, _, by go_num, by omega, by rw [ahead_succ], (HC5.out.drewN 1).set _ _, (HM5.out.drewN 1).set _, HV2.out, fun j hj => by
          by_cases hjk : j = k
          · rw [hjk]; exact HE.out
          · exact HT.out j (by omega)⟩
        case measure => simp [intOf]; omega
    · have HC : Hid (relC zs code ns = (0, 0)) := first_none fun j hj => HT.out j (by omega)
      go_wp2
      go_ret2
      exact ⟨ret2I (by rw [HC.out]), HB.out, m, hM, HS.out⟩



end Go.Proofs.YtbckolkgncajfaaGreatDoor

namespace Go.Proofs.YtbckolkgncajfaaGreatDoor
open Go.RowKit

theorem letter_any (b : Int) (h0 : 0 ≤ b) (h1 : b ≤ 255) (w : World) : Calls Tryz.prog 126 #[.int .u8 b] w fun e w' => e = .returned (.bool (ltrI b)) ∧ w' = w := by
  by_cases h1 : 97 ≤ b
  · by_cases h2 : b ≤ 122
    · rw [show ltrI b = true from decide_eq_true (by omega)]
      go_enter Tryz.func126, Tryz.ntmps126
      go_wp2
      go_ret
      exact ⟨by first | rfl | (simp [*]; done), rfl⟩
    · rw [show ltrI b = false from decide_eq_false (by omega)]
      have h3 : 65 ≤ b := by omega
      have h4 : ¬ b ≤ 90 := by omega
      have h5 : (b == 95) = false := by simp; omega
      go_enter Tryz.func126, Tryz.ntmps126
      go_wp2
      go_ret
      exact ⟨by first | rfl | (simp [*]; done), rfl⟩
  · by_cases h3 : 65 ≤ b
    · by_cases h4 : b ≤ 90
      · rw [show ltrI b = true from decide_eq_true (by omega)]
        go_enter Tryz.func126, Tryz.ntmps126
        go_wp2
        go_ret
        exact ⟨by first | rfl | (simp [*]; done), rfl⟩
      · by_cases h5 : b = 95
        · rw [show ltrI b = true from decide_eq_true (by omega)]
          have h6 : (b == 95) = true := by simpa using h5
          clear h5
          go_enter Tryz.func126, Tryz.ntmps126
          go_wp2
          go_ret
          exact ⟨by first | rfl | (simp [*]; done), rfl⟩
        · rw [show ltrI b = false from decide_eq_false (by omega)]
          have h6 : (b == 95) = false := by simpa using h5
          go_enter Tryz.func126, Tryz.ntmps126
          go_wp2
          go_ret
          exact ⟨by first | rfl | (simp [*]; done), rfl⟩
    · rw [show ltrI b = false from decide_eq_false (by omega)]
      have h6 : (b == 95) = false := by simp; omega
      go_enter Tryz.func126, Tryz.ntmps126
      go_wp2
      go_ret
      exact ⟨by first | rfl | (simp [*]; done), rfl⟩
theorem let_at (s : ByteArray) (k : Nat) (h : k < s.size) (x : Bool) (e : ltrI s[k].toNat = x) (w : World) : Calls Tryz.prog 126 #[.int .u8 s[k].toNat] w fun e w' => e = .returned (.bool x) ∧ w' = w := by
  have := letter_any s[k].toNat (by omega) (by have := s[k].toNat_lt; omega) w
  rw [e] at this; exact this
set_option maxRecDepth 100000 in
set_option maxHeartbeats 1000000 in
theorem refname_any (s : ByteArray) (w : World) : Calls Tryz.prog 114 #[.string s] w fun e w' => e = .returned (.bool (nameOK s)) ∧ w' = w := by
  by_cases h0 : s.size = 0
  · have HN : Hid (nameOK s = false) := name_nil s h0
    have h0' : ((s.size : Int) == 0) = true := by simpa using h0
    clear h0
    go_enter Tryz.func114, Tryz.ntmps114
    go_wp2
    go_ret
    exact ⟨retB HN.out.symm, rfl⟩
  have hp : 0 < s.size := by omega
  have h0' : ((s.size : Int) == 0) = false := by simpa using h0
  have hN := name_cons s hp
  clear h0
  by_cases h1 : 24 < s.size
  · rw [decide_eq_false (by omega)] at hN
    have HN : Hid _ := hN
    clear hN
    go_enter Tryz.func114, Tryz.ntmps114
    go_wp2
    go_ret
    exact ⟨retB HN.out.symm, rfl⟩
  rw [decide_eq_true (by omega)] at hN
  cases h2 : ltrI s[0].toNat with
  | false =>
    have C := let_at s 0 hp false h2
    rw [h2] at hN
    have HN : Hid _ := hN
    clear hN h2
    go_enter Tryz.func114, Tryz.ntmps114
    go_wp2_with fail
    refine (C _).mono ?_
    rintro e w1 ⟨rfl, rfl⟩
    go_wp2
    go_ret
    exact ⟨retB HN.out.symm, rfl⟩
  | true =>
    have C := let_at s 0 hp true h2
    rw [h2, Bool.and_self, Bool.true_and] at hN
    have HN : Hid _ := hN
    clear hN h2
    go_enter Tryz.func114, Tryz.ntmps114
    go_wp2_with fail
    refine (C _).mono ?_
    rintro e w1 ⟨rfl, rfl⟩
    clear C
    go_wp2
    go_loop [3] (fun i => ∃ k : Nat, i = .int .i64 k ∧ k ≤ s.size ∧ Hid (goodL (s.data.toList.drop k) = nameOK s)) (fun i => s.size - (intOf i).toNat)
    case atStart => exact ⟨1, rfl, by omega, HN.out.symm⟩
    case round =>
      obtain ⟨k, rfl, hk, HT⟩ := hrel
      by_cases hlt : k < s.size
      · cases h3 : ltrI s[k].toNat with
        | true =>
          have C := let_at s k hlt true h3
          have HG : Hid _ := good_on hlt (show goodI s[k].toNat = true by unfold goodI; rw [h3]; rfl)
          clear h3
          go_wp2_with fail
          refine (C _).mono ?_
          rintro e w1 ⟨rfl, rfl⟩
          go_wp2
          go_round
          case rel => exact ⟨k + 1, by go_num, by omega, by rw [Hid, ← HG.out]; exact HT.out⟩
          case measure => simp [intOf]; omega
        | false =>
          have C := let_at s k hlt false h3
          by_cases h4 : 48 ≤ (s[k].toNat : Int) ∧ (s[k].toNat : Int) ≤ 57
          · have HG : Hid _ := good_on hlt (show goodI s[k].toNat = true by unfold goodI dgtI; rw [decide_eq_true h4]; simp)
            clear h3
            obtain ⟨h5, h6⟩ := h4
            go_wp2_with fail
            refine (C _).mono ?_
            rintro e w1 ⟨rfl, rfl⟩
            go_wp2
            go_round
            case rel => exact ⟨k + 1, by go_num, by omega, by rw [Hid, ← HG.out]; exact HT.out⟩
            case measure => simp [intOf]; omega
          · cases h7 : ((s[k].toNat : Int) == 46) with
            | true =>
              have HG : Hid _ := good_on hlt (show goodI s[k].toNat = true by unfold goodI; rw [h7]; simp)
              clear h3
              have h5 : ¬ 48 ≤ (s[k].toNat : Int) := by
                have : (s[k].toNat : Int) = 46 := by simpa using h7
                omega
              clear h4
              go_wp2_with fail
              refine (C _).mono ?_
              rintro e w1 ⟨rfl, rfl⟩
              go_wp2
              go_round
              case rel => exact ⟨k + 1, by go_num, by omega, by rw [Hid, ← HG.out]; exact HT.out⟩
              case measure => simp [intOf]; omega
            | false =>
              have HG : Hid _ := good_no hlt (show goodI s[k].toNat = false by unfold goodI dgtI; rw [h3, h7, decide_eq_false h4]; rfl)
              clear h3
              by_cases h5 : 48 ≤ (s[k].toNat : Int)
              · have h6 : ¬ (s[k].toNat : Int) ≤ 57 := fun h => h4 ⟨h5, h⟩
                have h8 : decide ((s[k].toNat : Int) ≤ 57) = false := decide_eq_false h6
                clear h4
                go_wp2_with fail
                refine (C _).mono ?_
                rintro e w1 ⟨rfl, rfl⟩
                go_wp2
                go_ret
                exact ⟨retB (by rw [← HT.out, HG.out]), rfl⟩
              · clear h4
                go_wp2_with fail
                refine (C _).mono ?_
                rintro e w1 ⟨rfl, rfl⟩
                go_wp2
                go_ret
                exact ⟨retB (by rw [← HT.out, HG.out]), rfl⟩
      · have HG : Hid _ := good_end (by omega : s.size ≤ k)
        go_wp2
        go_ret
        exact ⟨retB (by rw [← HT.out, HG.out]), rfl⟩



end Go.Proofs.YtbckolkgncajfaaGreatDoor
