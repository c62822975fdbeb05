/-
  Ends, Falls, Target and Aim of package isa, each by what it returns; a word is of 32 bits. Package object: what is asked of the relocations, and which places are marked; the list is at most 2^20 long, the code at most 2^14, words of 32 bits. Package object: what is asked of the targets; the code is at most 2^14 long, words of 32 bits.
-/
import Derived.Test.YtiihfkjgdhfmiaaSB25
import Derived.Test.YtiihfkjgdhfmiaaProg
import Derived.WalkKit
import Derived.WalkSpells
import Derived.WalkLawsBesides
import Derived.RowKit3
import Derived.Below
import Derived.Deep.QuietTactic
import Derived.BigQuiet
import Derived.WalkSmall
import Derived.Test.YtiihfkjgdhfmiaaSB23
import Derived.Deep.DeepCutAuto
import Derived.Test.YtiihfkjgdhfmiaaSB15
namespace Go.Proofs.Ytiihfkjgdhfmiaa
open Go.RowKit

theorem dOp_le {v : Int} (h1 : v < 4294967296) : dOp v ≤ 31 := by
  unfold dOp wOp; split <;> omega
theorem isT_hP (v : Int) : isT v = hP (dOp v) := by
  unfold isT
  cases h : hP (dOp v)
  · simp
  · unfold hP at h
    simp at h
    rw [decide_eq_true (by omega)]; rfl
theorem isatarget_any (v : Int) (h0 : 0 ≤ v) (h1 : v < 4294967296) (w : World) : Calls Try.prog 78 #[.int .u32 v] w fun e w' => e = .returned (.tuple #[.int .i64 (tgV v), .bool (isT v)]) ∧ Below w.heap.size w w' := by
  have h := target_of v _ _ _ _ _ _ _ _ _ _ w (isadecode_any v h0 h1) (isahas_any (dOp v) (by have := dOp_le h1; omega))
  rw [← isT_hP] at h
  exact h
theorem aim_no {v p : Int} (hT : isT v = true) (hp : ¬ (0 ≤ p ∧ p < 16384)) : encV (dOp v) (dD v) (dA v) (dB v) p = 0 ∧ encE (dOp v) (dD v) (dA v) (dB v) p = 11 := by
  rw [isT_hP] at hT
  have hN := hP_hN _ hT
  have hr : ¬ (dOp v < 0 ∨ 21 < dOp v) := by unfold hP at hT; simp at hT; omega
  refine encE_no hr ?_
  unfold insOK numOK
  rw [hT, hN, decide_eq_false hp]
  simp




end Go.Proofs.Ytiihfkjgdhfmiaa

namespace Go.Proofs.Ytiihfkjgdhfmiaa
open Go.RowKit

set_option maxRecDepth 100000 in
set_option maxHeartbeats 4000000 in
theorem askrels_any (nm : ByteArray) (dA : Int) (A1 A2 A3 A : Option Addr) (c1 nd c2 ns c3 c4 : Nat) (code : List Int) (zs : List Rel) (g : Nat) (m0 : Nat → Bool) (w0 w : World) (hC : IntsAt w0 A1 .u32 code) (hR : ∀ i, i < code.length → 0 ≤ nth code i ∧ nth code i < 4294967296) (hA : RelsAt w0 A zs) (hb0 : Below w0.heap.size w0 w) (hg0 : w0.heap.size ≤ g) (hz : zs.length ≤ 1048576) (hc : code.length ≤ 16384) (hm : MarksAt w g m0) (hs : Safe code m0) :
    Calls Try.prog 68 #[.agg #[.string nm, .slice A1 code.length c1, .int .i64 dA, .slice A2 nd c2, .slice A3 ns c3, .slice A zs.length c4], .pointer (some ⟨g, 0, none⟩)] w fun e w' => e = .returned (.tuple #[.int .i64 (relC zs code ns).1, .int .i64 (relC zs code ns).2]) ∧ But g w w' ∧ ∃ m, MarksAt w' g m ∧ Safe code m := by
  have hgl : g < w.heap.size := World.block_lt_of_cell? w _ (hm.1 0 (by omega))
  have hgn : w.heap.size ≠ g := by omega
  go_enter Try.func68, Try.ntmps68
  go_wp2
  go_loopw [14, 6] (fun i ah wr => ∃ (k : Nat) (m : Nat → Bool), i = .int .i64 k ∧ k ≤ zs.length ∧ ah = .int .i64 (aheadV zs k) ∧ But g (w.alloc (.cells #[.string nm, .slice A1 code.length c1, .int .i64 dA, .slice A2 nd c2, .slice A3 ns c3, .slice A zs.length c4] 49)) wr ∧ MarksAt wr g m ∧ Hid (Safe code m) ∧ Hid (∀ j, j < k → relE zs code ns j = 0)) (fun i _ _ => zs.length - (intOf i).toNat)
  case atStart => exact ⟨0, m0, rfl, by omega, rfl, But.refl _ _, hm.keep (lb_alloc (Below.refl _ _) _), hs, fun j hj => by omega⟩
  case round =>
    obtain ⟨k, m, rfl, hk, rfl, hB, hM, HS, HT⟩ := hrel
    rename_i wr _
    have f0 : wr.cell? ⟨w.heap.size, 0, none⟩ = some (.string nm) := hB.cell hgn (by simp [go_sem])
    have f1 : wr.cell? ⟨w.heap.size, 1, none⟩ = some (.slice A1 code.length c1) := hB.cell hgn (by simp [go_sem])
    have f2 : wr.cell? ⟨w.heap.size, 2, none⟩ = some (.int .i64 dA) := hB.cell hgn (by simp [go_sem])
    have f3 : wr.cell? ⟨w.heap.size, 3, none⟩ = some (.slice A2 nd c2) := hB.cell hgn (by simp [go_sem])
    have f4 : wr.cell? ⟨w.heap.size, 4, none⟩ = some (.slice A3 ns c3) := hB.cell hgn (by simp [go_sem])
    have f5 : wr.cell? ⟨w.heap.size, 5, none⟩ = some (.slice A zs.length c4) := hB.cell hgn (by simp [go_sem])
    have HB0 : Hid (But g (w.alloc (.cells #[.string nm, .slice A1 code.length c1, .int .i64 dA, .slice A2 nd c2, .slice A3 ns c3, .slice A zs.length c4] 49)) wr) := hB
    have HB : Hid (But g w wr) := (But.of (lb_alloc (Below.refl _ _) _)).trans hB
    have HW : Hid (Below w0.heap.size w0 wr) := HB.out.below hb0 hg0
    clear hB
    by_cases hlt : k < zs.length
    · obtain ⟨a, rfl, c0, c1'⟩ := (hA.keep HW.out) k hlt
      have d1 : wr.cell? ⟨(a.add (k * 2)).block, (a.add (k * 2)).off + 1, none⟩ = some (.int .i64 (rSym zs k)) := c1'
      clear c1'
      have g0 : (wr.alloc (.cells #[.int .i64 (rAt zs k), .int .i64 (rSym zs k)] 96)).cell? ⟨w.heap.size, 0, none⟩ = some (.string nm) := lkeep (lb_alloc (Below.refl _ _) _) f0
      have g1 : (wr.alloc (.cells #[.int .i64 (rAt zs k), .int .i64 (rSym zs k)] 96)).cell? ⟨w.heap.size, 1, none⟩ = some (.slice A1 code.length c1) := lkeep (lb_alloc (Below.refl _ _) _) f1
      have g2 : (wr.alloc (.cells #[.int .i64 (rAt zs k), .int .i64 (rSym zs k)] 96)).cell? ⟨w.heap.size, 2, none⟩ = some (.int .i64 dA) := lkeep (lb_alloc (Below.refl _ _) _) f2
      have g3 : (wr.alloc (.cells #[.int .i64 (rAt zs k), .int .i64 (rSym zs k)] 96)).cell? ⟨w.heap.size, 3, none⟩ = some (.slice A2 nd c2) := lkeep (lb_alloc (Below.refl _ _) _) f3
      have g4 : (wr.alloc (.cells #[.int .i64 (rAt zs k), .int .i64 (rSym zs k)] 96)).cell? ⟨w.heap.size, 4, none⟩ = some (.slice A3 ns c3) := lkeep (lb_alloc (Below.refl _ _) _) f4
      have g5 : (wr.alloc (.cells #[.int .i64 (rAt zs k), .int .i64 (rSym zs k)] 96)).cell? ⟨w.heap.size, 5, none⟩ = some (.slice (some a) zs.length c4) := lkeep (lb_alloc (Below.refl _ _) _) f5
      have HBB : Hid (But g w (wr.alloc (.cells #[.int .i64 (rAt zs k), .int .i64 (rSym zs k)] 96))) := HB.out.on (lb_alloc (Below.refl _ _) _)
      have HBC : Hid (But g (w.alloc (.cells #[.string nm, .slice A1 code.length c1, .int .i64 dA, .slice A2 nd c2, .slice A3 ns c3, .slice (some a) zs.length c4] 49)) (wr.alloc (.cells #[.int .i64 (rAt zs k), .int .i64 (rSym zs k)] 96))) := HB0.out.on (lb_alloc (Below.refl _ _) _)
      have HMM : Hid (MarksAt (wr.alloc (.cells #[.int .i64 (rAt zs k), .int .i64 (rSym zs k)] 96)) g m) := hM.keep (lb_alloc (Below.refl _ _) _)
      clear hM
      by_cases h1 : rAt zs k ≤ aheadV zs k
      · have HE : Hid (relE zs code ns k = 24) := rel_bad HT.out (Or.inl h1)
        go_wp2
        go_ret2
        exact ⟨ret2I (by rw [relC, first_hit hlt HT.out (by rw [HE.out]; omega), HE.out]), HBB.out, m, HMM.out, HS.out⟩
      by_cases h2 : (code.length : Int) ≤ rAt zs k
      · have HE : Hid (relE zs code ns k = 24) := rel_bad HT.out (Or.inr (Or.inl h2))
        go_wp2
        go_ret2
        exact ⟨ret2I (by rw [relC, first_hit hlt HT.out (by rw [HE.out]; omega), HE.out]), HBB.out, m, HMM.out, HS.out⟩
      by_cases h3 : rSym zs k < 0
      · have HE : Hid (relE zs code ns k = 24) := rel_bad HT.out (Or.inr (Or.inr (Or.inl h3)))
        go_wp2
        go_ret2
        exact ⟨ret2I (by rw [relC, first_hit hlt HT.out (by rw [HE.out]; omega), HE.out]), HBB.out, m, HMM.out, HS.out⟩
      by_cases h4 : (ns : Int) ≤ rSym zs k
      · have HE : Hid (relE zs code ns k = 24) := rel_bad HT.out (Or.inr (Or.inr (Or.inr h4)))
        go_wp2
        go_ret2
        exact ⟨ret2I (by rw [relC, first_hit hlt HT.out (by rw [HE.out]; omega), HE.out]), HBB.out, m, HMM.out, HS.out⟩
      obtain ⟨p0, hE1, hE0⟩ := rel_fine HT.out h1 h2 h3 h4
      have hl : (rAt zs k).toNat < code.length := by omega
      obtain ⟨a1, rfl, q0⟩ := (hC.keep HW.out) (rAt zs k).toNat hl
      have q1 : (wr.alloc (.cells #[.int .i64 (rAt zs k), .int .i64 (rSym zs k)] 96)).cell? (a1.add (rAt zs k).toNat) = some (.int .u32 (nth code (rAt zs k).toNat)) := lkeep (lb_alloc (Below.refl _ _) _) q0
      clear q0
      obtain ⟨v0, v1⟩ := hR _ hl
      have CT := isatarget_any (nth code (rAt zs k).toNat) v0 v1
      have HE1 : Hid _ := hE1
      have HE0 : Hid _ := hE0
      clear hE1 hE0
      have HVV : Hid (tgV (nth code (rAt zs k).toNat) = 0 → Safe code (fun j => j == (rAt zs k).toNat || m j)) := fun h => HS.out.set _ h
      generalize nth code (rAt zs k).toNat = v at q1 v0 v1 CT HE1 HE0 HVV
      go_wp2_with fail
      refine (CT _).mono ?_
      rintro e w5 ⟨rfl, hb5⟩
      clear CT q1 c0 d1
      have k0 : w5.cell? ⟨wr.heap.size, 0, none⟩ = some (.int .i64 (rAt zs k)) := lkeep hb5 (by simp [go_sem])
      have k1 : w5.cell? ⟨wr.heap.size, 1, none⟩ = some (.int .i64 (rSym zs k)) := lkeep hb5 (by simp [go_sem])
      have HB5 : Hid (But g w w5) := HBB.out.on hb5
      have HC5 : Hid (But g (w.alloc (.cells #[.string nm, .slice (some a1) code.length c1, .int .i64 dA, .slice A2 nd c2, .slice A3 ns c3, .slice (some a) zs.length c4] 49)) w5) := HBC.out.on hb5
      have HM5 : Hid (MarksAt w5 g m) := HMM.out.keep hb5
      clear hb5 g0 g1 g2 g3 g4 g5 f0 f1 f2 f3 f4 f5
      cases hT : isT v with
      | false =>
        have HE : Hid (relE zs code ns k = 24) := HE1.out (Or.inl hT)
        clear hT
        go_wp2
        go_ret2
        exact ⟨ret2I (by rw [relC, first_hit hlt HT.out (by rw [HE.out]; omega), HE.out]), HB5.out, m, HM5.out, HS.out⟩
      | true =>
      cases hV : (tgV v == 0) with
      | false =>
        have HE : Hid (relE zs code ns k = 24) := HE1.out (Or.inr (by simpa using hV))
        have hV' : (tgV v != 0) = true := by simpa using hV
        clear hT
        go_wp2
        go_ret2
        exact ⟨ret2I (by rw [relC, first_hit hlt HT.out (by rw [HE.out]; omega), HE.out]), HB5.out, m, HM5.out, HS.out⟩
      | true =>
        have HE : Hid (relE zs code ns k = 0) := HE0.out (by rw [hT]; simp; simpa using hV)
        have HV2 : Hid _ := HVV.out (by simpa using hV)
        have hV' : (tgV v != 0) = false := by simpa using hV
        clear hT
        have z0 : w5.cell? ⟨g, (rAt zs k).toNat, none⟩ = some (.bool (m (rAt zs k).toNat)) := HM5.out.1 _ (by omega)
        have z1 : w5.frozen? ⟨g, (rAt zs k).toNat, none⟩ = false := HM5.out.2 _
        have p1 : rAt zs k < 16384 := by omega
        have n1 : g < wr.heap.size := Nat.lt_of_lt_of_le hgl HB.out.2.2.2.1
        have n2 : ¬ g = wr.heap.size := by omega
        have n3 : ¬ wr.heap.size = g := by omega
        go_wp2
        go_region
        all_goals go_wp2
        all_goals go_roundw
        case rel => exact ⟨k + 1, _, by go_num, by omega, by rw [ahead_succ], (HC5.out.drewN 1).set _ _, (HM5.out.drewN 1).set _, HV2.out, fun j hj => by
          by_cases hjk : j = k
          · rw [hjk]; exact HE.out
          · exact HT.out j (by omega)⟩
        case measure => simp [intOf]; omega
    · have HC : Hid (relC zs code ns = (0, 0)) := first_none fun j hj => HT.out j (by omega)
      go_wp2
      go_ret2
      exact ⟨ret2I (by rw [HC.out]), HB.out, m, hM, HS.out⟩




end Go.Proofs.Ytiihfkjgdhfmiaa

namespace Go.Proofs.Ytiihfkjgdhfmiaa
open Go.RowKit

set_option maxRecDepth 100000 in
set_option maxHeartbeats 4000000 in
theorem asktgts_any (nm : ByteArray) (dA : Int) (A1 A2 A3 A4 : Option Addr) (c1 nd c2 ns c3 nr c4 : Nat) (code : List Int) (g : Nat) (m : Nat → Bool) (w : World) (hC : IntsAt w A1 .u32 code) (hR : ∀ i, i < code.length → 0 ≤ nth code i ∧ nth code i < 4294967296) (hc : code.length ≤ 16384) (hm : MarksAt w g m) (hs : Safe code m) :
    Calls Try.prog 70 #[.agg #[.string nm, .slice A1 code.length c1, .int .i64 dA, .slice A2 nd c2, .slice A3 ns c3, .slice A4 nr c4], .pointer (some ⟨g, 0, none⟩)] w fun e w' => e = .returned (.tuple #[.int .i64 (codC code).1, .int .i64 (codC code).2]) ∧ Below w.heap.size w w' := by
  go_enter Try.func70, Try.ntmps70
  go_wp2
  go_loopw [13] (fun i wr => ∃ k : Nat, i = .int .i64 k ∧ k ≤ code.length ∧ Below (w.alloc (.cells #[.string nm, .slice A1 code.length c1, .int .i64 dA, .slice A2 nd c2, .slice A3 ns c3, .slice A4 nr c4] 49)).heap.size (w.alloc (.cells #[.string nm, .slice A1 code.length c1, .int .i64 dA, .slice A2 nd c2, .slice A3 ns c3, .slice A4 nr c4] 49)) wr ∧ Hid (∀ j, j < k → codE code j = 0)) (fun i _ => code.length - (intOf i).toNat)
  case atStart => exact ⟨0, rfl, by omega, Below.refl _ _, fun j hj => by omega⟩
  case round =>
    obtain ⟨k, rfl, hk, hB, HT⟩ := hrel
    rename_i wr _
    have f0 : wr.cell? ⟨w.heap.size, 0, none⟩ = some (.string nm) := lkeep hB (by simp [go_sem])
    have f1 : wr.cell? ⟨w.heap.size, 1, none⟩ = some (.slice A1 code.length c1) := lkeep hB (by simp [go_sem])
    have f2 : wr.cell? ⟨w.heap.size, 2, none⟩ = some (.int .i64 dA) := lkeep hB (by simp [go_sem])
    have f3 : wr.cell? ⟨w.heap.size, 3, none⟩ = some (.slice A2 nd c2) := lkeep hB (by simp [go_sem])
    have f4 : wr.cell? ⟨w.heap.size, 4, none⟩ = some (.slice A3 ns c3) := lkeep hB (by simp [go_sem])
    have f5 : wr.cell? ⟨w.heap.size, 5, none⟩ = some (.slice A4 nr c4) := lkeep hB (by simp [go_sem])
    have HB : Hid (Below w.heap.size w wr) := lb_trans (lb_alloc (Below.refl _ _) _) hB
    have HB0 : Hid (Below (w.alloc (.cells #[.string nm, .slice A1 code.length c1, .int .i64 dA, .slice A2 nd c2, .slice A3 ns c3, .slice A4 nr c4] 49)).heap.size (w.alloc (.cells #[.string nm, .slice A1 code.length c1, .int .i64 dA, .slice A2 nd c2, .slice A3 ns c3, .slice A4 nr c4] 49)) wr) := hB
    clear hB
    by_cases hlt : k < code.length
    · obtain ⟨a1, rfl, q1⟩ := (hC.keep HB.out) k hlt
      obtain ⟨v0, v1⟩ := hR _ hlt
      have CT := isatarget_any (nth code k) v0 v1
      have HE1 : Hid (isT (nth code k) = true ∧ (code.length : Int) < tgV (nth code k) → codE code k = 22) := fun h => by unfold codE; rw [if_pos h]
      have HE0 : Hid (¬ (isT (nth code k) = true ∧ (code.length : Int) < tgV (nth code k)) → codE code k = 0) := fun h => by unfold codE; rw [if_neg h]
      have HV : Hid (m k = true → tgV (nth code k) = 0) := hs k
      have HMR : Hid (MarksAt wr g m) := hm.keep HB.out
      generalize nth code k = v at q1 v0 v1 CT HE1 HE0 HV
      go_wp2_with fail
      refine (CT _).mono ?_
      rintro e w5 ⟨rfl, hb5⟩
      have e1 := lkeep hb5 f1
      have z0 : w5.cell? ⟨g, k, none⟩ = some (.bool (m k)) := (HMR.out.keep hb5).1 k (by omega)
      have HB5 : Hid (Below w.heap.size w w5) := lb_trans HB.out hb5
      have HB6 : Hid (Below (w.alloc (.cells #[.string nm, .slice (some a1) code.length c1, .int .i64 dA, .slice A2 nd c2, .slice A3 ns c3, .slice A4 nr c4] 49)).heap.size (w.alloc (.cells #[.string nm, .slice (some a1) code.length c1, .int .i64 dA, .slice A2 nd c2, .slice A3 ns c3, .slice A4 nr c4] 49)) w5) := lb_trans HB0.out hb5
      clear CT hb5 q1 f0 f1 f2 f3 f4 f5
      cases hT : isT v with
      | false =>
          have HE : Hid (codE code k = 0) := HE0.out (by rw [hT]; simp)
          clear hT
          go_wp2
          go_roundw
          case rel => exact ⟨k + 1, by go_num, by omega, HB6.out, fun j hj => by
            by_cases hjk : j = k
            · rw [hjk]; exact HE.out
            · exact HT.out j (by omega)⟩
          case measure => simp [intOf]; omega
      | true =>
        cases hM : m k with
        | true =>
          rw [hM] at z0
          have HE : Hid (codE code k = 0) := HE0.out (by rw [HV.out hM]; omega)
          clear hT hM
          go_wp2
          go_roundw
          case rel => exact ⟨k + 1, by go_num, by omega, HB6.out, fun j hj => by
            by_cases hjk : j = k
            · rw [hjk]; exact HE.out
            · exact HT.out j (by omega)⟩
          case measure => simp [intOf]; omega
        | false =>
          rw [hM] at z0
          by_cases h6 : (code.length : Int) < tgV v
          · have HE : Hid (codE code k = 22) := HE1.out ⟨hT, h6⟩
            clear hT hM
            go_wp2
            go_ret2
            exact ⟨ret2I (by rw [cod_hit hlt HT.out HE.out]), HB5.out⟩
          have HE : Hid (codE code k = 0) := HE0.out (by omega)
          clear hT hM
          go_wp2
          go_roundw
          case rel => exact ⟨k + 1, by go_num, by omega, HB6.out, fun j hj => by
            by_cases hjk : j = k
            · rw [hjk]; exact HE.out
            · exact HT.out j (by omega)⟩
          case measure => simp [intOf]; omega
    · have HC : Hid (codC code = (0, 0)) := cod_none fun j hj => HT.out j (by omega)
      go_wp2
      go_ret2
      exact ⟨ret2I (by rw [HC.out]), HB.out⟩




end Go.Proofs.Ytiihfkjgdhfmiaa
