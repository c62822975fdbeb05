/-
  The statement EdgeRuns, walked. Lists that rise, each number once; no Go in sight. What the flow of an image is; no Go in sight.
-/
import Derived.Test.YtgkdagnpefgjcaaGreatProg
import Derived.WalkKit
import Derived.WalkSpells
import Derived.WalkLawsBesides
import Derived.RowKit3
import Derived.Below
import Derived.Deep.QuietTactic
import Derived.BigQuiet
import Derived.WalkSmall
import Derived.Laws.Rows
import Derived.Test.YtgkdagnpefgjcaaGreatPr15
import Derived.Test.YtgkdagnpefgjcaaGreatPr38
import Derived.Test.YtgkdagnpefgjcaaGreatPr05
import Derived.Lib.SlicesCompact
import Derived.Lib.RowBridge
import Derived.Test.YtgkdagnpefgjcaaGreatPr16
import Derived.Test.YtgkdagnpefgjcaaGreatPr17
import Derived.Test.YtgkdagnpefgjcaaGreatPr11
namespace Go.Proofs.YtgkdagnpefgjcaaGreat
open Go.RowKit

set_option maxRecDepth 100000 in
set_option maxHeartbeats 16000000 in
theorem lawRuns (HE : EdgesOK) (HR : ReachedOK) (A1 A2 A3 : Option Addr) (c1 c2 c3 : Nat) (ent st : Int) (text mem tape : List Int) (w : World) (hT : IntsAt w A1 .u32 text) (hM : IntsAt w A2 .i64 mem) (hX : IntsAt w A3 .i64 tape) (hR : ∀ i, i < text.length → 0 ≤ nth text i ∧ nth text i < 4294967296) (h03 : A3 = none → c3 = 0) (hxl : tape.length ≤ maxLen) :
    Calls Tryz.prog 3 #[.agg #[.slice A1 text.length c1, .int .i64 ent, .slice A2 mem.length c2], .slice A3 tape.length c3, .int .i64 st] w fun e w' => e = .returned (.bool true) ∧ Below w.heap.size w w' := by
  have CW := works_any HE
  obtain ⟨W0, HW⟩ : ∃ W0, Hid (w.alloc (.cells #[.slice A1 text.length c1, .int .i64 ent, .slice A2 mem.length c2] 25) = W0) := ⟨_, rfl⟩
  have HB0 : Hid (Below w.heap.size w W0) := by unfold Hid; rw [← HW.out]; exact lb_alloc (Below.refl _ _) _
  have i0 : W0.cell? ⟨w.heap.size, 0, none⟩ = some (.slice A1 text.length c1) := by rw [← HW.out]; simp [go_sem]
  have i1 : W0.cell? ⟨w.heap.size, 1, none⟩ = some (.int .i64 ent) := by rw [← HW.out]; simp [go_sem]
  have i2 : W0.cell? ⟨w.heap.size, 2, none⟩ = some (.slice A2 mem.length c2) := by rw [← HW.out]; simp [go_sem]
  have HI : Hid (∀ Z, Below W0.heap.size W0 Z → Z.cell? ⟨w.heap.size, 0, none⟩ = some (.slice A1 text.length c1) ∧ Z.cell? ⟨w.heap.size, 1, none⟩ = some (.int .i64 ent) ∧ Z.cell? ⟨w.heap.size, 2, none⟩ = some (.slice A2 mem.length c2)) := fun Z hZ => ⟨lkeep hZ i0, lkeep hZ i1, lkeep hZ i2⟩
  have C0 := much_any A1 A2 c1 c2 ent text mem W0
  by_cases g0 : muchB text mem = true ∨ 8192 < tape.length ∨ 300 < st
  · have hcase : muchB text mem = true ∨ (muchB text mem = false ∧ (8192 : Int) < (tape.length : Int)) ∨ (muchB text mem = false ∧ ¬ (8192 : Int) < (tape.length : Int) ∧ 300 < st) := by
      cases hmb : muchB text mem
      · by_cases hx : 8192 < tape.length
        · exact .inr (.inl ⟨rfl, by omega⟩)
        · refine .inr (.inr ⟨rfl, by omega, ?_⟩)
          rcases g0 with h | h | h
          · rw [hmb] at h; cases h
          · omega
          · exact h
      · exact .inl rfl
    clear g0
    rcases hcase with hm1 | ⟨hm1, hm2⟩ | ⟨hm1, hm2, hm3⟩
    all_goals (
      rw [hm1] at C0
      go_enter Tryz.func3, Tryz.ntmps3
      go_upto_region 1 with fail
      rw [HW.out]
      clear HW
      go_wp2_with (first
          | (go_at_call 4; refine C0.mono ?_; rintro e w1 ⟨rfl, hb1⟩)
          | (go_at_call 5; refine (CW _).mono ?_; rintro e w2 ⟨rfl, hb2⟩))
      go_ret
      exact ⟨rfl, lb_trans HB0.out (lb_trans hb1 hb2)⟩)
  have g1 : muchB text mem = false := by
    cases h : muchB text mem
    · rfl
    · exact absurd (.inl h) g0
  have l1 : text.length ≤ 600 ∧ mem.length ≤ 16384 := by have g := g1; unfold muchB at g; simp at g; omega
  have l3 : ¬ (8192 : Int) < (tape.length : Int) := fun h => g0 (.inr (.inl (by omega)))
  have l4 : ¬ 300 < st := fun h => g0 (.inr (.inr h))
  rw [g1] at C0
  obtain ⟨l1, l2⟩ := l1
  clear g0 g1
  have CBk := fun Z (hZ : Below W0.heap.size W0 Z) => blocks_any A1 A2 c1 mem.length c2 ent text Z (hT.keep (lb_trans HB0.out hZ)) hR (by omega) (by omega)
  have CE := fun Z (hZ : Below W0.heap.size W0 Z) => HE A1 A2 c1 mem.length c2 ent text Z (hT.keep (lb_trans HB0.out hZ)) hR (by omega) (by omega)
  have CR := fun Z (hZ : Below W0.heap.size W0 Z) => HR A1 A2 c1 mem.length c2 ent text Z (hT.keep (lb_trans HB0.out hZ)) hR (by omega) (by omega)
  have CN := fun Z (hZ : Below W0.heap.size W0 Z) => new_any A1 A2 A3 c1 c2 c3 ent text mem tape Z (hT.keep (lb_trans HB0.out hZ)) (hM.keep (lb_trans HB0.out hZ)) (hX.keep (lb_trans HB0.out hZ)) hR (by omega) (by omega) hxl h03
  go_enter Tryz.func3, Tryz.ntmps3
  go_upto_region 1 with fail
  rw [HW.out]
  clear HW
  go_upto_region 3 with (go_at_call 4; refine C0.mono ?_; rintro e W1 ⟨rfl, hb1⟩; have HB1 : Hid (Below W0.heap.size W0 W1) := hb1)
  clear i0 i1 i2 hb1 C0
  by_cases hE : (checkI text mem.length ent).1 = 0
  · have HMay : Hid (MayI text mem.length ent) := check_mayI hE
    have hLt := blk_len_le text ent
    have HNew : Hid (newE text tape mem ent = 0 → Going text ent (newM text tape mem ent) ∧ (newM text tape mem ent).steps = 0) := fun e => (new_may e hR).2
    rw [show outB text mem.length ent = blkL text ent from if_pos hE, hE] at CBk
    rw [show outE text mem.length ent = edgT text ent (blkL text ent).length from if_pos hE, hE] at CE
    rw [show outN text mem.length ent = (blkL text ent).length from if_pos hE, hE] at CR
    clear hE hR hT hM hX h03 hxl
    obtain ⟨i0, i1, i2⟩ := HI.out W1 HB1.out
    go_wp2_with fail
    refine (CBk W1 HB1.out).mono ?_
    rintro e W2 ⟨Ob, co, rfl, hown, hb⟩
    clear i0 i1 i2
    have HB2 : Hid (Below W0.heap.size W0 W2) := lb_trans HB1.out hb
    have HL2 : Hid (RelsAt W2 Ob (blkL text ent)) := drow_rels hown
    clear hown hb HB1
    obtain ⟨i0, i1, i2⟩ := HI.out W2 HB2.out
    go_wp2_with fail
    refine (CE W2 HB2.out).mono ?_
    rintro e W3 ⟨Al, cl, rfl, hz, hb⟩
    clear i0 i1 i2
    have HB3 : Hid (Below W0.heap.size W0 W3) := lb_trans HB2.out hb
    have HL3 : Hid (RelsAt W3 Ob (blkL text ent)) := HL2.out.keep hb
    have HZ3 : Hid (IntsZ W3 Al (edgT text ent (blkL text ent).length)) := hz
    clear hz hb HB2 HL2
    obtain ⟨i0, i1, i2⟩ := HI.out W3 HB3.out
    go_wp2_with fail
    refine (CR W3 HB3.out).mono ?_
    rintro e W5 ⟨Ar, cr, rfl, hz, hb⟩
    clear i0 i1 i2
    have HB5 : Hid (Below W0.heap.size W0 W5) := lb_trans HB3.out hb
    have HL : Hid (RelsAt W5 Ob (blkL text ent)) := HL3.out.keep hb
    have HZ : Hid (IntsZ W5 Al (edgT text ent (blkL text ent).length)) := HZ3.out.keep hb
    have HBo : Hid (BolsAt W5 Ar (blkL text ent).length (outR text ent)) := hz
    clear hz hb HB3 HL3 HZ3
    obtain ⟨i0, i1, i2⟩ := HI.out W5 HB5.out
    go_wp2_with fail
    refine (CN W5 HB5.out).mono ?_
    rintro e W6 ⟨hb, hnew⟩
    clear i0 i1 i2
    have HB6 : Hid (Below W0.heap.size W0 W6) := lb_trans HB5.out hb
    have HBN : Hid (Below W5.heap.size W5 W6) := hb
    clear hb
    rcases hnew with ⟨hne, rfl⟩ | ⟨hne, P, s, rfl, hP⟩
    · have hne1 : (newE text tape mem ent != 0) = true := by simpa using hne
      have hne2 : (newE text tape mem ent == 0) = false := by simpa using hne
      clear hne
      generalize newE text tape mem ent = E at *
      go_wp2_with (go_at_call 5; refine (CW _).mono ?_; rintro e w9 ⟨rfl, hb9⟩)
      go_ret
      exact ⟨rfl, lb_trans HB0.out (lb_trans HB6.out hb9)⟩
    · obtain ⟨hgo, hs0⟩ := HNew.out hne
      have HM0 : Hid (∃ s m, PAt W6 W5.heap.size P s m ∧ Going text ent m ∧ m.steps = 0) := ⟨s, _, hP, hgo, hs0⟩
      have hzl : (edgT text ent (blkL text ent).length).length = (blkL text ent).length := edgT_len _ _ _
      clear hne hP hgo hs0 HNew
      go_wp2
      go_loopw [15] (fun i wr => ∃ k : Nat, i = .int .i64 k ∧ Hid (∃ s m, PAt wr W5.heap.size P s m ∧ Going text ent m ∧ m.steps = k) ∧ Hid (Below W5.heap.size W5 wr)) (fun i _ => st.toNat - (intOf i).toNat)
      case atStart => exact ⟨0, rfl, HM0, HBN⟩
      case round =>
        clear HM0 HBN
        obtain ⟨k, rfl, HM, HB⟩ := hrel
        by_cases hlt : (k : Int) < st
        · obtain ⟨s, m, hP, hG, hst⟩ := HM.out
          obtain ⟨b, hb, eb, hrb⟩ := hG.reached
          obtain ⟨hGo, hWay⟩ : ((stepM m).status = 0 → Going text ent (stepM m)) ∧ ((stepM m).status = 0 → Way text ent b m.pc (stepM m).pc) := ⟨fun e => (going_step HMay.out hG e).1, fun e => (going_step HMay.out hG e).2 b hb eb⟩
          have HW2 : Hid ((stepM m).status = 0 → Way text ent b m.pc (stepM m).pc) := hWay
          have HG2 : Hid ((stepM m).status = 0 → Going text ent (stepM m)) := hGo
          have hpb := hG.fine.pc
          have hb' : (b : Int) < ((blkL text ent).length : Int) := by omega
          have hbd : decide ((b : Int) < 0) = false := decide_eq_false (by omega)
          have hbe : decide (((blkL text ent).length : Int) ≤ (b : Int)) = false := decide_eq_false (by omega)
          have hwr : IntKind.i64.wrap ((m.pc : Int) + 1) = (m.pc : Int) + 1 := by simp [IntKind.wrap, IntKind.signed, IntKind.bits]; omega
          have HF : Hid (Fine m) := hG.fine
          have C1 := at_yes hP hG.fine
          have C2 := of_any Ob co (blkL text ent) (m.pc : Int) wr (HL.out.keep HB.out) (by omega)
          rw [eb] at C2
          obtain ⟨ar, ear, cr⟩ := (HBo.out.keep HB.out) b hb
          subst ear
          rw [hrb] at cr
          have HP : Hid (PAt wr W5.heap.size P s m) := hP
          clear hrb eb hP hG hGo hWay
          go_wp2_with fail
          refine C1.mono ?_
          rintro e wx ⟨rfl, hwx⟩
          obtain rfl := hwx.symm
          go_wp2_with fail
          refine C2.mono ?_
          rintro e w2 ⟨rfl, hb2⟩
          have cr2 := lkeep hb2 cr
          have HP2 : Hid (PAt w2 W5.heap.size P s m) := HP.out.keep hb2
          have HB2 : Hid (Below W5.heap.size W5 w2) := lb_trans HB.out hb2
          have C3 := step_any HP2.out HF.out (by omega)
          clear cr hb2 C1 C2
          by_cases hrun : (stepM m).status = 0
          · have HG3 : Hid (Going text ent (stepM m)) := HG2.out hrun
            have HW3 : Hid (Way text ent b m.pc (stepM m).pc) := HW2.out hrun
            have HS3 : Hid ((stepM m).steps = k + 1) := by rw [Hid, step_more hrun, hst]
            rw [hrun] at C3
            clear HG2 HW2 hrun
            go_wp2_with fail
            refine C3.mono ?_
            rintro e w3 ⟨rfl, s2, hP3, hU3, -⟩
            have HP3 : Hid (PAt w3 W5.heap.size P s2 (stepM m)) := hP3
            have HB3 : Hid (Below W5.heap.size W5 w3) := hU3.below HB2.out (fun x hx => (HP2.out.foot hx).1)
            clear hP3 hU3 HP2 C3 cr2
            have C4 := at_yes HP3.out HG3.out.fine
            go_wp2_with fail
            refine C4.mono ?_
            rintro e wy ⟨rfl, hwy⟩
            obtain rfl := hwy.symm
            obtain ⟨al, eal, l0, l1⟩ := (HL.out.keep HB3.out) b hb
            subst eal
            have l1 : w3.cell? ⟨(al.add (b * 2)).block, (al.add (b * 2)).off + 1, none⟩ = some (.int .i64 (rSym (blkL text ent) b)) := l1
            have hq2 := HG3.out.fine.pc
            clear C4 l0
            by_cases hc : (stepM m).pc = m.pc + 1 ∧ ((stepM m).pc : Int) < rSym (blkL text ent) b
            · obtain ⟨hc1, hc2⟩ := hc
              have hc3 : (((stepM m).pc : Int) == (m.pc : Int) + 1) = true := by rw [beq_iff_eq]; omega
              clear hc1
              generalize rSym (blkL text ent) b = T at *
              go_wp2
              go_roundw
              case rel => exact ⟨k + 1, by go_num, ⟨s2, stepM m, HP3.out, HG3.out, HS3.out⟩, HB3⟩
              case measure => simp [intOf]; omega
            · have hway : ∃ j : Nat, j < (blkL text ent).length ∧ ofB (blkL text ent) ((stepM m).pc : Int) = (j : Int) ∧ rAt (blkL text ent) j = ((stepM m).pc : Int) ∧ (j : Int) ∈ rowZ (edgT text ent (blkL text ent).length) b := by
                rcases HW3.out with h | h
                · exact absurd h hc
                · exact h
              obtain ⟨j, hj, ej, rj, mj⟩ := hway
              have C5 := of_any (some al) co (blkL text ent) ((stepM m).pc : Int) w3 (HL.out.keep HB3.out) (by omega)
              rw [ej] at C5
              obtain ⟨al2, eal2, r0, -⟩ := (HL.out.keep HB3.out) j hj
              obtain rfl := Option.some.inj eal2
              rw [rj] at r0
              have hj' : (j : Int) < ((blkL text ent).length : Int) := by omega
              have hjd : decide ((j : Int) < 0) = false := decide_eq_false (by omega)
              have hje : decide (((blkL text ent).length : Int) ≤ (j : Int)) = false := decide_eq_false (by omega)
              obtain ⟨az, Rz, kz, eaz, qz, rz⟩ := HZ.out b (by rw [edgT_len]; exact hb)
              have HQ : Hid (W5.cell? (az.add b) = some (.slice Rz (rowZ (edgT text ent (blkL text ent).length) b).length kz)) := qz
              have HRz : Hid (IntsAt W5 Rz .i64 (rowZ (edgT text ent (blkL text ent).length) b)) := rz
              have HAny : Hid (anyB (rowZ (edgT text ent (blkL text ent).length) b) (j : Int) (rowZ (edgT text ent (blkL text ent).length) b).length = true) := anyB_mem mj
              have hlz : (rowZ (edgT text ent (blkL text ent).length) b).length ≤ 65536 := by
                rw [edg_row hb]
                have := plcT_len (edgR text ent b) (blkL text ent).length
                omega
              have hzl : (edgT text ent (blkL text ent).length).length = (blkL text ent).length := edgT_len _ _ _
              subst eaz
              clear HW3 eal2 ej rj mj qz rz
              have hbz : (b : Int) < ((edgT text ent (blkL text ent).length).length : Int) := by omega
              clear hzl
              generalize rowZ (edgT text ent (blkL text ent).length) b = row at *
              generalize rSym (blkL text ent) b = T at *
              by_cases hc1 : (stepM m).pc = m.pc + 1
              · have hc3 : (((stepM m).pc : Int) == (m.pc : Int) + 1) = true := by rw [beq_iff_eq]; omega
                have hc4 : ¬ ((stepM m).pc : Int) < T := fun h => hc ⟨hc1, h⟩
                clear hc hc1
                go_wp2_with fail
                refine C5.mono ?_
                rintro e w5 ⟨rfl, hb5⟩
                have HB6 : Hid (Below W5.heap.size W5 w5) := lb_trans HB3.out hb5
                have HP5 : Hid (PAt w5 W5.heap.size P s2 (stepM m)) := HP3.out.keep hb5
                have r5 := lkeep hb5 r0
                have q5 := lkeep HB6.out HQ.out
                clear C5 hb5 r0 l1 HP3 HB3
                go_wp2
                go_loopw [20, 21] (fun v i wt => ∃ t : Nat, i = .int .i64 t ∧ v = .bool (anyB row (j : Int) t) ∧ t ≤ row.length ∧ wt = w5) (fun _ i _ => row.length - (intOf i).toNat)
                case atStart => exact ⟨0, rfl, rfl, Nat.zero_le _, rfl⟩
                case round =>
                  obtain ⟨t, rfl, rfl, ht, rfl⟩ := hrel
                  by_cases htl : t < row.length
                  · have htl' : (t : Int) < (row.length : Int) := by omega
                    obtain ⟨ax, eax, cx⟩ := HRz.out t htl
                    subst eax
                    have cx := lkeep HB6.out cx
                    have HN : Hid (anyB row (j : Int) (t + 1) = (anyB row (j : Int) t || (nth row t == (j : Int)))) := rfl
                    generalize nth row t = x at *
                    cases ha : anyB row (j : Int) t with
                    | true =>
                      rw [ha, Bool.true_or] at HN
                      clear ha
                      go_wp2
                      go_roundw
                      case rel => exact ⟨t + 1, by go_num, by rw [HN.out], by omega, by first | exact rfl | exact trivial⟩
                      case measure => simp [intOf]; omega
                    | false =>
                      rw [ha, Bool.false_or] at HN
                      clear ha
                      go_wp2
                      go_roundw
                      case rel => exact ⟨t + 1, by go_num, by rw [HN.out], by omega, by first | exact rfl | exact trivial⟩
                      case measure => simp [intOf]; omega
                  · obtain rfl : t = row.length := by omega
                    rw [HAny.out]
                    go_wp2
                    go_roundw
                    case rel => exact ⟨k + 1, by go_num, ⟨s2, stepM m, HP5.out, HG3.out, HS3.out⟩, HB6⟩
                    case measure => simp [intOf]; omega
              · have hc3 : (((stepM m).pc : Int) == (m.pc : Int) + 1) = false := by rw [beq_eq_false_iff_ne]; omega
                clear hc hc1
                go_wp2_with fail
                refine C5.mono ?_
                rintro e w5 ⟨rfl, hb5⟩
                have HB6 : Hid (Below W5.heap.size W5 w5) := lb_trans HB3.out hb5
                have HP5 : Hid (PAt w5 W5.heap.size P s2 (stepM m)) := HP3.out.keep hb5
                have r5 := lkeep hb5 r0
                have q5 := lkeep HB6.out HQ.out
                clear C5 hb5 r0 l1 HP3 HB3
                go_wp2
                go_loopw [20, 21] (fun v i wt => ∃ t : Nat, i = .int .i64 t ∧ v = .bool (anyB row (j : Int) t) ∧ t ≤ row.length ∧ wt = w5) (fun _ i _ => row.length - (intOf i).toNat)
                case atStart => exact ⟨0, rfl, rfl, Nat.zero_le _, rfl⟩
                case round =>
                  obtain ⟨t, rfl, rfl, ht, rfl⟩ := hrel
                  by_cases htl : t < row.length
                  · have htl' : (t : Int) < (row.length : Int) := by omega
                    obtain ⟨ax, eax, cx⟩ := HRz.out t htl
                    subst eax
                    have cx := lkeep HB6.out cx
                    have HN : Hid (anyB row (j : Int) (t + 1) = (anyB row (j : Int) t || (nth row t == (j : Int)))) := rfl
                    generalize nth row t = x at *
                    cases ha : anyB row (j : Int) t with
                    | true =>
                      rw [ha, Bool.true_or] at HN
                      clear ha
                      go_wp2
                      go_roundw
                      case rel => exact ⟨t + 1, by go_num, by rw [HN.out], by omega, by first | exact rfl | exact trivial⟩
                      case measure => simp [intOf]; omega
                    | false =>
                      rw [ha, Bool.false_or] at HN
                      clear ha
                      go_wp2
                      go_roundw
                      case rel => exact ⟨t + 1, by go_num, by rw [HN.out], by omega, by first | exact rfl | exact trivial⟩
                      case measure => simp [intOf]; omega
                  · obtain rfl : t = row.length := by omega
                    rw [HAny.out]
                    go_wp2
                    go_roundw
                    case rel => exact ⟨k + 1, by go_num, ⟨s2, stepM m, HP5.out, HG3.out, HS3.out⟩, HB6⟩
                    case measure => simp [intOf]; omega
          · have hne : ((stepM m).status != 0) = true := by simpa using hrun
            have hne2 : ((stepM m).status == 0) = false := by simpa using hrun
            clear HG2 HW2 hrun
            go_wp2_with fail
            refine C3.mono ?_
            rintro e w3 ⟨rfl, s2, hP3, hU3, -⟩
            have HB3 : Hid (Below W5.heap.size W5 w3) := hU3.below HB2.out (fun x hx => (HP2.out.foot hx).1)
            clear hP3 hU3 HP2 C3 cr2
            go_wp2_with (go_at_call 5; refine (CW _).mono ?_; rintro e w9 ⟨rfl, hb9⟩)
            go_ret
            exact ⟨rfl, lb_trans HB0.out (lb_trans HB5.out (lb_trans HB3.out hb9))⟩
        · go_wp2_with (go_at_call 5; refine (CW _).mono ?_; rintro e w9 ⟨rfl, hb9⟩)
          go_ret
          exact ⟨rfl, lb_trans HB0.out (lb_trans HB5.out (lb_trans HB.out hb9))⟩
  · rw [show outB text mem.length ent = [] from if_neg hE] at CBk
    rw [show outE text mem.length ent = [] from if_neg hE] at CE
    rw [show outN text mem.length ent = 0 from if_neg hE] at CR
    have hne : ((checkI text mem.length ent).1 == 0) = false := by simpa using hE
    have hne2 : ((checkI text mem.length ent).1 != 0) = true := by simpa using hE
    clear hE hR hT hM hX h03 hxl
    obtain ⟨i0, i1, i2⟩ := HI.out W1 HB1.out
    go_wp2_with fail
    refine (CBk W1 HB1.out).mono ?_
    rintro e W2 ⟨Ob, co, rfl, hown, hb⟩
    clear i0 i1 i2
    have HB2 : Hid (Below W0.heap.size W0 W2) := lb_trans HB1.out hb
    have HL2 : Hid (RelsAt W2 Ob []) := drow_rels hown
    clear hown hb HB1
    obtain ⟨i0, i1, i2⟩ := HI.out W2 HB2.out
    go_wp2_with fail
    refine (CE W2 HB2.out).mono ?_
    rintro e W3 ⟨Al, cl, rfl, hz, hb⟩
    clear i0 i1 i2
    have HB3 : Hid (Below W0.heap.size W0 W3) := lb_trans HB2.out hb
    have HL3 : Hid (RelsAt W3 Ob []) := HL2.out.keep hb
    have HZ3 : Hid (IntsZ W3 Al []) := hz
    clear hz hb HB2 HL2
    obtain ⟨i0, i1, i2⟩ := HI.out W3 HB3.out
    go_wp2_with fail
    refine (CR W3 HB3.out).mono ?_
    rintro e W5 ⟨Ar, cr, rfl, hz, hb⟩
    clear i0 i1 i2
    have HB5 : Hid (Below W0.heap.size W0 W5) := lb_trans HB3.out hb
    have HL : Hid (RelsAt W5 Ob []) := HL3.out.keep hb
    have HZ : Hid (IntsZ W5 Al []) := HZ3.out.keep hb
    have HBo : Hid (BolsAt W5 Ar 0 (outR text ent)) := hz
    clear hz hb HB3 HL3 HZ3
    obtain ⟨i0, i1, i2⟩ := HI.out W5 HB5.out
    go_wp2_with fail
    refine (CN W5 HB5.out).mono ?_
    rintro e W6 ⟨hb, hnew⟩
    clear i0 i1 i2
    have HB6 : Hid (Below W0.heap.size W0 W6) := lb_trans HB5.out hb
    have HBN : Hid (Below W5.heap.size W5 W6) := hb
    clear hb
    rcases hnew with ⟨_, rfl⟩ | ⟨_, P, s, rfl, hP⟩
    all_goals (
      generalize (checkI text mem.length ent).1 = E at *
      go_wp2_with (go_at_call 5; refine (CW _).mono ?_; rintro e w9 ⟨rfl, hb9⟩)
      go_ret
      exact ⟨rfl, lb_trans HB0.out (lb_trans HB6.out hb9)⟩)


end Go.Proofs.YtgkdagnpefgjcaaGreat

namespace Go.Proofs.YtgkdagnpefgjcaaGreat
open Go.RowKit

/-- Two lists that rise and have the same numbers are one. -/
theorem rise_uniq : ∀ {l m : List Int}, l.Pairwise (· < ·) → m.Pairwise (· < ·) → (∀ y, y ∈ l ↔ y ∈ m) → l = m
  | [], [], _, _, _ => rfl
  | [], b :: m, _, _, h => absurd ((h b).2 (by simp)) (by simp)
  | a :: l, [], _, _, h => absurd ((h a).1 (by simp)) (by simp)
  | a :: l, b :: m, hl, hm, h => by
    rw [List.pairwise_cons] at hl hm
    have hab : a = b := by
      have h1 : a ∈ b :: m := (h a).1 (by simp)
      have h2 : b ∈ a :: l := (h b).2 (by simp)
      rw [List.mem_cons] at h1 h2
      rcases h1 with h1 | h1
      · exact h1
      · rcases h2 with h2 | h2
        · exact h2.symm
        · have := hl.1 b h2
          have := hm.1 a h1
          omega
    subst hab
    congr 1
    refine rise_uniq hl.2 hm.2 fun y => ?_
    constructor
    · intro hy
      have h1 : y ∈ a :: m := (h y).1 (List.mem_cons_of_mem _ hy)
      have h2 := hl.1 y hy
      rw [List.mem_cons] at h1
      rcases h1 with rfl | h1
      · omega
      · exact h1
    · intro hy
      have h1 : y ∈ a :: l := (h y).2 (List.mem_cons_of_mem _ hy)
      have h2 := hm.1 y hy
      rw [List.mem_cons] at h1
      rcases h1 with rfl | h1
      · omega
      · exact h1
theorem plc_pair (f : Int → Bool) (n : Nat) : (plcT f n).Pairwise (· < ·) := by
  unfold plcT
  rw [List.pairwise_map]
  exact (List.pairwise_lt_range.filter _).imp (fun {a b} h => by omega)
theorem plc_uniq {f : Int → Bool} {n : Nat} {l : List Int} (hl : l.Pairwise (· < ·)) (h : ∀ y, y ∈ l ↔ 0 ≤ y ∧ y < n ∧ f y = true) : l = plcT f n :=
  rise_uniq hl (plc_pair f n) fun y => by rw [h y, plcT_mem]
/-- What is left of a list that rises, each number once. -/
theorem compact_rise {zs : List Int} (h : zs.Pairwise (· ≤ ·)) : (Lib.compact zs).Pairwise (· < ·) ∧ ∀ y, y ∈ Lib.compact zs ↔ y ∈ zs := by
  have hget : ∀ i, i < zs.length → zs.toArray[i]! = zs.getD i 0 := fun i hi => by
    simp [List.getD, hi]
  have hle : ∀ i j, i ≤ j → j < zs.length → zs.getD i 0 ≤ zs.getD j 0 := fun i j hij hj => by
    by_cases e : i = j
    · subst e; exact Int.le_refl _
    · rw [List.pairwise_iff_getElem] at h
      have := h i j (by omega) hj (by omega)
      simpa [List.getD, hj, show i < zs.length by omega] using this
  have key : ∀ m, m ≤ zs.length → (Lib.compactUpTo zs.toArray m).Pairwise (· < ·) ∧ (∀ y, y ∈ Lib.compactUpTo zs.toArray m ↔ ∃ i, i < m ∧ zs.getD i 0 = y) := by
    intro m
    induction m with
    | zero => exact fun _ => ⟨by simp [Lib.compactUpTo], fun y => by simp [Lib.compactUpTo]⟩
    | succ m ih =>
      intro hm
      obtain ⟨i1, i2⟩ := ih (by omega)
      rw [Lib.compactUpTo_succ]
      by_cases hk : Lib.keeps zs.toArray m = true
      · rw [if_pos hk, hget m (by omega)]
        constructor
        · rw [List.pairwise_append]
          refine ⟨i1, by simp, fun x hx y hy => ?_⟩
          rw [List.mem_singleton] at hy
          subst hy
          obtain ⟨i, hi, rfl⟩ := (i2 x).1 hx
          unfold Lib.keeps at hk
          rw [decide_eq_true_eq] at hk
          rcases hk with rfl | hk
          · omega
          · rw [hget m (by omega), hget (m - 1) (by omega)] at hk
            have h1 := hle i (m - 1) (by omega) (by omega)
            have h2 := hle (m - 1) m (by omega) (by omega)
            omega
        · intro y
          rw [List.mem_append, i2, List.mem_singleton]
          constructor
          · rintro (⟨i, hi, e⟩ | rfl)
            · exact ⟨i, by omega, e⟩
            · exact ⟨m, by omega, rfl⟩
          · rintro ⟨i, hi, e⟩
            by_cases him : i = m
            · subst him; exact .inr e.symm
            · exact .inl ⟨i, by omega, e⟩
      · have hk' : Lib.keeps zs.toArray m = false := by simpa using hk
        rw [if_neg hk, List.append_nil]
        refine ⟨i1, fun y => ?_⟩
        rw [i2]
        unfold Lib.keeps at hk'
        rw [decide_eq_false_iff_not] at hk'
        have hm0 : m ≠ 0 := fun e => hk' (.inl e)
        have he : zs.getD m 0 = zs.getD (m - 1) 0 := by
          rw [← hget m (by omega), ← hget (m - 1) (by omega)]
          exact Decidable.byContradiction fun e => hk' (.inr e)
        constructor
        · rintro ⟨i, hi, e⟩
          exact ⟨i, by omega, e⟩
        · rintro ⟨i, hi, e⟩
          by_cases him : i = m
          · subst him; exact ⟨i - 1, by omega, by rw [← he]; exact e⟩
          · exact ⟨i, by omega, e⟩
  obtain ⟨k1, k2⟩ := key zs.length (Nat.le_refl _)
  refine ⟨k1, fun y => ?_⟩
  show y ∈ Lib.compactUpTo zs.toArray zs.length ↔ _
  rw [k2, List.mem_iff_getElem]
  constructor
  · rintro ⟨i, hi, e⟩
    exact ⟨i, hi, by simpa [List.getD, hi] using e⟩
  · rintro ⟨i, hi, e⟩
    exact ⟨i, hi, by simpa [List.getD, hi] using e⟩
/-- What rising tells. -/
def risZ (zs : List Int) : List Int := Lib.compact (zs.mergeSort fun x y => decide (x ≤ y))
theorem ris_rise (zs : List Int) : (risZ zs).Pairwise (· < ·) ∧ ∀ y, y ∈ risZ zs ↔ y ∈ zs := by
  have hs : (zs.mergeSort fun x y => decide (x ≤ y)).Pairwise (· ≤ ·) := by
    have := List.pairwise_mergeSort (le := fun x y : Int => decide (x ≤ y)) (fun a b c h1 h2 => by simp at h1 h2 ⊢; omega) (fun a b => by simp; omega) zs
    exact this.imp fun {a b} h => by simpa using h
  obtain ⟨h1, h2⟩ := compact_rise hs
  exact ⟨h1, fun y => by
    show y ∈ Lib.compact _ ↔ _
    rw [h2, List.mem_mergeSort]⟩
theorem ris_plc {zs : List Int} {f : Int → Bool} {n : Nat} (h : ∀ y, y ∈ zs ↔ 0 ≤ y ∧ y < n ∧ f y = true) : risZ zs = plcT f n :=
  plc_uniq (ris_rise zs).1 fun y => by rw [(ris_rise zs).2, h]
theorem ris_len (zs : List Int) : (risZ zs).length ≤ zs.length := by
  unfold risZ
  have h1 := Lib.compact_length_le (zs.mergeSort fun x y => decide (x ≤ y))
  have h2 : (zs.mergeSort fun x y => decide (x ≤ y)).length = zs.length := List.length_mergeSort zs
  omega

end Go.Proofs.YtgkdagnpefgjcaaGreat

namespace Go.Proofs.YtgkdagnpefgjcaaGreat
open Go.RowKit

theorem zisT_of {v : Int} (h : dOp v = 15 ∨ dOp v = 16 ∨ dOp v = 17 ∨ dOp v = 20) : isT v = true ∧ tgV v = dN v := by
  have : isT v = true := by
    unfold isT hP
    rw [Bool.and_eq_true, decide_eq_true_eq, decide_eq_true_eq]
    omega
  exact ⟨this, by unfold tgV; rw [if_pos this]⟩
theorem zlab_place {text : List Int} {ml : Nat} {ent : Int} (hM : MayI text ml ent) {i : Nat} (hi : i < text.length) (h : dOp (nth text i) = 15 ∨ dOp (nth text i) = 16 ∨ dOp (nth text i) = 17 ∨ dOp (nth text i) = 20) : dN (nth text i) ∈ plcT (begF text ent) text.length := by
  obtain ⟨h1, h2⟩ := zisT_of h
  have h3 := tg_pos h1
  have h4 := far_in (hM.far i hi) h1
  rw [h2] at h3 h4
  refine plcT_mem.2 ⟨h3.1, h4, beg_lab (lab_iff.2 (.inr (anyF_iff.2 ⟨i, hi, ?_⟩)))⟩
  rw [gLab_yes h1, h2]
theorem zkn_place {text : List Int} {ml : Nat} {ent : Int} (hM : MayI text ml ent) {x : Int} (h : (takF text x || sitF text x) = true) : x ∈ plcT (begF text ent) text.length := by
  rw [Bool.or_eq_true] at h
  rcases h with h | h
  · have h' : anyF (gTak text) text.length x = true := by simpa [takF, addK, noF] using h
    obtain ⟨i, hi, e⟩ := anyF_iff.1 h'
    unfold gTak at e
    split at e
    · rename_i h20
      have h20 : dOp (nth text i) = 20 := by simpa using h20
      obtain rfl := Option.some.inj e
      exact zlab_place hM hi (by omega)
    · cases e
  · have h' : anyF (gSit text) text.length x = true := by simpa [sitF, addK, noF] using h
    obtain ⟨i, hi, e⟩ := anyF_iff.1 h'
    unfold gSit at e
    split at e
    · rename_i h17
      obtain rfl := Option.some.inj e
      have := sit_in hM hi h17
      exact sit_beg (plcT_mem.2 ⟨by omega, by omega, h⟩)
    · cases e
/-- Which numbers tell the blocks by their beginnings. -/
def NumF (text : List Int) (ent : Int) (k : Nat) (F : Int → Int) : Prop := ∀ j : Nat, j < k → F (rAt (blkL text ent) j) = (j : Int)
theorem blk_place {text : List Int} {ent x : Int} {F : Int → Int} (hF : NumF text ent (blkL text ent).length F) (hx : x ∈ plcT (begF text ent) text.length) : ∃ k : Nat, k < (blkL text ent).length ∧ rAt (blkL text ent) k = x ∧ F x = (k : Int) := by
  obtain ⟨k, hk, _, e⟩ := blk_begin (f := begF text ent) (n := text.length) hx
  have e : rAt (blkL text ent) k = x := e
  exact ⟨k, hk, e, by rw [← e]; exact hF k hk⟩
theorem rAt_rise {text : List Int} {ent : Int} {i j : Nat} (hij : i < j) (hj : j < (blkL text ent).length) : rAt (blkL text ent) i < rAt (blkL text ent) j := by
  have hj2 : j < (plcT (begF text ent) text.length).length := by rw [← blkN_len]; exact hj
  have h1 := blk_from (f := begF text ent) (n := text.length) (k := i) (by omega)
  have h2 := blk_from (f := begF text ent) (n := text.length) hj2
  have e : blkN (begF text ent) text.length = blkL text ent := rfl
  rw [e] at h1 h2
  rw [h1, h2]
  exact plc_rise hij hj2
theorem NumF.more {text : List Int} {ent : Int} {k : Nat} {F : Int → Int} (h : NumF text ent k F) (hk : k < (blkL text ent).length) : NumF text ent (k + 1) (fun y => if y = rAt (blkL text ent) k then (k : Int) else F y) := fun j hj => by
  by_cases e : j = k
  · subst e
    show (if _ then _ else _) = _
    rw [if_pos rfl]
  · have := rAt_rise (text := text) (ent := ent) (show j < k by omega) hk
    show (if _ then _ else _) = _
    rw [if_neg (by omega)]
    exact h j (by omega)
def knK (text : List Int) (ent : Int) (y : Int) : Bool := takF text (rAt (blkL text ent) y.toNat) || sitF text (rAt (blkL text ent) y.toNat)
/-- The blocks at whose beginnings a leap can end. -/
theorem known_plc {text : List Int} {ml : Nat} {ent : Int} (hM : MayI text ml ent) {F : Int → Int} (hF : NumF text ent (blkL text ent).length F) : risZ ((plcT (takF text) text.length ++ plcT (sitF text) text.length).map F) = plcT (knK text ent) (blkL text ent).length := by
  refine ris_plc fun y => ?_
  rw [List.mem_map]
  constructor
  · rintro ⟨p, hp, rfl⟩
    have hk : (takF text p || sitF text p) = true := by
      rw [List.mem_append] at hp
      rw [Bool.or_eq_true]
      rcases hp with hp | hp
      · exact .inl (plcT_mem.1 hp).2.2
      · exact .inr (plcT_mem.1 hp).2.2
    obtain ⟨k, hk1, e1, e2⟩ := blk_place hF (zkn_place hM hk)
    rw [e2]
    refine ⟨by omega, by omega, ?_⟩
    unfold knK
    rw [show ((k : Int)).toNat = k by omega, e1]
    exact hk
  · rintro ⟨h0, h1, h2⟩
    have hk : y.toNat < (blkL text ent).length := by omega
    have hin := blk_in hk
    refine ⟨rAt (blkL text ent) y.toNat, ?_, ?_⟩
    · unfold knK at h2
      rw [Bool.or_eq_true] at h2
      rw [List.mem_append]
      rcases h2 with h2 | h2
      · exact .inl (plcT_mem.2 ⟨hin.1, by omega, h2⟩)
      · exact .inr (plcT_mem.2 ⟨hin.1, by omega, h2⟩)
    · rw [hF _ hk]; omega
section
variable {text : List Int} {ml : Nat} {ent : Int} {k : Nat}
theorem last_at (hk : k < (blkL text ent).length) : ∃ p : Nat, p < text.length ∧ rSym (blkL text ent) k = (p : Int) + 1 ∧ lastW text ent k = nth text p := by
  have hin := blk_in hk
  refine ⟨(rSym (blkL text ent) k - 1).toNat, by omega, by omega, rfl⟩
theorem zblk_after {p : Nat} (hb : k < (blkL text ent).length) (e : rSym (blkL text ent) k = (p : Int) + 1) (hp : p + 1 < text.length) : k + 1 < (blkL text ent).length ∧ rAt (blkL text ent) (k + 1) = (p : Int) + 1 := by
  have hb' : k < (plcT (begF text ent) text.length).length := by rw [← blkN_len]; exact hb
  by_cases h4 : k + 1 < (plcT (begF text ent) text.length).length
  · have h5 := blk_next (f := begF text ent) (n := text.length) h4
    exact ⟨by show k + 1 < (blkN (begF text ent) text.length).length; rw [blkN_len]; exact h4, by rw [← e]; exact h5.symm⟩
  · have h5 : rSym (blkL text ent) k = (text.length : Int) := blk_last (f := begF text ent) (n := text.length) (k := k) (by omega)
    omega
theorem znot_last {p : Nat} (hM : MayI text ml ent) (hp : p < text.length) (h : ¬ (dOp (nth text p) = 0 ∨ dOp (nth text p) = 15 ∨ dOp (nth text p) = 19 ∨ dOp (nth text p) = 21)) : p + 1 < text.length := by
  by_cases e : p + 1 = text.length
  · have hl := hM.last
    rw [show text.length - 1 = p by omega] at hl
    unfold lastOK at hl
    rw [decide_eq_true_eq] at hl
    exact absurd hl h
  · omega
theorem next_blk (hM : MayI text ml ent) (hk : k < (blkL text ent).length) (h : ¬ (dOp (lastW text ent k) = 0 ∨ dOp (lastW text ent k) = 15 ∨ dOp (lastW text ent k) = 19 ∨ dOp (lastW text ent k) = 21)) : k + 1 < (blkL text ent).length := by
  obtain ⟨p, hp, e, el⟩ := last_at hk
  rw [el] at h
  exact (zblk_after hk e (znot_last hM hp h)).1
theorem edg_at (hk : k < (blkL text ent).length) : rowZ (edgT text ent (blkL text ent).length) k = plcT (edgR text ent k) (blkL text ent).length := edg_row hk
theorem from_known (hk : k < (blkL text ent).length) (h : dOp (lastW text ent k) = 18 ∨ dOp (lastW text ent k) = 19) : rowZ (edgT text ent (blkL text ent).length) k = plcT (knK text ent) (blkL text ent).length := by
  rw [edg_at hk]
  refine plcT_fit fun i _ => ?_
  unfold edgR edgB knK goesF
  rw [if_neg (by omega), if_neg (by omega), if_neg (by omega), if_pos h]
theorem from_none (hk : k < (blkL text ent).length) (h : dOp (lastW text ent k) = -1 ∨ dOp (lastW text ent k) = 0 ∨ dOp (lastW text ent k) = 21) : rowZ (edgT text ent (blkL text ent).length) k = [] := by
  rw [edg_at hk]
  symm
  refine plc_uniq (by simp) fun y => ?_
  constructor
  · intro hy; simp at hy
  · rintro ⟨_, _, h2⟩
    unfold edgR edgB goesF at h2
    rw [if_pos h] at h2
    cases h2
theorem from_jump (hM : MayI text ml ent) {F : Int → Int} (hF : NumF text ent (blkL text ent).length F) (hk : k < (blkL text ent).length) (h : dOp (lastW text ent k) = 15 ∨ dOp (lastW text ent k) = 17) : rowZ (edgT text ent (blkL text ent).length) k = [F (dN (lastW text ent k))] := by
  obtain ⟨p, hp, e, el⟩ := last_at hk
  have hl := zlab_place hM hp (by rw [← el]; omega)
  rw [← el] at hl
  obtain ⟨j, hj, e1, e2⟩ := blk_place hF hl
  rw [edg_at hk]
  symm
  refine plc_uniq (by simp) fun y => ?_
  rw [List.mem_singleton, e2]
  have hg : edgR text ent k y = (dN (lastW text ent k) == rAt (blkL text ent) y.toNat) := by
    unfold edgR edgB goesF
    rw [if_neg (by omega), if_pos h]
  rw [hg, beq_iff_eq]
  constructor
  · rintro rfl
    refine ⟨by omega, by omega, ?_⟩
    rw [show ((j : Int)).toNat = j by omega]; exact e1.symm
  · rintro ⟨h0, h1, h2⟩
    have := hF y.toNat (by omega)
    rw [← h2, e2] at this
    omega
theorem from_zero (hM : MayI text ml ent) {F : Int → Int} (hF : NumF text ent (blkL text ent).length F) (hk : k < (blkL text ent).length) (h : dOp (lastW text ent k) = 16) : rowZ (edgT text ent (blkL text ent).length) k = risZ [F (dN (lastW text ent k)), (k : Int) + 1] := by
  obtain ⟨p, hp, e, el⟩ := last_at hk
  have hl := zlab_place hM hp (by rw [← el]; omega)
  rw [← el] at hl
  obtain ⟨j, hj, e1, e2⟩ := blk_place hF hl
  have hnx := next_blk hM hk (by omega)
  rw [edg_at hk]
  symm
  refine ris_plc fun y => ?_
  rw [List.mem_cons, List.mem_singleton, e2]
  have hg : edgR text ent k y = ((dN (lastW text ent k) == rAt (blkL text ent) y.toNat) || (((y.toNat : Nat) : Int) == (k : Int) + 1)) := by
    unfold edgR edgB goesF
    rw [if_neg (by omega), if_neg (by omega), if_pos h]
  rw [hg, Bool.or_eq_true, beq_iff_eq, beq_iff_eq]
  constructor
  · rintro (rfl | rfl)
    · refine ⟨by omega, by omega, .inl ?_⟩
      rw [show ((j : Int)).toNat = j by omega]; exact e1.symm
    · exact ⟨by omega, by omega, .inr (by omega)⟩
  · rintro ⟨h0, h1, h2 | h2⟩
    · have := hF y.toNat (by omega)
      rw [← h2, e2] at this
      exact .inl (by omega)
    · exact .inr (by omega)
theorem from_next (hM : MayI text ml ent) (hk : k < (blkL text ent).length) (h : ¬ (dOp (lastW text ent k) = -1 ∨ dOp (lastW text ent k) = 0 ∨ dOp (lastW text ent k) = 21 ∨ dOp (lastW text ent k) = 15 ∨ dOp (lastW text ent k) = 17 ∨ dOp (lastW text ent k) = 16 ∨ dOp (lastW text ent k) = 18 ∨ dOp (lastW text ent k) = 19)) : rowZ (edgT text ent (blkL text ent).length) k = [(k : Int) + 1] := by
  have hnx := next_blk hM hk (by omega)
  rw [edg_at hk]
  symm
  refine plc_uniq (by simp) fun y => ?_
  rw [List.mem_singleton]
  have hg : edgR text ent k y = (((y.toNat : Nat) : Int) == (k : Int) + 1) := by
    unfold edgR edgB goesF
    rw [if_neg (by omega), if_neg (by omega), if_neg (by omega), if_neg (by omega)]
  rw [hg, beq_iff_eq]
  constructor
  · rintro rfl
    exact ⟨by omega, by omega, by omega⟩
  · rintro ⟨h0, h1, h2⟩
    omega
theorem jump_in (hM : MayI text ml ent) (hk : k < (blkL text ent).length) (h : dOp (lastW text ent k) = 15 ∨ dOp (lastW text ent k) = 16 ∨ dOp (lastW text ent k) = 17) : 0 ≤ dN (lastW text ent k) ∧ dN (lastW text ent k) < (text.length : Int) := by
  obtain ⟨p, hp, e, el⟩ := last_at hk
  have hl := zlab_place hM hp (by rw [← el]; omega)
  rw [← el] at hl
  exact ⟨(plcT_mem.1 hl).1, (plcT_mem.1 hl).2.1⟩
end
/-- The cells of an instruction. -/
def insC (v : Int) : List Value := [.int .i8 (dOp v), .int .i8 (dD v), .int .i8 (dA v), .int .i8 (dB v), .int .i64 (dN v)]
def lstV : List Int → List Value
  | [] => []
  | v :: l => insC v ++ lstV l
theorem lstV_snoc : ∀ (l : List Int) (v : Int), lstV (l ++ [v]) = lstV l ++ insC v
  | [], v => by simp [lstV]
  | x :: l, v => by rw [List.cons_append, lstV, lstV, lstV_snoc l v, List.append_assoc]
theorem lstV_len : ∀ l : List Int, (lstV l).length = l.length * 5
  | [] => rfl
  | x :: l => by rw [lstV, List.length_append, lstV_len l, List.length_cons]; simp [insC]; omega
theorem lstV_get : ∀ {l : List Int} {i j : Nat}, i < l.length → j < 5 → (lstV l)[i * 5 + j]? = (insC (nth l i))[j]?
  | [], i, j, h, _ => absurd h (Nat.not_lt_zero _)
  | x :: l, 0, j, _, hj => by
    rw [lstV, List.getElem?_append_left (by simp [insC]; omega)]
    simp [nth]
  | x :: l, i + 1, j, h, hj => by
    rw [lstV, List.getElem?_append_right (by simp [insC]; omega), show (i + 1) * 5 + j - (insC x).length = i * 5 + j by simp [insC]; omega, lstV_get (l := l) (by simpa using h) hj]
    simp [nth]
theorem insC_one (v : Int) : ∀ u ∈ insC v, u.oneCell' = true := fun u hu => by
  simp only [insC, List.mem_cons, List.not_mem_nil, or_false] at hu
  rcases hu with rfl | rfl | rfl | rfl | rfl <;> rfl
/-- The last words of the first k blocks. -/
def lastL (text : List Int) (ent : Int) (k : Nat) : List Int := (List.range k).map (lastW text ent)
theorem lastL_len (text : List Int) (ent : Int) (k : Nat) : (lastL text ent k).length = k := by simp [lastL]
theorem lastL_succ (text : List Int) (ent : Int) (k : Nat) : lastL text ent (k + 1) = lastL text ent k ++ [lastW text ent k] := by simp [lastL, List.range_succ]
theorem lastL_nth {text : List Int} {ent : Int} {k i : Nat} (h : i < k) : nth (lastL text ent k) i = lastW text ent i := by simp [nth, lastL, List.getD, h]

end Go.Proofs.YtgkdagnpefgjcaaGreat
