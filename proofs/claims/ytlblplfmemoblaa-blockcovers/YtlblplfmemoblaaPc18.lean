/-
  The statement BlockCovers, walked.
-/
import Derived.Test.YtlblplfmemoblaaProg
import Derived.WalkKit
import Derived.WalkSpells
import Derived.WalkLawsBesides
import Derived.RowKit3
import Derived.Below
import Derived.Deep.QuietTactic
import Derived.BigQuiet
import Derived.WalkSmall
import Derived.Laws.Rows
import Derived.Test.YtlblplfmemoblaaPc17
namespace Go.Proofs.Ytlblplfmemoblaa
open Go.RowKit

set_option maxRecDepth 100000 in
set_option maxHeartbeats 8000000 in
theorem lawCovers (A1 A2 : Option Addr) (c1 c2 : Nat) (ent : Int) (text mem : List Int) (w : World) (hT : IntsAt w A1 .u32 text) (hR : ∀ i, i < text.length → 0 ≤ nth text i ∧ nth text i < 4294967296) :
    Calls Try.prog 5 #[.agg #[.slice A1 text.length c1, .int .i64 ent, .slice A2 mem.length c2]] w fun e w' => e = .returned (.bool true) ∧ Below w.heap.size w w' := by
  obtain ⟨iI, hi, hz0, hz1, hz2⟩ := infoI
  obtain ⟨W0, HW⟩ : ∃ W0, Hid (w.alloc (.cells #[.slice A1 text.length c1, .int .i64 ent, .slice A2 mem.length c2] 25) = W0) := ⟨_, rfl⟩
  have HB0 : Hid (Below w.heap.size w W0) := by unfold Hid; rw [← HW.out]; exact lb_alloc (Below.refl _ _) _
  have i0 : W0.cell? ⟨w.heap.size, 0, none⟩ = some (.slice A1 text.length c1) := by rw [← HW.out]; simp [go_sem]
  have i1 : W0.cell? ⟨w.heap.size, 1, none⟩ = some (.int .i64 ent) := by rw [← HW.out]; simp [go_sem]
  have i2 : W0.cell? ⟨w.heap.size, 2, none⟩ = some (.slice A2 mem.length c2) := by rw [← HW.out]; simp [go_sem]
  have C0 := much_any A1 A2 c1 c2 ent text mem W0
  by_cases g0 : muchB text mem = true
  · rw [g0] at C0
    go_enter Try.func5, Try.ntmps5
    go_upto_region 1 with fail
    rw [HW.out]
    clear HW
    go_wp2_with (first
        | (go_at_call 6; refine C0.mono ?_; rintro e w1 ⟨rfl, hb1⟩)
        | (go_at_call 7; refine (works_any _).mono ?_; rintro e w2 ⟨rfl, hb2⟩))
    go_ret
    exact ⟨rfl, lb_trans HB0.out (lb_trans hb1 hb2)⟩
  have g0 : muchB text mem = false := by simpa using g0
  have l1 : text.length ≤ 600 ∧ mem.length ≤ 16384 := by unfold muchB at g0; simp at g0; omega
  rw [g0] at C0
  obtain ⟨l1, l2⟩ := l1
  clear g0
  have HI : Hid (∀ Z, Below W0.heap.size W0 Z → Z.cell? ⟨w.heap.size, 0, none⟩ = some (.slice A1 text.length c1) ∧ Z.cell? ⟨w.heap.size, 1, none⟩ = some (.int .i64 ent) ∧ Z.cell? ⟨w.heap.size, 2, none⟩ = some (.slice A2 mem.length c2)) := fun Z hZ => ⟨lkeep hZ i0, lkeep hZ i1, lkeep hZ i2⟩
  by_cases hE : (checkI text mem.length ent).1 = 0
  · have hMay := check_mayI hE
    have hpos := hMay.past.pos
    have CB : ∀ Z, Below W0.heap.size W0 Z → Calls Try.prog 13 #[.agg #[.slice A1 text.length c1, .int .i64 ent, .slice A2 mem.length c2]] Z (BlkP 0 (blkL text ent) Z) := fun Z hZ => by
      have := blocks_any A1 A2 c1 mem.length c2 ent text Z (hT.keep (lb_trans HB0.out hZ)) hR (by omega) (by omega)
      rw [hE, show outB text mem.length ent = blkL text ent from if_pos hE] at this
      exact this
    have CL : ∀ Z, Below W0.heap.size W0 Z → Calls Try.prog 10 #[.agg #[.slice A1 text.length c1, .int .i64 ent, .slice A2 mem.length c2]] Z (GatP 0 (plcT (labF text ent) text.length) Z) := fun Z hZ => by
      have := labels_any A1 A2 c1 mem.length c2 ent text Z (hT.keep (lb_trans HB0.out hZ)) hR (by omega) (by omega)
      rw [hE, outL_ok hE] at this
      exact this
    have CS : ∀ Z, Below W0.heap.size W0 Z → Calls Try.prog 12 #[.agg #[.slice A1 text.length c1, .int .i64 ent, .slice A2 mem.length c2]] Z (GatP 0 (plcT (sitF text) text.length) Z) := fun Z hZ => by
      have := sites_any A1 A2 c1 mem.length c2 ent text Z (hT.keep (lb_trans HB0.out hZ)) hR (by omega) (by omega)
      rw [hE, outL_ok hE] at this
      exact this
    have HV : Hid (∀ k, k < (blkL text ent).length → rAt (blkL text ent) k = covAt (blkL text ent) k ∧ rAt (blkL text ent) k < rSym (blkL text ent) k ∧ ofB (blkL text ent) (rAt (blkL text ent) k) = (k : Int)) := fun k hk => cov_here hpos (beg_zero text ent) hk
    have HN : Hid (covAt (blkL text ent) (blkL text ent).length = (text.length : Int)) := cov_end hpos (beg_zero text ent)
    have HA : Hid (∀ i, i < (plcT (labF text ent) text.length ++ plcT (sitF text) text.length).length → ∃ k : Nat, k < (blkL text ent).length ∧ ofB (blkL text ent) (nth (plcT (labF text ent) text.length ++ plcT (sitF text) text.length) i) = (k : Int) ∧ rAt (blkL text ent) k = nth (plcT (labF text ent) text.length ++ plcT (sitF text) text.length) i) := fun i hi => all_begin hi
    have hll : (blkL text ent).length ≤ 600 := by
      have := plcT_len (begF text ent) text.length
      unfold blkL
      rw [zipN_len]
      omega
    have hl3 := plcT_len (labF text ent) text.length
    have hl4 := plcT_len (sitF text) text.length
    clear hE hR hMay hT
    generalize blkL text ent = l at *
    generalize plcT (labF text ent) text.length = la at *
    generalize plcT (sitF text) text.length = si at *
    go_enter Try.func5, Try.ntmps5
    go_upto_region 1 with fail
    rw [HW.out]
    clear HW
    go_upto_region 3 with (go_at_call 6; refine C0.mono ?_; rintro e W1 ⟨rfl, hb1⟩; have HB1 : Hid (Below W0.heap.size W0 W1) := hb1)
    clear i0 i1 i2 hb1 C0
    obtain ⟨i0, i1, i2⟩ := HI.out W1 HB1.out
    go_wp2_with fail
    refine (CB W1 HB1.out).mono ?_
    rintro e W2 ⟨O, co, rfl, hown, hb2⟩
    have HB2 : Hid (Below W0.heap.size W0 W2) := lb_trans HB1.out hb2
    have HO' : Hid (W2.ownsRow W1.heap.size 47 2 (.slice O l.length co) l.length (dNews l)) := hown
    have HO : Hid (RelsAt W2 O l) := drow_rels hown
    clear i0 i1 i2 hown hb2 HB1 CB
    go_wp2
    go_loopw [5, 6] (fun a i wr => ∃ k : Nat, i = .int .i64 k ∧ a = .int .i64 (covAt l k) ∧ k ≤ l.length ∧ Hid (Below W2.heap.size W2 wr)) (fun _ i _ => l.length - (intOf i).toNat)
    case atStart => exact ⟨0, rfl, rfl, Nat.zero_le _, Below.refl _ _⟩
    case round =>
      obtain ⟨k, rfl, rfl, hk, HB3⟩ := hrel
      by_cases hlt : k < l.length
      · obtain ⟨v0, v1, v2⟩ := HV.out k hlt
        obtain ⟨a, rfl, r0, r1⟩ := (HO.out.keep HB3.out) k hlt
        have r1 : wr.cell? ⟨(a.add (k * 2)).block, (a.add (k * 2)).off + 1, none⟩ = some (.int .i64 (rSym l k)) := r1
        have C := of_any (some a) co l (rAt l k) wr (HO.out.keep HB3.out) (by omega)
        have HS : Hid (covAt l (k + 1) = rSym l k) := cov_succ l k
        rw [v2] at C
        rw [← v0]
        clear v2 v0
        generalize rAt l k = x at *
        generalize rSym l k = y at *
        have h1 : ¬ y ≤ x := by omega
        have h2 : decide (y ≤ x) = false := decide_eq_false h1
        go_upto_region 12 with (go_at_call 20; refine C.mono ?_; rintro e w4 ⟨rfl, hb4⟩; have s1 := lkeep hb4 r1)
        go_wp2
        go_roundw
        case rel => exact ⟨k + 1, by go_num, by rw [HS.out], by omega, lb_trans HB3.out hb4⟩
        case measure => simp [intOf]; omega
      · obtain rfl : k = l.length := by omega
        have HB4 : Hid (Below W0.heap.size W0 wr) := lb_trans HB2.out HB3.out
        have HO4 : Hid (wr.ownsRow W1.heap.size 47 2 (.slice O l.length co) l.length (dNews l)) := row_keep HO'.out HB3.out
        rw [HN.out]
        obtain ⟨i0, i1, i2⟩ := HI.out wr HB4.out
        go_wp2_with fail
        refine (CL wr HB4.out).mono ?_
        rintro e W5 ⟨Ol, cl, rfl, hown5, hb5⟩
        have HB5 : Hid (Below W0.heap.size W0 W5) := lb_trans HB4.out hb5
        have HO5 : Hid (W5.ownsRow W1.heap.size 47 2 (.slice O l.length co) l.length (dNews l)) := row_keep HO4.out hb5
        have HL5 : Hid (W5.ownsRow W0.heap.size 3 1 (.slice Ol la.length cl) la.length (iVals .i64 la)) := ownsRow_mono hown5 HB4.out.size
        clear i0 i1 i2 hown5 hb5 HB4 HO4 CL
        obtain ⟨i0, i1, i2⟩ := HI.out W5 HB5.out
        go_wp2_with fail
        refine (CS W5 HB5.out).mono ?_
        rintro e W6 ⟨Os, cs, rfl, hown6, hb6⟩
        have HB6 : Hid (Below W0.heap.size W0 W6) := lb_trans HB5.out hb6
        have HO6 : Hid (W6.ownsRow W1.heap.size 47 2 (.slice O l.length co) l.length (dNews l)) := row_keep HO5.out hb6
        have HL6 : Hid (W6.ownsRow W0.heap.size 3 1 (.slice Ol la.length cl) la.length (iVals .i64 la)) := row_keep HL5.out hb6
        have HS6 : Hid (IntsAt W6 Os .i64 si) := row_ints hown6
        clear i0 i1 i2 hb6 HB5 HO5 CS HL5
        obtain ⟨i0, i1, i2⟩ := HI.out W6 HB6.out
        cases Os with
        | none =>
          obtain ⟨hn0, hn1⟩ := own_nil hown6
          have hsi : si = [] := List.eq_nil_of_length_eq_zero hn0
          have HRN : Hid (∀ ty, (Builtin.append_ #[32, 32] ty #[.slice Ol la.length cl, .slice none 0 0]).run Try.prog W6 = .ok (.slice Ol la.length cl) W6) := fun ty => run_append_owned_none (P := Try.prog) (w := W6) W0.heap.size 32 ty 3 iI 1 Try.underlying32 hi (.slice Ol la.length cl) la.length (iVals .i64 la) HL6.out
          clear hown6
          rw [hn0, hn1]
          clear hn0 hn1
          subst hsi
          rw [List.append_nil] at HA
          have HB7 : Hid (Below W0.heap.size W0 W6) := HB6
          have HO7 : Hid (RelsAt W6 O l) := drow_rels HO6.out
          have HL7 : Hid (W6.ownsRow W0.heap.size 3 1 (.slice Ol la.length cl) la.length (iVals .i64 la)) := HL6
          go_upto_region 18 with (at_builtin; go_loud (refine wpList_app_nil _ rfl (.tmp 85) (.tmp 86) 32 rfl (.slice Ol la.length cl) rfl rfl HRN.out ?_))
          go_wp2
          go_loopw [10] (fun i wr => ∃ j : Nat, i = .int .i64 j ∧ j ≤ la.length ∧ Hid (Below W6.heap.size W6 wr)) (fun i _ => la.length - (intOf i).toNat)
          case atStart => exact ⟨0, rfl, Nat.zero_le _, Below.refl _ _⟩
          case round =>
            obtain ⟨j, rfl, hj, HB8⟩ := hrel
            by_cases hlt : j < la.length
            · obtain ⟨k, hkl, ek, rk⟩ := HA.out j hlt
              obtain ⟨b, rfl, q⟩ := ((row_ints HL7.out).keep HB8.out) j hlt
              obtain ⟨a, rfl, r0, -⟩ := (HO7.out.keep HB8.out) k hkl
              have C := of_any (some a) co l (nth la j) wr (HO7.out.keep HB8.out) (by omega)
              rw [ek] at C
              rw [rk] at r0
              clear ek rk
              generalize nth la j = y at *
              have hd : decide ((k : Int) < 0) = false := decide_eq_false (by omega)
              have hkl' : (k : Int) < (l.length : Int) := by omega
              have hlt' : (j : Int) < (la.length : Int) := by omega
              go_upto_region 22 with (go_at_call 20; refine C.mono ?_; rintro e w9 ⟨rfl, hb9⟩; have s0 := lkeep hb9 r0; have s1 := lkeep hb9 q)
              go_quiet (fail)
              go_wp2
              go_roundw
              case rel => exact ⟨j + 1, by go_num, by omega, below_drewN (lb_trans HB8.out hb9) _⟩
              case measure => simp [intOf]; omega
            · obtain rfl : j = la.length := by omega
              go_wp2_with (go_at_call 7; refine (works_any _).mono ?_; rintro e w9 ⟨rfl, hb9⟩)
              go_ret
              exact ⟨rfl, lb_trans HB0.out (lb_trans HB7.out (lb_trans HB8.out hb9))⟩
        | some s =>
          obtain ⟨ls, HLS⟩ : ∃ ls, Hid (la ++ si = ls) := ⟨_, rfl⟩
          rw [HLS.out] at HA
          have hls : ls.length ≤ 1200 := by rw [← HLS.out, List.length_append]; omega
          clear hown6
          go_upto_region 18 with (at_builtin; go_loud (refine wpList_append_own _ rfl (.tmp 85) (.tmp 86) 32 rfl W0.heap.size 3 iI (.int .i64 0) 1 8 Try.underlying32 hi hz0 hz1 hz2 rfl (by decide) (.slice Ol la.length cl) la.length (iVals .i64 la) rfl HL6.out s si.length cs (iVals .i64 si) rfl (by rw [iVals_len, Nat.mul_one]) (iVals_cell HS6.out) (iVals_one _ _) (by unfold maxLen; omega) (by omega) HB6.out.size ?_; intro v7 W7 hown hgrow _; have HL7' : Hid (W7.ownsRow W0.heap.size 3 1 v7 ls.length (iVals .i64 ls)) := (by rw [Hid, ← HLS.out, iVals_app, List.length_append]; exact hown); have HB7 : Hid (Below W0.heap.size W0 W7) := HB6.out.grown hgrow HB6.out.size (fun b hb => (HL6.out.lt b hb).1); have HO7 : Hid (RelsAt W7 O l) := drow_rels (row_other HO6.out HL6.out (by decide) hgrow); clear hown hgrow))
          obtain ⟨V7, c7, e7⟩ := own_sl HL7'.out
          subst e7
          have HL7 : Hid (W7.ownsRow W0.heap.size 3 1 (.slice V7 ls.length c7) ls.length (iVals .i64 ls)) := HL7'
          go_wp2
          go_loopw [10] (fun i wr => ∃ j : Nat, i = .int .i64 j ∧ j ≤ ls.length ∧ Hid (Below W7.heap.size W7 wr)) (fun i _ => ls.length - (intOf i).toNat)
          case atStart => exact ⟨0, rfl, Nat.zero_le _, Below.refl _ _⟩
          case round =>
            obtain ⟨j, rfl, hj, HB8⟩ := hrel
            by_cases hlt : j < ls.length
            · obtain ⟨k, hkl, ek, rk⟩ := HA.out j hlt
              obtain ⟨b, rfl, q⟩ := ((row_ints HL7.out).keep HB8.out) j hlt
              obtain ⟨a, rfl, r0, -⟩ := (HO7.out.keep HB8.out) k hkl
              have C := of_any (some a) co l (nth ls j) wr (HO7.out.keep HB8.out) (by omega)
              rw [ek] at C
              rw [rk] at r0
              clear ek rk
              generalize nth ls j = y at *
              have hd : decide ((k : Int) < 0) = false := decide_eq_false (by omega)
              have hkl' : (k : Int) < (l.length : Int) := by omega
              have hlt' : (j : Int) < (ls.length : Int) := by omega
              go_upto_region 22 with (go_at_call 20; refine C.mono ?_; rintro e w9 ⟨rfl, hb9⟩; have s0 := lkeep hb9 r0; have s1 := lkeep hb9 q)
              go_quiet (fail)
              go_wp2
              go_roundw
              case rel => exact ⟨j + 1, by go_num, by omega, below_drewN (lb_trans HB8.out hb9) _⟩
              case measure => simp [intOf]; omega
            · obtain rfl : j = ls.length := by omega
              go_wp2_with (go_at_call 7; refine (works_any _).mono ?_; rintro e w9 ⟨rfl, hb9⟩)
              go_ret
              exact ⟨rfl, lb_trans HB0.out (lb_trans HB7.out (lb_trans HB8.out hb9))⟩

  · have HX : Hid (outB text mem.length ent = []) := if_neg hE
    have CB : ∀ Z, Below W0.heap.size W0 Z → Calls Try.prog 13 #[.agg #[.slice A1 text.length c1, .int .i64 ent, .slice A2 mem.length c2]] Z (BlkP (checkI text mem.length ent).1 [] Z) := fun Z hZ => by
      have := blocks_any A1 A2 c1 mem.length c2 ent text Z (hT.keep (lb_trans HB0.out hZ)) hR (by omega) (by omega)
      rw [HX.out] at this
      exact this
    have hne : ((checkI text mem.length ent).1 == 0) = false := by simpa using hE
    have hne2 : ((checkI text mem.length ent).1 != 0) = true := by simpa using hE
    clear hE hR hT
    generalize (checkI text mem.length ent).1 = E at *
    go_enter Try.func5, Try.ntmps5
    go_upto_region 1 with fail
    rw [HW.out]
    clear HW
    go_upto_region 3 with (go_at_call 6; refine C0.mono ?_; rintro e W1 ⟨rfl, hb1⟩; have HB1 : Hid (Below W0.heap.size W0 W1) := hb1)
    clear i0 i1 i2 hb1 C0
    obtain ⟨i0, i1, i2⟩ := HI.out W1 HB1.out
    go_wp2_with fail
    refine (CB W1 HB1.out).mono ?_
    rintro e W2 ⟨O, co, rfl, hown, hb2⟩
    go_wp2_with (go_at_call 7; refine (works_any _).mono ?_; rintro e W3 ⟨rfl, hb3⟩)
    go_ret
    exact ⟨rfl, lb_trans HB0.out (lb_trans HB1.out (lb_trans hb2 hb3))⟩

end Go.Proofs.Ytlblplfmemoblaa
