/-
  The statement BlockPlaces, walked.
-/
import Derived.Test.YtlblplfmemoblaaProg
import Derived.WalkKit
import Derived.WalkSpells
import Derived.WalkLawsBesides
import Derived.RowKit3
import Derived.Below
import Derived.Deep.QuietTactic
import Derived.BigQuiet
import Derived.WalkSmall
import Derived.Laws.Rows
import Derived.Test.YtlblplfmemoblaaPp04
import Derived.Test.YtlblplfmemoblaaPp15
import Derived.Test.YtlblplfmemoblaaPp17
import Derived.Test.YtlblplfmemoblaaPp19
import Derived.Test.YtlblplfmemoblaaPp20
import Derived.Test.YtlblplfmemoblaaPp21
namespace Go.Proofs.Ytlblplfmemoblaa
open Go.RowKit

set_option maxRecDepth 100000 in
set_option maxHeartbeats 8000000 in
theorem lawPlaces (A1 A2 : Option Addr) (c1 c2 : Nat) (ent : Int) (text mem : List Int) (w : World) (hT : IntsAt w A1 .u32 text) (hM : IntsAt w A2 .i64 mem) (hR : ∀ i, i < text.length → 0 ≤ nth text i ∧ nth text i < 4294967296) (h01 : A1 = none → c1 = 0) (h02 : A2 = none → c2 = 0) :
    Calls Try.prog 3 #[.agg #[.slice A1 text.length c1, .int .i64 ent, .slice A2 mem.length c2]] w fun e w' => e = .returned (.bool true) ∧ Below w.heap.size w w' := by
  obtain ⟨W0, HW⟩ : ∃ W0, Hid (w.alloc (.cells #[.slice A1 text.length c1, .int .i64 ent, .slice A2 mem.length c2] 25) = W0) := ⟨_, rfl⟩
  have HB0 : Hid (Below w.heap.size w W0) := by unfold Hid; rw [← HW.out]; exact lb_alloc (Below.refl _ _) _
  have i0 : W0.cell? ⟨w.heap.size, 0, none⟩ = some (.slice A1 text.length c1) := by rw [← HW.out]; simp [go_sem]
  have i1 : W0.cell? ⟨w.heap.size, 1, none⟩ = some (.int .i64 ent) := by rw [← HW.out]; simp [go_sem]
  have i2 : W0.cell? ⟨w.heap.size, 2, none⟩ = some (.slice A2 mem.length c2) := by rw [← HW.out]; simp [go_sem]
  have C0 := much_any A1 A2 c1 c2 ent text mem W0
  by_cases g0 : muchB text mem = true
  · rw [g0] at C0
    go_enter Try.func3, Try.ntmps3
    go_upto_region 1 with fail
    rw [HW.out]
    clear HW
    go_wp2_with (first
        | (go_at_call 6; refine C0.mono ?_; rintro e w1 ⟨rfl, hb1⟩)
        | (go_at_call 7; refine (works_any _).mono ?_; rintro e w2 ⟨rfl, hb2⟩))
    go_ret
    exact ⟨rfl, lb_trans HB0.out (lb_trans hb1 hb2)⟩
  have g0 : muchB text mem = false := by simpa using g0
  have l1 : text.length ≤ 600 ∧ mem.length ≤ 16384 := by unfold muchB at g0; simp at g0; omega
  rw [g0] at C0
  obtain ⟨l1, l2⟩ := l1
  clear g0
  go_enter Try.func3, Try.ntmps3
  go_upto_region 1 with fail
  rw [HW.out]
  clear HW
  go_upto_region 3 with (go_at_call 6; refine C0.mono ?_; rintro e W1 ⟨rfl, hb1⟩; have j0 := lkeep hb1 i0; have j1 := lkeep hb1 i1; have j2 := lkeep hb1 i2; have HB1 : Hid (Below w.heap.size w W1) := lb_trans HB0.out hb1)
  have C1 := copyimg_any A1 A2 c1 c2 text mem ent W1 (hT.keep HB1.out) (hM.keep HB1.out) h01 h02 (by omega) (by omega)
  clear i0 i1 i2 hb1 C0
  go_upto_region 4 with (go_at_call 8; refine C1.mono ?_; rintro e W2 ⟨B1, B2, k1, k2, rfl, hrows, hb2⟩; have HB2 : Hid (Below w.heap.size w W2) := lb_trans HB1.out hb2; have m0 := lkeep hb2 j0; have m1 := lkeep hb2 j1; have m2 := lkeep hb2 j2; have HRw : Hid (RowsI W2 W1.heap.size B1 B2 k1 k2 text mem) := hrows)
  obtain ⟨W3, HW3⟩ : ∃ W3, Hid (W2.alloc (.cells #[.slice B1 text.length k1, .int .i64 ent, .slice B2 mem.length k2] 25) = W3) := ⟨_, rfl⟩
  have hbb : Below W2.heap.size W2 W3 := by rw [← HW3.out]; exact lb_alloc (Below.refl _ _) _
  obtain ⟨g, hg⟩ : ∃ g, g = W2.heap.size := ⟨_, rfl⟩
  have n0 : W3.cell? ⟨g, 0, none⟩ = some (.slice B1 text.length k1) := by rw [hg, ← HW3.out]; simp [go_sem]
  have n1 : W3.cell? ⟨g, 1, none⟩ = some (.int .i64 ent) := by rw [hg, ← HW3.out]; simp [go_sem]
  have n2 : W3.cell? ⟨g, 2, none⟩ = some (.slice B2 mem.length k2) := by rw [hg, ← HW3.out]; simp [go_sem]
  have H3 : Hid (Held W3 w.heap.size g A1 A2 B1 B2 c1 c2 k1 k2 ent text mem) := ⟨lkeep hbb m0, lkeep hbb m1, lkeep hbb m2, n0, n1, n2, hT.keep (lb_trans HB2.out hbb), hM.keep (lb_trans HB2.out hbb), (row_ints HRw.out.r1).keep hbb, (row_ints HRw.out.r2).keep hbb⟩
  have HB3 : Hid (Below w.heap.size w W3) := lb_trans HB2.out hbb
  rw [HW3.out, ← hg]
  clear HW3 hg HRw hrows hb2 hbb m0 m1 m2 n0 n1 n2 j0 j1 j2 HB0 HB1 HB2 C1 hT hM
  by_cases hE : (checkI text mem.length ent).1 = 0
  · have hMay := check_mayI hE
    have CC : ∀ (Z : World) (h : Held Z w.heap.size g A1 A2 B1 B2 c1 c2 k1 k2 ent text mem), Calls Try.prog 9 #[.agg #[.slice A1 text.length c1, .int .i64 ent, .slice A2 mem.length c2]] Z (ChkP 0 0 Z) := fun Z h => by
      have := refcheck_any A1 A2 c1 mem.length c2 ent text Z h.tA hR (by omega) (by omega)
      rw [check_pair hE] at this
      exact this
    have CL : ∀ (Z : World) (h : Held Z w.heap.size g A1 A2 B1 B2 c1 c2 k1 k2 ent text mem), Calls Try.prog 10 #[.agg #[.slice B1 text.length k1, .int .i64 ent, .slice B2 mem.length k2]] Z (GatP 0 (plcT (labF text ent) text.length) Z) := fun Z h => by
      have := labels_any B1 B2 k1 mem.length k2 ent text Z h.tB hR (by omega) (by omega)
      rw [hE, outL_ok hE] at this
      exact this
    have CT : ∀ (Z : World) (h : Held Z w.heap.size g A1 A2 B1 B2 c1 c2 k1 k2 ent text mem), Calls Try.prog 11 #[.agg #[.slice B1 text.length k1, .int .i64 ent, .slice B2 mem.length k2]] Z (GatP 0 (plcT (takF text) text.length) Z) := fun Z h => by
      have := taken_any B1 B2 k1 mem.length k2 ent text Z h.tB hR (by omega) (by omega)
      rw [hE, outL_ok hE] at this
      exact this
    have CS : ∀ (Z : World) (h : Held Z w.heap.size g A1 A2 B1 B2 c1 c2 k1 k2 ent text mem), Calls Try.prog 12 #[.agg #[.slice B1 text.length k1, .int .i64 ent, .slice B2 mem.length k2]] Z (GatP 0 (plcT (sitF text) text.length) Z) := fun Z h => by
      have := sites_any B1 B2 k1 mem.length k2 ent text Z h.tB hR (by omega) (by omega)
      rw [hE, outL_ok hE] at this
      exact this
    have CB : ∀ (Z : World) (h : Held Z w.heap.size g A1 A2 B1 B2 c1 c2 k1 k2 ent text mem), Calls Try.prog 13 #[.agg #[.slice B1 text.length k1, .int .i64 ent, .slice B2 mem.length k2]] Z (BlkP 0 (blkL text ent) Z) := fun Z h => by
      have := blocks_any B1 B2 k1 mem.length k2 ent text Z h.tB hR (by omega) (by omega)
      rw [hE, show outB text mem.length ent = blkL text ent from if_pos hE] at this
      exact this
    have CE : ∀ (Z : World) (h : Held Z w.heap.size g A1 A2 B1 B2 c1 c2 k1 k2 ent text mem), Calls Try.prog 14 #[.agg #[.slice B1 text.length k1, .int .i64 ent, .slice B2 mem.length k2], .agg #[.slice A1 text.length c1, .int .i64 ent, .slice A2 mem.length c2]] Z fun e w' => e = .returned (.bool true) ∧ Below Z.heap.size Z w' := fun Z h => eqimg_same B1 B2 A1 A2 k1 k2 c1 c2 text mem ent Z h.tB h.mB h.tA h.mA (by omega) (by omega)
    have CP0 : ∀ (Z : World) (h : Held Z w.heap.size g A1 A2 B1 B2 c1 c2 k1 k2 ent text mem), Calls Try.prog 16 #[.agg #[.slice A1 text.length c1, .int .i64 ent, .slice A2 mem.length c2], .int .i64 0] Z (PlcP (plcT (labF text ent) text.length) Z) := fun Z h => refplaces0_any A1 A2 c1 mem.length c2 ent text Z h.tA hR hMay
    have CP1 : ∀ (Z : World) (h : Held Z w.heap.size g A1 A2 B1 B2 c1 c2 k1 k2 ent text mem), Calls Try.prog 16 #[.agg #[.slice A1 text.length c1, .int .i64 ent, .slice A2 mem.length c2], .int .i64 1] Z (PlcP (plcT (takF text) text.length) Z) := fun Z h => refplaces1_any A1 A2 c1 mem.length c2 ent text Z h.tA hR hMay
    have CP2 : ∀ (Z : World) (h : Held Z w.heap.size g A1 A2 B1 B2 c1 c2 k1 k2 ent text mem), Calls Try.prog 16 #[.agg #[.slice A1 text.length c1, .int .i64 ent, .slice A2 mem.length c2], .int .i64 2] Z (PlcP (plcT (sitF text) text.length) Z) := fun Z h => refplaces2_any A1 A2 c1 mem.length c2 ent text Z h.tA hR hMay
    have CR : ∀ (Z : World) (h : Held Z w.heap.size g A1 A2 B1 B2 c1 c2 k1 k2 ent text mem), Calls Try.prog 18 #[.agg #[.slice A1 text.length c1, .int .i64 ent, .slice A2 mem.length c2]] Z (RelP (blkL text ent) Z) := fun Z h => refblocks_any A1 A2 c1 mem.length c2 ent text Z h.tA hR hMay
    clear hE hMay hR
    have a0 := H3.out.a0
    have a1 := H3.out.a1
    have a2 := H3.out.a2
    have b0 := H3.out.b0
    have b1 := H3.out.b1
    have b2 := H3.out.b2
    go_wp2_with fail
    refine (CC W3 H3.out).mono ?_
    rintro e W4 ⟨rfl, hb⟩
    clear a0 a1 a2 b0 b1 b2
    have H4 : Hid (Held W4 w.heap.size g A1 A2 B1 B2 c1 c2 k1 k2 ent text mem) := H3.out.keep hb
    have HB4 : Hid (Below w.heap.size w W4) := lb_trans HB3.out hb
    clear H3 HB3 hb
    have a0 := H4.out.a0
    have a1 := H4.out.a1
    have a2 := H4.out.a2
    have b0 := H4.out.b0
    have b1 := H4.out.b1
    have b2 := H4.out.b2
    go_wp2_with fail
    refine (CL W4 H4.out).mono ?_
    rintro e W5 ⟨Ol, zl, rfl, hown, hb⟩
    clear a0 a1 a2 b0 b1 b2
    have H5 : Hid (Held W5 w.heap.size g A1 A2 B1 B2 c1 c2 k1 k2 ent text mem) := H4.out.keep hb
    have HB5 : Hid (Below w.heap.size w W5) := lb_trans HB4.out hb
    have Il5 : Hid (IntsAt W5 Ol .i64 (plcT (labF text ent) text.length)) := row_ints hown
    clear hown
    clear H4 HB4 hb
    have a0 := H5.out.a0
    have a1 := H5.out.a1
    have a2 := H5.out.a2
    have b0 := H5.out.b0
    have b1 := H5.out.b1
    have b2 := H5.out.b2
    go_wp2_with fail
    refine (CT W5 H5.out).mono ?_
    rintro e W6 ⟨Ot, zt, rfl, hown, hb⟩
    clear a0 a1 a2 b0 b1 b2
    have H6 : Hid (Held W6 w.heap.size g A1 A2 B1 B2 c1 c2 k1 k2 ent text mem) := H5.out.keep hb
    have HB6 : Hid (Below w.heap.size w W6) := lb_trans HB5.out hb
    have It6 : Hid (IntsAt W6 Ot .i64 (plcT (takF text) text.length)) := row_ints hown
    clear hown
    have Il6 : Hid (IntsAt W6 Ol .i64 (plcT (labF text ent) text.length)) := Il5.out.keep hb
    clear Il5
    clear H5 HB5 hb
    have a0 := H6.out.a0
    have a1 := H6.out.a1
    have a2 := H6.out.a2
    have b0 := H6.out.b0
    have b1 := H6.out.b1
    have b2 := H6.out.b2
    go_wp2_with fail
    refine (CS W6 H6.out).mono ?_
    rintro e W7 ⟨Os, zs, rfl, hown, hb⟩
    clear a0 a1 a2 b0 b1 b2
    have H7 : Hid (Held W7 w.heap.size g A1 A2 B1 B2 c1 c2 k1 k2 ent text mem) := H6.out.keep hb
    have HB7 : Hid (Below w.heap.size w W7) := lb_trans HB6.out hb
    have Is7 : Hid (IntsAt W7 Os .i64 (plcT (sitF text) text.length)) := row_ints hown
    clear hown
    have Il7 : Hid (IntsAt W7 Ol .i64 (plcT (labF text ent) text.length)) := Il6.out.keep hb
    clear Il6
    have It7 : Hid (IntsAt W7 Ot .i64 (plcT (takF text) text.length)) := It6.out.keep hb
    clear It6
    clear H6 HB6 hb
    have a0 := H7.out.a0
    have a1 := H7.out.a1
    have a2 := H7.out.a2
    have b0 := H7.out.b0
    have b1 := H7.out.b1
    have b2 := H7.out.b2
    go_wp2_with fail
    refine (CB W7 H7.out).mono ?_
    rintro e W8 ⟨Ob, zb, rfl, hown, hb⟩
    clear a0 a1 a2 b0 b1 b2
    have H8 : Hid (Held W8 w.heap.size g A1 A2 B1 B2 c1 c2 k1 k2 ent text mem) := H7.out.keep hb
    have HB8 : Hid (Below w.heap.size w W8) := lb_trans HB7.out hb
    have Rb8 : Hid (RelsAt W8 Ob (blkL text ent)) := drow_rels hown
    clear hown
    have Il8 : Hid (IntsAt W8 Ol .i64 (plcT (labF text ent) text.length)) := Il7.out.keep hb
    clear Il7
    have It8 : Hid (IntsAt W8 Ot .i64 (plcT (takF text) text.length)) := It7.out.keep hb
    clear It7
    have Is8 : Hid (IntsAt W8 Os .i64 (plcT (sitF text) text.length)) := Is7.out.keep hb
    clear Is7
    clear H7 HB7 hb
    have a0 := H8.out.a0
    have a1 := H8.out.a1
    have a2 := H8.out.a2
    have b0 := H8.out.b0
    have b1 := H8.out.b1
    have b2 := H8.out.b2
    go_wp2_with fail
    refine (CE W8 H8.out).mono ?_
    rintro e W9 ⟨rfl, hb⟩
    clear a0 a1 a2 b0 b1 b2
    have H9 : Hid (Held W9 w.heap.size g A1 A2 B1 B2 c1 c2 k1 k2 ent text mem) := H8.out.keep hb
    have HB9 : Hid (Below w.heap.size w W9) := lb_trans HB8.out hb
    have Il9 : Hid (IntsAt W9 Ol .i64 (plcT (labF text ent) text.length)) := Il8.out.keep hb
    clear Il8
    have It9 : Hid (IntsAt W9 Ot .i64 (plcT (takF text) text.length)) := It8.out.keep hb
    clear It8
    have Is9 : Hid (IntsAt W9 Os .i64 (plcT (sitF text) text.length)) := Is8.out.keep hb
    clear Is8
    have Rb9 : Hid (RelsAt W9 Ob (blkL text ent)) := Rb8.out.keep hb
    clear Rb8
    clear H8 HB8 hb
    have a0 := H9.out.a0
    have a1 := H9.out.a1
    have a2 := H9.out.a2
    have b0 := H9.out.b0
    have b1 := H9.out.b1
    have b2 := H9.out.b2
    go_wp2_with fail
    refine (CP0 W9 H9.out).mono ?_
    rintro e W10 ⟨Pl, yl, rfl, hps, hb⟩
    clear a0 a1 a2 b0 b1 b2
    have H10 : Hid (Held W10 w.heap.size g A1 A2 B1 B2 c1 c2 k1 k2 ent text mem) := H9.out.keep hb
    have HB10 : Hid (Below w.heap.size w W10) := lb_trans HB9.out hb
    have Jl10 : Hid (IntsAt W10 Pl .i64 (plcT (labF text ent) text.length)) := hps
    clear hps
    have Il10 : Hid (IntsAt W10 Ol .i64 (plcT (labF text ent) text.length)) := Il9.out.keep hb
    clear Il9
    have It10 : Hid (IntsAt W10 Ot .i64 (plcT (takF text) text.length)) := It9.out.keep hb
    clear It9
    have Is10 : Hid (IntsAt W10 Os .i64 (plcT (sitF text) text.length)) := Is9.out.keep hb
    clear Is9
    have Rb10 : Hid (RelsAt W10 Ob (blkL text ent)) := Rb9.out.keep hb
    clear Rb9
    clear H9 HB9 hb
    have CQ := eqints_any Ol Pl zl yl (plcT (labF text ent) text.length) (plcT (labF text ent) text.length) W10 Il10.out Jl10.out (by have := plcT_len (labF text ent) text.length; omega)
    simp only [decide_true] at CQ
    have a0 := H10.out.a0
    have a1 := H10.out.a1
    have a2 := H10.out.a2
    have b0 := H10.out.b0
    have b1 := H10.out.b1
    have b2 := H10.out.b2
    go_wp2_with fail
    refine (CQ).mono ?_
    rintro e W11 ⟨rfl, hb⟩
    clear a0 a1 a2 b0 b1 b2
    have H11 : Hid (Held W11 w.heap.size g A1 A2 B1 B2 c1 c2 k1 k2 ent text mem) := H10.out.keep hb
    have HB11 : Hid (Below w.heap.size w W11) := lb_trans HB10.out hb
    clear CQ Jl10
    have Il11 : Hid (IntsAt W11 Ol .i64 (plcT (labF text ent) text.length)) := Il10.out.keep hb
    clear Il10
    have It11 : Hid (IntsAt W11 Ot .i64 (plcT (takF text) text.length)) := It10.out.keep hb
    clear It10
    have Is11 : Hid (IntsAt W11 Os .i64 (plcT (sitF text) text.length)) := Is10.out.keep hb
    clear Is10
    have Rb11 : Hid (RelsAt W11 Ob (blkL text ent)) := Rb10.out.keep hb
    clear Rb10
    clear H10 HB10 hb
    have a0 := H11.out.a0
    have a1 := H11.out.a1
    have a2 := H11.out.a2
    have b0 := H11.out.b0
    have b1 := H11.out.b1
    have b2 := H11.out.b2
    go_wp2_with fail
    refine (CP1 W11 H11.out).mono ?_
    rintro e W12 ⟨Pt, yt, rfl, hps, hb⟩
    clear a0 a1 a2 b0 b1 b2
    have H12 : Hid (Held W12 w.heap.size g A1 A2 B1 B2 c1 c2 k1 k2 ent text mem) := H11.out.keep hb
    have HB12 : Hid (Below w.heap.size w W12) := lb_trans HB11.out hb
    have Jt12 : Hid (IntsAt W12 Pt .i64 (plcT (takF text) text.length)) := hps
    clear hps
    have Il12 : Hid (IntsAt W12 Ol .i64 (plcT (labF text ent) text.length)) := Il11.out.keep hb
    clear Il11
    have It12 : Hid (IntsAt W12 Ot .i64 (plcT (takF text) text.length)) := It11.out.keep hb
    clear It11
    have Is12 : Hid (IntsAt W12 Os .i64 (plcT (sitF text) text.length)) := Is11.out.keep hb
    clear Is11
    have Rb12 : Hid (RelsAt W12 Ob (blkL text ent)) := Rb11.out.keep hb
    clear Rb11
    clear H11 HB11 hb
    have CQ := eqints_any Ot Pt zt yt (plcT (takF text) text.length) (plcT (takF text) text.length) W12 It12.out Jt12.out (by have := plcT_len (takF text) text.length; omega)
    simp only [decide_true] at CQ
    have a0 := H12.out.a0
    have a1 := H12.out.a1
    have a2 := H12.out.a2
    have b0 := H12.out.b0
    have b1 := H12.out.b1
    have b2 := H12.out.b2
    go_wp2_with fail
    refine (CQ).mono ?_
    rintro e W13 ⟨rfl, hb⟩
    clear a0 a1 a2 b0 b1 b2
    have H13 : Hid (Held W13 w.heap.size g A1 A2 B1 B2 c1 c2 k1 k2 ent text mem) := H12.out.keep hb
    have HB13 : Hid (Below w.heap.size w W13) := lb_trans HB12.out hb
    clear CQ Jt12
    have Il13 : Hid (IntsAt W13 Ol .i64 (plcT (labF text ent) text.length)) := Il12.out.keep hb
    clear Il12
    have It13 : Hid (IntsAt W13 Ot .i64 (plcT (takF text) text.length)) := It12.out.keep hb
    clear It12
    have Is13 : Hid (IntsAt W13 Os .i64 (plcT (sitF text) text.length)) := Is12.out.keep hb
    clear Is12
    have Rb13 : Hid (RelsAt W13 Ob (blkL text ent)) := Rb12.out.keep hb
    clear Rb12
    clear H12 HB12 hb
    have a0 := H13.out.a0
    have a1 := H13.out.a1
    have a2 := H13.out.a2
    have b0 := H13.out.b0
    have b1 := H13.out.b1
    have b2 := H13.out.b2
    go_wp2_with fail
    refine (CP2 W13 H13.out).mono ?_
    rintro e W14 ⟨Ps, ys, rfl, hps, hb⟩
    clear a0 a1 a2 b0 b1 b2
    have H14 : Hid (Held W14 w.heap.size g A1 A2 B1 B2 c1 c2 k1 k2 ent text mem) := H13.out.keep hb
    have HB14 : Hid (Below w.heap.size w W14) := lb_trans HB13.out hb
    have Js14 : Hid (IntsAt W14 Ps .i64 (plcT (sitF text) text.length)) := hps
    clear hps
    have Il14 : Hid (IntsAt W14 Ol .i64 (plcT (labF text ent) text.length)) := Il13.out.keep hb
    clear Il13
    have It14 : Hid (IntsAt W14 Ot .i64 (plcT (takF text) text.length)) := It13.out.keep hb
    clear It13
    have Is14 : Hid (IntsAt W14 Os .i64 (plcT (sitF text) text.length)) := Is13.out.keep hb
    clear Is13
    have Rb14 : Hid (RelsAt W14 Ob (blkL text ent)) := Rb13.out.keep hb
    clear Rb13
    clear H13 HB13 hb
    have CQ := eqints_any Os Ps zs ys (plcT (sitF text) text.length) (plcT (sitF text) text.length) W14 Is14.out Js14.out (by have := plcT_len (sitF text) text.length; omega)
    simp only [decide_true] at CQ
    have a0 := H14.out.a0
    have a1 := H14.out.a1
    have a2 := H14.out.a2
    have b0 := H14.out.b0
    have b1 := H14.out.b1
    have b2 := H14.out.b2
    go_wp2_with fail
    refine (CQ).mono ?_
    rintro e W15 ⟨rfl, hb⟩
    clear a0 a1 a2 b0 b1 b2
    have H15 : Hid (Held W15 w.heap.size g A1 A2 B1 B2 c1 c2 k1 k2 ent text mem) := H14.out.keep hb
    have HB15 : Hid (Below w.heap.size w W15) := lb_trans HB14.out hb
    clear CQ Js14
    have Il15 : Hid (IntsAt W15 Ol .i64 (plcT (labF text ent) text.length)) := Il14.out.keep hb
    clear Il14
    have It15 : Hid (IntsAt W15 Ot .i64 (plcT (takF text) text.length)) := It14.out.keep hb
    clear It14
    have Is15 : Hid (IntsAt W15 Os .i64 (plcT (sitF text) text.length)) := Is14.out.keep hb
    clear Is14
    have Rb15 : Hid (RelsAt W15 Ob (blkL text ent)) := Rb14.out.keep hb
    clear Rb14
    clear H14 HB14 hb
    have a0 := H15.out.a0
    have a1 := H15.out.a1
    have a2 := H15.out.a2
    have b0 := H15.out.b0
    have b1 := H15.out.b1
    have b2 := H15.out.b2
    go_wp2_with fail
    refine (CR W15 H15.out).mono ?_
    rintro e W16 ⟨Pb, yb, rfl, hps, hb⟩
    clear a0 a1 a2 b0 b1 b2
    have H16 : Hid (Held W16 w.heap.size g A1 A2 B1 B2 c1 c2 k1 k2 ent text mem) := H15.out.keep hb
    have HB16 : Hid (Below w.heap.size w W16) := lb_trans HB15.out hb
    have Jb16 : Hid (RelsAt W16 Pb (blkL text ent)) := hps
    clear hps
    have Il16 : Hid (IntsAt W16 Ol .i64 (plcT (labF text ent) text.length)) := Il15.out.keep hb
    clear Il15
    have It16 : Hid (IntsAt W16 Ot .i64 (plcT (takF text) text.length)) := It15.out.keep hb
    clear It15
    have Is16 : Hid (IntsAt W16 Os .i64 (plcT (sitF text) text.length)) := Is15.out.keep hb
    clear Is15
    have Rb16 : Hid (RelsAt W16 Ob (blkL text ent)) := Rb15.out.keep hb
    clear Rb15
    clear H15 HB15 hb
    have CQ := eqblocks_any Ob Pb zb yb (blkL text ent) (blkL text ent) W16 Rb16.out Jb16.out (by have := plcT_len (begF text ent) text.length; unfold blkL; rw [zipN_len]; omega)
    simp only [decide_true] at CQ
    have a0 := H16.out.a0
    have a1 := H16.out.a1
    have a2 := H16.out.a2
    have b0 := H16.out.b0
    have b1 := H16.out.b1
    have b2 := H16.out.b2
    go_wp2_with fail
    refine (CQ).mono ?_
    rintro e W17 ⟨rfl, hb⟩
    clear a0 a1 a2 b0 b1 b2
    have H17 : Hid (Held W17 w.heap.size g A1 A2 B1 B2 c1 c2 k1 k2 ent text mem) := H16.out.keep hb
    have HB17 : Hid (Below w.heap.size w W17) := lb_trans HB16.out hb
    clear CQ Jb16
    clear H16 HB16 hb
    go_wp2_with (go_at_call 7; refine (works_any _).mono ?_; rintro e W18 ⟨rfl, hb⟩)
    go_ret
    exact ⟨rfl, lb_trans HB17.out hb⟩
  · obtain ⟨E, hEE⟩ : ∃ E, (checkI text mem.length ent).1 = E := ⟨_, rfl⟩
    obtain ⟨E2, hE2⟩ : ∃ E2, (checkI text mem.length ent).2 = E2 := ⟨_, rfl⟩
    have CC : ∀ (Z : World) (h : Held Z w.heap.size g A1 A2 B1 B2 c1 c2 k1 k2 ent text mem), Calls Try.prog 9 #[.agg #[.slice A1 text.length c1, .int .i64 ent, .slice A2 mem.length c2]] Z (ChkP E E2 Z) := fun Z h => by
      have := refcheck_any A1 A2 c1 mem.length c2 ent text Z h.tA hR (by omega) (by omega)
      rw [hEE, hE2] at this
      exact this
    have CL : ∀ (Z : World) (h : Held Z w.heap.size g A1 A2 B1 B2 c1 c2 k1 k2 ent text mem), Calls Try.prog 10 #[.agg #[.slice B1 text.length k1, .int .i64 ent, .slice B2 mem.length k2]] Z (GatP E [] Z) := fun Z h => by
      have := labels_any B1 B2 k1 mem.length k2 ent text Z h.tB hR (by omega) (by omega)
      rw [outL_no hE, hEE] at this
      exact this
    have CT : ∀ (Z : World) (h : Held Z w.heap.size g A1 A2 B1 B2 c1 c2 k1 k2 ent text mem), Calls Try.prog 11 #[.agg #[.slice B1 text.length k1, .int .i64 ent, .slice B2 mem.length k2]] Z (GatP E [] Z) := fun Z h => by
      have := taken_any B1 B2 k1 mem.length k2 ent text Z h.tB hR (by omega) (by omega)
      rw [outL_no hE, hEE] at this
      exact this
    have CS : ∀ (Z : World) (h : Held Z w.heap.size g A1 A2 B1 B2 c1 c2 k1 k2 ent text mem), Calls Try.prog 12 #[.agg #[.slice B1 text.length k1, .int .i64 ent, .slice B2 mem.length k2]] Z (GatP E [] Z) := fun Z h => by
      have := sites_any B1 B2 k1 mem.length k2 ent text Z h.tB hR (by omega) (by omega)
      rw [outL_no hE, hEE] at this
      exact this
    have CB : ∀ (Z : World) (h : Held Z w.heap.size g A1 A2 B1 B2 c1 c2 k1 k2 ent text mem), Calls Try.prog 13 #[.agg #[.slice B1 text.length k1, .int .i64 ent, .slice B2 mem.length k2]] Z (BlkP E [] Z) := fun Z h => by
      have := blocks_any B1 B2 k1 mem.length k2 ent text Z h.tB hR (by omega) (by omega)
      rw [show outB text mem.length ent = [] from if_neg hE, hEE] at this
      exact this
    have CE : ∀ (Z : World) (h : Held Z w.heap.size g A1 A2 B1 B2 c1 c2 k1 k2 ent text mem), Calls Try.prog 14 #[.agg #[.slice B1 text.length k1, .int .i64 ent, .slice B2 mem.length k2], .agg #[.slice A1 text.length c1, .int .i64 ent, .slice A2 mem.length c2]] Z fun e w' => e = .returned (.bool true) ∧ Below Z.heap.size Z w' := fun Z h => eqimg_same B1 B2 A1 A2 k1 k2 c1 c2 text mem ent Z h.tB h.mB h.tA h.mA (by omega) (by omega)
    have hne : (E == 0) = false := by rw [← hEE]; simpa using hE
    have hne2 : (E != 0) = true := by rw [← hEE]; simpa using hE
    clear hE hR hEE hE2
    have a0 := H3.out.a0
    have a1 := H3.out.a1
    have a2 := H3.out.a2
    have b0 := H3.out.b0
    have b1 := H3.out.b1
    have b2 := H3.out.b2
    go_wp2_with fail
    refine (CC W3 H3.out).mono ?_
    rintro e W4 ⟨rfl, hb⟩
    clear a0 a1 a2 b0 b1 b2
    have H4 : Hid (Held W4 w.heap.size g A1 A2 B1 B2 c1 c2 k1 k2 ent text mem) := H3.out.keep hb
    have HB4 : Hid (Below w.heap.size w W4) := lb_trans HB3.out hb
    clear H3 HB3 hb
    have a0 := H4.out.a0
    have a1 := H4.out.a1
    have a2 := H4.out.a2
    have b0 := H4.out.b0
    have b1 := H4.out.b1
    have b2 := H4.out.b2
    go_wp2_with fail
    refine (CL W4 H4.out).mono ?_
    rintro e W5 ⟨Ol, zl, rfl, hown, hb⟩
    clear a0 a1 a2 b0 b1 b2
    have H5 : Hid (Held W5 w.heap.size g A1 A2 B1 B2 c1 c2 k1 k2 ent text mem) := H4.out.keep hb
    have HB5 : Hid (Below w.heap.size w W5) := lb_trans HB4.out hb
    have Il5 : Hid (IntsAt W5 Ol .i64 []) := row_ints hown
    clear hown
    clear H4 HB4 hb
    have a0 := H5.out.a0
    have a1 := H5.out.a1
    have a2 := H5.out.a2
    have b0 := H5.out.b0
    have b1 := H5.out.b1
    have b2 := H5.out.b2
    go_wp2_with fail
    refine (CT W5 H5.out).mono ?_
    rintro e W6 ⟨Ot, zt, rfl, hown, hb⟩
    clear a0 a1 a2 b0 b1 b2
    have H6 : Hid (Held W6 w.heap.size g A1 A2 B1 B2 c1 c2 k1 k2 ent text mem) := H5.out.keep hb
    have HB6 : Hid (Below w.heap.size w W6) := lb_trans HB5.out hb
    have It6 : Hid (IntsAt W6 Ot .i64 []) := row_ints hown
    clear hown
    have Il6 : Hid (IntsAt W6 Ol .i64 []) := Il5.out.keep hb
    clear Il5
    clear H5 HB5 hb
    have a0 := H6.out.a0
    have a1 := H6.out.a1
    have a2 := H6.out.a2
    have b0 := H6.out.b0
    have b1 := H6.out.b1
    have b2 := H6.out.b2
    go_wp2_with fail
    refine (CS W6 H6.out).mono ?_
    rintro e W7 ⟨Os, zs, rfl, hown, hb⟩
    clear a0 a1 a2 b0 b1 b2
    have H7 : Hid (Held W7 w.heap.size g A1 A2 B1 B2 c1 c2 k1 k2 ent text mem) := H6.out.keep hb
    have HB7 : Hid (Below w.heap.size w W7) := lb_trans HB6.out hb
    have Is7 : Hid (IntsAt W7 Os .i64 []) := row_ints hown
    clear hown
    have Il7 : Hid (IntsAt W7 Ol .i64 []) := Il6.out.keep hb
    clear Il6
    have It7 : Hid (IntsAt W7 Ot .i64 []) := It6.out.keep hb
    clear It6
    clear H6 HB6 hb
    have a0 := H7.out.a0
    have a1 := H7.out.a1
    have a2 := H7.out.a2
    have b0 := H7.out.b0
    have b1 := H7.out.b1
    have b2 := H7.out.b2
    go_wp2_with fail
    refine (CB W7 H7.out).mono ?_
    rintro e W8 ⟨Ob, zb, rfl, hown, hb⟩
    clear a0 a1 a2 b0 b1 b2
    have H8 : Hid (Held W8 w.heap.size g A1 A2 B1 B2 c1 c2 k1 k2 ent text mem) := H7.out.keep hb
    have HB8 : Hid (Below w.heap.size w W8) := lb_trans HB7.out hb
    have Rb8 : Hid (RelsAt W8 Ob []) := drow_rels hown
    clear hown
    have Il8 : Hid (IntsAt W8 Ol .i64 []) := Il7.out.keep hb
    clear Il7
    have It8 : Hid (IntsAt W8 Ot .i64 []) := It7.out.keep hb
    clear It7
    have Is8 : Hid (IntsAt W8 Os .i64 []) := Is7.out.keep hb
    clear Is7
    clear H7 HB7 hb
    have a0 := H8.out.a0
    have a1 := H8.out.a1
    have a2 := H8.out.a2
    have b0 := H8.out.b0
    have b1 := H8.out.b1
    have b2 := H8.out.b2
    go_wp2_with fail
    refine (CE W8 H8.out).mono ?_
    rintro e W9 ⟨rfl, hb⟩
    clear a0 a1 a2 b0 b1 b2
    have H9 : Hid (Held W9 w.heap.size g A1 A2 B1 B2 c1 c2 k1 k2 ent text mem) := H8.out.keep hb
    have HB9 : Hid (Below w.heap.size w W9) := lb_trans HB8.out hb
    have Il9 : Hid (IntsAt W9 Ol .i64 []) := Il8.out.keep hb
    clear Il8
    have It9 : Hid (IntsAt W9 Ot .i64 []) := It8.out.keep hb
    clear It8
    have Is9 : Hid (IntsAt W9 Os .i64 []) := Is8.out.keep hb
    clear Is8
    have Rb9 : Hid (RelsAt W9 Ob []) := Rb8.out.keep hb
    clear Rb8
    clear H8 HB8 hb
    go_wp2_with (go_at_call 7; refine (works_any _).mono ?_; rintro e W10 ⟨rfl, hb⟩)
    go_ret
    exact ⟨rfl, lb_trans HB9.out hb⟩

end Go.Proofs.Ytlblplfmemoblaa
