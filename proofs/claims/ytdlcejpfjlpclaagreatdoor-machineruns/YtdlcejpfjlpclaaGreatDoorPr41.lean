/-
  The statement MachineRuns, walked.
-/
import Derived.Test.YtdlcejpfjlpclaaGreatDoorProg
import Derived.WalkKit
import Derived.WalkSpells
import Derived.WalkLawsBesides
import Derived.RowKit3
import Derived.Below
import Derived.Deep.QuietTactic
import Derived.BigQuiet
import Derived.WalkSmall
import Derived.Laws.Rows
import Derived.Test.YtdlcejpfjlpclaaGreatDoorPr34
import Derived.Test.YtdlcejpfjlpclaaGreatDoorPr39
import Derived.Test.YtdlcejpfjlpclaaGreatDoorPr40
import Derived.Lib.BufferOwn
namespace Go.Proofs.YtdlcejpfjlpclaaGreatDoor
open Go.RowKit

theorem iNewsV (K : IntKind) (zs : List Int) : iNews K zs = iVals K zs := zNews_vals K zs
set_option maxRecDepth 100000 in
set_option maxHeartbeats 16000000 in
theorem lawRuns (A1 A2 A3 : Option Addr) (c1 c2 c3 : Nat) (ent : Int) (text mem tape : List Int) (N : Int) (w : World) (hT : IntsAt w A1 .u32 text) (hM : IntsAt w A2 .i64 mem) (hX : IntsAt w A3 .i64 tape) (hR : ∀ i, i < text.length → 0 ≤ nth text i ∧ nth text i < 4294967296) (h01 : A1 = none → c1 = 0) (h02 : A2 = none → c2 = 0) (h03 : A3 = none → c3 = 0) :
    Calls Tryz.prog 3 #[.agg #[.slice A1 text.length c1, .int .i64 ent, .slice A2 mem.length c2], .slice A3 tape.length c3, .int .i64 N] w fun e w' => e = .returned (.bool true) ∧ Below w.heap.size w w' := by
  obtain ⟨W0, HW⟩ : ∃ W0, Hid (w.alloc (.cells #[.slice A1 text.length c1, .int .i64 ent, .slice A2 mem.length c2] 25) = W0) := ⟨_, rfl⟩
  have HB0 : Hid (Below w.heap.size w W0) := by unfold Hid; rw [← HW.out]; exact lb_alloc (Below.refl _ _) _
  have hZ0 : w.heap.size < W0.heap.size := by rw [← HW.out]; simp
  have i0 : W0.cell? ⟨w.heap.size, 0, none⟩ = some (.slice A1 text.length c1) := by rw [← HW.out]; simp [go_sem]
  have i1 : W0.cell? ⟨w.heap.size, 1, none⟩ = some (.int .i64 ent) := by rw [← HW.out]; simp [go_sem]
  have i2 : W0.cell? ⟨w.heap.size, 2, none⟩ = some (.slice A2 mem.length c2) := by rw [← HW.out]; simp [go_sem]
  have C0 := much_any A1 A2 A3 c1 c2 c3 ent text mem tape W0
  by_cases g0 : muchB text mem tape = true
  · rw [g0] at C0
    go_enter Tryz.func3, Tryz.ntmps3
    go_upto_region 1 with fail
    rw [HW.out]
    clear HW
    go_wp2_with (first
        | (go_at_call 4; refine C0.mono ?_; rintro e w1 ⟨rfl, hb1⟩)
        | (go_at_call 5; refine (works_any _).mono ?_; rintro e w2 ⟨rfl, hb2⟩))
    go_ret
    exact ⟨rfl, lb_trans HB0.out (lb_trans hb1 hb2)⟩
  have g0 : muchB text mem tape = false := by simpa using g0
  have l1 : text.length ≤ 32768 ∧ mem.length ≤ 16384 ∧ tape.length ≤ 16384 := by unfold muchB at g0; simp at g0; omega
  rw [g0] at C0
  obtain ⟨l1, l2, l3⟩ := l1
  clear g0
  by_cases hN : 3000 < N
  · go_enter Tryz.func3, Tryz.ntmps3
    go_upto_region 1 with fail
    rw [HW.out]
    clear HW
    go_wp2_with (first
        | (go_at_call 4; refine C0.mono ?_; rintro e w1 ⟨rfl, hb1⟩)
        | (go_at_call 5; refine (works_any _).mono ?_; rintro e w2 ⟨rfl, hb2⟩))
    go_ret
    exact ⟨rfl, lb_trans HB0.out (lb_trans hb1 hb2)⟩
  go_enter Tryz.func3, Tryz.ntmps3
  go_upto_region 1 with fail
  rw [HW.out]
  clear HW
  go_upto_region 3 with (go_at_call 4; refine C0.mono ?_; rintro e W1 ⟨rfl, hb1⟩; have j0 := lkeep hb1 i0; have j1 := lkeep hb1 i1; have j2 := lkeep hb1 i2; have HB1 : Hid (Below w.heap.size w W1) := lb_trans HB0.out hb1; have hZ1 : w.heap.size < W1.heap.size := Nat.lt_of_lt_of_le hZ0 hb1.size)
  have C1 := copyimg_any A1 A2 c1 c2 text mem ent W1 (hT.keep HB1.out) (hM.keep HB1.out) h01 h02 (by omega) (by omega)
  clear i0 i1 i2 hb1 C0
  go_upto_region 4 with (go_at_call 6; refine C1.mono ?_; rintro e W2 ⟨B1, B2, k1, k2, rfl, hrows, hb2⟩; have HB2 : Hid (Below w.heap.size w W2) := lb_trans HB1.out hb2; have m0 := lkeep hb2 j0; have m1 := lkeep hb2 j1; have m2 := lkeep hb2 j2; have HRw : Hid (RowsI W2 W1.heap.size B1 B2 k1 k2 text mem) := hrows)
  obtain ⟨W3, HW3⟩ : ∃ W3, Hid (W2.alloc (.cells #[.slice B1 text.length k1, .int .i64 ent, .slice B2 mem.length k2] 25) = W3) := ⟨_, rfl⟩
  have hbb : Below W2.heap.size W2 W3 := by rw [← HW3.out]; exact lb_alloc (Below.refl _ _) _
  obtain ⟨g, hg⟩ : ∃ g, g = W2.heap.size := ⟨_, rfl⟩
  have n0 : W3.cell? ⟨g, 0, none⟩ = some (.slice B1 text.length k1) := by rw [hg, ← HW3.out]; simp [go_sem]
  have n1 : W3.cell? ⟨g, 1, none⟩ = some (.int .i64 ent) := by rw [hg, ← HW3.out]; simp [go_sem]
  have n2 : W3.cell? ⟨g, 2, none⟩ = some (.slice B2 mem.length k2) := by rw [hg, ← HW3.out]; simp [go_sem]
  have HG : Hid (∀ b, aB B1 = some b → w.heap.size < b ∧ b < g) := fun b hb => by
    have := own_aBlt HRw.out.r1 hb
    omega
  have HWg : Hid (w.heap.size < g) := by unfold Hid; rw [hg]; exact Nat.lt_of_lt_of_le hZ1 hb2.size
  have HG2 : Hid (g < W3.heap.size) := by unfold Hid; rw [hg, ← HW3.out]; simp
  have H3 : Hid (RowsI W3 W1.heap.size B1 B2 k1 k2 text mem) := HRw.out.keep hbb
  have HB3 : Hid (Below w.heap.size w W3) := lb_trans HB2.out hbb
  have a0 := lkeep hbb m0
  have a1 := lkeep hbb m1
  have a2 := lkeep hbb m2
  rw [HW3.out, ← hg]
  clear HW3 hg HRw hrows hb2 hbb m0 m1 m2 j0 j1 j2 HB0 HB1 HB2 C1 hZ0
  have C1 := copylongs_any A3 c3 tape W3 (hX.keep HB3.out) h03 (by omega)
  go_wp2_with fail
  refine C1.mono ?_
  rintro e W4 ⟨B3, k3, rfl, hown, hg, hn3⟩
  have hb4 : Below W3.heap.size W3 W4 := ⟨hg.os, hg.tape, hg.output, hg.size, fun k hk => hg.block k hk (by simp)⟩
  rw [iNewsV] at hown
  have HR3 : Hid (W4.ownsRow W3.heap.size 2 1 (.slice B3 tape.length k3) tape.length (iVals .i64 tape)) := hown
  have HG3 : Hid (∀ b, aB B3 = some b → g < b ∧ b < W4.heap.size) := fun b hb => by
    have := own_aBlt HR3.out hb
    have := HG2.out
    omega
  have H4 : Hid (RowsI W4 W1.heap.size B1 B2 k1 k2 text mem) := H3.out.keep hb4
  have HB4 : Hid (Below w.heap.size w W4) := lb_trans HB3.out hb4
  have HG4 : Hid (g < W4.heap.size) := Nat.lt_of_lt_of_le HG2.out hb4.size
  have e0 := lkeep hb4 a0
  have e1 := lkeep hb4 a1
  have e2 := lkeep hb4 a2
  have f0 := lkeep hb4 n0
  have f1 := lkeep hb4 n1
  have f2 := lkeep hb4 n2
  clear a0 a1 a2 n0 n1 n2 hown hg hb4 C1 H3 HB3 HG2
  have HN3 : Hid (B3 = none → k3 = 0) := hn3
  clear hn3
  have C5 := new_any B1 B2 B3 k1 k2 k3 ent text mem tape W4 (row_ints H4.out.r1) (row_ints H4.out.r2) (row_ints HR3.out) hR (by omega) (by omega) (by unfold maxLen; omega) HN3.out
  have C6 : ∀ Z, Below W4.heap.size W4 Z → Calls Tryz.prog 9 #[.agg #[.slice A1 text.length c1, .int .i64 ent, .slice A2 mem.length c2]] Z (ChkP (checkI text mem.length ent).1 (checkI text mem.length ent).2 Z) := fun Z hZ => refcheck_any A1 A2 c1 mem.length c2 ent text Z (hT.keep (lb_trans HB4.out hZ)) hR (by omega) (by omega)
  by_cases hE : (checkI text mem.length ent).1 = 0
  · by_cases hP : 4096 < tape.length
    · have hnE : newE text tape mem ent = 21 := by unfold newE; rw [if_pos hE, if_pos hP]
      have hP' : (4096 : Int) < (tape.length : Int) := by omega
      have C5 : Calls Tryz.prog 8 #[.agg #[.slice B1 text.length k1, .int .i64 ent, .slice B2 mem.length k2], .slice B3 tape.length k3] W4 fun e w' => e = .returned (.tuple #[.pointer none, .int .i64 21]) ∧ Below W4.heap.size W4 w' := C5.mono fun e w' k => by
        rcases k.2 with ⟨_, k2⟩ | ⟨k2, _⟩
        · exact ⟨by rw [k2, hnE], k.1⟩
        · rw [hnE] at k2; cases k2
      rw [hE] at C6
      generalize (checkI text mem.length ent).2 = E2 at *
      clear hE hnE hP hR hT hM hX H4 HR3
      go_wp2_with fail
      refine C5.mono ?_
      rintro e W5 ⟨rfl, hb5⟩
      have a0 := lkeep hb5 e0
      have a1 := lkeep hb5 e1
      have a2 := lkeep hb5 e2
      clear e0 e1 e2 f0 f1 f2 C5
      go_wp2_with (first
        | (go_at_call 9; refine (C6 _ hb5).mono ?_; rintro e W6 ⟨rfl, hb6⟩)
        | (go_at_call 5; refine (works_any _).mono ?_; rintro e W7 ⟨rfl, hb7⟩))
      go_ret
      exact ⟨rfl, lb_trans HB4.out (lb_trans hb5 (lb_trans hb6 hb7))⟩
    · have hnE : newE text tape mem ent = 0 := by unfold newE; rw [if_pos hE, if_neg hP]
      have hP' : ¬ (4096 : Int) < (tape.length : Int) := by omega
      have C5 : Calls Tryz.prog 8 #[.agg #[.slice B1 text.length k1, .int .i64 ent, .slice B2 mem.length k2], .slice B3 tape.length k3] W4 fun e w' => ∃ P s, e = .returned (.tuple #[.pointer (some ⟨P, 0, none⟩), .int .i64 0]) ∧ PAt w' W4.heap.size P s (newM text tape mem ent) ∧ Below W4.heap.size W4 w' := C5.mono fun e w' k => by
        rcases k.2 with ⟨k2, _⟩ | ⟨_, P, s, k3, k4⟩
        · exact absurd hnE k2
        · exact ⟨P, s, k3, k4, k.1⟩
      obtain ⟨hF, hs0, -⟩ := new_facts hnE hR
      have hMay := check_mayI hE
      have hpos := hMay.past.pos
      have hent := hMay.past.ent0
      rw [hE] at C6
      have HF : Hid (Fine (newM text tape mem ent)) := hF
      have HS0 : Hid ((newM text tape mem ent).steps = 0) := hs0
      generalize (checkI text mem.length ent).2 = E2 at *
      clear hE hnE hP hF hs0 hMay
      go_wp2_with fail
      refine C5.mono ?_
      rintro e W5 ⟨P, s0, rfl, hp5, hb5⟩
      have HP5 : Hid (PAt W5 W4.heap.size P s0 (newM text tape mem ent)) := hp5
      have a0 := lkeep hb5 e0
      have a1 := lkeep hb5 e1
      have a2 := lkeep hb5 e2
      have d0 := lkeep hb5 f0
      have C6 := C6 W5 hb5
      have HB5 : Hid (Below W4.heap.size W4 W5) := hb5
      clear e0 e1 e2 f0 f1 f2 C5 hp5 hb5
      go_upto_region 13 with (go_at_call 9; refine C6.mono ?_; rintro e W6 ⟨rfl, hb6⟩; have HP6 : Hid (PAt W6 W4.heap.size P s0 (newM text tape mem ent)) := HP5.out.keep hb6; have HB6 : Hid (Below W4.heap.size W4 W6) := lb_trans HB5.out hb6; have x0 := lkeep hb6 a0; have x1 := lkeep hb6 a1; have x2 := lkeep hb6 a2; have y0 := lkeep hb6 d0; clear hb6)
      clear a0 a1 a2 d0 C6 HP5 HB5
      have HX6 : Hid (∀ Z : World, (∀ b, b = w.heap.size → Z.heap[b]? = W6.heap[b]?) → Z.cell? ⟨w.heap.size, 0, none⟩ = some (.slice A1 text.length c1) ∧ Z.cell? ⟨w.heap.size, 1, none⟩ = some (.int .i64 ent) ∧ Z.cell? ⟨w.heap.size, 2, none⟩ = some (.slice A2 mem.length c2)) := fun Z hZ => ⟨by rw [World.cell?_of_block (w := W6) (hZ _ rfl)]; exact x0, by rw [World.cell?_of_block (w := W6) (hZ _ rfl)]; exact x1, by rw [World.cell?_of_block (w := W6) (hZ _ rfl)]; exact x2⟩
      have HY6 : Hid (W6.cell? ⟨g, 0, none⟩ = some (.slice B1 text.length k1)) := y0
      have HS6 : Hid (Spoil B1 text.length W6 W6) := Spoil.start (row_keep H4.out.r1 HB6.out)
      have HR6 : Hid (W6.ownsRow W3.heap.size 2 1 (.slice B3 tape.length k3) tape.length (iVals .i64 tape)) := row_keep HR3.out HB6.out
      clear x0 x1 x2 y0 H4 HR3
      go_wp2
      go_loopw [13] (fun i wr => ∃ k : Nat, i = .int .i64 k ∧ k ≤ text.length ∧ Hid (Spoil B1 text.length W6 wr)) (fun i _ => text.length - (intOf i).toNat)
      case atStart => exact ⟨0, rfl, Nat.zero_le _, HS6⟩
      case round =>
        clear HS6
        obtain ⟨k, rfl, hk, HS⟩ := hrel
        have y0 := HS.out.cell (p := ⟨g, 0, none⟩) (fun e => by have := (HG.out g e).2; omega) HY6.out
        by_cases hlt : k < text.length
        · obtain ⟨g1, hB1, ⟨u, hu⟩, hfu⟩ := HS.out.cells k hlt
          have HS2 : Hid (Spoil B1 text.length W6 (wr.setCell ⟨g1, k, none⟩ (.int .u32 0))) := HS.out.set hB1 k _
          rw [hB1] at y0
          have HBB : Hid (B1 = some ⟨g1, 0, none⟩) := hB1
          clear hB1
          go_wp2
          go_roundw
          case rel => exact ⟨k + 1, by go_num, by omega, HS2⟩
          case measure => simp [intOf]; omega
        · obtain rfl : k = text.length := by omega
          have HS1 : Hid (Spoil B1 text.length W6 wr) := HS
          have HS7 : Hid (Spoil B3 tape.length wr wr) := Spoil.start (own_stay HR6.out fun b hb => HS.out.block b (fun e => by
            have h1 := HG.out b e
            have h2 := HG3.out b (by rw [← own_aB]; exact hb)
            omega))
          obtain ⟨W7, hW7⟩ : ∃ W7, W7 = wr := ⟨_, rfl⟩
          subst hW7
          go_wp2
          go_loopw [14] (fun i wq => ∃ k : Nat, i = .int .i64 k ∧ k ≤ tape.length ∧ Hid (Spoil B3 tape.length W7 wq)) (fun i _ => tape.length - (intOf i).toNat)
          case atStart => exact ⟨0, rfl, Nat.zero_le _, HS7⟩
          case round =>
            clear HS7 y0 HS
            obtain ⟨k, rfl, hk, HS⟩ := hrel
            by_cases hlt : k < tape.length
            · obtain ⟨g3, hB3, ⟨u, hu⟩, hfu⟩ := HS.out.cells k hlt
              have HS2 : Hid (Spoil B3 tape.length W7 (wr.setCell ⟨g3, k, none⟩ (.int .i64 (-1)))) := HS.out.set hB3 k _
              subst hB3
              go_wp2
              go_roundw
              case rel => exact ⟨k + 1, by go_num, by omega, HS2⟩
              case measure => simp [intOf]; omega
            · obtain rfl : k = tape.length := by omega
              have HBl : Hid (∀ b, (b ≤ w.heap.size ∨ W4.heap.size ≤ b) → wr.heap[b]? = W6.heap[b]?) := fun b hb => (HS.out.block b (fun e => by have := HG3.out b e; have := HWg.out; omega)).trans (HS1.out.block b (fun e => by have := HG.out b e; have := HG4.out; omega))
              have hsz : wr.heap.size = W6.heap.size := by rw [HS.out.size, HS1.out.size]
              have HB8 : Hid (Below w.heap.size w wr) := HS.out.below (HS1.out.below (lb_trans HB4.out HB6.out) (fun b hb => by have := HG.out b hb; omega)) (fun b hb => by have := HG3.out b hb; have := HWg.out; omega)
              have HP8 : Hid (PAt wr W4.heap.size P s0 (newM text tape mem ent)) := HP6.out.stay fun b hf => HBl.out b (.inr (HP6.out.foot hf).1)
              obtain ⟨x0, x1, x2⟩ := HX6.out wr (fun b hb => HBl.out b (.inl (by omega)))
              obtain ⟨a, ha, -⟩ := hT 0 hpos
              subst ha
              have C9 := qnew_any a A2 A3 c1 c2 c3 ent text mem tape wr (hT.keep HB8.out) (hM.keep HB8.out) (hX.keep HB8.out) (by omega) (by omega) (by omega) h03 hent hpos
              have HW4 : Hid (w.heap.size ≤ W4.heap.size) := HB4.out.size
              clear HS HS1 hsz HBl hT hM hX hR HX6 HP6 HB6 HR6 HY6 HG HG3 HG4 hk hlt
              generalize newM text tape mem ent = M0 at *
              obtain ⟨W8, hW8⟩ : ∃ W8, W8 = wr := ⟨_, rfl⟩
              subst hW8
              go_wp2_with fail
              refine C9.mono ?_
              rintro e W9 ⟨hb9, Q, t0, rfl, hq9⟩
              have HD : Hid (Duo W9 W4.heap.size P s0 W8.heap.size Q t0 (runM 0 M0)) := ⟨HP8.out.keep hb9, hq9, fun b h1 h2 => by have := (HP8.out.foot h1).2; have := (hq9.foot h2).1; omega⟩
              have HB9 : Hid (Below w.heap.size w W9) := lb_trans HB8.out hb9
              have HQ8 : Hid (w.heap.size ≤ W8.heap.size) := HB8.out.size
              clear x0 x1 x2 hb9 hq9 C9 HP8 HB8 HB4
              go_wp2
              go_loopw [16] (fun i wr => ∃ (k : Nat) (s : Loc) (t : QLoc), i = .int .i64 k ∧ k ≤ 40 ∧ Hid (Duo wr W4.heap.size P s W8.heap.size Q t (runM k M0)) ∧ Hid (Below w.heap.size w wr)) (fun i _ => 40 - (intOf i).toNat)
              case atStart => exact ⟨0, s0, t0, rfl, by omega, HD, HB9⟩
              case round =>
                clear HD HB9
                obtain ⟨k, s, t, rfl, hk, HD, HB⟩ := hrel
                obtain ⟨hs1, hs2, -⟩ := run_steps M0 k
                rw [HS0.out] at hs2
                have HFk : Hid (Fine (runM k M0)) := fine_run HF.out k
                have HSn : Hid (runM (k + 1) M0 = stepM (runM k M0)) := run_snoc k M0
                by_cases hkN : (k : Int) < N
                · by_cases hk4 : k < 40
                  · have hk4' : (k : Int) < 40 := by omega
                    have HFn : Hid (Fine (stepM (runM k M0))) := fine_step HFk.out
                    have hs3 : (stepM (runM k M0)).steps ≤ 41 := by
                      obtain ⟨-, h2, -⟩ := run_steps M0 (k + 1)
                      rw [HSn.out, HS0.out] at h2
                      omega
                    generalize runM k M0 = m at *
                    have C1 := step_any HD.out.p HFk.out (by omega)
                    go_wp2_with fail
                    refine C1.mono ?_
                    rintro e U1 ⟨rfl, hn1⟩
                    have HU1 : Hid (Below w.heap.size w U1) := nowp_below hn1 HD.out.p HB.out HW4.out
                    obtain ⟨s', hh⟩ := HD.out.left hn1
                    have HH : Hid (Half U1 W4.heap.size P s' W8.heap.size Q t m (stepM m)) := hh
                    clear hh hn1 C1
                    have C2 := qstep_any HH.out.q HFk.out (by omega)
                    go_wp2_with fail
                    refine C2.mono ?_
                    rintro e U2 ⟨rfl, hn2⟩
                    have HU2 : Hid (Below w.heap.size w U2) := nowq_below hn2 HH.out.q HU1.out HQ8.out
                    obtain ⟨t', hh⟩ := HH.out.right hn2
                    have HD2 : Hid (Duo U2 W4.heap.size P s' W8.heap.size Q t' (stepM m)) := hh
                    clear hh hn2 C2 HH
                    have C3 := alike_any HD2.out.p HD2.out.q HFn.out (by omega)
                    generalize stepM m = m' at *
                    go_wp2_with fail
                    refine C3.mono ?_
                    rintro e U3 ⟨rfl, hb3⟩
                    go_wp2
                    go_roundw
                    case rel => exact ⟨k + 1, s', t', by go_num, by omega, by rw [HSn.out]; exact HD2.out.keep hb3, lb_trans HU2.out hb3⟩
                    case measure => simp [intOf]; omega
                  · have hk4' : ¬ (k : Int) < 40 := by omega
                    generalize runM k M0 = m at *
                    have HFr : Hid (Fine (runM N.toNat m)) := fine_run HFk.out _
                    obtain ⟨-, hr2, -⟩ := run_steps m N.toNat
                    have hr3 : (runM N.toNat m).steps ≤ 4000 := by omega
                    have C1 := run_any HD.out.p HFk.out N (by omega)
                    have C2 := fun (U : World) (tt : QLoc) (hq : QAt U W8.heap.size Q tt m) => qrun_any hq HFk.out N (by omega)
                    unfold RanP at C1
                    unfold RanQ at C2
                    generalize ((runM N.toNat m).steps : Int) - (m.steps : Int) = D at *
                    generalize runM N.toNat m = M' at *
                    have HMS : Hid _ := hr3
                    go_wp2_with fail
                    refine C1.mono ?_
                    rintro e U1 ⟨rfl, hn1⟩
                    have HU1 : Hid (Below w.heap.size w U1) := nowp_below hn1 HD.out.p HB.out HW4.out
                    obtain ⟨s', hh⟩ := HD.out.left hn1
                    have HH : Hid (Half U1 W4.heap.size P s' W8.heap.size Q t m M') := hh
                    clear hh hn1 C1 HD HB
                    have C2 := C2 U1 t HH.out.q
                    go_wp2_with fail
                    refine C2.mono ?_
                    rintro e U2 ⟨rfl, hn2⟩
                    have HU2 : Hid (Below w.heap.size w U2) := nowq_below hn2 HH.out.q HU1.out HQ8.out
                    obtain ⟨t', hh⟩ := HH.out.right hn2
                    have HD2 : Hid (Duo U2 W4.heap.size P s' W8.heap.size Q t' M') := hh
                    clear hh hn2 C2 HH HU1
                    have C3 := alike_any HD2.out.p HD2.out.q HFr.out (by omega)
                    have HML : Hid (M'.mem.length ≤ 4096 ∧ M'.ports.length ≤ 4000) := ⟨HFr.out.mlen, by have := HFr.out.ports; omega⟩
                    generalize hst : M'.status = S at *
                    clear hst
                    go_upto_region 31 with (go_at_call 13; refine C3.mono ?_; rintro e U3 ⟨rfl, hb3⟩; have HP3 : Hid (PAt U3 W4.heap.size P s' M') := HD2.out.p.keep hb3; have HU3 : Hid (Below w.heap.size w U3) := lb_trans HU2.out hb3; clear hb3)
                    clear C3 HD2 HU2
                    obtain ⟨X0, HX⟩ : ∃ X0, Hid (U3.alloc (.cells #[.slice none 0 0, .slice none 0 0, .slice none 0 0, .slice none 0 0, .slice none 0 0, .slice none 0 0, .slice none 0 0, .slice none 0 0, .slice none 0 0, .slice none 0 0, .slice none 0 0, .slice none 0 0, .slice none 0 0, .slice none 0 0, .slice none 0 0, .slice none 0 0, .slice none 0 0] 63) = X0) := ⟨_, rfl⟩
                    obtain ⟨n, hn⟩ : ∃ n, n = U3.heap.size := ⟨_, rfl⟩
                    have HS0' : Hid (BagS X0 n n nilF [] []) := by unfold Hid; rw [← HX.out, hn]; exact BagS.new U3
                    have hbX0 : Below U3.heap.size U3 X0 := by rw [← HX.out]; exact lb_alloc (Below.refl _ _) _
                    have HP0 : Hid (PAt X0 W4.heap.size P s' M') := HP3.out.keep hbX0
                    have HX0 : Hid (Below w.heap.size w X0) := lb_trans HU3.out hbX0
                    have HN0 : Hid (n ≤ X0.heap.size) := by rw [Hid, hn]; exact hbX0.size
                    have HFt : Hid (∀ b, Foot s' P b → b < n) := fun b hf => by rw [hn]; exact (HP3.out.foot hf).2
                    have HWn : Hid (w.heap.size ≤ n) := by rw [Hid, hn]; exact HU3.out.size
                    obtain ⟨f0, hf0⟩ : ∃ f0, f0 = nilF := ⟨_, rfl⟩
                    rw [← hf0] at HS0'
                    have HSx : Hid (BagS X0 n n f0 [] []) := HS0'
                    clear HS0' hf0 hbX0 HP3 HU3
                    go_upto_region 32 with fail
                    rw [HX.out, ← hn]
                    clear HX hn
                    have C := memory_yes HP0.out HFr.out (by omega)
                    go_wp2_with fail
                    refine C.mono ?_
                    rintro e Y0 ⟨v, rfl, hown, hbY⟩
                    obtain ⟨V0, z0, ev, -⟩ := own_any hown
                    subst ev
                    have HG0 : Hid (BagS Y0 n n f0 [] []) := HSx.out.keep hbY
                    have hof := HSx.out.off6 hown
                    have HPY : Hid (PAt Y0 W4.heap.size P s' M') := HP0.out.keep hbY
                    have HBY : Hid (Below w.heap.size w Y0) := lb_trans HX0.out hbY
                    have CA := addrow_any n n f0 (([] : List (Value × Nat)).map Prod.fst) V0 M'.mem.length z0 Y0 (Nat.le_refl _) HG0.out.bag (by simpa using HG0.out.h6) (by simp)
                    have hrow := ownsRow_mono hown (show n ≤ X0.heap.size from HN0.out)
                    clear C hown
                    go_wp2_with fail
                    refine CA.mono ?_
                    intro e X1 hadd
                    obtain ⟨rfl, f1, hS, hbX⟩ := HG0.out.row hrow (by have := HML.out; omega) (by simp) hof hadd
                    have HS1 : Hid (BagS X1 n n f1 [(.slice V0 M'.mem.length z0, M'.mem.length)] []) := hS
                    have HP1 : Hid (PAt X1 W4.heap.size P s' M') := HPY.out.stay fun b hf => hbX.block b (HFt.out b hf)
                    have HX1 : Hid (Below w.heap.size w X1) := HBY.out.trans (hbX.mono HWn.out)
                    have HN1 : Hid (n ≤ X1.heap.size) := Nat.le_trans HN0.out (Nat.le_trans hbY.size hbX.size)
                    clear CA hadd hS hbX hbY hrow hof HPY HBY HG0 HSx HP0 HX0
                    have C := memory_yes HP1.out HFr.out (by omega)
                    go_wp2_with fail
                    refine C.mono ?_
                    rintro e Y1 ⟨v, rfl, hown, hbY⟩
                    obtain ⟨V1, z1, ev, -⟩ := own_any hown
                    subst ev
                    have HG1 : Hid (BagS Y1 n n f1 [(.slice V0 M'.mem.length z0, M'.mem.length)] []) := HS1.out.keep hbY
                    have hof := HS1.out.off6 hown
                    have HPY : Hid (PAt Y1 W4.heap.size P s' M') := HP1.out.keep hbY
                    have HBY : Hid (Below w.heap.size w Y1) := lb_trans HX1.out hbY
                    have CA := addrow_any n n f1 (([(.slice V0 M'.mem.length z0, M'.mem.length)] : List (Value × Nat)).map Prod.fst) V1 M'.mem.length z1 Y1 (Nat.le_refl _) HG1.out.bag (by simpa using HG1.out.h6) (by simp)
                    have hrow := ownsRow_mono hown (show n ≤ X1.heap.size from HN1.out)
                    clear C hown
                    go_wp2_with fail
                    refine CA.mono ?_
                    intro e X2 hadd
                    obtain ⟨rfl, f2, hS, hbX⟩ := HG1.out.row hrow (by have := HML.out; omega) (by simp) hof hadd
                    have HS2 : Hid (BagS X2 n n f2 [(.slice V0 M'.mem.length z0, M'.mem.length), (.slice V1 M'.mem.length z1, M'.mem.length)] []) := hS
                    have HP2 : Hid (PAt X2 W4.heap.size P s' M') := HPY.out.stay fun b hf => hbX.block b (HFt.out b hf)
                    have HX2 : Hid (Below w.heap.size w X2) := HBY.out.trans (hbX.mono HWn.out)
                    have HN2 : Hid (n ≤ X2.heap.size) := Nat.le_trans HN1.out (Nat.le_trans hbY.size hbX.size)
                    clear CA hadd hS hbX hbY hrow hof HPY HBY HG1 HS1 HP1 HX1
                    have C := ports_yes HP2.out HFr.out (by omega)
                    go_wp2_with fail
                    refine C.mono ?_
                    rintro e Y2 ⟨v, rfl, hown, hbY⟩
                    obtain ⟨V2, z2, ev, -⟩ := own_any hown
                    subst ev
                    have HG2 : Hid (BagS Y2 n n f2 [(.slice V0 M'.mem.length z0, M'.mem.length), (.slice V1 M'.mem.length z1, M'.mem.length)] []) := HS2.out.keep hbY
                    have hof := HS2.out.off10 hown
                    have HPY : Hid (PAt Y2 W4.heap.size P s' M') := HP2.out.keep hbY
                    have HBY : Hid (Below w.heap.size w Y2) := lb_trans HX2.out hbY
                    have CA := addports_any n n f2 (([] : List (Value × Nat)).map Prod.fst) V2 M'.ports.length z2 Y2 (Nat.le_refl _) HG2.out.bag (by simpa using HG2.out.h10) (by simp)
                    have hrow := ownsRow_mono hown (show n ≤ X2.heap.size from HN2.out)
                    clear C hown
                    go_wp2_with fail
                    refine CA.mono ?_
                    intro e X3 hadd
                    obtain ⟨rfl, f3, hS, hbX⟩ := HG2.out.ports hrow (by have := HML.out; omega) (by simp) hof hadd
                    have HS3 : Hid (BagS X3 n n f3 [(.slice V0 M'.mem.length z0, M'.mem.length), (.slice V1 M'.mem.length z1, M'.mem.length)] [(.slice V2 M'.ports.length z2, M'.ports.length)]) := hS
                    have HP3 : Hid (PAt X3 W4.heap.size P s' M') := HPY.out.stay fun b hf => hbX.block b (HFt.out b hf)
                    have HX3 : Hid (Below w.heap.size w X3) := HBY.out.trans (hbX.mono HWn.out)
                    have HN3 : Hid (n ≤ X3.heap.size) := Nat.le_trans HN2.out (Nat.le_trans hbY.size hbX.size)
                    clear CA hadd hS hbX hbY hrow hof HPY HBY HG2 HS2 HP2 HX2
                    have C := ports_yes HP3.out HFr.out (by omega)
                    go_wp2_with fail
                    refine C.mono ?_
                    rintro e Y3 ⟨v, rfl, hown, hbY⟩
                    obtain ⟨V3, z3, ev, -⟩ := own_any hown
                    subst ev
                    have HG3 : Hid (BagS Y3 n n f3 [(.slice V0 M'.mem.length z0, M'.mem.length), (.slice V1 M'.mem.length z1, M'.mem.length)] [(.slice V2 M'.ports.length z2, M'.ports.length)]) := HS3.out.keep hbY
                    have hof := HS3.out.off10 hown
                    have HPY : Hid (PAt Y3 W4.heap.size P s' M') := HP3.out.keep hbY
                    have HBY : Hid (Below w.heap.size w Y3) := lb_trans HX3.out hbY
                    have CA := addports_any n n f3 (([(.slice V2 M'.ports.length z2, M'.ports.length)] : List (Value × Nat)).map Prod.fst) V3 M'.ports.length z3 Y3 (Nat.le_refl _) HG3.out.bag (by simpa using HG3.out.h10) (by simp)
                    have hrow := ownsRow_mono hown (show n ≤ X3.heap.size from HN3.out)
                    clear C hown
                    go_wp2_with fail
                    refine CA.mono ?_
                    intro e X4 hadd
                    obtain ⟨rfl, f4, hS, hbX⟩ := HG3.out.ports hrow (by have := HML.out; omega) (by simp) hof hadd
                    have HS4 : Hid (BagS X4 n n f4 [(.slice V0 M'.mem.length z0, M'.mem.length), (.slice V1 M'.mem.length z1, M'.mem.length)] [(.slice V2 M'.ports.length z2, M'.ports.length), (.slice V3 M'.ports.length z3, M'.ports.length)]) := hS
                    have HP4 : Hid (PAt X4 W4.heap.size P s' M') := HPY.out.stay fun b hf => hbX.block b (HFt.out b hf)
                    have HX4 : Hid (Below w.heap.size w X4) := HBY.out.trans (hbX.mono HWn.out)
                    have HN4 : Hid (n ≤ X4.heap.size) := Nat.le_trans HN3.out (Nat.le_trans hbY.size hbX.size)
                    clear CA hadd hS hbX hbY hrow hof HPY HBY HG3 HS3 HP3 HX3
                    have CR := register_no HP4.out HFr.out 16 (.inr (by omega))
                    go_wp2_with fail
                    refine CR.mono ?_
                    rintro e Y4 ⟨rfl, hbY⟩
                    have HS5 : Hid (BagS Y4 n n f4 [(.slice V0 M'.mem.length z0, M'.mem.length), (.slice V1 M'.mem.length z1, M'.mem.length)] [(.slice V2 M'.ports.length z2, M'.ports.length), (.slice V3 M'.ports.length z3, M'.ports.length)]) := HS4.out.keep hbY
                    have HX5 : Hid (Below w.heap.size w Y4) := lb_trans HX4.out hbY
                    have CA := HS5.out.apart
                    clear CR hbY HS4 HX4
                    go_wp2_with fail
                    refine CA.mono ?_
                    rintro e Y5 ⟨rfl, hF⟩
                    have HX6 : Hid (Below w.heap.size w Y5) := HS5.out.below hF HX5.out HWn.out
                    clear CA hF HS5 HX5
                    go_wp2_with (go_at_call 5; refine (works_any _).mono ?_; rintro e Y6 ⟨rfl, hbY⟩)
                    go_ret
                    exact ⟨rfl, lb_trans HX6.out hbY⟩
                · have hkN' : decide ((k : Int) < N) = false := decide_eq_false hkN
                  generalize runM k M0 = m at *
                  have HFr : Hid (Fine (runM N.toNat m)) := fine_run HFk.out _
                  obtain ⟨-, hr2, -⟩ := run_steps m N.toNat
                  have hr3 : (runM N.toNat m).steps ≤ 4000 := by omega
                  have C1 := run_any HD.out.p HFk.out N (by omega)
                  have C2 := fun (U : World) (tt : QLoc) (hq : QAt U W8.heap.size Q tt m) => qrun_any hq HFk.out N (by omega)
                  unfold RanP at C1
                  unfold RanQ at C2
                  generalize ((runM N.toNat m).steps : Int) - (m.steps : Int) = D at *
                  generalize runM N.toNat m = M' at *
                  have HMS : Hid _ := hr3
                  go_wp2_with fail
                  refine C1.mono ?_
                  rintro e U1 ⟨rfl, hn1⟩
                  have HU1 : Hid (Below w.heap.size w U1) := nowp_below hn1 HD.out.p HB.out HW4.out
                  obtain ⟨s', hh⟩ := HD.out.left hn1
                  have HH : Hid (Half U1 W4.heap.size P s' W8.heap.size Q t m M') := hh
                  clear hh hn1 C1 HD HB
                  have C2 := C2 U1 t HH.out.q
                  go_wp2_with fail
                  refine C2.mono ?_
                  rintro e U2 ⟨rfl, hn2⟩
                  have HU2 : Hid (Below w.heap.size w U2) := nowq_below hn2 HH.out.q HU1.out HQ8.out
                  obtain ⟨t', hh⟩ := HH.out.right hn2
                  have HD2 : Hid (Duo U2 W4.heap.size P s' W8.heap.size Q t' M') := hh
                  clear hh hn2 C2 HH HU1
                  have C3 := alike_any HD2.out.p HD2.out.q HFr.out (by omega)
                  have HML : Hid (M'.mem.length ≤ 4096 ∧ M'.ports.length ≤ 4000) := ⟨HFr.out.mlen, by have := HFr.out.ports; omega⟩
                  generalize hst : M'.status = S at *
                  clear hst
                  go_upto_region 31 with (go_at_call 13; refine C3.mono ?_; rintro e U3 ⟨rfl, hb3⟩; have HP3 : Hid (PAt U3 W4.heap.size P s' M') := HD2.out.p.keep hb3; have HU3 : Hid (Below w.heap.size w U3) := lb_trans HU2.out hb3; clear hb3)
                  clear C3 HD2 HU2
                  obtain ⟨X0, HX⟩ : ∃ X0, Hid (U3.alloc (.cells #[.slice none 0 0, .slice none 0 0, .slice none 0 0, .slice none 0 0, .slice none 0 0, .slice none 0 0, .slice none 0 0, .slice none 0 0, .slice none 0 0, .slice none 0 0, .slice none 0 0, .slice none 0 0, .slice none 0 0, .slice none 0 0, .slice none 0 0, .slice none 0 0, .slice none 0 0] 63) = X0) := ⟨_, rfl⟩
                  obtain ⟨n, hn⟩ : ∃ n, n = U3.heap.size := ⟨_, rfl⟩
                  have HS0' : Hid (BagS X0 n n nilF [] []) := by unfold Hid; rw [← HX.out, hn]; exact BagS.new U3
                  have hbX0 : Below U3.heap.size U3 X0 := by rw [← HX.out]; exact lb_alloc (Below.refl _ _) _
                  have HP0 : Hid (PAt X0 W4.heap.size P s' M') := HP3.out.keep hbX0
                  have HX0 : Hid (Below w.heap.size w X0) := lb_trans HU3.out hbX0
                  have HN0 : Hid (n ≤ X0.heap.size) := by rw [Hid, hn]; exact hbX0.size
                  have HFt : Hid (∀ b, Foot s' P b → b < n) := fun b hf => by rw [hn]; exact (HP3.out.foot hf).2
                  have HWn : Hid (w.heap.size ≤ n) := by rw [Hid, hn]; exact HU3.out.size
                  obtain ⟨f0, hf0⟩ : ∃ f0, f0 = nilF := ⟨_, rfl⟩
                  rw [← hf0] at HS0'
                  have HSx : Hid (BagS X0 n n f0 [] []) := HS0'
                  clear HS0' hf0 hbX0 HP3 HU3
                  go_upto_region 32 with fail
                  rw [HX.out, ← hn]
                  clear HX hn
                  have C := memory_yes HP0.out HFr.out (by omega)
                  go_wp2_with fail
                  refine C.mono ?_
                  rintro e Y0 ⟨v, rfl, hown, hbY⟩
                  obtain ⟨V0, z0, ev, -⟩ := own_any hown
                  subst ev
                  have HG0 : Hid (BagS Y0 n n f0 [] []) := HSx.out.keep hbY
                  have hof := HSx.out.off6 hown
                  have HPY : Hid (PAt Y0 W4.heap.size P s' M') := HP0.out.keep hbY
                  have HBY : Hid (Below w.heap.size w Y0) := lb_trans HX0.out hbY
                  have CA := addrow_any n n f0 (([] : List (Value × Nat)).map Prod.fst) V0 M'.mem.length z0 Y0 (Nat.le_refl _) HG0.out.bag (by simpa using HG0.out.h6) (by simp)
                  have hrow := ownsRow_mono hown (show n ≤ X0.heap.size from HN0.out)
                  clear C hown
                  go_wp2_with fail
                  refine CA.mono ?_
                  intro e X1 hadd
                  obtain ⟨rfl, f1, hS, hbX⟩ := HG0.out.row hrow (by have := HML.out; omega) (by simp) hof hadd
                  have HS1 : Hid (BagS X1 n n f1 [(.slice V0 M'.mem.length z0, M'.mem.length)] []) := hS
                  have HP1 : Hid (PAt X1 W4.heap.size P s' M') := HPY.out.stay fun b hf => hbX.block b (HFt.out b hf)
                  have HX1 : Hid (Below w.heap.size w X1) := HBY.out.trans (hbX.mono HWn.out)
                  have HN1 : Hid (n ≤ X1.heap.size) := Nat.le_trans HN0.out (Nat.le_trans hbY.size hbX.size)
                  clear CA hadd hS hbX hbY hrow hof HPY HBY HG0 HSx HP0 HX0
                  have C := memory_yes HP1.out HFr.out (by omega)
                  go_wp2_with fail
                  refine C.mono ?_
                  rintro e Y1 ⟨v, rfl, hown, hbY⟩
                  obtain ⟨V1, z1, ev, -⟩ := own_any hown
                  subst ev
                  have HG1 : Hid (BagS Y1 n n f1 [(.slice V0 M'.mem.length z0, M'.mem.length)] []) := HS1.out.keep hbY
                  have hof := HS1.out.off6 hown
                  have HPY : Hid (PAt Y1 W4.heap.size P s' M') := HP1.out.keep hbY
                  have HBY : Hid (Below w.heap.size w Y1) := lb_trans HX1.out hbY
                  have CA := addrow_any n n f1 (([(.slice V0 M'.mem.length z0, M'.mem.length)] : List (Value × Nat)).map Prod.fst) V1 M'.mem.length z1 Y1 (Nat.le_refl _) HG1.out.bag (by simpa using HG1.out.h6) (by simp)
                  have hrow := ownsRow_mono hown (show n ≤ X1.heap.size from HN1.out)
                  clear C hown
                  go_wp2_with fail
                  refine CA.mono ?_
                  intro e X2 hadd
                  obtain ⟨rfl, f2, hS, hbX⟩ := HG1.out.row hrow (by have := HML.out; omega) (by simp) hof hadd
                  have HS2 : Hid (BagS X2 n n f2 [(.slice V0 M'.mem.length z0, M'.mem.length), (.slice V1 M'.mem.length z1, M'.mem.length)] []) := hS
                  have HP2 : Hid (PAt X2 W4.heap.size P s' M') := HPY.out.stay fun b hf => hbX.block b (HFt.out b hf)
                  have HX2 : Hid (Below w.heap.size w X2) := HBY.out.trans (hbX.mono HWn.out)
                  have HN2 : Hid (n ≤ X2.heap.size) := Nat.le_trans HN1.out (Nat.le_trans hbY.size hbX.size)
                  clear CA hadd hS hbX hbY hrow hof HPY HBY HG1 HS1 HP1 HX1
                  have C := ports_yes HP2.out HFr.out (by omega)
                  go_wp2_with fail
                  refine C.mono ?_
                  rintro e Y2 ⟨v, rfl, hown, hbY⟩
                  obtain ⟨V2, z2, ev, -⟩ := own_any hown
                  subst ev
                  have HG2 : Hid (BagS Y2 n n f2 [(.slice V0 M'.mem.length z0, M'.mem.length), (.slice V1 M'.mem.length z1, M'.mem.length)] []) := HS2.out.keep hbY
                  have hof := HS2.out.off10 hown
                  have HPY : Hid (PAt Y2 W4.heap.size P s' M') := HP2.out.keep hbY
                  have HBY : Hid (Below w.heap.size w Y2) := lb_trans HX2.out hbY
                  have CA := addports_any n n f2 (([] : List (Value × Nat)).map Prod.fst) V2 M'.ports.length z2 Y2 (Nat.le_refl _) HG2.out.bag (by simpa using HG2.out.h10) (by simp)
                  have hrow := ownsRow_mono hown (show n ≤ X2.heap.size from HN2.out)
                  clear C hown
                  go_wp2_with fail
                  refine CA.mono ?_
                  intro e X3 hadd
                  obtain ⟨rfl, f3, hS, hbX⟩ := HG2.out.ports hrow (by have := HML.out; omega) (by simp) hof hadd
                  have HS3 : Hid (BagS X3 n n f3 [(.slice V0 M'.mem.length z0, M'.mem.length), (.slice V1 M'.mem.length z1, M'.mem.length)] [(.slice V2 M'.ports.length z2, M'.ports.length)]) := hS
                  have HP3 : Hid (PAt X3 W4.heap.size P s' M') := HPY.out.stay fun b hf => hbX.block b (HFt.out b hf)
                  have HX3 : Hid (Below w.heap.size w X3) := HBY.out.trans (hbX.mono HWn.out)
                  have HN3 : Hid (n ≤ X3.heap.size) := Nat.le_trans HN2.out (Nat.le_trans hbY.size hbX.size)
                  clear CA hadd hS hbX hbY hrow hof HPY HBY HG2 HS2 HP2 HX2
                  have C := ports_yes HP3.out HFr.out (by omega)
                  go_wp2_with fail
                  refine C.mono ?_
                  rintro e Y3 ⟨v, rfl, hown, hbY⟩
                  obtain ⟨V3, z3, ev, -⟩ := own_any hown
                  subst ev
                  have HG3 : Hid (BagS Y3 n n f3 [(.slice V0 M'.mem.length z0, M'.mem.length), (.slice V1 M'.mem.length z1, M'.mem.length)] [(.slice V2 M'.ports.length z2, M'.ports.length)]) := HS3.out.keep hbY
                  have hof := HS3.out.off10 hown
                  have HPY : Hid (PAt Y3 W4.heap.size P s' M') := HP3.out.keep hbY
                  have HBY : Hid (Below w.heap.size w Y3) := lb_trans HX3.out hbY
                  have CA := addports_any n n f3 (([(.slice V2 M'.ports.length z2, M'.ports.length)] : List (Value × Nat)).map Prod.fst) V3 M'.ports.length z3 Y3 (Nat.le_refl _) HG3.out.bag (by simpa using HG3.out.h10) (by simp)
                  have hrow := ownsRow_mono hown (show n ≤ X3.heap.size from HN3.out)
                  clear C hown
                  go_wp2_with fail
                  refine CA.mono ?_
                  intro e X4 hadd
                  obtain ⟨rfl, f4, hS, hbX⟩ := HG3.out.ports hrow (by have := HML.out; omega) (by simp) hof hadd
                  have HS4 : Hid (BagS X4 n n f4 [(.slice V0 M'.mem.length z0, M'.mem.length), (.slice V1 M'.mem.length z1, M'.mem.length)] [(.slice V2 M'.ports.length z2, M'.ports.length), (.slice V3 M'.ports.length z3, M'.ports.length)]) := hS
                  have HP4 : Hid (PAt X4 W4.heap.size P s' M') := HPY.out.stay fun b hf => hbX.block b (HFt.out b hf)
                  have HX4 : Hid (Below w.heap.size w X4) := HBY.out.trans (hbX.mono HWn.out)
                  have HN4 : Hid (n ≤ X4.heap.size) := Nat.le_trans HN3.out (Nat.le_trans hbY.size hbX.size)
                  clear CA hadd hS hbX hbY hrow hof HPY HBY HG3 HS3 HP3 HX3
                  have CR := register_no HP4.out HFr.out 16 (.inr (by omega))
                  go_wp2_with fail
                  refine CR.mono ?_
                  rintro e Y4 ⟨rfl, hbY⟩
                  have HS5 : Hid (BagS Y4 n n f4 [(.slice V0 M'.mem.length z0, M'.mem.length), (.slice V1 M'.mem.length z1, M'.mem.length)] [(.slice V2 M'.ports.length z2, M'.ports.length), (.slice V3 M'.ports.length z3, M'.ports.length)]) := HS4.out.keep hbY
                  have HX5 : Hid (Below w.heap.size w Y4) := lb_trans HX4.out hbY
                  have CA := HS5.out.apart
                  clear CR hbY HS4 HX4
                  go_wp2_with fail
                  refine CA.mono ?_
                  rintro e Y5 ⟨rfl, hF⟩
                  have HX6 : Hid (Below w.heap.size w Y5) := HS5.out.below hF HX5.out HWn.out
                  clear CA hF HS5 HX5
                  go_wp2_with (go_at_call 5; refine (works_any _).mono ?_; rintro e Y6 ⟨rfl, hbY⟩)
                  go_ret
                  exact ⟨rfl, lb_trans HX6.out hbY⟩
  · have hnE : newE text tape mem ent = (checkI text mem.length ent).1 := by unfold newE; rw [if_neg hE]
    have C5 : Calls Tryz.prog 8 #[.agg #[.slice B1 text.length k1, .int .i64 ent, .slice B2 mem.length k2], .slice B3 tape.length k3] W4 fun e w' => e = .returned (.tuple #[.pointer none, .int .i64 (checkI text mem.length ent).1]) ∧ Below W4.heap.size W4 w' := C5.mono fun e w' k => by
      rcases k.2 with ⟨_, k2⟩ | ⟨k2, _⟩
      · exact ⟨by rw [k2, hnE], k.1⟩
      · rw [hnE] at k2; exact absurd k2 hE
    have hne : ((checkI text mem.length ent).1 == 0) = false := by simpa using hE
    have hne2 : ((checkI text mem.length ent).1 != 0) = true := by simpa using hE
    clear hE hnE hR hT hM hX H4 HR3
    generalize (checkI text mem.length ent).1 = E at *
    generalize (checkI text mem.length ent).2 = E2 at *
    go_wp2_with fail
    refine C5.mono ?_
    rintro e W5 ⟨rfl, hb5⟩
    have a0 := lkeep hb5 e0
    have a1 := lkeep hb5 e1
    have a2 := lkeep hb5 e2
    clear e0 e1 e2 f0 f1 f2 C5
    go_wp2_with (first
      | (go_at_call 9; refine (C6 _ hb5).mono ?_; rintro e W6 ⟨rfl, hb6⟩)
      | (go_at_call 5; refine (works_any _).mono ?_; rintro e W7 ⟨rfl, hb7⟩))
    go_ret
    exact ⟨rfl, lb_trans HB4.out (lb_trans hb5 (lb_trans hb6 hb7))⟩

end Go.Proofs.YtdlcejpfjlpclaaGreatDoor
