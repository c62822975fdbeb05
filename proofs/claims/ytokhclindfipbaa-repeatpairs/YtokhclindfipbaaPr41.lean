/-
  Blocks of package block, by what it answers; each word is of 32 bits. The program's Least keeps its contract.
-/
import Derived.Test.YtokhclindfipbaaProg
import Derived.WalkKit
import Derived.WalkSpells
import Derived.WalkLawsBesides
import Derived.RowKit3
import Derived.Below
import Derived.Deep.QuietTactic
import Derived.BigQuiet
import Derived.WalkSmall
import Derived.Laws.Rows
import Derived.Test.YtokhclindfipbaaPr38
import Derived.Test.YtokhclindfipbaaPr40
import Derived.Lib.MinMax
import Derived.OwnWalk
import Derived.Deep.Cut
import Derived.Deep.RegionHeld3
import Derived.Test.YtokhclindfipbaaPr16
namespace Go.Proofs.Ytokhclindfipbaa
open Go.RowKit

set_option maxRecDepth 100000 in
set_option maxHeartbeats 2000000 in
theorem blocks_any (A1 A2 : Option Addr) (c1 ml c2 : Nat) (ent : Int) (text : List Int) (w : World) (hT : IntsAt w A1 .u32 text) (hR : ∀ i, i < text.length → 0 ≤ nth text i ∧ nth text i < 4294967296) (hl : text.length ≤ 1048576) (hm : ml ≤ 1048576) :
    Calls Try.prog 9 #[.agg #[.slice A1 text.length c1, .int .i64 ent, .slice A2 ml c2]] w (BlkP (checkI text ml ent).1 (outB text ml ent) w) := by
  obtain ⟨W, HW⟩ : ∃ W, Hid (w.alloc (.cells #[.slice A1 text.length c1, .int .i64 ent, .slice A2 ml c2] 25) = W) := ⟨_, rfl⟩
  have HB : Hid (Below w.heap.size w W) := by unfold Hid; rw [← HW.out]; exact lb_alloc (Below.refl _ _) _
  have i0 : W.cell? ⟨w.heap.size, 0, none⟩ = some (.slice A1 text.length c1) := by rw [← HW.out]; simp [go_sem]
  have i1 : W.cell? ⟨w.heap.size, 1, none⟩ = some (.int .i64 ent) := by rw [← HW.out]; simp [go_sem]
  have i2 : W.cell? ⟨w.heap.size, 2, none⟩ = some (.slice A2 ml c2) := by rw [← HW.out]; simp [go_sem]
  have C := gather_beg A1 A2 c1 ml c2 ent text W (hT.keep HB.out) hR hl hm
  clear hT hR
  by_cases hE : (checkI text ml ent).1 = 0
  · have HX : Hid (outB text ml ent = zipN (plcT (begF text ent) text.length) (text.length : Int)) := if_pos hE
    have hp := plcT_len (begF text ent) text.length
    rw [outL_ok hE, hE] at C
    have HE : Hid ((checkI text ml ent).1 = 0) := hE
    clear hE
    generalize plcT (begF text ent) text.length = ps at *
    have hmk := make_blk ps (text.length : Int) (by omega)
    go_enter Try.func9, Try.ntmps9
    go_upto_region 1 with fail
    rw [HW.out]
    clear HW
    go_wp2_with fail
    refine C.mono ?_
    rintro e w1 ⟨A, c, rfl, hown, hb1⟩
    have HB1 : Hid (Below w.heap.size w w1) := lb_trans HB.out hb1
    have j0 := lkeep hb1 i0
    have HI : Hid (IntsAt w1 A .i64 ps) := row_ints hown
    clear i0 i1 i2 hb1 hown C
    have j0' : (w1.alloc (.cells (wcur zCell (bCell ps (text.length : Int)) (ps.length * 2) (ps.length * 2)) 43)).cell? ⟨w.heap.size, 0, none⟩ = some (.slice A1 text.length c1) := lkeep (lb_alloc (Below.refl _ _) _) j0
    clear j0
    go_wp2
    go_loopw [7, 8] (fun en i wr => ∃ j : Nat, (i = .int .i64 (-1) ∧ j = 0 ∨ ∃ m : Nat, j = m + 1 ∧ i = .int .i64 (m : Int)) ∧ en = .int .i64 (endB ps (text.length : Int) j) ∧ j ≤ ps.length ∧ wr = w1.alloc (.cells (wcur zCell (bCell ps (text.length : Int)) (ps.length * 2) (j * 2)) 43)) (fun _ i _ => (intOf i + 1).toNat)
    case atStart =>
      refine ⟨ps.length, ?_, ?_, Nat.le_refl _, rfl⟩
      · cases hps : ps.length with
        | zero => exact .inl ⟨by simp, rfl⟩
        | succ m => exact .inr ⟨m, rfl, by first | rfl | (simp; done) | (simp; omega)⟩
      · unfold endB; rw [if_neg (Nat.lt_irrefl _)]
    case round =>
      clear hmk j0'
      obtain ⟨j, hj, rfl, hjl, rfl⟩ := hrel
      rcases hj with ⟨rfl, rfl⟩ | ⟨m, rfl, rfl⟩
      · go_wp2
        go_ret2
        refine ⟨some ⟨w1.heap.size, 0, none⟩, ps.length, ?_, ?_, lb_alloc HB1.out _⟩
        · rw [HX.out, HE.out, zipN_len]; rfl
        · rw [HX.out]
          exact ownsRow_mono (own_blk ps (text.length : Int) w1 (by omega)) HB1.out.size
      · obtain ⟨a, rfl, q⟩ := HI.out m (by omega)
        have HS : Hid _ := blk_step ps (text.length : Int) m (by omega)
        have hsz := wcur_size zCell (bCell ps (text.length : Int)) (ps.length * 2) ((m + 1) * 2)
        have hg0 : (wcur zCell (bCell ps (text.length : Int)) (ps.length * 2) ((m + 1) * 2))[m * 2]? = some (zCell (m * 2)) := by rw [wcur_get _ _ _ _ _ (by omega), if_pos (by omega)]
        have hg1 : (wcur zCell (bCell ps (text.length : Int)) (ps.length * 2) ((m + 1) * 2))[m * 2 + 1]? = some (zCell (m * 2 + 1)) := by rw [wcur_get _ _ _ _ _ (by omega), if_pos (by omega)]
        have q1 : (w1.alloc (.cells (wcur zCell (bCell ps (text.length : Int)) (ps.length * 2) ((m + 1) * 2)) 43)).cell? (a.add m) = some (.int .i64 (nth ps m)) := lkeep (lb_alloc (Below.refl _ _) _) q
        have q2 : ∀ x y : Value, (w1.alloc (.cells (((wcur zCell (bCell ps (text.length : Int)) (ps.length * 2) ((m + 1) * 2)).setIfInBounds (m * 2) x).setIfInBounds (m * 2 + 1) y) 43)).cell? (a.add m) = some (.int .i64 (nth ps m)) := fun x y => lkeep (lb_alloc (Below.refl _ _) _) q
        have HV : Hid (nth ps m = endB ps (text.length : Int) m) := by unfold Hid endB; rw [if_pos (by omega)]
        clear q
        have hm0 : (m : Int) < (ps.length : Int) := by omega
        go_wp2
        go_roundw
        case rel =>
          refine ⟨m, ?_, by first | (rw [← HV.out]; done) | (rw [← HV.out]; rfl), by omega, by rw [← HS.out]⟩
          cases m with
          | zero => exact .inl ⟨by simp, rfl⟩
          | succ m => exact .inr ⟨m, rfl, by first | rfl | (simp; done) | (simp; omega)⟩
        case measure => first | (simp [intOf]; done) | (simp [intOf]; omega)
  · have HX : Hid (outB text ml ent = []) := if_neg hE
    rw [outL_no hE] at C
    have hne : ((checkI text ml ent).1 == 0) = false := by simpa using hE
    have hne2 : ((checkI text ml ent).1 != 0) = true := by simpa using hE
    clear hE
    generalize (checkI text ml ent).1 = E at *
    go_enter Try.func9, Try.ntmps9
    go_upto_region 1 with fail
    rw [HW.out]
    clear HW
    go_wp2_with fail
    refine C.mono ?_
    rintro e w1 ⟨A, c, rfl, hown, hb1⟩
    go_wp2
    go_ret2
    rw [HX.out]
    exact ⟨none, 0, rfl, World.ownsRow_nil _ _ _ _, lb_trans HB.out hb1⟩


end Go.Proofs.Ytokhclindfipbaa

namespace Go.Proofs.Ytokhclindfipbaa
open Go.RowKit

theorem isplace_any (A : Option Addr) (n c : Nat) (i : Int) (w : World) : Calls Try.prog 59 #[.slice A n c, .int .i64 i] w fun e w' => e = .returned (.bool (decide (0 ≤ i ∧ i < (n : Int)))) ∧ w' = w := by
  by_cases h1 : 0 ≤ i
  · by_cases h2 : i < (n : Int)
    · rw [show decide (0 ≤ i ∧ i < (n : Int)) = true from decide_eq_true ⟨h1, h2⟩]
      go_enter Try.func59, Try.ntmps59
      go_wp2
      go_ret
      exact ⟨rfl, rfl⟩
    · rw [show decide (0 ≤ i ∧ i < (n : Int)) = false from decide_eq_false fun h => h2 h.2]
      go_enter Try.func59, Try.ntmps59
      go_wp2
      go_ret
      exact ⟨rfl, rfl⟩
  · rw [show decide (0 ≤ i ∧ i < (n : Int)) = false from decide_eq_false fun h => h1 h.1]
    go_enter Try.func59, Try.ntmps59
    go_wp2
    go_ret
    exact ⟨rfl, rfl⟩
theorem add_addM (X : Addr) (i j : Nat) : (X.add i).add j = X.add (i + j) := by
  unfold Addr.add
  by_cases h : i = 0
  · subst h; simp
  · by_cases h2 : j = 0
    · subst h2; simp [h]
    · simp [h, h2, Nat.add_assoc]
theorem cut_runM (X : Addr) (n c a b : Nat) (h1 : a < b) (h2 : b ≤ n) (h3 : n ≤ c) (w : World) : (Instr.slice 34 (.slice (some X) n c) (some (.int .i64 (a : Int))) (some (.int .i64 (b : Int))) none).run Try.prog w = .ok (.slice (some (X.add a)) (b - a) (c - a)) w := by
  rw [run_slice_lh (P := Try.prog) w 34 (some X) n c (by kernel_rfl) .i64 .i64 (a : Int) (b : Int) (by omega) (by omega) (by omega)]
  rw [show (sizeOf (Try.prog.elem 34)).run Try.prog w = .ok 1 w by kernel_rfl]
  show Result.ok (sliced (some X) (a : Int).toNat (b : Int).toNat c 1) w = _
  unfold sliced
  simp
  omega

end Go.Proofs.Ytokhclindfipbaa
