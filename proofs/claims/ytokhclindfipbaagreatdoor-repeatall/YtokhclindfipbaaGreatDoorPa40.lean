/-
  Blocks of package block, by what it answers; each word is of 32 bits. One times a number. A number, so many times. Where blocks end, of each place.
-/
import Derived.Test.YtokhclindfipbaaGreatDoorProg
import Derived.WalkKit
import Derived.WalkSpells
import Derived.WalkLawsBesides
import Derived.RowKit3
import Derived.Below
import Derived.Deep.QuietTactic
import Derived.BigQuiet
import Derived.WalkSmall
import Derived.Laws.Rows
import Derived.Test.YtokhclindfipbaaGreatDoorPa38
import Derived.Test.YtokhclindfipbaaGreatDoorPa39
import Derived.Test.YtokhclindfipbaaGreatDoorPa23
import Derived.Test.YtokhclindfipbaaGreatDoorPa06
import Derived.OwnWalk
import Derived.Deep.RegionHeld3
import Derived.Test.YtokhclindfipbaaGreatDoorPa17
import Derived.Test.YtokhclindfipbaaGreatDoorPa05
import Derived.Test.YtokhclindfipbaaGreatDoorPa18
import Derived.Test.YtokhclindfipbaaGreatDoorPa35
import Derived.Test.YtokhclindfipbaaGreatDoorPa19
namespace Go.Proofs.YtokhclindfipbaaGreatDoor
open Go.RowKit

set_option maxRecDepth 100000 in
set_option maxHeartbeats 2000000 in
theorem blocks_any (A1 A2 : Option Addr) (c1 ml c2 : Nat) (ent : Int) (text : List Int) (w : World) (hT : IntsAt w A1 .u32 text) (hR : ∀ i, i < text.length → 0 ≤ nth text i ∧ nth text i < 4294967296) (hl : text.length ≤ 1048576) (hm : ml ≤ 1048576) :
    Calls Tryz.prog 61 #[.agg #[.slice A1 text.length c1, .int .i64 ent, .slice A2 ml c2]] w (BlkP (checkI text ml ent).1 (outB text ml ent) w) := by
  obtain ⟨W, HW⟩ : ∃ W, Hid (w.alloc (.cells #[.slice A1 text.length c1, .int .i64 ent, .slice A2 ml c2] 25) = W) := ⟨_, rfl⟩
  have HB : Hid (Below w.heap.size w W) := by unfold Hid; rw [← HW.out]; exact lb_alloc (Below.refl _ _) _
  have i0 : W.cell? ⟨w.heap.size, 0, none⟩ = some (.slice A1 text.length c1) := by rw [← HW.out]; simp [go_sem]
  have i1 : W.cell? ⟨w.heap.size, 1, none⟩ = some (.int .i64 ent) := by rw [← HW.out]; simp [go_sem]
  have i2 : W.cell? ⟨w.heap.size, 2, none⟩ = some (.slice A2 ml c2) := by rw [← HW.out]; simp [go_sem]
  have C := gather_beg A1 A2 c1 ml c2 ent text W (hT.keep HB.out) hR hl hm
  clear hT hR
  by_cases hE : (checkI text ml ent).1 = 0
  · have HX : Hid (outB text ml ent = zipN (plcT (begF text ent) text.length) (text.length : Int)) := if_pos hE
    have hp := plcT_len (begF text ent) text.length
    rw [outL_ok hE, hE] at C
    have HE : Hid ((checkI text ml ent).1 = 0) := hE
    clear hE
    generalize plcT (begF text ent) text.length = ps at *
    have hmk := make_blk ps (text.length : Int) (by omega)
    go_enter Tryz.func61, Tryz.ntmps61
    go_upto_region 1 with fail
    rw [HW.out]
    clear HW
    go_wp2_with fail
    refine C.mono ?_
    rintro e w1 ⟨A, c, rfl, hown, hb1⟩
    have HB1 : Hid (Below w.heap.size w w1) := lb_trans HB.out hb1
    have j0 := lkeep hb1 i0
    have HI : Hid (IntsAt w1 A .i64 ps) := row_ints hown
    clear i0 i1 i2 hb1 hown C
    have j0' : (w1.alloc (.cells (wcur zCell (bCell ps (text.length : Int)) (ps.length * 2) (ps.length * 2)) 117)).cell? ⟨w.heap.size, 0, none⟩ = some (.slice A1 text.length c1) := lkeep (lb_alloc (Below.refl _ _) _) j0
    clear j0
    go_wp2
    go_loopw [7, 8] (fun en i wr => ∃ j : Nat, (i = .int .i64 (-1) ∧ j = 0 ∨ ∃ m : Nat, j = m + 1 ∧ i = .int .i64 (m : Int)) ∧ en = .int .i64 (endB ps (text.length : Int) j) ∧ j ≤ ps.length ∧ wr = w1.alloc (.cells (wcur zCell (bCell ps (text.length : Int)) (ps.length * 2) (j * 2)) 117)) (fun _ i _ => (intOf i + 1).toNat)
    case atStart =>
      refine ⟨ps.length, ?_, ?_, Nat.le_refl _, rfl⟩
      · cases hps : ps.length with
        | zero => exact .inl ⟨by simp, rfl⟩
        | succ m => exact .inr ⟨m, rfl, by first | rfl | (simp; done) | (simp; omega)⟩
      · unfold endB; rw [if_neg (Nat.lt_irrefl _)]
    case round =>
      clear hmk j0'
      obtain ⟨j, hj, rfl, hjl, rfl⟩ := hrel
      rcases hj with ⟨rfl, rfl⟩ | ⟨m, rfl, rfl⟩
      · go_wp2
        go_ret2
        refine ⟨some ⟨w1.heap.size, 0, none⟩, ps.length, ?_, ?_, lb_alloc HB1.out _⟩
        · rw [HX.out, HE.out, zipN_len]; rfl
        · rw [HX.out]
          exact ownsRow_mono (own_blk ps (text.length : Int) w1 (by omega)) HB1.out.size
      · obtain ⟨a, rfl, q⟩ := HI.out m (by omega)
        have HS : Hid _ := blk_step ps (text.length : Int) m (by omega)
        have hsz := wcur_size zCell (bCell ps (text.length : Int)) (ps.length * 2) ((m + 1) * 2)
        have hg0 : (wcur zCell (bCell ps (text.length : Int)) (ps.length * 2) ((m + 1) * 2))[m * 2]? = some (zCell (m * 2)) := by rw [wcur_get _ _ _ _ _ (by omega), if_pos (by omega)]
        have hg1 : (wcur zCell (bCell ps (text.length : Int)) (ps.length * 2) ((m + 1) * 2))[m * 2 + 1]? = some (zCell (m * 2 + 1)) := by rw [wcur_get _ _ _ _ _ (by omega), if_pos (by omega)]
        have q1 : (w1.alloc (.cells (wcur zCell (bCell ps (text.length : Int)) (ps.length * 2) ((m + 1) * 2)) 117)).cell? (a.add m) = some (.int .i64 (nth ps m)) := lkeep (lb_alloc (Below.refl _ _) _) q
        have q2 : ∀ x y : Value, (w1.alloc (.cells (((wcur zCell (bCell ps (text.length : Int)) (ps.length * 2) ((m + 1) * 2)).setIfInBounds (m * 2) x).setIfInBounds (m * 2 + 1) y) 117)).cell? (a.add m) = some (.int .i64 (nth ps m)) := fun x y => lkeep (lb_alloc (Below.refl _ _) _) q
        have HV : Hid (nth ps m = endB ps (text.length : Int) m) := by unfold Hid endB; rw [if_pos (by omega)]
        clear q
        have hm0 : (m : Int) < (ps.length : Int) := by omega
        go_wp2
        go_roundw
        case rel =>
          refine ⟨m, ?_, by first | (rw [← HV.out]; done) | (rw [← HV.out]; rfl), by omega, by rw [← HS.out]⟩
          cases m with
          | zero => exact .inl ⟨by simp, rfl⟩
          | succ m => exact .inr ⟨m, rfl, by first | rfl | (simp; done) | (simp; omega)⟩
        case measure => first | (simp [intOf]; done) | (simp [intOf]; omega)
  · have HX : Hid (outB text ml ent = []) := if_neg hE
    rw [outL_no hE] at C
    have hne : ((checkI text ml ent).1 == 0) = false := by simpa using hE
    have hne2 : ((checkI text ml ent).1 != 0) = true := by simpa using hE
    clear hE
    generalize (checkI text ml ent).1 = E at *
    go_enter Tryz.func61, Tryz.ntmps61
    go_upto_region 1 with fail
    rw [HW.out]
    clear HW
    go_wp2_with fail
    refine C.mono ?_
    rintro e w1 ⟨A, c, rfl, hown, hb1⟩
    go_wp2
    go_ret2
    rw [HX.out]
    exact ⟨none, 0, rfl, World.ownsRow_nil _ _ _ _, lb_trans HB.out hb1⟩



end Go.Proofs.YtokhclindfipbaaGreatDoor

namespace Go.Proofs.YtokhclindfipbaaGreatDoor
open Go.RowKit

theorem and32 (n : Nat) (hn : n ≤ 1048576) : bits .and .u64 (n : Int) 4294967295 = (n : Int) := by
  rw [u64_and (n : Int) 4294967295 (by omega) (by omega) (by omega) (by omega)]
  rw [Int.toNat_natCast, show (4294967295 : Int).toNat = 2 ^ 32 - 1 from rfl, Nat.and_two_pow_sub_one_eq_mod]
  omega
set_option maxRecDepth 100000 in
set_option maxHeartbeats 4000000 in
theorem mul64_any (n : Nat) (hn : n ≤ 1048576) (w : World) : Calls Tryz.prog 116 #[.int .u64 1, .int .u64 (n : Int)] w fun e w' => e = .returned (.tuple #[.int .u64 0, .int .u64 (n : Int)]) ∧ w' = w := by
  have h1 : bits .and .u64 1 4294967295 = 1 := by decide
  have h0 : bits .and .u64 0 4294967295 = 0 := by decide
  have h2 := and32 n hn
  have hq : (n : Int) / 4294967296 = 0 := by omega
  go_enter Tryz.func116, Tryz.ntmps116
  go_wp2
  go_ret2
  exact ⟨rfl, rfl⟩
set_option maxRecDepth 100000 in
theorem mul_any (n : Nat) (hn : n ≤ 1048576) (w : World) : Calls Tryz.prog 106 #[.int .u64 1, .int .u64 (n : Int)] w fun e w' => e = .returned (.tuple #[.int .u64 0, .int .u64 (n : Int)]) ∧ w' = w := by
  have C := mul64_any n hn w
  go_enter Tryz.func106, Tryz.ntmps106
  go_wp2_with (go_at_call 116; refine C.mono ?_; rintro e w1 ⟨rfl, rfl⟩)
  go_ret2
  exact ⟨rfl, rfl⟩


end Go.Proofs.YtokhclindfipbaaGreatDoor

namespace Go.Proofs.YtokhclindfipbaaGreatDoor
open Go.RowKit

/-- How far the copies have come. -/
def upF (v : Int) (k : Nat) (j : Nat) : Int := if j < k then v else 0
theorem copy_up {h n k : Nat} {v : Int} {w : World} (hh : RwN w h n (upF v k)) (hk : k ≤ n) :
    ∃ w', (∀ ty, (Builtin.copy_ #[36, 36] ty #[.slice (some ⟨h, k, none⟩) (n - k) (n - k), .slice (some ⟨h, 0, none⟩) k n]).run Tryz.prog w = .ok (.int .i64 ((min k (n - k) : Nat) : Int)) w') ∧ RwN w' h n (upF v (k + min k (n - k))) ∧ ButS (fun b => b = h) w w' := by
  have hl : (rowC (min k (n - k)) (fun _ => v)).length = min k (n - k) := rowC_len _ _
  have hrun := fun ty => run_copy_row (P := Tryz.prog) w 36 36 ty 3 h k (n - k) (n - k) ⟨h, 0, none⟩ k n _ 3 (rowC (min k (n - k)) (fun _ => v)) Tryz.underlying36 (by kernel_rfl) hh (by rw [hl]) (fun j u hu => by
    have hj : j < min k (n - k) := by
      have := (List.getElem?_eq_some_iff.1 hu).1
      rw [hl] at this
      exact this
    rw [rowC_get hj] at hu
    obtain rfl := Option.some.inj hu
    rw [add0, hh.cell (i := j) (by omega)]
    unfold upF
    rw [if_pos (by omega)]) (by rw [hl]; simp only [List.size_toArray, rowC_len]; exact (by omega : k + min k (n - k) ≤ n)) (fun u hu => by
    obtain ⟨j, _, rfl⟩ := List.mem_map.1 hu
    rfl)
  have e : (List.take k (rowC n (upF v k)).toArray.toList ++ rowC (min k (n - k)) (fun _ => v) ++ List.drop (k + (rowC (min k (n - k)) (fun _ => v)).length) (rowC n (upF v k)).toArray.toList) = rowC n (upF v (k + min k (n - k))) := by
    rw [hl]
    have hm : min k (n - k) ≤ n - k := Nat.min_le_right _ _
    generalize min k (n - k) = m at *
    apply List.ext_getElem?
    intro i
    rw [List.getElem?_append, List.getElem?_append]
    simp only [List.length_append, List.length_take, rowC_len]
    by_cases h1 : i < k
    · rw [if_pos (by omega), if_pos (by omega), List.getElem?_take_of_lt (by omega)]
      rw [rowC_get (by omega), rowC_get (by omega)]
      unfold upF
      rw [if_pos h1, if_pos (by omega)]
    · by_cases h2 : i < k + m
      · rw [if_pos (by omega), if_neg (by omega), rowC_get (by omega), rowC_get (by omega)]
        unfold upF
        rw [if_pos (by omega)]
      · rw [if_neg (by omega), List.getElem?_drop]
        rw [show k + m + (i - (min k n + m)) = i by omega]
        by_cases h3 : i < n
        · rw [rowC_get h3, rowC_get h3]
          unfold upF
          rw [if_neg (by omega), if_neg (by omega)]
        · rw [List.getElem?_eq_none (by rw [rowC_len]; omega), List.getElem?_eq_none (by rw [rowC_len]; omega)]
  rw [e, hl] at hrun
  exact ⟨_, hrun, setRow_heap w h _ _ 3 _ hh, rfl, rfl, rfl, by simp [World.setRow], fun b _ hb => setRow_other w h b _ hb⟩
theorem below_at {w W W' : World} {g : Nat} (hb : Below w.heap.size w W) (h : ButS (fun b => b = g) W W') (hg : w.heap.size ≤ g) : Below w.heap.size w W' :=
  ⟨h.1.trans hb.os, h.2.1.trans hb.tape, h.2.2.1.trans hb.output, Nat.le_trans hb.size h.2.2.2.1, fun k hk => (h.2.2.2.2 k (Nat.lt_of_lt_of_le hk hb.size) (fun (e : k = g) => by omega)).trans (hb.block k hk)⟩
set_option maxRecDepth 100000 in
set_option maxHeartbeats 8000000 in
theorem repeat_any (b : Nat) (v : Int) (n : Nat) (h1 : 1 ≤ n) (hn : n ≤ 1048576) (w : World) (hX : w.cell? ⟨b, 0, none⟩ = some (.int .i64 v)) :
    Calls Tryz.prog 88 #[.slice (some ⟨b, 0, none⟩) 1 1, .int .i64 (n : Int)] w fun e w' => ∃ g, e = .returned (.slice (some ⟨g, 0, none⟩) n n) ∧ w.heap.size ≤ g ∧ RwN w' g n (fun _ => v) ∧ Below w.heap.size w w' := by
  have C := mul_any n hn w
  have hmk := made_rowP n hn w
  have hb0 : Below w.heap.size w (w.alloc (.cells (rowC n (fun _ => 0)).toArray 3)) := lb_alloc (Below.refl _ _) _
  have hr0 : RwN (w.alloc (.cells (rowC n (fun _ => 0)).toArray 3)) w.heap.size n (fun _ => 0) := heap_alloc_new _ _
  obtain ⟨w2, cp, h2, hb2⟩ := copy_runN w.heap.size n n b 0 1 1 (fun _ => 0) (fun _ => v) (w.alloc (.cells (rowC n (fun _ => 0)).toArray 3)) hr0 (fun j hj => by
    obtain rfl : j = 0 := by omega
    exact lkeep hb0 hX) h1
  have HR2 : Hid (RwN w2 w.heap.size n (upF v 1)) := h2
  have HB2 : Hid (Below w.heap.size w w2) := below_at hb0 hb2 (Nat.le_refl _)
  have b1 : (n : Int) ≤ 1048576 := by omega
  have b2 : ¬ (n : Int) < 0 := by omega
  have b3 : ¬ (9223372036854775807 : Int) < (n : Int) := by omega
  clear hb0 hr0 h2 hb2 hX
  go_enter Tryz.func88, Tryz.ntmps88
  go_wp2_with (go_at_call 106; refine C.mono ?_; rintro e w1 ⟨rfl, e1⟩; have e2 := e1.symm; clear e1; subst e2)
  clear cp hmk C b1 b2 b3
  go_loopw [8] (fun x wr => ∃ k : Nat, x = .int .i64 (k : Int) ∧ 1 ≤ k ∧ k ≤ n ∧ Hid (RwN wr w.heap.size n (upF v k)) ∧ Hid (Below w.heap.size w wr)) (fun x _ => n - (intOf x).toNat)
  case atStart => exact ⟨1, rfl, Nat.le_refl _, h1, HR2, HB2⟩
  case round =>
    clear HR2 HB2
    obtain ⟨k, rfl, hk1, hkn, HR, HB⟩ := hrel
    by_cases hlt : k < n
    · have hlt' : (k : Int) < (n : Int) := by omega
      have sl1 := rest_runS w.heap.size 0 n n k hlt (Nat.le_refl _)
      have sl2 := head_runS w.heap.size 0 n n k (by omega) (Nat.le_refl _)
      rw [Nat.zero_add] at sl1
      have hru := HR.out
      have hru2 : RwN wr.drew w.heap.size n (upF v k) := hru
      obtain ⟨w6, cp6, h6, hb6⟩ := copy_up hru2 hkn
      have HR6 : Hid (RwN w6 w.heap.size n (upF v (k + min k (n - k)))) := h6
      have HB6 : Hid (Below w.heap.size w w6) := below_at HB.out.drew hb6 (Nat.le_refl _)
      have hm1 : min k (n - k) ≤ n - k := Nat.min_le_right _ _
      have hm2 : 1 ≤ min k (n - k) := by omega
      clear h6 hb6 hru hru2
      generalize min k (n - k) = m at *
      have hw : IntKind.i64.wrap ((k : Int) + (m : Int)) = (k : Int) + (m : Int) := by simp [IntKind.wrap, IntKind.bits, IntKind.signed]; omega
      go_upto_region 9 with fail
      go_region_held3 (fun _ => True) (trivial) (fail)
      go_wp2
      go_roundw
      case rel => exact ⟨k + m, by rw [Int.natCast_add], by omega, by omega, HR6, HB6⟩
      case measure => simp [intOf]; omega
    · obtain rfl : k = n := by omega
      have hlt' : ¬ (k : Int) < (k : Int) := by omega
      go_wp2
      go_ret
      exact ⟨w.heap.size, rfl, Nat.le_refl _, HR.out.same fun j hj => if_pos hj, HB.out⟩


end Go.Proofs.YtokhclindfipbaaGreatDoor

namespace Go.Proofs.YtokhclindfipbaaGreatDoor
open Go.RowKit

/-- The ends of the first so many places. -/
def enP (f : Int → Bool) (n p : Nat) : List Int := (List.range p).map fun k => ((enK f n k : Nat) : Int)
theorem enP_len (f : Int → Bool) (n p : Nat) : (enP f n p).length = p := by simp [enP]
theorem enP_all (f : Int → Bool) (nm : List Int) : enP f nm.length nm.length = enZ nm (enK f nm.length) := rfl
theorem enP_block {f : Int → Bool} {n j : Nat} (hj : j < (plcT f n).length) : iVals .i64 (enP f n (bdN f n j)) ++ rowC (bdN f n (j + 1) - bdN f n j) (fun _ => ((bdN f n (j + 1) : Nat) : Int)) = iVals .i64 (enP f n (bdN f n (j + 1))) := by
  have hr := bdN_rise hj
  obtain ⟨m, hm⟩ : ∃ m, m = bdN f n (j + 1) - bdN f n j := ⟨_, rfl⟩
  have e : enP f n (bdN f n (j + 1)) = enP f n (bdN f n j) ++ (List.range m).map fun _ => ((bdN f n (j + 1) : Nat) : Int) := by
    unfold enP
    rw [show List.range (bdN f n (j + 1)) = List.range (bdN f n j + m) by rw [hm, Nat.add_sub_cancel' (Nat.le_of_lt hr)], List.range_add, List.map_append, List.map_map]
    congr 1
    refine List.map_congr_left fun k hk => ?_
    have hk := List.mem_range.1 hk
    show ((enK f n (bdN f n j + k) : Nat) : Int) = _
    rw [enK_in hj (by omega) (by omega)]
  rw [← hm, e]
  unfold iVals rowC
  rw [List.map_append, List.map_map]
  rfl
theorem cut_max (g N c : Nat) (h : N ≤ c) (w : World) : (Instr.slice 36 (.slice (some ⟨g, 0, none⟩) N c) none (some (.int .i64 (N : Int))) (some (.int .i64 (N : Int)))).run Tryz.prog w = .ok (.slice (some ⟨g, 0, none⟩) N N) w := by
  rw [run_slice_hm (P := Tryz.prog) w 36 (some ⟨g, 0, none⟩) N c (by kernel_rfl) .i64 .i64 (N : Int) (N : Int) (by omega) (by omega) (by omega)]
  rw [show (sizeOf (Tryz.prog.elem 36)).run Tryz.prog w = .ok 1 w by kernel_rfl]
  show Result.ok (sliced (some ⟨g, 0, none⟩) 0 (N : Int).toNat (N : Int).toNat 1) w = _
  unfold sliced
  rw [show ((N : Int)).toNat = N by omega]
  simp [Addr.add]
theorem rowC_one {m : Nat} {v : Int} : ∀ u ∈ rowC m (fun _ => v), u.oneCell' = true := fun u hu => by
  obtain ⟨j, _, rfl⟩ := List.mem_map.1 hu
  rfl
theorem rowC_news {w : World} {g m : Nat} {v : Int} (h : RwN w g m (fun _ => v)) : ∀ j u, (rowC m (fun _ => v))[j]? = some u → w.cell? ((⟨g, 0, none⟩ : Addr).add j) = some u := fun j u hu => World.news_of_block h j u hu
def EndP (n : Nat) (L : List Int) (w : World) (e : Ending) (w' : World) : Prop := ∃ (E : Option Addr) (c : Nat), e = .returned (.slice E n c) ∧ IntsAt w' E .i64 L ∧ (∀ a, E = some a → w.heap.size ≤ a.block) ∧ Below w.heap.size w w'
set_option maxRecDepth 100000 in
set_option maxHeartbeats 8000000 in
theorem ends_any (A : Option Addr) (ca : Nat) (f : Int → Bool) (n : Nat) (w : World) (hA : RelsAt w A (blkN f n)) (h0 : f 0 = true) (hn0 : 0 < n) (hn : n ≤ 16384) :
    Calls Tryz.prog 64 #[.slice A (blkN f n).length ca] w (EndP n (enP f n n) w) := by
  have HA : Hid (RelsAt w A (blkN f n)) := hA
  have HZ : Hid (bdN f n 0 = 0) := bdN_zero h0
  have HN0 : Hid (0 < n) := hn0
  have hpl : (plcT f n).length ≤ n := plcT_len f n
  have HL : Hid ((blkN f n).length = (plcT f n).length) := blkN_len
  obtain ⟨iI, hi, hz0, hz1, hz2⟩ := infoI3
  obtain ⟨q, hq⟩ : ∃ q, q = (blkN f n).length := ⟨_, rfl⟩
  have HQ : Hid (q = (plcT f n).length) := hq.trans HL.out
  rw [← hq]
  have hq1 : q ≤ 16384 := by have := HQ.out; omega
  clear hA h0 hn0 hpl hq HL
  go_enter Tryz.func64, Tryz.ntmps64
  go_wp2
  go_loopw [3, 8] (fun v i wr => ∃ (j p c : Nat) (O : Option Addr), i = .int .i64 (j : Int) ∧ v = .slice O p c ∧ j ≤ q ∧ Hid (p = bdN f n j) ∧ p ≤ n ∧ Hid (wr.ownsRow w.heap.size 3 1 (.slice O p c) p (iVals .i64 (enP f n p))) ∧ Hid (Below w.heap.size w wr)) (fun _ i _ => q - (intOf i).toNat)
  case atStart => exact ⟨0, 0, 0, none, rfl, rfl, Nat.zero_le _, HZ.out.symm, Nat.zero_le _, World.ownsRow_nil _ _ _ _, Below.refl _ _⟩
  case round =>
    clear HZ
    obtain ⟨j, p, c, O, rfl, rfl, hj, HP, hpn, HRw, HBr⟩ := hrel
    by_cases hlt : j < q
    · have hjp : j < (plcT f n).length := by have := HQ.out; omega
      have hlt' : (j : Int) < (q : Int) := by omega
      have hj0 : (0 : Int) ≤ (j : Int) := by omega
      obtain ⟨a, ea, x0, x1⟩ := (HA.out.keep HBr.out) j (by rw [blkN_len]; exact hjp)
      subst ea
      rw [bd_from hjp, ← HP.out] at x0
      rw [bd_to hjp] at x1
      have hEB := enP_block (f := f) (n := n) hjp
      rw [← HP.out] at hEB
      have hri := bdN_rise hjp
      rw [← HP.out] at hri
      have hle := bdN_le f n (j + 1)
      obtain ⟨t, ht⟩ : ∃ t, t = bdN f n (j + 1) := ⟨_, rfl⟩
      rw [← ht] at x1 hEB hri hle
      have HT : Hid (t = bdN f n (j + 1)) := ht
      have HEB : Hid _ := hEB
      obtain ⟨m, hm⟩ : ∃ m, m = t - p := ⟨_, rfl⟩
      rw [← hm] at HEB
      have HM : Hid (p + m = t) := by unfold Hid; omega
      have hm1 : 1 ≤ m := by omega
      have hm2 : m ≤ 16384 := by omega
      have hpm : p + m ≤ 16384 := by omega
      have hsub : (t : Int) - (p : Int) = (m : Int) := by omega
      obtain ⟨Y, hY⟩ : ∃ Y, (wr.alloc (.cells #[.int .i64 (p : Int), .int .i64 (t : Int)] 117)).alloc (.cells #[.int .i64 (t : Int)] 3) = Y := ⟨_, rfl⟩
      have HBY : Hid (Below wr.heap.size wr Y) := by unfold Hid; rw [← hY]; exact lb_alloc (lb_alloc (Below.refl _ _) _) _
      have CR := repeat_any (wr.heap.size + 1) (t : Int) m hm1 (by omega) Y (by rw [← hY]; simp [go_sem])
      have hYs : wr.heap.size ≤ Y.heap.size := HBY.out.size
      have HRY : Hid (Y.ownsRow w.heap.size 3 1 (.slice O p c) p (iVals .i64 (enP f n p))) := row_keep HRw.out HBY.out
      have HY : Hid _ := hY
      have x1' : wr.cell? ⟨(a.add (j * 2)).block, (a.add (j * 2)).off + 1, none⟩ = some (.int .i64 (t : Int)) := x1
      clear hEB ht hm hri hle hjp hY x1
      go_upto_region 5 with fail
      go_wp2_with fail
      rw [HY.out]
      refine CR.mono ?_
      rintro e w5 ⟨g, rfl, hg, hr5, hb5⟩
      have HB5 : Hid (Below w.heap.size w w5) := lb_trans (lb_trans HBr.out HBY.out) hb5
      have HR5 : Hid (w5.ownsRow w.heap.size 3 1 (.slice O p c) p (iVals .i64 (enP f n p))) := row_keep HRY.out hb5
      have HC5 : Hid (RwN w5 g m (fun _ => (t : Int))) := hr5
      clear hr5 hb5 CR HRY HY HBY x0 x1' hg
      go_upto_region 6 with (at_builtin; go_loud (refine wpList_append_own _ rfl (.tmp 12) (.tmp 21) 36 rfl w.heap.size 3 iI (.int .i64 0) 1 8 Tryz.underlying36 hi hz0 hz1 hz2 rfl (by decide) (.slice O p c) p (iVals .i64 (enP f n p)) rfl HR5.out ⟨g, 0, none⟩ m m (rowC m (fun _ => (t : Int))) rfl (by rw [rowC_len, Nat.mul_one]) (rowC_news HC5.out) rowC_one (by unfold maxLen; omega) (by omega) HB5.out.size ?_; intro v3 w6 hown hgrow _; have HR6 : Hid (w6.ownsRow w.heap.size 3 1 v3 t (iVals .i64 (enP f n t))) := (by have h9 := hown; rw [HEB.out, HM.out] at h9; exact h9); have HB6 : Hid (Below w.heap.size w w6) := HB5.out.grown hgrow HB5.out.size (fun b hb => (HR5.out.lt b hb).1); clear hown hgrow))
      obtain ⟨A5, c5, e5⟩ := own_sl HR6.out
      subst e5
      go_wp2
      go_roundw
      case rel => exact ⟨j + 1, t, c5, A5, by go_num, rfl, by omega, HT, by have := bdN_le f n (j + 1); have := HT.out; omega, HR6, HB6⟩
      case measure => simp [intOf]; omega
    · obtain rfl : j = q := by omega
      have hlt' : ¬ (j : Int) < (j : Int) := by omega
      obtain rfl : p = n := by rw [HP.out, HQ.out, bdN_end]
      obtain ⟨g, cap, cur, ev, hbg, hg, hnc⟩ : ∃ (g cap : Nat) (cur : Array Value), O = some ⟨g, 0, none⟩ ∧ p ≤ c ∧ w.heap.size ≤ g ∧ cap = cap := by
        rcases HRw.out.2 with ⟨e1, _⟩ | ⟨g, cap, cur, e1, e2, e3, e4, _⟩
        · injection e1 with _ e1 _
          have := HN0.out
          omega
        · injection e1 with e1 _ e5
          exact ⟨g, cap, cur, e1, by omega, e2, rfl⟩
      subst ev
      have hcm := cut_max g p c hbg
      have HI : Hid (IntsAt wr (some ⟨g, 0, none⟩) .i64 (enP f p p)) := row_ints (c := c) (n := p) (by rw [enP_len]; exact HRw.out)
      go_wp2
      go_ret
      exact ⟨_, _, rfl, HI.out, fun a ha => by cases ha; exact hg, HBr.out⟩


end Go.Proofs.YtokhclindfipbaaGreatDoor
