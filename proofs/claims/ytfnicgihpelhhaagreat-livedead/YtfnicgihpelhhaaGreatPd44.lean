/-
  from of package edge, by what it answers: at a Zero; at each. Edges of package edge, by what it answers; each word is of 32 bits. edge.Edges of an image that may be: the lists lie in memory of their own. withOneLeap of package live: the image with its first leap alone.
-/
import Derived.Test.YtfnicgihpelhhaaGreatProg
import Derived.WalkKit
import Derived.WalkSpells
import Derived.WalkLawsBesides
import Derived.RowKit3
import Derived.Below
import Derived.Deep.QuietTactic
import Derived.BigQuiet
import Derived.WalkSmall
import Derived.Laws.Rows
import Derived.Test.YtfnicgihpelhhaaGreatPd43
import Derived.Test.YtfnicgihpelhhaaGreatPd42
import Derived.Test.YtfnicgihpelhhaaGreatPd20
import Derived.Test.YtfnicgihpelhhaaGreatPd22
import Derived.Test.YtfnicgihpelhhaaGreatPd16
import Derived.Test.YtfnicgihpelhhaaGreatPd14
import Derived.Test.YtfnicgihpelhhaaGreatPd36
import Derived.Test.YtfnicgihpelhhaaGreatPd17
import Derived.Test.YtfnicgihpelhhaaGreatPd04
namespace Go.Proofs.YtfnicgihpelhhaaGreat
open Go.RowKit

theorem pair_drew {w : World} {g : Nat} {x y : Int} (hg : g = w.heap.size) : (w.alloc (.cells #[.int .i64 x, .int .i64 y] 3)).drew.ownsRow 0 3 1 (.slice (some ⟨g, 0, none⟩) 2 2) 2 (iVals .i64 [x, y]) := row_keep (new_pair hg) (Below.drew (Below.refl _ _))
set_option maxRecDepth 100000 in
set_option maxHeartbeats 2000000 in
theorem from_cond (gf k : Nat) (text : List Int) (ml : Nat) (ent : Int) (w : World) (h : FlowAt w gf text ent) (hM : MayI text ml ent) (hk : k < (blkL text ent).length) (hl : text.length ≤ 16384) (ho : dOp (lastW text ent k) = 16) :
    Calls Tryz.prog 89 #[.pointer (some ⟨gf, 0, none⟩), .int .i64 (k : Int)] w (RowR gf (rowZ (edgT text ent (blkL text ent).length) k) w) := by
  have C := leaps_any gf k text ent w h hk (by have := blk_len_le text ent; omega)
  rw [leap_no (by omega) (by omega)] at C
  obtain ⟨A1, A3, c1, gN, c3, F, h⟩ := h
  obtain ⟨g1, e1, hc⟩ := h.last hk
  subst e1
  obtain ⟨q0, q1, q2⟩ := h.cells
  have r0 := hc 0 _ rfl
  have r1 := hc 1 _ rfl
  have r2 := hc 2 _ rfl
  have r3 := hc 3 _ rfl
  have r4 := hc 4 _ rfl
  rw [Nat.add_zero] at r0
  have hk' : (k : Int) < ((blkL text ent).length : Int) := by omega
  have hkb : (k : Int) ≤ 16384 := by have := blk_len_le text ent; omega
  clear hc

  rw [from_zero hM h.num hk ho]
  obtain ⟨n0, n1⟩ := jump_in hM hk (by omega)
  have s0 := h.nums.cell n0 n1
  clear h hk hM
  generalize dOp (lastW text ent k) = op at *
  generalize dD (lastW text ent k) = dd at *
  generalize dA (lastW text ent k) = da at *
  generalize dB (lastW text ent k) = db at *
  generalize dN (lastW text ent k) = dn at *
  generalize (blkL text ent).length = nb at *
  generalize F dn = x at *
  obtain ⟨W, HW⟩ : ∃ W, Hid (w.alloc (.cells #[.int .i8 op, .int .i8 dd, .int .i8 da, .int .i8 db, .int .i64 dn] 50) = W) := ⟨_, rfl⟩
  have HB : Hid (Below w.heap.size w W) := by unfold Hid; rw [← HW.out]; exact lb_alloc (Below.refl _ _) _
  have i0 : W.cell? ⟨w.heap.size, 0, none⟩ = some (.int .i8 op) := by rw [← HW.out]; simp [go_sem]
  have i4 : W.cell? ⟨w.heap.size, 4, none⟩ = some (.int .i64 dn) := by rw [← HW.out]; simp [go_sem]
  have w1 := lkeep HB.out q1
  have ws := lkeep HB.out s0
  have CR := fun (g : Nat) (wx : World) (hx : wx.ownsRow 0 3 1 (.slice (some ⟨g, 0, none⟩) 2 2) 2 (iVals .i64 [x, (k : Int) + 1])) => rising_any 0 (some ⟨g, 0, none⟩) 2 [x, (k : Int) + 1] wx hx (by simp)
  have CR : ∀ (g : Nat) (wx : World), wx.ownsRow 0 3 1 (.slice (some ⟨g, 0, none⟩) 2 2) 2 (iVals .i64 [x, (k : Int) + 1]) → Calls Tryz.prog 113 #[.slice (some ⟨g, 0, none⟩) 2 2] wx (RowP (risZ [x, (k : Int) + 1]) wx) := CR
  generalize risZ [x, (k : Int) + 1] = l at *
  subst ho
  go_enter Tryz.func89, Tryz.ntmps89
  go_upto_region 4 with (go_at_call 114; refine C.mono ?_; rintro e w2 ⟨rfl, rfl⟩)
  rw [HW.out]
  clear HW q0 q1 q2 r0 r1 r2 r3 r4 s0
  have hwr : IntKind.i64.wrap ((k : Int) + 1) = (k : Int) + 1 := by rw [IntKind.wrap_i64]; omega
  go_upto_region 13 with fail
  go_region_held3 (fun X => Below W.heap.size W X ∧ X.cell? ⟨gf, 1, none⟩ = some (.slice (some ⟨gN, 0, none⟩) text.length text.length) ∧ X.cell? ⟨w2.heap.size, 4, none⟩ = some (.int .i64 dn) ∧ X.cell? ⟨gN, dn.toNat, none⟩ = some (.int .i64 x)) (first | exact ⟨hY, lkeep hY w1, lkeep hY i4, lkeep hY ws⟩ | exact ⟨hY.drew, lkeep hY.drew w1, lkeep hY.drew i4, lkeep hY.drew ws⟩ | exact ⟨Below.drew (Below.refl _ _), w1, i4, ws⟩ | exact ⟨Below.drew (lb_alloc (Below.refl _ W) _), lkeep (Below.drew (lb_alloc (Below.refl _ W) _)) w1, lkeep (Below.drew (lb_alloc (Below.refl _ W) _)) i4, lkeep (Below.drew (lb_alloc (Below.refl _ W) _)) ws⟩ | (simp [*]; done))
    ((go_at_call 113; refine (CR _ _ (by first | exact new_pair rfl | exact pair_drew rfl | exact new_pair (by simp) | exact pair_drew (by simp))).mono ?_; rintro e w3 ⟨A9, c9, rfl, ho9, hb9⟩; have hY : Below W.heap.size W w3 := lb_trans (by first | exact Below.drew (lb_alloc (Below.refl _ W) _) | exact lb_alloc (Below.refl _ W) _) hb9))
  all_goals (
    rename_i hS
    clear hS
    go_wp2_with fail
    go_ret
    exact ⟨A9, c9, rfl, ownsRow_mono ho9 (Nat.zero_le _), lb_trans HB.out hY, .inl (fun q hq => Nat.le_trans (Nat.le_trans HB.out.size (by simp)) (ho9.lt q hq).1)⟩)
theorem from_any (gf k : Nat) (text : List Int) (ml : Nat) (ent : Int) (w : World) (h : FlowAt w gf text ent) (hM : MayI text ml ent) (hk : k < (blkL text ent).length) :
    Calls Tryz.prog 89 #[.pointer (some ⟨gf, 0, none⟩), .int .i64 (k : Int)] w (RowR gf (rowZ (edgT text ent (blkL text ent).length) k) w) := by
  have hl := hM.past.len
  by_cases h1 : dOp (lastW text ent k) = 18 ∨ dOp (lastW text ent k) = 19
  · exact from_leap gf k text ent w h hk hl h1
  by_cases h2 : dOp (lastW text ent k) = -1 ∨ dOp (lastW text ent k) = 0 ∨ dOp (lastW text ent k) = 21
  · exact from_stop gf k text ent w h hk hl h2
  by_cases h3 : dOp (lastW text ent k) = 15 ∨ dOp (lastW text ent k) = 17
  · exact from_goto gf k text ml ent w h hM hk hl h3
  by_cases h4 : dOp (lastW text ent k) = 16
  · exact from_cond gf k text ml ent w h hM hk hl h4
  exact from_fall gf k text ml ent w h hM hk hl (by omega)


end Go.Proofs.YtfnicgihpelhhaaGreat

namespace Go.Proofs.YtfnicgihpelhhaaGreat
open Go.RowKit

/-- The rows as they are filled. -/
def edL (L : List (List Int)) (k : Nat) : List (List Int) := (List.range L.length).map fun i => if i < k then rowZ L i else []
theorem edL_len (L : List (List Int)) (k : Nat) : (edL L k).length = L.length := by simp [edL]
theorem edL_zero (L : List (List Int)) : edL L 0 = List.replicate L.length [] := by
  apply List.ext_getElem?
  intro t
  by_cases ht : t < L.length
  · simp [edL, ht]
  · rw [List.getElem?_eq_none (by rw [edL_len]; omega), List.getElem?_replicate, if_neg ht]
theorem edL_step {L : List (List Int)} {k : Nat} (h : k < L.length) : edL L (k + 1) = (edL L k).set k (rowZ L k) := by
  apply List.ext_getElem?
  intro t
  rw [List.getElem?_set, edL_len]
  by_cases ht : t < L.length
  · have a : (edL L (k + 1))[t]? = some (if t < k + 1 then rowZ L t else []) := by simp [edL, ht]
    have b : (edL L k)[t]? = some (if t < k then rowZ L t else []) := by simp [edL, ht]
    rw [a, b]
    by_cases e : k = t
    · subst e
      rw [if_pos rfl, if_pos h, if_pos (by omega)]
    · rw [if_neg e]
      congr 1
      by_cases h1 : t < k
      · rw [if_pos h1, if_pos (by omega)]
      · rw [if_neg h1, if_neg (by omega)]
  · rw [List.getElem?_eq_none (by rw [edL_len]; omega), if_neg (by omega), List.getElem?_eq_none (by rw [edL_len]; omega)]
theorem edL_end (L : List (List Int)) : edL L L.length = L := by
  apply List.ext_getElem?
  intro t
  by_cases ht : t < L.length
  · have a : (edL L L.length)[t]? = some (rowZ L t) := by simp [edL, ht]
    rw [a]
    simp [rowZ, List.getD, ht]
  · rw [List.getElem?_eq_none (by rw [edL_len]; omega), List.getElem?_eq_none (by omega)]

set_option maxRecDepth 100000 in
set_option maxHeartbeats 4000000 in
theorem edges_any (A1 A2 : Option Addr) (c1 ml c2 : Nat) (ent : Int) (text : List Int) (w : World) (hT : IntsAt w A1 .u32 text) (hR : ∀ i, i < text.length → 0 ≤ nth text i ∧ nth text i < 4294967296) (hl : text.length ≤ 1048576) (hm : ml ≤ 1048576) :
    Calls Tryz.prog 75 #[.agg #[.slice A1 text.length c1, .int .i64 ent, .slice A2 ml c2]] w (ZE (checkI text ml ent).1 (outE text ml ent) w) := by
  obtain ⟨W, HW⟩ : ∃ W, Hid (w.alloc (.cells #[.slice A1 text.length c1, .int .i64 ent, .slice A2 ml c2] 25) = W) := ⟨_, rfl⟩
  have HB : Hid (Below w.heap.size w W) := by unfold Hid; rw [← HW.out]; exact lb_alloc (Below.refl _ _) _
  have i0 : W.cell? ⟨w.heap.size, 0, none⟩ = some (.slice A1 text.length c1) := by rw [← HW.out]; simp [go_sem]
  have i1 : W.cell? ⟨w.heap.size, 1, none⟩ = some (.int .i64 ent) := by rw [← HW.out]; simp [go_sem]
  have i2 : W.cell? ⟨w.heap.size, 2, none⟩ = some (.slice A2 ml c2) := by rw [← HW.out]; simp [go_sem]
  by_cases hE : (checkI text ml ent).1 = 0
  · have C := flow_ok A1 A2 c1 ml c2 ent text W (hT.keep HB.out) hR hl hm hE
    have HM : Hid (MayI text ml ent) := check_mayI hE
    have HO : Hid (outE text ml ent = edgT text ent (blkL text ent).length) := if_pos hE
    have HEl : Hid ((edgT text ent (blkL text ent).length).length = (blkL text ent).length) := edgT_len text ent _
    have hl4 : text.length ≤ 16384 := HM.out.past.len
    have hLt := blk_len_le text ent
    have HRl : Hid (∀ k, k < (blkL text ent).length → (rowZ (edgT text ent (blkL text ent).length) k).length ≤ 65536) := fun k hk => by
      rw [edg_row hk]
      have := plcT_len (edgR text ent k) (blkL text ent).length
      omega
    rw [HO.out, hE]
    clear hT hR hE HO
    have hmk := make_sl (blkL text ent).length (by omega)
    go_enter Tryz.func75, Tryz.ntmps75
    go_upto_region 1 with fail
    rw [HW.out]
    clear HW
    go_upto_region 4 with (go_at_call 87; refine C.mono ?_; rintro e w1 ⟨gf, rfl, hf, hb1⟩; have HF : Hid (FlowAt w1 gf text ent) := hf; have HB1 : Hid (Below w.heap.size w w1) := lb_trans HB.out hb1; clear hf hb1 i0 i1 i2)
    clear C
    have HFc : Hid (∃ A c, w1.cell? ⟨gf, 0, none⟩ = some (.slice A (blkL text ent).length c)) := by
      obtain ⟨A1', A3, c1', gN, c3, F, h⟩ := HF.out
      exact ⟨_, _, h.cells.1⟩
    obtain ⟨AL, cL, f0⟩ := HFc.out
    clear HFc
    have HB0 : Hid (Below w1.heap.size w1 (w1.alloc (.cells (madeCells #[.slice none 0 0] (blkL text ent).length) 72))) := lb_alloc (Below.refl _ _) _
    have HW0 : Hid (RowsW (w1.alloc (.cells (madeCells #[.slice none 0 0] (blkL text ent).length) 72)) w1.heap.size w1.heap.size (blkL text ent).length (List.replicate (blkL text ent).length (.slice none 0 0)) (edL (edgT text ent (blkL text ent).length) 0)) := by
      unfold Hid
      rw [edL_zero, HEl.out]
      exact RowsW.made w1 (blkL text ent).length (by omega)
    go_wp2
    go_loopw [24] (fun i wr => ∃ (k : Nat) (vs : List Value), i = .int .i64 k ∧ k ≤ (blkL text ent).length ∧ Hid (RowsW wr w1.heap.size w1.heap.size (blkL text ent).length vs (edL (edgT text ent (blkL text ent).length) k)) ∧ Hid (Below w1.heap.size w1 wr)) (fun i _ => (blkL text ent).length - (intOf i).toNat)
    case atStart => exact ⟨0, _, rfl, Nat.zero_le _, HW0, HB0⟩
    case round =>
      clear HW0 HB0 hmk f0
      obtain ⟨k, vs, rfl, hk, HW, HBr⟩ := hrel
      by_cases hlt : k < (blkL text ent).length
      · have hlt' : (k : Int) < ((blkL text ent).length : Int) := by omega
        have C1 := from_any gf k text ml ent wr (HF.out.keep HBr.out) HM.out hlt
        have HSt : Hid (edL (edgT text ent (blkL text ent).length) (k + 1) = (edL (edgT text ent (blkL text ent).length) k).set k (rowZ (edgT text ent (blkL text ent).length) k)) := edL_step (by rw [HEl.out]; exact hlt)
        have hrl := HRl.out k hlt
        generalize rowZ (edgT text ent (blkL text ent).length) k = l at *
        have C2 := fun (A : Option Addr) (c : Nat) (wx : World) (hx : wx.ownsRow 0 3 1 (.slice A l.length c) l.length (iVals .i64 l)) => clone_any 0 A c l wx hx (by omega)
        go_upto_region 9 with (first
          | (go_at_call 89; refine C1.mono ?_; rintro e w2 ⟨Af, cf, rfl, hof, hb2, -⟩; have HO2 : Hid (w2.ownsRow 0 3 1 (.slice Af l.length cf) l.length (iVals .i64 l)) := hof; have HW2 : Hid (RowsW w2 w1.heap.size w1.heap.size (blkL text ent).length vs (edL (edgT text ent (blkL text ent).length) k)) := HW.out.keep hb2; have HB2 : Hid (Below w1.heap.size w1 w2) := lb_trans HBr.out hb2; clear hof hb2)
          | (go_at_call 88; refine (C2 _ _ _ HO2.out).mono ?_; rintro e w3 ⟨A3, c3, rfl, ho3, hb3⟩; have HW3 : Hid (RowsW (w3.setCell ⟨w1.heap.size, k, none⟩ (.slice A3 l.length c3)) w1.heap.size w1.heap.size (blkL text ent).length (vs.set k (.slice A3 l.length c3)) ((edL (edgT text ent (blkL text ent).length) k).set k l)) := HW2.out.put hlt (ownsRow_mono ho3 HB2.out.size) (grown_of hb3) (fun q hq => .inr (ho3.lt q hq).1); have HB3 : Hid (Below w1.heap.size w1 (w3.setCell ⟨w1.heap.size, k, none⟩ (.slice A3 l.length c3))) := HW2.out.below hlt (Nat.le_refl _) HB2.out HB2.out.size (grown_of hb3) _; have hcf := HW2.out.grown hlt (grown_of hb3); have hc3 := hcf.1; have hf3 := hcf.2; clear ho3 hb3 hcf))
        go_wp2
        go_roundw
        case rel => exact ⟨k + 1, _, by go_num, by omega, by rw [HSt.out]; exact HW3, HB3⟩
        case measure => simp [intOf]; omega
      · obtain rfl : k = (blkL text ent).length := by omega
        have HR9 : Hid (IntsZ wr (some ⟨w1.heap.size, 0, none⟩) (edgT text ent (blkL text ent).length)) := by
          have h := HW.out
          rw [show edL (edgT text ent (blkL text ent).length) (blkL text ent).length = edgT text ent (blkL text ent).length by
            have := edL_end (edgT text ent (blkL text ent).length)
            rwa [HEl.out] at this] at h
          exact h.rows.ints
        go_wp2
        go_ret2
        exact ⟨_, _, by rw [HEl.out]; rfl, HR9.out, lb_trans HB1.out HBr.out⟩
  · have C := flow_no A1 A2 c1 ml c2 ent text W (hT.keep HB.out) hR hl hm hE
    have HO : Hid (outE text ml ent = []) := if_neg hE
    have hne : ((checkI text ml ent).1 == 0) = false := by simpa using hE
    have hne2 : ((checkI text ml ent).1 != 0) = true := by simpa using hE
    rw [HO.out]
    clear hE HO hT hR
    generalize (checkI text ml ent).1 = E at *
    go_enter Tryz.func75, Tryz.ntmps75
    go_upto_region 1 with fail
    rw [HW.out]
    clear HW
    go_wp2_with (go_at_call 87; refine C.mono ?_; rintro e w1 ⟨rfl, hb1⟩)
    go_ret2
    exact ⟨none, 0, rfl, fun i hi => absurd hi (Nat.not_lt_zero _), lb_trans HB.out hb1⟩
theorem edgesOK : EdgesOK := edges_any


end Go.Proofs.YtfnicgihpelhhaaGreat

namespace Go.Proofs.YtfnicgihpelhhaaGreat
open Go.RowKit

/-- Lists in a block of its own. -/
def EdO (text : List Int) (ent : Int) (w : World) (e : Ending) (w' : World) : Prop := ∃ (g : Nat) (vs : List Value), e = .returned (.tuple #[.slice (some ⟨g, 0, none⟩) (blkL text ent).length (blkL text ent).length, .int .i64 0]) ∧ RowsW w' g g (blkL text ent).length vs (edgT text ent (blkL text ent).length) ∧ w.heap.size ≤ g ∧ Below w.heap.size w w'
set_option maxRecDepth 100000 in
set_option maxHeartbeats 4000000 in
theorem edges_own (A1 A2 : Option Addr) (c1 ml c2 : Nat) (ent : Int) (text : List Int) (w : World) (hT : IntsAt w A1 .u32 text) (hR : ∀ i, i < text.length → 0 ≤ nth text i ∧ nth text i < 4294967296) (hl : text.length ≤ 1048576) (hm : ml ≤ 1048576) (hE : (checkI text ml ent).1 = 0) :
    Calls Tryz.prog 75 #[.agg #[.slice A1 text.length c1, .int .i64 ent, .slice A2 ml c2]] w (EdO text ent w) := by
  obtain ⟨W, HW⟩ : ∃ W, Hid (w.alloc (.cells #[.slice A1 text.length c1, .int .i64 ent, .slice A2 ml c2] 25) = W) := ⟨_, rfl⟩
  have HB : Hid (Below w.heap.size w W) := by unfold Hid; rw [← HW.out]; exact lb_alloc (Below.refl _ _) _
  have i0 : W.cell? ⟨w.heap.size, 0, none⟩ = some (.slice A1 text.length c1) := by rw [← HW.out]; simp [go_sem]
  have i1 : W.cell? ⟨w.heap.size, 1, none⟩ = some (.int .i64 ent) := by rw [← HW.out]; simp [go_sem]
  have i2 : W.cell? ⟨w.heap.size, 2, none⟩ = some (.slice A2 ml c2) := by rw [← HW.out]; simp [go_sem]
  have C := flow_ok A1 A2 c1 ml c2 ent text W (hT.keep HB.out) hR hl hm hE
  have HM : Hid (MayI text ml ent) := check_mayI hE
  have HO : Hid (outE text ml ent = edgT text ent (blkL text ent).length) := if_pos hE
  have HEl : Hid ((edgT text ent (blkL text ent).length).length = (blkL text ent).length) := edgT_len text ent _
  have hl4 : text.length ≤ 16384 := HM.out.past.len
  have hLt := blk_len_le text ent
  have HRl : Hid (∀ k, k < (blkL text ent).length → (rowZ (edgT text ent (blkL text ent).length) k).length ≤ 65536) := fun k hk => by
    rw [edg_row hk]
    have := plcT_len (edgR text ent k) (blkL text ent).length
    omega
  clear hT hR hE HO
  have hmk := make_sl (blkL text ent).length (by omega)
  go_enter Tryz.func75, Tryz.ntmps75
  go_upto_region 1 with fail
  rw [HW.out]
  clear HW
  go_upto_region 4 with (go_at_call 87; refine C.mono ?_; rintro e w1 ⟨gf, rfl, hf, hb1⟩; have HF : Hid (FlowAt w1 gf text ent) := hf; have HB1 : Hid (Below w.heap.size w w1) := lb_trans HB.out hb1; clear hf hb1 i0 i1 i2)
  clear C
  have HFc : Hid (∃ A c, w1.cell? ⟨gf, 0, none⟩ = some (.slice A (blkL text ent).length c)) := by
    obtain ⟨A1', A3, c1', gN, c3, F, h⟩ := HF.out
    exact ⟨_, _, h.cells.1⟩
  obtain ⟨AL, cL, f0⟩ := HFc.out
  clear HFc
  have HB0 : Hid (Below w1.heap.size w1 (w1.alloc (.cells (madeCells #[.slice none 0 0] (blkL text ent).length) 72))) := lb_alloc (Below.refl _ _) _
  have HW0 : Hid (RowsW (w1.alloc (.cells (madeCells #[.slice none 0 0] (blkL text ent).length) 72)) w1.heap.size w1.heap.size (blkL text ent).length (List.replicate (blkL text ent).length (.slice none 0 0)) (edL (edgT text ent (blkL text ent).length) 0)) := by
    unfold Hid
    rw [edL_zero, HEl.out]
    exact RowsW.made w1 (blkL text ent).length (by omega)
  go_wp2
  go_loopw [24] (fun i wr => ∃ (k : Nat) (vs : List Value), i = .int .i64 k ∧ k ≤ (blkL text ent).length ∧ Hid (RowsW wr w1.heap.size w1.heap.size (blkL text ent).length vs (edL (edgT text ent (blkL text ent).length) k)) ∧ Hid (Below w1.heap.size w1 wr)) (fun i _ => (blkL text ent).length - (intOf i).toNat)
  case atStart => exact ⟨0, _, rfl, Nat.zero_le _, HW0, HB0⟩
  case round =>
    clear HW0 HB0 hmk f0
    obtain ⟨k, vs, rfl, hk, HW, HBr⟩ := hrel
    by_cases hlt : k < (blkL text ent).length
    · have hlt' : (k : Int) < ((blkL text ent).length : Int) := by omega
      have C1 := from_any gf k text ml ent wr (HF.out.keep HBr.out) HM.out hlt
      have HSt : Hid (edL (edgT text ent (blkL text ent).length) (k + 1) = (edL (edgT text ent (blkL text ent).length) k).set k (rowZ (edgT text ent (blkL text ent).length) k)) := edL_step (by rw [HEl.out]; exact hlt)
      have hrl := HRl.out k hlt
      generalize rowZ (edgT text ent (blkL text ent).length) k = l at *
      have C2 := fun (A : Option Addr) (c : Nat) (wx : World) (hx : wx.ownsRow 0 3 1 (.slice A l.length c) l.length (iVals .i64 l)) => clone_any 0 A c l wx hx (by omega)
      go_upto_region 9 with (first
        | (go_at_call 89; refine C1.mono ?_; rintro e w2 ⟨Af, cf, rfl, hof, hb2, -⟩; have HO2 : Hid (w2.ownsRow 0 3 1 (.slice Af l.length cf) l.length (iVals .i64 l)) := hof; have HW2 : Hid (RowsW w2 w1.heap.size w1.heap.size (blkL text ent).length vs (edL (edgT text ent (blkL text ent).length) k)) := HW.out.keep hb2; have HB2 : Hid (Below w1.heap.size w1 w2) := lb_trans HBr.out hb2; clear hof hb2)
        | (go_at_call 88; refine (C2 _ _ _ HO2.out).mono ?_; rintro e w3 ⟨A3, c3, rfl, ho3, hb3⟩; have HW3 : Hid (RowsW (w3.setCell ⟨w1.heap.size, k, none⟩ (.slice A3 l.length c3)) w1.heap.size w1.heap.size (blkL text ent).length (vs.set k (.slice A3 l.length c3)) ((edL (edgT text ent (blkL text ent).length) k).set k l)) := HW2.out.put hlt (ownsRow_mono ho3 HB2.out.size) (grown_of hb3) (fun q hq => .inr (ho3.lt q hq).1); have HB3 : Hid (Below w1.heap.size w1 (w3.setCell ⟨w1.heap.size, k, none⟩ (.slice A3 l.length c3))) := HW2.out.below hlt (Nat.le_refl _) HB2.out HB2.out.size (grown_of hb3) _; have hcf := HW2.out.grown hlt (grown_of hb3); have hc3 := hcf.1; have hf3 := hcf.2; clear ho3 hb3 hcf))
      go_wp2
      go_roundw
      case rel => exact ⟨k + 1, _, by go_num, by omega, by rw [HSt.out]; exact HW3, HB3⟩
      case measure => simp [intOf]; omega
    · obtain rfl : k = (blkL text ent).length := by omega
      have HR9 : Hid (RowsW wr w1.heap.size w1.heap.size (blkL text ent).length vs (edgT text ent (blkL text ent).length)) := by
        have h := HW.out
        rw [show edL (edgT text ent (blkL text ent).length) (blkL text ent).length = edgT text ent (blkL text ent).length by
          have := edL_end (edgT text ent (blkL text ent).length)
          rwa [HEl.out] at this] at h
        exact h
      have hz1 := HB1.out.size
      go_wp2
      go_ret2
      exact ⟨_, vs, rfl, HR9.out, hz1, lb_trans HB1.out HBr.out⟩

end Go.Proofs.YtfnicgihpelhhaaGreat

namespace Go.Proofs.YtfnicgihpelhhaaGreat
open Go.RowKit

theorem enc_call : encV 17 0 0 0 0 = 2281701376 := by decide
theorem enc_jump : encV 15 0 0 0 0 = 2013265920 := by decide
theorem addAny (b o j : Nat) : (⟨b, o, none⟩ : Addr).add j = ⟨b, o + j, none⟩ := by
  unfold Addr.add
  split <;> simp_all
def OnP (text : List Int) (ent : Int) (A2 : Option Addr) (ml c2 : Nat) (w : World) (e : Ending) (w' : World) : Prop := ∃ (g cap : Nat) (T : List Int), e = .returned (.agg #[.slice (some ⟨g, 0, none⟩) T.length cap, .int .i64 ent, .slice A2 ml c2]) ∧ IntsAt w' (some ⟨g, 0, none⟩) .u32 T ∧ OneJ text ent T ((lpL text ent).length - 1) ∧ Below w.heap.size w w'
set_option maxRecDepth 100000 in
set_option maxHeartbeats 4000000 in
theorem onel_any (a : Addr) (A2 B Ls : Option Addr) (c1 ml c2 cB cL : Nat) (ent : Int) (text : List Int) (w : World) (hT : IntsAt w (some a) .u32 text) (hR : ∀ i, i < text.length → 0 ≤ nth text i ∧ nth text i < 4294967296) (hl : text.length ≤ 1048576) (hp : 0 < text.length) (hB : RelsAt w B (blkL text ent)) (hLs : IntsAt w Ls .i64 (lpL text ent)) (hcL : (lpL text ent).length ≤ cL) :
    Calls Tryz.prog 76 #[.agg #[.slice (some a) text.length c1, .int .i64 ent, .slice A2 ml c2], .slice B (blkL text ent).length cB, .slice Ls (lpL text ent).length cL] w (OnP text ent A2 ml c2 w) := by
  have hLt := blk_len_le text ent
  have hLl : (lpL text ent).length ≤ (blkL text ent).length := plcT_len _ _
  obtain ⟨W, HW⟩ : ∃ W, Hid ((w.alloc (.cells #[.slice (some a) text.length c1, .int .i64 ent, .slice A2 ml c2] 25)).alloc (.cells #[.slice none 0 0, .int .i64 0, .slice none 0 0] 25) = W) := ⟨_, rfl⟩
  have HB : Hid (Below w.heap.size w W) := by unfold Hid; rw [← HW.out]; exact lb_alloc (lb_alloc (Below.refl _ _) _) _
  have HX0 : Hid (W.heap[w.heap.size]? = some (.cells #[.slice (some a) text.length c1, .int .i64 ent, .slice A2 ml c2] 25 (0, 0))) := by unfold Hid; rw [← HW.out]; exact old_at (new_at rfl)
  have HY0 : Hid (W.heap[w.heap.size + 1]? = some (.cells #[.slice none 0 0, .int .i64 0, .slice none 0 0] 25 (0, 0))) := by unfold Hid; rw [← HW.out]; exact new_at (by simp)
  have HZ0 : Hid (W.heap.size = w.heap.size + 2) := by unfold Hid; rw [← HW.out]; simp
  have i0 := (zbox3_cell HX0.out).1
  have C1 := clone32_any a c1 text W (hT.keep HB.out) hl
  have HR : Hid (∀ i, i < text.length → 0 ≤ nth text i ∧ nth text i < 4294967296) := hR
  have HRl : Hid (RelsAt w B (blkL text ent)) := hB
  have HLs : Hid (IntsAt w Ls .i64 (lpL text ent)) := hLs
  have HcL : Hid ((lpL text ent).length ≤ cL) := hcL
  have Hp : Hid (0 < text.length) := hp
  clear hT hR hB hLs hcL hp
  go_enter Tryz.func76, Tryz.ntmps76
  go_upto_region 1 with fail
  rw [HW.out]
  clear HW
  have f0 := box_fro HX0.out 0
  go_upto_region 2 with (go_at_call 90; refine C1.mono ?_; rintro e w1 ⟨g, cap, rfl, hcap, hw1, hg1, hb1⟩; have HX1 : Hid (w1.heap[w.heap.size]? = some (.cells #[.slice (some a) text.length c1, .int .i64 ent, .slice A2 ml c2] 25 (0, 0))) := lb_box HX0.out hb1; have HY1 : Hid (w1.heap[w.heap.size + 1]? = some (.cells #[.slice none 0 0, .int .i64 0, .slice none 0 0] 25 (0, 0))) := lb_box HY0.out hb1; have HW1 : Hid (WdAt w1 g text) := hw1; have HG1 : Hid (w.heap.size + 2 ≤ g) := (by rw [Hid, ← HZ0.out]; exact hg1); have HB1 : Hid (Below W.heap.size W w1) := hb1; clear hw1 hg1 hb1 i0 f0; have x0 := (zbox3_cell HX1.out).1; have f1 := box_fro HX1.out 0)
  clear C1
  obtain ⟨X, HX⟩ : ∃ X, Hid (w1.setCell ⟨w.heap.size, 0, none⟩ (.slice (some ⟨g, 0, none⟩) text.length cap) = X) := ⟨_, rfl⟩
  rw [HX.out]
  have HX2 : Hid (X.heap[w.heap.size]? = some (.cells #[.slice (some ⟨g, 0, none⟩) text.length cap, .int .i64 ent, .slice A2 ml c2] 25 (0, 0))) := by unfold Hid; rw [← HX.out]; exact box_set HX1.out 0 _
  have HY2 : Hid (X.heap[w.heap.size + 1]? = some (.cells #[.slice none 0 0, .int .i64 0, .slice none 0 0] 25 (0, 0))) := by unfold Hid; rw [← HX.out]; exact box_other HY1.out (by omega) 0 _
  have HB2 : Hid (Below w.heap.size w X) := by unfold Hid; rw [← HX.out]; exact (lb_trans HB.out HB1.out).setCell (Nat.le_refl _) _
  have HW2 : Hid (WdAt X g text) := by unfold Hid; rw [← HX.out]; exact HW1.out.other (by have := HG1.out; omega)
  clear HX HX1 HY1 HW1 HB1 HX0 HY0 x0 f1
  have HE : Hid (∀ T wr, WdAt wr g T → OneJ text ent T ((lpL text ent).length - 1) → But g X wr → OnP text ent A2 ml c2 w (.returned (.agg #[.slice (some ⟨g, 0, none⟩) text.length cap, .int .i64 ent, .slice A2 ml c2])) (((wr.setCell ⟨w.heap.size + 1, 0, none⟩ (.slice (some ⟨g, 0, none⟩) text.length cap)).setCell ⟨w.heap.size + 1, 1, none⟩ (.int .i64 ent)).setCell ⟨w.heap.size + 1, 2, none⟩ (.slice A2 ml c2))) := fun T wr h1 h2 h3 => by
    have hg := HG1.out
    have hb := h3.below HB2.out (by omega)
    refine ⟨g, cap, T, by rw [h2.one.len], (((h1.other (by omega)).other (by omega)).other (by omega)).ints, h2, ?_⟩
    exact ((hb.setCell (Nat.le_succ _) _).setCell (Nat.le_succ _) _).setCell (Nat.le_succ _) _
  have HEc : Hid (∀ wr, But g X wr → wr.heap[w.heap.size]? = some (.cells #[.slice (some ⟨g, 0, none⟩) text.length cap, .int .i64 ent, .slice A2 ml c2] 25 (0, 0)) ∧ wr.heap[w.heap.size + 1]? = some (.cells #[.slice none 0 0, .int .i64 0, .slice none 0 0] 25 (0, 0))) := fun wr h => by
    have hg := HG1.out
    exact ⟨(h.2.2.2.2 _ (Array.getElem?_eq_some_iff.1 HX2.out).1 (by omega)).trans HX2.out, (h.2.2.2.2 _ (Array.getElem?_eq_some_iff.1 HY2.out).1 (by omega)).trans HY2.out⟩
  by_cases hN : (lpL text ent).length ≤ 1
  · have HF : Hid (OneJ text ent text ((lpL text ent).length - 1)) := by
      unfold Hid
      rw [show (lpL text ent).length - 1 = 0 by omega]
      exact OneJ.zero _ _
    obtain ⟨x0, x1, x2⟩ := zbox3_cell HX2.out
    obtain ⟨y0, y1, y2⟩ := zbox3_cell HY2.out
    have g0 := box_fro HY2.out 0
    have g1 := box_fro HY2.out 1
    have g2 := box_fro HY2.out 2
    have h01 : (lpL text ent).length = 0 ∨ (lpL text ent).length = 1 := by omega
    clear HEc hN HLs HRl
    have hcl := HcL.out
    clear HcL
    generalize (lpL text ent).length = N at *
    rcases h01 with rfl | rfl
    · go_wp2
      all_goals (refine wp_loop_rounds 1 ?_; rw [rounds_succ]; go_wp2; exact bodyPost_ret (v := .agg #[.slice (some ⟨g, 0, none⟩) text.length cap, .int .i64 ent, .slice A2 ml c2]) (by simp [results, Tryz.results76, go_sem, y0, y1, y2]) rfl (HE.out text X HW2.out HF.out (But.refl _ _)))
    · go_wp2
      all_goals (refine wp_loop_rounds 1 ?_; rw [rounds_succ]; go_wp2; exact bodyPost_ret (v := .agg #[.slice (some ⟨g, 0, none⟩) text.length cap, .int .i64 ent, .slice A2 ml c2]) (by simp [results, Tryz.results76, go_sem, y0, y1, y2]) rfl (HE.out text X HW2.out HF.out (But.refl _ _)))
  · obtain ⟨m, hm⟩ : ∃ m, (lpL text ent).length = m + 2 := ⟨(lpL text ent).length - 2, by omega⟩
    have HN : Hid ((lpL text ent).length = m + 2) := hm
    have hcl := HcL.out
    obtain ⟨l0, el0, -⟩ := HLs.out 0 (by omega)
    subst el0
    rw [hm] at hcl hLl
    have hc1 : ¬ cL = 1 := by omega
    have hm1 : ¬ ((m : Int) + 2 < 1) := by omega
    have hmin : min (1 : Int) ((m : Int) + 2) = 1 := by omega
    have hmin2 : min (1 : Int) ((m : Int) + 2) ≤ (m : Int) + 2 := by omega
    clear hN HcL
    rw [hm]
    clear hm
    go_upto_region 3 with fail
    have HOld : Hid (∀ wr, But g X wr → Below w.heap.size w wr) := fun wr h => h.below HB2.out (by have := HG1.out; omega)
    go_loopw [21] (fun i wr => ∃ (j : Nat) (T : List Int), i = .int .i64 j ∧ j ≤ m + 1 ∧ Hid (WdAt wr g T) ∧ Hid (OneJ text ent T j) ∧ Hid (But g X wr)) (fun i _ => m + 1 - (intOf i).toNat)
    case atStart => exact ⟨0, text, rfl, Nat.zero_le _, HW2, OneJ.zero _ _, But.refl _ _⟩
    case round =>
      clear HW2 HX2 HY2
      obtain ⟨j, T, rfl, hj, HW, HJ, HBt⟩ := hrel
      obtain ⟨HXr, HYr⟩ := HEc.out wr HBt.out
      by_cases hlt : j < m + 1
      · have hlt' : (j : Int) < (m : Int) + 1 := by omega
        obtain ⟨k, hk, ek, lk⟩ := lp_at (text := text) (ent := ent) (t := j + 1) (by rw [HN.out]; omega)
        obtain ⟨a2, ea2, ql⟩ := HLs.out (j + 1) (by rw [HN.out]; omega)
        obtain rfl := Option.some.inj ea2
        rw [ek, show j + 1 = 1 + j by omega, ← addTwo l0 1 j] at ql
        have ql : wr.cell? ((⟨l0.block, l0.off + 1, none⟩ : Addr).add j) = some (.int .i64 (k : Int)) := lkeep (HOld.out wr HBt.out) ql
        rw [addAny] at ql
        have hk' : (k : Int) < ((blkL text ent).length : Int) := by omega
        obtain ⟨b, eb, q0, q1⟩ := HRl.out k hk
        subst eb
        have t1 : wr.cell? ⟨(b.add (k * 2)).block, (b.add (k * 2)).off + 1, none⟩ = some (.int .i64 (rSym (blkL text ent) k)) := lkeep (HOld.out wr HBt.out) q1
        clear q0 q1
        obtain ⟨p1, p2, p3⟩ := lpP_at hk ek
        have HSt : Hid (OneJ text ent (T.set (lpP text ent (j + 1)) (cutW (nth T (lpP text ent (j + 1))))) (j + 1)) := HJ.out.step Hp.out (by rw [HN.out]; omega)
        have hTn : nth T (lpP text ent (j + 1)) = lastW text ent k := by rw [HJ.out.rest (j + 1) (by rw [HN.out]; omega) (.inr (by omega)), p3]
        have hTl := HJ.out.one.len
        have hpT : lpP text ent (j + 1) < T.length := by omega
        have hv := HR.out _ p2
        rw [p3] at hv
        have hop := lp_ops lk
        have tv := HW.out.cell hpT
        have HPu : Hid (∀ wx, WdAt wx g T → WdAt (wx.setCell ⟨g, lpP text ent (j + 1), none⟩ (.int .u32 (cutW (lastW text ent k)))) g (T.set (lpP text ent (j + 1)) (cutW (lastW text ent k)))) := fun wx h => h.put hpT _
        rw [hTn] at tv
        rw [hTn] at HSt
        have hrs : rSym (blkL text ent) k = (lpP text ent (j + 1) : Int) + 1 := by omega
        rw [hrs] at t1
        have CD := fun wx => isadecode_any (lastW text ent k) hv.1 hv.2 wx
        have h18 : Hid (dOp (lastW text ent k) = 18 → cutW (lastW text ent k) = 2281701376) := cutW18
        have h19 : Hid (dOp (lastW text ent k) = 19 → cutW (lastW text ent k) = 2013265920) := cutW19
        have HFr : Hid (∀ wx, WdAt wx g T → wx.cell? ⟨g, lpP text ent (j + 1), none⟩ = some (.int .u32 (nth T (lpP text ent (j + 1)))) ∧ wx.frozen? ⟨g, lpP text ent (j + 1), none⟩ = false) := fun wx h => ⟨h.cell hpT, h.fro _⟩
        have hpl : (lpP text ent (j + 1) : Int) < (text.length : Int) := by omega
        clear p1 p2 p3 hTn hpT hv lk hrs ek
        generalize lpP text ent (j + 1) = P at *
        generalize cutW (lastW text ent k) = nw at *
        generalize dOp (lastW text ent k) = op at *
        generalize dD (lastW text ent k) = dd at *
        generalize dA (lastW text ent k) = da at *
        generalize dB (lastW text ent k) = db at *
        generalize dN (lastW text ent k) = dn at *
        generalize lastW text ent k = v at *
        have hwr : IntKind.i64.wrap ((P : Int) + 1 - 1) = (P : Int) := by rw [IntKind.wrap_i64]; omega
        have hwr2 : IntKind.i64.wrap (P : Int) = (P : Int) := by rw [IntKind.wrap_i64]; omega
        have x0 := (zbox3_cell HXr).1
        have HX9 : Hid _ := HXr
        clear HXr HYr hTl
        rcases hop with rfl | rfl
        · have CE := fun wx => isaencode_any 17 0 0 0 0 (by omega) wx
          rw [enc_call] at CE
          obtain rfl := (h18.out rfl).symm
          go_upto_region 9 with (go_at_call 36; refine (CD _).mono ?_; rintro r w4 ⟨rfl, hb4⟩; have HB4 : Hid (But g X w4) := HBt.out.on hb4; have HW4 : Hid (WdAt w4 g T) := HW.out.keep hb4; have y0 := lkeep hb4 x0; clear hb4)
          clear CD
          go_region_law (go_simp; go_at_call 61; refine (CE _).mono ?_; rintro r w5 ⟨rfl, hb5⟩; have HB5 : Hid (But g X w5) := HB4.out.on (lb_trans (Below.drew (Below.refl _ _)) hb5); have HW5 : Hid (WdAt w5 g T) := HW4.out.keep (lb_trans (Below.drew (Below.refl _ _)) hb5); have z0 := lkeep (lb_trans (Below.drew (Below.refl _ _)) hb5) y0; have z1 := (HFr.out w5 HW5.out).1; have z2 := (HFr.out w5 HW5.out).2; clear hb5)
          all_goals (
            go_wp2_with fail
            go_roundw
            (case rel => exact ⟨j + 1, _, by go_num, by omega, HPu.out _ HW5.out, HSt, HB5.out.set _ _⟩)
            (case measure => simp [intOf]; omega))
        · have CE := fun wx => isaencode_any 15 0 0 0 0 (by omega) wx
          rw [enc_jump] at CE
          obtain rfl := (h19.out rfl).symm
          go_upto_region 9 with (go_at_call 36; refine (CD _).mono ?_; rintro r w4 ⟨rfl, hb4⟩; have HB4 : Hid (But g X w4) := HBt.out.on hb4; have HW4 : Hid (WdAt w4 g T) := HW.out.keep hb4; have y0 := lkeep hb4 x0; clear hb4)
          clear CD
          go_region_law (go_simp; go_at_call 61; refine (CE _).mono ?_; rintro r w5 ⟨rfl, hb5⟩; have HB5 : Hid (But g X w5) := HB4.out.on (lb_trans (Below.drew (Below.refl _ _)) hb5); have HW5 : Hid (WdAt w5 g T) := HW4.out.keep (lb_trans (Below.drew (Below.refl _ _)) hb5); have z0 := lkeep (lb_trans (Below.drew (Below.refl _ _)) hb5) y0; have z1 := (HFr.out w5 HW5.out).1; have z2 := (HFr.out w5 HW5.out).2; clear hb5)
          all_goals (
            go_wp2_with fail
            go_roundw
            (case rel => exact ⟨j + 1, _, by go_num, by omega, HPu.out _ HW5.out, HSt, HB5.out.set _ _⟩)
            (case measure => simp [intOf]; omega))
      · obtain rfl : j = m + 1 := by omega
        have HJ : Hid (OneJ text ent T ((lpL text ent).length - 1)) := by unfold Hid; rw [HN.out]; exact HJ.out
        have HP := HE.out T wr HW.out HJ.out HBt.out
        have HP : Hid (OnP text ent A2 ml c2 w (.returned (.agg #[.slice (some ⟨g, 0, none⟩) text.length cap, .int .i64 ent, .slice A2 ml c2])) (((wr.setCell ⟨w.heap.size + 1, 0, none⟩ (.slice (some ⟨g, 0, none⟩) text.length cap)).setCell ⟨w.heap.size + 1, 1, none⟩ (.int .i64 ent)).setCell ⟨w.heap.size + 1, 2, none⟩ (.slice A2 ml c2))) := HP
        obtain ⟨x0, x1, x2⟩ := zbox3_cell HXr
        obtain ⟨y0, y1, y2⟩ := zbox3_cell HYr
        have g0 := box_fro HYr 0
        have g1 := box_fro HYr 1
        have g2 := box_fro HYr 2
        clear HXr HYr
        go_wp2
        exact bodyPost_ret (v := .agg #[.slice (some ⟨g, 0, none⟩) text.length cap, .int .i64 ent, .slice A2 ml c2]) (by simp [results, Tryz.results76, go_sem, y0, y1, y2]) rfl HP.out

end Go.Proofs.YtfnicgihpelhhaaGreat
