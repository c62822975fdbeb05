/-
  from of package edge, by what it answers. from of package edge, by what it answers: at a Zero; at each. Edges of package edge, by what it answers; each word is of 32 bits. edge.Edges of an image that may be: the lists lie in memory of their own.
-/
import Derived.Test.YtmlhnnmelopleaaGreatDoorProg
import Derived.WalkKit
import Derived.WalkSpells
import Derived.WalkLawsBesides
import Derived.RowKit3
import Derived.Below
import Derived.Deep.QuietTactic
import Derived.BigQuiet
import Derived.WalkSmall
import Derived.Laws.Rows
import Derived.Test.YtmlhnnmelopleaaGreatDoorPs26
import Derived.Test.YtmlhnnmelopleaaGreatDoorPs19
import Derived.Test.YtmlhnnmelopleaaGreatDoorPs27
namespace Go.Proofs.YtmlhnnmelopleaaGreatDoor
open Go.RowKit

theorem leap_no {op : Int} (h1 : op ≠ 18) (h2 : op ≠ 19) : leapB op = false := by
  unfold leapB
  rw [Bool.or_eq_false_iff, beq_eq_false_iff_ne, beq_eq_false_iff_ne]
  exact ⟨h1, h2⟩
set_option maxRecDepth 100000 in
set_option maxHeartbeats 1000000 in
theorem from_leap (gf k : Nat) (text : List Int) (ent : Int) (w : World) (h : FlowAt w gf text ent) (hk : k < (blkL text ent).length) (hl : text.length ≤ 16384) (ho : dOp (lastW text ent k) = 18 ∨ dOp (lastW text ent k) = 19) :
    Calls Tryz.prog 112 #[.pointer (some ⟨gf, 0, none⟩), .int .i64 (k : Int)] w (RowR gf (rowZ (edgT text ent (blkL text ent).length) k) w) := by
  have C := leaps_any gf k text ent w h hk (by have := blk_len_le text ent; omega)
  rw [show leapB (dOp (lastW text ent k)) = true by unfold leapB; rcases ho with h | h <;> (rw [h]; rfl)] at C
  rw [from_known hk ho]
  obtain ⟨A1, A3, c1, gN, c3, F, h⟩ := h
  have q2 := h.cells.2.2
  have HK : Hid _ := h.known
  clear h ho hk
  have hq : RowR gf (plcT (knK text ent) (blkL text ent).length) w = RowR gf (knL text ent) w := rfl
  rw [hq]
  clear hq
  generalize knL text ent = l at *
  go_enter Tryz.func112, Tryz.ntmps112
  go_wp2_with (go_at_call 119; refine C.mono ?_; rintro e w2 ⟨rfl, rfl⟩)
  go_ret
  exact ⟨A3, c3, rfl, HK.out, Below.refl _ _, .inr q2⟩

set_option maxRecDepth 100000 in
set_option maxHeartbeats 1000000 in
theorem from_stop (gf k : Nat) (text : List Int) (ent : Int) (w : World) (h : FlowAt w gf text ent) (hk : k < (blkL text ent).length) (hl : text.length ≤ 16384) (ho : dOp (lastW text ent k) = -1 ∨ dOp (lastW text ent k) = 0 ∨ dOp (lastW text ent k) = 21) :
    Calls Tryz.prog 112 #[.pointer (some ⟨gf, 0, none⟩), .int .i64 (k : Int)] w (RowR gf (rowZ (edgT text ent (blkL text ent).length) k) w) := by
  have C := leaps_any gf k text ent w h hk (by have := blk_len_le text ent; omega)
  rw [leap_no (by omega) (by omega)] at C
  rw [from_none hk ho]
  obtain ⟨A1, A3, c1, gN, c3, F, h⟩ := h
  obtain ⟨g1, e1, hc⟩ := h.last hk
  subst e1
  obtain ⟨q0, q1, q2⟩ := h.cells
  have r0 := hc 0 _ rfl
  have r1 := hc 1 _ rfl
  have r2 := hc 2 _ rfl
  have r3 := hc 3 _ rfl
  have r4 := hc 4 _ rfl
  rw [Nat.add_zero] at r0
  have hk' : (k : Int) < ((blkL text ent).length : Int) := by omega
  have hkb : (k : Int) ≤ 16384 := by have := blk_len_le text ent; omega
  clear hc

  clear h hk
  generalize dOp (lastW text ent k) = op at *
  generalize dD (lastW text ent k) = dd at *
  generalize dA (lastW text ent k) = da at *
  generalize dB (lastW text ent k) = db at *
  generalize dN (lastW text ent k) = dn at *
  generalize (blkL text ent).length = nb at *
  rcases ho with rfl | rfl | rfl
  all_goals (
    go_enter Tryz.func112, Tryz.ntmps112
    go_wp2_with (go_at_call 119; refine C.mono ?_; rintro e w2 ⟨rfl, rfl⟩)
    go_ret
    exact ⟨none, 0, rfl, World.ownsRow_nil _ _ _ _, lb_alloc (Below.refl _ _) _, .inl (fun q hq => by cases hq)⟩)

set_option maxRecDepth 100000 in
set_option maxHeartbeats 1000000 in
theorem from_fall (gf k : Nat) (text : List Int) (ml : Nat) (ent : Int) (w : World) (h : FlowAt w gf text ent) (hM : MayI text ml ent) (hk : k < (blkL text ent).length) (hl : text.length ≤ 16384) (ho : ¬ (dOp (lastW text ent k) = -1 ∨ dOp (lastW text ent k) = 0 ∨ dOp (lastW text ent k) = 21 ∨ dOp (lastW text ent k) = 15 ∨ dOp (lastW text ent k) = 17 ∨ dOp (lastW text ent k) = 16 ∨ dOp (lastW text ent k) = 18 ∨ dOp (lastW text ent k) = 19)) :
    Calls Tryz.prog 112 #[.pointer (some ⟨gf, 0, none⟩), .int .i64 (k : Int)] w (RowR gf (rowZ (edgT text ent (blkL text ent).length) k) w) := by
  have C := leaps_any gf k text ent w h hk (by have := blk_len_le text ent; omega)
  rw [leap_no (by omega) (by omega)] at C
  rw [from_next hM hk ho]
  obtain ⟨A1, A3, c1, gN, c3, F, h⟩ := h
  obtain ⟨g1, e1, hc⟩ := h.last hk
  subst e1
  obtain ⟨q0, q1, q2⟩ := h.cells
  have r0 := hc 0 _ rfl
  have r1 := hc 1 _ rfl
  have r2 := hc 2 _ rfl
  have r3 := hc 3 _ rfl
  have r4 := hc 4 _ rfl
  rw [Nat.add_zero] at r0
  have hk' : (k : Int) < ((blkL text ent).length : Int) := by omega
  have hkb : (k : Int) ≤ 16384 := by have := blk_len_le text ent; omega
  clear hc

  clear h hk hM
  generalize dOp (lastW text ent k) = op at *
  generalize dD (lastW text ent k) = dd at *
  generalize dA (lastW text ent k) = da at *
  generalize dB (lastW text ent k) = db at *
  generalize dN (lastW text ent k) = dn at *
  generalize (blkL text ent).length = nb at *
  have o1 : (op == -1) = false := by rw [beq_eq_false_iff_ne]; omega
  have o2 : (op == 0) = false := by rw [beq_eq_false_iff_ne]; omega
  have o3 : (op == 21) = false := by rw [beq_eq_false_iff_ne]; omega
  have o4 : (op == 15) = false := by rw [beq_eq_false_iff_ne]; omega
  have o5 : (op == 17) = false := by rw [beq_eq_false_iff_ne]; omega
  have o6 : (op == 16) = false := by rw [beq_eq_false_iff_ne]; omega
  clear ho
  go_enter Tryz.func112, Tryz.ntmps112
  go_wp2_with (go_at_call 119; refine C.mono ?_; rintro e w2 ⟨rfl, rfl⟩)
  go_ret
  exact ⟨_, _, rfl, new_one (by simp), lb_alloc (lb_alloc (Below.refl _ _) _) _, .inl (own_new rfl (by simp))⟩

set_option maxRecDepth 100000 in
set_option maxHeartbeats 1000000 in
theorem from_goto (gf k : Nat) (text : List Int) (ml : Nat) (ent : Int) (w : World) (h : FlowAt w gf text ent) (hM : MayI text ml ent) (hk : k < (blkL text ent).length) (hl : text.length ≤ 16384) (ho : dOp (lastW text ent k) = 15 ∨ dOp (lastW text ent k) = 17) :
    Calls Tryz.prog 112 #[.pointer (some ⟨gf, 0, none⟩), .int .i64 (k : Int)] w (RowR gf (rowZ (edgT text ent (blkL text ent).length) k) w) := by
  have C := leaps_any gf k text ent w h hk (by have := blk_len_le text ent; omega)
  rw [leap_no (by omega) (by omega)] at C
  obtain ⟨A1, A3, c1, gN, c3, F, h⟩ := h
  obtain ⟨g1, e1, hc⟩ := h.last hk
  subst e1
  obtain ⟨q0, q1, q2⟩ := h.cells
  have r0 := hc 0 _ rfl
  have r1 := hc 1 _ rfl
  have r2 := hc 2 _ rfl
  have r3 := hc 3 _ rfl
  have r4 := hc 4 _ rfl
  rw [Nat.add_zero] at r0
  have hk' : (k : Int) < ((blkL text ent).length : Int) := by omega
  have hkb : (k : Int) ≤ 16384 := by have := blk_len_le text ent; omega
  clear hc

  rw [from_jump hM h.num hk ho]
  obtain ⟨n0, n1⟩ := jump_in hM hk (by omega)
  have s0 := h.nums.cell n0 n1
  clear h hk hM
  generalize dOp (lastW text ent k) = op at *
  generalize dD (lastW text ent k) = dd at *
  generalize dA (lastW text ent k) = da at *
  generalize dB (lastW text ent k) = db at *
  generalize dN (lastW text ent k) = dn at *
  generalize (blkL text ent).length = nb at *
  generalize F dn = x at *
  obtain ⟨W, HW⟩ : ∃ W, Hid (w.alloc (.cells #[.int .i8 op, .int .i8 dd, .int .i8 da, .int .i8 db, .int .i64 dn] 67) = W) := ⟨_, rfl⟩
  have HB : Hid (Below w.heap.size w W) := by unfold Hid; rw [← HW.out]; exact lb_alloc (Below.refl _ _) _
  have i0 : W.cell? ⟨w.heap.size, 0, none⟩ = some (.int .i8 op) := by rw [← HW.out]; simp [go_sem]
  have i4 : W.cell? ⟨w.heap.size, 4, none⟩ = some (.int .i64 dn) := by rw [← HW.out]; simp [go_sem]
  have w1 := lkeep HB.out q1
  have ws := lkeep HB.out s0
  rcases ho with rfl | rfl
  all_goals (
    go_enter Tryz.func112, Tryz.ntmps112
    go_upto_region 4 with (go_at_call 119; refine C.mono ?_; rintro e w2 ⟨rfl, rfl⟩)
    rw [HW.out]
    clear HW q0 q1 q2 r0 r1 r2 r3 r4 s0
    go_upto_region 11 with fail
    go_region_held3 (fun X => Below w2.heap.size w2 X ∧ X.cell? ⟨gf, 1, none⟩ = some (.slice (some ⟨gN, 0, none⟩) text.length text.length) ∧ X.cell? ⟨w2.heap.size, 4, none⟩ = some (.int .i64 dn) ∧ X.cell? ⟨gN, dn.toNat, none⟩ = some (.int .i64 x)) (first | (refine ⟨?_, ?_, ?_, ?_⟩ <;> (first | exact HB.out.drew | exact HB.out | exact (lb_alloc HB.out _).drew | exact lb_alloc HB.out.drew _ | exact (lb_alloc HB.out.drew _).drew | exact Below.drew (lb_alloc (Below.drew HB.out) _) | exact lkeep (Below.drew (lb_alloc (Below.refl _ W) _)) w1 | exact lkeep (Below.drew (lb_alloc (Below.refl _ W) _)) i4 | exact lkeep (Below.drew (lb_alloc (Below.refl _ W) _)) ws | (simp [*]; done))) | (first | exact HB.out.drew | exact HB.out | exact (lb_alloc HB.out _).drew | exact lb_alloc HB.out.drew _ | exact (lb_alloc HB.out.drew _).drew | exact Below.drew (lb_alloc (Below.drew HB.out) _) | exact lkeep (Below.drew (lb_alloc (Below.refl _ W) _)) w1 | exact lkeep (Below.drew (lb_alloc (Below.refl _ W) _)) i4 | exact lkeep (Below.drew (lb_alloc (Below.refl _ W) _)) ws | (simp [*]; done))) (fail)
    all_goals (
      rename_i hS
      clear hS
      go_wp2_with fail
      go_ret
      refine ⟨_, _, rfl, new_one (by simp), ?_, .inl (own_new rfl (by have := HB.out.size; first | omega | (simp; omega)))⟩
      first | exact lb_alloc HB.out.drew _ | exact lb_alloc HB.out _ | exact (lb_alloc HB.out _).drew | exact (lb_alloc HB.out.drew _).drew))



end Go.Proofs.YtmlhnnmelopleaaGreatDoor

namespace Go.Proofs.YtmlhnnmelopleaaGreatDoor
open Go.RowKit

theorem pair_drew {w : World} {g : Nat} {x y : Int} (hg : g = w.heap.size) : (w.alloc (.cells #[.int .i64 x, .int .i64 y] 3)).drew.ownsRow 0 3 1 (.slice (some ⟨g, 0, none⟩) 2 2) 2 (iVals .i64 [x, y]) := row_keep (new_pair hg) (Below.drew (Below.refl _ _))
set_option maxRecDepth 100000 in
set_option maxHeartbeats 2000000 in
theorem from_cond (gf k : Nat) (text : List Int) (ml : Nat) (ent : Int) (w : World) (h : FlowAt w gf text ent) (hM : MayI text ml ent) (hk : k < (blkL text ent).length) (hl : text.length ≤ 16384) (ho : dOp (lastW text ent k) = 16) :
    Calls Tryz.prog 112 #[.pointer (some ⟨gf, 0, none⟩), .int .i64 (k : Int)] w (RowR gf (rowZ (edgT text ent (blkL text ent).length) k) w) := by
  have C := leaps_any gf k text ent w h hk (by have := blk_len_le text ent; omega)
  rw [leap_no (by omega) (by omega)] at C
  obtain ⟨A1, A3, c1, gN, c3, F, h⟩ := h
  obtain ⟨g1, e1, hc⟩ := h.last hk
  subst e1
  obtain ⟨q0, q1, q2⟩ := h.cells
  have r0 := hc 0 _ rfl
  have r1 := hc 1 _ rfl
  have r2 := hc 2 _ rfl
  have r3 := hc 3 _ rfl
  have r4 := hc 4 _ rfl
  rw [Nat.add_zero] at r0
  have hk' : (k : Int) < ((blkL text ent).length : Int) := by omega
  have hkb : (k : Int) ≤ 16384 := by have := blk_len_le text ent; omega
  clear hc

  rw [from_zero hM h.num hk ho]
  obtain ⟨n0, n1⟩ := jump_in hM hk (by omega)
  have s0 := h.nums.cell n0 n1
  clear h hk hM
  generalize dOp (lastW text ent k) = op at *
  generalize dD (lastW text ent k) = dd at *
  generalize dA (lastW text ent k) = da at *
  generalize dB (lastW text ent k) = db at *
  generalize dN (lastW text ent k) = dn at *
  generalize (blkL text ent).length = nb at *
  generalize F dn = x at *
  obtain ⟨W, HW⟩ : ∃ W, Hid (w.alloc (.cells #[.int .i8 op, .int .i8 dd, .int .i8 da, .int .i8 db, .int .i64 dn] 67) = W) := ⟨_, rfl⟩
  have HB : Hid (Below w.heap.size w W) := by unfold Hid; rw [← HW.out]; exact lb_alloc (Below.refl _ _) _
  have i0 : W.cell? ⟨w.heap.size, 0, none⟩ = some (.int .i8 op) := by rw [← HW.out]; simp [go_sem]
  have i4 : W.cell? ⟨w.heap.size, 4, none⟩ = some (.int .i64 dn) := by rw [← HW.out]; simp [go_sem]
  have w1 := lkeep HB.out q1
  have ws := lkeep HB.out s0
  have CR := fun (g : Nat) (wx : World) (hx : wx.ownsRow 0 3 1 (.slice (some ⟨g, 0, none⟩) 2 2) 2 (iVals .i64 [x, (k : Int) + 1])) => rising_any 0 (some ⟨g, 0, none⟩) 2 [x, (k : Int) + 1] wx hx (by simp)
  have CR : ∀ (g : Nat) (wx : World), wx.ownsRow 0 3 1 (.slice (some ⟨g, 0, none⟩) 2 2) 2 (iVals .i64 [x, (k : Int) + 1]) → Calls Tryz.prog 118 #[.slice (some ⟨g, 0, none⟩) 2 2] wx (RowP (risZ [x, (k : Int) + 1]) wx) := CR
  generalize risZ [x, (k : Int) + 1] = l at *
  subst ho
  go_enter Tryz.func112, Tryz.ntmps112
  go_upto_region 4 with (go_at_call 119; refine C.mono ?_; rintro e w2 ⟨rfl, rfl⟩)
  rw [HW.out]
  clear HW q0 q1 q2 r0 r1 r2 r3 r4 s0
  have hwr : IntKind.i64.wrap ((k : Int) + 1) = (k : Int) + 1 := by rw [IntKind.wrap_i64]; omega
  go_upto_region 13 with fail
  go_region_held3 (fun X => Below W.heap.size W X ∧ X.cell? ⟨gf, 1, none⟩ = some (.slice (some ⟨gN, 0, none⟩) text.length text.length) ∧ X.cell? ⟨w2.heap.size, 4, none⟩ = some (.int .i64 dn) ∧ X.cell? ⟨gN, dn.toNat, none⟩ = some (.int .i64 x)) (first | exact ⟨hY, lkeep hY w1, lkeep hY i4, lkeep hY ws⟩ | exact ⟨hY.drew, lkeep hY.drew w1, lkeep hY.drew i4, lkeep hY.drew ws⟩ | exact ⟨Below.drew (Below.refl _ _), w1, i4, ws⟩ | exact ⟨Below.drew (lb_alloc (Below.refl _ W) _), lkeep (Below.drew (lb_alloc (Below.refl _ W) _)) w1, lkeep (Below.drew (lb_alloc (Below.refl _ W) _)) i4, lkeep (Below.drew (lb_alloc (Below.refl _ W) _)) ws⟩ | (simp [*]; done))
    ((go_at_call 118; refine (CR _ _ (by first | exact new_pair rfl | exact pair_drew rfl | exact new_pair (by simp) | exact pair_drew (by simp))).mono ?_; rintro e w3 ⟨A9, c9, rfl, ho9, hb9⟩; have hY : Below W.heap.size W w3 := lb_trans (by first | exact Below.drew (lb_alloc (Below.refl _ W) _) | exact lb_alloc (Below.refl _ W) _) hb9))
  all_goals (
    rename_i hS
    clear hS
    go_wp2_with fail
    go_ret
    exact ⟨A9, c9, rfl, ownsRow_mono ho9 (Nat.zero_le _), lb_trans HB.out hY, .inl (fun q hq => Nat.le_trans (Nat.le_trans HB.out.size (by simp)) (ho9.lt q hq).1)⟩)
theorem from_any (gf k : Nat) (text : List Int) (ml : Nat) (ent : Int) (w : World) (h : FlowAt w gf text ent) (hM : MayI text ml ent) (hk : k < (blkL text ent).length) :
    Calls Tryz.prog 112 #[.pointer (some ⟨gf, 0, none⟩), .int .i64 (k : Int)] w (RowR gf (rowZ (edgT text ent (blkL text ent).length) k) w) := by
  have hl := hM.past.len
  by_cases h1 : dOp (lastW text ent k) = 18 ∨ dOp (lastW text ent k) = 19
  · exact from_leap gf k text ent w h hk hl h1
  by_cases h2 : dOp (lastW text ent k) = -1 ∨ dOp (lastW text ent k) = 0 ∨ dOp (lastW text ent k) = 21
  · exact from_stop gf k text ent w h hk hl h2
  by_cases h3 : dOp (lastW text ent k) = 15 ∨ dOp (lastW text ent k) = 17
  · exact from_goto gf k text ml ent w h hM hk hl h3
  by_cases h4 : dOp (lastW text ent k) = 16
  · exact from_cond gf k text ml ent w h hM hk hl h4
  exact from_fall gf k text ml ent w h hM hk hl (by omega)



end Go.Proofs.YtmlhnnmelopleaaGreatDoor

namespace Go.Proofs.YtmlhnnmelopleaaGreatDoor
open Go.RowKit

/-- The rows as they are filled. -/
def edL (L : List (List Int)) (k : Nat) : List (List Int) := (List.range L.length).map fun i => if i < k then rowZ L i else []
theorem edL_len (L : List (List Int)) (k : Nat) : (edL L k).length = L.length := by simp [edL]
theorem edL_zero (L : List (List Int)) : edL L 0 = List.replicate L.length [] := by
  apply List.ext_getElem?
  intro t
  by_cases ht : t < L.length
  · simp [edL, ht]
  · rw [List.getElem?_eq_none (by rw [edL_len]; omega), List.getElem?_replicate, if_neg ht]
theorem edL_step {L : List (List Int)} {k : Nat} (h : k < L.length) : edL L (k + 1) = (edL L k).set k (rowZ L k) := by
  apply List.ext_getElem?
  intro t
  rw [List.getElem?_set, edL_len]
  by_cases ht : t < L.length
  · have a : (edL L (k + 1))[t]? = some (if t < k + 1 then rowZ L t else []) := by simp [edL, ht]
    have b : (edL L k)[t]? = some (if t < k then rowZ L t else []) := by simp [edL, ht]
    rw [a, b]
    by_cases e : k = t
    · subst e
      rw [if_pos rfl, if_pos h, if_pos (by omega)]
    · rw [if_neg e]
      congr 1
      by_cases h1 : t < k
      · rw [if_pos h1, if_pos (by omega)]
      · rw [if_neg h1, if_neg (by omega)]
  · rw [List.getElem?_eq_none (by rw [edL_len]; omega), if_neg (by omega), List.getElem?_eq_none (by rw [edL_len]; omega)]
theorem edL_end (L : List (List Int)) : edL L L.length = L := by
  apply List.ext_getElem?
  intro t
  by_cases ht : t < L.length
  · have a : (edL L L.length)[t]? = some (rowZ L t) := by simp [edL, ht]
    rw [a]
    simp [rowZ, List.getD, ht]
  · rw [List.getElem?_eq_none (by rw [edL_len]; omega), List.getElem?_eq_none (by omega)]

set_option maxRecDepth 100000 in
set_option maxHeartbeats 4000000 in
theorem edges_any (A1 A2 : Option Addr) (c1 ml c2 : Nat) (ent : Int) (text : List Int) (w : World) (hT : IntsAt w A1 .u32 text) (hR : ∀ i, i < text.length → 0 ≤ nth text i ∧ nth text i < 4294967296) (hl : text.length ≤ 1048576) (hm : ml ≤ 1048576) :
    Calls Tryz.prog 106 #[.agg #[.slice A1 text.length c1, .int .i64 ent, .slice A2 ml c2]] w (ZE (checkI text ml ent).1 (outE text ml ent) w) := by
  obtain ⟨W, HW⟩ : ∃ W, Hid (w.alloc (.cells #[.slice A1 text.length c1, .int .i64 ent, .slice A2 ml c2] 31) = W) := ⟨_, rfl⟩
  have HB : Hid (Below w.heap.size w W) := by unfold Hid; rw [← HW.out]; exact lb_alloc (Below.refl _ _) _
  have i0 : W.cell? ⟨w.heap.size, 0, none⟩ = some (.slice A1 text.length c1) := by rw [← HW.out]; simp [go_sem]
  have i1 : W.cell? ⟨w.heap.size, 1, none⟩ = some (.int .i64 ent) := by rw [← HW.out]; simp [go_sem]
  have i2 : W.cell? ⟨w.heap.size, 2, none⟩ = some (.slice A2 ml c2) := by rw [← HW.out]; simp [go_sem]
  by_cases hE : (checkI text ml ent).1 = 0
  · have C := flow_ok A1 A2 c1 ml c2 ent text W (hT.keep HB.out) hR hl hm hE
    have HM : Hid (MayI text ml ent) := check_mayI hE
    have HO : Hid (outE text ml ent = edgT text ent (blkL text ent).length) := if_pos hE
    have HEl : Hid ((edgT text ent (blkL text ent).length).length = (blkL text ent).length) := edgT_len text ent _
    have hl4 : text.length ≤ 16384 := HM.out.past.len
    have hLt := blk_len_le text ent
    have HRl : Hid (∀ k, k < (blkL text ent).length → (rowZ (edgT text ent (blkL text ent).length) k).length ≤ 65536) := fun k hk => by
      rw [edg_row hk]
      have := plcT_len (edgR text ent k) (blkL text ent).length
      omega
    rw [HO.out, hE]
    clear hT hR hE HO
    have hmk := make_sl (blkL text ent).length (by omega)
    go_enter Tryz.func106, Tryz.ntmps106
    go_upto_region 1 with fail
    rw [HW.out]
    clear HW
    go_upto_region 4 with (go_at_call 110; refine C.mono ?_; rintro e w1 ⟨gf, rfl, hf, hb1⟩; have HF : Hid (FlowAt w1 gf text ent) := hf; have HB1 : Hid (Below w.heap.size w w1) := lb_trans HB.out hb1; clear hf hb1 i0 i1 i2)
    clear C
    have HFc : Hid (∃ A c, w1.cell? ⟨gf, 0, none⟩ = some (.slice A (blkL text ent).length c)) := by
      obtain ⟨A1', A3, c1', gN, c3, F, h⟩ := HF.out
      exact ⟨_, _, h.cells.1⟩
    obtain ⟨AL, cL, f0⟩ := HFc.out
    clear HFc
    have HB0 : Hid (Below w1.heap.size w1 (w1.alloc (.cells (madeCells #[.slice none 0 0] (blkL text ent).length) 32))) := lb_alloc (Below.refl _ _) _
    have HW0 : Hid (RowsW (w1.alloc (.cells (madeCells #[.slice none 0 0] (blkL text ent).length) 32)) w1.heap.size w1.heap.size (blkL text ent).length (List.replicate (blkL text ent).length (.slice none 0 0)) (edL (edgT text ent (blkL text ent).length) 0)) := by
      unfold Hid
      rw [edL_zero, HEl.out]
      exact RowsW.made w1 (blkL text ent).length (by omega)
    go_wp2
    go_loopw [24] (fun i wr => ∃ (k : Nat) (vs : List Value), i = .int .i64 k ∧ k ≤ (blkL text ent).length ∧ Hid (RowsW wr w1.heap.size w1.heap.size (blkL text ent).length vs (edL (edgT text ent (blkL text ent).length) k)) ∧ Hid (Below w1.heap.size w1 wr)) (fun i _ => (blkL text ent).length - (intOf i).toNat)
    case atStart => exact ⟨0, _, rfl, Nat.zero_le _, HW0, HB0⟩
    case round =>
      clear HW0 HB0 hmk f0
      obtain ⟨k, vs, rfl, hk, HW, HBr⟩ := hrel
      by_cases hlt : k < (blkL text ent).length
      · have hlt' : (k : Int) < ((blkL text ent).length : Int) := by omega
        have C1 := from_any gf k text ml ent wr (HF.out.keep HBr.out) HM.out hlt
        have HSt : Hid (edL (edgT text ent (blkL text ent).length) (k + 1) = (edL (edgT text ent (blkL text ent).length) k).set k (rowZ (edgT text ent (blkL text ent).length) k)) := edL_step (by rw [HEl.out]; exact hlt)
        have hrl := HRl.out k hlt
        generalize rowZ (edgT text ent (blkL text ent).length) k = l at *
        have C2 := fun (A : Option Addr) (c : Nat) (wx : World) (hx : wx.ownsRow 0 3 1 (.slice A l.length c) l.length (iVals .i64 l)) => clone_any 0 A c l wx hx (by omega)
        go_upto_region 9 with (first
          | (go_at_call 112; refine C1.mono ?_; rintro e w2 ⟨Af, cf, rfl, hof, hb2, -⟩; have HO2 : Hid (w2.ownsRow 0 3 1 (.slice Af l.length cf) l.length (iVals .i64 l)) := hof; have HW2 : Hid (RowsW w2 w1.heap.size w1.heap.size (blkL text ent).length vs (edL (edgT text ent (blkL text ent).length) k)) := HW.out.keep hb2; have HB2 : Hid (Below w1.heap.size w1 w2) := lb_trans HBr.out hb2; clear hof hb2)
          | (go_at_call 111; refine (C2 _ _ _ HO2.out).mono ?_; rintro e w3 ⟨A3, c3, rfl, ho3, hb3⟩; have HW3 : Hid (RowsW (w3.setCell ⟨w1.heap.size, k, none⟩ (.slice A3 l.length c3)) w1.heap.size w1.heap.size (blkL text ent).length (vs.set k (.slice A3 l.length c3)) ((edL (edgT text ent (blkL text ent).length) k).set k l)) := HW2.out.put hlt (ownsRow_mono ho3 HB2.out.size) (grown_of hb3) (fun q hq => .inr (ho3.lt q hq).1); have HB3 : Hid (Below w1.heap.size w1 (w3.setCell ⟨w1.heap.size, k, none⟩ (.slice A3 l.length c3))) := HW2.out.below hlt (Nat.le_refl _) HB2.out HB2.out.size (grown_of hb3) _; have hcf := HW2.out.grown hlt (grown_of hb3); have hc3 := hcf.1; have hf3 := hcf.2; clear ho3 hb3 hcf))
        go_wp2
        go_roundw
        case rel => exact ⟨k + 1, _, by go_num, by omega, by rw [HSt.out]; exact HW3, HB3⟩
        case measure => simp [intOf]; omega
      · obtain rfl : k = (blkL text ent).length := by omega
        have HR9 : Hid (IntsZ wr (some ⟨w1.heap.size, 0, none⟩) (edgT text ent (blkL text ent).length)) := by
          have h := HW.out
          rw [show edL (edgT text ent (blkL text ent).length) (blkL text ent).length = edgT text ent (blkL text ent).length by
            have := edL_end (edgT text ent (blkL text ent).length)
            rwa [HEl.out] at this] at h
          exact h.rows.ints
        go_wp2
        go_ret2
        exact ⟨_, _, by rw [HEl.out]; rfl, HR9.out, lb_trans HB1.out HBr.out⟩
  · have C := flow_no A1 A2 c1 ml c2 ent text W (hT.keep HB.out) hR hl hm hE
    have HO : Hid (outE text ml ent = []) := if_neg hE
    have hne : ((checkI text ml ent).1 == 0) = false := by simpa using hE
    have hne2 : ((checkI text ml ent).1 != 0) = true := by simpa using hE
    rw [HO.out]
    clear hE HO hT hR
    generalize (checkI text ml ent).1 = E at *
    go_enter Tryz.func106, Tryz.ntmps106
    go_upto_region 1 with fail
    rw [HW.out]
    clear HW
    go_wp2_with (go_at_call 110; refine C.mono ?_; rintro e w1 ⟨rfl, hb1⟩)
    go_ret2
    exact ⟨none, 0, rfl, fun i hi => absurd hi (Nat.not_lt_zero _), lb_trans HB.out hb1⟩
theorem edgesOK : EdgesOK := edges_any



end Go.Proofs.YtmlhnnmelopleaaGreatDoor

namespace Go.Proofs.YtmlhnnmelopleaaGreatDoor
open Go.RowKit

/-- Lists in a block of its own. -/
def EdO (text : List Int) (ent : Int) (w : World) (e : Ending) (w' : World) : Prop := ∃ (g : Nat) (vs : List Value), e = .returned (.tuple #[.slice (some ⟨g, 0, none⟩) (blkL text ent).length (blkL text ent).length, .int .i64 0]) ∧ RowsW w' g g (blkL text ent).length vs (edgT text ent (blkL text ent).length) ∧ w.heap.size ≤ g ∧ Below w.heap.size w w'
set_option maxRecDepth 100000 in
set_option maxHeartbeats 4000000 in
theorem edges_own (A1 A2 : Option Addr) (c1 ml c2 : Nat) (ent : Int) (text : List Int) (w : World) (hT : IntsAt w A1 .u32 text) (hR : ∀ i, i < text.length → 0 ≤ nth text i ∧ nth text i < 4294967296) (hl : text.length ≤ 1048576) (hm : ml ≤ 1048576) (hE : (checkI text ml ent).1 = 0) :
    Calls Tryz.prog 106 #[.agg #[.slice A1 text.length c1, .int .i64 ent, .slice A2 ml c2]] w (EdO text ent w) := by
  obtain ⟨W, HW⟩ : ∃ W, Hid (w.alloc (.cells #[.slice A1 text.length c1, .int .i64 ent, .slice A2 ml c2] 31) = W) := ⟨_, rfl⟩
  have HB : Hid (Below w.heap.size w W) := by unfold Hid; rw [← HW.out]; exact lb_alloc (Below.refl _ _) _
  have i0 : W.cell? ⟨w.heap.size, 0, none⟩ = some (.slice A1 text.length c1) := by rw [← HW.out]; simp [go_sem]
  have i1 : W.cell? ⟨w.heap.size, 1, none⟩ = some (.int .i64 ent) := by rw [← HW.out]; simp [go_sem]
  have i2 : W.cell? ⟨w.heap.size, 2, none⟩ = some (.slice A2 ml c2) := by rw [← HW.out]; simp [go_sem]
  have C := flow_ok A1 A2 c1 ml c2 ent text W (hT.keep HB.out) hR hl hm hE
  have HM : Hid (MayI text ml ent) := check_mayI hE
  have HO : Hid (outE text ml ent = edgT text ent (blkL text ent).length) := if_pos hE
  have HEl : Hid ((edgT text ent (blkL text ent).length).length = (blkL text ent).length) := edgT_len text ent _
  have hl4 : text.length ≤ 16384 := HM.out.past.len
  have hLt := blk_len_le text ent
  have HRl : Hid (∀ k, k < (blkL text ent).length → (rowZ (edgT text ent (blkL text ent).length) k).length ≤ 65536) := fun k hk => by
    rw [edg_row hk]
    have := plcT_len (edgR text ent k) (blkL text ent).length
    omega
  clear hT hR hE HO
  have hmk := make_sl (blkL text ent).length (by omega)
  go_enter Tryz.func106, Tryz.ntmps106
  go_upto_region 1 with fail
  rw [HW.out]
  clear HW
  go_upto_region 4 with (go_at_call 110; refine C.mono ?_; rintro e w1 ⟨gf, rfl, hf, hb1⟩; have HF : Hid (FlowAt w1 gf text ent) := hf; have HB1 : Hid (Below w.heap.size w w1) := lb_trans HB.out hb1; clear hf hb1 i0 i1 i2)
  clear C
  have HFc : Hid (∃ A c, w1.cell? ⟨gf, 0, none⟩ = some (.slice A (blkL text ent).length c)) := by
    obtain ⟨A1', A3, c1', gN, c3, F, h⟩ := HF.out
    exact ⟨_, _, h.cells.1⟩
  obtain ⟨AL, cL, f0⟩ := HFc.out
  clear HFc
  have HB0 : Hid (Below w1.heap.size w1 (w1.alloc (.cells (madeCells #[.slice none 0 0] (blkL text ent).length) 32))) := lb_alloc (Below.refl _ _) _
  have HW0 : Hid (RowsW (w1.alloc (.cells (madeCells #[.slice none 0 0] (blkL text ent).length) 32)) w1.heap.size w1.heap.size (blkL text ent).length (List.replicate (blkL text ent).length (.slice none 0 0)) (edL (edgT text ent (blkL text ent).length) 0)) := by
    unfold Hid
    rw [edL_zero, HEl.out]
    exact RowsW.made w1 (blkL text ent).length (by omega)
  go_wp2
  go_loopw [24] (fun i wr => ∃ (k : Nat) (vs : List Value), i = .int .i64 k ∧ k ≤ (blkL text ent).length ∧ Hid (RowsW wr w1.heap.size w1.heap.size (blkL text ent).length vs (edL (edgT text ent (blkL text ent).length) k)) ∧ Hid (Below w1.heap.size w1 wr)) (fun i _ => (blkL text ent).length - (intOf i).toNat)
  case atStart => exact ⟨0, _, rfl, Nat.zero_le _, HW0, HB0⟩
  case round =>
    clear HW0 HB0 hmk f0
    obtain ⟨k, vs, rfl, hk, HW, HBr⟩ := hrel
    by_cases hlt : k < (blkL text ent).length
    · have hlt' : (k : Int) < ((blkL text ent).length : Int) := by omega
      have C1 := from_any gf k text ml ent wr (HF.out.keep HBr.out) HM.out hlt
      have HSt : Hid (edL (edgT text ent (blkL text ent).length) (k + 1) = (edL (edgT text ent (blkL text ent).length) k).set k (rowZ (edgT text ent (blkL text ent).length) k)) := edL_step (by rw [HEl.out]; exact hlt)
      have hrl := HRl.out k hlt
      generalize rowZ (edgT text ent (blkL text ent).length) k = l at *
      have C2 := fun (A : Option Addr) (c : Nat) (wx : World) (hx : wx.ownsRow 0 3 1 (.slice A l.length c) l.length (iVals .i64 l)) => clone_any 0 A c l wx hx (by omega)
      go_upto_region 9 with (first
        | (go_at_call 112; refine C1.mono ?_; rintro e w2 ⟨Af, cf, rfl, hof, hb2, -⟩; have HO2 : Hid (w2.ownsRow 0 3 1 (.slice Af l.length cf) l.length (iVals .i64 l)) := hof; have HW2 : Hid (RowsW w2 w1.heap.size w1.heap.size (blkL text ent).length vs (edL (edgT text ent (blkL text ent).length) k)) := HW.out.keep hb2; have HB2 : Hid (Below w1.heap.size w1 w2) := lb_trans HBr.out hb2; clear hof hb2)
        | (go_at_call 111; refine (C2 _ _ _ HO2.out).mono ?_; rintro e w3 ⟨A3, c3, rfl, ho3, hb3⟩; have HW3 : Hid (RowsW (w3.setCell ⟨w1.heap.size, k, none⟩ (.slice A3 l.length c3)) w1.heap.size w1.heap.size (blkL text ent).length (vs.set k (.slice A3 l.length c3)) ((edL (edgT text ent (blkL text ent).length) k).set k l)) := HW2.out.put hlt (ownsRow_mono ho3 HB2.out.size) (grown_of hb3) (fun q hq => .inr (ho3.lt q hq).1); have HB3 : Hid (Below w1.heap.size w1 (w3.setCell ⟨w1.heap.size, k, none⟩ (.slice A3 l.length c3))) := HW2.out.below hlt (Nat.le_refl _) HB2.out HB2.out.size (grown_of hb3) _; have hcf := HW2.out.grown hlt (grown_of hb3); have hc3 := hcf.1; have hf3 := hcf.2; clear ho3 hb3 hcf))
      go_wp2
      go_roundw
      case rel => exact ⟨k + 1, _, by go_num, by omega, by rw [HSt.out]; exact HW3, HB3⟩
      case measure => simp [intOf]; omega
    · obtain rfl : k = (blkL text ent).length := by omega
      have HR9 : Hid (RowsW wr w1.heap.size w1.heap.size (blkL text ent).length vs (edgT text ent (blkL text ent).length)) := by
        have h := HW.out
        rw [show edL (edgT text ent (blkL text ent).length) (blkL text ent).length = edgT text ent (blkL text ent).length by
          have := edL_end (edgT text ent (blkL text ent).length)
          rwa [HEl.out] at this] at h
        exact h
      have hz1 := HB1.out.size
      go_wp2
      go_ret2
      exact ⟨_, vs, rfl, HR9.out, hz1, lb_trans HB1.out HBr.out⟩


end Go.Proofs.YtmlhnnmelopleaaGreatDoor
