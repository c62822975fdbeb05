/-
  Two lists of the same objects are equal. Objects of package list: the texts of objects, or the first error.
-/
import Derived.Test.YtbckolkgncajfaaGreatDoorProg
import Derived.WalkKit
import Derived.WalkSpells
import Derived.WalkLawsBesides
import Derived.RowKit3
import Derived.Below
import Derived.Deep.QuietTactic
import Derived.BigQuiet
import Derived.WalkSmall
import Derived.Laws.Rows
import Derived.Test.YtbckolkgncajfaaGreatDoorLo37
import Derived.Test.YtbckolkgncajfaaGreatDoorLo43
import Derived.Deep.RegionHeld3
import Derived.Test.YtbckolkgncajfaaGreatDoorLo19
import Derived.Test.YtbckolkgncajfaaGreatDoorLo35
namespace Go.Proofs.YtbckolkgncajfaaGreatDoor
open Go.RowKit

set_option maxHeartbeats 4000000 in
set_option maxRecDepth 100000 in
theorem eqobs_same (A B : Option Addr) (ca cb : Nat) (q r : Nat → Pl) (l : List Ob) (w : World) (hA : ObsIn w A q l) (hB : ObsIn w B r l) :
    Calls Tryz.prog 19 #[.slice A l.length ca, .slice B l.length cb] w fun e w' => e = .returned (.bool true) ∧ Below w.heap.size w w' := by
  have HA : Hid (ObsIn w A q l) := hA
  have HB : Hid (ObsIn w B r l) := hB
  have hf := hA.few
  clear hA hB
  go_enter Tryz.func19, Tryz.ntmps19
  go_wp2
  go_loopw [5] (fun i wr => ∃ k : Nat, i = .int .i64 k ∧ k ≤ l.length ∧ Hid (Below w.heap.size w wr)) (fun i _ => l.length - (intOf i).toNat)
  case atStart => exact ⟨0, rfl, Nat.zero_le _, Below.refl _ _⟩
  case round =>
    obtain ⟨k, rfl, hk, HB1⟩ := hrel
    by_cases hlt : k < l.length
    · obtain ⟨a, ea, x0, x1, x2, x3, x4, x5⟩ := HA.out.cells.six HB1.out k hlt
      obtain ⟨b, eb, y0, y1, y2, y3, y4, y5⟩ := HB.out.cells.six HB1.out k hlt
      have oA := (HA.out.each k hlt).keep HB1.out
      have oB := (HB.out.each k hlt).keep HB1.out
      have CE := fun wx (hx : Below wr.heap.size wr wx) => eqobj_same (ob l k).nm (ob l k).dA (q k).A1 (q k).A2 (q k).A3 (q k).A4 (q k).c1 (q k).c2 (q k).c3 (q k).c4 (ob l k).code (ob l k).data (ob l k).ss (ob l k).rs wx (r k).A1 (r k).A2 (r k).A3 (r k).A4 (r k).c1 (r k).c2 (r k).c3 (r k).c4 (oA.keep hx).cd (oA.keep hx).dt (oA.keep hx).sy (oA.keep hx).rl oA.hc oA.hd oA.hs oA.hl (oB.keep hx).cd (oB.keep hx).dt (oB.keep hx).sy (oB.keep hx).rl
      clear oA oB
      subst ea eb
      have BW : Below w.heap.size w wr.drew := HB1.out.drew
      have BR : Below wr.heap.size wr wr.drew := (Below.refl _ _).drew
      go_wp2_with fail
      go_region_held3 (fun X => Below w.heap.size w X ∧ Below wr.heap.size wr X ∧ X.cell? (a.add (k * 6)) = some (.string (ob l k).nm) ∧ X.cell? ⟨(a.add (k * 6)).block, (a.add (k * 6)).off + 1, none⟩ = some (.slice (q k).A1 (ob l k).code.length (q k).c1) ∧ X.cell? ⟨(a.add (k * 6)).block, (a.add (k * 6)).off + 2, none⟩ = some (.int .i64 (ob l k).dA) ∧ X.cell? ⟨(a.add (k * 6)).block, (a.add (k * 6)).off + 3, none⟩ = some (.slice (q k).A2 (ob l k).data.length (q k).c2) ∧ X.cell? ⟨(a.add (k * 6)).block, (a.add (k * 6)).off + 4, none⟩ = some (.slice (q k).A3 (ob l k).ss.length (q k).c3) ∧ X.cell? ⟨(a.add (k * 6)).block, (a.add (k * 6)).off + 5, none⟩ = some (.slice (q k).A4 (ob l k).rs.length (q k).c4) ∧ X.cell? (b.add (k * 6)) = some (.string (ob l k).nm) ∧ X.cell? ⟨(b.add (k * 6)).block, (b.add (k * 6)).off + 1, none⟩ = some (.slice (r k).A1 (ob l k).code.length (r k).c1) ∧ X.cell? ⟨(b.add (k * 6)).block, (b.add (k * 6)).off + 2, none⟩ = some (.int .i64 (ob l k).dA) ∧ X.cell? ⟨(b.add (k * 6)).block, (b.add (k * 6)).off + 3, none⟩ = some (.slice (r k).A2 (ob l k).data.length (r k).c2) ∧ X.cell? ⟨(b.add (k * 6)).block, (b.add (k * 6)).off + 4, none⟩ = some (.slice (r k).A3 (ob l k).ss.length (r k).c3) ∧ X.cell? ⟨(b.add (k * 6)).block, (b.add (k * 6)).off + 5, none⟩ = some (.slice (r k).A4 (ob l k).rs.length (r k).c4))
        (first | (refine ⟨lb_trans ?_ hb, lb_trans ?_ hb, lkeep hb ?_, lkeep hb ?_, lkeep hb ?_, lkeep hb ?_, lkeep hb ?_, lkeep hb ?_, lkeep hb ?_, lkeep hb ?_, lkeep hb ?_, lkeep hb ?_, lkeep hb ?_, lkeep hb ?_⟩ <;> (simp [*]; done)) | (simp [*]; done))
        ((go_at_call 49; refine (CE _ (by first | assumption | exact (‹Below _ _ _ ∧ _›).2.1)).mono ?_; rintro e w1 ⟨rfl, hb⟩))
      rename_i hS'
      have HB2 : Hid (Below w.heap.size w _) := hS'.1
      clear hS' CE x0 x1 x2 x3 x4 x5 y0 y1 y2 y3 y4 y5 BW BR
      go_wp2
      go_roundw
      case rel => exact ⟨k + 1, by go_num, by omega, HB2⟩
      case measure => simp [intOf]; omega
    · go_wp2
      go_ret
      exact ⟨rfl, HB1.out⟩

end Go.Proofs.YtbckolkgncajfaaGreatDoor

namespace Go.Proofs.YtbckolkgncajfaaGreatDoor
open Go.RowKit

/-- The texts of objects, each by itself. -/
def partsO (l : List Ob) : List ByteArray := l.map fun o => bs (obT o)
theorem partsO_len (l : List Ob) : (partsO l).length = l.length := by simp [partsO]
theorem join_none (ps : List ByteArray) : joinB [] ps = (ps.map fun p => p.data.toList).flatten := by
  cases ps with
  | nil => rfl
  | cons x r => simp [joinB, List.flatMap]
theorem join_parts (l : List Ob) : joinB [] (partsO l) = obsT l := by
  rw [join_none]
  unfold partsO obsT
  rw [List.map_map]
  congr 1
set_option maxHeartbeats 4000000 in
set_option maxRecDepth 100000 in
theorem objects_any (A : Option Addr) (ca : Nat) (q : Nat → Pl) (l : List Ob) (w : World) (hA : ObsIn w A q l) (ht : Tab w) (hN : Nm w) (hK : Kd w) :
    Calls Tryz.prog 17 #[.slice A l.length ca] w (TellsP l w) := by
  have HA : Hid (ObsIn w A q l) := hA
  have HT : Hid (Tab w) := ht
  have HN : Hid (Nm w) := hN
  have HK : Hid (Kd w) := hK
  have hf := hA.few
  have HE0 : Hid (obsE (l.drop 0) = obsE l) := rfl
  have hmk := made_strs l.length (by omega) (fS (partsO l))
  have HB1 : Hid (Below w.heap.size w (w.alloc (.cells (wcur (fS (partsO l)) zS l.length 0) 9))) := lb_alloc (Below.refl _ _) _
  have HX1 : Hid ((w.alloc (.cells (wcur (fS (partsO l)) zS l.length 0) 9)).heap[w.heap.size]? = some (.cells (wcur (fS (partsO l)) zS l.length 0) 9 (0, 0))) := heap_alloc_new _ _
  clear hA ht hN hK
  go_enter Tryz.func17, Tryz.ntmps17
  go_wp2
  go_loopw [15] (fun i wr => ∃ k : Nat, i = .int .i64 k ∧ k ≤ l.length ∧ Hid (Below w.heap.size w wr) ∧ Hid (wr.heap[w.heap.size]? = some (.cells (wcur (fS (partsO l)) zS l.length k) 9 (0, 0))) ∧ Hid (obsE (l.drop k) = obsE l)) (fun i _ => l.length - (intOf i).toNat)
  case atStart => exact ⟨0, rfl, Nat.zero_le _, HB1, HX1, HE0⟩
  case round =>
    clear hmk HB1 HX1 HE0
    obtain ⟨k, rfl, hk, HB, HX, HE⟩ := hrel
    by_cases hlt : k < l.length
    · obtain ⟨a, ea, x0, x1, x2, x3, x4, x5⟩ := HA.out.cells.six HB.out k hlt
      have oA := (HA.out.each k hlt).keep HB.out
      have CE := fun wx (hx : Below wr.heap.size wr wx) => object_any (ob l k).nm (ob l k).dA (q k).A1 (q k).A2 (q k).A3 (q k).A4 (q k).c1 (q k).c2 (q k).c3 (q k).c4 (ob l k).code (ob l k).data (ob l k).ss (ob l k).rs wx (oA.keep hx) (HT.out.below (lb_trans HB.out hx)) (HN.out.below (lb_trans HB.out hx)) (HK.out.below (lb_trans HB.out hx))
      have hst := obsE_take hlt HE.out
      have CE2 : ∀ wx, Below wr.heap.size wr wx → Calls Tryz.prog 21 #[.agg #[.string (ob l k).nm, .slice (q k).A1 (ob l k).code.length (q k).c1, .int .i64 (ob l k).dA, .slice (q k).A2 (ob l k).data.length (q k).c2, .slice (q k).A3 (ob l k).ss.length (q k).c3, .slice (q k).A4 (ob l k).rs.length (q k).c4]] wx (fun e w' => e = .returned (.tuple #[.string (bs (obT (ob l k))), .int .i64 (obE (ob l k))]) ∧ Below wx.heap.size wx w') := CE
      have hS := wcur_set (fS (partsO l)) zS l.length k hlt
      have hF : fS (partsO l) k = .string (bs (obT (ob l k))) := by
        unfold fS pn partsO ob
        simp [hlt]
      rw [hF] at hS
      have HSet : Hid _ := hS
      have hG := wcur_get (fS (partsO l)) zS l.length k k hlt
      rw [if_neg (by omega)] at hG
      have HG : Hid _ := hG
      clear oA CE hS hF hG
      subst ea
      generalize bs (obT (ob l k)) = T at CE2 HSet
      by_cases he : obE (ob l k) = 0
      · have HE2 : Hid _ := hst.1 he
        rw [he] at CE2
        clear hst he
        go_wp2_with fail
        refine (CE2 _ (by first | exact Below.refl _ _ | exact lb_alloc (Below.refl _ _) _)).mono ?_
        rintro e w1 ⟨rfl, hb1⟩
        have hb2 : Below wr.heap.size wr w1 := by first | exact hb1 | exact lb_trans (lb_alloc (Below.refl _ _) _) hb1
        have hx1 := (hb2.block w.heap.size (Array.getElem?_eq_some_iff.1 HX.out).1).trans HX.out
        have cg : w1.cell? ⟨w.heap.size, k, none⟩ = some (.string ⟨#[]⟩) := by rw [Lib.cell_of_heap hx1]; exact HG.out
        have fg : w1.frozen? ⟨w.heap.size, k, none⟩ = false := Lib.frozen_of_heap hx1 k
        have HX2 : Hid ((w1.setCell ⟨w.heap.size, k, none⟩ (.string T)).heap[w.heap.size]? = some (.cells (wcur (fS (partsO l)) zS l.length (k + 1)) 9 (0, 0))) := by
          unfold Hid
          rw [set_row hx1, HSet.out]
        have HB2 : Hid (Below w.heap.size w (w1.setCell ⟨w.heap.size, k, none⟩ (.string T))) := (lb_trans HB.out hb2).setCell (p := ⟨w.heap.size, k, none⟩) (Nat.le_refl _) _
        clear hx1 hb1 hb2 CE2 HSet HG x0 x1 x2 x3 x4 x5
        go_wp2
        go_roundw
        case rel => exact ⟨k + 1, by go_num, by omega, HB2, HX2, HE2⟩
        case measure => simp [intOf]; omega
      · have HE2 : Hid _ := hst.2 he
        have he' : (obE (ob l k) != 0) = true := by simpa using he
        have HE3 : Hid (ansL l = []) := by unfold Hid ansL; rw [if_neg (by rw [HE2.out]; exact he)]
        clear hst he
        generalize obE (ob l k) = E at CE2 HE2 he'
        go_wp2_with fail
        refine (CE2 _ (by first | exact Below.refl _ _ | exact lb_alloc (Below.refl _ _) _)).mono ?_
        rintro e w1 ⟨rfl, hb1⟩
        have HB2 : Hid (Below w.heap.size w w1) := by first | exact lb_trans HB.out hb1 | exact lb_trans (lb_alloc HB.out _) hb1
        clear hb1 CE2 x0 x1 x2 x3 x4 x5
        go_wp2
        go_ret2
        exact ⟨ret2S (by rw [HE3.out]; rfl) HE2.out.symm, HB2.out⟩
    · obtain rfl : k = l.length := by omega
      have HE2 : Hid (obsE l = 0) := by unfold Hid; rw [← HE.out, List.drop_length]; rfl
      have HE3 : Hid (ansL l = joinB [] (partsO l)) := by unfold Hid ansL; rw [if_pos HE2.out, join_parts]
      have hln : (joinB [] (partsO l)).length ≤ 167772160 := by
        have h1 := obsT_len HA.out l.length (Nat.le_refl _)
        rw [List.take_length, ← join_parts] at h1
        omega
      have HBn : Hid (Below wr.heap.size wr (wr.alloc (.cells #[.pointer none, .slice none 0 0] 79))) := lb_alloc (Below.refl _ _) _
      have hxr : (wr.alloc (.cells #[.pointer none, .slice none 0 0] 79)).heap[w.heap.size]? = some (.cells (wcur (fS (partsO l)) zS (partsO l).length (partsO l).length) 9 (0, 0)) := by
        rw [HBn.out.block w.heap.size (Array.getElem?_eq_some_iff.1 HX.out).1, HX.out, partsO_len]
      have CA := all_any wr.heap.size [] ⟨#[]⟩ (some ⟨w.heap.size, 0, none⟩) (partsO l).length (partsO l) _ (Bd.new wr) (own_zero (row_all hxr (by rw [partsO_len]; omega))) (by show 0 + (joinB [] (partsO l)).length ≤ _; omega) (by rw [partsO_len]; omega)
      rw [partsO_len] at CA
      have HS0 : Hid (w.heap.size ≤ wr.heap.size) := HB.out.size
      clear hxr
      go_wp2_with fail
      refine CA.mono ?_
      rintro e w3 ⟨rfl, hp⟩
      have CS := str_any wr.heap.size _ w3 hp.1
      have HB3 : Hid (Below w.heap.size w w3) := (lb_trans HB.out HBn.out).trans (hp.2.below HS0.out HS0.out (by have := HBn.out.size; have := HS0.out; omega))
      have HS3 : Hid (wr.heap.size ≤ w3.heap.size) := by have := hp.2.size; simp at this; unfold Hid; omega
      clear CA hp
      go_wp2_with fail
      refine CS.mono ?_
      rintro e w4 ⟨rfl, hq⟩
      have HB4 : Hid (Below w.heap.size w w4) := HB3.out.trans (hq.below HS0.out HS0.out (by have := HS3.out; have := HS0.out; omega))
      clear CS hq
      go_wp2
      go_ret2
      exact ⟨ret2S (by rw [HE3.out]) HE2.out.symm, HB4.out⟩

end Go.Proofs.YtbckolkgncajfaaGreatDoor
