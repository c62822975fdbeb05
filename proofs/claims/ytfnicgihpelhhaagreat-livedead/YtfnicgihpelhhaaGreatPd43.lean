/-
  The flow as it is made, its second part; no Go in sight. leaps and from of package edge, by what they answer. flowOf of package edge, by what it answers; each word is of 32 bits. from of package edge, by what it answers.
-/
import Derived.Test.YtfnicgihpelhhaaGreatProg
import Derived.WalkKit
import Derived.WalkSpells
import Derived.WalkLawsBesides
import Derived.RowKit3
import Derived.Below
import Derived.Deep.QuietTactic
import Derived.BigQuiet
import Derived.WalkSmall
import Derived.Laws.Rows
import Derived.Test.YtfnicgihpelhhaaGreatPd40
import Derived.WalkMore
import Derived.Deep.RegionHeld3
import Derived.Deep.RegionWith
import Derived.Test.YtfnicgihpelhhaaGreatPd37
import Derived.Deep.DeepCutAuto
namespace Go.Proofs.YtfnicgihpelhhaaGreat
open Go.RowKit

/-- The flow while the places are gone through. -/
structure Fl2 (w1 wr : World) (gN gf : Nat) (text : List Int) (ent : Int) (O : Option Addr) (c : Nat) (F : Int → Int) (bk : Nat) (A : Option Addr) (ca : Nat) (l : List Int) : Prop where
  box : wr.heap[gf]? = some (.cells #[.slice O (blkL text ent).length c, .slice (some ⟨gN, 0, none⟩) text.length text.length, .slice A l.length ca] 149 (0, 0))
  row : wr.ownsRow w1.heap.size 50 5 (.slice O (blkL text ent).length c) (blkL text ent).length (lstV (lastL text ent (blkL text ent).length))
  nums : NumsAt wr gN text.length F
  num : NumF text ent (blkL text ent).length F
  kn : wr.ownsRow bk 3 1 (.slice A l.length ca) l.length (iVals .i64 l)
  off : (Value.slice A l.length ca).ownBlock ≠ some gN
  below : Below w1.heap.size w1 wr
  hf : w1.heap.size ≤ gf
  hk : w1.heap.size ≤ bk
section
variable {w1 wr w2 : World} {gN gf : Nat} {text : List Int} {ent : Int} {O : Option Addr} {c : Nat} {F : Int → Int} {bk : Nat} {A : Option Addr} {ca : Nat} {l : List Int}
theorem Fl1.two (h : Fl1 w1 wr gN gf (blkL text ent).length (blkL text ent).length text ent O c F) : Fl2 w1 wr gN gf text ent O c F w1.heap.size none 0 [] :=
  ⟨h.box, h.row, h.nums, h.num, World.ownsRow_nil _ _ _ _, (fun e => by cases e), h.below, h.hf, Nat.le_refl _⟩
theorem Fl2.base {bk' : Nat} (h : Fl2 w1 wr gN gf text ent O c F bk none 0 []) (hb : w1.heap.size ≤ bk') : Fl2 w1 wr gN gf text ent O c F bk' none 0 [] :=
  ⟨h.box, h.row, h.nums, h.num, World.ownsRow_nil _ _ _ _, (fun e => by cases e), h.below, h.hf, hb⟩
theorem Fl2.keep (h : Fl2 w1 wr gN gf text ent O c F bk A ca l) (hb : Below wr.heap.size wr w2) : Fl2 w1 w2 gN gf text ent O c F bk A ca l :=
  ⟨lb_box h.box hb, row_keep h.row hb, h.nums.keep hb, h.num, row_keep h.kn hb, h.off, lb_trans h.below hb, h.hf, h.hk⟩
theorem Fl2.ne (h : Fl2 w1 wr gN gf text ent O c F bk A ca l) : gf ≠ gN := fun e => by
  obtain ⟨cs, hb, _⟩ := h.nums
  rw [← e, h.box] at hb
  injection hb with hb
  injection hb with _ hh
  exact absurd hh (by decide)
theorem Fl2.cells (h : Fl2 w1 wr gN gf text ent O c F bk A ca l) : wr.cell? ⟨gf, 1, none⟩ = some (.slice (some ⟨gN, 0, none⟩) text.length text.length) ∧ wr.cell? ⟨gf, 2, none⟩ = some (.slice A l.length ca) ∧ wr.frozen? ⟨gf, 2, none⟩ = false :=
  ⟨by simp [World.cell?, h.box], by simp [World.cell?, h.box], box_fro h.box 2⟩
/-- A list of other memory in the place of the known ones. -/
theorem Fl2.put {A' : Option Addr} {ca' : Nat} {l' : List Int} (h : Fl2 w1 wr gN gf text ent O c F bk A ca l) (ho : w2.ownsRow bk 3 1 (.slice A' l'.length ca') l'.length (iVals .i64 l')) (hg : wr.grownBy w2 (Value.slice A l.length ca).ownBlock) (hloc : ∀ q, (Value.slice A' l'.length ca').ownBlock = some q → (Value.slice A l.length ca).ownBlock = some q ∨ wr.heap.size ≤ q) : Fl2 w1 (w2.setCell ⟨gf, 2, none⟩ (.slice A' l'.length ca')) gN gf text ent O c F bk A' ca' l' ∧ w2.cell? ⟨gf, 2, none⟩ = some (.slice A l.length ca) ∧ w2.frozen? ⟨gf, 2, none⟩ = false := by
  have hlt : gf < wr.heap.size := (Array.getElem?_eq_some_iff.1 h.box).1
  have hbox2 : w2.heap[gf]? = some (.cells #[.slice O (blkL text ent).length c, .slice (some ⟨gN, 0, none⟩) text.length text.length, .slice A l.length ca] 149 (0, 0)) := by
    rw [hg.block gf hlt (fun e => blk_off h.kn h.box (by decide) e.symm)]
    exact h.box
  have hn2 := h.nums.kept hg h.off
  have hb2 : Below w1.heap.size w1 w2 := h.below.grown hg h.below.size (fun b hb => Nat.le_trans h.hk (h.kn.lt b hb).1)
  have hr2 := row_other h.row h.kn (by decide) hg
  refine ⟨⟨?_, ?_, ?_, h.num, ?_, ?_, grown_belowR hb2 (gset11 _ _ _ _) h.hf hb2.size, h.hf, h.hk⟩, by simp [World.cell?, hbox2], box_fro hbox2 2⟩
  · rw [box_set hbox2]; rfl
  · exact ownsRow_setCell_other hr2 (blk_off hr2 hbox2 (by decide)) _
  · exact hn2.kept (gset11 _ _ _ _) (fun e => h.ne (by injection e))
  · exact ownsRow_setCell_other ho (blk_off ho hbox2 (by decide)) _
  · intro e
    rcases hloc gN e with h1 | h1
    · exact h.off h1
    · have := h.nums.lt
      omega
theorem Fl2.flow (h : Fl2 w1 wr gN gf text ent O c F bk A ca l) (e : l = knL text ent) : FlowAt wr gf text ent := by
  subst e
  exact ⟨O, A, c, gN, ca, F, h.box, ownsRow_mono h.row (Nat.zero_le _), h.nums, h.num, ownsRow_mono h.kn (Nat.zero_le _)⟩
end
/-- Two lists one behind the other, as they lie in a list of lists that was made now. -/
theorem two_rows {w : World} {b1 b2 : Nat} {A1 A2 : Option Addr} {c1 c2 : Nat} {l1 l2 : List Int} (h1 : w.ownsRow b1 3 1 (.slice A1 l1.length c1) l1.length (iVals .i64 l1)) (h2 : w.ownsRow b2 3 1 (.slice A2 l2.length c2) l2.length (iVals .i64 l2)) : RowsZ (w.alloc (.cells #[.slice A1 l1.length c1, .slice A2 l2.length c2] 72)) 0 (.slice (some ⟨w.heap.size, 0, none⟩) [l1, l2].length 2) [.slice A1 l1.length c1, .slice A2 l2.length c2] [l1, l2] := by
  have hb : Below w.heap.size w (w.alloc (.cells #[.slice A1 l1.length c1, .slice A2 l2.length c2] 72)) := lb_alloc (Below.refl _ _) _
  refine ⟨⟨rfl, .inr ⟨w.heap.size, 2, _, rfl, Nat.zero_le _, heap_alloc_new _ _, Nat.le_refl _, by unfold maxLen; omega, rfl, rfl⟩⟩, fun i hi => ?_⟩
  have hi : i = 0 ∨ i = 1 := by simp at hi; omega
  rcases hi with rfl | rfl
  · exact row_keep (ownsRow_mono h1 (Nat.zero_le _)) hb
  · exact row_keep (ownsRow_mono h2 (Nat.zero_le _)) hb
theorem cat_two (l1 l2 : List Int) : catT [l1, l2] 2 = l1 ++ l2 := by
  rw [catT_succ, catT_succ, catT_zero]
  rfl
theorem map_snoc {F : Int → Int} {ps : List Int} {j : Nat} (h : j < ps.length) : (ps.take (j + 1)).map F = (ps.take j).map F ++ [F (nth ps j)] := by
  rw [List.take_succ_eq_append_getElem h, List.map_append]
  have : nth ps j = ps[j] := by simp [nth, List.getD, h]
  rw [this]
  rfl
theorem map_take_len {F : Int → Int} {ps : List Int} {j : Nat} (h : j ≤ ps.length) : ((ps.take j).map F).length = j := by
  rw [List.length_map, List.length_take]
  omega


end Go.Proofs.YtfnicgihpelhhaaGreat

namespace Go.Proofs.YtfnicgihpelhhaaGreat
open Go.RowKit

set_option maxRecDepth 100000 in
set_option maxHeartbeats 1000000 in
theorem leaps_any (gf k : Nat) (text : List Int) (ent : Int) (w : World) (h : FlowAt w gf text ent) (hk : k < (blkL text ent).length) (_hl : (blkL text ent).length ≤ 1048576) :
    Calls Tryz.prog 114 #[.pointer (some ⟨gf, 0, none⟩), .int .i64 (k : Int)] w fun e w' => e = .returned (.bool (leapB (dOp (lastW text ent k)))) ∧ w' = w := by
  obtain ⟨A1, A3, c1, gN, c3, F, h⟩ := h
  obtain ⟨g1, e1, hc⟩ := h.last hk
  subst e1
  have q0 := h.cells.1
  have q1 := hc 0 _ rfl
  rw [Nat.add_zero] at q1
  have hk' : (k : Int) < ((blkL text ent).length : Int) := by omega
  clear h hc
  generalize (blkL text ent).length = nb at *
  generalize dOp (lastW text ent k) = op at *
  have HL : Hid (leapB op = (op == 18 || op == 19)) := rfl
  generalize leapB op = lb at *
  go_enter Tryz.func114, Tryz.ntmps114
  go_wp2
  all_goals (go_ret; refine ⟨?_, rfl⟩; rw [HL.out]; first | rfl | simp_all)


end Go.Proofs.YtfnicgihpelhhaaGreat

namespace Go.Proofs.YtfnicgihpelhhaaGreat
open Go.RowKit

set_option maxRecDepth 100000 in
set_option maxHeartbeats 4000000 in
theorem flow_no (A1 A2 : Option Addr) (c1 ml c2 : Nat) (ent : Int) (text : List Int) (w : World) (hT : IntsAt w A1 .u32 text) (hR : ∀ i, i < text.length → 0 ≤ nth text i ∧ nth text i < 4294967296) (hl : text.length ≤ 1048576) (hm : ml ≤ 1048576) (hE : ¬ (checkI text ml ent).1 = 0) :
    Calls Tryz.prog 87 #[.agg #[.slice A1 text.length c1, .int .i64 ent, .slice A2 ml c2]] w fun e w' => e = .returned (.tuple #[.pointer none, .int .i64 (checkI text ml ent).1]) ∧ Below w.heap.size w w' := by
  obtain ⟨W, HW⟩ : ∃ W, Hid (w.alloc (.cells #[.slice A1 text.length c1, .int .i64 ent, .slice A2 ml c2] 25) = W) := ⟨_, rfl⟩
  have HB : Hid (Below w.heap.size w W) := by unfold Hid; rw [← HW.out]; exact lb_alloc (Below.refl _ _) _
  have i0 : W.cell? ⟨w.heap.size, 0, none⟩ = some (.slice A1 text.length c1) := by rw [← HW.out]; simp [go_sem]
  have i1 : W.cell? ⟨w.heap.size, 1, none⟩ = some (.int .i64 ent) := by rw [← HW.out]; simp [go_sem]
  have i2 : W.cell? ⟨w.heap.size, 2, none⟩ = some (.slice A2 ml c2) := by rw [← HW.out]; simp [go_sem]
  have C := blocks_any A1 A2 c1 ml c2 ent text W (hT.keep HB.out) hR hl hm
  have hne : ((checkI text ml ent).1 == 0) = false := by simpa using hE
  have hne2 : ((checkI text ml ent).1 != 0) = true := by simpa using hE
  clear hT hR hE
  generalize (checkI text ml ent).1 = E at *
  go_enter Tryz.func87, Tryz.ntmps87
  go_upto_region 1 with fail
  rw [HW.out]
  clear HW
  go_wp2_with (go_at_call 21; refine C.mono ?_; rintro e w1 ⟨A, c, rfl, hown, hb1⟩)
  go_ret2
  exact ⟨rfl, lb_trans HB.out hb1⟩

set_option maxRecDepth 100000 in
set_option maxHeartbeats 8000000 in
theorem flow_ok (A1 A2 : Option Addr) (c1 ml c2 : Nat) (ent : Int) (text : List Int) (w : World) (hT : IntsAt w A1 .u32 text) (hR : ∀ i, i < text.length → 0 ≤ nth text i ∧ nth text i < 4294967296) (hl : text.length ≤ 1048576) (hm : ml ≤ 1048576) (hE : (checkI text ml ent).1 = 0) :
    Calls Tryz.prog 87 #[.agg #[.slice A1 text.length c1, .int .i64 ent, .slice A2 ml c2]] w fun e w' => ∃ gf, e = .returned (.tuple #[.pointer (some ⟨gf, 0, none⟩), .int .i64 0]) ∧ FlowAt w' gf text ent ∧ Below w.heap.size w w' := by
  obtain ⟨W, HW⟩ : ∃ W, Hid (w.alloc (.cells #[.slice A1 text.length c1, .int .i64 ent, .slice A2 ml c2] 25) = W) := ⟨_, rfl⟩
  have HB : Hid (Below w.heap.size w W) := by unfold Hid; rw [← HW.out]; exact lb_alloc (Below.refl _ _) _
  have i0 : W.cell? ⟨w.heap.size, 0, none⟩ = some (.slice A1 text.length c1) := by rw [← HW.out]; simp [go_sem]
  have i1 : W.cell? ⟨w.heap.size, 1, none⟩ = some (.int .i64 ent) := by rw [← HW.out]; simp [go_sem]
  have i2 : W.cell? ⟨w.heap.size, 2, none⟩ = some (.slice A2 ml c2) := by rw [← HW.out]; simp [go_sem]
  have C := blocks_any A1 A2 c1 ml c2 ent text W (hT.keep HB.out) hR hl hm
  have CT := fun wx (hx : Below w.heap.size w wx) => taken_any A1 A2 c1 ml c2 ent text wx (hT.keep hx) hR hl hm
  have CS := fun wx (hx : Below w.heap.size w wx) => sites_any A1 A2 c1 ml c2 ent text wx (hT.keep hx) hR hl hm
  have HM : Hid (MayI text ml ent) := check_mayI hE
  have HT : Hid (IntsAt w A1 .u32 text) := hT
  have HR : Hid (∀ i, i < text.length → 0 ≤ nth text i ∧ nth text i < 4294967296) := hR
  have hl4 : text.length ≤ 16384 := HM.out.past.len
  have hLt := blk_len_le text ent
  rw [show outB text ml ent = blkL text ent from if_pos hE, hE] at C
  rw [outL_ok hE, hE] at CT CS
  clear hT hR hE
  obtain ⟨iN, hi, hz0, hz1, hz2⟩ := infoN
  have hmk := make_nums text.length (by omega)
  go_enter Tryz.func87, Tryz.ntmps87
  go_upto_region 1 with fail
  rw [HW.out]
  clear HW
  go_upto_region 4 with (go_at_call 21; refine C.mono ?_; rintro e w1 ⟨B, cB, rfl, hown, hb1⟩)
  have HRl : Hid (RelsAt w1 B (blkL text ent)) := drow_rels hown
  have HB1 : Hid (Below w.heap.size w w1) := lb_trans HB.out hb1
  have j0 := lkeep hb1 i0
  have j1 := lkeep hb1 i1
  have j2 := lkeep hb1 i2
  clear hown hb1 i0 i1 i2 C
  obtain ⟨X, HX⟩ : ∃ X, Hid ((w1.alloc (.cells (madeCells #[.int .i64 0] text.length) 3)).alloc (.cells #[.slice none 0 0, .slice (some ⟨w1.heap.size, 0, none⟩) text.length text.length, .slice none 0 0] 149) = X) := ⟨_, rfl⟩
  have HF0 : Hid (Fl1 w1 X w1.heap.size (w1.heap.size + 1) 0 0 text ent none 0 (fun _ => 0)) := by
    unfold Hid
    rw [← HX.out]
    refine ⟨?_, ?_, (NumsAt.made w1 text.length).keep (lb_alloc (Below.refl _ _) _), fun j hj => absurd hj (Nat.not_lt_zero _), lb_alloc (lb_alloc (Below.refl _ _) _) _, Nat.le_refl _, Nat.le_succ _⟩
    · rw [show w1.heap.size + 1 = (w1.alloc (.cells (madeCells #[.int .i64 0] text.length) 3)).heap.size by simp]
      exact heap_alloc_new _ _
    · exact World.ownsRow_nil _ _ _ _
  have HJ : Hid (∀ wx, Below w1.heap.size w1 wx → wx.cell? ⟨w.heap.size, 0, none⟩ = some (.slice A1 text.length c1) ∧ wx.cell? ⟨w.heap.size, 1, none⟩ = some (.int .i64 ent) ∧ wx.cell? ⟨w.heap.size, 2, none⟩ = some (.slice A2 ml c2)) := fun wx hx => ⟨lkeep hx j0, lkeep hx j1, lkeep hx j2⟩
  go_upto_region 5 with fail
  rw [HX.out]
  clear HX hmk j0 j1 j2
  go_wp2
  go_loopw [31] (fun i wr => ∃ (k : Nat) (O : Option Addr) (c : Nat) (F : Int → Int), i = .int .i64 k ∧ k ≤ (blkL text ent).length ∧ Hid (Fl1 w1 wr w1.heap.size (w1.heap.size + 1) k k text ent O c F)) (fun i _ => (blkL text ent).length - (intOf i).toNat)
  case atStart => exact ⟨0, none, 0, _, rfl, Nat.zero_le _, HF0⟩
  case round =>
    clear HF0
    obtain ⟨k, O, c, F, rfl, hk, HF⟩ := hrel
    by_cases hlt : k < (blkL text ent).length
    · have hlt' : (k : Int) < ((blkL text ent).length : Int) := by omega
      obtain ⟨b, eb, q0, q1⟩ := HRl.out k hlt
      subst eb
      have t0 := lkeep HF.out.below q0
      have t1 : wr.cell? ⟨(b.add (k * 2)).block, (b.add (k * 2)).off + 1, none⟩ = some (.int .i64 (rSym (blkL text ent) k)) := lkeep HF.out.below q1
      clear q0 q1
      obtain ⟨V, HV⟩ : ∃ V, Hid (wr.alloc (.cells #[.int .i64 (rAt (blkL text ent) k), .int .i64 (rSym (blkL text ent) k)] 67) = V) := ⟨_, rfl⟩
      have HBV : Hid (Below wr.heap.size wr V) := by unfold Hid; rw [← HV.out]; exact lb_alloc (Below.refl _ _) _
      have HFV : Hid (Fl1 w1 V w1.heap.size (w1.heap.size + 1) k k text ent O c F) := HF.out.keep HBV.out
      have hbx : V.heap[wr.heap.size]? = some (.cells #[.int .i64 (rAt (blkL text ent) k), .int .i64 (rSym (blkL text ent) k)] 67 (0, 0)) := by rw [← HV.out]; exact heap_alloc_new _ _
      have HX2 : Hid (V.heap[wr.heap.size]? = some (.cells #[.int .i64 (rAt (blkL text ent) k), .int .i64 (rSym (blkL text ent) k)] 67 (0, 0))) := hbx
      have hin := blk_in hlt
      have b0 : V.cell? ⟨wr.heap.size, 0, none⟩ = some (.int .i64 (rAt (blkL text ent) k)) := by simp [World.cell?, hbx]
      have b1 : V.cell? ⟨wr.heap.size, 1, none⟩ = some (.int .i64 (rSym (blkL text ent) k)) := by simp [World.cell?, hbx]
      have f1 := HFV.out.cells.2.1
      have n0 := HFV.out.nums.cell hin.1 (show rAt (blkL text ent) k < (text.length : Int) by omega)
      have n1 := HFV.out.nums.fro (rAt (blkL text ent) k).toNat
      have hn1 : rAt (blkL text ent) k < (text.length : Int) := by omega
      have hn0 := hin.1
      have hne1 : w1.heap.size + 1 ≠ w1.heap.size := by omega
      have hwz : w1.heap.size < wr.heap.size := HF.out.nums.lt
      have hne2 : wr.heap.size ≠ w1.heap.size := by omega
      clear hbx
      go_upto_region 8 with fail
      rw [HV.out]
      clear HV t0 t1
      go_cut [] (fun wc => Hid (wc = (V.setCell ⟨w1.heap.size, (rAt (blkL text ent) k).toNat, none⟩ (.int .i64 (k : Int))).drew))
      case first =>
        go_region_held3 (fun Y => Y.cell? ⟨w1.heap.size + 1, 1, none⟩ = some (.slice (some ⟨w1.heap.size, 0, none⟩) text.length text.length) ∧ Y.cell? ⟨wr.heap.size, 0, none⟩ = some (.int .i64 (rAt (blkL text ent) k))) (first | exact ⟨f1, b0⟩ | exact ⟨cell_setO f1 hne1, cell_setO b0 hne2⟩ | (simp [*]; done)) (fail)
        all_goals (rename_i hS; clear hS; go_wp2_with fail; go_meet; exact rfl)
      case rest =>
        have HW3 : Hid (wc = (V.setCell ⟨w1.heap.size, (rAt (blkL text ent) k).toNat, none⟩ (.int .i64 (k : Int))).drew) := hcut
        have HF3 : Hid (Fl1 w1 wc w1.heap.size (w1.heap.size + 1) k (k + 1) text ent O c (fun y => if y = rAt (blkL text ent) k then (k : Int) else F y)) := by
          rw [Hid, HW3.out]
          exact (HFV.out.number hlt).keep (Below.drew (Below.refl _ _))
        have hbx3 : wc.heap[wr.heap.size]? = some (.cells #[.int .i64 (rAt (blkL text ent) k), .int .i64 (rSym (blkL text ent) k)] 67 (0, 0)) := by
          rw [HW3.out]
          exact (Below.heap_setCell _ _ _ _ hne2).trans HX2.out
        have c1' : wc.cell? ⟨wr.heap.size, 1, none⟩ = some (.int .i64 (rSym (blkL text ent) k)) := by simp [World.cell?, hbx3]
        clear hcut HW3 HFV HX2 HBV b0 b1 f1 n0 n1 HF
        generalize HG : (fun y => if y = rAt (blkL text ent) k then (k : Int) else F y) = G at HF3
        clear HG
        have hBc := HF3.out.below
        have HBw : Hid (Below w.heap.size w wc) := lb_trans HB1.out hBc
        obtain ⟨x0, -, -⟩ := HJ.out wc hBc
        obtain ⟨f0, -, f2⟩ := HF3.out.cells
        obtain ⟨p, hpl, hpe, hlw⟩ := last_at hlt
        obtain ⟨a, ea, tv⟩ := (HT.out.keep HBw.out) p hpl
        subst ea
        have hv := HR.out p hpl
        rw [← hlw] at tv hv
        rw [hpe] at c1' hin
        have HPe : Hid (rSym (blkL text ent) k = (p : Int) + 1) := hpe
        clear hlw hpe hbx3
        have hwr : IntKind.i64.wrap ((p : Int) + 1 - 1) = (p : Int) := by rw [IntKind.wrap_i64]; omega
        have hwr2 : IntKind.i64.wrap (p : Int) = (p : Int) := by rw [IntKind.wrap_i64]; omega
        have p1 : (p : Int) < (text.length : Int) := by omega
        have CD := fun wx => isadecode_any (lastW text ent k) hv.1 hv.2 wx
        have hkb : k ≤ 16384 := by omega
        have HLs : Hid (lstV (lastL text ent (k + 1)) = lstV (lastL text ent k) ++ insC (lastW text ent k)) := by unfold Hid; rw [lastL_succ, lstV_snoc]
        have HIn : Hid (insC (lastW text ent k) = [.int .i8 (dOp (lastW text ent k)), .int .i8 (dD (lastW text ent k)), .int .i8 (dA (lastW text ent k)), .int .i8 (dB (lastW text ent k)), .int .i64 (dN (lastW text ent k))]) := rfl
        have HOne : Hid (∀ u ∈ insC (lastW text ent k), u.oneCell' = true) := insC_one _
        clear hBc hv
        generalize dOp (lastW text ent k) = op at *
        generalize dD (lastW text ent k) = dd at *
        generalize dA (lastW text ent k) = da at *
        generalize dB (lastW text ent k) = db at *
        generalize dN (lastW text ent k) = dn at *
        generalize hWv : lastW text ent k = v at *
        have HWv : Hid (lastW text ent k = v) := hWv
        clear hWv
        go_upto_region 9 with fail
        go_region_law
            (first
              | (revert HR4; intro HR4; refine step_append_lies _ rfl (.tmp 48) (.tmp 57) 80 rfl w1.heap.size 50 iN (.agg #[.int .i8 0, .int .i8 0, .int .i8 0, .int .i8 0, .int .i64 0]) 5 16 Tryz.underlying80 hi hz0 hz1 hz2 rfl (by decide) (.slice O k c) k (lstV (lastL text ent k)) rfl HR4.out ⟨w4.heap.size, 0, none⟩ 1 1 [.int .i8 op, .int .i8 dd, .int .i8 da, .int .i8 db, .int .i64 dn] rfl rfl (fun j u hu => World.news_of_block HNw.out j u hu) (by rw [← HIn.out]; exact HOne.out) (by omega) (by unfold maxLen; omega) (by omega) HSz.out (w4.heap.size + 1) (by simp) ?_; intro g3 cap3 we hown hgrow hlie hlt3; have hA := HF5.out.add (O' := some ⟨g3, 0, none⟩) (c' := cap3) (by rw [HWv.out, HIn.out]; exact hown) hgrow; have HA : Hid (Fl1 w1 (we.setCell ⟨w1.heap.size + 1, 0, none⟩ (.slice (some ⟨g3, 0, none⟩) (k + 1) cap3)) w1.heap.size (w1.heap.size + 1) (k + 1) (k + 1) text ent (some ⟨g3, 0, none⟩) cap3 G) := hA.1; have cE := hA.2.1; have fE := hA.2.2; clear hA hown hgrow hlie hlt3)
              | (go_simp; go_at_call 36; refine (CD _).mono ?_; rintro r w4 ⟨rfl, hb4⟩; have HB4 : Hid (Below wc.heap.size wc w4) := lb_trans (Below.drew (Below.refl _ _)) hb4; have HF4 : Hid (Fl1 w1 w4 w1.heap.size (w1.heap.size + 1) k (k + 1) text ent O c G) := HF3.out.keep HB4.out; have HF5 : Hid (Fl1 w1 (w4.alloc (.cells #[.int .i8 op, .int .i8 dd, .int .i8 da, .int .i8 db, .int .i64 dn] 50)) w1.heap.size (w1.heap.size + 1) k (k + 1) text ent O c G) := HF4.out.keep (lb_alloc (Below.refl _ _) _); have HR4 : Hid ((w4.alloc (.cells #[.int .i8 op, .int .i8 dd, .int .i8 da, .int .i8 db, .int .i64 dn] 50)).ownsRow w1.heap.size 50 5 (.slice O k c) k (lstV (lastL text ent k))) := HF5.out.row; have HSz : Hid (w1.heap.size ≤ (w4.alloc (.cells #[.int .i8 op, .int .i8 dd, .int .i8 da, .int .i8 db, .int .i64 dn] 50)).heap.size) := HF5.out.below.size; have HNw : Hid ((w4.alloc (.cells #[.int .i8 op, .int .i8 dd, .int .i8 da, .int .i8 db, .int .i64 dn] 50)).heap[w4.heap.size]? = some (.cells #[.int .i8 op, .int .i8 dd, .int .i8 da, .int .i8 db, .int .i64 dn] 50 (0, 0))) := heap_alloc_new _ _; have g0 := HF4.out.cells.1; have g1 := HF5.out.cells.1; clear hb4))
        all_goals (
            go_wp2_with fail
            go_roundw
            (case rel => exact ⟨k + 1, _, _, G, by go_num, by omega, HA⟩)
            (case measure => simp [intOf]; omega))
    · obtain rfl : k = (blkL text ent).length := by omega
      obtain ⟨x0, x1, x2⟩ := HJ.out wr HF.out.below
      have HBw : Hid (Below w.heap.size w wr) := lb_trans HB1.out HF.out.below
      have HG : Hid (Fl2 w1 wr w1.heap.size (w1.heap.size + 1) text ent O c F w1.heap.size none 0 []) := HF.out.two
      have C2 := CT wr HBw.out
      have hpt := plcT_len (takF text) text.length
      have hps := plcT_len (sitF text) text.length
      have HKn : Hid (risZ ((plcT (takF text) text.length ++ plcT (sitF text) text.length).map F) = knL text ent) := known_plc HM.out HF.out.num
      have HPl : Hid (∀ p, p ∈ plcT (takF text) text.length ++ plcT (sitF text) text.length → 0 ≤ p ∧ p < (text.length : Int)) := fun p hp => by
        rw [List.mem_append] at hp
        rcases hp with hp | hp
        · exact ⟨(plcT_mem.1 hp).1, (plcT_mem.1 hp).2.1⟩
        · exact ⟨(plcT_mem.1 hp).1, (plcT_mem.1 hp).2.1⟩
      clear HF
      generalize plcT (takF text) text.length = tk at *
      generalize plcT (sitF text) text.length = st at *
      go_upto_region 12 with (go_at_call 110; refine C2.mono ?_; rintro e w2 ⟨At, ct, rfl, hot, hb2⟩; have HO2 : Hid (w2.ownsRow wr.heap.size 3 1 (.slice At tk.length ct) tk.length (iVals .i64 tk)) := hot; have HG2 : Hid (Fl2 w1 w2 w1.heap.size (w1.heap.size + 1) text ent O c F w1.heap.size none 0 []) := HG.out.keep hb2; have HB2 : Hid (Below w.heap.size w w2) := lb_trans HBw.out hb2; have y0 := lkeep hb2 x0; have y1 := lkeep hb2 x1; have y2 := lkeep hb2 x2; clear hot hb2 x0 x1 x2 HG HBw)
      clear C2
      have C3 := CS w2 HB2.out
      go_upto_region 13 with (go_at_call 111; refine C3.mono ?_; rintro e w3 ⟨As, cs, rfl, hos, hb3⟩; have HO3 : Hid (w3.ownsRow w2.heap.size 3 1 (.slice As st.length cs) st.length (iVals .i64 st)) := hos; have HO2' : Hid (w3.ownsRow wr.heap.size 3 1 (.slice At tk.length ct) tk.length (iVals .i64 tk)) := row_keep HO2.out hb3; have HG3 : Hid (Fl2 w1 w3 w1.heap.size (w1.heap.size + 1) text ent O c F w1.heap.size none 0 []) := HG2.out.keep hb3; have HB3 : Hid (Below w.heap.size w w3) := lb_trans HB2.out hb3; clear hos hb3 y0 y1 y2 HG2 HB2 HO2)
      clear C3 CT CS
      have C4 := concat_any 0 w3.heap.size 2 _ [tk, st] _ (two_rows HO2'.out HO3.out) (by simp) (fun i hi => by
        have hi : i = 0 ∨ i = 1 := by simp at hi; omega
        rcases hi with rfl | rfl
        · show tk.length ≤ 65536; omega
        · show st.length ≤ 65536; omega)
      have C4 : Calls Tryz.prog 112 #[.slice (some ⟨w3.heap.size, 0, none⟩) 2 2] (w3.alloc (.cells #[.slice At tk.length ct, .slice As st.length cs] 72)) (RowP (catT [tk, st] 2) (w3.alloc (.cells #[.slice At tk.length ct, .slice As st.length cs] 72))) := C4
      rw [cat_two] at C4
      have hpc : (tk ++ st).length ≤ 32768 := by rw [List.length_append]; omega
      generalize tk ++ st = ps at *
      have HB3a : Hid (Below w3.heap.size w3 (w3.alloc (.cells #[.slice At tk.length ct, .slice As st.length cs] 72))) := lb_alloc (Below.refl _ _) _
      have HGl : Hid (w1.heap.size + 1 < (w3.alloc (.cells #[.slice At tk.length ct, .slice As st.length cs] 72)).heap.size) := by
        have := (Array.getElem?_eq_some_iff.1 HG3.out.box).1
        unfold Hid
        simp
        omega
      go_wp2_with (go_at_call 112; refine C4.mono ?_; rintro e w4 ⟨Ac, cc, rfl, hoc, hb4⟩; have HOc : Hid (w4.ownsRow (w3.alloc (.cells #[.slice At tk.length ct, .slice As st.length cs] 72)).heap.size 3 1 (.slice Ac ps.length cc) ps.length (iVals .i64 ps)) := hoc; have HG4 : Hid (Fl2 w1 w4 w1.heap.size (w1.heap.size + 1) text ent O c F w4.heap.size none 0 ((ps.take 0).map F)) := (HG3.out.keep (lb_trans HB3a.out hb4)).base (HG3.out.keep (lb_trans HB3a.out hb4)).below.size; have HB4 : Hid (Below w.heap.size w w4) := lb_trans HB3.out (lb_trans HB3a.out hb4); clear hoc hb4 HG3 HB3 HB3a)
      clear C4
      obtain ⟨iI, hi', hz0', hz1', hz2'⟩ := infoI
      go_loopw [77] (fun i wr => ∃ (j : Nat) (A : Option Addr) (ca : Nat), i = .int .i64 j ∧ j ≤ ps.length ∧ Hid (Fl2 w1 wr w1.heap.size (w1.heap.size + 1) text ent O c F w4.heap.size A ca ((ps.take j).map F)) ∧ Hid (But (w1.heap.size + 1) w4 wr)) (fun i _ => ps.length - (intOf i).toNat)
      case atStart => exact ⟨0, none, 0, rfl, Nat.zero_le _, HG4, But.refl _ _⟩
      case round =>
        clear HG4
        obtain ⟨j, A, ca, rfl, hj, HG, HBt⟩ := hrel
        have HLn : Hid (((ps.take j).map F).length = j) := map_take_len hj
        by_cases hjl : j < ps.length
        · have hjl' : (j : Int) < (ps.length : Int) := by omega
          obtain ⟨a, ea, q⟩ := (row_ints (row_but HOc.out HGl.out HBt.out)) j hjl
          subst ea
          have HSn : Hid ((ps.take (j + 1)).map F = (ps.take j).map F ++ [F (nth ps j)]) := map_snoc hjl
          obtain ⟨z0, z1⟩ := HPl.out _ (nth_mem hjl)
          have n0 := HG.out.nums.cell z0 z1
          obtain ⟨f1, f2, f3⟩ := HG.out.cells
          have hll : ((ps.take j).map F).length ≤ 32768 := by have := HLn.out; omega
          generalize (ps.take j).map F = l at *
          generalize nth ps j = x at *
          generalize F x = y at *
          obtain ⟨U, HU⟩ : ∃ U, Hid ((wr.alloc (.cells #[.int .i64 y] 3)).drew = U) := ⟨_, rfl⟩
          have HBU : Hid (Below wr.heap.size wr (wr.alloc (.cells #[.int .i64 y] 3)).drew) := Below.drew (lb_alloc (Below.refl _ _) _)
          have HF5 : Hid (Fl2 w1 (wr.alloc (.cells #[.int .i64 y] 3)).drew w1.heap.size (w1.heap.size + 1) text ent O c F w4.heap.size A ca l) := HG.out.keep HBU.out
          have HR5 : Hid ((wr.alloc (.cells #[.int .i64 y] 3)).drew.ownsRow w4.heap.size 3 1 (.slice A l.length ca) l.length (iVals .i64 l)) := HF5.out.kn
          have HS5 : Hid (w4.heap.size ≤ (wr.alloc (.cells #[.int .i64 y] 3)).drew.heap.size) := Nat.le_trans HBt.out.2.2.2.1 HBU.out.size
          have HNw : Hid ((wr.alloc (.cells #[.int .i64 y] 3)).drew.heap[wr.heap.size]? = some (.cells #[.int .i64 y] 3 (0, 0))) := heap_alloc_new wr _
          have HBt5 : Hid (But (w1.heap.size + 1) w4 (wr.alloc (.cells #[.int .i64 y] 3)).drew) := HBt.out.on HBU.out
          have g2 := HF5.out.cells.2.1
          clear HU
          go_upto_region 16 with fail
          go_region_law
            (first
              | (revert HR5; intro HR5; refine step_append_lies _ rfl (.tmp 85) (.tmp 93) 72 rfl w4.heap.size 3 iI (.int .i64 0) 1 8 Tryz.underlying72 hi' hz0' hz1' hz2' rfl (by decide) (.slice A l.length ca) l.length (iVals .i64 l) rfl HR5.out ⟨wr.heap.size, 0, none⟩ 1 1 [.int .i64 y] rfl rfl (fun j u hu => World.news_of_block HNw.out j u hu) one_oneI (by omega) (by unfold maxLen; omega) (by omega) HS5.out (wr.heap.size + 1) (by simp) ?_; intro g3 cap3 we hown hgrow hlie hlt3; have hA := HF5.out.put (A' := some ⟨g3, 0, none⟩) (ca' := cap3) (l' := l ++ [y]) (by rw [iVals_snoc, List.length_append]; exact hown) hgrow (fun q hq => by cases hq; rcases hlie with h | h; exact .inl h; exact .inr (by rw [h]; simp)); rw [show (l ++ [y]).length = l.length + 1 by simp] at hA; have HA : Hid (Fl2 w1 (we.setCell ⟨w1.heap.size + 1, 2, none⟩ (.slice (some ⟨g3, 0, none⟩) (l.length + 1) cap3)) w1.heap.size (w1.heap.size + 1) text ent O c F w4.heap.size (some ⟨g3, 0, none⟩) cap3 (l ++ [y])) := hA.1; have cE := hA.2.1; have fE := hA.2.2; have HT9 : Hid (But (w1.heap.size + 1) w4 (we.setCell ⟨w1.heap.size + 1, 2, none⟩ (.slice (some ⟨g3, 0, none⟩) (l.length + 1) cap3))) := (but_grown HBt5.out hgrow (fun b hb => (HR5.out.lt b hb).1)).set _ _; clear hA hown hgrow hlie hlt3))
          all_goals (
            go_wp2_with fail
            go_roundw
            (case rel => exact ⟨j + 1, _, _, by go_num, by omega, by rw [HSn.out]; exact HA, HT9⟩)
            (case measure => simp [intOf]; omega))
        · obtain rfl : j = ps.length := by omega
          have f2 := HG.out.cells.2.1
          have C5 := rising_any w4.heap.size A ca ((ps.take ps.length).map F) wr HG.out.kn (by rw [HLn.out]; omega)
          rw [List.take_length] at C5 f2
          have HG : Hid (Fl2 w1 wr w1.heap.size (w1.heap.size + 1) text ent O c F w4.heap.size A ca (ps.map F)) := by have := HG.out; rwa [List.take_length] at this
          rw [HKn.out] at C5
          have HBr : Hid (Below w.heap.size w wr) := HBt.out.below HB4.out (by have := HB1.out.size; omega)
          clear HLn HKn
          generalize ps.map F = l at *
          have HKl : Hid (knL text ent = knL text ent) := rfl
          generalize hkn : knL text ent = kl at C5
          have HKe : Hid (knL text ent = kl) := hkn
          clear hkn HKl
          go_upto_region 19 with (go_at_call 113; refine C5.mono ?_; rintro e w5 ⟨A5, c5, rfl, ho5, hb5⟩; have hA := HG.out.put (A' := A5) (ca' := c5) (l' := kl) (ownsRow_mono ho5 HBt.out.2.2.2.1) (grown_of hb5) (fun q hq => .inr (ho5.lt q hq).1); have HA : Hid (FlowAt (w5.setCell ⟨w1.heap.size + 1, 2, none⟩ (.slice A5 kl.length c5)) (w1.heap.size + 1) text ent) := hA.1.flow HKe.out.symm; have cE := hA.2.1; have fE := hA.2.2; have HB9 : Hid (Below w.heap.size w (w5.setCell ⟨w1.heap.size + 1, 2, none⟩ (.slice A5 kl.length c5))) := grown_belowR (lb_trans HBr.out hb5) (gset11 _ _ _ _) (by have := HB1.out.size; omega) (lb_trans HBr.out hb5).size; clear hA ho5 hb5)
          go_wp2
          go_ret2
          exact ⟨_, rfl, HA.out, HB9.out⟩


end Go.Proofs.YtfnicgihpelhhaaGreat

namespace Go.Proofs.YtfnicgihpelhhaaGreat
open Go.RowKit

theorem leap_no {op : Int} (h1 : op ≠ 18) (h2 : op ≠ 19) : leapB op = false := by
  unfold leapB
  rw [Bool.or_eq_false_iff, beq_eq_false_iff_ne, beq_eq_false_iff_ne]
  exact ⟨h1, h2⟩
set_option maxRecDepth 100000 in
set_option maxHeartbeats 1000000 in
theorem from_leap (gf k : Nat) (text : List Int) (ent : Int) (w : World) (h : FlowAt w gf text ent) (hk : k < (blkL text ent).length) (hl : text.length ≤ 16384) (ho : dOp (lastW text ent k) = 18 ∨ dOp (lastW text ent k) = 19) :
    Calls Tryz.prog 89 #[.pointer (some ⟨gf, 0, none⟩), .int .i64 (k : Int)] w (RowR gf (rowZ (edgT text ent (blkL text ent).length) k) w) := by
  have C := leaps_any gf k text ent w h hk (by have := blk_len_le text ent; omega)
  rw [show leapB (dOp (lastW text ent k)) = true by unfold leapB; rcases ho with h | h <;> (rw [h]; rfl)] at C
  rw [from_known hk ho]
  obtain ⟨A1, A3, c1, gN, c3, F, h⟩ := h
  have q2 := h.cells.2.2
  have HK : Hid _ := h.known
  clear h ho hk
  have hq : RowR gf (plcT (knK text ent) (blkL text ent).length) w = RowR gf (knL text ent) w := rfl
  rw [hq]
  clear hq
  generalize knL text ent = l at *
  go_enter Tryz.func89, Tryz.ntmps89
  go_wp2_with (go_at_call 114; refine C.mono ?_; rintro e w2 ⟨rfl, rfl⟩)
  go_ret
  exact ⟨A3, c3, rfl, HK.out, Below.refl _ _, .inr q2⟩

set_option maxRecDepth 100000 in
set_option maxHeartbeats 1000000 in
theorem from_stop (gf k : Nat) (text : List Int) (ent : Int) (w : World) (h : FlowAt w gf text ent) (hk : k < (blkL text ent).length) (hl : text.length ≤ 16384) (ho : dOp (lastW text ent k) = -1 ∨ dOp (lastW text ent k) = 0 ∨ dOp (lastW text ent k) = 21) :
    Calls Tryz.prog 89 #[.pointer (some ⟨gf, 0, none⟩), .int .i64 (k : Int)] w (RowR gf (rowZ (edgT text ent (blkL text ent).length) k) w) := by
  have C := leaps_any gf k text ent w h hk (by have := blk_len_le text ent; omega)
  rw [leap_no (by omega) (by omega)] at C
  rw [from_none hk ho]
  obtain ⟨A1, A3, c1, gN, c3, F, h⟩ := h
  obtain ⟨g1, e1, hc⟩ := h.last hk
  subst e1
  obtain ⟨q0, q1, q2⟩ := h.cells
  have r0 := hc 0 _ rfl
  have r1 := hc 1 _ rfl
  have r2 := hc 2 _ rfl
  have r3 := hc 3 _ rfl
  have r4 := hc 4 _ rfl
  rw [Nat.add_zero] at r0
  have hk' : (k : Int) < ((blkL text ent).length : Int) := by omega
  have hkb : (k : Int) ≤ 16384 := by have := blk_len_le text ent; omega
  clear hc

  clear h hk
  generalize dOp (lastW text ent k) = op at *
  generalize dD (lastW text ent k) = dd at *
  generalize dA (lastW text ent k) = da at *
  generalize dB (lastW text ent k) = db at *
  generalize dN (lastW text ent k) = dn at *
  generalize (blkL text ent).length = nb at *
  rcases ho with rfl | rfl | rfl
  all_goals (
    go_enter Tryz.func89, Tryz.ntmps89
    go_wp2_with (go_at_call 114; refine C.mono ?_; rintro e w2 ⟨rfl, rfl⟩)
    go_ret
    exact ⟨none, 0, rfl, World.ownsRow_nil _ _ _ _, lb_alloc (Below.refl _ _) _, .inl (fun q hq => by cases hq)⟩)

set_option maxRecDepth 100000 in
set_option maxHeartbeats 1000000 in
theorem from_fall (gf k : Nat) (text : List Int) (ml : Nat) (ent : Int) (w : World) (h : FlowAt w gf text ent) (hM : MayI text ml ent) (hk : k < (blkL text ent).length) (hl : text.length ≤ 16384) (ho : ¬ (dOp (lastW text ent k) = -1 ∨ dOp (lastW text ent k) = 0 ∨ dOp (lastW text ent k) = 21 ∨ dOp (lastW text ent k) = 15 ∨ dOp (lastW text ent k) = 17 ∨ dOp (lastW text ent k) = 16 ∨ dOp (lastW text ent k) = 18 ∨ dOp (lastW text ent k) = 19)) :
    Calls Tryz.prog 89 #[.pointer (some ⟨gf, 0, none⟩), .int .i64 (k : Int)] w (RowR gf (rowZ (edgT text ent (blkL text ent).length) k) w) := by
  have C := leaps_any gf k text ent w h hk (by have := blk_len_le text ent; omega)
  rw [leap_no (by omega) (by omega)] at C
  rw [from_next hM hk ho]
  obtain ⟨A1, A3, c1, gN, c3, F, h⟩ := h
  obtain ⟨g1, e1, hc⟩ := h.last hk
  subst e1
  obtain ⟨q0, q1, q2⟩ := h.cells
  have r0 := hc 0 _ rfl
  have r1 := hc 1 _ rfl
  have r2 := hc 2 _ rfl
  have r3 := hc 3 _ rfl
  have r4 := hc 4 _ rfl
  rw [Nat.add_zero] at r0
  have hk' : (k : Int) < ((blkL text ent).length : Int) := by omega
  have hkb : (k : Int) ≤ 16384 := by have := blk_len_le text ent; omega
  clear hc

  clear h hk hM
  generalize dOp (lastW text ent k) = op at *
  generalize dD (lastW text ent k) = dd at *
  generalize dA (lastW text ent k) = da at *
  generalize dB (lastW text ent k) = db at *
  generalize dN (lastW text ent k) = dn at *
  generalize (blkL text ent).length = nb at *
  have o1 : (op == -1) = false := by rw [beq_eq_false_iff_ne]; omega
  have o2 : (op == 0) = false := by rw [beq_eq_false_iff_ne]; omega
  have o3 : (op == 21) = false := by rw [beq_eq_false_iff_ne]; omega
  have o4 : (op == 15) = false := by rw [beq_eq_false_iff_ne]; omega
  have o5 : (op == 17) = false := by rw [beq_eq_false_iff_ne]; omega
  have o6 : (op == 16) = false := by rw [beq_eq_false_iff_ne]; omega
  clear ho
  go_enter Tryz.func89, Tryz.ntmps89
  go_wp2_with (go_at_call 114; refine C.mono ?_; rintro e w2 ⟨rfl, rfl⟩)
  go_ret
  exact ⟨_, _, rfl, new_one (by simp), lb_alloc (lb_alloc (Below.refl _ _) _) _, .inl (own_new rfl (by simp))⟩

set_option maxRecDepth 100000 in
set_option maxHeartbeats 1000000 in
theorem from_goto (gf k : Nat) (text : List Int) (ml : Nat) (ent : Int) (w : World) (h : FlowAt w gf text ent) (hM : MayI text ml ent) (hk : k < (blkL text ent).length) (hl : text.length ≤ 16384) (ho : dOp (lastW text ent k) = 15 ∨ dOp (lastW text ent k) = 17) :
    Calls Tryz.prog 89 #[.pointer (some ⟨gf, 0, none⟩), .int .i64 (k : Int)] w (RowR gf (rowZ (edgT text ent (blkL text ent).length) k) w) := by
  have C := leaps_any gf k text ent w h hk (by have := blk_len_le text ent; omega)
  rw [leap_no (by omega) (by omega)] at C
  obtain ⟨A1, A3, c1, gN, c3, F, h⟩ := h
  obtain ⟨g1, e1, hc⟩ := h.last hk
  subst e1
  obtain ⟨q0, q1, q2⟩ := h.cells
  have r0 := hc 0 _ rfl
  have r1 := hc 1 _ rfl
  have r2 := hc 2 _ rfl
  have r3 := hc 3 _ rfl
  have r4 := hc 4 _ rfl
  rw [Nat.add_zero] at r0
  have hk' : (k : Int) < ((blkL text ent).length : Int) := by omega
  have hkb : (k : Int) ≤ 16384 := by have := blk_len_le text ent; omega
  clear hc

  rw [from_jump hM h.num hk ho]
  obtain ⟨n0, n1⟩ := jump_in hM hk (by omega)
  have s0 := h.nums.cell n0 n1
  clear h hk hM
  generalize dOp (lastW text ent k) = op at *
  generalize dD (lastW text ent k) = dd at *
  generalize dA (lastW text ent k) = da at *
  generalize dB (lastW text ent k) = db at *
  generalize dN (lastW text ent k) = dn at *
  generalize (blkL text ent).length = nb at *
  generalize F dn = x at *
  obtain ⟨W, HW⟩ : ∃ W, Hid (w.alloc (.cells #[.int .i8 op, .int .i8 dd, .int .i8 da, .int .i8 db, .int .i64 dn] 50) = W) := ⟨_, rfl⟩
  have HB : Hid (Below w.heap.size w W) := by unfold Hid; rw [← HW.out]; exact lb_alloc (Below.refl _ _) _
  have i0 : W.cell? ⟨w.heap.size, 0, none⟩ = some (.int .i8 op) := by rw [← HW.out]; simp [go_sem]
  have i4 : W.cell? ⟨w.heap.size, 4, none⟩ = some (.int .i64 dn) := by rw [← HW.out]; simp [go_sem]
  have w1 := lkeep HB.out q1
  have ws := lkeep HB.out s0
  rcases ho with rfl | rfl
  all_goals (
    go_enter Tryz.func89, Tryz.ntmps89
    go_upto_region 4 with (go_at_call 114; refine C.mono ?_; rintro e w2 ⟨rfl, rfl⟩)
    rw [HW.out]
    clear HW q0 q1 q2 r0 r1 r2 r3 r4 s0
    go_upto_region 11 with fail
    go_region_held3 (fun X => Below w2.heap.size w2 X ∧ X.cell? ⟨gf, 1, none⟩ = some (.slice (some ⟨gN, 0, none⟩) text.length text.length) ∧ X.cell? ⟨w2.heap.size, 4, none⟩ = some (.int .i64 dn) ∧ X.cell? ⟨gN, dn.toNat, none⟩ = some (.int .i64 x)) (first | (refine ⟨?_, ?_, ?_, ?_⟩ <;> (first | exact HB.out.drew | exact HB.out | exact (lb_alloc HB.out _).drew | exact lb_alloc HB.out.drew _ | exact (lb_alloc HB.out.drew _).drew | exact Below.drew (lb_alloc (Below.drew HB.out) _) | exact lkeep (Below.drew (lb_alloc (Below.refl _ W) _)) w1 | exact lkeep (Below.drew (lb_alloc (Below.refl _ W) _)) i4 | exact lkeep (Below.drew (lb_alloc (Below.refl _ W) _)) ws | (simp [*]; done))) | (first | exact HB.out.drew | exact HB.out | exact (lb_alloc HB.out _).drew | exact lb_alloc HB.out.drew _ | exact (lb_alloc HB.out.drew _).drew | exact Below.drew (lb_alloc (Below.drew HB.out) _) | exact lkeep (Below.drew (lb_alloc (Below.refl _ W) _)) w1 | exact lkeep (Below.drew (lb_alloc (Below.refl _ W) _)) i4 | exact lkeep (Below.drew (lb_alloc (Below.refl _ W) _)) ws | (simp [*]; done))) (fail)
    all_goals (
      rename_i hS
      clear hS
      go_wp2_with fail
      go_ret
      refine ⟨_, _, rfl, new_one (by simp), ?_, .inl (own_new rfl (by have := HB.out.size; first | omega | (simp; omega)))⟩
      first | exact lb_alloc HB.out.drew _ | exact lb_alloc HB.out _ | exact (lb_alloc HB.out _).drew | exact (lb_alloc HB.out.drew _).drew))


end Go.Proofs.YtfnicgihpelhhaaGreat
