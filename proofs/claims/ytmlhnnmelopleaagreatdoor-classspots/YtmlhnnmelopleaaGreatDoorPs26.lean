/-
  Labels, Taken and Sites of package block, by what they answer; each word is of 32 bits. The flow as it is made; no Go in sight. The flow as it is made, its second part; no Go in sight. leaps and from of package edge, by what they answer.
-/
import Derived.Test.YtmlhnnmelopleaaGreatDoorProg
import Derived.WalkKit
import Derived.WalkSpells
import Derived.WalkLawsBesides
import Derived.RowKit3
import Derived.Below
import Derived.Deep.QuietTactic
import Derived.BigQuiet
import Derived.WalkSmall
import Derived.Laws.Rows
import Derived.Test.YtmlhnnmelopleaaGreatDoorPs25
import Derived.Test.YtmlhnnmelopleaaGreatDoorPs23
import Derived.Test.YtmlhnnmelopleaaGreatDoorPs22
import Derived.Test.YtmlhnnmelopleaaGreatDoorPs24
import Derived.WalkMore
import Derived.Deep.RegionHeld3
import Derived.Deep.RegionWith
namespace Go.Proofs.YtmlhnnmelopleaaGreatDoor
open Go.RowKit

set_option maxHeartbeats 1000000 in
theorem taken_any (A1 A2 : Option Addr) (c1 ml c2 : Nat) (ent : Int) (text : List Int) (w : World) (hT : IntsAt w A1 .u32 text) (hR : ∀ i, i < text.length → 0 ≤ nth text i ∧ nth text i < 4294967296) (hl : text.length ≤ 1048576) (hm : ml ≤ 1048576) :
    Calls Tryz.prog 115 #[.agg #[.slice A1 text.length c1, .int .i64 ent, .slice A2 ml c2]] w (GatP (checkI text ml ent).1 (outL text ml ent (takF text)) w) := by
  have HB : Hid (Below w.heap.size w (w.alloc (.cells #[.slice A1 text.length c1, .int .i64 ent, .slice A2 ml c2] 31))) := lb_alloc (Below.refl _ _) _
  have C := gather_tak A1 A2 c1 ml c2 ent text (w.alloc (.cells #[.slice A1 text.length c1, .int .i64 ent, .slice A2 ml c2] 31)) (hT.keep HB.out) hR hl hm
  generalize outL text ml ent (takF text) = ps at *
  generalize (checkI text ml ent).1 = E at *
  clear hT hR
  go_enter Tryz.func115, Tryz.ntmps115
  go_wp2_with fail
  refine C.mono ?_
  rintro e w1 ⟨A, c, rfl, hown, hb⟩
  go_wp2
  go_ret2
  exact ⟨A, c, rfl, ownsRow_mono hown HB.out.size, lb_trans HB.out hb⟩

set_option maxHeartbeats 1000000 in
theorem sites_any (A1 A2 : Option Addr) (c1 ml c2 : Nat) (ent : Int) (text : List Int) (w : World) (hT : IntsAt w A1 .u32 text) (hR : ∀ i, i < text.length → 0 ≤ nth text i ∧ nth text i < 4294967296) (hl : text.length ≤ 1048576) (hm : ml ≤ 1048576) :
    Calls Tryz.prog 116 #[.agg #[.slice A1 text.length c1, .int .i64 ent, .slice A2 ml c2]] w (GatP (checkI text ml ent).1 (outL text ml ent (sitF text)) w) := by
  have HB : Hid (Below w.heap.size w (w.alloc (.cells #[.slice A1 text.length c1, .int .i64 ent, .slice A2 ml c2] 31))) := lb_alloc (Below.refl _ _) _
  have C := gather_sit A1 A2 c1 ml c2 ent text (w.alloc (.cells #[.slice A1 text.length c1, .int .i64 ent, .slice A2 ml c2] 31)) (hT.keep HB.out) hR hl hm
  generalize outL text ml ent (sitF text) = ps at *
  generalize (checkI text ml ent).1 = E at *
  clear hT hR
  go_enter Tryz.func116, Tryz.ntmps116
  go_wp2_with fail
  refine C.mono ?_
  rintro e w1 ⟨A, c, rfl, hown, hb⟩
  go_wp2
  go_ret2
  exact ⟨A, c, rfl, ownsRow_mono hown HB.out.size, lb_trans HB.out hb⟩




end Go.Proofs.YtmlhnnmelopleaaGreatDoor

namespace Go.Proofs.YtmlhnnmelopleaaGreatDoor
open Go.RowKit

theorem infoN : ∃ i, Tryz.prog.info? 67 = some i ∧ i.zero = some (.agg #[.int .i8 0, .int .i8 0, .int .i8 0, .int .i8 0, .int .i64 0]) ∧ i.size = 5 ∧ i.bytes = 16 :=
  ⟨(Tryz.prog.info? 67).get (by kernel_rfl), by kernel_rfl, by kernel_rfl, by kernel_rfl, by kernel_rfl⟩
theorem cell_setO {X : World} {g p : Nat} {u v : Value} {a : Addr} (h : X.cell? a = some v) (hne : a.block ≠ g) : (X.setCell ⟨g, p, none⟩ u).drew.cell? a = some v := by
  have h1 : (X.setCell ⟨g, p, none⟩ u).cell? a = some v := by
    rw [World.cell?_of_block (Below.heap_setCell _ _ _ _ hne)]; exact h
  exact h1
/-- The flow while the blocks are gone through: k last words, m numbers. -/
structure Fl1 (w1 wr : World) (gN gf k m : Nat) (text : List Int) (ent : Int) (O : Option Addr) (c : Nat) (F : Int → Int) : Prop where
  box : wr.heap[gf]? = some (.cells #[.slice O k c, .slice (some ⟨gN, 0, none⟩) text.length text.length, .slice none 0 0] 165 (0, 0))
  row : wr.ownsRow w1.heap.size 67 5 (.slice O k c) k (lstV (lastL text ent k))
  nums : NumsAt wr gN text.length F
  num : NumF text ent m F
  below : Below w1.heap.size w1 wr
  hN : w1.heap.size ≤ gN
  hf : w1.heap.size ≤ gf
section
variable {w1 wr w2 : World} {gN gf k m : Nat} {text : List Int} {ent : Int} {O : Option Addr} {c : Nat} {F : Int → Int}
theorem Fl1.keep (h : Fl1 w1 wr gN gf k m text ent O c F) (hb : Below wr.heap.size wr w2) : Fl1 w1 w2 gN gf k m text ent O c F :=
  ⟨lb_box h.box hb, row_keep h.row hb, h.nums.keep hb, h.num, lb_trans h.below hb, h.hN, h.hf⟩
theorem Fl1.ne (h : Fl1 w1 wr gN gf k m text ent O c F) : gf ≠ gN := fun e => by
  obtain ⟨cs, hb, _⟩ := h.nums
  rw [← e, h.box] at hb
  injection hb with hb
  injection hb with _ hh
  exact absurd hh (by decide)
theorem Fl1.cells (h : Fl1 w1 wr gN gf k m text ent O c F) : wr.cell? ⟨gf, 0, none⟩ = some (.slice O k c) ∧ wr.cell? ⟨gf, 1, none⟩ = some (.slice (some ⟨gN, 0, none⟩) text.length text.length) ∧ wr.frozen? ⟨gf, 0, none⟩ = false :=
  ⟨by simp [World.cell?, h.box], by simp [World.cell?, h.box], box_fro h.box 0⟩
/-- A number is written. -/
theorem Fl1.number (h : Fl1 w1 wr gN gf k m text ent O c F) (hm : m < (blkL text ent).length) : Fl1 w1 (wr.setCell ⟨gN, (rAt (blkL text ent) m).toNat, none⟩ (.int .i64 (m : Int))) gN gf k (m + 1) text ent O c (fun y => if y = rAt (blkL text ent) m then (m : Int) else F y) := by
  have hin := blk_in hm
  have hoff : (Value.slice O k c).ownBlock ≠ some gN := by
    obtain ⟨cs, hb, _⟩ := h.nums
    exact blk_off h.row hb (by decide)
  refine ⟨?_, ownsRow_setCell_other h.row hoff _, h.nums.set hin.1 (by omega) _, h.num.more hm, grown_belowR h.below (gset11 _ _ _ _) h.hN h.below.size, h.hN, h.hf⟩
  rw [Below.heap_setCell _ _ _ _ h.ne]
  exact h.box
/-- A last word is added. -/
theorem Fl1.add {O' : Option Addr} {c' : Nat} (h : Fl1 w1 wr gN gf k m text ent O c F) (ho : w2.ownsRow w1.heap.size 67 5 (.slice O' (k + 1) c') (k + 1) (lstV (lastL text ent k) ++ insC (lastW text ent k))) (hg : wr.grownBy w2 (Value.slice O k c).ownBlock) : Fl1 w1 (w2.setCell ⟨gf, 0, none⟩ (.slice O' (k + 1) c')) gN gf (k + 1) m text ent O' c' F ∧ w2.cell? ⟨gf, 0, none⟩ = some (.slice O k c) ∧ w2.frozen? ⟨gf, 0, none⟩ = false := by
  have hlt : gf < wr.heap.size := (Array.getElem?_eq_some_iff.1 h.box).1
  have hbox2 : w2.heap[gf]? = some (.cells #[.slice O k c, .slice (some ⟨gN, 0, none⟩) text.length text.length, .slice none 0 0] 165 (0, 0)) := by
    rw [hg.block gf hlt (fun e => blk_off h.row h.box (by decide) e.symm)]
    exact h.box
  have hoffN : (Value.slice O k c).ownBlock ≠ some gN := by
    obtain ⟨cs, hb, _⟩ := h.nums
    exact blk_off h.row hb (by decide)
  have hn2 := h.nums.kept hg hoffN
  have hb2 : Below w1.heap.size w1 w2 := h.below.grown hg h.below.size (fun b hb => (h.row.lt b hb).1)
  refine ⟨⟨?_, ?_, ?_, h.num, grown_belowR hb2 (gset11 _ _ _ _) h.hf hb2.size, h.hN, h.hf⟩, by simp [World.cell?, hbox2], box_fro hbox2 0⟩
  · rw [box_set hbox2]; rfl
  · rw [lastL_succ, lstV_snoc]
    exact ownsRow_setCell_other ho (blk_off ho hbox2 (by decide)) _
  · exact hn2.kept (gset11 _ _ _ _) (fun e => h.ne (by injection e))
end



end Go.Proofs.YtmlhnnmelopleaaGreatDoor

namespace Go.Proofs.YtmlhnnmelopleaaGreatDoor
open Go.RowKit

/-- The flow while the places are gone through. -/
structure Fl2 (w1 wr : World) (gN gf : Nat) (text : List Int) (ent : Int) (O : Option Addr) (c : Nat) (F : Int → Int) (bk : Nat) (A : Option Addr) (ca : Nat) (l : List Int) : Prop where
  box : wr.heap[gf]? = some (.cells #[.slice O (blkL text ent).length c, .slice (some ⟨gN, 0, none⟩) text.length text.length, .slice A l.length ca] 165 (0, 0))
  row : wr.ownsRow w1.heap.size 67 5 (.slice O (blkL text ent).length c) (blkL text ent).length (lstV (lastL text ent (blkL text ent).length))
  nums : NumsAt wr gN text.length F
  num : NumF text ent (blkL text ent).length F
  kn : wr.ownsRow bk 3 1 (.slice A l.length ca) l.length (iVals .i64 l)
  off : (Value.slice A l.length ca).ownBlock ≠ some gN
  below : Below w1.heap.size w1 wr
  hf : w1.heap.size ≤ gf
  hk : w1.heap.size ≤ bk
section
variable {w1 wr w2 : World} {gN gf : Nat} {text : List Int} {ent : Int} {O : Option Addr} {c : Nat} {F : Int → Int} {bk : Nat} {A : Option Addr} {ca : Nat} {l : List Int}
theorem Fl1.two (h : Fl1 w1 wr gN gf (blkL text ent).length (blkL text ent).length text ent O c F) : Fl2 w1 wr gN gf text ent O c F w1.heap.size none 0 [] :=
  ⟨h.box, h.row, h.nums, h.num, World.ownsRow_nil _ _ _ _, (fun e => by cases e), h.below, h.hf, Nat.le_refl _⟩
theorem Fl2.base {bk' : Nat} (h : Fl2 w1 wr gN gf text ent O c F bk none 0 []) (hb : w1.heap.size ≤ bk') : Fl2 w1 wr gN gf text ent O c F bk' none 0 [] :=
  ⟨h.box, h.row, h.nums, h.num, World.ownsRow_nil _ _ _ _, (fun e => by cases e), h.below, h.hf, hb⟩
theorem Fl2.keep (h : Fl2 w1 wr gN gf text ent O c F bk A ca l) (hb : Below wr.heap.size wr w2) : Fl2 w1 w2 gN gf text ent O c F bk A ca l :=
  ⟨lb_box h.box hb, row_keep h.row hb, h.nums.keep hb, h.num, row_keep h.kn hb, h.off, lb_trans h.below hb, h.hf, h.hk⟩
theorem Fl2.ne (h : Fl2 w1 wr gN gf text ent O c F bk A ca l) : gf ≠ gN := fun e => by
  obtain ⟨cs, hb, _⟩ := h.nums
  rw [← e, h.box] at hb
  injection hb with hb
  injection hb with _ hh
  exact absurd hh (by decide)
theorem Fl2.cells (h : Fl2 w1 wr gN gf text ent O c F bk A ca l) : wr.cell? ⟨gf, 1, none⟩ = some (.slice (some ⟨gN, 0, none⟩) text.length text.length) ∧ wr.cell? ⟨gf, 2, none⟩ = some (.slice A l.length ca) ∧ wr.frozen? ⟨gf, 2, none⟩ = false :=
  ⟨by simp [World.cell?, h.box], by simp [World.cell?, h.box], box_fro h.box 2⟩
/-- A list of other memory in the place of the known ones. -/
theorem Fl2.put {A' : Option Addr} {ca' : Nat} {l' : List Int} (h : Fl2 w1 wr gN gf text ent O c F bk A ca l) (ho : w2.ownsRow bk 3 1 (.slice A' l'.length ca') l'.length (iVals .i64 l')) (hg : wr.grownBy w2 (Value.slice A l.length ca).ownBlock) (hloc : ∀ q, (Value.slice A' l'.length ca').ownBlock = some q → (Value.slice A l.length ca).ownBlock = some q ∨ wr.heap.size ≤ q) : Fl2 w1 (w2.setCell ⟨gf, 2, none⟩ (.slice A' l'.length ca')) gN gf text ent O c F bk A' ca' l' ∧ w2.cell? ⟨gf, 2, none⟩ = some (.slice A l.length ca) ∧ w2.frozen? ⟨gf, 2, none⟩ = false := by
  have hlt : gf < wr.heap.size := (Array.getElem?_eq_some_iff.1 h.box).1
  have hbox2 : w2.heap[gf]? = some (.cells #[.slice O (blkL text ent).length c, .slice (some ⟨gN, 0, none⟩) text.length text.length, .slice A l.length ca] 165 (0, 0)) := by
    rw [hg.block gf hlt (fun e => blk_off h.kn h.box (by decide) e.symm)]
    exact h.box
  have hn2 := h.nums.kept hg h.off
  have hb2 : Below w1.heap.size w1 w2 := h.below.grown hg h.below.size (fun b hb => Nat.le_trans h.hk (h.kn.lt b hb).1)
  have hr2 := row_other h.row h.kn (by decide) hg
  refine ⟨⟨?_, ?_, ?_, h.num, ?_, ?_, grown_belowR hb2 (gset11 _ _ _ _) h.hf hb2.size, h.hf, h.hk⟩, by simp [World.cell?, hbox2], box_fro hbox2 2⟩
  · rw [box_set hbox2]; rfl
  · exact ownsRow_setCell_other hr2 (blk_off hr2 hbox2 (by decide)) _
  · exact hn2.kept (gset11 _ _ _ _) (fun e => h.ne (by injection e))
  · exact ownsRow_setCell_other ho (blk_off ho hbox2 (by decide)) _
  · intro e
    rcases hloc gN e with h1 | h1
    · exact h.off h1
    · have := h.nums.lt
      omega
theorem Fl2.flow (h : Fl2 w1 wr gN gf text ent O c F bk A ca l) (e : l = knL text ent) : FlowAt wr gf text ent := by
  subst e
  exact ⟨O, A, c, gN, ca, F, h.box, ownsRow_mono h.row (Nat.zero_le _), h.nums, h.num, ownsRow_mono h.kn (Nat.zero_le _)⟩
end
/-- Two lists one behind the other, as they lie in a list of lists that was made now. -/
theorem two_rows {w : World} {b1 b2 : Nat} {A1 A2 : Option Addr} {c1 c2 : Nat} {l1 l2 : List Int} (h1 : w.ownsRow b1 3 1 (.slice A1 l1.length c1) l1.length (iVals .i64 l1)) (h2 : w.ownsRow b2 3 1 (.slice A2 l2.length c2) l2.length (iVals .i64 l2)) : RowsZ (w.alloc (.cells #[.slice A1 l1.length c1, .slice A2 l2.length c2] 32)) 0 (.slice (some ⟨w.heap.size, 0, none⟩) [l1, l2].length 2) [.slice A1 l1.length c1, .slice A2 l2.length c2] [l1, l2] := by
  have hb : Below w.heap.size w (w.alloc (.cells #[.slice A1 l1.length c1, .slice A2 l2.length c2] 32)) := lb_alloc (Below.refl _ _) _
  refine ⟨⟨rfl, .inr ⟨w.heap.size, 2, _, rfl, Nat.zero_le _, heap_alloc_new _ _, Nat.le_refl _, by unfold maxLen; omega, rfl, rfl⟩⟩, fun i hi => ?_⟩
  have hi : i = 0 ∨ i = 1 := by simp at hi; omega
  rcases hi with rfl | rfl
  · exact row_keep (ownsRow_mono h1 (Nat.zero_le _)) hb
  · exact row_keep (ownsRow_mono h2 (Nat.zero_le _)) hb
theorem cat_two (l1 l2 : List Int) : catT [l1, l2] 2 = l1 ++ l2 := by
  rw [catT_succ, catT_succ, catT_zero]
  rfl
theorem map_snoc {F : Int → Int} {ps : List Int} {j : Nat} (h : j < ps.length) : (ps.take (j + 1)).map F = (ps.take j).map F ++ [F (nth ps j)] := by
  rw [List.take_succ_eq_append_getElem h, List.map_append]
  have : nth ps j = ps[j] := by simp [nth, List.getD, h]
  rw [this]
  rfl
theorem map_take_len {F : Int → Int} {ps : List Int} {j : Nat} (h : j ≤ ps.length) : ((ps.take j).map F).length = j := by
  rw [List.length_map, List.length_take]
  omega



end Go.Proofs.YtmlhnnmelopleaaGreatDoor

namespace Go.Proofs.YtmlhnnmelopleaaGreatDoor
open Go.RowKit

set_option maxRecDepth 100000 in
set_option maxHeartbeats 1000000 in
theorem leaps_any (gf k : Nat) (text : List Int) (ent : Int) (w : World) (h : FlowAt w gf text ent) (hk : k < (blkL text ent).length) (_hl : (blkL text ent).length ≤ 1048576) :
    Calls Tryz.prog 119 #[.pointer (some ⟨gf, 0, none⟩), .int .i64 (k : Int)] w fun e w' => e = .returned (.bool (leapB (dOp (lastW text ent k)))) ∧ w' = w := by
  obtain ⟨A1, A3, c1, gN, c3, F, h⟩ := h
  obtain ⟨g1, e1, hc⟩ := h.last hk
  subst e1
  have q0 := h.cells.1
  have q1 := hc 0 _ rfl
  rw [Nat.add_zero] at q1
  have hk' : (k : Int) < ((blkL text ent).length : Int) := by omega
  clear h hc
  generalize (blkL text ent).length = nb at *
  generalize dOp (lastW text ent k) = op at *
  have HL : Hid (leapB op = (op == 18 || op == 19)) := rfl
  generalize leapB op = lb at *
  go_enter Tryz.func119, Tryz.ntmps119
  go_wp2
  all_goals (go_ret; refine ⟨?_, rfl⟩; rw [HL.out]; first | rfl | simp_all)



end Go.Proofs.YtmlhnnmelopleaaGreatDoor
