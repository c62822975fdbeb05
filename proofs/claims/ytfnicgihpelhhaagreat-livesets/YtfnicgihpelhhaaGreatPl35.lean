/-
  eq and EqBools of the statements: lists that are the same. What the statements need of the program: Edges, Reached, Back, each by what it answers. The flow as it is made, its second part; no Go in sight.
-/
import Derived.Test.YtfnicgihpelhhaaGreatProg
import Derived.WalkKit
import Derived.WalkSpells
import Derived.WalkLawsBesides
import Derived.RowKit3
import Derived.Below
import Derived.Deep.QuietTactic
import Derived.BigQuiet
import Derived.WalkSmall
import Derived.Laws.Rows
import Derived.Deep.RegionHeld3
import Derived.Deep.RegionWith
import Derived.Test.YtfnicgihpelhhaaGreatPl34
import Derived.Test.YtfnicgihpelhhaaGreatPl14
import Derived.Test.YtfnicgihpelhhaaGreatPl13
import Derived.Test.YtfnicgihpelhhaaGreatPl31
namespace Go.Proofs.YtfnicgihpelhhaaGreat
open Go.RowKit

/-- A row of bools, to be read. -/
def BolsAt (w : World) (A : Option Addr) (n : Nat) (F : Int → Bool) : Prop := ∀ i : Nat, i < n → ∃ a : Addr, A = some a ∧ w.cell? (a.add i) = some (.bool (F (i : Int)))
theorem BolsAt.keep {w w1 : World} {A : Option Addr} {n : Nat} {F : Int → Bool} (h : BolsAt w A n F) (hb : Below w.heap.size w w1) : BolsAt w1 A n F := fun i hi => by
  obtain ⟨a, e, c⟩ := h i hi
  exact ⟨a, e, lkeep hb c⟩
theorem BlsAt.bols {w : World} {g n : Nat} {F : Int → Bool} (h : BlsAt w g n F) : BolsAt w (some ⟨g, 0, none⟩) n F := fun i hi => ⟨_, rfl, by rw [add0]; exact h.cellN hi⟩

end Go.Proofs.YtfnicgihpelhhaaGreat

namespace Go.Proofs.YtfnicgihpelhhaaGreat
open Go.RowKit

/-- Lists beside a code. -/
def ZE (E : Int) (L : List (List Int)) (w : World) (e : Ending) (w' : World) : Prop := ∃ (A : Option Addr) (c : Nat), e = .returned (.tuple #[.slice A L.length c, .int .i64 E]) ∧ IntsZ w' A L ∧ Below w.heap.size w w'
def ZR (L : List (List Int)) (w : World) (e : Ending) (w' : World) : Prop := ∃ (A : Option Addr) (c : Nat), e = .returned (.slice A L.length c) ∧ IntsZ w' A L ∧ Below w.heap.size w w'
def BE (E : Int) (n : Nat) (F : Int → Bool) (w : World) (e : Ending) (w' : World) : Prop := ∃ (A : Option Addr) (c : Nat), e = .returned (.tuple #[.slice A n c, .int .i64 E]) ∧ BolsAt w' A n F ∧ Below w.heap.size w w'
def outE (text : List Int) (ml : Nat) (ent : Int) : List (List Int) := if (checkI text ml ent).1 = 0 then edgT text ent (blkL text ent).length else []
def outN (text : List Int) (ml : Nat) (ent : Int) : Nat := if (checkI text ml ent).1 = 0 then (blkL text ent).length else 0
noncomputable def outR (text : List Int) (ent : Int) : Int → Bool := rchF (edgT text ent (blkL text ent).length) (ofB (blkL text ent) ent)
def EdgesOK : Prop := ∀ (A1 A2 : Option Addr) (c1 ml c2 : Nat) (ent : Int) (text : List Int) (w : World), IntsAt w A1 .u32 text → (∀ i, i < text.length → 0 ≤ nth text i ∧ nth text i < 4294967296) → text.length ≤ 1048576 → ml ≤ 1048576 →
  Calls Tryz.prog 75 #[.agg #[.slice A1 text.length c1, .int .i64 ent, .slice A2 ml c2]] w (ZE (checkI text ml ent).1 (outE text ml ent) w)
def BackOK : Prop := ∀ (A : Option Addr) (ca : Nat) (L : List (List Int)) (w : World), IntsZ w A L → L.length ≤ 65536 → (∀ i, i < L.length → (rowZ L i).length ≤ 65536) →
  Calls Tryz.prog 48 #[.slice A L.length ca] w (ZR (backT L L.length) w)
theorem ZP.lists {L : List (List Int)} {w w' : World} {e : Ending} (h : ZP L w e w') : ZR L w e w' := by
  obtain ⟨A, c, vs, he, hz, hb⟩ := h
  exact ⟨A, c, he, hz.ints, hb⟩



end Go.Proofs.YtfnicgihpelhhaaGreat

namespace Go.Proofs.YtfnicgihpelhhaaGreat
open Go.RowKit

/-- The flow while the places are gone through. -/
structure Fl2 (w1 wr : World) (gN gf : Nat) (text : List Int) (ent : Int) (O : Option Addr) (c : Nat) (F : Int → Int) (bk : Nat) (A : Option Addr) (ca : Nat) (l : List Int) : Prop where
  box : wr.heap[gf]? = some (.cells #[.slice O (blkL text ent).length c, .slice (some ⟨gN, 0, none⟩) text.length text.length, .slice A l.length ca] 149 (0, 0))
  row : wr.ownsRow w1.heap.size 50 5 (.slice O (blkL text ent).length c) (blkL text ent).length (lstV (lastL text ent (blkL text ent).length))
  nums : NumsAt wr gN text.length F
  num : NumF text ent (blkL text ent).length F
  kn : wr.ownsRow bk 3 1 (.slice A l.length ca) l.length (iVals .i64 l)
  off : (Value.slice A l.length ca).ownBlock ≠ some gN
  below : Below w1.heap.size w1 wr
  hf : w1.heap.size ≤ gf
  hk : w1.heap.size ≤ bk
section
variable {w1 wr w2 : World} {gN gf : Nat} {text : List Int} {ent : Int} {O : Option Addr} {c : Nat} {F : Int → Int} {bk : Nat} {A : Option Addr} {ca : Nat} {l : List Int}
theorem Fl1.two (h : Fl1 w1 wr gN gf (blkL text ent).length (blkL text ent).length text ent O c F) : Fl2 w1 wr gN gf text ent O c F w1.heap.size none 0 [] :=
  ⟨h.box, h.row, h.nums, h.num, World.ownsRow_nil _ _ _ _, (fun e => by cases e), h.below, h.hf, Nat.le_refl _⟩
theorem Fl2.base {bk' : Nat} (h : Fl2 w1 wr gN gf text ent O c F bk none 0 []) (hb : w1.heap.size ≤ bk') : Fl2 w1 wr gN gf text ent O c F bk' none 0 [] :=
  ⟨h.box, h.row, h.nums, h.num, World.ownsRow_nil _ _ _ _, (fun e => by cases e), h.below, h.hf, hb⟩
theorem Fl2.keep (h : Fl2 w1 wr gN gf text ent O c F bk A ca l) (hb : Below wr.heap.size wr w2) : Fl2 w1 w2 gN gf text ent O c F bk A ca l :=
  ⟨lb_box h.box hb, row_keep h.row hb, h.nums.keep hb, h.num, row_keep h.kn hb, h.off, lb_trans h.below hb, h.hf, h.hk⟩
theorem Fl2.ne (h : Fl2 w1 wr gN gf text ent O c F bk A ca l) : gf ≠ gN := fun e => by
  obtain ⟨cs, hb, _⟩ := h.nums
  rw [← e, h.box] at hb
  injection hb with hb
  injection hb with _ hh
  exact absurd hh (by decide)
theorem Fl2.cells (h : Fl2 w1 wr gN gf text ent O c F bk A ca l) : wr.cell? ⟨gf, 1, none⟩ = some (.slice (some ⟨gN, 0, none⟩) text.length text.length) ∧ wr.cell? ⟨gf, 2, none⟩ = some (.slice A l.length ca) ∧ wr.frozen? ⟨gf, 2, none⟩ = false :=
  ⟨by simp [World.cell?, h.box], by simp [World.cell?, h.box], box_fro h.box 2⟩
/-- A list of other memory in the place of the known ones. -/
theorem Fl2.put {A' : Option Addr} {ca' : Nat} {l' : List Int} (h : Fl2 w1 wr gN gf text ent O c F bk A ca l) (ho : w2.ownsRow bk 3 1 (.slice A' l'.length ca') l'.length (iVals .i64 l')) (hg : wr.grownBy w2 (Value.slice A l.length ca).ownBlock) (hloc : ∀ q, (Value.slice A' l'.length ca').ownBlock = some q → (Value.slice A l.length ca).ownBlock = some q ∨ wr.heap.size ≤ q) : Fl2 w1 (w2.setCell ⟨gf, 2, none⟩ (.slice A' l'.length ca')) gN gf text ent O c F bk A' ca' l' ∧ w2.cell? ⟨gf, 2, none⟩ = some (.slice A l.length ca) ∧ w2.frozen? ⟨gf, 2, none⟩ = false := by
  have hlt : gf < wr.heap.size := (Array.getElem?_eq_some_iff.1 h.box).1
  have hbox2 : w2.heap[gf]? = some (.cells #[.slice O (blkL text ent).length c, .slice (some ⟨gN, 0, none⟩) text.length text.length, .slice A l.length ca] 149 (0, 0)) := by
    rw [hg.block gf hlt (fun e => blk_off h.kn h.box (by decide) e.symm)]
    exact h.box
  have hn2 := h.nums.kept hg h.off
  have hb2 : Below w1.heap.size w1 w2 := h.below.grown hg h.below.size (fun b hb => Nat.le_trans h.hk (h.kn.lt b hb).1)
  have hr2 := row_other h.row h.kn (by decide) hg
  refine ⟨⟨?_, ?_, ?_, h.num, ?_, ?_, grown_belowR hb2 (gset11 _ _ _ _) h.hf hb2.size, h.hf, h.hk⟩, by simp [World.cell?, hbox2], box_fro hbox2 2⟩
  · rw [box_set hbox2]; rfl
  · exact ownsRow_setCell_other hr2 (blk_off hr2 hbox2 (by decide)) _
  · exact hn2.kept (gset11 _ _ _ _) (fun e => h.ne (by injection e))
  · exact ownsRow_setCell_other ho (blk_off ho hbox2 (by decide)) _
  · intro e
    rcases hloc gN e with h1 | h1
    · exact h.off h1
    · have := h.nums.lt
      omega
theorem Fl2.flow (h : Fl2 w1 wr gN gf text ent O c F bk A ca l) (e : l = knL text ent) : FlowAt wr gf text ent := by
  subst e
  exact ⟨O, A, c, gN, ca, F, h.box, ownsRow_mono h.row (Nat.zero_le _), h.nums, h.num, ownsRow_mono h.kn (Nat.zero_le _)⟩
end
/-- Two lists one behind the other, as they lie in a list of lists that was made now. -/
theorem two_rows {w : World} {b1 b2 : Nat} {A1 A2 : Option Addr} {c1 c2 : Nat} {l1 l2 : List Int} (h1 : w.ownsRow b1 3 1 (.slice A1 l1.length c1) l1.length (iVals .i64 l1)) (h2 : w.ownsRow b2 3 1 (.slice A2 l2.length c2) l2.length (iVals .i64 l2)) : RowsZ (w.alloc (.cells #[.slice A1 l1.length c1, .slice A2 l2.length c2] 72)) 0 (.slice (some ⟨w.heap.size, 0, none⟩) [l1, l2].length 2) [.slice A1 l1.length c1, .slice A2 l2.length c2] [l1, l2] := by
  have hb : Below w.heap.size w (w.alloc (.cells #[.slice A1 l1.length c1, .slice A2 l2.length c2] 72)) := lb_alloc (Below.refl _ _) _
  refine ⟨⟨rfl, .inr ⟨w.heap.size, 2, _, rfl, Nat.zero_le _, heap_alloc_new _ _, Nat.le_refl _, by unfold maxLen; omega, rfl, rfl⟩⟩, fun i hi => ?_⟩
  have hi : i = 0 ∨ i = 1 := by simp at hi; omega
  rcases hi with rfl | rfl
  · exact row_keep (ownsRow_mono h1 (Nat.zero_le _)) hb
  · exact row_keep (ownsRow_mono h2 (Nat.zero_le _)) hb
theorem cat_two (l1 l2 : List Int) : catT [l1, l2] 2 = l1 ++ l2 := by
  rw [catT_succ, catT_succ, catT_zero]
  rfl
theorem map_snoc {F : Int → Int} {ps : List Int} {j : Nat} (h : j < ps.length) : (ps.take (j + 1)).map F = (ps.take j).map F ++ [F (nth ps j)] := by
  rw [List.take_succ_eq_append_getElem h, List.map_append]
  have : nth ps j = ps[j] := by simp [nth, List.getD, h]
  rw [this]
  rfl
theorem map_take_len {F : Int → Int} {ps : List Int} {j : Nat} (h : j ≤ ps.length) : ((ps.take j).map F).length = j := by
  rw [List.length_map, List.length_take]
  omega


end Go.Proofs.YtfnicgihpelhhaaGreat
