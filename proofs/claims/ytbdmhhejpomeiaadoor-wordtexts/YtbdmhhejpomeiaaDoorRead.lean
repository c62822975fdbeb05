/-
  Read of package word returns the word whose text the string is, or none, for every string, where the table of powers of ten lies as listed.
-/
import Derived.Test.YtbdmhhejpomeiaaDoorText
import Derived.Test.YtbdmhhejpomeiaaDoorGather
namespace Go.Proofs.YtbdmhhejpomeiaaDoor
open Go.RowKit

/-- The number of what was read; 0 of none. -/
def rV : Option (Int × Bool) → Int
  | some p => p.1
  | none => 0
/-- Whether what was read is sealed. -/
def rC : Option (Int × Bool) → Bool
  | some p => p.2
  | none => false

theorem frozen_keep {w w1 : World} (h : Below w.heap.size w w1) {b o : Nat} {v : Value} (hc : w.cell? ⟨b, o, none⟩ = some v) (hf : w.frozen? ⟨b, o, none⟩ = false) : w1.frozen? ⟨b, o, none⟩ = false := by
  rw [h.frozen (p := ⟨b, o, none⟩) (World.block_lt_of_cell? w _ hc)]; exact hf

theorem same_text {s : ByteArray} {x : Int} {c : Bool} : ((txtB x c).toList == s.toList) = decide (txt x c = s.data.toList) := by
  rw [Lib.toList_data, Lib.toList_data]
  by_cases h : txt x c = s.data.toList
  · simp [txtB, h]
  · simp [txtB, h]

theorem read_any (s : ByteArray) (hs : s.size ≤ maxLen) (w : World) (ht : Tab w) : Calls Tryd.prog 15 #[.string s] w fun e w' =>
    e = .returned (.tuple #[.agg #[.int .i64 (rV (readG s.data.toList)), .bool (rC (readG s.data.toList))], .bool (readG s.data.toList).isSome]) ∧ Below w.heap.size w w' := by
  go_enter Tryd.func15, Tryd.ntmps15
  go_wp2_with fail
  refine (gather_any s hs _).mono ?_
  rintro e w1 ⟨rfl, hb1⟩
  have r10 : w1.cell? ⟨w.heap.size, 0, none⟩ = some (.int .i64 0) := cell_keep hb1 (by simp)
  have r11 : w1.cell? ⟨w.heap.size, 1, none⟩ = some (.bool false) := cell_keep hb1 (by simp)
  have f10 : w1.frozen? ⟨w.heap.size, 0, none⟩ = false := frozen_keep hb1 (v := .int .i64 0) (by simp) (by simp [go_sem])
  have f11 : w1.frozen? ⟨w.heap.size, 1, none⟩ = false := frozen_keep hb1 (v := .bool false) (by simp) (by simp [go_sem])
  have HT : Hid (Tab (w1.alloc (.cells #[.int .i64 (gath s.data.toList).1, .bool (gath s.data.toList).2] 24))) := ((ht.alloc _).below hb1).alloc _
  have HB1 : Hid (Below w.heap.size w w1) := bel_trans (bel_alloc (Below.refl _ _) _) hb1
  clear ht hb1
  go_wp2_with fail
  refine (text_any _ _ (gath_inR _) _ HT.out).mono ?_
  rintro e w2 ⟨rfl, hb2⟩
  have b2 : Below w1.heap.size w1 w2 := bel_trans (bel_alloc (Below.refl _ _) _) hb2
  have r20 := cell_keep b2 r10
  have r21 := cell_keep b2 r11
  have f20 := frozen_keep b2 r10 f10
  have f21 := frozen_keep b2 r11 f11
  have v20 : w2.cell? ⟨w1.heap.size, 0, none⟩ = some (.int .i64 (gath s.data.toList).1) := cell_keep hb2 (by simp)
  have v21 : w2.cell? ⟨w1.heap.size, 1, none⟩ = some (.bool (gath s.data.toList).2) := cell_keep hb2 (by simp)
  have HB2 : Hid (Below w.heap.size w w2) := bel_trans HB1.out b2
  clear r10 r11 f10 f11 b2 hb2 HB1 HT
  by_cases h : txt (gath s.data.toList).1 (gath s.data.toList).2 = s.data.toList
  · have hq : ((txtB (gath s.data.toList).1 (gath s.data.toList).2).toList == s.toList) = true := by rw [same_text]; exact decide_eq_true h
    have HR : Hid (readG s.data.toList = some (gath s.data.toList)) := by unfold readG; rw [if_pos h]; rfl
    clear h
    go_wp2
    refine bodyPost_ret (v := .tuple #[.agg #[.int .i64 (gath s.data.toList).1, .bool (gath s.data.toList).2], .bool true]) (by simp [results, Tryd.results15, go_sem, r20, r21]) rfl ⟨?_, ?_⟩
    · rw [HR.out]; rfl
    · exact (HB2.out.setCell (Nat.le_refl _) _).setCell (Nat.le_refl _) _
  · have hq : ((txtB (gath s.data.toList).1 (gath s.data.toList).2).toList == s.toList) = false := by rw [same_text]; exact decide_eq_false h
    have HR : Hid (readG s.data.toList = none) := by unfold readG; rw [if_neg h]; rfl
    clear h
    go_wp2
    refine bodyPost_ret (v := .tuple #[.agg #[.int .i64 0, .bool false], .bool false]) (by simp [results, Tryd.results15, go_sem, r20, r21]) rfl ⟨?_, ?_⟩
    · rw [HR.out]; rfl
    · exact (HB2.out.setCell (Nat.le_refl _) _).setCell (Nat.le_refl _) _
end Go.Proofs.YtbdmhhejpomeiaaDoor
