/-
  Text of package word and of the document's answer return a word's text, for every word whose number is of 64 bits, where the table of powers of ten lies as listed.
-/
import Derived.Test.YtbdmhhejpomeiaaDoorShelf
import Derived.Test.YtbdmhhejpomeiaaDoorWorks
import Derived.Test.YtbdmhhejpomeiaaDoorDec
import Derived.WalkSmall
import Derived.Lib.LaidTab
namespace Go.Proofs.YtbdmhhejpomeiaaDoor
open Go.RowKit

/-- The table of powers of ten lies as listed. -/
def Tab (w : World) : Prop := Lib.TabIs Tryd.prog w "internal/strconv.uint64pow10" .u64 Lib.pow10Tab

theorem gTab : Tryd.prog.globalNamed "internal/strconv.uint64pow10" = some 0 := by kernel_rfl

theorem Tab.below {w w1 : World} (h : Tab w) (hb : Below w.heap.size w w1) : Tab w1 := by
  have hc := Lib.TabIs.cell h gTab 0 (by rw [Lib.pow10Tab_length]; omega)
  exact var?_below hb gTab (World.block_lt_of_cell? w _ hc) h

theorem Tab.alloc {w : World} (h : Tab w) (o : Obj) : Tab (w.alloc o) := h.below (bel_alloc (Below.refl _ _) o)

theorem below_grow (w : World) (k : Nat) (os : Array Obj) : Below w.heap.size w (Sort.grow (w.drewN k) os) := by
  refine ⟨?_, ?_, ?_, ?_, ?_⟩
  · rfl
  · rfl
  · rfl
  · rw [Sort.size_grow]; exact Nat.le_add_right _ _
  · intro i hi; exact Sort.heap_grow_old (w.drewN k) os hi

theorem format_any (n : Int) (hn : InR n) (w : World) (ht : Tab w) : Calls Tryd.prog 21 #[.int .i64 n, .int .i64 10] w fun e w' =>
    e = .returned (.string ⟨(Lib.itoa n).toArray⟩) ∧ Below w.heap.size w w' := by
  refine (Tryd.strconv_FormatInt_10 n hn.1 hn.2 w ht).mono ?_
  rintro e w' ⟨rfl, k, os, rfl⟩
  exact ⟨rfl, below_grow w k os⟩

/-- A word's text, as a string. -/
def txtB (x : Int) (c : Bool) : ByteArray := ⟨(txt x c).toArray⟩

theorem itoa_len (n : Int) (hn : InR n) : (Lib.itoa n).length ≤ 20 := by
  unfold InR at hn
  unfold Lib.itoa
  split
  · have := dec_len (n := n.natAbs) (by omega); simp; omega
  · have := dec_len (n := n.toNat) (by omega); omega

theorem text_any (x : Int) (c : Bool) (hn : InR x) (w : World) (ht : Tab w) : Calls Tryd.prog 14 #[.agg #[.int .i64 x, .bool c]] w fun e w' =>
    e = .returned (.string (txtB x c)) ∧ Below w.heap.size w w' := by
  have hl := itoa_len x hn
  cases c
  · go_enter Tryd.func14, Tryd.ntmps14
    go_wp2_with fail
    refine (format_any x hn _ (ht.alloc _)).mono ?_
    rintro e w1 ⟨rfl, hb1⟩
    have c1 : w1.cell? ⟨w.heap.size, 1, none⟩ = some (.bool false) := cell_keep hb1 (by simp)
    go_wp2
    go_ret
    exact ⟨rfl, bel_trans (bel_alloc (Below.refl _ _) _) hb1⟩
  · go_enter Tryd.func14, Tryd.ntmps14
    go_wp2_with fail
    refine (format_any x hn _ (ht.alloc _)).mono ?_
    rintro e w1 ⟨rfl, hb1⟩
    have c1 : w1.cell? ⟨w.heap.size, 1, none⟩ = some (.bool true) := cell_keep hb1 (by simp)
    go_wp2
    go_ret
    exact ⟨rfl, bel_trans (bel_alloc (Below.refl _ _) _) hb1⟩

theorem reftext_any (x : Int) (c : Bool) (hn : InR x) (w : World) (ht : Tab w) : Calls Tryd.prog 16 #[.agg #[.int .i64 x, .bool c]] w fun e w' =>
    e = .returned (.string (txtB x c)) ∧ Below w.heap.size w w' := by
  have hl := itoa_len x hn
  cases c
  · go_enter Tryd.func16, Tryd.ntmps16
    go_wp2_with fail
    refine (format_any x hn _ (ht.alloc _)).mono ?_
    rintro e w1 ⟨rfl, hb1⟩
    go_wp2
    go_ret
    exact ⟨rfl, bel_trans (bel_alloc (Below.refl _ _) _) hb1⟩
  · go_enter Tryd.func16, Tryd.ntmps16
    go_wp2_with fail
    refine (format_any x hn _ (ht.alloc _)).mono ?_
    rintro e w1 ⟨rfl, hb1⟩
    go_wp2
    go_ret
    exact ⟨rfl, bel_trans (bel_alloc (Below.refl _ _) _) hb1⟩
end Go.Proofs.YtbdmhhejpomeiaaDoor
