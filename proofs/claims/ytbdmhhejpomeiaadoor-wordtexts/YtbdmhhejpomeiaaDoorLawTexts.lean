/-
  The law WordTexts returns true for every word whose number is of 64 bits and every string, and leaves what was there, where the table of powers of ten lies as listed.
-/
import Derived.Test.YtbdmhhejpomeiaaDoorRefRead
namespace Go.Proofs.YtbdmhhejpomeiaaDoor
open Go.RowKit

theorem readG_inR {l : List UInt8} {X : Int} {d : Bool} (h : readG l = some (X, d)) : InR X ∧ txt X d = l := by
  unfold readG at h
  by_cases hq : txt (gath l).1 (gath l).2 = l
  · rw [if_pos hq] at h
    have e : gath l = (X, d) := Option.some.inj h
    have hi := gath_inR l
    rw [e] at hi hq
    exact ⟨hi, hq⟩
  · rw [if_neg hq] at h; cases h

theorem read_some {s : ByteArray} {X : Int} {d : Bool} (h : readG s.data.toList = some (X, d)) (hs : s.size ≤ maxLen) (w : World) (ht : Tab w) : Calls Tryd.prog 15 #[.string s] w fun e w' =>
    e = .returned (.tuple #[.agg #[.int .i64 X, .bool d], .bool true]) ∧ Below w.heap.size w w' := by
  have r := read_any s hs w ht
  rw [h] at r
  exact r
theorem read_none {s : ByteArray} (h : readG s.data.toList = none) (hs : s.size ≤ maxLen) (w : World) (ht : Tab w) : Calls Tryd.prog 15 #[.string s] w fun e w' =>
    e = .returned (.tuple #[.agg #[.int .i64 0, .bool false], .bool false]) ∧ Below w.heap.size w w' := by
  have r := read_any s hs w ht
  rw [h] at r
  exact r
theorem refread_some {s : ByteArray} {X : Int} {d : Bool} (h : readG s.data.toList = some (X, d)) (hs : s.size ≤ maxLen) (w : World) (ht : Tab w) : Calls Tryd.prog 17 #[.string s] w fun e w' =>
    e = .returned (.tuple #[.agg #[.int .i64 X, .bool d], .bool true]) ∧ Below w.heap.size w w' := by
  have r := refread_any s hs w ht
  rw [read_same, h] at r
  exact r
theorem refread_none {s : ByteArray} (h : readG s.data.toList = none) (hs : s.size ≤ maxLen) (w : World) (ht : Tab w) : Calls Tryd.prog 17 #[.string s] w fun e w' =>
    e = .returned (.tuple #[.agg #[.int .i64 0, .bool false], .bool false]) ∧ Below w.heap.size w w' := by
  have r := refread_any s hs w ht
  rw [read_same, h] at r
  exact r

theorem txtB_size (x : Int) (c : Bool) (hx : InR x) : (txtB x c).size ≤ maxLen := by
  have h := itoa_len x hx
  have e : (txtB x c).size = (txt x c).length := by simp [txtB, ByteArray.size]
  rw [e]
  unfold txt maxLen
  split
  · rw [List.length_cons]; omega
  · omega

theorem lawTexts (x : Int) (c : Bool) (s : ByteArray) (hx : InR x) (hs : s.size ≤ maxLen) (w : World) (ht : Tab w) : Calls Tryd.prog 5 #[.agg #[.int .i64 x, .bool c], .string s] w fun e w' =>
    e = .returned (.bool true) ∧ Below w.heap.size w w' := by
  have HX : Hid (InR x) := hx
  have HS : Hid (s.size ≤ maxLen) := hs
  have hs1 : s.size ≤ 9223372036854775807 := by unfold maxLen at hs; omega
  clear hx hs
  go_enter Tryd.func5, Tryd.ntmps5
  go_wp2_with fail
  refine (text_any x c HX.out _ (ht.alloc _)).mono ?_
  rintro e w1 ⟨rfl, hb1⟩
  have x10 : w1.cell? ⟨w.heap.size, 0, none⟩ = some (.int .i64 x) := cell_keep hb1 (by simp)
  have x11 : w1.cell? ⟨w.heap.size, 1, none⟩ = some (.bool c) := cell_keep hb1 (by simp)
  have HT1 : Hid (Tab w1) := (ht.alloc _).below hb1
  have HB1 : Hid (Below w.heap.size w w1) := bel_trans (bel_alloc (Below.refl _ _) _) hb1
  clear hb1 ht
  go_wp2_with fail
  refine (read_some (s := txtB x c) (readG_txt x c HX.out) (txtB_size x c HX.out) _ HT1.out).mono ?_
  rintro e w2 ⟨rfl, hb2⟩
  have x20 := cell_keep hb2 x10
  have x21 := cell_keep hb2 x11
  have z2 : w.heap.size < w2.heap.size := World.block_lt_of_cell? w2 _ x20
  have HT2 : Hid (Tab (w2.alloc (.cells #[.int .i64 x, .bool c] 24))) := (HT1.out.below hb2).alloc _
  have HB2 : Hid (Below w.heap.size w w2) := bel_trans HB1.out hb2
  clear hb2 x10 x11 HT1 HB1
  go_wp2_with fail
  refine (reftext_any x c HX.out _ HT2.out).mono ?_
  rintro e w3 ⟨rfl, hb3⟩
  have y30 : w3.cell? ⟨w2.heap.size, 0, none⟩ = some (.int .i64 x) := cell_keep hb3 (by simp)
  have y31 : w3.cell? ⟨w2.heap.size, 1, none⟩ = some (.bool c) := cell_keep hb3 (by simp)
  have x30 : w3.cell? ⟨w.heap.size, 0, none⟩ = some (.int .i64 x) := cell_keep (bel_trans (bel_alloc (Below.refl _ _) _) hb3) x20
  have x31 : w3.cell? ⟨w.heap.size, 1, none⟩ = some (.bool c) := cell_keep (bel_trans (bel_alloc (Below.refl _ _) _) hb3) x21
  have HT3 : Hid (Tab w3) := HT2.out.below hb3
  have HB3 : Hid (Below w.heap.size w w3) := bel_trans (bel_alloc HB2.out _) hb3
  clear hb3 x20 x21 z2 HT2 HB2
  by_cases hl : (65536 : Int) < s.size
  · go_wp2_with (go_at_call 11; refine (works_any _).mono ?_; rintro e w4 ⟨rfl, hb4⟩)
    go_ret
    exact ⟨rfl, bel_trans HB3.out hb4⟩
  · cases hr : readG s.data.toList with
    | none =>
      have HR : Hid (readG s.data.toList = none) := hr
      clear hr
      go_wp2_with fail
      refine (read_none HR.out HS.out _ HT3.out).mono ?_
      rintro e w4 ⟨rfl, hb4⟩
      have HT4 : Hid (Tab (w4.alloc (.cells #[.int .i64 0, .bool false] 24))) := (HT3.out.below hb4).alloc _
      have HB4 : Hid (Below w.heap.size w w4) := bel_trans HB3.out hb4
      clear hb4
      go_wp2_with fail
      refine (refread_none HR.out HS.out _ HT4.out).mono ?_
      rintro e w5 ⟨rfl, hb5⟩
      have v50 : w5.cell? ⟨w4.heap.size, 0, none⟩ = some (.int .i64 0) := cell_keep hb5 (by simp)
      have v51 : w5.cell? ⟨w4.heap.size, 1, none⟩ = some (.bool false) := cell_keep hb5 (by simp)
      have z5 : w4.heap.size < w5.heap.size := World.block_lt_of_cell? w5 _ v50
      have HB5 : Hid (Below w.heap.size w w5) := bel_trans (bel_alloc HB4.out _) hb5
      clear hb5
      go_wp2_with (go_at_call 11; refine (works_any _).mono ?_; rintro e w6 ⟨rfl, hb6⟩)
      go_ret
      exact ⟨rfl, bel_trans (bel_alloc HB5.out _) hb6⟩
    | some q =>
      obtain ⟨X, d⟩ := q
      obtain ⟨hX, hq⟩ := readG_inR hr
      have HR : Hid (readG s.data.toList = some (X, d)) := hr
      have HX2 : Hid (InR X) := hX
      have he : ((txtB X d).toList == s.toList) = true := by rw [same_text]; exact decide_eq_true hq
      clear hr hX hq
      go_wp2_with fail
      refine (read_some HR.out HS.out _ HT3.out).mono ?_
      rintro e w4 ⟨rfl, hb4⟩
      have HT4 : Hid (Tab (w4.alloc (.cells #[.int .i64 X, .bool d] 24))) := (HT3.out.below hb4).alloc _
      have HB4 : Hid (Below w.heap.size w w4) := bel_trans HB3.out hb4
      clear hb4
      go_wp2_with fail
      refine (refread_some HR.out HS.out _ HT4.out).mono ?_
      rintro e w5 ⟨rfl, hb5⟩
      have v50 : w5.cell? ⟨w4.heap.size, 0, none⟩ = some (.int .i64 X) := cell_keep hb5 (by simp)
      have v51 : w5.cell? ⟨w4.heap.size, 1, none⟩ = some (.bool d) := cell_keep hb5 (by simp)
      have z5 : w4.heap.size < w5.heap.size := World.block_lt_of_cell? w5 _ v50
      have HT5 : Hid (Tab (w5.alloc (.cells #[.int .i64 X, .bool d] 24))) := (HT4.out.below hb5).alloc _
      have HB5 : Hid (Below w.heap.size w w5) := bel_trans (bel_alloc HB4.out _) hb5
      clear hb5
      go_wp2_with fail
      refine (text_any X d HX2.out _ HT5.out).mono ?_
      rintro e w6 ⟨rfl, hb6⟩
      have HB6 : Hid (Below w.heap.size w w6) := bel_trans (bel_alloc HB5.out _) hb6
      clear hb6
      go_wp2_with (go_at_call 11; refine (works_any _).mono ?_; rintro e w7 ⟨rfl, hb7⟩)
      go_ret
      exact ⟨rfl, bel_trans HB6.out hb7⟩
end Go.Proofs.YtbdmhhejpomeiaaDoor
