/-
  The document writes a whole image as bytes. The document looks at an image; each word is of 32 bits.
-/
import Derived.Test.YtfaekkbblpfbhaaDoorProg
import Derived.WalkKit
import Derived.WalkSpells
import Derived.WalkLawsBesides
import Derived.RowKit3
import Derived.Below
import Derived.Deep.QuietTactic
import Derived.BigQuiet
import Derived.WalkSmall
import Derived.Laws.Rows
import Derived.Test.YtfaekkbblpfbhaaDoorIt28
import Derived.Test.YtfaekkbblpfbhaaDoorIt08
import Derived.Test.YtfaekkbblpfbhaaDoorIt09
import Derived.Deep.AppendLies
import Derived.Test.YtfaekkbblpfbhaaDoorIt16
import Derived.Test.YtfaekkbblpfbhaaDoorIt18
namespace Go.Proofs.YtfaekkbblpfbhaaDoor
open Go.RowKit

/-- How things stand between two appends: the row, the image's box, the world. -/
structure Buf (w : World) (o : Array Value) (v : Value) (l : List Int) (wr : World) : Prop where
  row : wr.ownsRow (w.heap.size + 1) 5 1 v l.length (bNews l)
  box : wr.heap[w.heap.size]? = some (.cells o 25 (0, 0))
  below : Below w.heap.size w wr
theorem Buf.keep {w wr w1 : World} {o : Array Value} {v : Value} {l : List Int} (h : Buf w o v l wr) (hb : Below wr.heap.size wr w1) : Buf w o v l w1 := ⟨row_keep h.row hb, lb_box h.box hb, lb_trans h.below hb⟩
theorem Buf.lt {w wr : World} {o : Array Value} {v : Value} {l : List Int} (h : Buf w o v l wr) : w.heap.size < wr.heap.size := (Array.getElem?_eq_some_iff.1 h.box).1
theorem Buf.grown {w wr w1 : World} {o : Array Value} {v v' : Value} {l e l' : List Int} {n : Nat} (h : Buf w o v l wr) (hg : wr.grownBy w1 v.ownBlock) (ho : w1.ownsRow (w.heap.size + 1) 5 1 v' n (bNews l ++ bNews e)) (hl : l ++ e = l') : Buf w o v' l' w1 := by
  subst hl
  have hn : n = (l ++ e).length := by have := ho.1; rw [bNews_app, bNews_len] at this; omega
  subst hn
  rw [bNews_app] at ho
  refine ⟨ho, ?_, Below.grown h.below hg h.below.size (fun k hk => by have := h.row.lt k hk; omega)⟩
  rw [hg.block w.heap.size h.lt (fun e => by have := h.row.lt _ e.symm; omega)]
  exact h.box
theorem Buf.to {w wr : World} {o : Array Value} {v : Value} {l : List Int} (h : Buf w o v l wr) (l' : List Int) (e : l = l') : Buf w o v l' wr := e ▸ h
theorem buf_start (w : World) (o : Array Value) (l : List Int) (h : l.length ≤ 1048576) : Buf w o (.slice (some ⟨w.heap.size + 1, 0, none⟩) l.length l.length) l ((w.alloc (.cells o 25)).alloc (.cells (bNews l).toArray 5)) := by
  refine ⟨?_, ?_, lb_alloc (lb_alloc (Below.refl _ _) _) _⟩
  · have := new_lit (w.alloc (.cells o 25)) l h
    rw [show (w.alloc (.cells o 25)).heap.size = w.heap.size + 1 by simp] at this
    exact this
  · rw [(lb_alloc (Below.refl _ (w.alloc (.cells o 25))) _).block w.heap.size (by simp)]
    exact heap_alloc_new _ _


theorem lensI (text : List Int) (ent : Int) (mem : List Int) : (begI ++ be4 (text.length : Int)).length = 8 ∧ (begI ++ be4 (text.length : Int) ++ text.flatMap be4).length = 8 + text.length * 4 ∧ (begI ++ be4 (text.length : Int) ++ text.flatMap be4 ++ be4 ent).length = 12 + text.length * 4 ∧ (begI ++ be4 (text.length : Int) ++ text.flatMap be4 ++ be4 ent ++ be4 (mem.length : Int)).length = 16 + text.length * 4 ∧ begI ++ be4 (text.length : Int) ++ text.flatMap be4 ++ be4 ent ++ be4 (mem.length : Int) ++ mem.flatMap be8 = bodyI text ent mem := by
  have hb : begI.length = 4 := rfl
  refine ⟨?_, ?_, ?_, ?_, rfl⟩
  · simp only [List.length_append, be4_len, hb]
  · simp only [List.length_append, be4_len, hb, flat4_len]
  · simp only [List.length_append, be4_len, hb, flat4_len]; omega
  · simp only [List.length_append, be4_len, hb, flat4_len]; omega
set_option maxRecDepth 100000 in
set_option maxHeartbeats 8000000 in
theorem refbytes_any (A1 A2 : Option Addr) (c1 c2 : Nat) (text mem : List Int) (ent : Int) (w : World) (hT : IntsAt w A1 .u32 text) (hM : IntsAt w A2 .i64 mem) (hR : ∀ i, i < text.length → 0 ≤ nth text i ∧ nth text i < 4294967296) (hR2 : ∀ i, i < mem.length → -9223372036854775808 ≤ nth mem i ∧ nth mem i < 9223372036854775808) (hl1 : text.length ≤ 16384) (hl2 : mem.length ≤ 4096) :
    Calls Tryd.prog 37 #[.agg #[.slice A1 text.length c1, .int .i64 ent, .slice A2 mem.length c2]] w (NewB (bytesI text ent mem) w) := by
  obtain ⟨i0, hi, hz0, hz1, hz2⟩ := info5
  have HB : Hid _ := buf_start w #[.slice A1 text.length c1, .int .i64 ent, .slice A2 mem.length c2] begI (by simp [begI])
  obtain ⟨d0, d1, d2⟩ := box3_cell HB.out.box
  have HL : Hid _ := lensI text ent mem
  have hareB := bodyI_areB text ent mem
  have hsum := sum_range (bodyI text ent mem)
  have Hbl : Hid ((bodyI text ent mem).length ≤ 200000) := by rw [Hid, bodyI_len]; omega
  go_enter Tryd.func37, Tryd.ntmps37
  go_wp2_with fail
  refine (four_own (text.length : Int) (by omega) (by omega) _).mono ?_
  rintro r wa1 ⟨u1, rfl, hou, hba⟩
  have HLU : Hid ((be4 (text.length : Int)).length = 4) := by
    show _ = _
    rfl
  obtain ⟨gu, cu, rfl, _, _⟩ := hou.form (by rw [HLU.out]; omega)
  have hB := Buf.keep HB.out hba
  have hcu := hou.cells rfl
  have hrow := hB.row
  have HB2 : Hid _ := hB
  clear hB hba
  have hll : (begI).length ≤ 400000 := by simp [begI]
  rw [HLU.out]
  go_wp2_with (at_builtin; refine wpList_append_own _ rfl (.tmp 7) (.tmp 12) 32 rfl (w.heap.size + 1) 5 i0 (.int .u8 0) 1 1 Tryd.underlying32 hi hz0 hz1 hz2 rfl (by decide) _ (begI).length (bNews (begI)) rfl hrow ⟨gu, 0, none⟩ (4) cu (bNews (be4 (text.length : Int))) rfl (by simp only [bNews_len, HLU.out, Nat.mul_one]) hcu (bNews_one _) (by unfold maxLen; omega) (by omega) (by have := HB2.out.lt; omega) ?_; intro v1 wb1 hown hgrow hnil; have HB : Hid (Buf w #[.slice A1 text.length c1, .int .i64 ent, .slice A2 mem.length c2] v1 (begI ++ be4 (text.length : Int)) wb1) := Buf.grown HB2.out hgrow hown (rfl); clear hown hgrow hnil hrow hcu hou HB2 hll HLU; obtain ⟨d0, d1, d2⟩ := box3_cell HB.out.box)
  go_wp2
  go_loopw [4, 3] (fun i s wr => ∃ k : Nat, i = .int .i64 k ∧ k ≤ text.length ∧ Hid (Buf w #[.slice A1 text.length c1, .int .i64 ent, .slice A2 mem.length c2] s (begI ++ be4 (text.length : Int) ++ (text.take k).flatMap be4) wr)) (fun i _ _ => text.length - (intOf i).toNat)
  case atStart => exact ⟨0, rfl, Nat.zero_le _, by show Buf _ _ _ (_ ++ []) _; rw [List.append_nil]; exact HB.out⟩
  case round =>
    clear HB d0 d1 d2
    obtain ⟨k, rfl, hk, HB⟩ := hrel
    obtain ⟨d0, d1, d2⟩ := box3_cell HB.out.box
    by_cases hlt : k < text.length
    · have hll0 : (begI ++ be4 (text.length : Int) ++ (text.take k).flatMap be4).length ≤ 400000 := by
        have := flat_upto (f := be4) be4_len text k hlt
        rw [List.length_append, HL.out.1]
        omega
      obtain ⟨a, ea, hc⟩ := (hT.keep HB.out.below) k hlt
      have hr := hR k hlt
      have HF : Hid _ := flat_snoc be4 text 0 k hlt
      go_wp2_with fail
      refine (four_own (nth text k) hr.1 hr.2 _).mono ?_
      rintro r wa2 ⟨u2, rfl, hou, hba⟩
      have HLU : Hid ((be4 (nth text k)).length = 4) := by
        show _ = _
        rfl
      obtain ⟨gu, cu, rfl, _, _⟩ := hou.form (by rw [HLU.out]; omega)
      have hB := Buf.keep HB.out hba
      have hcu := hou.cells rfl
      have hrow := hB.row
      have HB2 : Hid _ := hB
      clear hB hba
      have hll : (begI ++ be4 (text.length : Int) ++ (text.take k).flatMap be4).length ≤ 400000 := by exact hll0
      rw [HLU.out]
      go_wp2_with (at_builtin; refine wpList_append_own _ rfl (.tmp 21) (.tmp 27) 32 rfl (w.heap.size + 1) 5 i0 (.int .u8 0) 1 1 Tryd.underlying32 hi hz0 hz1 hz2 rfl (by decide) _ (begI ++ be4 (text.length : Int) ++ (text.take k).flatMap be4).length (bNews (begI ++ be4 (text.length : Int) ++ (text.take k).flatMap be4)) rfl hrow ⟨gu, 0, none⟩ (4) cu (bNews (be4 (nth text k))) rfl (by simp only [bNews_len, HLU.out, Nat.mul_one]) hcu (bNews_one _) (by unfold maxLen; omega) (by omega) (by have := HB2.out.lt; omega) ?_; intro v2 wb2 hown hgrow hnil; have HB : Hid (Buf w #[.slice A1 text.length c1, .int .i64 ent, .slice A2 mem.length c2] v2 (begI ++ be4 (text.length : Int) ++ (text.take k).flatMap be4 ++ be4 (nth text k)) wb2) := Buf.grown HB2.out hgrow hown (rfl); clear hown hgrow hnil hrow hcu hou HB2 hll HLU; obtain ⟨d0, d1, d2⟩ := box3_cell HB.out.box)
      subst ea
      go_roundw
      case rel => exact ⟨k + 1, by go_num, by omega, by show Buf _ _ _ _ _; rw [HF.out, ← List.append_assoc]; exact HB.out⟩
      case measure => simp [intOf]; omega
    · obtain rfl : k = text.length := by omega
      rw [List.take_of_length_le (Nat.le_refl _)] at HB
      go_wp2_with fail
      refine (four_own (ent % 4294967296) (by omega) (by omega) _).mono ?_
      rintro r wa3 ⟨u3, rfl, hou, hba⟩
      rw [be4_mod] at hou
      have HLU : Hid ((be4 ent).length = 4) := by
        show _ = _
        rfl
      obtain ⟨gu, cu, rfl, _, _⟩ := hou.form (by rw [HLU.out]; omega)
      have hB := Buf.keep HB.out hba
      have hcu := hou.cells rfl
      have hrow := hB.row
      have HB2 : Hid _ := hB
      clear hB hba
      have hll : (begI ++ be4 (text.length : Int) ++ text.flatMap be4).length ≤ 400000 := by rw [HL.out.2.1]; omega
      rw [HLU.out]
      go_wp2_with (at_builtin; refine wpList_append_own _ rfl (.tmp 29) (.tmp 33) 32 rfl (w.heap.size + 1) 5 i0 (.int .u8 0) 1 1 Tryd.underlying32 hi hz0 hz1 hz2 rfl (by decide) _ (begI ++ be4 (text.length : Int) ++ text.flatMap be4).length (bNews (begI ++ be4 (text.length : Int) ++ text.flatMap be4)) rfl hrow ⟨gu, 0, none⟩ (4) cu (bNews (be4 ent)) rfl (by simp only [bNews_len, HLU.out, Nat.mul_one]) hcu (bNews_one _) (by unfold maxLen; omega) (by omega) (by have := HB2.out.lt; omega) ?_; intro v3 wb3 hown hgrow hnil; have HB : Hid (Buf w #[.slice A1 text.length c1, .int .i64 ent, .slice A2 mem.length c2] v3 (begI ++ be4 (text.length : Int) ++ text.flatMap be4 ++ be4 ent) wb3) := Buf.grown HB2.out hgrow hown (rfl); clear hown hgrow hnil hrow hcu hou HB2 hll HLU; obtain ⟨d0, d1, d2⟩ := box3_cell HB.out.box)
      go_wp2_with fail
      refine (four_own (mem.length : Int) (by omega) (by omega) _).mono ?_
      rintro r wa4 ⟨u4, rfl, hou, hba⟩
      have HLU : Hid ((be4 (mem.length : Int)).length = 4) := by
        show _ = _
        rfl
      obtain ⟨gu, cu, rfl, _, _⟩ := hou.form (by rw [HLU.out]; omega)
      have hB := Buf.keep HB.out hba
      have hcu := hou.cells rfl
      have hrow := hB.row
      have HB2 : Hid _ := hB
      clear hB hba
      have hll : (begI ++ be4 (text.length : Int) ++ text.flatMap be4 ++ be4 ent).length ≤ 400000 := by rw [HL.out.2.2.1]; omega
      rw [HLU.out]
      go_wp2_with (at_builtin; refine wpList_append_own _ rfl (.tmp 35) (.tmp 40) 32 rfl (w.heap.size + 1) 5 i0 (.int .u8 0) 1 1 Tryd.underlying32 hi hz0 hz1 hz2 rfl (by decide) _ (begI ++ be4 (text.length : Int) ++ text.flatMap be4 ++ be4 ent).length (bNews (begI ++ be4 (text.length : Int) ++ text.flatMap be4 ++ be4 ent)) rfl hrow ⟨gu, 0, none⟩ (4) cu (bNews (be4 (mem.length : Int))) rfl (by simp only [bNews_len, HLU.out, Nat.mul_one]) hcu (bNews_one _) (by unfold maxLen; omega) (by omega) (by have := HB2.out.lt; omega) ?_; intro v4 wb4 hown hgrow hnil; have HB : Hid (Buf w #[.slice A1 text.length c1, .int .i64 ent, .slice A2 mem.length c2] v4 (begI ++ be4 (text.length : Int) ++ text.flatMap be4 ++ be4 ent ++ be4 (mem.length : Int)) wb4) := Buf.grown HB2.out hgrow hown (rfl); clear hown hgrow hnil hrow hcu hou HB2 hll HLU; obtain ⟨d0, d1, d2⟩ := box3_cell HB.out.box)
      go_wp2
      go_loopw [5, 3] (fun i s wr => ∃ k : Nat, i = .int .i64 k ∧ k ≤ mem.length ∧ Hid (Buf w #[.slice A1 text.length c1, .int .i64 ent, .slice A2 mem.length c2] s (begI ++ be4 (text.length : Int) ++ text.flatMap be4 ++ be4 ent ++ be4 (mem.length : Int) ++ (mem.take k).flatMap be8) wr)) (fun i _ _ => mem.length - (intOf i).toNat)
      case atStart => exact ⟨0, rfl, Nat.zero_le _, by show Buf _ _ _ (_ ++ []) _; rw [List.append_nil]; exact HB.out⟩
      case round =>
        clear HB d0 d1 d2
        obtain ⟨k, rfl, hk, HB⟩ := hrel
        obtain ⟨d0, d1, d2⟩ := box3_cell HB.out.box
        by_cases hlt : k < mem.length
        · have hll0 : (begI ++ be4 (text.length : Int) ++ text.flatMap be4 ++ be4 ent ++ be4 (mem.length : Int) ++ (mem.take k).flatMap be8).length ≤ 400000 := by
            have := flat_upto (f := be8) be8_len mem k hlt
            rw [List.length_append, HL.out.2.2.2.1]
            omega
          obtain ⟨a, ea, hc⟩ := (hM.keep HB.out.below) k hlt
          have hr := hR2 k hlt
          have HF : Hid _ := flat_snoc be8 mem 0 k hlt
          go_wp2_with fail
          refine (eight_own (nth mem k) hr.1 hr.2 _).mono ?_
          rintro r wa5 ⟨u5, rfl, hou, hba⟩
          have HLU : Hid ((be8 (nth mem k)).length = 8) := by
            show _ = _
            rfl
          obtain ⟨gu, cu, rfl, _, _⟩ := hou.form (by rw [HLU.out]; omega)
          have hB := Buf.keep HB.out hba
          have hcu := hou.cells rfl
          have hrow := hB.row
          have HB2 : Hid _ := hB
          clear hB hba
          have hll : (begI ++ be4 (text.length : Int) ++ text.flatMap be4 ++ be4 ent ++ be4 (mem.length : Int) ++ (mem.take k).flatMap be8).length ≤ 400000 := by exact hll0
          rw [HLU.out]
          go_wp2_with (at_builtin; refine wpList_append_own _ rfl (.tmp 49) (.tmp 55) 32 rfl (w.heap.size + 1) 5 i0 (.int .u8 0) 1 1 Tryd.underlying32 hi hz0 hz1 hz2 rfl (by decide) _ (begI ++ be4 (text.length : Int) ++ text.flatMap be4 ++ be4 ent ++ be4 (mem.length : Int) ++ (mem.take k).flatMap be8).length (bNews (begI ++ be4 (text.length : Int) ++ text.flatMap be4 ++ be4 ent ++ be4 (mem.length : Int) ++ (mem.take k).flatMap be8)) rfl hrow ⟨gu, 0, none⟩ (8) cu (bNews (be8 (nth mem k))) rfl (by simp only [bNews_len, HLU.out, Nat.mul_one]) hcu (bNews_one _) (by unfold maxLen; omega) (by omega) (by have := HB2.out.lt; omega) ?_; intro v5 wb5 hown hgrow hnil; have HB : Hid (Buf w #[.slice A1 text.length c1, .int .i64 ent, .slice A2 mem.length c2] v5 (begI ++ be4 (text.length : Int) ++ text.flatMap be4 ++ be4 ent ++ be4 (mem.length : Int) ++ (mem.take k).flatMap be8 ++ be8 (nth mem k)) wb5) := Buf.grown HB2.out hgrow hown (rfl); clear hown hgrow hnil hrow hcu hou HB2 hll HLU; obtain ⟨d0, d1, d2⟩ := box3_cell HB.out.box)
          subst ea
          go_roundw
          case rel => exact ⟨k + 1, by go_num, by omega, by show Buf _ _ _ _ _; rw [HF.out, ← List.append_assoc]; exact HB.out⟩
          case measure => simp [intOf]; omega
        · obtain rfl : k = mem.length := by omega
          rw [List.take_of_length_le (Nat.le_refl _), HL.out.2.2.2.2] at HB
          obtain ⟨A', c', ev, hI, hcap⟩ := own_ints HB.out.row
          subst ev
          have hbl := Hbl.out
          go_wp2_with fail
          refine (refsum_any A' c' (bodyI text ent mem) _ hI hareB (by omega)).mono ?_
          rintro r wz ⟨rfl, rfl⟩
          go_wp2_with fail
          refine (four_own (sumB (bodyI text ent mem)) hsum.1 hsum.2 _).mono ?_
          rintro r wa6 ⟨u6, rfl, hou, hba⟩
          have HLU : Hid ((be4 (sumB (bodyI text ent mem))).length = 4) := by
            show _ = _
            rfl
          obtain ⟨gu, cu, rfl, _, _⟩ := hou.form (by rw [HLU.out]; omega)
          have hB := Buf.keep HB.out hba
          have hcu := hou.cells rfl
          have hrow := hB.row
          have HB2 : Hid _ := hB
          clear hB hba
          have hll : (bodyI text ent mem).length ≤ 400000 := by omega
          rw [HLU.out]
          go_wp2_with (at_builtin; refine wpList_append_own _ rfl (.tmp 57) (.tmp 60) 32 rfl (w.heap.size + 1) 5 i0 (.int .u8 0) 1 1 Tryd.underlying32 hi hz0 hz1 hz2 rfl (by decide) _ (bodyI text ent mem).length (bNews (bodyI text ent mem)) rfl hrow ⟨gu, 0, none⟩ (4) cu (bNews (be4 (sumB (bodyI text ent mem)))) rfl (by simp only [bNews_len, HLU.out, Nat.mul_one]) hcu (bNews_one _) (by unfold maxLen; omega) (by omega) (by have := HB2.out.lt; omega) ?_; intro v6 wb6 hown hgrow hnil; have HB : Hid (Buf w #[.slice A1 text.length c1, .int .i64 ent, .slice A2 mem.length c2] v6 (bytesI text ent mem) wb6) := Buf.grown HB2.out hgrow hown (rfl); clear hown hgrow hnil hrow hcu hou HB2 hll HLU; obtain ⟨d0, d1, d2⟩ := box3_cell HB.out.box)
          go_ret
          exact ⟨_, rfl, ownsRow_mono HB.out.row (Nat.le_succ _), HB.out.below⟩

end Go.Proofs.YtfaekkbblpfbhaaDoor

namespace Go.Proofs.YtfaekkbblpfbhaaDoor
open Go.RowKit

set_option maxRecDepth 100000 in
set_option maxHeartbeats 1000000 in
theorem refcheck_any (A1 A2 : Option Addr) (c1 ml c2 : Nat) (ent : Int) (text : List Int) (w : World) (hT : IntsAt w A1 .u32 text) (hR : ∀ i, i < text.length → 0 ≤ nth text i ∧ nth text i < 4294967296) (hl : text.length ≤ 1048576) (hm : ml ≤ 1048576) :
    Calls Tryd.prog 10 #[.agg #[.slice A1 text.length c1, .int .i64 ent, .slice A2 ml c2]] w (ChkP (checkI text ml ent).1 (checkI text ml ent).2 w) := by
  by_cases h0 : text.length = 0
  · rw [check0 h0, h0]
    go_enter Tryd.func10, Tryd.ntmps10
    go_wp2
    go_ret2
    exact ⟨rfl, lb_alloc (Below.refl _ _) _⟩
  have n0 : ((text.length : Int) == 0) = false := by simpa using h0
  by_cases h1 : 16384 < text.length
  · rw [check1 h0 h1]
    go_enter Tryd.func10, Tryd.ntmps10
    go_wp2
    go_ret2
    exact ⟨rfl, lb_alloc (Below.refl _ _) _⟩
  by_cases h2 : 4096 < ml
  · rw [check2 h0 h1 h2]
    go_enter Tryd.func10, Tryd.ntmps10
    go_wp2
    go_ret2
    exact ⟨rfl, lb_alloc (Below.refl _ _) _⟩
  by_cases h3 : ent < 0
  · rw [check3 h0 h1 h2 (.inl h3)]
    go_enter Tryd.func10, Tryd.ntmps10
    go_wp2
    go_ret2
    exact ⟨rfl, lb_alloc (Below.refl _ _) _⟩
  by_cases h4 : (text.length : Int) ≤ ent
  · rw [check3 h0 h1 h2 (.inr h4)]
    go_enter Tryd.func10, Tryd.ntmps10
    go_wp2
    go_ret2
    exact ⟨rfl, lb_alloc (Below.refl _ _) _⟩
  have HP : Hid (Past text ml ent) := ⟨by omega, by omega, by omega, by omega, by omega⟩
  have HB0 : Hid (Below w.heap.size w (w.alloc (.cells #[.slice A1 text.length c1, .int .i64 ent, .slice A2 ml c2] 25))) := lb_alloc (Below.refl _ _) _
  have HX : Hid ((w.alloc (.cells #[.slice A1 text.length c1, .int .i64 ent, .slice A2 ml c2] 25)).heap[w.heap.size]? = some (.cells #[.slice A1 text.length c1, .int .i64 ent, .slice A2 ml c2] 25 (0, 0))) := heap_alloc_new _ _
  clear h1 h2 h3 h4
  have hlen : text.length ≤ 16384 := HP.out.len
  have hml := HP.out.mem
  have hpos := HP.out.pos
  have he0 := HP.out.ent0
  have he1 := HP.out.ent1
  go_enter Tryd.func10, Tryd.ntmps10
  go_wp2
  go_loopw [5] (fun i wr => ∃ k : Nat, i = .int .i64 k ∧ k ≤ text.length ∧ Hid (∀ j, j < k → farT text j = false) ∧ Hid (Below (w.alloc (.cells #[.slice A1 text.length c1, .int .i64 ent, .slice A2 ml c2] 25)).heap.size (w.alloc (.cells #[.slice A1 text.length c1, .int .i64 ent, .slice A2 ml c2] 25)) wr)) (fun i _ => text.length - (intOf i).toNat)
  case atStart => exact ⟨0, rfl, by omega, fun j hj => by omega, Below.refl _ _⟩
  case round =>
    obtain ⟨k, rfl, hk, hj, hb⟩ := hrel
    have HBr : Hid (Below w.heap.size w wr) := lb_trans HB0.out hb.out
    have hx := lb_box0 HX.out hb.out
    by_cases hlt : k < text.length
    · obtain ⟨a, rfl, q⟩ := (hT.keep HBr.out) k hlt
      have x0 : wr.cell? ⟨w.heap.size, 0, none⟩ = some (.slice (some a) text.length c1) := by simp [World.cell?, hx]
      obtain ⟨hv0, hv1⟩ := hR k hlt
      have C := reftarget_any (nth text k) hv0 hv1 wr
      have HF : Hid (farT text k = (isT (nth text k) && decide ((text.length : Int) ≤ tgV (nth text k)))) := rfl
      generalize nth text k = v at *
      generalize isT v = t at *
      generalize tgV v = z at *
      clear hx
      cases t with
      | false =>
        go_wp2_with (go_at_call 33; refine C.mono ?_; rintro e w1 ⟨rfl, hb1⟩)
        go_roundw
        case rel => exact ⟨k + 1, by go_num, by omega, fun j hj1 => by
          by_cases hjk : j = k
          · subst hjk; rw [HF.out]; rfl
          · exact hj.out j (by omega), lb_trans hb.out hb1⟩
        case measure => simp [intOf]; omega
      | true =>
        by_cases hz : (text.length : Int) ≤ z
        · go_wp2_with (go_at_call 33; refine C.mono ?_; rintro e w1 ⟨rfl, hb1⟩)
          go_ret2
          have e := check_far HP.out hlt hj.out (by rw [HF.out]; simpa using hz)
          rw [e]
          exact ⟨rfl, lb_trans HBr.out hb1⟩
        · go_wp2_with (go_at_call 33; refine C.mono ?_; rintro e w1 ⟨rfl, hb1⟩)
          go_roundw
          case rel => exact ⟨k + 1, by go_num, by omega, fun j hj1 => by
            by_cases hjk : j = k
            · subst hjk; rw [HF.out]; simpa using hz
            · exact hj.out j (by omega), lb_trans hb.out hb1⟩
          case measure => simp [intOf]; omega
    · obtain rfl : k = text.length := by omega
      obtain ⟨a, rfl, q⟩ := (hT.keep HBr.out) (text.length - 1) (by omega)
      have x0 : wr.cell? ⟨w.heap.size, 0, none⟩ = some (.slice (some a) text.length c1) := by simp [World.cell?, hx]
      obtain ⟨hv0, hv1⟩ := hR (text.length - 1) (by omega)
      have C := refdecode_any (nth text (text.length - 1)) hv0 hv1 wr
      have HE : Hid _ := check_end HP.out hj.out
      have HL : Hid (lastOK (nth text (text.length - 1)) = decide (dOp (nth text (text.length - 1)) = 0 ∨ dOp (nth text (text.length - 1)) = 15 ∨ dOp (nth text (text.length - 1)) = 19 ∨ dOp (nth text (text.length - 1)) = 21)) := rfl
      have hc : ((text.length - 1 : Nat) : Int) = (text.length : Int) - 1 := by omega
      generalize nth text (text.length - 1) = v at *
      generalize dOp v = x at *
      generalize dD v = x1 at *
      generalize dA v = x2 at *
      generalize dB v = x3 at *
      generalize dN v = x4 at *
      generalize lastOK v = t at *
      clear hx
      go_wp2_with (go_at_call 34; refine C.mono ?_; rintro e w1 ⟨rfl, hb1⟩)
      all_goals (
        go_ret2
        rw [HE.out, HL.out]
        refine ⟨?_, lb_trans HBr.out hb1⟩
        by_cases hd : x = 0 ∨ x = 15 ∨ x = 19 ∨ x = 21
        · rw [decide_eq_true hd]
          first
            | rfl
            | (exfalso; simp_all)
        · rw [decide_eq_false hd]
          first
            | (exfalso; simp_all; done)
            | (simp; omega))

end Go.Proofs.YtfaekkbblpfbhaaDoor
