/-
  The document writes numbers as bytes; no condition but their range. The document writes texts as bytes; they are at most 2^20 bytes. The document writes a whole object as bytes; they are at most 300000. What the statement on an object as bytes leans on; no Go in sight.
-/
import Derived.Test.YthfcimmfkibmjaaGreatDoorProg
import Derived.WalkKit
import Derived.WalkSpells
import Derived.WalkLawsBesides
import Derived.RowKit3
import Derived.Below
import Derived.Deep.QuietTactic
import Derived.BigQuiet
import Derived.WalkSmall
import Derived.Test.YthfcimmfkibmjaaGreatDoorWd02
import Derived.Laws.Rows
import Derived.Test.YthfcimmfkibmjaaGreatDoorWd06
import Derived.Lib.AppendStr
import Derived.Test.YthfcimmfkibmjaaGreatDoorWd16
import Derived.Test.YthfcimmfkibmjaaGreatDoorWd17
import Derived.Deep.AppendLies
import Derived.Test.YthfcimmfkibmjaaGreatDoorWd20
import Derived.Test.YthfcimmfkibmjaaGreatDoorWd22
namespace Go.Proofs.YthfcimmfkibmjaaGreatDoor
open Go.RowKit

set_option maxRecDepth 100000 in
theorem reffour_any (v : Int) (h0 : 0 ≤ v) (h1 : v < 4294967296) (w : World) : Calls Tryz.prog 133 #[.int .u32 v] w fun r w' => r = .returned (.slice (some ⟨w.heap.size, 0, none⟩) 4 4) ∧ w' = w.alloc (.cells (bNews (be4 v)).toArray 5) := by
  have e1 : v / 16777216 < 256 := by omega
  have HE : Hid (be4 v = [v / 16777216, v / 65536 % 256, v / 256 % 256, v % 256]) := by
    unfold Hid be4
    congr 1
    omega
  go_enter Tryz.func133, Tryz.ntmps133
  go_wp2
  go_ret
  exact ⟨rfl, by rw [HE.out]; rfl⟩
/-- A slice of bytes that is new and its own. -/
def NewB (l : List Int) (w : World) (r : Ending) (w' : World) : Prop := ∃ v, r = .returned v ∧ w'.ownsRow w.heap.size 5 1 v l.length (bNews l) ∧ Below w.heap.size w w'
theorem four_own (v : Int) (h0 : 0 ≤ v) (h1 : v < 4294967296) (w : World) : Calls Tryz.prog 133 #[.int .u32 v] w (NewB (be4 v) w) := by
  refine (reffour_any v h0 h1 w).mono ?_
  rintro r w1 ⟨rfl, rfl⟩
  exact ⟨_, rfl, new_lit w (be4 v) (by rw [be4_len]; omega), lb_alloc (Below.refl _ _) _⟩
theorem Four_raw (v : Int) (h0 : 0 ≤ v) (h1 : v < 4294967296) (w : World) : Calls Tryz.prog 93 #[.int .u32 v] w fun r w' => r = .returned (.slice (some ⟨w.heap.size, 0, none⟩) 4 4) ∧ w' = w.alloc (.cells (bNews (be4 v)).toArray 5) := by
  go_enter Tryz.func93, Tryz.ntmps93
  go_wp2_with fail
  refine (reffour_any v h0 h1 _).mono ?_
  rintro r w1 ⟨rfl, rfl⟩
  go_wp2
  go_ret
  exact ⟨rfl, rfl⟩
theorem Four_own (v : Int) (h0 : 0 ≤ v) (h1 : v < 4294967296) (w : World) : Calls Tryz.prog 93 #[.int .u32 v] w (NewB (be4 v) w) := by
  refine (Four_raw v h0 h1 w).mono ?_
  rintro r w1 ⟨rfl, rfl⟩
  exact ⟨_, rfl, new_lit w (be4 v) (by rw [be4_len]; omega), lb_alloc (Below.refl _ _) _⟩
theorem four4_own (v : Int) (w : World) : Calls Tryz.prog 92 #[.int .i64 v] w (NewB (be4 v) w) := by
  have C := Four_raw (v % 4294967296) (by omega) (by omega)
  rw [be4_mod] at C
  go_enter Tryz.func92, Tryz.ntmps92
  go_wp2_with fail
  refine (C _).mono ?_
  rintro r w1 ⟨rfl, rfl⟩
  go_wp2
  go_ret
  exact ⟨_, rfl, new_lit w (be4 v) (by rw [be4_len]; omega), lb_alloc (Below.refl _ _) _⟩
set_option maxRecDepth 100000 in
set_option maxHeartbeats 1000000 in
theorem eight_own (v : Int) (_h0 : -9223372036854775808 ≤ v) (_h1 : v < 9223372036854775808) (w : World) : Calls Tryz.prog 134 #[.int .i64 v] w (NewB (be8 v) w) := by
  obtain ⟨i0, hi, hz0, hz1, hz2⟩ := info5
  have hwv : IntKind.u64.wrap v = v % 18446744073709551616 := by simp [IntKind.wrap, IntKind.signed, IntKind.bits]
  have e1 : be4 (IntKind.u64.wrap v / 4294967296 % 4294967296) = be4 (v / 4294967296) := by
    rw [hwv, be4_mod, ← be4_mod (v % 18446744073709551616 / 4294967296), ← be4_mod (v / 4294967296)]
    congr 1
    omega
  have e2 : be4 (IntKind.u64.wrap v % 4294967296) = be4 v := by
    rw [hwv, be4_mod, ← be4_mod (v % 18446744073709551616), ← be4_mod v]
    congr 1
    omega
  have hc := lit_cells (w.alloc (.cells (bNews (be4 (v / 4294967296))).toArray 5)) (be4 v) (by rw [be4_len]; omega)
  rw [show (w.alloc (.cells (bNews (be4 (v / 4294967296))).toArray 5)).heap.size = w.heap.size + 1 by simp] at hc
  have ho := (new_lit w (be4 (v / 4294967296)) (by rw [be4_len]; omega)).alloc (.cells (bNews (be4 v)).toArray 5)
  have hY : (bNews (be4 v)).length = 4 * 1 := by rw [bNews_len, be4_len]
  have hY1 := bNews_one (be4 v)
  have HO : Hid (bNews (be4 (v / 4294967296)) ++ bNews (be4 v) = bNews (be8 v)) := by rw [Hid, bNews_app]; rfl
  clear hwv
  go_enter Tryz.func134, Tryz.ntmps134
  go_wp2_with fail
  refine (reffour_any _ ?a1 ?a2 _).mono ?_
  case a1 => omega
  case a2 => omega
  rintro r w1 ⟨rfl, rfl⟩
  go_wp2_with fail
  refine (reffour_any _ ?a3 ?a4 _).mono ?_
  case a3 => omega
  case a4 => omega
  rintro r w2 ⟨rfl, rfl⟩
  rw [e2]
  clear e1 e2
  generalize bNews (be4 (v / 4294967296)) = X at *
  generalize bNews (be4 v) = Y at *
  go_wp2_with (at_builtin; refine wpList_append_own _ rfl (.tmp 9) (.tmp 13) 31 rfl w.heap.size 5 i0 (.int .u8 0) 1 1 Tryz.underlying31 hi hz0 hz1 hz2 rfl (by decide) (.slice (some ⟨w.heap.size, 0, none⟩) 4 4) 4 X rfl ho ⟨w.heap.size + 1, 0, none⟩ 4 4 Y rfl hY hc hY1 (by unfold maxLen; omega) (by omega) (by simp; omega) ?_; intro v' w' hown hgrow hnil)
  go_ret
  rw [HO.out] at hown
  exact ⟨_, rfl, hown, Below.grown (lb_alloc (lb_alloc (Below.refl _ _) _) _) hgrow (by simp; omega) (fun k hk => by cases hk; exact Nat.le_refl _)⟩


end Go.Proofs.YthfcimmfkibmjaaGreatDoor

namespace Go.Proofs.YthfcimmfkibmjaaGreatDoor
open Go.RowKit

theorem Eight_own (v : Int) (h0 : -9223372036854775808 ≤ v) (h1 : v < 9223372036854775808) (w : World) : Calls Tryz.prog 94 #[.int .i64 v] w (NewB (be8 v) w) := by
  go_enter Tryz.func94, Tryz.ntmps94
  go_wp2_with fail
  refine (eight_own v h0 h1 _).mono ?_
  rintro r w1 ⟨u, rfl, ho, hb⟩
  have HO : Hid _ := ho
  have HB : Hid _ := hb
  clear ho hb
  go_wp2
  go_ret
  exact ⟨_, rfl, HO.out, HB.out⟩
set_option maxRecDepth 100000 in
set_option maxHeartbeats 1000000 in
theorem text_own (s : ByteArray) (hs : s.size ≤ 1048576) (w : World) : Calls Tryz.prog 91 #[.string s] w (NewB (textB s) w) := by
  obtain ⟨i0, hi, hz0, hz1, hz2⟩ := info5
  have HL : Hid ((textB s).length = 4 + s.size ∧ bNews (be4 s.size) ++ Lib.strCells s = bNews (textB s)) := by
    refine ⟨by unfold textB; rw [List.length_append, be4_len, strB_size], ?_⟩
    rw [str_news, bNews_app]; rfl
  go_enter Tryz.func91, Tryz.ntmps91
  go_wp2_with fail
  refine (Four_own (s.size : Int) (by omega) (by omega) _).mono ?_
  rintro r w1 ⟨u, rfl, ho, hb⟩
  rw [be4_len] at ho
  have HB : Hid _ := hb
  clear hb
  go_wp2_with (at_builtin; refine Lib.wpList_append_own_string _ rfl (.tmp 8) (.tmp 9) 31 9 rfl w.heap.size 5 i0 Tryz.underlying31 Tryz.underlying9 hi hz0 hz1 hz2 u 4 (bNews (be4 s.size)) rfl ho s rfl (by unfold maxLen; omega) (by omega) HB.out.size ?_; intro v' w' hown hgrow hnil)
  go_ret
  refine ⟨_, rfl, ?_, Below.grown HB.out hgrow HB.out.size (fun k hk => (ho.lt k hk).1)⟩
  rw [HL.out.1, ← HL.out.2]
  exact hown


end Go.Proofs.YthfcimmfkibmjaaGreatDoor

namespace Go.Proofs.YthfcimmfkibmjaaGreatDoor
open Go.RowKit


theorem lb_box {w w1 : World} {B : Nat} {cs : Array Value} {t : TypeId} (h : w.heap[B]? = some (.cells cs t (0, 0))) (hb : Below w.heap.size w w1) : w1.heap[B]? = some (.cells cs t (0, 0)) := by
  rw [hb.block B (Array.getElem?_eq_some_iff.1 h).1]; exact h
/-- How things stand between two appends: the row, the object's box, the world. -/
structure Buf (w : World) (o : Array Value) (v : Value) (l : List Int) (wr : World) : Prop where
  row : wr.ownsRow (w.heap.size + 1) 5 1 v l.length (bNews l)
  box : wr.heap[w.heap.size]? = some (.cells o 27 (0, 0))
  below : Below w.heap.size w wr
theorem Buf.keep {w wr w1 : World} {o : Array Value} {v : Value} {l : List Int} (h : Buf w o v l wr) (hb : Below wr.heap.size wr w1) : Buf w o v l w1 := ⟨row_keep h.row hb, lb_box h.box hb, lb_trans h.below hb⟩
theorem Buf.lt {w wr : World} {o : Array Value} {v : Value} {l : List Int} (h : Buf w o v l wr) : w.heap.size < wr.heap.size := (Array.getElem?_eq_some_iff.1 h.box).1
theorem Buf.grown {w wr w1 : World} {o : Array Value} {v v' : Value} {l e l' : List Int} {n : Nat} (h : Buf w o v l wr) (hg : wr.grownBy w1 v.ownBlock) (ho : w1.ownsRow (w.heap.size + 1) 5 1 v' n (bNews l ++ bNews e)) (hl : l ++ e = l') : Buf w o v' l' w1 := by
  subst hl
  have hn : n = (l ++ e).length := by have := ho.1; rw [bNews_app, bNews_len] at this; omega
  subst hn
  rw [bNews_app] at ho
  refine ⟨ho, ?_, Below.grown h.below hg h.below.size (fun k hk => by have := h.row.lt k hk; omega)⟩
  rw [hg.block w.heap.size h.lt (fun e => by have := h.row.lt _ e.symm; omega)]
  exact h.box
theorem Buf.to {w wr : World} {o : Array Value} {v : Value} {l : List Int} (h : Buf w o v l wr) (l' : List Int) (e : l = l') : Buf w o v l' wr := e ▸ h
theorem text_len (s : ByteArray) : (textB s).length = 4 + s.size := by unfold textB; rw [List.length_append, be4_len, strB_size]
theorem buf_start (w : World) (o : Array Value) (l : List Int) (h : l.length ≤ 1048576) : Buf w o (.slice (some ⟨w.heap.size + 1, 0, none⟩) l.length l.length) l ((w.alloc (.cells o 27)).alloc (.cells (bNews l).toArray 5)) := by
  refine ⟨?_, ?_, lb_alloc (lb_alloc (Below.refl _ _) _) _⟩
  · have := new_lit (w.alloc (.cells o 27)) l h
    rw [show (w.alloc (.cells o 27)).heap.size = w.heap.size + 1 by simp] at this
    exact this
  · rw [(lb_alloc (Below.refl _ (w.alloc (.cells o 27))) _).block w.heap.size (by simp)]
    exact heap_alloc_new _ _

set_option maxRecDepth 100000 in
set_option maxHeartbeats 8000000 in
theorem refbytes_any (nm : ByteArray) (dA : Int) (A1 A2 A3 A4 : Option Addr) (c1 c2 c3 c4 : Nat) (code data : List Int) (ss : List Sym) (rs : List Rel) (w : World)
    (hC : IntsAt w A1 .u32 code) (hD : IntsAt w A2 .i64 data) (hS : SymsAt w A3 ss) (hL : RelsAt w A4 rs) (hR : ∀ i, i < code.length → 0 ≤ nth code i ∧ nth code i < 4294967296) (hR2 : ∀ i, i < data.length → -9223372036854775808 ≤ nth data i ∧ nth data i < 9223372036854775808) (hK : ∀ i, i < ss.length → (sName ss i).size ≤ 24 ∧ 0 ≤ sKind ss i ∧ sKind ss i ≤ 3) (hlen : (bodyB nm code dA data ss rs).length ≤ 300000) (hn1 : nm.size ≤ 24) (hn3 : ss.length ≤ 256) :
    Calls Tryz.prog 33 #[.agg #[.string nm, .slice A1 code.length c1, .int .i64 dA, .slice A2 data.length c2, .slice A3 ss.length c3, .slice A4 rs.length c4]] w (NewB (bytesB nm code dA data ss rs) w) := by
  obtain ⟨i0, hi, hz0, hz1, hz2⟩ := info5
  obtain ⟨p1, p2, p3, p4, p5, p6⟩ := part_lens nm code dA data ss rs
  have hlen' := hlen
  rw [p6] at hlen'
  have HB : Hid _ := buf_start w #[.string nm, .slice A1 code.length c1, .int .i64 dA, .slice A2 data.length c2, .slice A3 ss.length c3, .slice A4 rs.length c4] [80, 76, 79, 49] (by simp)
  obtain ⟨d0, d1, d2, d3, d4, d5⟩ := box6_cell HB.out.box
  have Hp : Hid ((part1 nm).length = 8 + nm.size ∧ (part2 nm code).length = 12 + nm.size + code.length * 4 ∧ (part3 nm code dA).length = 16 + nm.size + code.length * 4 ∧ (part4 nm code dA data).length = 20 + nm.size + code.length * 4 + data.length * 8 ∧ (part5 nm code dA data ss).length = 24 + nm.size + code.length * 4 + data.length * 8 + (ss.flatMap symB).length ∧ (bodyB nm code dA data ss rs).length = 28 + nm.size + code.length * 4 + data.length * 8 + (ss.flatMap symB).length + rs.length * 8) := ⟨p1, p2, p3, p4, p5, p6⟩
  have HLn : Hid (28 + nm.size + code.length * 4 + data.length * 8 + (ss.flatMap symB).length + rs.length * 8 ≤ 300000) := hlen'
  have Hlen : Hid ((bodyB nm code dA data ss rs).length ≤ 300000) := hlen
  have hcl : code.length ≤ 300000 ∧ data.length ≤ 300000 ∧ rs.length ≤ 300000 := by omega
  obtain ⟨hcl1, hcl2, hcl3⟩ := hcl
  clear p1 p2 p3 p4 p5 p6 hlen hlen'
  go_enter Tryz.func33, Tryz.ntmps33
  go_wp2_with fail
  refine (text_own nm (by omega) _).mono ?_
  rintro r wa1 ⟨u1, rfl, hou, hba⟩
  have HLU : Hid ((textB nm).length = 4 + nm.size) := by
    show _ = _
    unfold textB; rw [List.length_append, be4_len, strB_size]
  obtain ⟨gu, cu, rfl, _, _⟩ := hou.form (by rw [HLU.out]; omega)
  have hB := Buf.keep HB.out hba
  have hcu := hou.cells rfl
  have hrow := hB.row
  have HB2 : Hid _ := hB
  clear hB hba
  have hll : ([80, 76, 79, 49]).length ≤ 300000 := by
    obtain ⟨p1, p2, p3, p4, p5, p6⟩ := Hp.out
    have hlen' := HLn.out
    simp
  rw [HLU.out]
  go_wp2_with (at_builtin; refine wpList_append_own _ rfl (.tmp 9) (.tmp 12) 31 rfl (w.heap.size + 1) 5 i0 (.int .u8 0) 1 1 Tryz.underlying31 hi hz0 hz1 hz2 rfl (by decide) _ ([80, 76, 79, 49]).length (bNews ([80, 76, 79, 49])) rfl hrow ⟨gu, 0, none⟩ (4 + nm.size) cu (bNews (textB nm)) rfl (by simp only [bNews_len, HLU.out, Nat.mul_one]) hcu (bNews_one _) (by unfold maxLen; omega) (by omega) (by have := HB2.out.lt; omega) ?_; intro v1 wb1 hown hgrow hnil; have HB : Hid (Buf w #[.string nm, .slice A1 code.length c1, .int .i64 dA, .slice A2 data.length c2, .slice A3 ss.length c3, .slice A4 rs.length c4] v1 (part1 nm) wb1) := Buf.grown HB2.out hgrow hown (rfl); clear hown hgrow hnil hrow hcu hou HB2 hll HLU; obtain ⟨d0, d1, d2, d3, d4, d5⟩ := box6_cell HB.out.box)
  go_wp2_with fail
  refine (four4_own (code.length : Int) _).mono ?_
  rintro r wa2 ⟨u2, rfl, hou, hba⟩
  have HLU : Hid ((be4 (code.length : Int)).length = 4) := by
    show _ = _
    rfl
  obtain ⟨gu, cu, rfl, _, _⟩ := hou.form (by rw [HLU.out]; omega)
  have hB := Buf.keep HB.out hba
  have hcu := hou.cells rfl
  have hrow := hB.row
  have HB2 : Hid _ := hB
  clear hB hba
  have hll : (part1 nm).length ≤ 300000 := by
    obtain ⟨p1, p2, p3, p4, p5, p6⟩ := Hp.out
    have hlen' := HLn.out
    rw [p1]; omega
  rw [HLU.out]
  go_wp2_with (at_builtin; refine wpList_append_own _ rfl (.tmp 14) (.tmp 18) 31 rfl (w.heap.size + 1) 5 i0 (.int .u8 0) 1 1 Tryz.underlying31 hi hz0 hz1 hz2 rfl (by decide) _ (part1 nm).length (bNews (part1 nm)) rfl hrow ⟨gu, 0, none⟩ (4) cu (bNews (be4 (code.length : Int))) rfl (by simp only [bNews_len, HLU.out, Nat.mul_one]) hcu (bNews_one _) (by unfold maxLen; omega) (by omega) (by have := HB2.out.lt; omega) ?_; intro v2 wb2 hown hgrow hnil; have HB : Hid (Buf w #[.string nm, .slice A1 code.length c1, .int .i64 dA, .slice A2 data.length c2, .slice A3 ss.length c3, .slice A4 rs.length c4] v2 (part1 nm ++ be4 (code.length : Int)) wb2) := Buf.grown HB2.out hgrow hown (rfl); clear hown hgrow hnil hrow hcu hou HB2 hll HLU; obtain ⟨d0, d1, d2, d3, d4, d5⟩ := box6_cell HB.out.box)
  go_loopw [4, 3] (fun i s wr => ∃ k : Nat, i = .int .i64 k ∧ k ≤ code.length ∧ Hid (Buf w #[.string nm, .slice A1 code.length c1, .int .i64 dA, .slice A2 data.length c2, .slice A3 ss.length c3, .slice A4 rs.length c4] s (part1 nm ++ be4 (code.length : Int) ++ (code.take k).flatMap be4) wr)) (fun i _ _ => code.length - (intOf i).toNat)
  case atStart => exact ⟨0, rfl, Nat.zero_le _, by show Buf _ _ _ (_ ++ []) _; rw [List.append_nil]; exact HB.out⟩
  case round =>
    clear HB d0 d1 d2 d3 d4 d5
    obtain ⟨k, rfl, hk, HB⟩ := hrel
    obtain ⟨d0, d1, d2, d3, d4, d5⟩ := box6_cell HB.out.box
    by_cases hlt : k < code.length
    · have hll0 : (part1 nm ++ be4 (code.length : Int) ++ (code.take k).flatMap be4).length + 4 ≤ 300000 := by
        obtain ⟨p1, p2, p3, p4, p5, p6⟩ := Hp.out
        have hlen' := HLn.out
        have h1 := flat_len be4 4 (fun _ => rfl) (code.take k)
        rw [List.length_take, Nat.min_eq_left hk] at h1
        rw [List.length_append, List.length_append, h1, be4_len, p1]
        omega
      obtain ⟨a, ea, hc⟩ := (hC.keep HB.out.below) k hlt
      have hr := hR k hlt
      have HF : Hid _ := flat_snoc be4 code 0 k hlt
      go_wp2_with fail
      refine (Four_own (nth code k) hr.1 hr.2 _).mono ?_
      rintro r wa3 ⟨u3, rfl, hou, hba⟩
      have HLU : Hid ((be4 (nth code k)).length = 4) := by
        show _ = _
        rfl
      obtain ⟨gu, cu, rfl, _, _⟩ := hou.form (by rw [HLU.out]; omega)
      have hB := Buf.keep HB.out hba
      have hcu := hou.cells rfl
      have hrow := hB.row
      have HB2 : Hid _ := hB
      clear hB hba
      have hll : (part1 nm ++ be4 (code.length : Int) ++ (code.take k).flatMap be4).length ≤ 300000 := by
        obtain ⟨p1, p2, p3, p4, p5, p6⟩ := Hp.out
        have hlen' := HLn.out
        omega
      rw [HLU.out]
      go_wp2_with (at_builtin; refine wpList_append_own _ rfl (.tmp 27) (.tmp 33) 31 rfl (w.heap.size + 1) 5 i0 (.int .u8 0) 1 1 Tryz.underlying31 hi hz0 hz1 hz2 rfl (by decide) _ (part1 nm ++ be4 (code.length : Int) ++ (code.take k).flatMap be4).length (bNews (part1 nm ++ be4 (code.length : Int) ++ (code.take k).flatMap be4)) rfl hrow ⟨gu, 0, none⟩ (4) cu (bNews (be4 (nth code k))) rfl (by simp only [bNews_len, HLU.out, Nat.mul_one]) hcu (bNews_one _) (by unfold maxLen; omega) (by omega) (by have := HB2.out.lt; omega) ?_; intro v3 wb3 hown hgrow hnil; have HB : Hid (Buf w #[.string nm, .slice A1 code.length c1, .int .i64 dA, .slice A2 data.length c2, .slice A3 ss.length c3, .slice A4 rs.length c4] v3 (part1 nm ++ be4 (code.length : Int) ++ (code.take (k + 1)).flatMap be4) wb3) := Buf.grown HB2.out hgrow hown (by rw [HF.out, ← List.append_assoc]; rfl); clear hown hgrow hnil hrow hcu hou HB2 hll HLU; obtain ⟨d0, d1, d2, d3, d4, d5⟩ := box6_cell HB.out.box)
      subst ea
      go_roundw
      case rel => exact ⟨k + 1, by go_num, by omega, HB⟩
      case measure => simp [intOf]; omega
    · have HB : Hid _ := Buf.to HB.out (part2 nm code) (by rw [List.take_of_length_le (by omega), List.append_assoc]; rfl)
      go_wp2_with fail
      refine (four4_own dA _).mono ?_
      rintro r wa4 ⟨u4, rfl, hou, hba⟩
      have HLU : Hid ((be4 dA).length = 4) := by
        show _ = _
        rfl
      obtain ⟨gu, cu, rfl, _, _⟩ := hou.form (by rw [HLU.out]; omega)
      have hB := Buf.keep HB.out hba
      have hcu := hou.cells rfl
      have hrow := hB.row
      have HB2 : Hid _ := hB
      clear hB hba
      have hll : (part2 nm code).length ≤ 300000 := by
        obtain ⟨p1, p2, p3, p4, p5, p6⟩ := Hp.out
        have hlen' := HLn.out
        rw [p2]; omega
      rw [HLU.out]
      go_wp2_with (at_builtin; refine wpList_append_own _ rfl (.tmp 35) (.tmp 38) 31 rfl (w.heap.size + 1) 5 i0 (.int .u8 0) 1 1 Tryz.underlying31 hi hz0 hz1 hz2 rfl (by decide) _ (part2 nm code).length (bNews (part2 nm code)) rfl hrow ⟨gu, 0, none⟩ (4) cu (bNews (be4 dA)) rfl (by simp only [bNews_len, HLU.out, Nat.mul_one]) hcu (bNews_one _) (by unfold maxLen; omega) (by omega) (by have := HB2.out.lt; omega) ?_; intro v4 wb4 hown hgrow hnil; have HB : Hid (Buf w #[.string nm, .slice A1 code.length c1, .int .i64 dA, .slice A2 data.length c2, .slice A3 ss.length c3, .slice A4 rs.length c4] v4 (part3 nm code dA) wb4) := Buf.grown HB2.out hgrow hown (rfl); clear hown hgrow hnil hrow hcu hou HB2 hll HLU; obtain ⟨d0, d1, d2, d3, d4, d5⟩ := box6_cell HB.out.box)
      go_wp2_with fail
      refine (four4_own (data.length : Int) _).mono ?_
      rintro r wa5 ⟨u5, rfl, hou, hba⟩
      have HLU : Hid ((be4 (data.length : Int)).length = 4) := by
        show _ = _
        rfl
      obtain ⟨gu, cu, rfl, _, _⟩ := hou.form (by rw [HLU.out]; omega)
      have hB := Buf.keep HB.out hba
      have hcu := hou.cells rfl
      have hrow := hB.row
      have HB2 : Hid _ := hB
      clear hB hba
      have hll : (part3 nm code dA).length ≤ 300000 := by
        obtain ⟨p1, p2, p3, p4, p5, p6⟩ := Hp.out
        have hlen' := HLn.out
        rw [p3]; omega
      rw [HLU.out]
      go_wp2_with (at_builtin; refine wpList_append_own _ rfl (.tmp 40) (.tmp 44) 31 rfl (w.heap.size + 1) 5 i0 (.int .u8 0) 1 1 Tryz.underlying31 hi hz0 hz1 hz2 rfl (by decide) _ (part3 nm code dA).length (bNews (part3 nm code dA)) rfl hrow ⟨gu, 0, none⟩ (4) cu (bNews (be4 (data.length : Int))) rfl (by simp only [bNews_len, HLU.out, Nat.mul_one]) hcu (bNews_one _) (by unfold maxLen; omega) (by omega) (by have := HB2.out.lt; omega) ?_; intro v5 wb5 hown hgrow hnil; have HB : Hid (Buf w #[.string nm, .slice A1 code.length c1, .int .i64 dA, .slice A2 data.length c2, .slice A3 ss.length c3, .slice A4 rs.length c4] v5 (part3 nm code dA ++ be4 (data.length : Int)) wb5) := Buf.grown HB2.out hgrow hown (rfl); clear hown hgrow hnil hrow hcu hou HB2 hll HLU; obtain ⟨d0, d1, d2, d3, d4, d5⟩ := box6_cell HB.out.box)
      go_loopw [5, 3] (fun i s wr => ∃ k : Nat, i = .int .i64 k ∧ k ≤ data.length ∧ Hid (Buf w #[.string nm, .slice A1 code.length c1, .int .i64 dA, .slice A2 data.length c2, .slice A3 ss.length c3, .slice A4 rs.length c4] s (part3 nm code dA ++ be4 (data.length : Int) ++ (data.take k).flatMap be8) wr)) (fun i _ _ => data.length - (intOf i).toNat)
      case atStart => exact ⟨0, rfl, Nat.zero_le _, by show Buf _ _ _ (_ ++ []) _; rw [List.append_nil]; exact HB.out⟩
      case round =>
        clear HB d0 d1 d2 d3 d4 d5
        obtain ⟨k, rfl, hk, HB⟩ := hrel
        obtain ⟨d0, d1, d2, d3, d4, d5⟩ := box6_cell HB.out.box
        by_cases hlt : k < data.length
        · have hll0 : (part3 nm code dA ++ be4 (data.length : Int) ++ (data.take k).flatMap be8).length + 8 ≤ 300000 := by
            obtain ⟨p1, p2, p3, p4, p5, p6⟩ := Hp.out
            have hlen' := HLn.out
            have h1 := flat_len be8 8 (fun _ => rfl) (data.take k)
            rw [List.length_take, Nat.min_eq_left hk] at h1
            rw [List.length_append, List.length_append, h1, be4_len, p3]
            omega
          obtain ⟨a, ea, hc⟩ := (hD.keep HB.out.below) k hlt
          have hr := hR2 k hlt
          have HF : Hid _ := flat_snoc be8 data 0 k hlt
          go_wp2_with fail
          refine (Eight_own (nth data k) hr.1 hr.2 _).mono ?_
          rintro r wa6 ⟨u6, rfl, hou, hba⟩
          have HLU : Hid ((be8 (nth data k)).length = 8) := by
            show _ = _
            rfl
          obtain ⟨gu, cu, rfl, _, _⟩ := hou.form (by rw [HLU.out]; omega)
          have hB := Buf.keep HB.out hba
          have hcu := hou.cells rfl
          have hrow := hB.row
          have HB2 : Hid _ := hB
          clear hB hba
          have hll : (part3 nm code dA ++ be4 (data.length : Int) ++ (data.take k).flatMap be8).length ≤ 300000 := by
            obtain ⟨p1, p2, p3, p4, p5, p6⟩ := Hp.out
            have hlen' := HLn.out
            omega
          rw [HLU.out]
          go_wp2_with (at_builtin; refine wpList_append_own _ rfl (.tmp 53) (.tmp 59) 31 rfl (w.heap.size + 1) 5 i0 (.int .u8 0) 1 1 Tryz.underlying31 hi hz0 hz1 hz2 rfl (by decide) _ (part3 nm code dA ++ be4 (data.length : Int) ++ (data.take k).flatMap be8).length (bNews (part3 nm code dA ++ be4 (data.length : Int) ++ (data.take k).flatMap be8)) rfl hrow ⟨gu, 0, none⟩ (8) cu (bNews (be8 (nth data k))) rfl (by simp only [bNews_len, HLU.out, Nat.mul_one]) hcu (bNews_one _) (by unfold maxLen; omega) (by omega) (by have := HB2.out.lt; omega) ?_; intro v6 wb6 hown hgrow hnil; have HB : Hid (Buf w #[.string nm, .slice A1 code.length c1, .int .i64 dA, .slice A2 data.length c2, .slice A3 ss.length c3, .slice A4 rs.length c4] v6 (part3 nm code dA ++ be4 (data.length : Int) ++ (data.take (k + 1)).flatMap be8) wb6) := Buf.grown HB2.out hgrow hown (by rw [HF.out, ← List.append_assoc]; rfl); clear hown hgrow hnil hrow hcu hou HB2 hll HLU; obtain ⟨d0, d1, d2, d3, d4, d5⟩ := box6_cell HB.out.box)
          subst ea
          go_roundw
          case rel => exact ⟨k + 1, by go_num, by omega, HB⟩
          case measure => simp [intOf]; omega
        · have HB : Hid _ := Buf.to HB.out (part4 nm code dA data) (by rw [List.take_of_length_le (by omega), List.append_assoc]; rfl)
          go_wp2_with fail
          refine (four4_own (ss.length : Int) _).mono ?_
          rintro r wa7 ⟨u7, rfl, hou, hba⟩
          have HLU : Hid ((be4 (ss.length : Int)).length = 4) := by
            show _ = _
            rfl
          obtain ⟨gu, cu, rfl, _, _⟩ := hou.form (by rw [HLU.out]; omega)
          have hB := Buf.keep HB.out hba
          have hcu := hou.cells rfl
          have hrow := hB.row
          have HB2 : Hid _ := hB
          clear hB hba
          have hll : (part4 nm code dA data).length ≤ 300000 := by
            obtain ⟨p1, p2, p3, p4, p5, p6⟩ := Hp.out
            have hlen' := HLn.out
            rw [p4]; omega
          rw [HLU.out]
          go_wp2_with (at_builtin; refine wpList_append_own _ rfl (.tmp 61) (.tmp 65) 31 rfl (w.heap.size + 1) 5 i0 (.int .u8 0) 1 1 Tryz.underlying31 hi hz0 hz1 hz2 rfl (by decide) _ (part4 nm code dA data).length (bNews (part4 nm code dA data)) rfl hrow ⟨gu, 0, none⟩ (4) cu (bNews (be4 (ss.length : Int))) rfl (by simp only [bNews_len, HLU.out, Nat.mul_one]) hcu (bNews_one _) (by unfold maxLen; omega) (by omega) (by have := HB2.out.lt; omega) ?_; intro v7 wb7 hown hgrow hnil; have HB : Hid (Buf w #[.string nm, .slice A1 code.length c1, .int .i64 dA, .slice A2 data.length c2, .slice A3 ss.length c3, .slice A4 rs.length c4] v7 (part4 nm code dA data ++ be4 (ss.length : Int)) wb7) := Buf.grown HB2.out hgrow hown (rfl); clear hown hgrow hnil hrow hcu hou HB2 hll HLU; obtain ⟨d0, d1, d2, d3, d4, d5⟩ := box6_cell HB.out.box)
          go_loopw [6, 3] (fun i s wr => ∃ k : Nat, i = .int .i64 k ∧ k ≤ ss.length ∧ Hid (Buf w #[.string nm, .slice A1 code.length c1, .int .i64 dA, .slice A2 data.length c2, .slice A3 ss.length c3, .slice A4 rs.length c4] s (part4 nm code dA data ++ be4 (ss.length : Int) ++ (ss.take k).flatMap symB) wr)) (fun i _ _ => ss.length - (intOf i).toNat)
          case atStart => exact ⟨0, rfl, Nat.zero_le _, by show Buf _ _ _ (_ ++ []) _; rw [List.append_nil]; exact HB.out⟩
          case round =>
            clear HB d0 d1 d2 d3 d4 d5
            obtain ⟨k, rfl, hk, HB⟩ := hrel
            obtain ⟨d0, d1, d2, d3, d4, d5⟩ := box6_cell HB.out.box
            by_cases hlt : k < ss.length
            · have hll0 : (part4 nm code dA data ++ be4 (ss.length : Int) ++ (ss.take k).flatMap symB).length + (12 + (sName ss k).size) ≤ 300000 := by
                obtain ⟨p1, p2, p3, p4, p5, p6⟩ := Hp.out
                have hlen' := HLn.out
                have h1 := flat_take_le symB ss (k + 1)
                have h3 := congrArg List.length (flat_snoc symB ss symD k hlt)
                have h4 : (symB (ss.getD k symD)).length = (sName ss k).size + 12 := by
                  unfold symB textB
                  rw [List.length_append, List.length_append, List.length_append, be4_len, be4_len, be4_len, strB_size]
                  show 4 + (sName ss k).size + 4 + 4 = _
                  omega
                rw [List.length_append, h4] at h3
                rw [List.length_append, List.length_append, be4_len, p4]
                omega
              obtain ⟨a, ea, _⟩ := (hS.keep HB.out.below) k hlt
              obtain ⟨a2, ea2, hc0, hc1, hc2⟩ := (hS.keep HB.out.below) k hlt
              cases ea.symm.trans ea2
              clear ea2
              have hd1 : _ = some (Value.int .i8 (sKind ss k)) := show World.cell? _ ⟨(a.add (k * 3)).block, (a.add (k * 3)).off + 1, none⟩ = _ from hc1
              have hd2 : _ = some (Value.int .i64 (sAt ss k)) := show World.cell? _ ⟨(a.add (k * 3)).block, (a.add (k * 3)).off + 2, none⟩ = _ from hc2
              have hkk := hK k hlt
              have HF : Hid ((ss.take (k + 1)).flatMap symB = (ss.take k).flatMap symB ++ symB (sName ss k, sKind ss k, sAt ss k)) := flat_snoc symB ss symD k hlt
              go_wp2_with fail
              refine (text_own (sName ss k) (by omega) _).mono ?_
              rintro r wa8 ⟨u8, rfl, hou, hba⟩
              have HLU : Hid ((textB (sName ss k)).length = 4 + (sName ss k).size) := by
                show _ = _
                unfold textB; rw [List.length_append, be4_len, strB_size]
              obtain ⟨gu, cu, rfl, _, _⟩ := hou.form (by rw [HLU.out]; omega)
              have hB := Buf.keep HB.out hba
              have hcu := hou.cells rfl
              have hrow := hB.row
              have HB2 : Hid _ := hB
              clear hB hba
              have hll : (part4 nm code dA data ++ be4 (ss.length : Int) ++ (ss.take k).flatMap symB).length ≤ 300000 := by
                obtain ⟨p1, p2, p3, p4, p5, p6⟩ := Hp.out
                have hlen' := HLn.out
                omega
              rw [HLU.out]
              go_wp2_with (at_builtin; refine wpList_append_own _ rfl (.tmp 74) (.tmp 81) 31 rfl (w.heap.size + 1) 5 i0 (.int .u8 0) 1 1 Tryz.underlying31 hi hz0 hz1 hz2 rfl (by decide) _ (part4 nm code dA data ++ be4 (ss.length : Int) ++ (ss.take k).flatMap symB).length (bNews (part4 nm code dA data ++ be4 (ss.length : Int) ++ (ss.take k).flatMap symB)) rfl hrow ⟨gu, 0, none⟩ (4 + (sName ss k).size) cu (bNews (textB (sName ss k))) rfl (by simp only [bNews_len, HLU.out, Nat.mul_one]) hcu (bNews_one _) (by unfold maxLen; omega) (by omega) (by have := HB2.out.lt; omega) ?_; intro v8 wb8 hown hgrow hnil; have HB : Hid (Buf w #[.string nm, .slice A1 code.length c1, .int .i64 dA, .slice A2 data.length c2, .slice A3 ss.length c3, .slice A4 rs.length c4] v8 (part4 nm code dA data ++ be4 (ss.length : Int) ++ (ss.take k).flatMap symB ++ textB (sName ss k)) wb8) := Buf.grown HB2.out hgrow hown (rfl); clear hown hgrow hnil hrow hcu hou HB2 hll HLU; obtain ⟨d0, d1, d2, d3, d4, d5⟩ := box6_cell HB.out.box; obtain ⟨a2, ea2, hc0, hc1, hc2⟩ := (hS.keep HB.out.below) k hlt; cases ea.symm.trans ea2; clear ea2; have hd1 : _ = some (Value.int .i8 (sKind ss k)) := show World.cell? _ ⟨(a.add (k * 3)).block, (a.add (k * 3)).off + 1, none⟩ = _ from hc1; have hd2 : _ = some (Value.int .i64 (sAt ss k)) := show World.cell? _ ⟨(a.add (k * 3)).block, (a.add (k * 3)).off + 2, none⟩ = _ from hc2)
              go_wp2_with fail
              refine (four4_own (sKind ss k) _).mono ?_
              rintro r wa9 ⟨u9, rfl, hou, hba⟩
              have HLU : Hid ((be4 (sKind ss k)).length = 4) := by
                show _ = _
                rfl
              obtain ⟨gu, cu, rfl, _, _⟩ := hou.form (by rw [HLU.out]; omega)
              have hB := Buf.keep HB.out hba
              have hcu := hou.cells rfl
              have hrow := hB.row
              have HB2 : Hid _ := hB
              clear hB hba
              have hll : (part4 nm code dA data ++ be4 (ss.length : Int) ++ (ss.take k).flatMap symB ++ textB (sName ss k)).length ≤ 300000 := by
                obtain ⟨p1, p2, p3, p4, p5, p6⟩ := Hp.out
                have hlen' := HLn.out
                rw [List.length_append, text_len]; omega
              rw [HLU.out]
              go_wp2_with (at_builtin; refine wpList_append_own _ rfl (.tmp 83) (.tmp 91) 31 rfl (w.heap.size + 1) 5 i0 (.int .u8 0) 1 1 Tryz.underlying31 hi hz0 hz1 hz2 rfl (by decide) _ (part4 nm code dA data ++ be4 (ss.length : Int) ++ (ss.take k).flatMap symB ++ textB (sName ss k)).length (bNews (part4 nm code dA data ++ be4 (ss.length : Int) ++ (ss.take k).flatMap symB ++ textB (sName ss k))) rfl hrow ⟨gu, 0, none⟩ (4) cu (bNews (be4 (sKind ss k))) rfl (by simp only [bNews_len, HLU.out, Nat.mul_one]) hcu (bNews_one _) (by unfold maxLen; omega) (by omega) (by have := HB2.out.lt; omega) ?_; intro v9 wb9 hown hgrow hnil; have HB : Hid (Buf w #[.string nm, .slice A1 code.length c1, .int .i64 dA, .slice A2 data.length c2, .slice A3 ss.length c3, .slice A4 rs.length c4] v9 (part4 nm code dA data ++ be4 (ss.length : Int) ++ (ss.take k).flatMap symB ++ textB (sName ss k) ++ be4 (sKind ss k)) wb9) := Buf.grown HB2.out hgrow hown (rfl); clear hown hgrow hnil hrow hcu hou HB2 hll HLU; obtain ⟨d0, d1, d2, d3, d4, d5⟩ := box6_cell HB.out.box; obtain ⟨a2, ea2, hc0, hc1, hc2⟩ := (hS.keep HB.out.below) k hlt; cases ea.symm.trans ea2; clear ea2; have hd1 : _ = some (Value.int .i8 (sKind ss k)) := show World.cell? _ ⟨(a.add (k * 3)).block, (a.add (k * 3)).off + 1, none⟩ = _ from hc1; have hd2 : _ = some (Value.int .i64 (sAt ss k)) := show World.cell? _ ⟨(a.add (k * 3)).block, (a.add (k * 3)).off + 2, none⟩ = _ from hc2)
              go_wp2_with fail
              refine (four4_own (sAt ss k) _).mono ?_
              rintro r wa10 ⟨u10, rfl, hou, hba⟩
              have HLU : Hid ((be4 (sAt ss k)).length = 4) := by
                show _ = _
                rfl
              obtain ⟨gu, cu, rfl, _, _⟩ := hou.form (by rw [HLU.out]; omega)
              have hB := Buf.keep HB.out hba
              have hcu := hou.cells rfl
              have hrow := hB.row
              have HB2 : Hid _ := hB
              clear hB hba
              have hll : (part4 nm code dA data ++ be4 (ss.length : Int) ++ (ss.take k).flatMap symB ++ textB (sName ss k) ++ be4 (sKind ss k)).length ≤ 300000 := by
                obtain ⟨p1, p2, p3, p4, p5, p6⟩ := Hp.out
                have hlen' := HLn.out
                rw [List.length_append, List.length_append, be4_len, text_len]; omega
              rw [HLU.out]
              go_wp2_with (at_builtin; refine wpList_append_own _ rfl (.tmp 93) (.tmp 100) 31 rfl (w.heap.size + 1) 5 i0 (.int .u8 0) 1 1 Tryz.underlying31 hi hz0 hz1 hz2 rfl (by decide) _ (part4 nm code dA data ++ be4 (ss.length : Int) ++ (ss.take k).flatMap symB ++ textB (sName ss k) ++ be4 (sKind ss k)).length (bNews (part4 nm code dA data ++ be4 (ss.length : Int) ++ (ss.take k).flatMap symB ++ textB (sName ss k) ++ be4 (sKind ss k))) rfl hrow ⟨gu, 0, none⟩ (4) cu (bNews (be4 (sAt ss k))) rfl (by simp only [bNews_len, HLU.out, Nat.mul_one]) hcu (bNews_one _) (by unfold maxLen; omega) (by omega) (by have := HB2.out.lt; omega) ?_; intro v10 wb10 hown hgrow hnil; have HB : Hid (Buf w #[.string nm, .slice A1 code.length c1, .int .i64 dA, .slice A2 data.length c2, .slice A3 ss.length c3, .slice A4 rs.length c4] v10 (part4 nm code dA data ++ be4 (ss.length : Int) ++ (ss.take (k + 1)).flatMap symB) wb10) := Buf.grown HB2.out hgrow hown (by rw [HF.out]; unfold symB; simp only [List.append_assoc]); clear hown hgrow hnil hrow hcu hou HB2 hll HLU; obtain ⟨d0, d1, d2, d3, d4, d5⟩ := box6_cell HB.out.box)
              subst ea
              go_roundw
              case rel => exact ⟨k + 1, by go_num, by omega, HB⟩
              case measure => simp [intOf]; omega
            · have HB : Hid _ := Buf.to HB.out (part5 nm code dA data ss) (by rw [List.take_of_length_le (by omega), List.append_assoc]; rfl)
              go_wp2_with fail
              refine (four4_own (rs.length : Int) _).mono ?_
              rintro r wa11 ⟨u11, rfl, hou, hba⟩
              have HLU : Hid ((be4 (rs.length : Int)).length = 4) := by
                show _ = _
                rfl
              obtain ⟨gu, cu, rfl, _, _⟩ := hou.form (by rw [HLU.out]; omega)
              have hB := Buf.keep HB.out hba
              have hcu := hou.cells rfl
              have hrow := hB.row
              have HB2 : Hid _ := hB
              clear hB hba
              have hll : (part5 nm code dA data ss).length ≤ 300000 := by
                obtain ⟨p1, p2, p3, p4, p5, p6⟩ := Hp.out
                have hlen' := HLn.out
                rw [p5]; omega
              rw [HLU.out]
              go_wp2_with (at_builtin; refine wpList_append_own _ rfl (.tmp 102) (.tmp 106) 31 rfl (w.heap.size + 1) 5 i0 (.int .u8 0) 1 1 Tryz.underlying31 hi hz0 hz1 hz2 rfl (by decide) _ (part5 nm code dA data ss).length (bNews (part5 nm code dA data ss)) rfl hrow ⟨gu, 0, none⟩ (4) cu (bNews (be4 (rs.length : Int))) rfl (by simp only [bNews_len, HLU.out, Nat.mul_one]) hcu (bNews_one _) (by unfold maxLen; omega) (by omega) (by have := HB2.out.lt; omega) ?_; intro v11 wb11 hown hgrow hnil; have HB : Hid (Buf w #[.string nm, .slice A1 code.length c1, .int .i64 dA, .slice A2 data.length c2, .slice A3 ss.length c3, .slice A4 rs.length c4] v11 (part5 nm code dA data ss ++ be4 (rs.length : Int)) wb11) := Buf.grown HB2.out hgrow hown (rfl); clear hown hgrow hnil hrow hcu hou HB2 hll HLU; obtain ⟨d0, d1, d2, d3, d4, d5⟩ := box6_cell HB.out.box)
              go_loopw [7, 3] (fun i s wr => ∃ k : Nat, i = .int .i64 k ∧ k ≤ rs.length ∧ Hid (Buf w #[.string nm, .slice A1 code.length c1, .int .i64 dA, .slice A2 data.length c2, .slice A3 ss.length c3, .slice A4 rs.length c4] s (part5 nm code dA data ss ++ be4 (rs.length : Int) ++ (rs.take k).flatMap relB) wr)) (fun i _ _ => rs.length - (intOf i).toNat)
              case atStart => exact ⟨0, rfl, Nat.zero_le _, by show Buf _ _ _ (_ ++ []) _; rw [List.append_nil]; exact HB.out⟩
              case round =>
                clear HB d0 d1 d2 d3 d4 d5
                obtain ⟨k, rfl, hk, HB⟩ := hrel
                obtain ⟨d0, d1, d2, d3, d4, d5⟩ := box6_cell HB.out.box
                by_cases hlt : k < rs.length
                · have hll0 : (part5 nm code dA data ss ++ be4 (rs.length : Int) ++ (rs.take k).flatMap relB).length + 8 ≤ 300000 := by
                    obtain ⟨p1, p2, p3, p4, p5, p6⟩ := Hp.out
                    have hlen' := HLn.out
                    have h1 := flat_len relB 8 (fun _ => rfl) (rs.take k)
                    rw [List.length_take, Nat.min_eq_left hk] at h1
                    rw [List.length_append, List.length_append, h1, be4_len, p5]
                    omega
                  obtain ⟨a, ea, _⟩ := (hL.keep HB.out.below) k hlt
                  obtain ⟨a2, ea2, hc0, hc1⟩ := (hL.keep HB.out.below) k hlt
                  cases ea.symm.trans ea2
                  clear ea2
                  have hd1 : _ = some (Value.int .i64 (rSym rs k)) := show World.cell? _ ⟨(a.add (k * 2)).block, (a.add (k * 2)).off + 1, none⟩ = _ from hc1
                  have HF : Hid ((rs.take (k + 1)).flatMap relB = (rs.take k).flatMap relB ++ relB (rAt rs k, rSym rs k)) := flat_snoc relB rs (0, 0) k hlt
                  go_wp2_with fail
                  refine (four4_own (rAt rs k) _).mono ?_
                  rintro r wa12 ⟨u12, rfl, hou, hba⟩
                  have HLU : Hid ((be4 (rAt rs k)).length = 4) := by
                    show _ = _
                    rfl
                  obtain ⟨gu, cu, rfl, _, _⟩ := hou.form (by rw [HLU.out]; omega)
                  have hB := Buf.keep HB.out hba
                  have hcu := hou.cells rfl
                  have hrow := hB.row
                  have HB2 : Hid _ := hB
                  clear hB hba
                  have hll : (part5 nm code dA data ss ++ be4 (rs.length : Int) ++ (rs.take k).flatMap relB).length ≤ 300000 := by
                    obtain ⟨p1, p2, p3, p4, p5, p6⟩ := Hp.out
                    have hlen' := HLn.out
                    omega
                  rw [HLU.out]
                  go_wp2_with (at_builtin; refine wpList_append_own _ rfl (.tmp 115) (.tmp 122) 31 rfl (w.heap.size + 1) 5 i0 (.int .u8 0) 1 1 Tryz.underlying31 hi hz0 hz1 hz2 rfl (by decide) _ (part5 nm code dA data ss ++ be4 (rs.length : Int) ++ (rs.take k).flatMap relB).length (bNews (part5 nm code dA data ss ++ be4 (rs.length : Int) ++ (rs.take k).flatMap relB)) rfl hrow ⟨gu, 0, none⟩ (4) cu (bNews (be4 (rAt rs k))) rfl (by simp only [bNews_len, HLU.out, Nat.mul_one]) hcu (bNews_one _) (by unfold maxLen; omega) (by omega) (by have := HB2.out.lt; omega) ?_; intro v12 wb12 hown hgrow hnil; have HB : Hid (Buf w #[.string nm, .slice A1 code.length c1, .int .i64 dA, .slice A2 data.length c2, .slice A3 ss.length c3, .slice A4 rs.length c4] v12 (part5 nm code dA data ss ++ be4 (rs.length : Int) ++ (rs.take k).flatMap relB ++ be4 (rAt rs k)) wb12) := Buf.grown HB2.out hgrow hown (rfl); clear hown hgrow hnil hrow hcu hou HB2 hll HLU; obtain ⟨d0, d1, d2, d3, d4, d5⟩ := box6_cell HB.out.box; obtain ⟨a2, ea2, hc0, hc1⟩ := (hL.keep HB.out.below) k hlt; cases ea.symm.trans ea2; clear ea2; have hd1 : _ = some (Value.int .i64 (rSym rs k)) := show World.cell? _ ⟨(a.add (k * 2)).block, (a.add (k * 2)).off + 1, none⟩ = _ from hc1)
                  go_wp2_with fail
                  refine (four4_own (rSym rs k) _).mono ?_
                  rintro r wa13 ⟨u13, rfl, hou, hba⟩
                  have HLU : Hid ((be4 (rSym rs k)).length = 4) := by
                    show _ = _
                    rfl
                  obtain ⟨gu, cu, rfl, _, _⟩ := hou.form (by rw [HLU.out]; omega)
                  have hB := Buf.keep HB.out hba
                  have hcu := hou.cells rfl
                  have hrow := hB.row
                  have HB2 : Hid _ := hB
                  clear hB hba
                  have hll : (part5 nm code dA data ss ++ be4 (rs.length : Int) ++ (rs.take k).flatMap relB ++ be4 (rAt rs k)).length ≤ 300000 := by
                    obtain ⟨p1, p2, p3, p4, p5, p6⟩ := Hp.out
                    have hlen' := HLn.out
                    rw [List.length_append, be4_len]; omega
                  rw [HLU.out]
                  go_wp2_with (at_builtin; refine wpList_append_own _ rfl (.tmp 124) (.tmp 131) 31 rfl (w.heap.size + 1) 5 i0 (.int .u8 0) 1 1 Tryz.underlying31 hi hz0 hz1 hz2 rfl (by decide) _ (part5 nm code dA data ss ++ be4 (rs.length : Int) ++ (rs.take k).flatMap relB ++ be4 (rAt rs k)).length (bNews (part5 nm code dA data ss ++ be4 (rs.length : Int) ++ (rs.take k).flatMap relB ++ be4 (rAt rs k))) rfl hrow ⟨gu, 0, none⟩ (4) cu (bNews (be4 (rSym rs k))) rfl (by simp only [bNews_len, HLU.out, Nat.mul_one]) hcu (bNews_one _) (by unfold maxLen; omega) (by omega) (by have := HB2.out.lt; omega) ?_; intro v13 wb13 hown hgrow hnil; have HB : Hid (Buf w #[.string nm, .slice A1 code.length c1, .int .i64 dA, .slice A2 data.length c2, .slice A3 ss.length c3, .slice A4 rs.length c4] v13 (part5 nm code dA data ss ++ be4 (rs.length : Int) ++ (rs.take (k + 1)).flatMap relB) wb13) := Buf.grown HB2.out hgrow hown (by rw [HF.out]; unfold relB; simp only [List.append_assoc]); clear hown hgrow hnil hrow hcu hou HB2 hll HLU; obtain ⟨d0, d1, d2, d3, d4, d5⟩ := box6_cell HB.out.box)
                  subst ea
                  go_roundw
                  case rel => exact ⟨k + 1, by go_num, by omega, HB⟩
                  case measure => simp [intOf]; omega
                · have HB : Hid _ := Buf.to HB.out (part6 nm code dA data ss rs) (by rw [List.take_of_length_le (by omega), List.append_assoc]; rfl)
                  rw [part6_body] at HB
                  obtain ⟨Av, cv, rfl, hIv, _⟩ := own_ints HB.out.row
                  have hsum := sum_range (bodyB nm code dA data ss rs)
                  go_wp2_with fail
                  refine (refsum_any Av cv (bodyB nm code dA data ss rs) _ hIv (body_areB _ _ _ _ _ _) (by have := Hlen.out; omega)).mono ?_
                  rintro r wz ⟨rfl, rfl⟩
                  clear hIv
                  go_wp2_with fail
                  refine (Four_own (sumB (bodyB nm code dA data ss rs)) hsum.1 hsum.2 _).mono ?_
                  rintro r wa14 ⟨u14, rfl, hou, hba⟩
                  have HLU : Hid ((be4 (sumB (bodyB nm code dA data ss rs))).length = 4) := by
                    show _ = _
                    rfl
                  obtain ⟨gu, cu, rfl, _, _⟩ := hou.form (by rw [HLU.out]; omega)
                  have hB := Buf.keep HB.out hba
                  have hcu := hou.cells rfl
                  have hrow := hB.row
                  have HB2 : Hid _ := hB
                  clear hB hba
                  have hll : (bodyB nm code dA data ss rs).length ≤ 300000 := by
                    obtain ⟨p1, p2, p3, p4, p5, p6⟩ := Hp.out
                    have hlen' := HLn.out
                    exact Hlen.out
                  rw [HLU.out]
                  go_wp2_with (at_builtin; refine wpList_append_own _ rfl (.tmp 133) (.tmp 136) 31 rfl (w.heap.size + 1) 5 i0 (.int .u8 0) 1 1 Tryz.underlying31 hi hz0 hz1 hz2 rfl (by decide) _ (bodyB nm code dA data ss rs).length (bNews (bodyB nm code dA data ss rs)) rfl hrow ⟨gu, 0, none⟩ (4) cu (bNews (be4 (sumB (bodyB nm code dA data ss rs)))) rfl (by simp only [bNews_len, HLU.out, Nat.mul_one]) hcu (bNews_one _) (by unfold maxLen; omega) (by omega) (by have := HB2.out.lt; omega) ?_; intro v14 wb14 hown hgrow hnil; have HB : Hid (Buf w #[.string nm, .slice A1 code.length c1, .int .i64 dA, .slice A2 data.length c2, .slice A3 ss.length c3, .slice A4 rs.length c4] v14 (bytesB nm code dA data ss rs) wb14) := Buf.grown HB2.out hgrow hown (rfl); clear hown hgrow hnil hrow hcu hou HB2 hll HLU; obtain ⟨d0, d1, d2, d3, d4, d5⟩ := box6_cell HB.out.box)
                  go_ret
                  exact ⟨_, rfl, ownsRow_mono HB.out.row (by omega), HB.out.below⟩

end Go.Proofs.YthfcimmfkibmjaaGreatDoor

namespace Go.Proofs.YthfcimmfkibmjaaGreatDoor
open Go.RowKit


/-- The bytes that are answered. -/
def wroteL (nm : ByteArray) (code : List Int) (dA : Int) (data : List Int) (ss : List Sym) (rs : List Rel) : List Int := if (checkC nm code dA data.length ss rs).1 = 0 then bytesB nm code dA data ss rs else []
theorem wroteL_len (nm : ByteArray) (code : List Int) (dA : Int) (data : List Int) (ss : List Sym) (rs : List Rel) : (wroteL nm code dA data ss rs).length ≤ 300000 := by
  unfold wroteL
  by_cases hk : (checkC nm code dA data.length ss rs).1 = 0
  · rw [if_pos hk]; exact may_len hk
  · rw [if_neg hk]; simp
/-- Bytes of their own, and an error. -/
def Wrote (l : List Int) (E : Int) (w : World) (r : Ending) (w' : World) : Prop :=
  ∃ A c, r = .returned (.tuple #[.slice A l.length c, .int .i64 E]) ∧ w'.ownsRow w.heap.size 5 1 (.slice A l.length c) l.length (bNews l) ∧ IntsAt w' A .u8 l ∧ Below w.heap.size w w'
theorem wrote_all {nm : ByteArray} {code : List Int} {dA : Int} {data : List Int} {ss : List Sym} {rs : List Rel} {w w' : World} {r : Ending} (h : WroteP nm code dA data ss rs w r w') : Wrote (wroteL nm code dA data ss rs) (checkC nm code dA data.length ss rs).1 w r w' := by
  unfold wroteL Wrote
  by_cases hk : (checkC nm code dA data.length ss rs).1 = 0
  · obtain ⟨A, c, h1, h2, h3, _, h5⟩ := wrote_ok h hk
    rw [if_pos hk, hk]
    exact ⟨A, c, h1, h2, h3, h5⟩
  · obtain ⟨h1, h2⟩ := wrote_no h hk
    rw [if_neg hk]
    exact ⟨none, 0, h1, World.ownsRow_nil _ _ _ _, fun i hi => by simp at hi, h2⟩
theorem Fr.below {qs : List (Value × Nat)} {w w1 w2 : World} {n : Nat} (h : Fr qs w1 w2) (hb : Below n w w1) (hn : n ≤ w1.heap.size) (hq : ∀ m, m < qs.length → ∀ b, (rv qs m).ownBlock = some b → n ≤ b) : Below n w w2 :=
  ⟨h.os.trans hb.os, h.tape.trans hb.tape, h.output.trans hb.output, Nat.le_trans hb.size h.size, fun b hlt => (h.block b (by omega) (fun m hm e => by have := hq m hm b e; omega)).trans (hb.block b hlt)⟩
/-- Two lists in a bag. -/
theorem sep_two {a b : Value} {la lb : Nat} (h : Off a.ownBlock b.ownBlock) : Sep [(a, la), (b, lb)] := fun m m' h1 h2 => by
  have hm : m = 0 ∧ m' = 1 := by simp at h2; omega
  obtain ⟨rfl, rfl⟩ := hm
  exact h
theorem two_all {P : Nat → Prop} (h0 : P 0) (h1 : P 1) (m : Nat) (hm : m < 2) : P m := by
  have hq : m = 0 ∨ m = 1 := by omega
  rcases hq with rfl | rfl
  · exact h0
  · exact h1
theorem rl_two {a b : Value} {la lb M : Nat} (ha : la ≤ M) (hb : lb ≤ M) (m : Nat) : rl [(a, la), (b, lb)] m ≤ M := by
  have hq : m = 0 ∨ m = 1 ∨ 2 ≤ m := by omega
  rcases hq with rfl | rfl | h
  · exact ha
  · exact hb
  · unfold rl
    rw [List.getD_eq_getElem?_getD, List.getElem?_eq_none (by simp; omega)]
    exact Nat.zero_le _
theorem bag_new (w : World) : BagIs (w.alloc (.cells #[.slice none 0 0, .slice none 0 0, .slice none 0 0, .slice none 0 0, .slice none 0 0, .slice none 0 0, .slice none 0 0, .slice none 0 0, .slice none 0 0, .slice none 0 0, .slice none 0 0, .slice none 0 0, .slice none 0 0, .slice none 0 0, .slice none 0 0, .slice none 0 0, .slice none 0 0] 56)) w.heap.size (fun _ => .slice none 0 0) := by
  refine ⟨_, heap_alloc_new _ _, fun k hk => ?_⟩
  have hq : k = 0 ∨ k = 1 ∨ k = 2 ∨ k = 3 ∨ k = 4 ∨ k = 5 ∨ k = 6 ∨ k = 7 ∨ k = 8 ∨ k = 9 ∨ k = 10 ∨ k = 11 ∨ k = 12 ∨ k = 13 ∨ k = 14 ∨ k = 15 ∨ k = 16 := by omega
  rcases hq with rfl | rfl | rfl | rfl | rfl | rfl | rfl | rfl | rfl | rfl | rfl | rfl | rfl | rfl | rfl | rfl | rfl <;> rfl

end Go.Proofs.YthfcimmfkibmjaaGreatDoor
