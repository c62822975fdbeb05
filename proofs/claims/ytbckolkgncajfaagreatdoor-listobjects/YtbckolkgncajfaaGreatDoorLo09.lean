/-
  strings.Builder inside of an output: copyCheck, WriteString, WriteByte, String, by what they answer. strings.Builder inside of an output: WriteByte, String, by what they answer.
-/
import Derived.Test.YtbckolkgncajfaaGreatDoorProg
import Derived.WalkKit
import Derived.WalkSpells
import Derived.WalkLawsBesides
import Derived.RowKit3
import Derived.Below
import Derived.Deep.QuietTactic
import Derived.BigQuiet
import Derived.WalkSmall
import Derived.Laws.Rows
import Derived.Test.YtbckolkgncajfaaGreatDoorLo08
namespace Go.Proofs.YtbckolkgncajfaaGreatDoor
open Go.RowKit

theorem info77 : ∃ j, Tryz.prog.info? 77 = some j ∧ j.size ≠ 0 := ⟨(Tryz.prog.info? 77).get (by kernel_rfl), by kernel_rfl, by decide +kernel⟩
theorem info5 : ∃ i, Tryz.prog.info? 5 = some i ∧ i.zero = some (.int .u8 0) ∧ i.size = 1 ∧ i.bytes = 1 :=
  ⟨(Tryz.prog.info? 5).get (by kernel_rfl), by kernel_rfl, by kernel_rfl, by kernel_rfl, by kernel_rfl⟩
set_option maxHeartbeats 1000000 in
set_option maxRecDepth 100000 in
theorem copy_used (g : Nat) (w : World) (h0 : w.cell? ⟨g, 0, none⟩ = some (.pointer (some ⟨g, 0, none⟩))) :
    Calls Tryz.prog 92 #[.pointer (some ⟨g, 0, none⟩)] w fun e w' => e = .returned (.tuple #[]) ∧ w' = w := by
  obtain ⟨j, hj, _⟩ := info77
  go_enter Tryz.func92, Tryz.ntmps92
  go_wp2
  rw [Lib.run_neq_ptr_same w _ Tryz.underlying74 hj]
  go_wp2
  go_end0
  exact ⟨rfl, rfl⟩
set_option maxHeartbeats 1000000 in
set_option maxRecDepth 100000 in
theorem copy_fresh (g : Nat) (w : World) (h0 : w.cell? ⟨g, 0, none⟩ = some (.pointer none)) (hsh : w.shape? g = some (79, 2)) (hfz : w.frozen? ⟨g, 0, none⟩ = false) :
    Calls Tryz.prog 92 #[.pointer (some ⟨g, 0, none⟩)] w fun e w' => e = .returned (.tuple #[]) ∧ w' = w.setCell ⟨g, 0, none⟩ (.pointer (some ⟨g, 0, none⟩)) := by
  obtain ⟨j, hj, hjs⟩ := info77
  go_enter Tryz.func92, Tryz.ntmps92
  go_wp2
  rw [Lib.run_to_unsafe w ⟨g, 0, none⟩ Tryz.underlying74 Tryz.underlying171 hj hjs hsh (Nat.zero_lt_succ 1)]
  simp only [Result.andThen]
  rw [Oper.upon_value]
  go_wp2
  rw [run_callFunc_extern Tryz.func119 (by kernel_rfl) (by kernel_rfl) (by kernel_rfl) (e := Extern.AbiNoEscape.same) (by kernel_rfl)]
  rw [Lib.run_noEscape]
  simp only [Result.andThen]
  rw [Oper.upon_value]
  go_wp2
  rw [Lib.run_from_unsafe w ⟨g, 0, none⟩ Tryz.underlying171 Tryz.underlying74 hj hsh (by kernel_rfl)]
  simp only [Result.andThen]
  rw [Oper.upon_value]
  go_wp2
  go_end0
  exact ⟨rfl, rfl⟩
theorem copy_any (g : Nat) (l : List UInt8) (w : World) (h : Bd w g l) :
    Calls Tryz.prog 92 #[.pointer (some ⟨g, 0, none⟩)] w fun e w' => e = .returned (.tuple #[]) ∧ ∃ v, Bu w' g v l ∧ To 5 g g w w' := by
  obtain ⟨p, v, hp, hv, ho⟩ := h
  rcases hp with rfl | rfl
  · refine (copy_fresh g w (by rw [Lib.cell_of_heap hv]; rfl) (by simp [World.shape?, hv]) (Lib.frozen_of_heap hv 0)).mono ?_
    rintro e w' ⟨rfl, rfl⟩
    exact ⟨rfl, v, Bd.used hv ho⟩
  · refine (copy_used g w (by rw [Lib.cell_of_heap hv]; rfl)).mono ?_
    rintro e w' ⟨rfl, rfl⟩
    exact ⟨rfl, v, ⟨hv, ho⟩, To.refl⟩
/-- What a writer does. -/
def Puts (g : Nat) (l e : List UInt8) (w w' : World) : Prop := Bd w' g (l ++ e) ∧ To 5 g g w w'
theorem Puts.trans {g : Nat} {l e f : List UInt8} {w w1 w2 : World} (h : Puts g l e w w1) (k : Puts g (l ++ e) f w1 w2) : Puts g l (e ++ f) w w2 :=
  ⟨by have := k.1; rwa [List.append_assoc] at this, h.2.trans k.2⟩
theorem Puts.none {g : Nat} {l : List UInt8} {w : World} (h : Bd w g l) : Puts g l [] w w := ⟨by rw [List.append_nil]; exact h, To.refl⟩
theorem slice_form {w : World} {b t n : Nat} {v : Value} {xs : List Value} (h : w.ownsRow b t 1 v n xs) : ∃ A n c, v = .slice A n c := by
  rcases h.2 with ⟨rfl, _⟩ | ⟨g, cap, cur, rfl, _⟩
  · exact ⟨_, _, _, rfl⟩
  · exact ⟨_, _, _, rfl⟩
set_option maxHeartbeats 1000000 in
set_option maxRecDepth 100000 in
theorem wstr_any (g : Nat) (l : List UInt8) (s : ByteArray) (w : World) (h : Bd w g l) (hlen : l.length + s.size ≤ 140737488355328) :
    Calls Tryz.prog 64 #[.pointer (some ⟨g, 0, none⟩), .string s] w fun e w' => e = .returned (.tuple #[.int .i64 s.size, .nilIface]) ∧ Puts g l s.data.toList w w' := by
  obtain ⟨i0, hi, hz0, hz1, hz2⟩ := info5
  have hg := h.lt
  have C := copy_any g l w h
  clear h
  go_enter Tryz.func64, Tryz.ntmps64
  go_wp2_with fail
  refine C.mono ?_
  rintro e w1 ⟨rfl, v, hu, ht⟩
  have hown := hu.2
  have c0 : w1.cell? ⟨g, 0, none⟩ = some (.pointer (some ⟨g, 0, none⟩)) := by rw [Lib.cell_of_heap hu.1]; rfl
  have c1 : w1.cell? ⟨g, 1, none⟩ = some v := by rw [Lib.cell_of_heap hu.1]; rfl
  have HU : Hid (Bu w1 g v l) := hu
  have HT : Hid (To 5 g g w w1) := ht
  have hg1 := hu.lt
  clear hu ht C
  go_wp2_with (at_builtin; refine Lib.wpList_append_own_string _ rfl _ _ 75 9 rfl (g + 1) 5 i0 Tryz.underlying75 Tryz.underlying9 hi hz0 hz1 hz2 _ _ _ rfl hown s rfl (by unfold maxLen; omega) (by omega) (by omega) ?_; intro v' w2 hown' hgrow _; obtain ⟨d0, d1, f1⟩ := HU.out.cells hgrow; have HO : Hid _ := hown'; have HG : Hid _ := hgrow; obtain ⟨A', n', c', rfl⟩ := slice_form hown'; clear hown' hgrow)
  go_ret2
  obtain ⟨p1, p2⟩ := HU.out.put (l' := l ++ s.data.toList) HG.out (by rw [List.length_append, Lib.byteCells_append, ← Lib.strCells_eq]; exact HO.out)
  exact ⟨rfl, p1, HT.out.trans p2⟩

end Go.Proofs.YtbckolkgncajfaaGreatDoor

namespace Go.Proofs.YtbckolkgncajfaaGreatDoor
open Go.RowKit

set_option maxHeartbeats 1000000 in
set_option maxRecDepth 100000 in
theorem wbyte_any (g : Nat) (l : List UInt8) (c : UInt8) (w : World) (h : Bd w g l) (hlen : l.length + 1 ≤ 140737488355328) :
    Calls Tryz.prog 113 #[.pointer (some ⟨g, 0, none⟩), .int .u8 c.toNat] w fun e w' => e = .returned .nilIface ∧ Puts g l [c] w w' := by
  obtain ⟨i0, hi, hz0, hz1, hz2⟩ := info5
  have hg := h.lt
  have C := copy_any g l w h
  clear h
  go_enter Tryz.func113, Tryz.ntmps113
  go_wp2_with fail
  refine C.mono ?_
  rintro e w1 ⟨rfl, v, hu, ht⟩
  obtain ⟨A0, n0, k0, rfl⟩ := slice_form hu.2
  have hb1 : Below w1.heap.size w1 (w1.alloc (.cells #[.int .u8 c.toNat] 5)) := lb_alloc (Below.refl _ _) _
  have hu1 : Bu (w1.alloc (.cells #[.int .u8 c.toNat] 5)) g (.slice A0 n0 k0) l := ⟨by rw [hb1.block g hu.lt]; exact hu.1, own_keep hu.2 hb1⟩
  have hown := hu1.2
  have c0 : w1.cell? ⟨g, 0, none⟩ = some (.pointer (some ⟨g, 0, none⟩)) := by rw [Lib.cell_of_heap hu.1]; rfl
  have c1 : w1.cell? ⟨g, 1, none⟩ = some (.slice A0 n0 k0) := by rw [Lib.cell_of_heap hu.1]; rfl
  have HU : Hid (Bu (w1.alloc (.cells #[.int .u8 c.toNat] 5)) g (.slice A0 n0 k0) l) := hu1
  have HT : Hid (To 5 g g w (w1.alloc (.cells #[.int .u8 c.toNat] 5))) := ht.trans (To.of hb1)
  have hg1 := hu.lt
  clear hu ht C hb1 hu1
  go_wp2_with (at_builtin; (refine wpList_append_own _ rfl _ _ 75 rfl (g + 1) 5 i0 (.int .u8 0) 1 1 Tryz.underlying75 hi hz0 hz1 hz2 rfl (by decide) _ _ _ rfl hown ⟨w1.heap.size, 0, none⟩ 1 1 [.int .u8 c.toNat] rfl rfl (fun j u hu => World.news_of_block (heap_alloc_new _ _) j u hu) (fun u hu => by cases hu with | head => rfl | tail _ h => cases h) (by unfold maxLen; omega) (by omega) (by simp; omega) ?_); intro v' w2 hown' hgrow _; obtain ⟨d0, d1, f1⟩ := HU.out.cells hgrow; have HO : Hid _ := hown'; have HG : Hid _ := hgrow; obtain ⟨A', n', c', rfl⟩ := slice_form hown'; clear hown' hgrow)
  go_ret
  obtain ⟨p1, p2⟩ := HU.out.put (l' := l ++ [c]) HG.out (by rw [List.length_append, Lib.byteCells_append]; exact HO.out)
  exact ⟨rfl, p1, HT.out.trans p2⟩
theorem Bd.cell1 {w : World} {g : Nat} {p v : Value} (hv : w.heap[g]? = some (.cells #[p, v] 79 (0, 0))) : w.drew.cell? ⟨g, 1, none⟩ = some v := by
  have : w.drew.heap[g]? = some (.cells #[p, v] 79 (0, 0)) := hv
  rw [Lib.cell_of_heap this]; rfl
theorem ustr_none (W : World) (q : Option Addr) : (Builtin.unsafeString_ #[110, 3] 9 #[.pointer q, .int .i64 0]).run Tryz.prog W = .ok (.string .empty) W := Lib.run_unsafeString_none W _ _ _ q
set_option maxHeartbeats 1000000 in
set_option maxRecDepth 100000 in
theorem str_some (g : Nat) (l : List UInt8) (w : World) (h : Bd w g l) (h0 : l ≠ []) :
    Calls Tryz.prog 28 #[.pointer (some ⟨g, 0, none⟩)] w fun e w' => e = .returned (.string (bs l)) ∧ To 5 g g w w' := by
  obtain ⟨p, v, _, hbk, hown⟩ := h
  have hl0 : l.length ≠ 0 := by simpa using h0
  rcases hown.2 with ⟨_, hz⟩ | ⟨k, cap, cur, rfl, hbg, hg, hnc, hcm, hcs, htake⟩
  · exact absurd hz hl0
  have c1 := Bd.cell1 hbk
  have hSD : (Builtin.unsafeSliceData_ #[75] 110 #[.slice (some ⟨k, 0, none⟩) l.length cap]).run Tryz.prog w.drew = .ok (.pointer (some ⟨k, 0, none⟩)) w.drew := Lib.run_unsafeSliceData_row _ _ _ _ _ _ (by omega)
  have hUS : (Builtin.unsafeString_ #[110, 3] 9 #[.pointer (some ⟨k, 0, none⟩), .int .i64 l.length]).run Tryz.prog w.drew = .ok (.string ⟨l.toArray⟩) (w.drew.freeze ⟨k, 0, none⟩ l.length) := by
    refine Lib.run_unsafeString_row w.drew 110 3 9 5 Tryz.underlying110 (by kernel_rfl) k cur.size (by have hg' : w.drew.heap[k]? = some (.cells cur 5 (0, 0)) := hg; simp [World.shape?, hg']) l h0 (by omega) (by unfold maxLen at hcm; omega) ?_
    intro j x hx
    exact hown.cells (g := k) rfl j (.int .u8 x.toNat) (by simp [Lib.byteCells, hx])
  have HT : Hid (To 5 g g w (w.drew.freeze ⟨k, 0, none⟩ l.length)) := by
    have hb := Lib.below_freeze (Below.drew (Below.refl (g + 1) w)) (p := ⟨k, 0, none⟩) hbg l.length
    refine ⟨hb.os, hb.tape, hb.output, hb.size, fun i hi hne hr => ?_⟩
    by_cases hik : i = k
    · subst hik
      rcases hr with hr | hr
      · omega
      · exact absurd hg (hr _ _)
    · simp only [World.freeze, if_neg hl0]
      rw [Array.getElem?_modify, if_neg (by omega)]
      rfl
  clear hown hcm hcs htake h0 hbk hg
  go_enter Tryz.func28, Tryz.ntmps28
  go_wp2
  go_region
  all_goals (go_wp2; go_ret; exact ⟨rfl, HT.out⟩)

set_option maxHeartbeats 1000000 in
set_option maxRecDepth 100000 in
theorem str_nil (g : Nat) (p : Value) (w : World) (hbk : w.heap[g]? = some (.cells #[p, .slice none 0 0] 79 (0, 0))) :
    Calls Tryz.prog 28 #[.pointer (some ⟨g, 0, none⟩)] w fun e w' => e = .returned (.string (bs [])) ∧ To 5 g g w w' := by
  have hUS := ustr_none
  have c1 := Bd.cell1 hbk
  have hSD : (Builtin.unsafeSliceData_ #[75] 110 #[.slice none 0 0]).run Tryz.prog w.drew = .ok (.pointer none) w.drew := rfl
  have HT : Hid (To 5 g g w w.drew) := To.of (Below.drew (Below.refl _ w))
  go_enter Tryz.func28, Tryz.ntmps28
  go_wp2
  go_region
  all_goals (go_wp2; go_ret; exact ⟨rfl, HT.out⟩)
set_option maxHeartbeats 1000000 in
set_option maxRecDepth 100000 in
theorem str_room (g k cap : Nat) (p : Value) (w : World) (hc0 : cap ≠ 0) (hbk : w.heap[g]? = some (.cells #[p, .slice (some ⟨k, 0, none⟩) 0 cap] 79 (0, 0))) :
    Calls Tryz.prog 28 #[.pointer (some ⟨g, 0, none⟩)] w fun e w' => e = .returned (.string (bs [])) ∧ To 5 g g w w' := by
  have hUS := ustr_none
  have c1 := Bd.cell1 hbk
  have hSD : (Builtin.unsafeSliceData_ #[75] 110 #[.slice (some ⟨k, 0, none⟩) 0 cap]).run Tryz.prog w.drew = .ok (.pointer (some ⟨k, 0, none⟩)) w.drew := Lib.run_unsafeSliceData_row _ _ _ _ _ _ hc0
  have HT : Hid (To 5 g g w w.drew) := To.of (Below.drew (Below.refl _ w))
  clear hc0
  go_enter Tryz.func28, Tryz.ntmps28
  go_wp2
  go_region
  all_goals (go_wp2; go_ret; exact ⟨rfl, HT.out⟩)
set_option maxHeartbeats 1000000 in
set_option maxRecDepth 100000 in
theorem str_bare (g k : Nat) (p : Value) (cur : Array Value) (w : World) (hbk : w.heap[g]? = some (.cells #[p, .slice (some ⟨k, 0, none⟩) 0 0] 79 (0, 0))) (hk : w.heap[k]? = some (.cells cur 5 (0, 0))) :
    Calls Tryz.prog 28 #[.pointer (some ⟨g, 0, none⟩)] w fun e w' => e = .returned (.string (bs [])) ∧ To 5 g g w w' := by
  have hUS := ustr_none
  have hlt := (Array.getElem?_eq_some_iff.1 hbk).1
  have c1 := Bd.cell1 hbk
  have hSD : (Builtin.unsafeSliceData_ #[75] 110 #[.slice (some ⟨k, 0, none⟩) 0 0]).run Tryz.prog w.drew = .ok (.pointer (some ⟨w.drew.heap.size, 0, none⟩)) (w.drew.alloc (.view ⟨k, 0, none⟩ 5)) :=
    Lib.run_unsafeSliceData_zero w.drew _ _ 5 Tryz.underlying110 ⟨k, 0, none⟩ 0 (5, cur.size) (by have hg' : w.drew.heap[k]? = some (.cells cur 5 (0, 0)) := hk; simp [World.shape?, hg'])
  have c2 : (w.drew.alloc (.view ⟨k, 0, none⟩ 5)).cell? ⟨g, 1, none⟩ = some (.slice (some ⟨k, 0, none⟩) 0 0) := by
    have : (w.drew.alloc (.view ⟨k, 0, none⟩ 5)).heap[g]? = _ := (Lib.alloc_old w.drew _ g hlt).trans hbk
    rw [Lib.cell_of_heap this]; rfl
  have c3 : (w.alloc (.view ⟨k, 0, none⟩ 5)).drew.cell? ⟨g, 1, none⟩ = some (.slice (some ⟨k, 0, none⟩) 0 0) := c2
  have c0 : w.cell? ⟨g, 1, none⟩ = some (.slice (some ⟨k, 0, none⟩) 0 0) := c1
  have HT : Hid (To 5 g g w (w.drew.alloc (.view ⟨k, 0, none⟩ 5))) := To.of ((Below.drew (Below.refl _ w)).alloc (Nat.le_refl _) _)
  go_enter Tryz.func28, Tryz.ntmps28
  go_wp2
  go_region
  all_goals (go_wp2; go_ret; exact ⟨rfl, HT.out⟩)
theorem str_any (g : Nat) (l : List UInt8) (w : World) (h : Bd w g l) :
    Calls Tryz.prog 28 #[.pointer (some ⟨g, 0, none⟩)] w fun e w' => e = .returned (.string (bs l)) ∧ To 5 g g w w' := by
  cases l with
  | cons x r => exact str_some g (x :: r) w h (by simp)
  | nil =>
    obtain ⟨p, v, _, hbk, hown⟩ := h
    rcases hown.2 with ⟨rfl, _⟩ | ⟨k, cap, cur, rfl, _, hk, _⟩
    · exact str_nil g p w hbk
    · by_cases hc0 : cap = 0
      · subst hc0
        exact str_bare g k p cur w hbk hk
      · exact str_room g k cap p w hc0 hbk

end Go.Proofs.YtbckolkgncajfaaGreatDoor
