/-
  Where the five listed variables lie as the program's text lays them: the table of powers of ten, the ops' names, the kinds' words; no other condition. data of package list: the line of an object's data.
-/
import Derived.Test.YtbckolkgncajfaaGreatDoorLo01
import Derived.Test.YtbckolkgncajfaaGreatDoorLo02
import Derived.Test.YtbckolkgncajfaaGreatDoorLo05
import Derived.Test.YtbckolkgncajfaaGreatDoorLo07
import Derived.Test.YtbckolkgncajfaaGreatDoorLo22
import Derived.Stop.LaidErr
import Derived.LaidSub
import Derived.LaidMore
import Derived.LaidHandle
import Derived.MakeChecks
import Derived.Test.YtbckolkgncajfaaGreatDoorProg
import Derived.WalkKit
import Derived.WalkSpells
import Derived.WalkLawsBesides
import Derived.RowKit3
import Derived.Below
import Derived.Deep.QuietTactic
import Derived.BigQuiet
import Derived.WalkSmall
import Derived.Laws.Rows
namespace Go.Proofs.YtbckolkgncajfaaGreatDoor
open Go.ChangeShapes Go.WideShapes Go.ChangeAt Go.RowKit Go.Joins

/-- What is listed. -/
abbrev laid5 : List (String × DataW Unit) := Rows.listWordsRow.laid
/-- A row of texts, as a listed variable has it. -/
def strData {H : Type} (zs : List (List UInt8)) : DataW H := .agg (zs.map fun z => .lit (.string z))

theorem cells_of_strs {H : Type} {enc : TypeId × Value → H} {P : Program} {w : World} {base : Nat} {sp : Nat → Bool} {held : Bool} {fuel : Nat} {t e : TypeId} {n : Nat} {cs : List Value} {zs : List (List UInt8)} {p : List MemPlace}
    (ht : P.underlying t = some (.array n e)) (he : P.underlying e = some .string) (hce : P.cellsOf e = 1)
    (h : DataW.trod enc P w base sp held fuel t cs = some (strData zs, p)) (hct : P.cellsOf t = n) : cs = zs.map fun z => Value.string ⟨z.toArray⟩ := by
  obtain ⟨xs, m, _, hx, hl, hxl, hf⟩ := DataW.trod_array ht h
  have hd : xs.map (·.1) = zs.map fun z => (DataW.lit (.string z) : DataW H) := by
    have := congrArg Prod.fst hx
    simp only [strData, DataW.agg.injEq] at this
    exact this.symm
  have hzl : zs.length = n := by
    have := congrArg List.length hd
    simp at this; omega
  apply List.ext_getElem?
  intro i
  by_cases hi : i < n
  · have hi2 : i < xs.length := by omega
    have hfi := hf i hi
    rw [hce, Nat.mul_one, List.getElem?_eq_getElem hi2] at hfi
    obtain ⟨s, hc, hs, _⟩ := DataW.trod_string he hfi
    have h1 : cs[i]? = some (.string s) := by
      have := congrArg (·[0]?) hc
      simpa [List.getElem?_take, List.getElem?_drop] using this
    have h2 : (xs.map (·.1))[i]? = some (DataW.lit (.string s.data.toList) : DataW H) := by simp [List.getElem?_eq_getElem hi2, hs]
    rw [hd] at h2
    simp only [List.getElem?_map, Option.map_eq_some_iff, DataW.lit.injEq, Lit.string.injEq] at h2
    obtain ⟨z, hz, rfl⟩ := h2
    simp [h1, hz]
  · rw [List.getElem?_eq_none (by omega), List.getElem?_eq_none (by simp; omega)]

theorem pow_same : (Rows.laid_internal_strconv_uint64pow10 : DataW Unit) = Lib.tabData .u64 Lib.pow10Tab := by kernel_rfl
theorem nm_same : (Rows.laid_pleat_isa_names : DataW Unit) = strData (ops.map fun k => (nameB k).data.toList) := by kernel_rfl
def kds : List Int := [0, 1, 2, 3]
theorem kd_same : (Rows.laid_pleat_list_kinds : DataW Unit) = strData (kds.map fun k => (kindB k).data.toList) := by kernel_rfl

theorem tab_of_laid {W : World} (h : laidMetH Tryz.prog laid5 W) : Tab W := by
  rw [MakeChecks.laidMetH_plain _ _ _ (by kernel_rfl)] at h
  have h2 := h.tail.tail
  rw [pow_same] at h2
  exact Lib.tabIs_of_head gTab (t := 188) (by kernel_rfl) Tryz.underlying188 Tryz.underlying178 (by kernel_rfl) (by kernel_rfl) h2
theorem nm_of_laid {W : World} (h : laidMetH Tryz.prog laid5 W) : Nm W := by
  rw [MakeChecks.laidMetH_plain _ _ _ (by kernel_rfl)] at h
  have h2 := h.tail.tail.tail
  rw [nm_same] at h2
  obtain ⟨ps, ⟨g', t', cs, fuel, p, q, hg', ht', hvar, hd, _, _⟩, _⟩ := h2
  obtain rfl := Option.some.inj (gNm.symm.trans hg')
  obtain rfl : 153 = t' := Option.some.inj ((show (Tryz.prog.globals[0]?).map (·.type) = some 153 by kernel_rfl).symm.trans ht')
  have hc := cells_of_strs Tryz.underlying153 Tryz.underlying9 (by kernel_rfl) hd (by kernel_rfl)
  unfold Nm
  rw [hvar, ← Array.toArray_toList (xs := cs), hc]
  simp only [List.map_map]
  rfl
theorem gKd : Tryz.prog.globalNamed "pleat/list.kinds" = some 1 := by kernel_rfl
theorem kd_of_laid {W : World} (h : laidMetH Tryz.prog laid5 W) : Kd W := by
  rw [MakeChecks.laidMetH_plain _ _ _ (by kernel_rfl)] at h
  have h2 := h.tail.tail.tail.tail
  rw [kd_same] at h2
  obtain ⟨ps, ⟨g', t', cs, fuel, p, q, hg', ht', hvar, hd, _, _⟩, _⟩ := h2
  obtain rfl := Option.some.inj (gKd.symm.trans hg')
  obtain rfl : 167 = t' := Option.some.inj ((show (Tryz.prog.globals[1]?).map (·.type) = some 167 by kernel_rfl).symm.trans ht')
  have hc := cells_of_strs Tryz.underlying167 Tryz.underlying9 (by kernel_rfl) hd (by kernel_rfl)
  intro k hk
  have h1 := World.var?_cell gKd hvar k
  rw [h1, ← Array.toArray_toList (xs := cs), hc]
  have h3 : kds[k]? = some (k : Int) := by
    have : ∀ i : Fin 4, kds[i.val]? = some (i.val : Int) := by decide
    exact this ⟨k, hk⟩
  simp [h3]
/-- The heap that the door's own run leaves meets the condition. -/
theorem door5_met (os : Os) (args : Array Value) : laidMetH Tryz.prog laid5 ((World.doorLaid Tryz.prog 34 os).forCall (fun _ _ => 0) ⟨#[], args, []⟩).memory :=
  laidMetH_of_parts3 (fuel := 8) (laidMet_of_run' 8 (by kernel_rfl) (by kernel_rfl)) (by kernel_rfl) (by kernel_rfl)
set_option maxRecDepth 100000 in
theorem open_ws {H : Type} {enc : TypeId × Value → H} {W : World} {b0 base : Nat} {sp : Nat → Bool} {held : Bool} {v : Value} {d : DataW H} {p : List MemPlace} (hv : Value.okWide Tryz.prog W .any b0 22 v) (h : DataW.Trod enc Tryz.prog W base sp held 22 v d p) :
    ∃ (O : Option Addr) (cap : Nat) (zs : List Int), v = .slice O zs.length cap ∧ IntsAt W O .u32 zs ∧ zs.length ≤ maxLen ∧ (∀ i, i < zs.length → 0 ≤ nth zs i ∧ nth zs i < 4294967296) := by
  obtain ⟨a, len, c, rfl⟩ := okWide_slice Tryz.underlying22 hv
  obtain ⟨fuel, hf⟩ := h
  obtain ⟨O, cap, zs, e, k, hl, hwf, u⟩ := open_i Tryz.underlying22 Tryz.underlying31 (by kernel_rfl) hf
  refine ⟨O, cap, zs, ?_, k, hl, fun i hi => ?_⟩
  · simpa [Value.cells] using e
  · have := hwf i hi
    simp [Lit.wf, IntKind.min, IntKind.max, IntKind.signed, IntKind.bits] at this
    omega
end Go.Proofs.YtbckolkgncajfaaGreatDoor

namespace Go.Proofs.YtbckolkgncajfaaGreatDoor
open Go.RowKit

theorem dataL_step {dA : Int} {data : List Int} {k : Nat} (h : k < data.length) : dataL dA (data.take (k + 1)) = dataL dA (data.take k) ++ [numB (nth data k)] := by
  unfold dataL nth
  rw [List.take_succ_eq_append_getElem h, List.map_append]
  simp [h]
theorem dataL_len (dA : Int) (data : List Int) : (dataL dA data).length = data.length + 2 := by simp [dataL]
theorem box6_cell {w : World} {B : Nat} {x y z u v t : Value} {T : TypeId} (h : w.heap[B]? = some (.cells #[x, y, z, u, v, t] T (0, 0))) : w.cell? ⟨B, 0, none⟩ = some x ∧ w.cell? ⟨B, 1, none⟩ = some y ∧ w.cell? ⟨B, 2, none⟩ = some z ∧ w.cell? ⟨B, 3, none⟩ = some u ∧ w.cell? ⟨B, 4, none⟩ = some v ∧ w.cell? ⟨B, 5, none⟩ = some t := by
  refine ⟨?_, ?_, ?_, ?_, ?_, ?_⟩ <;> simp [World.cell?, h]
set_option maxHeartbeats 2000000 in
set_option maxRecDepth 100000 in
theorem data_any (g : Nat) (l : List UInt8) (nm : ByteArray) (dA : Int) (A1 A2 A3 A4 : Option Addr) (n1 c1 c2 n3 c3 n4 c4 : Nat) (data : List Int) (w : World) (h : Bd w g l) (hD : IntsAt w A2 .i64 data) (hA : In64 dA) (hR : ∀ i, i < data.length → In64 (nth data i)) (hn : data.length ≤ 4096) (hlen : l.length + (lineB (dataL dA data)).length ≤ 140737488355328) (ht : Tab w) :
    Calls Tryz.prog 82 #[.pointer (some ⟨g, 0, none⟩), .agg #[.string nm, .slice A1 n1 c1, .int .i64 dA, .slice A2 data.length c2, .slice A3 n3 c3, .slice A4 n4 c4]] w fun e w' => e = .returned (.tuple #[]) ∧ Puts g l (lineB (dataL dA data)) w w' := by
  obtain ⟨i0, hi, hz0, hz1, hz2⟩ := info9
  have HD : Hid (Bd w g l) := h
  have HI : Hid (IntsAt w A2 .i64 data) := hD
  have HA : Hid (In64 dA) := hA
  have HR : Hid (∀ i, i < data.length → In64 (nth data i)) := hR
  have HT : Hid (Tab w) := ht
  have HL : Hid (l.length + (lineB (dataL dA data)).length ≤ 140737488355328) := hlen
  obtain ⟨W, hW⟩ : ∃ W, W = w.alloc (.cells #[.string nm, .slice A1 n1 c1, .int .i64 dA, .slice A2 data.length c2, .slice A3 n3 c3, .slice A4 n4 c4] 65) := ⟨_, rfl⟩
  have HB0 : Hid (Below w.heap.size w W) := by unfold Hid; rw [hW]; exact lb_alloc (Below.refl _ _) _
  have HX0 : Hid (W.heap[w.heap.size]? = some (.cells #[.string nm, .slice A1 n1 c1, .int .i64 dA, .slice A2 data.length c2, .slice A3 n3 c3, .slice A4 n4 c4] 65 (0, 0))) := by unfold Hid; rw [hW]; exact heap_alloc_new _ _
  have HZ0 : Hid (w.heap.size < W.heap.size) := by unfold Hid; rw [hW]; simp
  have HW : Hid _ := hW
  have CN := fun wx (hb : Below w.heap.size w wx) => lnum_any dA HA.out wx (HT.out.below hb)
  clear h hD hA hR ht hlen hW
  obtain ⟨d0, d1, d2, d3, d4, d5⟩ := box6_cell HX0.out
  go_enter Tryz.func82, Tryz.ntmps82
  go_upto_region 1 with fail
  rw [← HW.out]
  go_wp2_with fail
  refine (CN _ HB0.out).mono ?_
  rintro e w1 ⟨rfl, hb1⟩
  have HB1 : Hid (Below w.heap.size w (w1.alloc (.cells #[.string datB, .string (numB dA)] 9))) := lb_alloc (lb_trans HB0.out hb1) _
  have HX1 : Hid ((w1.alloc (.cells #[.string datB, .string (numB dA)] 9)).heap[w.heap.size]? = some (.cells #[.string nm, .slice A1 n1 c1, .int .i64 dA, .slice A2 data.length c2, .slice A3 n3 c3, .slice A4 n4 c4] 65 (0, 0))) := ((lb_alloc hb1 _).block w.heap.size HZ0.out).trans HX0.out
  have HO1 : Hid ((w1.alloc (.cells #[.string datB, .string (numB dA)] 9)).ownsRow w.heap.size 9 1 (.slice (some ⟨w1.heap.size, 0, none⟩) 2 2) 2 ((dataL dA (data.take 0)).map Value.string)) := own_base (new_strs w1 [datB, numB dA] (by simp)) (lb_trans HB0.out hb1).size
  clear d0 d1 d2 d3 d4 d5 hb1 CN HX0 HB0 HZ0 HW
  obtain ⟨d0, d1, d2, d3, d4, d5⟩ := box6_cell HX1.out
  have hdat : (⟨#[100, 97, 116, 97]⟩ : ByteArray) = datB := rfl
  rw [← hdat] at d0 d1 d2 d3 d4 d5
  clear hdat
  go_wp2
  go_loopw [14, 4] (fun i v wr => ∃ k : Nat, i = .int .i64 k ∧ k ≤ data.length ∧ Hid (Below w.heap.size w wr) ∧ Hid (wr.ownsRow w.heap.size 9 1 v (k + 2) ((dataL dA (data.take k)).map Value.string))) (fun i _ _ => data.length - (intOf i).toNat)
  case atStart => exact ⟨0, rfl, Nat.zero_le _, HB1, HO1⟩
  case round =>
    clear HB1 HO1 HX1 d0 d1 d2 d3 d4 d5
    obtain ⟨k, rfl, hk, HB, HO⟩ := hrel
    obtain ⟨A0, k0, rfl, -⟩ := own_any HO.out
    by_cases hlt : k < data.length
    · obtain ⟨a, rfl, x1⟩ := HI.out k hlt
      have x2 := lkeep HB.out x1
      have CM := lnum_any (nth data k) (HR.out k hlt) wr (HT.out.below HB.out)
      have HE : Hid _ := dataL_step (dA := dA) hlt
      clear x1
      go_wp2_with fail
      refine CM.mono ?_
      rintro e w2 ⟨rfl, hb2⟩
      have HB2 : Hid (Below w.heap.size w (w2.alloc (.cells #[.string (numB (nth data k))] 9))) := lb_alloc (lb_trans HB.out hb2) _
      have hO := own_keep HO.out (lb_alloc hb2 (.cells #[.string (numB (nth data k))] 9))
      have hsz : w.heap.size ≤ w2.heap.size := (lb_trans HB.out hb2).size
      clear hb2 CM x2
      go_wp2_with (at_builtin; refine wpList_append_own _ rfl (.tmp 18) (.tmp 21) 25 rfl w.heap.size 9 i0 (.string ⟨#[]⟩) 1 16 Tryz.underlying25 hi hz0 hz1 hz2 rfl (by decide) (.slice A0 (k + 2) k0) (k + 2) ((dataL dA (data.take k)).map Value.string) rfl hO ⟨w2.heap.size, 0, none⟩ 1 1 [.string (numB (nth data k))] rfl rfl (fun j u hu => World.news_of_block (heap_alloc_new _ _) j u hu) (fun u hu => by cases hu with | head => rfl | tail _ h => cases h) (by unfold maxLen; omega) (by omega) (by simp; omega) ?_; intro v' w3 hown' hgrow _; have HO2 : Hid (w3.ownsRow w.heap.size 9 1 v' (k + 1 + 2) ((dataL dA (data.take (k + 1))).map Value.string)) := (by unfold Hid; rw [HE.out, List.map_append]; exact hown'); have HB3 : Hid (Below w.heap.size w w3) := HB2.out.grown hgrow HB2.out.size (fun j hj => (hO.lt j hj).1); clear hown' hgrow)
      go_roundw
      case rel => exact ⟨k + 1, by go_num, by omega, HB3, HO2⟩
      case measure => simp [intOf]; omega
    · obtain rfl : k = data.length := by omega
      have hO := HO.out
      rw [List.take_length] at hO
      have e2 := dataL_len dA data
      have CL := line_any g l A0 k0 (dataL dA data) wr (HD.out.keep HB.out) (by rw [e2]; unfold Strs; rw [e2]; exact own_zero hO) HL.out (by omega)
      rw [e2] at CL
      have HT2 : Hid (To 5 g g w wr) := To.of HB.out
      clear hO HO
      go_wp2_with fail
      refine CL.mono ?_
      rintro e w3 ⟨rfl, hq⟩
      have HQ : Hid (Puts g l (lineB (dataL dA data)) w w3) := ⟨hq.1, HT2.out.trans hq.2⟩
      clear hq CL
      go_wp2
      go_end0
      exact ⟨rfl, HQ.out⟩

end Go.Proofs.YtbckolkgncajfaaGreatDoor
