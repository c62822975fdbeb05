/-
  A list of numbers copied into memory of its own, with marks behind it, by the document's helpers; it is at most 2^20 long. Ins and Code of package list: the line of a word, and of each.
-/
import Derived.Test.YtbckolkgncajfaaGreatDoorProg
import Derived.WalkKit
import Derived.WalkSpells
import Derived.WalkLawsBesides
import Derived.RowKit3
import Derived.Below
import Derived.Deep.QuietTactic
import Derived.BigQuiet
import Derived.WalkSmall
import Derived.Test.YtbckolkgncajfaaGreatDoorLo01
import Derived.Laws.MakeOwn
import Derived.Laws.Rows
import Derived.Test.YtbckolkgncajfaaGreatDoorLo17
import Derived.Test.YtbckolkgncajfaaGreatDoorLo18
namespace Go.Proofs.YtbckolkgncajfaaGreatDoor
open Go.RowKit

theorem num_any (n i : Int) (h0 : 0 ≤ n) (h1 : n ≤ 9) (h2 : 0 ≤ i) (h3 : i ≤ 2097152) (w : World) : Calls Tryz.prog 24 #[.int .i64 n, .int .i64 i] w fun e w' => e = .returned (.int .i64 (1048576 * n + i + 1)) ∧ w' = w := by
  go_enter Tryz.func24, Tryz.ntmps24
  go_wp2
  go_ret
  exact ⟨rfl, rfl⟩
theorem made_wcur (f : Nat → Value) (z : Value) (N : Nat) : madeCells #[z] N = wcur f (fun _ => z) N 0 := by
  apply Array.ext_getElem?
  intro i
  by_cases hi : i < N
  · rw [wcur_get _ _ _ _ _ hi]; simp [madeCells, hi, Nat.mod_one]
  · rw [Array.getElem?_eq_none (by simp [madeCells]; omega), Array.getElem?_eq_none (by simp [wcur_size]; omega)]
theorem info45 : ∃ i, Tryz.prog.info? 31 = some i ∧ i.zero = some (.int .u32 0) ∧ i.size = 1 ∧ i.bytes = 4 :=
  ⟨(Tryz.prog.info? 31).get (by kernel_rfl), by kernel_rfl, by kernel_rfl, by kernel_rfl, by kernel_rfl⟩
theorem make22 (f : Nat → Value) (n : Nat) (hn : n ≤ 1048576) (w : World) : (Instr.makeSlice 22 (.int .i64 ((n : Int) + 64)) (.int .i64 ((n : Int) + 64))).run Tryz.prog w = .ok (.slice (some ⟨w.heap.size, 0, none⟩) (n + 64) (n + 64)) (w.alloc (.cells (wcur f (fun _ => .int .u32 0) (n + 64) 0) 31)) := by
  obtain ⟨i, hi, hz, hs, hb⟩ := info45
  have h := run_makeSlice (P := Tryz.prog) w 22 31 i _ Tryz.underlying22 hi hz .i64 .i64 ((n : Int) + 64) ((n : Int) + 64) (by omega) (by omega) (by rw [hs]; omega) (by rw [hb]; omega) (by omega)
  rw [hs, Nat.mul_one, show ((n : Int) + 64).toNat = n + 64 by omega] at h
  rw [h, ← made_wcur f (.int .u32 0) (n + 64)]
  rfl
set_option maxRecDepth 100000 in
set_option maxHeartbeats 1000000 in
theorem widewords_any (O : Option Addr) (ca : Nat) (zs : List Int) (w : World) (hA : IntsAt w O .u32 zs) (hz : zs.length ≤ 1048576) :
    Calls Tryz.prog 6 #[.slice O zs.length ca] w fun e w' => e = .returned (.slice (some ⟨w.heap.size, 0, none⟩) zs.length (zs.length + 64)) ∧ w' = w.alloc (.cells (wcur (wInt .u32 zs) (fun _ => .int .u32 0) (zs.length + 64) (zs.length + 64)) 31) := by
  have hm := make22 (wInt .u32 zs) zs.length hz
  go_enter Tryz.func6, Tryz.ntmps6
  go_wp2
  go_loopw [4] (fun i wr => ∃ k : Nat, i = .int .i64 k ∧ k ≤ zs.length + 64 ∧ wr = w.alloc (.cells (wcur (wInt .u32 zs) (fun _ => .int .u32 0) (zs.length + 64) k) 31)) (fun i _ => zs.length + 64 - (intOf i).toNat)
  case atStart => exact ⟨0, rfl, by omega, rfl⟩
  case round =>
    obtain ⟨k, rfl, hk, rfl⟩ := hrel
    clear hm
    have hsz := wcur_size (wInt .u32 zs) (fun _ => .int .u32 0) (zs.length + 64) k
    by_cases hlt : k < zs.length + 64
    · have hg : (wcur (wInt .u32 zs) (fun _ => .int .u32 0) (zs.length + 64) k)[k]? = some (.int .u32 0) := by rw [wcur_get _ _ _ _ _ hlt]; simp
      have hs := wcur_set (wInt .u32 zs) (fun _ => .int .u32 0) (zs.length + 64) k hlt
      by_cases h2 : k < zs.length
      · obtain ⟨a, rfl, c1⟩ := hA k h2
        rw [show wInt .u32 zs k = .int .u32 (nth zs k) by simp [wInt, h2]] at hs
        have HS : Hid _ := hs
        clear hs
        have c2 : (w.alloc (.cells (wcur (wInt .u32 zs) (fun _ => .int .u32 0) (zs.length + 64) k) 31)).cell? (a.add k) = some (.int .u32 (nth zs k)) := lkeep (lb_alloc (Below.refl _ _) _) c1
        clear c1
        go_wp2
        go_roundw
        case rel => exact ⟨k + 1, by go_num, by omega, by rw [← HS.out]⟩
        case measure => simp [intOf]; omega
      · rw [show wInt .u32 zs k = .int .u32 (9437184 + k + 1) by simp [wInt, h2, mark]] at hs
        have HS : Hid _ := hs
        clear hs
        go_wp2_with fail
        refine (num_any 9 k (by omega) (by omega) (by omega) (by omega) _).mono ?_
        rintro e w1 ⟨rfl, rfl⟩
        go_wp2
        go_roundw
        case rel => exact ⟨k + 1, by go_num, by omega, by rw [← HS.out]⟩
        case measure => simp [intOf]; omega
    · obtain rfl : k = zs.length + 64 := by omega
      clear hlt hk
      go_wp2
      go_ret
      exact ⟨rfl, rfl⟩

theorem info2 : ∃ i, Tryz.prog.info? 2 = some i ∧ i.zero = some (.int .i64 0) ∧ i.size = 1 ∧ i.bytes = 8 :=
  ⟨(Tryz.prog.info? 2).get (by kernel_rfl), by kernel_rfl, by kernel_rfl, by kernel_rfl, by kernel_rfl⟩
theorem make23 (f : Nat → Value) (n : Nat) (hn : n ≤ 1048576) (w : World) : (Instr.makeSlice 61 (.int .i64 ((n : Int) + 64)) (.int .i64 ((n : Int) + 64))).run Tryz.prog w = .ok (.slice (some ⟨w.heap.size, 0, none⟩) (n + 64) (n + 64)) (w.alloc (.cells (wcur f (fun _ => .int .i64 0) (n + 64) 0) 2)) := by
  obtain ⟨i, hi, hz, hs, hb⟩ := info2
  have h := run_makeSlice (P := Tryz.prog) w 61 2 i _ Tryz.underlying61 hi hz .i64 .i64 ((n : Int) + 64) ((n : Int) + 64) (by omega) (by omega) (by rw [hs]; omega) (by rw [hb]; omega) (by omega)
  rw [hs, Nat.mul_one, show ((n : Int) + 64).toNat = n + 64 by omega] at h
  rw [h, ← made_wcur f (.int .i64 0) (n + 64)]
  rfl
set_option maxRecDepth 100000 in
set_option maxHeartbeats 1000000 in
theorem widelongs_any (O : Option Addr) (ca : Nat) (zs : List Int) (w : World) (hA : IntsAt w O .i64 zs) (hz : zs.length ≤ 1048576) :
    Calls Tryz.prog 71 #[.slice O zs.length ca] w fun e w' => e = .returned (.slice (some ⟨w.heap.size, 0, none⟩) zs.length (zs.length + 64)) ∧ w' = w.alloc (.cells (wcur (wInt .i64 zs) (fun _ => .int .i64 0) (zs.length + 64) (zs.length + 64)) 2) := by
  have hm := make23 (wInt .i64 zs) zs.length hz
  go_enter Tryz.func71, Tryz.ntmps71
  go_wp2
  go_loopw [4] (fun i wr => ∃ k : Nat, i = .int .i64 k ∧ k ≤ zs.length + 64 ∧ wr = w.alloc (.cells (wcur (wInt .i64 zs) (fun _ => .int .i64 0) (zs.length + 64) k) 2)) (fun i _ => zs.length + 64 - (intOf i).toNat)
  case atStart => exact ⟨0, rfl, by omega, rfl⟩
  case round =>
    obtain ⟨k, rfl, hk, rfl⟩ := hrel
    clear hm
    have hsz := wcur_size (wInt .i64 zs) (fun _ => .int .i64 0) (zs.length + 64) k
    by_cases hlt : k < zs.length + 64
    · have hg : (wcur (wInt .i64 zs) (fun _ => .int .i64 0) (zs.length + 64) k)[k]? = some (.int .i64 0) := by rw [wcur_get _ _ _ _ _ hlt]; simp
      have hs := wcur_set (wInt .i64 zs) (fun _ => .int .i64 0) (zs.length + 64) k hlt
      by_cases h2 : k < zs.length
      · obtain ⟨a, rfl, c1⟩ := hA k h2
        rw [show wInt .i64 zs k = .int .i64 (nth zs k) by simp [wInt, h2]] at hs
        have HS : Hid _ := hs
        clear hs
        have c2 : (w.alloc (.cells (wcur (wInt .i64 zs) (fun _ => .int .i64 0) (zs.length + 64) k) 2)).cell? (a.add k) = some (.int .i64 (nth zs k)) := lkeep (lb_alloc (Below.refl _ _) _) c1
        clear c1
        go_wp2
        go_roundw
        case rel => exact ⟨k + 1, by go_num, by omega, by rw [← HS.out]⟩
        case measure => simp [intOf]; omega
      · rw [show wInt .i64 zs k = .int .i64 (9437184 + k + 1) by simp [wInt, h2, mark]] at hs
        have HS : Hid _ := hs
        clear hs
        go_wp2_with fail
        refine (num_any 9 k (by omega) (by omega) (by omega) (by omega) _).mono ?_
        rintro e w1 ⟨rfl, rfl⟩
        go_wp2
        go_roundw
        case rel => exact ⟨k + 1, by go_num, by omega, by rw [← HS.out]⟩
        case measure => simp [intOf]; omega
    · obtain rfl : k = zs.length + 64 := by omega
      clear hlt hk
      go_wp2
      go_ret
      exact ⟨rfl, rfl⟩





end Go.Proofs.YtbckolkgncajfaaGreatDoor

namespace Go.Proofs.YtbckolkgncajfaaGreatDoor
open Go.RowKit

theorem fieldsL_len (v : Int) : (fieldsL v ++ nL v).length ≤ 4 := by
  unfold fieldsL nL
  cases hD (dOp v) <;> cases hA (dOp v) <;> cases hB (dOp v) <;> cases hN (dOp v) <;> simp
theorem fieldsL_size {v : Int} (h0 : 0 ≤ v) (h1 : v < 4294967296) : ∀ x ∈ fieldsL v ++ nL v, x.size ≤ 21 := by
  obtain ⟨hd, ha, hb, hn⟩ := d_in h0 h1
  have s1 := numB_size (n := dD v) ⟨by omega, by omega⟩
  have s2 := numB_size (n := dA v) ⟨by omega, by omega⟩
  have s3 := numB_size (n := dB v) ⟨by omega, by omega⟩
  have s4 := numB_size (n := dN v) ⟨by omega, by omega⟩
  intro x hx
  unfold fieldsL nL at hx
  simp only [List.mem_append] at hx
  rcases hx with ((hx | hx) | hx) | hx <;> split at hx <;> simp at hx <;> subst hx <;> assumption
theorem lineL_len {v : Int} (h0 : 0 ≤ v) (h1 : v < 4294967296) : (lineL v).length ≤ 100 := by
  unfold lineL wordsL
  split
  · rw [join_sps, List.length_append]
    have a := sps_len (fieldsL_size h0 h1)
    have b := fieldsL_len v
    have c : (nameB (dOp v)).data.toList.length ≤ 8 := name_len
    omega
  · rw [join_sps, List.length_append, sps_one, sp_len]
    have := numB_size (n := v) ⟨by omega, by omega⟩
    have : wordB.data.toList.length = 4 := rfl
    omega
theorem wordsL_len (v : Int) : (wordsL v).length ≤ 5 := by
  unfold wordsL
  split
  · have := fieldsL_len v
    rw [List.length_cons]
    omega
  · simp
set_option maxHeartbeats 1000000 in
set_option maxRecDepth 100000 in
theorem ins_any (v : Int) (h0 : 0 ≤ v) (h1 : v < 4294967296) (w : World) (ht : Tab w) (hn : Nm w) :
    Calls Tryz.prog 12 #[.int .u32 v] w fun e w' => e = .returned (.string (bs (lineL v))) ∧ Below w.heap.size w w' := by
  have HB1 : Hid (Below w.heap.size w (w.alloc (.cells #[.pointer none, .slice none 0 0] 79))) := lb_alloc (Below.refl _ _) _
  have CW := words_any v h0 h1 _ (ht.below HB1.out) (hn.below HB1.out)
  have hl := lineL_len h0 h1
  have hw := wordsL_len v
  have HL : Hid (lineL v = joinB [32] (wordsL v)) := rfl
  have HD : Hid (Bd (w.alloc (.cells #[.pointer none, .slice none 0 0] 79)) w.heap.size []) := Bd.new w
  clear ht hn h0 h1
  go_enter Tryz.func12, Tryz.ntmps12
  go_wp2_with fail
  refine CW.mono ?_
  rintro e w2 ⟨A, c, rfl, ho, hb2⟩
  have CA := all_any w.heap.size [] ⟨#[32]⟩ A c (wordsL v) w2 (HD.out.keep hb2) (own_zero ho) (by show 0 + (joinB [32] (wordsL v)).length ≤ _; rw [← HL.out]; omega) (by omega)
  have HB2 : Hid (Below w.heap.size w w2) := lb_trans HB1.out hb2
  have HS2 : Hid (w.heap.size < w2.heap.size) := by have := hb2.size; simp at this; exact this
  clear CW ho hb2
  go_wp2_with fail
  refine CA.mono ?_
  rintro e w3 ⟨rfl, hp⟩
  have CS := str_any w.heap.size _ w3 hp.1
  have HB3 : Hid (Below w.heap.size w w3) := HB2.out.trans (hp.2.below (Nat.le_refl _) (Nat.le_refl _) (by have := HS2.out; omega))
  have HS3 : Hid (w.heap.size ≤ w3.heap.size) := HB3.out.size
  clear CA hp
  go_wp2_with fail
  refine CS.mono ?_
  rintro e w4 ⟨rfl, hq⟩
  have HB4 : Hid (Below w.heap.size w w4) := HB3.out.trans (hq.below (Nat.le_refl _) (Nat.le_refl _) HS3.out)
  clear CS hq
  go_wp2
  go_ret
  exact ⟨rfl, HB4.out⟩
/-- The lines of words. -/
def linesL (zs : List Int) : List ByteArray := zs.map fun v => bs (lineL v)
theorem linesL_len (zs : List Int) : (linesL zs).length = zs.length := by simp [linesL]
def zS (_ : Nat) : Value := .string ⟨#[]⟩
def fS (ps : List ByteArray) (i : Nat) : Value := .string (pn ps i)
theorem made_strs (n : Nat) (hn : n ≤ 1048576) (f : Nat → Value) (w : World) : (Instr.makeSlice 25 (.int .i64 (n : Int)) (.int .i64 (n : Int))).run Tryz.prog w = .ok (.slice (some ⟨w.heap.size, 0, none⟩) n n) (w.alloc (.cells (wcur f zS n 0) 9)) := by
  obtain ⟨i, hi, hz, hs, hb⟩ := info9
  have h := run_makeSlice (P := Tryz.prog) w 25 9 i _ Tryz.underlying25 hi hz .i64 .i64 (n : Int) (n : Int) (by omega) (by omega) (by rw [hs]; omega) (by rw [hb]; omega) (by omega)
  rw [hs, Nat.mul_one, show (n : Int).toNat = n by omega] at h
  rw [h, show zS = fun _ => .string ⟨#[]⟩ from rfl, ← made_wcur f (.string ⟨#[]⟩) n]
  rfl
theorem wcur_all (ps : List ByteArray) : (wcur (fS ps) zS ps.length ps.length).toList = ps.map Value.string := by
  apply List.ext_getElem?
  intro i
  rw [Array.getElem?_toList]
  by_cases h : i < ps.length
  · rw [wcur_get _ _ _ _ _ h, if_pos h]
    simp [fS, pn, h]
  · rw [Array.getElem?_eq_none (by rw [wcur_size]; omega), List.getElem?_eq_none (by simp; omega)]
theorem row_all {w : World} {g : Nat} {ps : List ByteArray} (h : w.heap[g]? = some (.cells (wcur (fS ps) zS ps.length ps.length) 9 (0, 0))) (hn : ps.length ≤ 1048576) : w.ownsRow g 9 1 (.slice (some ⟨g, 0, none⟩) ps.length ps.length) ps.length (ps.map Value.string) := by
  refine ⟨by simp, Or.inr ⟨g, ps.length, _, rfl, Nat.le_refl _, h, Nat.le_refl _, by unfold maxLen; omega, by rw [wcur_size]; omega, ?_⟩⟩
  rw [wcur_all, Nat.mul_one]
  rw [show ps.length = (ps.map Value.string).length by simp]
  exact List.take_length
theorem set_row {w : World} {g k : Nat} {cur : Array Value} {t : TypeId} (h : w.heap[g]? = some (.cells cur t (0, 0))) (u : Value) : (w.setCell ⟨g, k, none⟩ u).heap[g]? = some (.cells (cur.setIfInBounds k u) t (0, 0)) := by
  simp [World.setCell, Array.getElem?_modify, h]
set_option maxHeartbeats 1000000 in
set_option maxRecDepth 100000 in
theorem code_any (O : Option Addr) (ca : Nat) (zs : List Int) (w : World) (hA : IntsAt w O .u32 zs) (hz : ∀ i, i < zs.length → 0 ≤ nth zs i ∧ nth zs i < 4294967296) (hn : zs.length ≤ 16384) (ht : Tab w) (hm : Nm w) :
    Calls Tryz.prog 7 #[.slice O zs.length ca] w (WrP w.heap.size (linesL zs) w) := by
  have hmk := made_strs zs.length (by omega) (fS (linesL zs))
  have HB1 : Hid (Below w.heap.size w (w.alloc (.cells (wcur (fS (linesL zs)) zS zs.length 0) 9))) := lb_alloc (Below.refl _ _) _
  have HX1 : Hid ((w.alloc (.cells (wcur (fS (linesL zs)) zS zs.length 0) 9)).heap[w.heap.size]? = some (.cells (wcur (fS (linesL zs)) zS zs.length 0) 9 (0, 0))) := heap_alloc_new _ _
  have HA : Hid (IntsAt w O .u32 zs) := hA
  have HT : Hid (Tab w) := ht
  have HM : Hid (Nm w) := hm
  have HZ : Hid (∀ i, i < zs.length → 0 ≤ nth zs i ∧ nth zs i < 4294967296) := hz
  clear hA ht hm hz
  go_enter Tryz.func7, Tryz.ntmps7
  go_wp2
  go_loopw [11] (fun i wr => ∃ k : Nat, i = .int .i64 k ∧ k ≤ zs.length ∧ Hid (Below w.heap.size w wr) ∧ Hid (wr.heap[w.heap.size]? = some (.cells (wcur (fS (linesL zs)) zS zs.length k) 9 (0, 0)))) (fun i _ => zs.length - (intOf i).toNat)
  case atStart => exact ⟨0, rfl, Nat.zero_le _, HB1, HX1⟩
  case round =>
    clear hmk HB1 HX1
    obtain ⟨k, rfl, hk, HB, HX⟩ := hrel
    by_cases hlt : k < zs.length
    · obtain ⟨a, rfl, c1⟩ := HA.out k hlt
      have c2 := lkeep HB.out c1
      have CI := ins_any (nth zs k) (HZ.out k hlt).1 (HZ.out k hlt).2 wr (HT.out.below HB.out) (HM.out.below HB.out)
      have hS := wcur_set (fS (linesL zs)) zS zs.length k hlt
      have hF : fS (linesL zs) k = .string (bs (lineL (nth zs k))) := by
        unfold fS pn linesL nth
        simp [hlt]
      rw [hF] at hS
      have HSet : Hid _ := hS
      have hG := wcur_get (fS (linesL zs)) zS zs.length k k hlt
      rw [if_neg (by omega)] at hG
      have HG : Hid _ := hG
      clear c1 hS hF hG
      go_wp2_with fail
      refine CI.mono ?_
      rintro e w1 ⟨rfl, hb1⟩
      have hx1 := (hb1.block w.heap.size (Array.getElem?_eq_some_iff.1 HX.out).1).trans HX.out
      have cg : w1.cell? ⟨w.heap.size, k, none⟩ = some (.string ⟨#[]⟩) := by rw [Lib.cell_of_heap hx1]; exact HG.out
      have fg : w1.frozen? ⟨w.heap.size, k, none⟩ = false := Lib.frozen_of_heap hx1 k
      have HX2 : Hid ((w1.setCell ⟨w.heap.size, k, none⟩ (.string (bs (lineL (nth zs k))))).heap[w.heap.size]? = some (.cells (wcur (fS (linesL zs)) zS zs.length (k + 1)) 9 (0, 0))) := by
        unfold Hid
        rw [set_row hx1, HSet.out]
      have HB2 : Hid (Below w.heap.size w (w1.setCell ⟨w.heap.size, k, none⟩ (.string (bs (lineL (nth zs k)))))) := (lb_trans HB.out hb1).setCell (p := ⟨w.heap.size, k, none⟩) (Nat.le_refl _) _
      clear hx1 hb1 CI c2 HSet HG
      go_wp2
      go_roundw
      case rel => exact ⟨k + 1, by go_num, by omega, HB2, HX2⟩
      case measure => simp [intOf]; omega
    · obtain rfl : k = zs.length := by omega
      go_wp2
      go_ret
      have hx := HX.out
      have e := linesL_len zs
      rw [← e] at hx
      refine ⟨some ⟨w.heap.size, 0, none⟩, zs.length, ?_, ?_, HB.out⟩
      · rw [e]; rfl
      · have := row_all hx (by rw [e]; omega)
        rw [e] at this ⊢
        exact this

end Go.Proofs.YtbckolkgncajfaaGreatDoor
