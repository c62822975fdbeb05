/-
  Code of the document: the lines of words. A list of symbols copied into memory of its own, with marks behind it, by the document's helper; it is at most 2^20 long.
-/
import Derived.Test.YtbckolkgncajfaaGreatDoorProg
import Derived.WalkKit
import Derived.WalkSpells
import Derived.WalkLawsBesides
import Derived.RowKit3
import Derived.Below
import Derived.Deep.QuietTactic
import Derived.BigQuiet
import Derived.WalkSmall
import Derived.Laws.Rows
import Derived.Test.YtbckolkgncajfaaGreatDoorLw40
import Derived.Deep.AppendLies
import Derived.Laws.OwnMore
import Derived.Test.YtbckolkgncajfaaGreatDoorLw19
namespace Go.Proofs.YtbckolkgncajfaaGreatDoor
open Go.RowKit

theorem lines_step (zs : List Int) (k : Nat) (h : k < zs.length) : linesL (zs.take (k + 1)) = linesL (zs.take k) ++ [bs (lineL (nth zs k))] := by
  unfold linesL nth
  rw [List.take_succ_eq_append_getElem h, List.map_append]
  simp [h]
set_option maxHeartbeats 1000000 in
set_option maxRecDepth 100000 in
theorem refcode_any (O : Option Addr) (ca : Nat) (zs : List Int) (w : World) (hA : IntsAt w O .u32 zs) (hz : ∀ i, i < zs.length → 0 ≤ nth zs i ∧ nth zs i < 4294967296) (hn : zs.length ≤ 16384) (ht : Tab w) :
    Calls Tryz.prog 9 #[.slice O zs.length ca] w (WrP w.heap.size (linesL zs) w) := by
  obtain ⟨i0, hi, hz0, hz1, hz2⟩ := info9
  have HA : Hid (IntsAt w O .u32 zs) := hA
  have HT : Hid (Tab w) := ht
  have HZ : Hid (∀ i, i < zs.length → 0 ≤ nth zs i ∧ nth zs i < 4294967296) := hz
  clear hA ht hz
  go_enter Tryz.func9, Tryz.ntmps9
  go_wp2
  go_loopw [4, 3] (fun i l wr => ∃ k : Nat, i = .int .i64 k ∧ k ≤ zs.length ∧ Hid (Below w.heap.size w wr) ∧ Hid (wr.ownsRow w.heap.size 9 1 l k ((linesL (zs.take k)).map Value.string))) (fun i _ _ => zs.length - (intOf i).toNat)
  case atStart => exact ⟨0, rfl, Nat.zero_le _, Below.refl _ _, World.ownsRow_nil _ _ _ _⟩
  case round =>
    obtain ⟨k, rfl, hk, HB, HO⟩ := hrel
    by_cases hlt : k < zs.length
    · obtain ⟨a, rfl, c1⟩ := HA.out k hlt
      have c2 := lkeep HB.out c1
      have CI := refins_any (nth zs k) (HZ.out k hlt).1 (HZ.out k hlt).2 wr (HT.out.below HB.out)
      have HE : Hid _ := lines_step zs k hlt
      obtain ⟨A0, k0, rfl, -⟩ := own_any HO.out
      clear c1
      go_wp2_with fail
      refine CI.mono ?_
      rintro e w1 ⟨rfl, hb1⟩
      have HB1 : Hid (Below w.heap.size w (w1.alloc (.cells #[.string (bs (lineL (nth zs k)))] 9))) := lb_alloc (lb_trans HB.out hb1) _
      have hO := own_keep HO.out (lb_alloc hb1 (.cells #[.string (bs (lineL (nth zs k)))] 9))
      have hsz : w.heap.size ≤ w1.heap.size := (lb_trans HB.out hb1).size
      clear hb1 CI c2
      go_wp2_with (at_builtin; refine wpList_append_own _ rfl (.tmp 11) (.tmp 17) 25 rfl w.heap.size 9 i0 (.string ⟨#[]⟩) 1 16 Tryz.underlying25 hi hz0 hz1 hz2 rfl (by decide) (.slice A0 k k0) k ((linesL (zs.take k)).map Value.string) rfl hO ⟨w1.heap.size, 0, none⟩ 1 1 [.string (bs (lineL (nth zs k)))] rfl rfl (fun j u hu => World.news_of_block (heap_alloc_new _ _) j u hu) (fun u hu => by cases hu with | head => rfl | tail _ h => cases h) (by unfold maxLen; omega) (by omega) (by simp; omega) ?_; intro v' w2 hown' hgrow _; have HO2 : Hid (w2.ownsRow w.heap.size 9 1 v' (k + 1) ((linesL (zs.take (k + 1))).map Value.string)) := (by unfold Hid; rw [HE.out, List.map_append]; exact hown'); have HB2 : Hid (Below w.heap.size w w2) := HB1.out.grown hgrow HB1.out.size (fun j hj => (hO.lt j hj).1); clear hown' hgrow)
      go_roundw
      case rel => exact ⟨k + 1, by go_num, by omega, HB2, HO2⟩
      case measure => simp [intOf]; omega
    · obtain rfl : k = zs.length := by omega
      obtain ⟨A0, k0, rfl, -⟩ := own_any HO.out
      have hO := HO.out
      rw [List.take_length] at hO
      have HO2 : Hid _ := hO
      clear hO HO
      go_wp2
      go_ret
      have e := linesL_len zs
      refine ⟨A0, k0, by rw [e]; rfl, ?_, HB.out⟩
      rw [e]
      exact HO2.out

end Go.Proofs.YtbckolkgncajfaaGreatDoor

namespace Go.Proofs.YtbckolkgncajfaaGreatDoor
open Go.RowKit

theorem info42 : ∃ i, Tryz.prog.info? 69 = some i ∧ i.zero = some (.agg #[.string ⟨#[]⟩, .int .i8 0, .int .i64 0]) ∧ i.size = 3 ∧ i.bytes = 32 :=
  ⟨(Tryz.prog.info? 69).get (by kernel_rfl), by kernel_rfl, by kernel_rfl, by kernel_rfl, by kernel_rfl⟩
theorem made_sym (f : Nat → Value) (N : Nat) : madeCells #[.string ⟨#[]⟩, .int .i8 0, .int .i64 0] N = wcur f zSym N 0 := by
  apply Array.ext_getElem?
  intro i
  by_cases hi : i < N
  · rw [wcur_get _ _ _ _ _ hi]
    have h : i % 3 = 0 ∨ i % 3 = 1 ∨ i % 3 = 2 := by omega
    rcases h with h | h | h <;> simp [madeCells, hi, h, zSym]
  · rw [Array.getElem?_eq_none (by simp [madeCells]; omega), Array.getElem?_eq_none (by simp [wcur_size]; omega)]
theorem make24 (f : Nat → Value) (n : Nat) (hn : n ≤ 1048576) (w : World) : (Instr.makeSlice 62 (.int .i64 ((n : Int) + 64)) (.int .i64 ((n : Int) + 64))).run Tryz.prog w = .ok (.slice (some ⟨w.heap.size, 0, none⟩) (n + 64) (n + 64)) (w.alloc (.cells (wcur f zSym ((n + 64) * 3) 0) 69)) := by
  obtain ⟨i, hi, hz, hs, hb⟩ := info42
  have h := run_makeSlice (P := Tryz.prog) w 62 69 i _ Tryz.underlying62 hi hz .i64 .i64 ((n : Int) + 64) ((n : Int) + 64) (by omega) (by omega) (by rw [hs]; omega) (by rw [hb]; omega) (by omega)
  rw [hs, show ((n : Int) + 64).toNat = n + 64 by omega] at h
  rw [h, ← made_sym f ((n + 64) * 3)]
  rfl
theorem wSym_item0 (zs : List Sym) (k : Nat) (h : k < zs.length) : wSym zs (k * 3) = .string (sName zs k) := by
  have e : (k * 3) / 3 = k := by omega
  have m : (k * 3) % 3 = 0 := by omega
  simp [wSym, e, m, h]
theorem wSym_item1 (zs : List Sym) (k : Nat) (h : k < zs.length) : wSym zs (k * 3 + 1) = .int .i8 (sKind zs k) := by
  have e : (k * 3 + 1) / 3 = k := by omega
  have m : (k * 3 + 1) % 3 = 1 := by omega
  simp [wSym, e, m, h]
theorem wSym_item2 (zs : List Sym) (k : Nat) (h : k < zs.length) : wSym zs (k * 3 + 2) = .int .i64 (sAt zs k) := by
  have e : (k * 3 + 2) / 3 = k := by omega
  have m : (k * 3 + 2) % 3 = 2 := by omega
  simp [wSym, e, m, h]
theorem sym_item (zs : List Sym) (k : Nat) (_hk : k < zs.length + 64) (h : k < zs.length) : ((((wcur (wSym zs) zSym ((zs.length + 64) * 3) (k * 3)).setIfInBounds (k * 3) (.string (sName zs k))).setIfInBounds (k * 3 + 1) (.int .i8 (sKind zs k))).setIfInBounds (k * 3 + 2) (.int .i64 (sAt zs k))) = wcur (wSym zs) zSym ((zs.length + 64) * 3) ((k + 1) * 3) := by
  rw [← wSym_item0 zs k h, wcur_set _ _ _ _ (by omega), ← wSym_item1 zs k h, wcur_set _ _ _ _ (by omega), ← wSym_item2 zs k h, wcur_set _ _ _ _ (by omega), show (k + 1) * 3 = k * 3 + 3 by omega]
theorem wSym_mark0 (zs : List Sym) (k : Nat) (h : ¬ k < zs.length) : wSym zs (k * 3) = .string ⟨#[]⟩ := by
  have e : (k * 3) / 3 = k := by omega
  have m : (k * 3) % 3 = 0 := by omega
  simp [wSym, e, m, h]
theorem wSym_mark1 (zs : List Sym) (k : Nat) (h : ¬ k < zs.length) : wSym zs (k * 3 + 1) = .int .i8 0 := by
  have e : (k * 3 + 1) / 3 = k := by omega
  have m : (k * 3 + 1) % 3 = 1 := by omega
  simp [wSym, e, m, h]
theorem wSym_mark2 (zs : List Sym) (k : Nat) (h : ¬ k < zs.length) : wSym zs (k * 3 + 2) = .int .i64 (9437184 + k + 1) := by
  have e : (k * 3 + 2) / 3 = k := by omega
  have m : (k * 3 + 2) % 3 = 2 := by omega
  simp [wSym, e, m, h, mark]
theorem sym_mark (zs : List Sym) (k : Nat) (hk : k < zs.length + 64) (h : ¬ k < zs.length) : ((((wcur (wSym zs) zSym ((zs.length + 64) * 3) (k * 3)).setIfInBounds (k * 3) (.string ⟨#[]⟩)).setIfInBounds (k * 3 + 1) (.int .i8 0)).setIfInBounds (k * 3 + 2) (.int .i64 (9437184 + k + 1))) = wcur (wSym zs) zSym ((zs.length + 64) * 3) ((k + 1) * 3) := by
  rw [← wSym_mark0 zs k h, wcur_set _ _ _ _ (by omega), ← wSym_mark1 zs k h, wcur_set _ _ _ _ (by omega), ← wSym_mark2 zs k h, wcur_set _ _ _ _ (by omega), show (k + 1) * 3 = k * 3 + 3 by omega]
set_option maxRecDepth 100000 in
set_option maxHeartbeats 1000000 in
theorem widesym_any (O : Option Addr) (ca : Nat) (zs : List Sym) (w : World) (hA : SymsAt w O zs) (hz : zs.length ≤ 1048576) :
    Calls Tryz.prog 72 #[.slice O zs.length ca] w fun e w' => e = .returned (.slice (some ⟨w.heap.size, 0, none⟩) zs.length (zs.length + 64)) ∧ w' = w.alloc (.cells (wcur (wSym zs) zSym ((zs.length + 64) * 3) ((zs.length + 64) * 3)) 69) := by
  have hm := make24 (wSym zs) zs.length hz
  go_enter Tryz.func72, Tryz.ntmps72
  go_wp2
  go_loopw [4] (fun i wr => ∃ k : Nat, i = .int .i64 k ∧ k ≤ zs.length + 64 ∧ wr = w.alloc (.cells (wcur (wSym zs) zSym ((zs.length + 64) * 3) (k * 3)) 69)) (fun i _ => zs.length + 64 - (intOf i).toNat)
  case atStart => exact ⟨0, rfl, by omega, rfl⟩
  case round =>
    obtain ⟨k, rfl, hk, rfl⟩ := hrel
    clear hm
    have hsz := wcur_size (wSym zs) zSym ((zs.length + 64) * 3) (k * 3)
    by_cases hlt : k < zs.length + 64
    · have hg0 : (wcur (wSym zs) zSym ((zs.length + 64) * 3) (k * 3))[k * 3]? = some (zSym (k * 3)) := by rw [wcur_get _ _ _ _ _ (by omega), if_neg (by omega)]
      have hg1 : (wcur (wSym zs) zSym ((zs.length + 64) * 3) (k * 3))[k * 3 + 1]? = some (zSym (k * 3 + 1)) := by rw [wcur_get _ _ _ _ _ (by omega), if_neg (by omega)]
      have hg2 : (wcur (wSym zs) zSym ((zs.length + 64) * 3) (k * 3))[k * 3 + 2]? = some (zSym (k * 3 + 2)) := by rw [wcur_get _ _ _ _ _ (by omega), if_neg (by omega)]
      by_cases h2 : k < zs.length
      · obtain ⟨a, rfl, c0, c1, c2⟩ := hA k h2
        have HS : Hid _ := sym_item zs k hlt h2
        have d0 : (w.alloc (.cells (wcur (wSym zs) zSym ((zs.length + 64) * 3) (k * 3)) 69)).cell? (a.add (k * 3)) = some (.string (sName zs k)) := lkeep (lb_alloc (Below.refl _ _) _) c0
        have d1 : (w.alloc (.cells (wcur (wSym zs) zSym ((zs.length + 64) * 3) (k * 3)) 69)).cell? (⟨(a.add (k * 3)).block, (a.add (k * 3)).off + 1, none⟩) = some (.int .i8 (sKind zs k)) := lkeep (lb_alloc (Below.refl _ _) _) c1
        have d2 : (w.alloc (.cells (wcur (wSym zs) zSym ((zs.length + 64) * 3) (k * 3)) 69)).cell? (⟨(a.add (k * 3)).block, (a.add (k * 3)).off + 2, none⟩) = some (.int .i64 (sAt zs k)) := lkeep (lb_alloc (Below.refl _ _) _) c2
        clear c0 c1 c2
        go_wp2
        go_roundw
        case rel => exact ⟨k + 1, by go_num, by omega, by rw [← HS.out]⟩
        case measure => simp [intOf]; omega
      · have HS : Hid _ := sym_mark zs k hlt h2
        go_wp2_with fail
        refine (num_any 9 k (by omega) (by omega) (by omega) (by omega) _).mono ?_
        rintro e w1 ⟨rfl, rfl⟩
        go_wp2
        go_roundw
        case rel => exact ⟨k + 1, by go_num, by omega, by rw [← HS.out]⟩
        case measure => simp [intOf]; omega
    · obtain rfl : k = zs.length + 64 := by omega
      clear hlt hk
      go_wp2
      go_ret
      exact ⟨rfl, rfl⟩





end Go.Proofs.YtbckolkgncajfaaGreatDoor
