/-
  A list of symbols copied into memory of its own, with marks behind it, by the document's helper; it is at most 2^20 long. A list of relocations copied into memory of its own, with marks behind it, by the document's helper; it is at most 2^20 long.
-/
import Derived.Test.YtbckolkgncajfaaGreatDoorProg
import Derived.WalkKit
import Derived.WalkSpells
import Derived.WalkLawsBesides
import Derived.RowKit3
import Derived.Below
import Derived.Deep.QuietTactic
import Derived.BigQuiet
import Derived.WalkSmall
import Derived.Test.YtbckolkgncajfaaGreatDoorLo19
namespace Go.Proofs.YtbckolkgncajfaaGreatDoor
open Go.RowKit

theorem info42 : ∃ i, Tryz.prog.info? 69 = some i ∧ i.zero = some (.agg #[.string ⟨#[]⟩, .int .i8 0, .int .i64 0]) ∧ i.size = 3 ∧ i.bytes = 32 :=
  ⟨(Tryz.prog.info? 69).get (by kernel_rfl), by kernel_rfl, by kernel_rfl, by kernel_rfl, by kernel_rfl⟩
theorem made_sym (f : Nat → Value) (N : Nat) : madeCells #[.string ⟨#[]⟩, .int .i8 0, .int .i64 0] N = wcur f zSym N 0 := by
  apply Array.ext_getElem?
  intro i
  by_cases hi : i < N
  · rw [wcur_get _ _ _ _ _ hi]
    have h : i % 3 = 0 ∨ i % 3 = 1 ∨ i % 3 = 2 := by omega
    rcases h with h | h | h <;> simp [madeCells, hi, h, zSym]
  · rw [Array.getElem?_eq_none (by simp [madeCells]; omega), Array.getElem?_eq_none (by simp [wcur_size]; omega)]
theorem make24 (f : Nat → Value) (n : Nat) (hn : n ≤ 1048576) (w : World) : (Instr.makeSlice 62 (.int .i64 ((n : Int) + 64)) (.int .i64 ((n : Int) + 64))).run Tryz.prog w = .ok (.slice (some ⟨w.heap.size, 0, none⟩) (n + 64) (n + 64)) (w.alloc (.cells (wcur f zSym ((n + 64) * 3) 0) 69)) := by
  obtain ⟨i, hi, hz, hs, hb⟩ := info42
  have h := run_makeSlice (P := Tryz.prog) w 62 69 i _ Tryz.underlying62 hi hz .i64 .i64 ((n : Int) + 64) ((n : Int) + 64) (by omega) (by omega) (by rw [hs]; omega) (by rw [hb]; omega) (by omega)
  rw [hs, show ((n : Int) + 64).toNat = n + 64 by omega] at h
  rw [h, ← made_sym f ((n + 64) * 3)]
  rfl
theorem wSym_item0 (zs : List Sym) (k : Nat) (h : k < zs.length) : wSym zs (k * 3) = .string (sName zs k) := by
  have e : (k * 3) / 3 = k := by omega
  have m : (k * 3) % 3 = 0 := by omega
  simp [wSym, e, m, h]
theorem wSym_item1 (zs : List Sym) (k : Nat) (h : k < zs.length) : wSym zs (k * 3 + 1) = .int .i8 (sKind zs k) := by
  have e : (k * 3 + 1) / 3 = k := by omega
  have m : (k * 3 + 1) % 3 = 1 := by omega
  simp [wSym, e, m, h]
theorem wSym_item2 (zs : List Sym) (k : Nat) (h : k < zs.length) : wSym zs (k * 3 + 2) = .int .i64 (sAt zs k) := by
  have e : (k * 3 + 2) / 3 = k := by omega
  have m : (k * 3 + 2) % 3 = 2 := by omega
  simp [wSym, e, m, h]
theorem sym_item (zs : List Sym) (k : Nat) (_hk : k < zs.length + 64) (h : k < zs.length) : ((((wcur (wSym zs) zSym ((zs.length + 64) * 3) (k * 3)).setIfInBounds (k * 3) (.string (sName zs k))).setIfInBounds (k * 3 + 1) (.int .i8 (sKind zs k))).setIfInBounds (k * 3 + 2) (.int .i64 (sAt zs k))) = wcur (wSym zs) zSym ((zs.length + 64) * 3) ((k + 1) * 3) := by
  rw [← wSym_item0 zs k h, wcur_set _ _ _ _ (by omega), ← wSym_item1 zs k h, wcur_set _ _ _ _ (by omega), ← wSym_item2 zs k h, wcur_set _ _ _ _ (by omega), show (k + 1) * 3 = k * 3 + 3 by omega]
theorem wSym_mark0 (zs : List Sym) (k : Nat) (h : ¬ k < zs.length) : wSym zs (k * 3) = .string ⟨#[]⟩ := by
  have e : (k * 3) / 3 = k := by omega
  have m : (k * 3) % 3 = 0 := by omega
  simp [wSym, e, m, h]
theorem wSym_mark1 (zs : List Sym) (k : Nat) (h : ¬ k < zs.length) : wSym zs (k * 3 + 1) = .int .i8 0 := by
  have e : (k * 3 + 1) / 3 = k := by omega
  have m : (k * 3 + 1) % 3 = 1 := by omega
  simp [wSym, e, m, h]
theorem wSym_mark2 (zs : List Sym) (k : Nat) (h : ¬ k < zs.length) : wSym zs (k * 3 + 2) = .int .i64 (9437184 + k + 1) := by
  have e : (k * 3 + 2) / 3 = k := by omega
  have m : (k * 3 + 2) % 3 = 2 := by omega
  simp [wSym, e, m, h, mark]
theorem sym_mark (zs : List Sym) (k : Nat) (hk : k < zs.length + 64) (h : ¬ k < zs.length) : ((((wcur (wSym zs) zSym ((zs.length + 64) * 3) (k * 3)).setIfInBounds (k * 3) (.string ⟨#[]⟩)).setIfInBounds (k * 3 + 1) (.int .i8 0)).setIfInBounds (k * 3 + 2) (.int .i64 (9437184 + k + 1))) = wcur (wSym zs) zSym ((zs.length + 64) * 3) ((k + 1) * 3) := by
  rw [← wSym_mark0 zs k h, wcur_set _ _ _ _ (by omega), ← wSym_mark1 zs k h, wcur_set _ _ _ _ (by omega), ← wSym_mark2 zs k h, wcur_set _ _ _ _ (by omega), show (k + 1) * 3 = k * 3 + 3 by omega]
set_option maxRecDepth 100000 in
set_option maxHeartbeats 1000000 in
theorem widesym_any (O : Option Addr) (ca : Nat) (zs : List Sym) (w : World) (hA : SymsAt w O zs) (hz : zs.length ≤ 1048576) :
    Calls Tryz.prog 72 #[.slice O zs.length ca] w fun e w' => e = .returned (.slice (some ⟨w.heap.size, 0, none⟩) zs.length (zs.length + 64)) ∧ w' = w.alloc (.cells (wcur (wSym zs) zSym ((zs.length + 64) * 3) ((zs.length + 64) * 3)) 69) := by
  have hm := make24 (wSym zs) zs.length hz
  go_enter Tryz.func72, Tryz.ntmps72
  go_wp2
  go_loopw [4] (fun i wr => ∃ k : Nat, i = .int .i64 k ∧ k ≤ zs.length + 64 ∧ wr = w.alloc (.cells (wcur (wSym zs) zSym ((zs.length + 64) * 3) (k * 3)) 69)) (fun i _ => zs.length + 64 - (intOf i).toNat)
  case atStart => exact ⟨0, rfl, by omega, rfl⟩
  case round =>
    obtain ⟨k, rfl, hk, rfl⟩ := hrel
    clear hm
    have hsz := wcur_size (wSym zs) zSym ((zs.length + 64) * 3) (k * 3)
    by_cases hlt : k < zs.length + 64
    · have hg0 : (wcur (wSym zs) zSym ((zs.length + 64) * 3) (k * 3))[k * 3]? = some (zSym (k * 3)) := by rw [wcur_get _ _ _ _ _ (by omega), if_neg (by omega)]
      have hg1 : (wcur (wSym zs) zSym ((zs.length + 64) * 3) (k * 3))[k * 3 + 1]? = some (zSym (k * 3 + 1)) := by rw [wcur_get _ _ _ _ _ (by omega), if_neg (by omega)]
      have hg2 : (wcur (wSym zs) zSym ((zs.length + 64) * 3) (k * 3))[k * 3 + 2]? = some (zSym (k * 3 + 2)) := by rw [wcur_get _ _ _ _ _ (by omega), if_neg (by omega)]
      by_cases h2 : k < zs.length
      · obtain ⟨a, rfl, c0, c1, c2⟩ := hA k h2
        have HS : Hid _ := sym_item zs k hlt h2
        have d0 : (w.alloc (.cells (wcur (wSym zs) zSym ((zs.length + 64) * 3) (k * 3)) 69)).cell? (a.add (k * 3)) = some (.string (sName zs k)) := lkeep (lb_alloc (Below.refl _ _) _) c0
        have d1 : (w.alloc (.cells (wcur (wSym zs) zSym ((zs.length + 64) * 3) (k * 3)) 69)).cell? (⟨(a.add (k * 3)).block, (a.add (k * 3)).off + 1, none⟩) = some (.int .i8 (sKind zs k)) := lkeep (lb_alloc (Below.refl _ _) _) c1
        have d2 : (w.alloc (.cells (wcur (wSym zs) zSym ((zs.length + 64) * 3) (k * 3)) 69)).cell? (⟨(a.add (k * 3)).block, (a.add (k * 3)).off + 2, none⟩) = some (.int .i64 (sAt zs k)) := lkeep (lb_alloc (Below.refl _ _) _) c2
        clear c0 c1 c2
        go_wp2
        go_roundw
        case rel => exact ⟨k + 1, by go_num, by omega, by rw [← HS.out]⟩
        case measure => simp [intOf]; omega
      · have HS : Hid _ := sym_mark zs k hlt h2
        go_wp2_with fail
        refine (num_any 9 k (by omega) (by omega) (by omega) (by omega) _).mono ?_
        rintro e w1 ⟨rfl, rfl⟩
        go_wp2
        go_roundw
        case rel => exact ⟨k + 1, by go_num, by omega, by rw [← HS.out]⟩
        case measure => simp [intOf]; omega
    · obtain rfl : k = zs.length + 64 := by omega
      clear hlt hk
      go_wp2
      go_ret
      exact ⟨rfl, rfl⟩





end Go.Proofs.YtbckolkgncajfaaGreatDoor

namespace Go.Proofs.YtbckolkgncajfaaGreatDoor
open Go.RowKit

theorem info44 : ∃ i, Tryz.prog.info? 71 = some i ∧ i.zero = some (.agg #[.int .i64 0, .int .i64 0]) ∧ i.size = 2 ∧ i.bytes = 16 :=
  ⟨(Tryz.prog.info? 71).get (by kernel_rfl), by kernel_rfl, by kernel_rfl, by kernel_rfl, by kernel_rfl⟩
theorem made_rel (f : Nat → Value) (N : Nat) : madeCells #[.int .i64 0, .int .i64 0] N = wcur f (fun _ => .int .i64 0) N 0 := by
  apply Array.ext_getElem?
  intro i
  by_cases hi : i < N
  · rw [wcur_get _ _ _ _ _ hi]
    have h : i % 2 = 0 ∨ i % 2 = 1 := by omega
    rcases h with h | h <;> simp [madeCells, hi, h]
  · rw [Array.getElem?_eq_none (by simp [madeCells]; omega), Array.getElem?_eq_none (by simp [wcur_size]; omega)]
theorem make25 (f : Nat → Value) (n : Nat) (hn : n ≤ 1048576) (w : World) : (Instr.makeSlice 63 (.int .i64 ((n : Int) + 64)) (.int .i64 ((n : Int) + 64))).run Tryz.prog w = .ok (.slice (some ⟨w.heap.size, 0, none⟩) (n + 64) (n + 64)) (w.alloc (.cells (wcur f (fun _ => .int .i64 0) ((n + 64) * 2) 0) 71)) := by
  obtain ⟨i, hi, hz, hs, hb⟩ := info44
  have h := run_makeSlice (P := Tryz.prog) w 63 71 i _ Tryz.underlying63 hi hz .i64 .i64 ((n : Int) + 64) ((n : Int) + 64) (by omega) (by omega) (by rw [hs]; omega) (by rw [hb]; omega) (by omega)
  rw [hs, show ((n : Int) + 64).toNat = n + 64 by omega] at h
  rw [h, ← made_rel f ((n + 64) * 2)]
  rfl
theorem wRel_item0 (zs : List Rel) (k : Nat) (h : k < zs.length) : wRel zs (k * 2) = .int .i64 (rAt zs k) := by
  have e : (k * 2) / 2 = k := by omega
  have m : (k * 2) % 2 = 0 := by omega
  simp [wRel, e, m, h]
theorem wRel_item1 (zs : List Rel) (k : Nat) (h : k < zs.length) : wRel zs (k * 2 + 1) = .int .i64 (rSym zs k) := by
  have e : (k * 2 + 1) / 2 = k := by omega
  have m : (k * 2 + 1) % 2 = 1 := by omega
  simp [wRel, e, m, h]
theorem rel_item (zs : List Rel) (k : Nat) (_hk : k < zs.length + 64) (h : k < zs.length) : (((wcur (wRel zs) (fun _ => .int .i64 0) ((zs.length + 64) * 2) (k * 2)).setIfInBounds (k * 2) (.int .i64 (rAt zs k))).setIfInBounds (k * 2 + 1) (.int .i64 (rSym zs k))) = wcur (wRel zs) (fun _ => .int .i64 0) ((zs.length + 64) * 2) ((k + 1) * 2) := by
  rw [← wRel_item0 zs k h, wcur_set _ _ _ _ (by omega), ← wRel_item1 zs k h, wcur_set _ _ _ _ (by omega), show (k + 1) * 2 = k * 2 + 2 by omega]
theorem wRel_mark0 (zs : List Rel) (k : Nat) (h : ¬ k < zs.length) : wRel zs (k * 2) = .int .i64 (9437184 + k + 1) := by
  have e : (k * 2) / 2 = k := by omega
  have m : (k * 2) % 2 = 0 := by omega
  simp [wRel, e, m, h, mark]
theorem wRel_mark1 (zs : List Rel) (k : Nat) (h : ¬ k < zs.length) : wRel zs (k * 2 + 1) = .int .i64 0 := by
  have e : (k * 2 + 1) / 2 = k := by omega
  have m : (k * 2 + 1) % 2 = 1 := by omega
  simp [wRel, e, m, h]
theorem rel_mark (zs : List Rel) (k : Nat) (hk : k < zs.length + 64) (h : ¬ k < zs.length) : (((wcur (wRel zs) (fun _ => .int .i64 0) ((zs.length + 64) * 2) (k * 2)).setIfInBounds (k * 2) (.int .i64 (9437184 + k + 1))).setIfInBounds (k * 2 + 1) (.int .i64 0)) = wcur (wRel zs) (fun _ => .int .i64 0) ((zs.length + 64) * 2) ((k + 1) * 2) := by
  rw [← wRel_mark0 zs k h, wcur_set _ _ _ _ (by omega), ← wRel_mark1 zs k h, wcur_set _ _ _ _ (by omega), show (k + 1) * 2 = k * 2 + 2 by omega]
set_option maxRecDepth 100000 in
set_option maxHeartbeats 1000000 in
theorem widerel_any (O : Option Addr) (ca : Nat) (zs : List Rel) (w : World) (hA : RelsAt w O zs) (hz : zs.length ≤ 1048576) :
    Calls Tryz.prog 73 #[.slice O zs.length ca] w fun e w' => e = .returned (.slice (some ⟨w.heap.size, 0, none⟩) zs.length (zs.length + 64)) ∧ w' = w.alloc (.cells (wcur (wRel zs) (fun _ => .int .i64 0) ((zs.length + 64) * 2) ((zs.length + 64) * 2)) 71) := by
  have hm := make25 (wRel zs) zs.length hz
  go_enter Tryz.func73, Tryz.ntmps73
  go_wp2
  go_loopw [4] (fun i wr => ∃ k : Nat, i = .int .i64 k ∧ k ≤ zs.length + 64 ∧ wr = w.alloc (.cells (wcur (wRel zs) (fun _ => .int .i64 0) ((zs.length + 64) * 2) (k * 2)) 71)) (fun i _ => zs.length + 64 - (intOf i).toNat)
  case atStart => exact ⟨0, rfl, by omega, rfl⟩
  case round =>
    obtain ⟨k, rfl, hk, rfl⟩ := hrel
    clear hm
    have hsz := wcur_size (wRel zs) (fun _ => .int .i64 0) ((zs.length + 64) * 2) (k * 2)
    by_cases hlt : k < zs.length + 64
    · have hg0 : (wcur (wRel zs) (fun _ => .int .i64 0) ((zs.length + 64) * 2) (k * 2))[k * 2]? = some ((fun _ => .int .i64 0) (k * 2)) := by rw [wcur_get _ _ _ _ _ (by omega), if_neg (by omega)]
      have hg1 : (wcur (wRel zs) (fun _ => .int .i64 0) ((zs.length + 64) * 2) (k * 2))[k * 2 + 1]? = some ((fun _ => .int .i64 0) (k * 2 + 1)) := by rw [wcur_get _ _ _ _ _ (by omega), if_neg (by omega)]
      by_cases h2 : k < zs.length
      · obtain ⟨a, rfl, c0, c1⟩ := hA k h2
        have HS : Hid _ := rel_item zs k hlt h2
        have d0 : (w.alloc (.cells (wcur (wRel zs) (fun _ => .int .i64 0) ((zs.length + 64) * 2) (k * 2)) 71)).cell? (a.add (k * 2)) = some (.int .i64 (rAt zs k)) := lkeep (lb_alloc (Below.refl _ _) _) c0
        have d1 : (w.alloc (.cells (wcur (wRel zs) (fun _ => .int .i64 0) ((zs.length + 64) * 2) (k * 2)) 71)).cell? (⟨(a.add (k * 2)).block, (a.add (k * 2)).off + 1, none⟩) = some (.int .i64 (rSym zs k)) := lkeep (lb_alloc (Below.refl _ _) _) c1
        clear c0 c1
        go_wp2
        go_roundw
        case rel => exact ⟨k + 1, by go_num, by omega, by rw [← HS.out]⟩
        case measure => simp [intOf]; omega
      · have HS : Hid _ := rel_mark zs k hlt h2
        go_wp2_with fail
        refine (num_any 9 k (by omega) (by omega) (by omega) (by omega) _).mono ?_
        rintro e w1 ⟨rfl, rfl⟩
        go_wp2
        go_roundw
        case rel => exact ⟨k + 1, by go_num, by omega, by rw [← HS.out]⟩
        case measure => simp [intOf]; omega
    · obtain rfl : k = zs.length + 64 := by omega
      clear hlt hk
      go_wp2
      go_ret
      exact ⟨rfl, rfl⟩





end Go.Proofs.YtbckolkgncajfaaGreatDoor
