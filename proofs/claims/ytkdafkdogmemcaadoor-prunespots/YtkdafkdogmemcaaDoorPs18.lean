/-
  WideSpots and SpareSpots.
-/
import Derived.Test.YtkdafkdogmemcaaDoorProg
import Derived.WalkKit
import Derived.WalkSpells
import Derived.WalkLawsBesides
import Derived.RowKit3
import Derived.Below
import Derived.Deep.QuietTactic
import Derived.BigQuiet
import Derived.WalkSmall
import Derived.Laws.Rows
import Derived.Test.YtkdafkdogmemcaaDoorPs03
import Derived.Test.YtkdafkdogmemcaaDoorPs13
import Derived.Test.YtkdafkdogmemcaaDoorPs14
import Derived.Test.YtkdafkdogmemcaaDoorPs17
namespace Go.Proofs.YtkdafkdogmemcaaDoor
open Go.RowKit

theorem infoS20 : ∃ i, Tryd.prog.info? 53 = some i ∧ i.zero = some (.agg #[.int .i64 0, .int .i8 0, .int .i8 0]) ∧ i.size = 3 ∧ i.bytes = 16 :=
  ⟨(Tryd.prog.info? 53).get (by kernel_rfl), by kernel_rfl, by kernel_rfl, by kernel_rfl, by kernel_rfl⟩
def zSp (j : Nat) : Value := if j % 3 = 0 then .int .i64 0 else .int .i8 0
/-- The cells of a wide row. -/
def wSp (zs : List Spt) (j : Nat) : Value := if j / 3 < zs.length then (if j % 3 = 0 then .int .i64 (spt zs (j / 3)).1 else if j % 3 = 1 then .int .i8 (spt zs (j / 3)).2.1 else .int .i8 (spt zs (j / 3)).2.2) else if j % 3 = 0 then .int .i64 (9437184 + ((j / 3 : Nat) : Int) + 1) else .int .i8 0
theorem made_sp (f : Nat → Value) (N : Nat) : madeCells #[.int .i64 0, .int .i8 0, .int .i8 0] N = wcur f zSp N 0 := by
  apply Array.ext_getElem?
  intro i
  by_cases hi : i < N
  · rw [wcur_get _ _ _ _ _ hi]
    have h : i % 3 = 0 ∨ i % 3 = 1 ∨ i % 3 = 2 := by omega
    rcases h with h | h | h <;> simp [madeCells, hi, h, zSp]
  · rw [Array.getElem?_eq_none (by simp [madeCells]; omega), Array.getElem?_eq_none (by simp [wcur_size]; omega)]
theorem make_sp (f : Nat → Value) (n : Nat) (hn : n ≤ 1048576) (w : World) : (Instr.makeSlice 22 (.int .i64 ((n : Int) + 64)) (.int .i64 ((n : Int) + 64))).run Tryd.prog w = .ok (.slice (some ⟨w.heap.size, 0, none⟩) (n + 64) (n + 64)) (w.alloc (.cells (wcur f zSp ((n + 64) * 3) 0) 53)) := by
  obtain ⟨i, hi, hz, hs, hb⟩ := infoS20
  have h := run_makeSlice (P := Tryd.prog) w 22 53 i _ Tryd.underlying22 hi hz .i64 .i64 ((n : Int) + 64) ((n : Int) + 64) (by omega) (by omega) (by rw [hs]; omega) (by rw [hb]; omega) (by omega)
  rw [hs, show ((n : Int) + 64).toNat = n + 64 by omega] at h
  rw [h, ← made_sp f ((n + 64) * 3)]
  rfl
theorem wSp_item (zs : List Spt) (k : Nat) (h : k < zs.length) : wSp zs (k * 3) = .int .i64 (spt zs k).1 ∧ wSp zs (k * 3 + 1) = .int .i8 (spt zs k).2.1 ∧ wSp zs (k * 3 + 2) = .int .i8 (spt zs k).2.2 := by
  have e0 : (k * 3) / 3 = k := by omega
  have e1 : (k * 3 + 1) / 3 = k := by omega
  have e2 : (k * 3 + 2) / 3 = k := by omega
  have m0 : (k * 3) % 3 = 0 := by omega
  have m1 : (k * 3 + 1) % 3 = 1 := by omega
  have m2 : (k * 3 + 2) % 3 = 2 := by omega
  refine ⟨?_, ?_, ?_⟩
  · simp [wSp, e0, m0, h]
  · simp [wSp, e1, m1, h]
  · simp [wSp, e2, m2, h]
theorem wSp_mark (zs : List Spt) (k : Nat) (h : ¬ k < zs.length) : wSp zs (k * 3) = .int .i64 (9437184 + (k : Int) + 1) ∧ wSp zs (k * 3 + 1) = .int .i8 0 ∧ wSp zs (k * 3 + 2) = .int .i8 0 := by
  have e0 : (k * 3) / 3 = k := by omega
  have e1 : (k * 3 + 1) / 3 = k := by omega
  have e2 : (k * 3 + 2) / 3 = k := by omega
  have m0 : (k * 3) % 3 = 0 := by omega
  have m1 : (k * 3 + 1) % 3 = 1 := by omega
  have m2 : (k * 3 + 2) % 3 = 2 := by omega
  refine ⟨?_, ?_, ?_⟩
  · simp [wSp, e0, m0, h]
  · simp [wSp, e1, m1, h]
  · simp [wSp, e2, m2, h]
theorem sp_step (zs : List Spt) (N k : Nat) (hk : k < N) (v0 v1 v2 : Value) (h : wSp zs (k * 3) = v0 ∧ wSp zs (k * 3 + 1) = v1 ∧ wSp zs (k * 3 + 2) = v2) : (((wcur (wSp zs) zSp (N * 3) (k * 3)).setIfInBounds (k * 3) v0).setIfInBounds (k * 3 + 1) v1).setIfInBounds (k * 3 + 2) v2 = wcur (wSp zs) zSp (N * 3) ((k + 1) * 3) := by
  obtain ⟨rfl, rfl, rfl⟩ := h
  rw [wcur_set _ _ _ _ (by omega), wcur_set _ _ _ _ (by omega), wcur_set _ _ _ _ (by omega), show (k + 1) * 3 = k * 3 + 1 + 1 + 1 by omega]
theorem num9 (k : Nat) (h : k ≤ 2097152) (w : World) : Calls Tryd.prog 14 #[.int .i64 9, .int .i64 (k : Int)] w fun e w' => e = .returned (.int .i64 (9437184 + (k : Int) + 1)) ∧ w' = w := by
  have h1 : (k : Int) ≤ 2097152 := by omega
  go_enter Tryd.func14, Tryd.ntmps14
  go_wp2
  go_ret
  exact ⟨rfl, rfl⟩
set_option maxRecDepth 100000 in
set_option maxHeartbeats 1000000 in
theorem widespots_any (O : Option Addr) (ca : Nat) (zs : List Spt) (w : World) (hA : SpAt w O zs) (hz : zs.length ≤ 1048576) :
    Calls Tryd.prog 5 #[.slice O zs.length ca] w fun e w' => e = .returned (.slice (some ⟨w.heap.size, 0, none⟩) zs.length (zs.length + 64)) ∧ w' = w.alloc (.cells (wcur (wSp zs) zSp ((zs.length + 64) * 3) ((zs.length + 64) * 3)) 53) := by
  have hm := make_sp (wSp zs) zs.length hz
  go_enter Tryd.func5, Tryd.ntmps5
  go_wp2
  go_loopw [4] (fun i wr => ∃ k : Nat, i = .int .i64 k ∧ k ≤ zs.length + 64 ∧ wr = w.alloc (.cells (wcur (wSp zs) zSp ((zs.length + 64) * 3) (k * 3)) 53)) (fun i _ => zs.length + 64 - (intOf i).toNat)
  case atStart => exact ⟨0, rfl, by omega, rfl⟩
  case round =>
    obtain ⟨k, rfl, hk, rfl⟩ := hrel
    clear hm
    have hsz := wcur_size (wSp zs) zSp ((zs.length + 64) * 3) (k * 3)
    by_cases hlt : k < zs.length + 64
    · have hg0 : (wcur (wSp zs) zSp ((zs.length + 64) * 3) (k * 3))[k * 3]? = some (zSp (k * 3)) := by rw [wcur_get _ _ _ _ _ (by omega), if_neg (by omega)]
      have hg1 : (wcur (wSp zs) zSp ((zs.length + 64) * 3) (k * 3))[k * 3 + 1]? = some (zSp (k * 3 + 1)) := by rw [wcur_get _ _ _ _ _ (by omega), if_neg (by omega)]
      have hg2 : (wcur (wSp zs) zSp ((zs.length + 64) * 3) (k * 3))[k * 3 + 2]? = some (zSp (k * 3 + 2)) := by rw [wcur_get _ _ _ _ _ (by omega), if_neg (by omega)]
      by_cases h2 : k < zs.length
      · obtain ⟨a, rfl, c0, c1, c2⟩ := hA k h2
        have HS : Hid _ := sp_step zs (zs.length + 64) k hlt _ _ _ (wSp_item zs k h2)
        have d0 : (w.alloc (.cells (wcur (wSp zs) zSp ((zs.length + 64) * 3) (k * 3)) 53)).cell? (a.add (k * 3)) = some (.int .i64 (spt zs k).1) := lkeep (lb_alloc (Below.refl _ _) _) c0
        have d1 : (w.alloc (.cells (wcur (wSp zs) zSp ((zs.length + 64) * 3) (k * 3)) 53)).cell? (⟨(a.add (k * 3)).block, (a.add (k * 3)).off + 1, none⟩) = some (.int .i8 (spt zs k).2.1) := lkeep (lb_alloc (Below.refl _ _) _) c1
        have d2 : (w.alloc (.cells (wcur (wSp zs) zSp ((zs.length + 64) * 3) (k * 3)) 53)).cell? (⟨(a.add (k * 3)).block, (a.add (k * 3)).off + 2, none⟩) = some (.int .i8 (spt zs k).2.2) := lkeep (lb_alloc (Below.refl _ _) _) c2
        clear c0 c1 c2
        go_wp2
        go_roundw
        case rel => exact ⟨k + 1, by go_num, by omega, by rw [← HS.out]⟩
        case measure => simp [intOf]; omega
      · have HS : Hid _ := sp_step zs (zs.length + 64) k hlt _ _ _ (wSp_mark zs k h2)
        go_wp2_with fail
        refine (num9 k (by omega) _).mono ?_
        rintro e w1 ⟨rfl, rfl⟩
        go_wp2
        go_roundw
        case rel => exact ⟨k + 1, by go_num, by omega, by rw [← HS.out]⟩
        case measure => simp [intOf]; omega
    · obtain rfl : k = zs.length + 64 := by omega
      clear hlt hk
      go_wp2
      go_ret
      exact ⟨rfl, rfl⟩
/-- The marks behind. -/
def MkSp (w : World) (g n : Nat) : Prop := ∀ i, n ≤ i → i < n + 64 → w.cell? ⟨g, i * 3, none⟩ = some (.int .i64 (9437184 + (i : Int) + 1)) ∧ w.cell? ⟨g, i * 3 + 1, none⟩ = some (.int .i8 0) ∧ w.cell? ⟨g, i * 3 + 2, none⟩ = some (.int .i8 0)
theorem MkSp.keep {w w' : World} {g n : Nat} (h : MkSp w g n) (hb : Below w.heap.size w w') : MkSp w' g n := fun i h1 h2 => by
  obtain ⟨a, b, c⟩ := h i h1 h2
  exact ⟨lkeep hb a, lkeep hb b, lkeep hb c⟩
def WspP (zs : List Spt) (w : World) (e : Ending) (w' : World) : Prop := ∃ g : Nat, e = .returned (.slice (some ⟨g, 0, none⟩) zs.length (zs.length + 64)) ∧ Below w.heap.size w w' ∧ SpAt w' (some ⟨g, 0, none⟩) zs ∧ MkSp w' g zs.length
theorem widespots_lies (O : Option Addr) (ca : Nat) (zs : List Spt) (w : World) (hA : SpAt w O zs) (hz : zs.length ≤ 1048576) :
    Calls Tryd.prog 5 #[.slice O zs.length ca] w (WspP zs w) := by
  refine (widespots_any O ca zs w hA hz).mono ?_
  rintro e w' ⟨rfl, rfl⟩
  refine ⟨_, rfl, lb_alloc (Below.refl _ _) _, fun i hi => ⟨_, rfl, ?_, ?_, ?_⟩, fun i h1 h2 => ⟨?_, ?_, ?_⟩⟩
  · rw [addz]
    exact row_new _ _ _ _ _ (by rw [wcur_full _ _ _ _ (by omega), (wSp_item zs i hi).1])
  · rw [addz2 _ _ _ (by omega)]
    exact row_new _ _ _ _ _ (by rw [wcur_full _ _ _ _ (by omega), (wSp_item zs i hi).2.1])
  · rw [addz2 _ _ _ (by omega)]
    exact row_new _ _ _ _ _ (by rw [wcur_full _ _ _ _ (by omega), (wSp_item zs i hi).2.2])
  · exact row_new _ _ _ _ _ (by rw [wcur_full _ _ _ _ (by omega), (wSp_mark zs i (by omega)).1])
  · exact row_new _ _ _ _ _ (by rw [wcur_full _ _ _ _ (by omega), (wSp_mark zs i (by omega)).2.1])
  · exact row_new _ _ _ _ _ (by rw [wcur_full _ _ _ _ (by omega), (wSp_mark zs i (by omega)).2.2])
set_option maxRecDepth 100000 in
set_option maxHeartbeats 1000000 in
theorem sparespots_any (g n : Nat) (w : World) (hA : MkSp w g n) (hz : n ≤ 1048576) :
    Calls Tryd.prog 11 #[.slice (some ⟨g, 0, none⟩) n (n + 64)] w fun e w' => e = .returned (.bool true) ∧ Below w.heap.size w w' := by
  go_enter Tryd.func11, Tryd.ntmps11
  go_wp2
  go_loopw [4] (fun i wr => ∃ k : Nat, i = .int .i64 k ∧ n ≤ k ∧ k ≤ n + 64 ∧ Hid (Below w.heap.size w wr)) (fun i _ => n + 64 - (intOf i).toNat)
  case atStart => exact ⟨n, rfl, by omega, by omega, Below.refl _ _⟩
  case round =>
    obtain ⟨k, rfl, hk, hk2, HB⟩ := hrel
    by_cases hlt : k < n + 64
    · obtain ⟨c0, c1, c2⟩ := hA k hk hlt
      replace c0 := lkeep HB.out c0
      replace c1 := lkeep HB.out c1
      replace c2 := lkeep HB.out c2
      go_wp2_with fail
      go_quiet ((go_at_call 14; exact Calls.quiet_of_same (num9 _ (by omega) _)))
      go_wp2
      go_roundw
      case rel => exact ⟨k + 1, by go_num, by omega, by omega, below_drewN (lb_alloc HB.out _) _⟩
      case measure => simp [intOf]; omega
    · go_wp2
      go_ret
      exact ⟨rfl, HB.out⟩

end Go.Proofs.YtkdafkdogmemcaaDoor
