/-
  A list of numbers copied into memory of its own, with marks behind it, by the document's helpers; it is at most 2^20 long.
-/
import Derived.Test.YtbphfgalgiinnaaProg
import Derived.WalkKit
import Derived.WalkSpells
import Derived.WalkLawsBesides
import Derived.RowKit3
import Derived.Below
import Derived.Deep.QuietTactic
import Derived.BigQuiet
import Derived.WalkSmall
import Derived.Test.YtbphfgalgiinnaaLists
import Derived.Laws.MakeOwn
namespace Go.Proofs.Ytbphfgalgiinnaa
open Go.RowKit

theorem num_any (n i : Int) (h0 : 0 ≤ n) (h1 : n ≤ 9) (h2 : 0 ≤ i) (h3 : i ≤ 2097152) (w : World) : Calls Try.prog 50 #[.int .i64 n, .int .i64 i] w fun e w' => e = .returned (.int .i64 (1048576 * n + i + 1)) ∧ w' = w := by
  go_enter Try.func50, Try.ntmps50
  go_wp2
  go_ret
  exact ⟨rfl, rfl⟩
theorem made_wcur (f : Nat → Value) (z : Value) (N : Nat) : madeCells #[z] N = wcur f (fun _ => z) N 0 := by
  apply Array.ext_getElem?
  intro i
  by_cases hi : i < N
  · rw [wcur_get _ _ _ _ _ hi]; simp [madeCells, hi, Nat.mod_one]
  · rw [Array.getElem?_eq_none (by simp [madeCells]; omega), Array.getElem?_eq_none (by simp [wcur_size]; omega)]
theorem info45 : ∃ i, Try.prog.info? 45 = some i ∧ i.zero = some (.int .u32 0) ∧ i.size = 1 ∧ i.bytes = 4 :=
  ⟨(Try.prog.info? 45).get (by kernel_rfl), by kernel_rfl, by kernel_rfl, by kernel_rfl, by kernel_rfl⟩
theorem make22 (f : Nat → Value) (n : Nat) (hn : n ≤ 1048576) (w : World) : (Instr.makeSlice 22 (.int .i64 ((n : Int) + 64)) (.int .i64 ((n : Int) + 64))).run Try.prog w = .ok (.slice (some ⟨w.heap.size, 0, none⟩) (n + 64) (n + 64)) (w.alloc (.cells (wcur f (fun _ => .int .u32 0) (n + 64) 0) 45)) := by
  obtain ⟨i, hi, hz, hs, hb⟩ := info45
  have h := run_makeSlice (P := Try.prog) w 22 45 i _ Try.underlying22 hi hz .i64 .i64 ((n : Int) + 64) ((n : Int) + 64) (by omega) (by omega) (by rw [hs]; omega) (by rw [hb]; omega) (by omega)
  rw [hs, Nat.mul_one, show ((n : Int) + 64).toNat = n + 64 by omega] at h
  rw [h, ← made_wcur f (.int .u32 0) (n + 64)]
  rfl
set_option maxRecDepth 100000 in
set_option maxHeartbeats 1000000 in
theorem widewords_any (O : Option Addr) (ca : Nat) (zs : List Int) (w : World) (hA : IntsAt w O .u32 zs) (hz : zs.length ≤ 1048576) :
    Calls Try.prog 22 #[.slice O zs.length ca] w fun e w' => e = .returned (.slice (some ⟨w.heap.size, 0, none⟩) zs.length (zs.length + 64)) ∧ w' = w.alloc (.cells (wcur (wInt .u32 zs) (fun _ => .int .u32 0) (zs.length + 64) (zs.length + 64)) 45) := by
  have hm := make22 (wInt .u32 zs) zs.length hz
  go_enter Try.func22, Try.ntmps22
  go_wp2
  go_loopw [4] (fun i wr => ∃ k : Nat, i = .int .i64 k ∧ k ≤ zs.length + 64 ∧ wr = w.alloc (.cells (wcur (wInt .u32 zs) (fun _ => .int .u32 0) (zs.length + 64) k) 45)) (fun i _ => zs.length + 64 - (intOf i).toNat)
  case atStart => exact ⟨0, rfl, by omega, rfl⟩
  case round =>
    obtain ⟨k, rfl, hk, rfl⟩ := hrel
    clear hm
    have hsz := wcur_size (wInt .u32 zs) (fun _ => .int .u32 0) (zs.length + 64) k
    by_cases hlt : k < zs.length + 64
    · have hg : (wcur (wInt .u32 zs) (fun _ => .int .u32 0) (zs.length + 64) k)[k]? = some (.int .u32 0) := by rw [wcur_get _ _ _ _ _ hlt]; simp
      have hs := wcur_set (wInt .u32 zs) (fun _ => .int .u32 0) (zs.length + 64) k hlt
      by_cases h2 : k < zs.length
      · obtain ⟨a, rfl, c1⟩ := hA k h2
        rw [show wInt .u32 zs k = .int .u32 (nth zs k) by simp [wInt, h2]] at hs
        have HS : Hid _ := hs
        clear hs
        have c2 : (w.alloc (.cells (wcur (wInt .u32 zs) (fun _ => .int .u32 0) (zs.length + 64) k) 45)).cell? (a.add k) = some (.int .u32 (nth zs k)) := lkeep (lb_alloc (Below.refl _ _) _) c1
        clear c1
        go_wp2
        go_roundw
        case rel => exact ⟨k + 1, by go_num, by omega, by rw [← HS.out]⟩
        case measure => simp [intOf]; omega
      · rw [show wInt .u32 zs k = .int .u32 (9437184 + k + 1) by simp [wInt, h2, mark]] at hs
        have HS : Hid _ := hs
        clear hs
        go_wp2_with fail
        refine (num_any 9 k (by omega) (by omega) (by omega) (by omega) _).mono ?_
        rintro e w1 ⟨rfl, rfl⟩
        go_wp2
        go_roundw
        case rel => exact ⟨k + 1, by go_num, by omega, by rw [← HS.out]⟩
        case measure => simp [intOf]; omega
    · obtain rfl : k = zs.length + 64 := by omega
      clear hlt hk
      go_wp2
      go_ret
      exact ⟨rfl, rfl⟩

theorem info2 : ∃ i, Try.prog.info? 2 = some i ∧ i.zero = some (.int .i64 0) ∧ i.size = 1 ∧ i.bytes = 8 :=
  ⟨(Try.prog.info? 2).get (by kernel_rfl), by kernel_rfl, by kernel_rfl, by kernel_rfl, by kernel_rfl⟩
theorem make23 (f : Nat → Value) (n : Nat) (hn : n ≤ 1048576) (w : World) : (Instr.makeSlice 23 (.int .i64 ((n : Int) + 64)) (.int .i64 ((n : Int) + 64))).run Try.prog w = .ok (.slice (some ⟨w.heap.size, 0, none⟩) (n + 64) (n + 64)) (w.alloc (.cells (wcur f (fun _ => .int .i64 0) (n + 64) 0) 2)) := by
  obtain ⟨i, hi, hz, hs, hb⟩ := info2
  have h := run_makeSlice (P := Try.prog) w 23 2 i _ Try.underlying23 hi hz .i64 .i64 ((n : Int) + 64) ((n : Int) + 64) (by omega) (by omega) (by rw [hs]; omega) (by rw [hb]; omega) (by omega)
  rw [hs, Nat.mul_one, show ((n : Int) + 64).toNat = n + 64 by omega] at h
  rw [h, ← made_wcur f (.int .i64 0) (n + 64)]
  rfl
set_option maxRecDepth 100000 in
set_option maxHeartbeats 1000000 in
theorem widelongs_any (O : Option Addr) (ca : Nat) (zs : List Int) (w : World) (hA : IntsAt w O .i64 zs) (hz : zs.length ≤ 1048576) :
    Calls Try.prog 23 #[.slice O zs.length ca] w fun e w' => e = .returned (.slice (some ⟨w.heap.size, 0, none⟩) zs.length (zs.length + 64)) ∧ w' = w.alloc (.cells (wcur (wInt .i64 zs) (fun _ => .int .i64 0) (zs.length + 64) (zs.length + 64)) 2) := by
  have hm := make23 (wInt .i64 zs) zs.length hz
  go_enter Try.func23, Try.ntmps23
  go_wp2
  go_loopw [4] (fun i wr => ∃ k : Nat, i = .int .i64 k ∧ k ≤ zs.length + 64 ∧ wr = w.alloc (.cells (wcur (wInt .i64 zs) (fun _ => .int .i64 0) (zs.length + 64) k) 2)) (fun i _ => zs.length + 64 - (intOf i).toNat)
  case atStart => exact ⟨0, rfl, by omega, rfl⟩
  case round =>
    obtain ⟨k, rfl, hk, rfl⟩ := hrel
    clear hm
    have hsz := wcur_size (wInt .i64 zs) (fun _ => .int .i64 0) (zs.length + 64) k
    by_cases hlt : k < zs.length + 64
    · have hg : (wcur (wInt .i64 zs) (fun _ => .int .i64 0) (zs.length + 64) k)[k]? = some (.int .i64 0) := by rw [wcur_get _ _ _ _ _ hlt]; simp
      have hs := wcur_set (wInt .i64 zs) (fun _ => .int .i64 0) (zs.length + 64) k hlt
      by_cases h2 : k < zs.length
      · obtain ⟨a, rfl, c1⟩ := hA k h2
        rw [show wInt .i64 zs k = .int .i64 (nth zs k) by simp [wInt, h2]] at hs
        have HS : Hid _ := hs
        clear hs
        have c2 : (w.alloc (.cells (wcur (wInt .i64 zs) (fun _ => .int .i64 0) (zs.length + 64) k) 2)).cell? (a.add k) = some (.int .i64 (nth zs k)) := lkeep (lb_alloc (Below.refl _ _) _) c1
        clear c1
        go_wp2
        go_roundw
        case rel => exact ⟨k + 1, by go_num, by omega, by rw [← HS.out]⟩
        case measure => simp [intOf]; omega
      · rw [show wInt .i64 zs k = .int .i64 (9437184 + k + 1) by simp [wInt, h2, mark]] at hs
        have HS : Hid _ := hs
        clear hs
        go_wp2_with fail
        refine (num_any 9 k (by omega) (by omega) (by omega) (by omega) _).mono ?_
        rintro e w1 ⟨rfl, rfl⟩
        go_wp2
        go_roundw
        case rel => exact ⟨k + 1, by go_num, by omega, by rw [← HS.out]⟩
        case measure => simp [intOf]; omega
    · obtain rfl : k = zs.length + 64 := by omega
      clear hlt hk
      go_wp2
      go_ret
      exact ⟨rfl, rfl⟩



end Go.Proofs.Ytbphfgalgiinnaa
