/-
  Where an object that was copied with marks lies, and that the marks stand; its lists are at most 2^20 long. Bytes copied into memory of their own, with marks behind them, by the document's helpers; they are at most 2^20.
-/
import Derived.Test.YtfaekkbblpfbhaaDoorProg
import Derived.WalkKit
import Derived.WalkSpells
import Derived.WalkLawsBesides
import Derived.RowKit3
import Derived.Below
import Derived.Deep.QuietTactic
import Derived.BigQuiet
import Derived.WalkSmall
import Derived.Test.YtfaekkbblpfbhaaDoorIr36
import Derived.Laws.Rows
import Derived.Test.YtfaekkbblpfbhaaDoorIr05
namespace Go.Proofs.YtfaekkbblpfbhaaDoor
open Go.RowKit

theorem al_size (X : World) (o : Obj) : (X.alloc o).heap.size = X.heap.size + 1 := by simp
theorem addz (g i : Nat) : (⟨g, 0, none⟩ : Addr).add i = ⟨g, i, none⟩ := by
  unfold Addr.add; split
  · subst_vars; rfl
  · simp
theorem addz2 (g i j : Nat) (hj : ¬ j = 0) : ((⟨g, 0, none⟩ : Addr).add i).add j = ⟨g, i + j, none⟩ := by
  rw [addz]; unfold Addr.add; rw [if_neg hj]
theorem row_new (X : World) (cs : Array Value) (t : TypeId) (j : Nat) (v : Value) (h : cs[j]? = some v) : (X.alloc (.cells cs t)).cell? ⟨X.heap.size, j, none⟩ = some v := by
  rw [cell_of_row _ _ _ _ _ _ (heap_alloc_new X _)]; exact h
theorem wcur_full (f z : Nat → Value) (N i : Nat) (h : i < N) : (wcur f z N N)[i]? = some (f i) := by rw [wcur_get _ _ _ _ _ h, if_pos h]
theorem wide_ints (X : World) (K : IntKind) (z : Nat → Value) (zs : List Int) (t : TypeId) : IntsAt (X.alloc (.cells (wcur (wInt K zs) z (zs.length + 64) (zs.length + 64)) t)) (some ⟨X.heap.size, 0, none⟩) K zs := fun i hi =>
  ⟨_, rfl, by rw [addz]; exact row_new _ _ _ _ _ (by rw [wcur_full _ _ _ _ (by omega)]; simp [wInt, hi])⟩
theorem wide_marki (X : World) (K : IntKind) (z : Nat → Value) (zs : List Int) (t : TypeId) : MarkI (X.alloc (.cells (wcur (wInt K zs) z (zs.length + 64) (zs.length + 64)) t)) K X.heap.size zs.length := fun i h1 h2 =>
  row_new _ _ _ _ _ (by rw [wcur_full _ _ _ _ h2]; simp [wInt, mark, show ¬ i < zs.length by omega])
end Go.Proofs.YtfaekkbblpfbhaaDoor

namespace Go.Proofs.YtfaekkbblpfbhaaDoor
open Go.RowKit


def wByt (zs : List Int) (i : Nat) : Value := .int .u8 (if i < zs.length then nth zs i else (279 + 7 * (i : Int) + 3) % 256)
theorem make31 (f : Nat → Value) (n : Nat) (hn : n ≤ 1048576) (w : World) : (Instr.makeSlice 32 (.int .i64 ((n : Int) + 64)) (.int .i64 ((n : Int) + 64))).run Tryd.prog w = .ok (.slice (some ⟨w.heap.size, 0, none⟩) (n + 64) (n + 64)) (w.alloc (.cells (wcur f (fun _ => .int .u8 0) (n + 64) 0) 5)) := by
  obtain ⟨i, hi, hz, hs, hb⟩ := info5
  have h := run_makeSlice (P := Tryd.prog) w 32 5 i _ Tryd.underlying32 hi hz .i64 .i64 ((n : Int) + 64) ((n : Int) + 64) (by omega) (by omega) (by rw [hs]; omega) (by rw [hb]; omega) (by omega)
  rw [hs, Nat.mul_one, show ((n : Int) + 64).toNat = n + 64 by omega] at h
  rw [h, ← made_wcur f (.int .u8 0) (n + 64)]
  rfl
set_option maxRecDepth 100000 in
set_option maxHeartbeats 1000000 in
theorem widebytes_any (O : Option Addr) (ca : Nat) (zs : List Int) (w : World) (hA : IntsAt w O .u8 zs) (hz : zs.length ≤ 1048576) :
    Calls Tryd.prog 18 #[.slice O zs.length ca] w fun e w' => e = .returned (.slice (some ⟨w.heap.size, 0, none⟩) zs.length (zs.length + 64)) ∧ w' = w.alloc (.cells (wcur (wByt zs) (fun _ => .int .u8 0) (zs.length + 64) (zs.length + 64)) 5) := by
  have hm := make31 (wByt zs) zs.length hz
  go_enter Tryd.func18, Tryd.ntmps18
  go_wp2
  go_loopw [4] (fun i wr => ∃ k : Nat, i = .int .i64 k ∧ k ≤ zs.length + 64 ∧ wr = w.alloc (.cells (wcur (wByt zs) (fun _ => .int .u8 0) (zs.length + 64) k) 5)) (fun i _ => zs.length + 64 - (intOf i).toNat)
  case atStart => exact ⟨0, rfl, by omega, rfl⟩
  case round =>
    obtain ⟨k, rfl, hk, rfl⟩ := hrel
    clear hm
    have hsz := wcur_size (wByt zs) (fun _ => .int .u8 0) (zs.length + 64) k
    by_cases hlt : k < zs.length + 64
    · have hg : (wcur (wByt zs) (fun _ => .int .u8 0) (zs.length + 64) k)[k]? = some (.int .u8 0) := by rw [wcur_get _ _ _ _ _ hlt]; simp
      have hs := wcur_set (wByt zs) (fun _ => .int .u8 0) (zs.length + 64) k hlt
      by_cases h2 : k < zs.length
      · obtain ⟨a, rfl, c1⟩ := hA k h2
        rw [show wByt zs k = .int .u8 (nth zs k) by simp [wByt, h2]] at hs
        have HS : Hid _ := hs
        clear hs
        have c2 : (w.alloc (.cells (wcur (wByt zs) (fun _ => .int .u8 0) (zs.length + 64) k) 5)).cell? (a.add k) = some (.int .u8 (nth zs k)) := lkeep (lb_alloc (Below.refl _ _) _) c1
        clear c1
        go_wp2
        go_roundw
        case rel => exact ⟨k + 1, by go_num, by omega, by rw [← HS.out]⟩
        case measure => simp [intOf]; omega
      · rw [show wByt zs k = .int .u8 ((279 + 7 * (k : Int) + 3) % 256) by simp [wByt, h2]] at hs
        have HS : Hid _ := hs
        clear hs
        go_wp2
        go_roundw
        case rel => exact ⟨k + 1, by go_num, by omega, by rw [← HS.out]⟩
        case measure => simp [intOf]; omega
    · obtain rfl : k = zs.length + 64 := by omega
      clear hlt hk
      go_wp2
      go_ret
      exact ⟨rfl, rfl⟩
def MarkB (w : World) (g n : Nat) : Prop := ∀ i, n ≤ i → i < n + 64 → w.cell? ⟨g, i, none⟩ = some (.int .u8 ((279 + 7 * (i : Int) + 3) % 256))
theorem MarkB.keep {w w1 : World} {g n : Nat} (h : MarkB w g n) (hb : Below w.heap.size w w1) : MarkB w1 g n := fun i a b => lkeep hb (h i a b)
theorem widebytes_lies (O : Option Addr) (ca : Nat) (zs : List Int) (w : World) (hA : IntsAt w O .u8 zs) (hz : zs.length ≤ 1048576) :
    Calls Tryd.prog 18 #[.slice O zs.length ca] w fun e w' => ∃ g : Nat, e = .returned (.slice (some ⟨g, 0, none⟩) zs.length (zs.length + 64)) ∧ Below w.heap.size w w' ∧ IntsAt w' (some ⟨g, 0, none⟩) .u8 zs ∧ MarkB w' g zs.length := by
  refine (widebytes_any O ca zs w hA hz).mono ?_
  rintro e w' ⟨rfl, rfl⟩
  refine ⟨w.heap.size, rfl, lb_alloc (Below.refl _ _) _, fun i hi => ⟨_, rfl, ?_⟩, fun i h1 h2 => ?_⟩
  · rw [addz]
    exact row_new _ _ _ _ _ (by rw [wcur_full _ _ _ _ (by omega)]; simp [wByt, hi])
  · exact row_new _ _ _ _ _ (by rw [wcur_full _ _ _ _ (by omega)]; simp [wByt, show ¬ i < zs.length by omega])
set_option maxRecDepth 100000 in
set_option maxHeartbeats 1000000 in
theorem sparebytes_any (g n : Nat) (w : World) (hA : MarkB w g n) (hz : n ≤ 1048576) :
    Calls Tryd.prog 23 #[.slice (some ⟨g, 0, none⟩) n (n + 64)] w fun e w' => e = .returned (.bool true) ∧ w' = w := by
  go_enter Tryd.func23, Tryd.ntmps23
  go_wp2
  go_loopw [4] (fun i wr => ∃ k : Nat, i = .int .i64 k ∧ n ≤ k ∧ k ≤ n + 64 ∧ wr = w) (fun i _ => n + 64 - (intOf i).toNat)
  case atStart => exact ⟨n, rfl, by omega, by omega, rfl⟩
  case round =>
    obtain ⟨k, rfl, hk0, hk, rfl⟩ := hrel
    by_cases hlt : k < n + 64
    · have c1 := hA k hk0 hlt
      go_wp2
      go_roundw
      case rel => exact ⟨k + 1, by go_num, by omega, by omega, trivial⟩
      case measure => simp [intOf]; omega
    · obtain rfl : k = n + 64 := by omega
      go_wp2
      go_ret
      exact ⟨rfl, rfl⟩


end Go.Proofs.YtfaekkbblpfbhaaDoor
