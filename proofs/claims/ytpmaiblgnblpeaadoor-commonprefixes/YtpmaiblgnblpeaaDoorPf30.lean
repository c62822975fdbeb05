/-
  Where an object that was copied with marks lies, and that the marks stand; its lists are at most 2^20 long. WideInts, SpareInts: a list of ints with room behind it, marked.
-/
import Derived.Test.YtpmaiblgnblpeaaDoorProg
import Derived.WalkKit
import Derived.WalkSpells
import Derived.WalkLawsBesides
import Derived.RowKit3
import Derived.Below
import Derived.Deep.QuietTactic
import Derived.BigQuiet
import Derived.WalkSmall
import Derived.Laws.Rows
import Derived.Test.YtpmaiblgnblpeaaDoorPf29
namespace Go.Proofs.YtpmaiblgnblpeaaDoor
open Go.RowKit

theorem al_size (X : World) (o : Obj) : (X.alloc o).heap.size = X.heap.size + 1 := by simp
theorem addz (g i : Nat) : (⟨g, 0, none⟩ : Addr).add i = ⟨g, i, none⟩ := by
  unfold Addr.add; split
  · subst_vars; rfl
  · simp
theorem addz2 (g i j : Nat) (hj : ¬ j = 0) : ((⟨g, 0, none⟩ : Addr).add i).add j = ⟨g, i + j, none⟩ := by
  rw [addz]; unfold Addr.add; rw [if_neg hj]
theorem row_new (X : World) (cs : Array Value) (t : TypeId) (j : Nat) (v : Value) (h : cs[j]? = some v) : (X.alloc (.cells cs t)).cell? ⟨X.heap.size, j, none⟩ = some v := by
  rw [cell_of_row _ _ _ _ _ _ (heap_alloc_new X _)]; exact h
theorem wcur_full (f z : Nat → Value) (N i : Nat) (h : i < N) : (wcur f z N N)[i]? = some (f i) := by rw [wcur_get _ _ _ _ _ h, if_pos h]
theorem wide_ints (X : World) (K : IntKind) (z : Nat → Value) (zs : List Int) (t : TypeId) : IntsAt (X.alloc (.cells (wcur (wInt K zs) z (zs.length + 64) (zs.length + 64)) t)) (some ⟨X.heap.size, 0, none⟩) K zs := fun i hi =>
  ⟨_, rfl, by rw [addz]; exact row_new _ _ _ _ _ (by rw [wcur_full _ _ _ _ (by omega)]; simp [wInt, hi])⟩
theorem wide_marki (X : World) (K : IntKind) (z : Nat → Value) (zs : List Int) (t : TypeId) : MarkI (X.alloc (.cells (wcur (wInt K zs) z (zs.length + 64) (zs.length + 64)) t)) K X.heap.size zs.length := fun i h1 h2 =>
  row_new _ _ _ _ _ (by rw [wcur_full _ _ _ _ h2]; simp [wInt, mark, show ¬ i < zs.length by omega])





end Go.Proofs.YtpmaiblgnblpeaaDoor

namespace Go.Proofs.YtpmaiblgnblpeaaDoor
open Go.RowKit

theorem infoI3 : ∃ i, Tryd.prog.info? 3 = some i ∧ i.zero = some (.int .i64 0) ∧ i.size = 1 ∧ i.bytes = 8 :=
  ⟨(Tryd.prog.info? 3).get (by kernel_rfl), by kernel_rfl, by kernel_rfl, by kernel_rfl, by kernel_rfl⟩
theorem make30 (f : Nat → Value) (n : Nat) (hn : n ≤ 1048576) (w : World) : (Instr.makeSlice 22 (.int .i64 ((n : Int) + 64)) (.int .i64 ((n : Int) + 64))).run Tryd.prog w = .ok (.slice (some ⟨w.heap.size, 0, none⟩) (n + 64) (n + 64)) (w.alloc (.cells (wcur f (fun _ => .int .i64 0) (n + 64) 0) 3)) := by
  obtain ⟨i, hi, hz, hs, hb⟩ := infoI3
  have h := run_makeSlice (P := Tryd.prog) w 22 3 i _ Tryd.underlying22 hi hz .i64 .i64 ((n : Int) + 64) ((n : Int) + 64) (by omega) (by omega) (by rw [hs]; omega) (by rw [hb]; omega) (by omega)
  rw [hs, Nat.mul_one, show ((n : Int) + 64).toNat = n + 64 by omega] at h
  rw [h, ← made_wcur f (.int .i64 0) (n + 64)]
  rfl
set_option maxRecDepth 100000 in
set_option maxHeartbeats 1000000 in
theorem wideints_any (O : Option Addr) (ca : Nat) (zs : List Int) (w : World) (hA : IntsAt w O .i64 zs) (hz : zs.length ≤ 1048576) :
    Calls Tryd.prog 6 #[.slice O zs.length ca] w fun e w' => e = .returned (.slice (some ⟨w.heap.size, 0, none⟩) zs.length (zs.length + 64)) ∧ w' = w.alloc (.cells (wcur (wInt .i64 zs) (fun _ => .int .i64 0) (zs.length + 64) (zs.length + 64)) 3) := by
  have hm := make30 (wInt .i64 zs) zs.length hz
  go_enter Tryd.func6, Tryd.ntmps6
  go_wp2
  go_loopw [4] (fun i wr => ∃ k : Nat, i = .int .i64 k ∧ k ≤ zs.length + 64 ∧ wr = w.alloc (.cells (wcur (wInt .i64 zs) (fun _ => .int .i64 0) (zs.length + 64) k) 3)) (fun i _ => zs.length + 64 - (intOf i).toNat)
  case atStart => exact ⟨0, rfl, by omega, rfl⟩
  case round =>
    obtain ⟨k, rfl, hk, rfl⟩ := hrel
    clear hm
    have hsz := wcur_size (wInt .i64 zs) (fun _ => .int .i64 0) (zs.length + 64) k
    by_cases hlt : k < zs.length + 64
    · have hg : (wcur (wInt .i64 zs) (fun _ => .int .i64 0) (zs.length + 64) k)[k]? = some (.int .i64 0) := by rw [wcur_get _ _ _ _ _ hlt]; simp
      have hs := wcur_set (wInt .i64 zs) (fun _ => .int .i64 0) (zs.length + 64) k hlt
      by_cases h2 : k < zs.length
      · obtain ⟨a, rfl, c1⟩ := hA k h2
        rw [show wInt .i64 zs k = .int .i64 (nth zs k) by simp [wInt, h2]] at hs
        have HS : Hid _ := hs
        clear hs
        have c2 : (w.alloc (.cells (wcur (wInt .i64 zs) (fun _ => .int .i64 0) (zs.length + 64) k) 3)).cell? (a.add k) = some (.int .i64 (nth zs k)) := lkeep (lb_alloc (Below.refl _ _) _) c1
        clear c1
        go_wp2
        go_roundw
        case rel => exact ⟨k + 1, by go_num, by omega, by rw [← HS.out]⟩
        case measure => simp [intOf]; omega
      · rw [show wInt .i64 zs k = .int .i64 (9437184 + k + 1) by simp [wInt, h2, mark]] at hs
        have HS : Hid _ := hs
        clear hs
        go_wp2_with fail
        refine (num_any 9 k (by omega) (by omega) (by omega) (by omega) _).mono ?_
        rintro e w1 ⟨rfl, rfl⟩
        go_wp2
        go_roundw
        case rel => exact ⟨k + 1, by go_num, by omega, by rw [← HS.out]⟩
        case measure => simp [intOf]; omega
    · obtain rfl : k = zs.length + 64 := by omega
      clear hlt hk
      go_wp2
      go_ret
      exact ⟨rfl, rfl⟩





theorem spareints_any (g n : Nat) (w : World) (hA : ∀ i, n ≤ i → i < n + 64 → w.cell? ⟨g, i, none⟩ = some (.int .i64 (9437184 + i + 1))) (hz : n ≤ 1048576) :
    Calls Tryd.prog 10 #[.slice (some ⟨g, 0, none⟩) n (n + 64)] w fun e w' => e = .returned (.bool true) ∧ w' = w := by
  go_enter Tryd.func10, Tryd.ntmps10
  go_wp2
  go_loop [4] (fun i => ∃ k : Nat, i = .int .i64 k ∧ n ≤ k ∧ k ≤ n + 64) (fun i => n + 64 - (intOf i).toNat)
  case atStart => exact ⟨n, rfl, by omega, by omega⟩
  case round =>
    obtain ⟨k, rfl, hk, hk2⟩ := hrel
    by_cases hlt : k < n + 64
    · have c := hA k hk hlt
      go_wp2_with fail
      refine (num_any 9 k (by omega) (by omega) (by omega) (by omega) _).mono ?_
      rintro e w1 ⟨rfl, rfl⟩
      go_wp2
      go_round
      case rel => exact ⟨k + 1, by go_num, by omega, by omega⟩
      case measure => simp [intOf]; omega
    · go_wp2
      go_ret
      exact ⟨rfl, rfl⟩

theorem wideints_lies (A : Option Addr) (c : Nat) (l : List Int) (w : World) (hA : IntsAt w A .i64 l) (hl : l.length ≤ 1048576) : Calls Tryd.prog 6 #[.slice A l.length c] w fun e w' => ∃ g : Nat, e = .returned (.slice (some ⟨g, 0, none⟩) l.length (l.length + 64)) ∧ Below w.heap.size w w' ∧ IntsAt w' (some ⟨g, 0, none⟩) .i64 l ∧ MarkI w' .i64 g l.length := by
  refine (wideints_any A c l w hA hl).mono ?_
  rintro e w' ⟨rfl, rfl⟩
  exact ⟨w.heap.size, rfl, lb_alloc (Below.refl _ _) _, wide_ints _ _ _ _ _, wide_marki _ _ _ _ _⟩



end Go.Proofs.YtpmaiblgnblpeaaDoor
