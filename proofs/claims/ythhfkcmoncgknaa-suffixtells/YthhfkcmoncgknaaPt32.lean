/-
  rising: the places of a list.
-/
import Derived.Test.YthhfkcmoncgknaaProg
import Derived.WalkKit
import Derived.WalkSpells
import Derived.WalkLawsBesides
import Derived.RowKit3
import Derived.Below
import Derived.Deep.QuietTactic
import Derived.BigQuiet
import Derived.WalkSmall
import Derived.Laws.Rows
import Derived.Test.YthhfkcmoncgknaaPt30
namespace Go.Proofs.Ythhfkcmoncgknaa
open Go.RowKit

theorem infoR3 : ∃ i, Try.prog.info? 3 = some i ∧ i.zero = some (.int .i64 0) ∧ i.size = 1 ∧ i.bytes = 8 :=
  ⟨(Try.prog.info? 3).get (by kernel_rfl), by kernel_rfl, by kernel_rfl, by kernel_rfl, by kernel_rfl⟩
theorem made_row (n : Nat) : madeCells #[.int .i64 0] n = (rowC n fun _ => 0).toArray := by
  rw [← Array.toList_inj]
  show (madeCells #[.int .i64 0] n).toList = rowC n fun _ => 0
  apply List.ext_getElem?
  intro i
  by_cases h : i < n
  · rw [rowC_get h]
    simp [madeCells, h, Nat.mod_one]
  · rw [List.getElem?_eq_none (by simp [madeCells]; omega), List.getElem?_eq_none (by rw [rowC_len]; omega)]
theorem make_row (n : Nat) (hn : n ≤ 1048576) (w : World) : (Instr.makeSlice 22 (.int .i64 (n : Int)) (.int .i64 (n : Int))).run Try.prog w = .ok (.slice (some ⟨w.heap.size, 0, none⟩) n n) (w.alloc (.cells (rowC n fun _ => 0).toArray 3)) := by
  obtain ⟨i, hi, hz, hs, hb⟩ := infoR3
  have h := run_makeSlice (P := Try.prog) w 22 3 i _ Try.underlying22 hi hz .i64 .i64 (n : Int) (n : Int) (by omega) (by omega) (by rw [hs]; omega) (by rw [hb]; omega) (by omega)
  rw [hs, show ((n : Int)).toNat = n by omega, Nat.mul_one] at h
  rw [← made_row]
  exact h
theorem RwN.made (w : World) (n : Nat) (f : Nat → Int) : RwN (w.alloc (.cells (rowC n f).toArray 3)) w.heap.size n f := heap_alloc_new _ _
set_option maxRecDepth 100000 in
set_option maxHeartbeats 8000000 in
theorem rising_any (n : Nat) (w : World) (hn : n ≤ 1048576) : Calls Try.prog 22 #[.int .i64 (n : Int)] w fun e w' => e = .returned (.slice (some ⟨w.heap.size, 0, none⟩) n n) ∧ RwP w' w.heap.size n (fun j => j) ∧ Below w.heap.size w w' := by
  have hm := make_row n hn
  have HS : Hid (RwN (w.alloc (.cells (rowC n fun _ => 0).toArray 3)) w.heap.size n (fun j => if j < 0 then (j : Int) else 0)) := RwN.made w n _
  have HB : Hid (Below w.heap.size w (w.alloc (.cells (rowC n fun _ => 0).toArray 3))) := lb_alloc (Below.refl _ _) _
  go_enter Try.func22, Try.ntmps22
  go_wp2
  go_loopw [9] (fun vk wr => ∃ k : Nat, vk = .int .i64 (k : Int) ∧ k ≤ n ∧ Hid (RwN wr w.heap.size n (fun j => if j < k then (j : Int) else 0)) ∧ Hid (Below w.heap.size w wr)) (fun vk _ => n - (intOf vk).toNat)
  case atStart => exact ⟨0, rfl, Nat.zero_le _, HS, HB⟩
  case round =>
    clear HS HB
    obtain ⟨k, rfl, hk, HS, HB⟩ := hrel
    by_cases k1 : k < n
    · have k1' : (k : Int) < (n : Int) := by omega
      have q1 := HS.out.cell k1
      have q2 := HS.out.frz k
      have HE : Hid (RwN (wr.setCell ⟨w.heap.size, k, none⟩ (.int .i64 (k : Int))) w.heap.size n (fun j => if j < k + 1 then (j : Int) else 0)) := (HS.out.set k1 (k : Int)).same fun i _ => by
        show (if i = k then (k : Int) else if i < k then (i : Int) else 0) = if i < k + 1 then (i : Int) else 0
        by_cases e : i = k
        · subst e; rw [if_pos rfl, if_pos (by omega)]
        · rw [if_neg e]
          by_cases h1 : i < k
          · rw [if_pos h1, if_pos (by omega)]
          · rw [if_neg h1, if_neg (by omega)]
      have HB2 : Hid (Below w.heap.size w (wr.setCell ⟨w.heap.size, k, none⟩ (.int .i64 (k : Int)))) := ((But.refl w.heap.size wr).set k _).below HB.out (Nat.le_refl _)
      clear HS HB
      go_wp2
      go_roundw
      case rel => exact ⟨k + 1, by go_num, by omega, HE, HB2⟩
      case measure => simp [intOf]; omega
    · have k1' : ¬ (k : Int) < (n : Int) := by omega
      have HD : Hid (RwP wr w.heap.size n (fun j => j)) := HS.out.same fun i hi => by show (if i < k then (i : Int) else 0) = _; rw [if_pos (by omega)]
      go_wp2
      go_ret
      exact ⟨rfl, HD.out, HB.out⟩

end Go.Proofs.Ythhfkcmoncgknaa
