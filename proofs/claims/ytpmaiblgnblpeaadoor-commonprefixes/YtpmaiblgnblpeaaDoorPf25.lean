/-
  rising: the places of a list. slices.Clone of a list of ints that has one.
-/
import Derived.Test.YtpmaiblgnblpeaaDoorProg
import Derived.WalkKit
import Derived.WalkSpells
import Derived.WalkLawsBesides
import Derived.RowKit3
import Derived.Below
import Derived.Deep.QuietTactic
import Derived.BigQuiet
import Derived.WalkSmall
import Derived.Laws.Rows
import Derived.Test.YtpmaiblgnblpeaaDoorPf23
import Derived.Deep.RegionHeld3
import Derived.Test.YtpmaiblgnblpeaaDoorPf24
namespace Go.Proofs.YtpmaiblgnblpeaaDoor
open Go.RowKit

theorem infoR3 : ∃ i, Tryd.prog.info? 3 = some i ∧ i.zero = some (.int .i64 0) ∧ i.size = 1 ∧ i.bytes = 8 :=
  ⟨(Tryd.prog.info? 3).get (by kernel_rfl), by kernel_rfl, by kernel_rfl, by kernel_rfl, by kernel_rfl⟩
theorem made_row (n : Nat) : madeCells #[.int .i64 0] n = (rowC n fun _ => 0).toArray := by
  rw [← Array.toList_inj]
  show (madeCells #[.int .i64 0] n).toList = rowC n fun _ => 0
  apply List.ext_getElem?
  intro i
  by_cases h : i < n
  · rw [rowC_get h]
    simp [madeCells, h, Nat.mod_one]
  · rw [List.getElem?_eq_none (by simp [madeCells]; omega), List.getElem?_eq_none (by rw [rowC_len]; omega)]
theorem make_row (n : Nat) (hn : n ≤ 1048576) (w : World) : (Instr.makeSlice 22 (.int .i64 (n : Int)) (.int .i64 (n : Int))).run Tryd.prog w = .ok (.slice (some ⟨w.heap.size, 0, none⟩) n n) (w.alloc (.cells (rowC n fun _ => 0).toArray 3)) := by
  obtain ⟨i, hi, hz, hs, hb⟩ := infoR3
  have h := run_makeSlice (P := Tryd.prog) w 22 3 i _ Tryd.underlying22 hi hz .i64 .i64 (n : Int) (n : Int) (by omega) (by omega) (by rw [hs]; omega) (by rw [hb]; omega) (by omega)
  rw [hs, show ((n : Int)).toNat = n by omega, Nat.mul_one] at h
  rw [← made_row]
  exact h
theorem RwN.made (w : World) (n : Nat) (f : Nat → Int) : RwN (w.alloc (.cells (rowC n f).toArray 3)) w.heap.size n f := heap_alloc_new _ _
set_option maxRecDepth 100000 in
set_option maxHeartbeats 8000000 in
theorem rising_any (n : Nat) (w : World) (hn : n ≤ 1048576) : Calls Tryd.prog 44 #[.int .i64 (n : Int)] w fun e w' => e = .returned (.slice (some ⟨w.heap.size, 0, none⟩) n n) ∧ RwP w' w.heap.size n (fun j => j) ∧ Below w.heap.size w w' := by
  have hm := make_row n hn
  have HS : Hid (RwN (w.alloc (.cells (rowC n fun _ => 0).toArray 3)) w.heap.size n (fun j => if j < 0 then (j : Int) else 0)) := RwN.made w n _
  have HB : Hid (Below w.heap.size w (w.alloc (.cells (rowC n fun _ => 0).toArray 3))) := lb_alloc (Below.refl _ _) _
  go_enter Tryd.func44, Tryd.ntmps44
  go_wp2
  go_loopw [9] (fun vk wr => ∃ k : Nat, vk = .int .i64 (k : Int) ∧ k ≤ n ∧ Hid (RwN wr w.heap.size n (fun j => if j < k then (j : Int) else 0)) ∧ Hid (Below w.heap.size w wr)) (fun vk _ => n - (intOf vk).toNat)
  case atStart => exact ⟨0, rfl, Nat.zero_le _, HS, HB⟩
  case round =>
    clear HS HB
    obtain ⟨k, rfl, hk, HS, HB⟩ := hrel
    by_cases k1 : k < n
    · have k1' : (k : Int) < (n : Int) := by omega
      have q1 := HS.out.cell k1
      have q2 := HS.out.frz k
      have HE : Hid (RwN (wr.setCell ⟨w.heap.size, k, none⟩ (.int .i64 (k : Int))) w.heap.size n (fun j => if j < k + 1 then (j : Int) else 0)) := (HS.out.set k1 (k : Int)).same fun i _ => by
        show (if i = k then (k : Int) else if i < k then (i : Int) else 0) = if i < k + 1 then (i : Int) else 0
        by_cases e : i = k
        · subst e; rw [if_pos rfl, if_pos (by omega)]
        · rw [if_neg e]
          by_cases h1 : i < k
          · rw [if_pos h1, if_pos (by omega)]
          · rw [if_neg h1, if_neg (by omega)]
      have HB2 : Hid (Below w.heap.size w (wr.setCell ⟨w.heap.size, k, none⟩ (.int .i64 (k : Int)))) := ((But.refl w.heap.size wr).set k _).below HB.out (Nat.le_refl _)
      clear HS HB
      go_wp2
      go_roundw
      case rel => exact ⟨k + 1, by go_num, by omega, HE, HB2⟩
      case measure => simp [intOf]; omega
    · have k1' : ¬ (k : Int) < (n : Int) := by omega
      have HD : Hid (RwP wr w.heap.size n (fun j => j)) := HS.out.same fun i hi => by show (if i < k then (i : Int) else 0) = _; rw [if_pos (by omega)]
      go_wp2
      go_ret
      exact ⟨rfl, HD.out, HB.out⟩



end Go.Proofs.YtpmaiblgnblpeaaDoor

namespace Go.Proofs.YtpmaiblgnblpeaaDoor
open Go.RowKit

theorem ints_newsC {w : World} {X : Addr} {L : List Int} (h : IntsAt w (some X) .i64 L) (j : Nat) (u : Value) (hu : (iVals .i64 L)[j]? = some u) : w.cell? (X.add j) = some u := by
  have hj : j < L.length := by
    have := (List.getElem?_eq_some_iff.1 hu).1
    simpa [iVals] using this
  obtain ⟨a, ea, q⟩ := h j hj
  obtain rfl := Option.some.inj ea
  rw [q, ← hu, iVals_get hj]
theorem some_c (A : Addr) (n c : Nat) (w : World) : (binOp BinOp.eql 22 (.slice (some A) n c) (.slice none 0 0)).run Tryd.prog w = .ok (.bool false) w := by kernel_rfl
theorem ints_oneC (L : List Int) : ∀ u ∈ iVals .i64 L, u.oneCell' = true := fun u hu => by
  unfold iVals at hu
  obtain ⟨x, _, rfl⟩ := List.mem_map.1 hu
  rfl
set_option maxRecDepth 100000 in
set_option maxHeartbeats 8000000 in
theorem clone_ints (A : Addr) (c : Nat) (l : List Int) (w : World) (hA : IntsAt w (some A) .i64 l) (hl0 : 0 < l.length) (hl : l.length ≤ 1048576) : Calls Tryd.prog 45 #[.slice (some A) l.length c] w fun e w' => ∃ g N : Nat, e = .returned (.slice (some ⟨g, 0, none⟩) l.length N) ∧ w.heap.size ≤ g ∧ RwL w' g N l.length (nth l) ∧ N ≤ maxLen ∧ Below w.heap.size w w' := by
  obtain ⟨iI, hi, hz0, hz1, hz2⟩ := infoR3
  have HA : Hid (IntsAt (w.alloc (.cells #[] 3)) (some A) .i64 l) := hA.keep (lb_alloc (Below.refl _ _) _)
  have HB : Hid (Below w.heap.size w (w.alloc (.cells #[] 3))) := lb_alloc (Below.refl _ _) _
  have HO : Hid ((w.alloc (.cells #[] 3)).ownsRow w.heap.size 3 1 (.slice (some ⟨w.heap.size, 0, none⟩) 0 0) 0 []) := ⟨rfl, .inr ⟨w.heap.size, 0, _, rfl, Nat.le_refl _, heap_alloc_new _ _, Nat.le_refl _, by unfold maxLen; omega, rfl, rfl⟩⟩
  have hne := some_c A l.length c
  go_enter Tryd.func45, Tryd.ntmps45
  go_wp2_with (at_builtin; go_loud (refine wpList_append_own _ rfl (.tmp 5) (.tmp 6) 22 rfl w.heap.size 3 iI (.int .i64 0) 1 8 Tryd.underlying22 hi hz0 hz1 hz2 rfl (by decide) (.slice (some ⟨w.heap.size, 0, none⟩) 0 0) 0 [] rfl HO.out A l.length c (iVals .i64 l) rfl (by simp [iVals]) (fun j u hu => ints_newsC HA.out j u hu) (ints_oneC _) (by unfold maxLen; omega) (by omega) HB.out.size ?_; intro v3 w6 hown hgrow _; have HB6 : Hid (Below w.heap.size w w6) := HB.out.grown hgrow HB.out.size (fun b hb => (HO.out.lt b hb).1); have HR6 : Hid (w6.ownsRow w.heap.size 3 1 v3 (0 + l.length) ([] ++ iVals .i64 l)) := hown; clear hown hgrow))
  have h6 := HR6.out
  rw [Nat.zero_add, List.nil_append] at h6
  rcases h6.2 with ⟨_, e⟩ | ⟨g, cap, cur, e, b1, b2, b3, b4, b5, b6⟩
  · omega
  · subst e
    go_wp2
    go_ret
    refine ⟨g, cap, rfl, b1, ⟨cur, b2, by omega, b3, fun i hi => ?_⟩, b4, HB6.out⟩
    rw [Nat.mul_one] at b6
    have h7 : (cur.toList.take l.length)[i]? = some (.int .i64 (nth l i)) := by rw [b6, iVals_get hi]
    rw [List.getElem?_take, if_pos hi] at h7
    simpa using h7



end Go.Proofs.YtpmaiblgnblpeaaDoor
