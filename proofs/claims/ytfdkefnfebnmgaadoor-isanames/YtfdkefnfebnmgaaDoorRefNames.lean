/-
  Name and Of of the document's answer, for every op and every string; no condition.
-/
import Derived.Test.YtfdkefnfebnmgaaDoorProg
import Derived.Test.YtfdkefnfebnmgaaDoorInsNames
import Derived.WalkKit
import Derived.WalkSpells
import Derived.WalkLawsBesides
import Derived.RowKit3
import Derived.Below
namespace Go.Proofs.YtfdkefnfebnmgaaDoor
open Go.RowKit

theorem retS {a b : ByteArray} (h : a = b) : Ending.returned (.string a) = .returned (.string b) := by rw [h]

set_option maxRecDepth 100000 in
set_option maxHeartbeats 1000000 in
theorem refname_any (op : Int) (w : World) : Calls Tryd.prog 11 #[.int .i8 op] w fun e w' => e = .returned (.string (nameB op)) ∧ w' = w := by
  by_cases ho1 : op < 0
  · have HN : Hid (nameB op = ⟨#[]⟩) := name_out (Or.inl ho1)
    go_enter Tryd.func11, Tryd.ntmps11
    go_wp2
    go_ret
    exact ⟨retS HN.out.symm, rfl⟩
  by_cases ho2 : 21 < op
  · have HN : Hid (nameB op = ⟨#[]⟩) := name_out (Or.inr ho2)
    go_enter Tryd.func11, Tryd.ntmps11
    go_wp2
    go_ret
    exact ⟨retS HN.out.symm, rfl⟩
  have HO : Hid (¬ (op < 0 ∨ 21 < op)) := fun h => by omega
  go_enter Tryd.func11, Tryd.ntmps11
  go_wp2
  go_loop [3, 4, 5] (fun fr k i => ∃ a b c : Nat, fr = .int .i64 a ∧ k = .int .i8 b ∧ i = .int .i64 c ∧ a ≤ c ∧ b ≤ c ∧ c ≤ 100 ∧ Hid (scan (nmL.drop c) c a b op = scan nmL 0 0 0 op)) (fun _ _ i => 100 - (intOf i).toNat)
  case atStart => exact ⟨0, 0, 0, rfl, rfl, rfl, by omega, by omega, by omega, by simp [Hid]⟩
  case round =>
    obtain ⟨a, b, c, rfl, rfl, rfl, hac, hbc, hc, HG⟩ := hrel
    by_cases hlt : c < 100
    · have hlt' : (c : Int) < 100 := by omega
      have HZ : Hid (c < nmB.size) := by rw [Hid, nmB_size]; exact hlt
      go_wp2
      · have e := scan_ne (a := a) (k := b) (op := op) HZ.out ‹_›
        go_round
        case rel => exact ⟨a, b, c + 1, rfl, rfl, by go_num, by omega, by omega, by omega, by have h := HG.out; rw [e] at h; exact h⟩
        case measure => simp [intOf]; omega
      · have e := scan_at (a := a) (k := b) (op := op) HZ.out ‹_› ‹_›
        have h := HG.out
        rw [e] at h
        go_ret
        exact ⟨retS (name_some HO.out h.symm).symm, rfl⟩
      · have e := scan_on (a := a) (k := b) (op := op) HZ.out ‹_› ‹_›
        go_round
        case rel => exact ⟨c + 1, b + 1, c + 1, by go_num, by go_num, by go_num, by omega, by omega, by omega, by have h := HG.out; rw [e] at h; exact h⟩
        case measure => simp [intOf]; omega
    · have HN : Hid (nameB op = ⟨#[]⟩) := by
        have h := HG.out
        rw [List.drop_eq_nil_of_le (by show nmB.size ≤ c; rw [nmB_size]; omega)] at h
        exact name_none h.symm
      go_wp2
      go_ret
      exact ⟨retS HN.out.symm, rfl⟩

set_option maxRecDepth 100000 in
set_option maxHeartbeats 1000000 in
theorem refof_any (s : ByteArray) (w : World) : Calls Tryd.prog 9 #[.string s] w fun e w' => e = .returned (.tuple #[.int .i8 ((ofF s.data.toList).getD 0), .bool (ofF s.data.toList).isSome]) ∧ w' = w := by
  go_enter Tryd.func9, Tryd.ntmps9
  go_wp2
  go_loop [4] (fun i => ∃ j : Nat, i = .int .i8 j ∧ j ≤ 22 ∧ Hid (ofAux (ops.drop j) s.data.toList = ofF s.data.toList)) (fun i => 22 - (intOf i).toNat)
  case atStart => exact ⟨0, rfl, by omega, rfl⟩
  case round =>
    obtain ⟨j, rfl, hj, HG⟩ := hrel
    by_cases hlt : j < 22
    · have hlt' : (j : Int) ≤ 21 := by omega
      by_cases hn : (nameB j).data.toList = s.data.toList
      · have hq : ((nameB j).toList == s.toList) = true := by rw [ByteArray.toList_eq, ByteArray.toList_eq, hn]; simp
        have HF : Hid (ofF s.data.toList = some (j : Int)) := by rw [Hid, ← HG.out]; exact of_yes hlt hn
        clear hn
        go_wp2_with (go_at_call 11; refine (refname_any _ _).mono ?_; rintro e w' ⟨rfl, rfl⟩)
        go_ret2
        exact ⟨by rw [HF.out]; rfl, rfl⟩
      · have hq : ((nameB j).toList == s.toList) = false := by rw [ByteArray.toList_eq, ByteArray.toList_eq]; simpa using hn
        have e := of_no hlt hn
        have HE : Hid (ofAux (ops.drop j) s.data.toList = ofAux (ops.drop (j + 1)) s.data.toList) := e
        clear hn e
        go_wp2_with (go_at_call 11; refine (refname_any _ _).mono ?_; rintro e w' ⟨rfl, rfl⟩)
        go_round
        case rel => exact ⟨j + 1, by go_num, by omega, by rw [Hid, ← HE.out]; exact HG.out⟩
        case measure => simp [intOf]; omega
    · have HF : Hid (ofF s.data.toList = none) := by
        rw [Hid, ← HG.out, List.drop_eq_nil_of_le (by show 22 ≤ j; omega)]; rfl
      go_wp2
      go_ret2
      exact ⟨by rw [HF.out]; rfl, rfl⟩

end Go.Proofs.YtfdkefnfebnmgaaDoor
