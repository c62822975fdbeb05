/-
  The first three looks at an object, by the document's answer; its data is at most 2^20 long. Of and At of the document's answer, for every object whose lists are at most 2^20 long.
-/
import Derived.Test.YtbckolkgncajfaaGreatDoorProg
import Derived.WalkKit
import Derived.WalkSpells
import Derived.WalkLawsBesides
import Derived.RowKit3
import Derived.Below
import Derived.Deep.QuietTactic
import Derived.BigQuiet
import Derived.WalkSmall
import Derived.Test.YtbckolkgncajfaaGreatDoorLo28
import Derived.Test.YtbckolkgncajfaaGreatDoorLo20
namespace Go.Proofs.YtbckolkgncajfaaGreatDoor
open Go.RowKit

set_option maxRecDepth 100000 in
set_option maxHeartbeats 1000000 in
theorem refsize_any (nm : ByteArray) (dA : Int) (A1 A2 A3 A4 : Option Addr) (nc c1 nd c2 ns c3 nr c4 : Nat) (w : World) (_hd : nd ≤ 1048576) :
    Calls Tryz.prog 85 #[.agg #[.string nm, .slice A1 nc c1, .int .i64 dA, .slice A2 nd c2, .slice A3 ns c3, .slice A4 nr c4]] w fun e w' => e = .returned (.tuple #[.int .i64 (sizeC (nameOK nm) nc ns nr nd dA).1, .int .i64 (sizeC (nameOK nm) nc ns nr nd dA).2]) ∧ Below w.heap.size w w' := by
  have C := refname_any nm
  generalize nameOK nm = ok at C ⊢
  cases ok with
  | false =>
    have HE : Hid ((sizeC false nc ns nr nd dA) = (20, -1)) := by unfold Hid sizeC; rw [if_pos rfl]
    go_enter Tryz.func85, Tryz.ntmps85
    go_wp2_with fail
    refine (C _).mono ?_
    rintro e w1 ⟨rfl, rfl⟩
    go_wp2
    go_ret2
    exact ⟨ret2I HE.out.symm, lb_alloc (Below.refl _ _) _⟩
  | true =>
  by_cases h1 : 16384 < nc
  · have HE : Hid ((sizeC true nc ns nr nd dA) = (21, -1)) := by unfold Hid sizeC; rw [if_neg (by simp), if_pos h1]
    go_enter Tryz.func85, Tryz.ntmps85
    go_wp2_with fail
    refine (C _).mono ?_
    rintro e w1 ⟨rfl, rfl⟩
    go_wp2
    go_ret2
    exact ⟨ret2I HE.out.symm, lb_alloc (Below.refl _ _) _⟩
  by_cases h2 : 256 < ns
  · have HE : Hid ((sizeC true nc ns nr nd dA) = (21, -2)) := by unfold Hid sizeC; rw [if_neg (by simp), if_neg h1, if_pos h2]
    go_enter Tryz.func85, Tryz.ntmps85
    go_wp2_with fail
    refine (C _).mono ?_
    rintro e w1 ⟨rfl, rfl⟩
    go_wp2
    go_ret2
    exact ⟨ret2I HE.out.symm, lb_alloc (Below.refl _ _) _⟩
  by_cases h3 : nc < nr
  · have HE : Hid ((sizeC true nc ns nr nd dA) = (21, -3)) := by unfold Hid sizeC; rw [if_neg (by simp), if_neg h1, if_neg h2, if_pos h3]
    go_enter Tryz.func85, Tryz.ntmps85
    go_wp2_with fail
    refine (C _).mono ?_
    rintro e w1 ⟨rfl, rfl⟩
    go_wp2
    go_ret2
    exact ⟨ret2I HE.out.symm, lb_alloc (Below.refl _ _) _⟩
  by_cases h4 : dA < 0
  · have HE : Hid ((sizeC true nc ns nr nd dA) = (25, -1)) := by unfold Hid sizeC; rw [if_neg (by simp), if_neg h1, if_neg h2, if_neg h3, if_pos (Or.inl h4)]
    go_enter Tryz.func85, Tryz.ntmps85
    go_wp2_with fail
    refine (C _).mono ?_
    rintro e w1 ⟨rfl, rfl⟩
    go_wp2
    go_ret2
    exact ⟨ret2I HE.out.symm, lb_alloc (Below.refl _ _) _⟩
  by_cases h5 : 4096 < dA
  · have HE : Hid ((sizeC true nc ns nr nd dA) = (25, -1)) := by unfold Hid sizeC; rw [if_neg (by simp), if_neg h1, if_neg h2, if_neg h3, if_pos (Or.inr (Or.inl h5))]
    go_enter Tryz.func85, Tryz.ntmps85
    go_wp2_with fail
    refine (C _).mono ?_
    rintro e w1 ⟨rfl, rfl⟩
    go_wp2
    go_ret2
    exact ⟨ret2I HE.out.symm, lb_alloc (Below.refl _ _) _⟩
  by_cases h6 : 4096 - dA < (nd : Int)
  · have HE : Hid ((sizeC true nc ns nr nd dA) = (25, -1)) := by unfold Hid sizeC; rw [if_neg (by simp), if_neg h1, if_neg h2, if_neg h3, if_pos (Or.inr (Or.inr h6))]
    go_enter Tryz.func85, Tryz.ntmps85
    go_wp2_with fail
    refine (C _).mono ?_
    rintro e w1 ⟨rfl, rfl⟩
    go_wp2
    go_ret2
    exact ⟨ret2I HE.out.symm, lb_alloc (Below.refl _ _) _⟩
  · have HE : Hid ((sizeC true nc ns nr nd dA) = (0, 0)) := by unfold Hid sizeC; rw [if_neg (by simp), if_neg h1, if_neg h2, if_neg h3, if_neg (by omega)]
    go_enter Tryz.func85, Tryz.ntmps85
    go_wp2_with fail
    refine (C _).mono ?_
    rintro e w1 ⟨rfl, rfl⟩
    go_wp2
    go_ret2
    exact ⟨ret2I HE.out.symm, lb_alloc (Below.refl _ _) _⟩




end Go.Proofs.YtbckolkgncajfaaGreatDoor

namespace Go.Proofs.YtbckolkgncajfaaGreatDoor
open Go.RowKit

set_option maxRecDepth 100000 in
set_option maxHeartbeats 1000000 in
theorem refof_any (nm : ByteArray) (dA : Int) (A1 A2 A4 A : Option Addr) (n1 c1 n2 c2 n4 c4 cp : Nat) (zs : List Sym) (s : ByteArray) (w : World) (hA : SymsAt w A zs) (hz : zs.length ≤ 1048576) :
    Calls Tryz.prog 115 #[.agg #[.string nm, .slice A1 n1 c1, .int .i64 dA, .slice A2 n2 c2, .slice A zs.length cp, .slice A4 n4 c4], .string s] w fun e w' => e = .returned (.int .i64 (ofS zs s)) ∧ Below w.heap.size w w' := by
  have hB : SymsAt (w.alloc (.cells #[.string nm, .slice A1 n1 c1, .int .i64 dA, .slice A2 n2 c2, .slice A zs.length cp, .slice A4 n4 c4] 65)) A zs := hA.keep (lb_alloc (Below.refl _ _) _)
  clear hA
  go_enter Tryz.func115, Tryz.ntmps115
  go_wp2
  go_loop [5] (fun i => ∃ k : Nat, i = .int .i64 k ∧ k ≤ zs.length ∧ Hid (ofFrom (zs.drop k) s k = ofS zs s)) (fun i => zs.length - (intOf i).toNat)
  case atStart => exact ⟨0, rfl, by omega, rfl⟩
  case round =>
    obtain ⟨k, rfl, hk, HT⟩ := hrel
    by_cases hlt : k < zs.length
    · obtain ⟨a, rfl, c0, _⟩ := hB k hlt
      cases he : ((sName zs k).toList == s.toList)
      · have HE : Hid _ := of_miss hlt he
        go_wp2
        go_round
        case rel => exact ⟨k + 1, by go_num, by omega, by rw [Hid, ← HE.out]; exact HT.out⟩
        case measure => simp [intOf]; omega
      · have HE : Hid _ := of_hit hlt he
        go_wp2
        go_ret
        exact ⟨retI (by rw [← HT.out, HE.out]), lb_alloc (Below.refl _ _) _⟩
    · have HE : Hid _ := of_end (s := s) (by omega : zs.length ≤ k)
      go_wp2
      go_ret
      exact ⟨retI (by rw [← HT.out, HE.out]), lb_alloc (Below.refl _ _) _⟩



end Go.Proofs.YtbckolkgncajfaaGreatDoor
