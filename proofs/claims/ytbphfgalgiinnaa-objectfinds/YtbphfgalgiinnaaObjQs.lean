/-
  Package object: the first questions, each by what it answers; lengths are at most 2^20.
-/
import Derived.Test.YtbphfgalgiinnaaProg
import Derived.WalkKit
import Derived.WalkSpells
import Derived.WalkLawsBesides
import Derived.RowKit3
import Derived.Below
import Derived.Deep.QuietTactic
import Derived.BigQuiet
import Derived.WalkSmall
import Derived.Test.YtbphfgalgiinnaaObjName
import Derived.Test.YtbphfgalgiinnaaObjSmall
namespace Go.Proofs.Ytbphfgalgiinnaa
open Go.RowKit

set_option maxRecDepth 100000 in
theorem q1_any (nm : ByteArray) (dA : Int) (A1 A2 A3 A4 : Option Addr) (nc c1 nd c2 ns c3 nr c4 : Nat) (b : Nat) (w : World) (o0 : w.cell? ⟨b, 0, none⟩ = some (.string nm)) (o1 : w.cell? ⟨b, 1, none⟩ = some (.slice A1 nc c1)) (o2 : w.cell? ⟨b, 2, none⟩ = some (.int .i64 dA)) (o3 : w.cell? ⟨b, 3, none⟩ = some (.slice A2 nd c2)) (o4 : w.cell? ⟨b, 4, none⟩ = some (.slice A3 ns c3)) (o5 : w.cell? ⟨b, 5, none⟩ = some (.slice A4 nr c4)) : Calls Try.prog 51 #[.pointer (some ⟨b, 0, none⟩)] w fun r w' => r = .returned (.tuple #[.int .i64 (rfs (!nameOK nm) (20)), .int .i64 (rfs (!nameOK nm) (-1))]) ∧ Below w.heap.size w w' := by
  have C := objname_raw nm
  cases h : nameOK nm with
  | false =>
    rw [h] at C
    clear h
    go_enter Try.func51, Try.ntmps51
    go_wp2_with fail
    refine (C _).mono ?_
    rintro r w1 ⟨rfl, rfl⟩
    go_wp2_with fail
    refine (refuse_yes (20) (-1) _).mono ?_
    rintro r w1 ⟨rfl, rfl⟩
    go_wp2
    go_ret2
    exact ⟨rfl, Below.refl _ _⟩
  | true =>
    rw [h] at C
    clear h
    go_enter Try.func51, Try.ntmps51
    go_wp2_with fail
    refine (C _).mono ?_
    rintro r w1 ⟨rfl, rfl⟩
    go_wp2_with fail
    refine (refuse_no (20) (-1) _).mono ?_
    rintro r w1 ⟨rfl, rfl⟩
    go_wp2
    go_ret2
    exact ⟨rfl, Below.refl _ _⟩
set_option maxRecDepth 100000 in
theorem q2_any (nm : ByteArray) (dA : Int) (A1 A2 A3 A4 : Option Addr) (nc c1 nd c2 ns c3 nr c4 : Nat) (b : Nat) (w : World) (o0 : w.cell? ⟨b, 0, none⟩ = some (.string nm)) (o1 : w.cell? ⟨b, 1, none⟩ = some (.slice A1 nc c1)) (o2 : w.cell? ⟨b, 2, none⟩ = some (.int .i64 dA)) (o3 : w.cell? ⟨b, 3, none⟩ = some (.slice A2 nd c2)) (o4 : w.cell? ⟨b, 4, none⟩ = some (.slice A3 ns c3)) (o5 : w.cell? ⟨b, 5, none⟩ = some (.slice A4 nr c4)) (hn : nc ≤ 1048576) : Calls Try.prog 53 #[.pointer (some ⟨b, 0, none⟩)] w fun r w' => r = .returned (.tuple #[.int .i64 (rfs (decide (16384 < nc)) (21)), .int .i64 (rfs (decide (16384 < nc)) (-1))]) ∧ Below w.heap.size w w' := by
  by_cases h : 16384 < nc
  · rw [decide_eq_true h]
    have hd : decide (16384 < nc) = true := decide_eq_true h
    have hi : decide ((16384 : Int) < (nc : Int)) = true := decide_eq_true (by omega)
    go_enter Try.func53, Try.ntmps53
    go_wp2_with fail
    refine (refuse_yes (21) (-1) _).mono ?_
    rintro r w1 ⟨rfl, rfl⟩
    go_wp2
    go_ret2
    exact ⟨rfl, Below.refl _ _⟩
  · rw [decide_eq_false h]
    have hd : decide (16384 < nc) = false := decide_eq_false h
    have hi : decide ((16384 : Int) < (nc : Int)) = false := decide_eq_false (by omega)
    go_enter Try.func53, Try.ntmps53
    go_wp2_with fail
    refine (refuse_no (21) (-1) _).mono ?_
    rintro r w1 ⟨rfl, rfl⟩
    go_wp2
    go_ret2
    exact ⟨rfl, Below.refl _ _⟩
set_option maxRecDepth 100000 in
theorem q3_any (nm : ByteArray) (dA : Int) (A1 A2 A3 A4 : Option Addr) (nc c1 nd c2 ns c3 nr c4 : Nat) (b : Nat) (w : World) (o0 : w.cell? ⟨b, 0, none⟩ = some (.string nm)) (o1 : w.cell? ⟨b, 1, none⟩ = some (.slice A1 nc c1)) (o2 : w.cell? ⟨b, 2, none⟩ = some (.int .i64 dA)) (o3 : w.cell? ⟨b, 3, none⟩ = some (.slice A2 nd c2)) (o4 : w.cell? ⟨b, 4, none⟩ = some (.slice A3 ns c3)) (o5 : w.cell? ⟨b, 5, none⟩ = some (.slice A4 nr c4)) (hn : ns ≤ 1048576) : Calls Try.prog 54 #[.pointer (some ⟨b, 0, none⟩)] w fun r w' => r = .returned (.tuple #[.int .i64 (rfs (decide (256 < ns)) (21)), .int .i64 (rfs (decide (256 < ns)) (-2))]) ∧ Below w.heap.size w w' := by
  by_cases h : 256 < ns
  · rw [decide_eq_true h]
    have hd : decide (256 < ns) = true := decide_eq_true h
    have hi : decide ((256 : Int) < (ns : Int)) = true := decide_eq_true (by omega)
    go_enter Try.func54, Try.ntmps54
    go_wp2_with fail
    refine (refuse_yes (21) (-2) _).mono ?_
    rintro r w1 ⟨rfl, rfl⟩
    go_wp2
    go_ret2
    exact ⟨rfl, Below.refl _ _⟩
  · rw [decide_eq_false h]
    have hd : decide (256 < ns) = false := decide_eq_false h
    have hi : decide ((256 : Int) < (ns : Int)) = false := decide_eq_false (by omega)
    go_enter Try.func54, Try.ntmps54
    go_wp2_with fail
    refine (refuse_no (21) (-2) _).mono ?_
    rintro r w1 ⟨rfl, rfl⟩
    go_wp2
    go_ret2
    exact ⟨rfl, Below.refl _ _⟩
set_option maxRecDepth 100000 in
theorem q4_any (nm : ByteArray) (dA : Int) (A1 A2 A3 A4 : Option Addr) (nc c1 nd c2 ns c3 nr c4 : Nat) (b : Nat) (w : World) (o0 : w.cell? ⟨b, 0, none⟩ = some (.string nm)) (o1 : w.cell? ⟨b, 1, none⟩ = some (.slice A1 nc c1)) (o2 : w.cell? ⟨b, 2, none⟩ = some (.int .i64 dA)) (o3 : w.cell? ⟨b, 3, none⟩ = some (.slice A2 nd c2)) (o4 : w.cell? ⟨b, 4, none⟩ = some (.slice A3 ns c3)) (o5 : w.cell? ⟨b, 5, none⟩ = some (.slice A4 nr c4)) (_hn : nc ≤ 1048576) (_hm : nr ≤ 1048576) : Calls Try.prog 55 #[.pointer (some ⟨b, 0, none⟩)] w fun r w' => r = .returned (.tuple #[.int .i64 (rfs (decide (nc < nr)) (21)), .int .i64 (rfs (decide (nc < nr)) (-3))]) ∧ Below w.heap.size w w' := by
  by_cases h : nc < nr
  · rw [decide_eq_true h]
    have hd : decide (nc < nr) = true := decide_eq_true h
    have hi : decide ((nc : Int) < (nr : Int)) = true := decide_eq_true (by omega)
    go_enter Try.func55, Try.ntmps55
    go_wp2_with fail
    refine (refuse_yes (21) (-3) _).mono ?_
    rintro r w1 ⟨rfl, rfl⟩
    go_wp2
    go_ret2
    exact ⟨rfl, Below.refl _ _⟩
  · rw [decide_eq_false h]
    have hd : decide (nc < nr) = false := decide_eq_false h
    have hi : decide ((nc : Int) < (nr : Int)) = false := decide_eq_false (by omega)
    go_enter Try.func55, Try.ntmps55
    go_wp2_with fail
    refine (refuse_no (21) (-3) _).mono ?_
    rintro r w1 ⟨rfl, rfl⟩
    go_wp2
    go_ret2
    exact ⟨rfl, Below.refl _ _⟩
set_option maxRecDepth 100000 in
theorem q5_any (nm : ByteArray) (dA : Int) (A1 A2 A3 A4 : Option Addr) (nc c1 nd c2 ns c3 nr c4 : Nat) (b : Nat) (w : World) (o0 : w.cell? ⟨b, 0, none⟩ = some (.string nm)) (o1 : w.cell? ⟨b, 1, none⟩ = some (.slice A1 nc c1)) (o2 : w.cell? ⟨b, 2, none⟩ = some (.int .i64 dA)) (o3 : w.cell? ⟨b, 3, none⟩ = some (.slice A2 nd c2)) (o4 : w.cell? ⟨b, 4, none⟩ = some (.slice A3 ns c3)) (o5 : w.cell? ⟨b, 5, none⟩ = some (.slice A4 nr c4)) (_hn : nd ≤ 1048576) (h1 : -9223372036854775808 ≤ dA) (h2 : dA ≤ 9223372036854775807) : Calls Try.prog 56 #[.pointer (some ⟨b, 0, none⟩)] w fun r w' => r = .returned (.tuple #[.int .i64 (rfs (!decide (0 ≤ dA ∧ (nd : Int) ≤ 4096 - dA)) (25)), .int .i64 (rfs (!decide (0 ≤ dA ∧ (nd : Int) ≤ 4096 - dA)) (-1))]) ∧ Below w.heap.size w w' := by
  have C := fits_any dA nd h1 h2
  by_cases h : 0 ≤ dA ∧ (nd : Int) ≤ 4096 - dA
  · rw [decide_eq_true h] at C ⊢
    clear h
    go_enter Try.func56, Try.ntmps56
    go_wp2_with fail
    refine (C _).mono ?_
    rintro r w1 ⟨rfl, rfl⟩
    go_wp2_with fail
    refine (refuse_no (25) (-1) _).mono ?_
    rintro r w1 ⟨rfl, rfl⟩
    go_wp2
    go_ret2
    exact ⟨rfl, Below.refl _ _⟩
  · rw [decide_eq_false h] at C ⊢
    clear h
    go_enter Try.func56, Try.ntmps56
    go_wp2_with fail
    refine (C _).mono ?_
    rintro r w1 ⟨rfl, rfl⟩
    go_wp2_with fail
    refine (refuse_yes (25) (-1) _).mono ?_
    rintro r w1 ⟨rfl, rfl⟩
    go_wp2
    go_ret2
    exact ⟨rfl, Below.refl _ _⟩

end Go.Proofs.Ytbphfgalgiinnaa
