/-
  Package object: the first questions, each by what it answers; lengths are at most 2^20. Which names were met, as a map reads; no Go in sight.
-/
import Derived.Test.YtbckolkgncajfaaGreatDoorProg
import Derived.WalkKit
import Derived.WalkSpells
import Derived.WalkLawsBesides
import Derived.RowKit3
import Derived.Below
import Derived.Deep.QuietTactic
import Derived.BigQuiet
import Derived.WalkSmall
import Derived.Test.YtbckolkgncajfaaGreatDoorLo25
import Derived.Test.YtbckolkgncajfaaGreatDoorLo20
import Derived.Maps.OwnSet
import Derived.Maps.Own
namespace Go.Proofs.YtbckolkgncajfaaGreatDoor
open Go.RowKit

set_option maxRecDepth 100000 in
theorem q1_any (nm : ByteArray) (dA : Int) (A1 A2 A3 A4 : Option Addr) (nc c1 nd c2 ns c3 nr c4 : Nat) (b : Nat) (w : World) (o0 : w.cell? ⟨b, 0, none⟩ = some (.string nm)) (o1 : w.cell? ⟨b, 1, none⟩ = some (.slice A1 nc c1)) (o2 : w.cell? ⟨b, 2, none⟩ = some (.int .i64 dA)) (o3 : w.cell? ⟨b, 3, none⟩ = some (.slice A2 nd c2)) (o4 : w.cell? ⟨b, 4, none⟩ = some (.slice A3 ns c3)) (o5 : w.cell? ⟨b, 5, none⟩ = some (.slice A4 nr c4)) : Calls Tryz.prog 99 #[.pointer (some ⟨b, 0, none⟩)] w fun r w' => r = .returned (.tuple #[.int .i64 (rfs (!nameOK nm) (20)), .int .i64 (rfs (!nameOK nm) (-1))]) ∧ Below w.heap.size w w' := by
  have C := objname_raw nm
  cases h : nameOK nm with
  | false =>
    rw [h] at C
    clear h
    go_enter Tryz.func99, Tryz.ntmps99
    go_wp2_with fail
    refine (C _).mono ?_
    rintro r w1 ⟨rfl, rfl⟩
    go_wp2_with fail
    refine (refuse_yes (20) (-1) _).mono ?_
    rintro r w1 ⟨rfl, rfl⟩
    go_wp2
    go_ret2
    exact ⟨rfl, Below.refl _ _⟩
  | true =>
    rw [h] at C
    clear h
    go_enter Tryz.func99, Tryz.ntmps99
    go_wp2_with fail
    refine (C _).mono ?_
    rintro r w1 ⟨rfl, rfl⟩
    go_wp2_with fail
    refine (refuse_no (20) (-1) _).mono ?_
    rintro r w1 ⟨rfl, rfl⟩
    go_wp2
    go_ret2
    exact ⟨rfl, Below.refl _ _⟩
set_option maxRecDepth 100000 in
theorem q2_any (nm : ByteArray) (dA : Int) (A1 A2 A3 A4 : Option Addr) (nc c1 nd c2 ns c3 nr c4 : Nat) (b : Nat) (w : World) (o0 : w.cell? ⟨b, 0, none⟩ = some (.string nm)) (o1 : w.cell? ⟨b, 1, none⟩ = some (.slice A1 nc c1)) (o2 : w.cell? ⟨b, 2, none⟩ = some (.int .i64 dA)) (o3 : w.cell? ⟨b, 3, none⟩ = some (.slice A2 nd c2)) (o4 : w.cell? ⟨b, 4, none⟩ = some (.slice A3 ns c3)) (o5 : w.cell? ⟨b, 5, none⟩ = some (.slice A4 nr c4)) (hn : nc ≤ 1048576) : Calls Tryz.prog 102 #[.pointer (some ⟨b, 0, none⟩)] w fun r w' => r = .returned (.tuple #[.int .i64 (rfs (decide (16384 < nc)) (21)), .int .i64 (rfs (decide (16384 < nc)) (-1))]) ∧ Below w.heap.size w w' := by
  by_cases h : 16384 < nc
  · rw [decide_eq_true h]
    have hd : decide (16384 < nc) = true := decide_eq_true h
    have hi : decide ((16384 : Int) < (nc : Int)) = true := decide_eq_true (by omega)
    go_enter Tryz.func102, Tryz.ntmps102
    go_wp2_with fail
    refine (refuse_yes (21) (-1) _).mono ?_
    rintro r w1 ⟨rfl, rfl⟩
    go_wp2
    go_ret2
    exact ⟨rfl, Below.refl _ _⟩
  · rw [decide_eq_false h]
    have hd : decide (16384 < nc) = false := decide_eq_false h
    have hi : decide ((16384 : Int) < (nc : Int)) = false := decide_eq_false (by omega)
    go_enter Tryz.func102, Tryz.ntmps102
    go_wp2_with fail
    refine (refuse_no (21) (-1) _).mono ?_
    rintro r w1 ⟨rfl, rfl⟩
    go_wp2
    go_ret2
    exact ⟨rfl, Below.refl _ _⟩
set_option maxRecDepth 100000 in
theorem q3_any (nm : ByteArray) (dA : Int) (A1 A2 A3 A4 : Option Addr) (nc c1 nd c2 ns c3 nr c4 : Nat) (b : Nat) (w : World) (o0 : w.cell? ⟨b, 0, none⟩ = some (.string nm)) (o1 : w.cell? ⟨b, 1, none⟩ = some (.slice A1 nc c1)) (o2 : w.cell? ⟨b, 2, none⟩ = some (.int .i64 dA)) (o3 : w.cell? ⟨b, 3, none⟩ = some (.slice A2 nd c2)) (o4 : w.cell? ⟨b, 4, none⟩ = some (.slice A3 ns c3)) (o5 : w.cell? ⟨b, 5, none⟩ = some (.slice A4 nr c4)) (hn : ns ≤ 1048576) : Calls Tryz.prog 103 #[.pointer (some ⟨b, 0, none⟩)] w fun r w' => r = .returned (.tuple #[.int .i64 (rfs (decide (256 < ns)) (21)), .int .i64 (rfs (decide (256 < ns)) (-2))]) ∧ Below w.heap.size w w' := by
  by_cases h : 256 < ns
  · rw [decide_eq_true h]
    have hd : decide (256 < ns) = true := decide_eq_true h
    have hi : decide ((256 : Int) < (ns : Int)) = true := decide_eq_true (by omega)
    go_enter Tryz.func103, Tryz.ntmps103
    go_wp2_with fail
    refine (refuse_yes (21) (-2) _).mono ?_
    rintro r w1 ⟨rfl, rfl⟩
    go_wp2
    go_ret2
    exact ⟨rfl, Below.refl _ _⟩
  · rw [decide_eq_false h]
    have hd : decide (256 < ns) = false := decide_eq_false h
    have hi : decide ((256 : Int) < (ns : Int)) = false := decide_eq_false (by omega)
    go_enter Tryz.func103, Tryz.ntmps103
    go_wp2_with fail
    refine (refuse_no (21) (-2) _).mono ?_
    rintro r w1 ⟨rfl, rfl⟩
    go_wp2
    go_ret2
    exact ⟨rfl, Below.refl _ _⟩
set_option maxRecDepth 100000 in
theorem q4_any (nm : ByteArray) (dA : Int) (A1 A2 A3 A4 : Option Addr) (nc c1 nd c2 ns c3 nr c4 : Nat) (b : Nat) (w : World) (o0 : w.cell? ⟨b, 0, none⟩ = some (.string nm)) (o1 : w.cell? ⟨b, 1, none⟩ = some (.slice A1 nc c1)) (o2 : w.cell? ⟨b, 2, none⟩ = some (.int .i64 dA)) (o3 : w.cell? ⟨b, 3, none⟩ = some (.slice A2 nd c2)) (o4 : w.cell? ⟨b, 4, none⟩ = some (.slice A3 ns c3)) (o5 : w.cell? ⟨b, 5, none⟩ = some (.slice A4 nr c4)) (_hn : nc ≤ 1048576) (_hm : nr ≤ 1048576) : Calls Tryz.prog 104 #[.pointer (some ⟨b, 0, none⟩)] w fun r w' => r = .returned (.tuple #[.int .i64 (rfs (decide (nc < nr)) (21)), .int .i64 (rfs (decide (nc < nr)) (-3))]) ∧ Below w.heap.size w w' := by
  by_cases h : nc < nr
  · rw [decide_eq_true h]
    have hd : decide (nc < nr) = true := decide_eq_true h
    have hi : decide ((nc : Int) < (nr : Int)) = true := decide_eq_true (by omega)
    go_enter Tryz.func104, Tryz.ntmps104
    go_wp2_with fail
    refine (refuse_yes (21) (-3) _).mono ?_
    rintro r w1 ⟨rfl, rfl⟩
    go_wp2
    go_ret2
    exact ⟨rfl, Below.refl _ _⟩
  · rw [decide_eq_false h]
    have hd : decide (nc < nr) = false := decide_eq_false h
    have hi : decide ((nc : Int) < (nr : Int)) = false := decide_eq_false (by omega)
    go_enter Tryz.func104, Tryz.ntmps104
    go_wp2_with fail
    refine (refuse_no (21) (-3) _).mono ?_
    rintro r w1 ⟨rfl, rfl⟩
    go_wp2
    go_ret2
    exact ⟨rfl, Below.refl _ _⟩
set_option maxRecDepth 100000 in
theorem q5_any (nm : ByteArray) (dA : Int) (A1 A2 A3 A4 : Option Addr) (nc c1 nd c2 ns c3 nr c4 : Nat) (b : Nat) (w : World) (o0 : w.cell? ⟨b, 0, none⟩ = some (.string nm)) (o1 : w.cell? ⟨b, 1, none⟩ = some (.slice A1 nc c1)) (o2 : w.cell? ⟨b, 2, none⟩ = some (.int .i64 dA)) (o3 : w.cell? ⟨b, 3, none⟩ = some (.slice A2 nd c2)) (o4 : w.cell? ⟨b, 4, none⟩ = some (.slice A3 ns c3)) (o5 : w.cell? ⟨b, 5, none⟩ = some (.slice A4 nr c4)) (_hn : nd ≤ 1048576) (h1 : -9223372036854775808 ≤ dA) (h2 : dA ≤ 9223372036854775807) : Calls Tryz.prog 105 #[.pointer (some ⟨b, 0, none⟩)] w fun r w' => r = .returned (.tuple #[.int .i64 (rfs (!decide (0 ≤ dA ∧ (nd : Int) ≤ 4096 - dA)) (25)), .int .i64 (rfs (!decide (0 ≤ dA ∧ (nd : Int) ≤ 4096 - dA)) (-1))]) ∧ Below w.heap.size w w' := by
  have C := fits_any dA nd h1 h2
  by_cases h : 0 ≤ dA ∧ (nd : Int) ≤ 4096 - dA
  · rw [decide_eq_true h] at C ⊢
    clear h
    go_enter Tryz.func105, Tryz.ntmps105
    go_wp2_with fail
    refine (C _).mono ?_
    rintro r w1 ⟨rfl, rfl⟩
    go_wp2_with fail
    refine (refuse_no (25) (-1) _).mono ?_
    rintro r w1 ⟨rfl, rfl⟩
    go_wp2
    go_ret2
    exact ⟨rfl, Below.refl _ _⟩
  · rw [decide_eq_false h] at C ⊢
    clear h
    go_enter Tryz.func105, Tryz.ntmps105
    go_wp2_with fail
    refine (C _).mono ?_
    rintro r w1 ⟨rfl, rfl⟩
    go_wp2_with fail
    refine (refuse_yes (25) (-1) _).mono ?_
    rintro r w1 ⟨rfl, rfl⟩
    go_wp2
    go_ret2
    exact ⟨rfl, Below.refl _ _⟩



end Go.Proofs.YtbckolkgncajfaaGreatDoor

namespace Go.Proofs.YtbckolkgncajfaaGreatDoor
open Go.RowKit

theorem bytes_same {a b : ByteArray} (h : a.data.toList = b.data.toList) : a = b := by
  cases a; cases b; simp at h; congr
/-- The map holds just the names of the first k symbols. -/
def Met (zs : List Sym) (k : Nat) (D : DataW Unit) : Prop := Maps.IsMap D ∧ ∀ s : ByteArray, Maps.has D (.string s.data.toList) = true ↔ ∃ j, j < k ∧ sName zs j = s
theorem met_zero (zs : List Sym) : Met zs 0 (.map []) := ⟨Maps.isMap_empty, fun s => ⟨fun h => by simp [Maps.has] at h, fun ⟨j, h, _⟩ => by omega⟩⟩
theorem met_step {zs : List Sym} {k : Nat} {D d : DataW Unit} (h : Met zs k D) : Met zs (k + 1) (D.put (.string (sName zs k).data.toList) d) := by
  refine ⟨h.1.put _ _, fun s => ?_⟩
  by_cases hs : s = sName zs k
  · subst hs
    exact ⟨fun _ => ⟨k, by omega, rfl⟩, fun _ => Maps.has_put_same h.1 (by simp [WideAt.IsKeyLit]) d⟩
  · rw [Maps.has_put_other (fun e => hs (bytes_same (by injection e)))]
    rw [h.2 s]
    constructor
    · rintro ⟨j, hj, e⟩; exact ⟨j, by omega, e⟩
    · rintro ⟨j, hj, e⟩
      refine ⟨j, ?_, e⟩
      by_cases hjk : j = k
      · subst hjk; exact absurd e.symm hs
      · omega
theorem toList_same {a b : ByteArray} (h : a.toList = b.toList) : a = b := by
  rw [ByteArray.toList_eq, ByteArray.toList_eq] at h; exact bytes_same h
theorem str_self (s : ByteArray) : (s.toList == s.toList) = true := by simp
theorem of_before {zs : List Sym} {s : ByteArray} : ∀ (d k : Nat), d + k ≤ zs.length → (∀ j, k ≤ j → j < d + k → ((sName zs j).toList == s.toList) = false) → ofFrom (zs.drop k) s k = ofFrom (zs.drop (d + k)) s (d + k)
  | 0, k, _, _ => by rw [Nat.zero_add]
  | d + 1, k, hl, h => by
    rw [of_miss (by omega) (h k (by omega) (by omega)), of_before d (k + 1) (by omega) (fun j h1 h2 => h j (by omega) (by omega)), show d + (k + 1) = d + 1 + k by omega]
theorem of_new {zs : List Sym} {k : Nat} (hk : k < zs.length) (h : ∀ j, j < k → ((sName zs j).toList == (sName zs k).toList) = false) : ofS zs (sName zs k) = k := by
  have e := of_before (zs := zs) (s := sName zs k) k 0 (by omega) (fun j _ hj => h j (by omega))
  rw [List.drop_zero, Nat.add_zero] at e
  rw [ofS, e, of_hit hk (str_self _)]
theorem of_old {zs : List Sym} {k j : Nat} (hk : k < zs.length) (hj : j < k) (h : ((sName zs j).toList == (sName zs k).toList) = true) : ¬ ofS zs (sName zs k) = k := by
  intro e
  have key : ∀ (d i : Nat), i + d = j → ∃ m : Nat, m ≤ j ∧ ofFrom (zs.drop i) (sName zs k) i = m := by
    intro d
    induction d with
    | zero => intro i hi; exact ⟨j, Nat.le_refl _, by rw [show i = j by omega, of_hit (by omega) h]⟩
    | succ d ih =>
      intro i hi
      cases c : ((sName zs i).toList == (sName zs k).toList) with
      | true => exact ⟨i, by omega, of_hit (by omega) c⟩
      | false => rw [of_miss (by omega) c]; exact ih (i + 1) (by omega)
  obtain ⟨m, hm, em⟩ := key j 0 (by omega)
  rw [List.drop_zero] at em
  rw [ofS, em] at e
  omega
theorem met_no {zs : List Sym} {k : Nat} {D : DataW Unit} (h : Met zs k D) (hk : k < zs.length) (e : Maps.has D (.string (sName zs k).data.toList) = false) : ofS zs (sName zs k) = k := by
  refine of_new hk fun j hj => ?_
  cases c : ((sName zs j).toList == (sName zs k).toList) with
  | false => rfl
  | true =>
    have : Maps.has D (.string (sName zs k).data.toList) = true := (h.2 _).2 ⟨j, hj, toList_same (by simpa using c)⟩
    rw [e] at this; cases this
theorem met_yes {zs : List Sym} {k : Nat} {D : DataW Unit} (h : Met zs k D) (hk : k < zs.length) (e : Maps.has D (.string (sName zs k).data.toList) = true) : ¬ ofS zs (sName zs k) = k := by
  obtain ⟨j, hj, ej⟩ := (h.2 _).1 e
  exact of_old hk hj (by rw [ej]; exact str_self _)



end Go.Proofs.YtbckolkgncajfaaGreatDoor
