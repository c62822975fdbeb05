/-
  Which names were met, as a map reads; no Go in sight.
-/
import Derived.Test.YtbphfgalgiinnaaProg
import Derived.WalkKit
import Derived.WalkSpells
import Derived.WalkLawsBesides
import Derived.RowKit3
import Derived.Below
import Derived.Deep.QuietTactic
import Derived.BigQuiet
import Derived.WalkSmall
import Derived.Test.YtbphfgalgiinnaaObMath
import Derived.Maps.OwnSet
import Derived.Maps.Own
namespace Go.Proofs.Ytbphfgalgiinnaa
open Go.RowKit

theorem bytes_same {a b : ByteArray} (h : a.data.toList = b.data.toList) : a = b := by
  cases a; cases b; simp at h; congr
/-- The map holds just the names of the first k symbols. -/
def Met (zs : List Sym) (k : Nat) (D : DataW Unit) : Prop := Maps.IsMap D ∧ ∀ s : ByteArray, Maps.has D (.string s.data.toList) = true ↔ ∃ j, j < k ∧ sName zs j = s
theorem met_zero (zs : List Sym) : Met zs 0 (.map []) := ⟨Maps.isMap_empty, fun s => ⟨fun h => by simp [Maps.has] at h, fun ⟨j, h, _⟩ => by omega⟩⟩
theorem met_step {zs : List Sym} {k : Nat} {D d : DataW Unit} (h : Met zs k D) : Met zs (k + 1) (D.put (.string (sName zs k).data.toList) d) := by
  refine ⟨h.1.put _ _, fun s => ?_⟩
  by_cases hs : s = sName zs k
  · subst hs
    exact ⟨fun _ => ⟨k, by omega, rfl⟩, fun _ => Maps.has_put_same h.1 (by simp [WideAt.IsKeyLit]) d⟩
  · rw [Maps.has_put_other (fun e => hs (bytes_same (by injection e)))]
    rw [h.2 s]
    constructor
    · rintro ⟨j, hj, e⟩; exact ⟨j, by omega, e⟩
    · rintro ⟨j, hj, e⟩
      refine ⟨j, ?_, e⟩
      by_cases hjk : j = k
      · subst hjk; exact absurd e.symm hs
      · omega
theorem toList_same {a b : ByteArray} (h : a.toList = b.toList) : a = b := by
  rw [ByteArray.toList_eq, ByteArray.toList_eq] at h; exact bytes_same h
theorem str_self (s : ByteArray) : (s.toList == s.toList) = true := by simp
theorem of_before {zs : List Sym} {s : ByteArray} : ∀ (d k : Nat), d + k ≤ zs.length → (∀ j, k ≤ j → j < d + k → ((sName zs j).toList == s.toList) = false) → ofFrom (zs.drop k) s k = ofFrom (zs.drop (d + k)) s (d + k)
  | 0, k, _, _ => by rw [Nat.zero_add]
  | d + 1, k, hl, h => by
    rw [of_miss (by omega) (h k (by omega) (by omega)), of_before d (k + 1) (by omega) (fun j h1 h2 => h j (by omega) (by omega)), show d + (k + 1) = d + 1 + k by omega]
theorem of_new {zs : List Sym} {k : Nat} (hk : k < zs.length) (h : ∀ j, j < k → ((sName zs j).toList == (sName zs k).toList) = false) : ofS zs (sName zs k) = k := by
  have e := of_before (zs := zs) (s := sName zs k) k 0 (by omega) (fun j _ hj => h j (by omega))
  rw [List.drop_zero, Nat.add_zero] at e
  rw [ofS, e, of_hit hk (str_self _)]
theorem of_old {zs : List Sym} {k j : Nat} (hk : k < zs.length) (hj : j < k) (h : ((sName zs j).toList == (sName zs k).toList) = true) : ¬ ofS zs (sName zs k) = k := by
  intro e
  have key : ∀ (d i : Nat), i + d = j → ∃ m : Nat, m ≤ j ∧ ofFrom (zs.drop i) (sName zs k) i = m := by
    intro d
    induction d with
    | zero => intro i hi; exact ⟨j, Nat.le_refl _, by rw [show i = j by omega, of_hit (by omega) h]⟩
    | succ d ih =>
      intro i hi
      cases c : ((sName zs i).toList == (sName zs k).toList) with
      | true => exact ⟨i, by omega, of_hit (by omega) c⟩
      | false => rw [of_miss (by omega) c]; exact ih (i + 1) (by omega)
  obtain ⟨m, hm, em⟩ := key j 0 (by omega)
  rw [List.drop_zero] at em
  rw [ofS, em] at e
  omega
theorem met_no {zs : List Sym} {k : Nat} {D : DataW Unit} (h : Met zs k D) (hk : k < zs.length) (e : Maps.has D (.string (sName zs k).data.toList) = false) : ofS zs (sName zs k) = k := by
  refine of_new hk fun j hj => ?_
  cases c : ((sName zs j).toList == (sName zs k).toList) with
  | false => rfl
  | true =>
    have : Maps.has D (.string (sName zs k).data.toList) = true := (h.2 _).2 ⟨j, hj, toList_same (by simpa using c)⟩
    rw [e] at this; cases this
theorem met_yes {zs : List Sym} {k : Nat} {D : DataW Unit} (h : Met zs k D) (hk : k < zs.length) (e : Maps.has D (.string (sName zs k).data.toList) = true) : ¬ ofS zs (sName zs k) = k := by
  obtain ⟨j, hj, ej⟩ := (h.2 _).1 e
  exact of_old hk hj (by rw [ej]; exact str_self _)

end Go.Proofs.Ytbphfgalgiinnaa
