/-
  Rows of an object as its lists lie in memory; no Go in sight.
-/
import Derived.Test.YthfcimmfkibmjaaGreatDoorProg
import Derived.WalkKit
import Derived.WalkSpells
import Derived.WalkLawsBesides
import Derived.RowKit3
import Derived.Below
import Derived.Deep.QuietTactic
import Derived.BigQuiet
import Derived.WalkSmall
import Derived.Laws.Rows
import Derived.Test.YthfcimmfkibmjaaGreatDoorP22
namespace Go.Proofs.YthfcimmfkibmjaaGreatDoor
open Go.RowKit


theorem iVals_get {K : IntKind} {l : List Int} {i : Nat} (h : i < l.length) : (iVals K l)[i]? = some (.int K (nth l i)) := by simp [iVals, nth, List.getD, h]
theorem sVals_get : ∀ (l : List Sym) (i : Nat), i < l.length → (sVals l)[i * 3]? = some (.string (sName l i)) ∧ (sVals l)[i * 3 + 1]? = some (.int .i8 (sKind l i)) ∧ (sVals l)[i * 3 + 2]? = some (.int .i64 (sAt l i))
  | [], i, h => by simp at h
  | x :: l, 0, _ => ⟨rfl, rfl, rfl⟩
  | x :: l, i + 1, h => by
    obtain ⟨a, b, c⟩ := sVals_get l i (by simpa using h)
    have e : ∀ j, (sVals (x :: l))[(i + 1) * 3 + j]? = (sVals l)[i * 3 + j]? := fun j => by
      show ([_, _, _] ++ sVals l)[(i + 1) * 3 + j]? = _
      rw [List.getElem?_append_right (by simp; omega)]
      congr 1
      simp
      omega
    refine ⟨?_, ?_, ?_⟩
    · have := e 0
      simp only [Nat.add_zero] at this
      rw [this, a]
      rfl
    · rw [e 1, b]; rfl
    · rw [e 2, c]; rfl
theorem rVals_get : ∀ (l : List Rel) (i : Nat), i < l.length → (rVals l)[i * 2]? = some (.int .i64 (rAt l i)) ∧ (rVals l)[i * 2 + 1]? = some (.int .i64 (rSym l i))
  | [], i, h => by simp at h
  | x :: l, 0, _ => ⟨rfl, rfl⟩
  | x :: l, i + 1, h => by
    obtain ⟨a, b⟩ := rVals_get l i (by simpa using h)
    have e : ∀ j, (rVals (x :: l))[(i + 1) * 2 + j]? = (rVals l)[i * 2 + j]? := fun j => by
      show ([_, _] ++ rVals l)[(i + 1) * 2 + j]? = _
      rw [List.getElem?_append_right (by simp; omega)]
      congr 1
      simp
      omega
    refine ⟨?_, ?_⟩
    · have := e 0
      simp only [Nat.add_zero] at this
      rw [this, a]
      rfl
    · rw [e 1, b]; rfl
theorem add_add (j k i : Nat) : ((⟨j, 0, none⟩ : Addr).add k).add i = (⟨j, 0, none⟩ : Addr).add (k + i) := by
  rw [add0, add0]
  unfold Addr.add
  split
  · next h => subst h; rfl
  · rfl
theorem row_ints {w : World} {base c n : Nat} {e : TypeId} {A : Option Addr} {K : IntKind} {l : List Int} (h : w.ownsRow base e 1 (.slice A n c) l.length (iVals K l)) : IntsAt w A K l := fun i hi => by
  rcases h.2 with ⟨_, h0⟩ | ⟨j, cap, cur, hv, hb, hg, hc, _⟩
  · omega
  · cases hv
    exact ⟨_, rfl, h.cells rfl i _ (iVals_get hi)⟩
theorem row_syms {w : World} {base c n : Nat} {e : TypeId} {A : Option Addr} {l : List Sym} (h : w.ownsRow base e 3 (.slice A n c) l.length (sVals l)) : SymsAt w A l := fun i hi => by
  rcases h.2 with ⟨_, h0⟩ | ⟨j, cap, cur, hv, hb, hg, hc, _⟩
  · omega
  · cases hv
    obtain ⟨a, b, d⟩ := sVals_get l i hi
    exact ⟨_, rfl, h.cells rfl _ _ a, by rw [add_add]; exact h.cells rfl _ _ b, by rw [add_add]; exact h.cells rfl _ _ d⟩
theorem row_rels {w : World} {base c n : Nat} {e : TypeId} {A : Option Addr} {l : List Rel} (h : w.ownsRow base e 2 (.slice A n c) l.length (rVals l)) : RelsAt w A l := fun i hi => by
  rcases h.2 with ⟨_, h0⟩ | ⟨j, cap, cur, hv, hb, hg, hc, _⟩
  · omega
  · cases hv
    obtain ⟨a, b⟩ := rVals_get l i hi
    exact ⟨_, rfl, h.cells rfl _ _ a, by rw [add_add]; exact h.cells rfl _ _ b⟩
theorem row_keep {w w1 : World} {base n : Nat} {e : TypeId} {sz : Nat} {v : Value} {xs : List Value} (h : w.ownsRow base e sz v n xs) (hb : Below w.heap.size w w1) : w1.ownsRow base e sz v n xs := by
  refine h.kept (row := none) ⟨hb.os, hb.tape, hb.output, hb.size, fun k hk _ => hb.block k hk⟩ ?_
  cases hv : v.ownBlock <;> simp
theorem RowsO.keep {w w1 : World} {base : Nat} {A1 A2 A3 A4 : Option Addr} {c1 c2 c3 c4 : Nat} {code data : List Int} {ss : List Sym} {rs : List Rel} (h : RowsO w base A1 A2 A3 A4 c1 c2 c3 c4 code data ss rs) (hb : Below w.heap.size w w1) : RowsO w1 base A1 A2 A3 A4 c1 c2 c3 c4 code data ss rs :=
  ⟨row_keep h.r1 hb, row_keep h.r2 hb, row_keep h.r3 hb, row_keep h.r4 hb⟩
theorem RowsO.set6 {w : World} {B base : Nat} {A1 A2 A3 A4 : Option Addr} {c1 c2 c3 c4 : Nat} {code data : List Int} {ss : List Sym} {rs : List Rel} (h : RowsO w base A1 A2 A3 A4 c1 c2 c3 c4 code data ss rs) (hB : B < base) (x0 x1 x2 x3 x4 x5 : Value) : RowsO ((((((w.setCell ⟨B, 0, none⟩ x0).setCell ⟨B, 1, none⟩ x1).setCell ⟨B, 2, none⟩ x2).setCell ⟨B, 3, none⟩ x3).setCell ⟨B, 4, none⟩ x4).setCell ⟨B, 5, none⟩ x5) base A1 A2 A3 A4 c1 c2 c3 c4 code data ss rs :=
  ⟨row_set6 h.r1 hB _ _ _ _ _ _, row_set6 h.r2 hB _ _ _ _ _ _, row_set6 h.r3 hB _ _ _ _ _ _, row_set6 h.r4 hB _ _ _ _ _ _⟩
theorem RowsO.mono {w : World} {base base' : Nat} {A1 A2 A3 A4 : Option Addr} {c1 c2 c3 c4 : Nat} {code data : List Int} {ss : List Sym} {rs : List Rel} (h : RowsO w base A1 A2 A3 A4 c1 c2 c3 c4 code data ss rs) (hb : base' ≤ base) : RowsO w base' A1 A2 A3 A4 c1 c2 c3 c4 code data ss rs :=
  ⟨ownsRow_mono h.r1 hb, ownsRow_mono h.r2 hb, ownsRow_mono h.r3 hb, ownsRow_mono h.r4 hb⟩
theorem below_set6 {w w1 : World} {n : Nat} (h : Below n w w1) {B : Nat} (hB : n ≤ B) (x0 x1 x2 x3 x4 x5 : Value) : Below n w ((((((w1.setCell ⟨B, 0, none⟩ x0).setCell ⟨B, 1, none⟩ x1).setCell ⟨B, 2, none⟩ x2).setCell ⟨B, 3, none⟩ x3).setCell ⟨B, 4, none⟩ x4).setCell ⟨B, 5, none⟩ x5) :=
  (((((h.setCell hB _).setCell hB _).setCell hB _).setCell hB _).setCell hB _).setCell hB _

end Go.Proofs.YthfcimmfkibmjaaGreatDoor
