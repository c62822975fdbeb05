/-
  When an image may be, as plain mathematics; no Go in sight.
-/
import Derived.Test.YthhfkcmoncgknaaProg
import Derived.Test.YthhfkcmoncgknaaPo10
import Derived.Test.YthhfkcmoncgknaaPo22
namespace Go.Proofs.Ythhfkcmoncgknaa
open Go.RowKit

/-- May a word be the last one? -/
def lastOK (w : Int) : Bool := decide (dOp w = 0 ∨ dOp w = 15 ∨ dOp w = 19 ∨ dOp w = 21)
/-- Does the word at a place have a target behind the text? -/
def farT (text : List Int) (i : Nat) : Bool := isT (nth text i) && decide ((text.length : Int) ≤ tgV (nth text i))
/-- What Check tells. -/
def checkI (text : List Int) (ml : Nat) (ent : Int) : Int × Int :=
  if text.length = 0 then (50, 0) else if 16384 < text.length then (42, 16384) else if 4096 < ml then (25, 4096) else if ent < 0 ∨ (text.length : Int) ≤ ent then (41, 0) else
  match (List.range text.length).find? (farT text) with
  | some i => (22, i)
  | none => if lastOK (nth text (text.length - 1)) then (0, 0) else (50, ((text.length - 1 : Nat) : Int))
/-- What is past the first four looks. -/
structure Past (text : List Int) (ml : Nat) (ent : Int) : Prop where
  pos : 0 < text.length
  len : text.length ≤ 16384
  mem : ml ≤ 4096
  ent0 : 0 ≤ ent
  ent1 : ent < text.length
theorem check_far {text : List Int} {ml : Nat} {ent : Int} {k : Nat} (h : Past text ml ent) (hk : k < text.length) (h0 : ∀ j, j < k → farT text j = false) (e : farT text k = true) : checkI text ml ent = (22, (k : Int)) := by
  have hf : (List.range text.length).find? (farT text) = some k := by
    rw [List.find?_range_eq_some]
    exact ⟨e, by simpa using hk, fun j hj => by rw [h0 j hj]; rfl⟩
  unfold checkI
  rw [if_neg (by have := h.pos; omega), if_neg (by have := h.len; omega), if_neg (by have := h.mem; omega), if_neg (by have := h.ent0; have := h.ent1; omega), hf]
theorem check_end {text : List Int} {ml : Nat} {ent : Int} (h : Past text ml ent) (h0 : ∀ j, j < text.length → farT text j = false) : checkI text ml ent = if lastOK (nth text (text.length - 1)) then (0, 0) else (50, ((text.length - 1 : Nat) : Int)) := by
  have hf : (List.range text.length).find? (farT text) = none := by
    rw [List.find?_eq_none]
    intro j hj
    rw [h0 j (by simpa using hj)]; simp
  unfold checkI
  rw [if_neg (by have := h.pos; omega), if_neg (by have := h.len; omega), if_neg (by have := h.mem; omega), if_neg (by have := h.ent0; have := h.ent1; omega), hf]
theorem check0 {text : List Int} {ml : Nat} {ent : Int} (h : text.length = 0) : checkI text ml ent = (50, 0) := by unfold checkI; rw [if_pos h]
theorem check1 {text : List Int} {ml : Nat} {ent : Int} (h0 : ¬ text.length = 0) (h : 16384 < text.length) : checkI text ml ent = (42, 16384) := by unfold checkI; rw [if_neg h0, if_pos h]
theorem check2 {text : List Int} {ml : Nat} {ent : Int} (h0 : ¬ text.length = 0) (h1 : ¬ 16384 < text.length) (h : 4096 < ml) : checkI text ml ent = (25, 4096) := by unfold checkI; rw [if_neg h0, if_neg h1, if_pos h]
theorem check3 {text : List Int} {ml : Nat} {ent : Int} (h0 : ¬ text.length = 0) (h1 : ¬ 16384 < text.length) (h2 : ¬ 4096 < ml) (h : ent < 0 ∨ (text.length : Int) ≤ ent) : checkI text ml ent = (41, 0) := by unfold checkI; rw [if_neg h0, if_neg h1, if_neg h2, if_pos h]
/-- An image that may be. -/
structure MayI (text : List Int) (ml : Nat) (ent : Int) : Prop where
  past : Past text ml ent
  far : ∀ j, j < text.length → farT text j = false
  last : lastOK (nth text (text.length - 1)) = true
theorem check_mayI {text : List Int} {ml : Nat} {ent : Int} (h : (checkI text ml ent).1 = 0) : MayI text ml ent := by
  by_cases h0 : text.length = 0
  · rw [check0 h0] at h; cases h
  by_cases h1 : 16384 < text.length
  · rw [check1 h0 h1] at h; cases h
  by_cases h2 : 4096 < ml
  · rw [check2 h0 h1 h2] at h; cases h
  by_cases h3 : ent < 0 ∨ (text.length : Int) ≤ ent
  · rw [check3 h0 h1 h2 h3] at h; cases h
  have hp : Past text ml ent := ⟨by omega, by omega, by omega, by omega, by omega⟩
  have hall : ∀ j, j < text.length → farT text j = false := by
    intro j
    induction j using Nat.strongRecOn with
    | ind j ih =>
      intro hj
      cases e : farT text j
      · rfl
      · rw [check_far hp hj (fun i hi => ih i hi (by omega)) e] at h; cases h
  refine ⟨hp, hall, ?_⟩
  rw [check_end hp hall] at h
  cases e : lastOK (nth text (text.length - 1))
  · rw [e] at h; cases h
  · rfl
theorem may_zero {text : List Int} {ml : Nat} {ent : Int} (h : MayI text ml ent) : checkI text ml ent = (0, 0) := by
  rw [check_end h.past h.far, h.last]; rfl
theorem check_pair {text : List Int} {ml : Nat} {ent : Int} (h : (checkI text ml ent).1 = 0) : checkI text ml ent = (0, 0) := may_zero (check_mayI h)
theorem check_range (text : List Int) (ml : Nat) (ent : Int) (h : text.length ≤ 1048576) : 0 ≤ (checkI text ml ent).1 ∧ (checkI text ml ent).1 ≤ 50 ∧ 0 ≤ (checkI text ml ent).2 ∧ (checkI text ml ent).2 ≤ 1048576 := by
  unfold checkI
  repeat' split
  all_goals (simp only; try omega)
  rename_i i hi
  have := List.mem_of_find?_eq_some hi
  simp at this
  omega










end Go.Proofs.Ythhfkcmoncgknaa
