/-
  Instructions and their words, there and back, as plain functions of numbers; no Go in sight. Where an instruction goes, as plain functions of numbers; no Go in sight.
-/
import Derived.Test.YtpmaiblgnblpeaaDoorProg
import Derived.Test.YtpmaiblgnblpeaaDoorPf12
namespace Go.Proofs.YtpmaiblgnblpeaaDoor
open Go.RowKit

/-- What Decode tells. -/
def dOp (w : Int) : Int := if isIns w then wOp w else -1
def dD (w : Int) : Int := if isIns w then wD w else 0
def dA (w : Int) : Int := if isIns w then wA w else 0
def dB (w : Int) : Int := if isIns w then wB w else 0
def dN (w : Int) : Int := if isIns w then wN w else w
/-- Is N's number below nought? -/
def nNeg (w : Int) : Bool := hN (w / 134217728) && !hP (w / 134217728) && decide (16384 ≤ w % 32768)

theorem wN_neg {w : Int} (h : nNeg w = true) : wN w = w % 32768 - 32768 := by
  unfold nNeg at h; unfold wN wOp; rw [h]; rfl
theorem wN_pos {w : Int} (h : nNeg w = false) : wN w = w % 32768 := by
  unfold nNeg at h; unfold wN wOp; rw [h]; rfl
theorem encW_fields (w : Int) : encW (wOp w) (wD w) (wA w) (wB w) (wN w) = w := by
  unfold encW
  have e : wN w % 32768 = w % 32768 := by
    cases h : nNeg w
    · rw [wN_pos h]; omega
    · rw [wN_neg h]; omega
  rw [e]
  unfold wOp wD wA wB
  omega
theorem enc_yes {w : Int} (h0 : 0 ≤ w) (h1 : w < 4294967296) (h : isIns w = true) : encV (wOp w) (wD w) (wA w) (wB w) (wN w) = w ∧ encE (wOp w) (wD w) (wA w) (wB w) (wN w) = 0 := by
  have hw := encW_fields w
  unfold isIns at h
  rw [Bool.and_eq_true, decide_eq_true_eq] at h
  have hop : 0 ≤ wOp w := by unfold wOp; omega
  have hneg : ¬ (wOp w < 0 ∨ 21 < wOp w) := by omega
  unfold encV encE
  rw [if_neg hneg, if_neg hneg, if_pos h.2, if_pos h.2, hw]
  exact ⟨rfl, rfl⟩
theorem enc_no {w : Int} (h0 : 0 ≤ w) (h : isIns w = false) : encV (wOp w) (wD w) (wA w) (wB w) (wN w) = 0 ∧ (encE (wOp w) (wD w) (wA w) (wB w) (wN w) = 10 ∨ encE (wOp w) (wD w) (wA w) (wB w) (wN w) = 11) := by
  unfold isIns at h
  have hop : 0 ≤ wOp w := by unfold wOp; omega
  unfold encV encE
  by_cases hb : wOp w < 0 ∨ 21 < wOp w
  · rw [if_pos hb, if_pos hb]; exact ⟨rfl, Or.inl rfl⟩
  · rw [if_neg hb, if_neg hb]
    have hle : wOp w ≤ 21 := by omega
    rw [decide_eq_true hle, Bool.true_and] at h
    rw [h]; exact ⟨rfl, Or.inr rfl⟩











end Go.Proofs.YtpmaiblgnblpeaaDoor

namespace Go.Proofs.YtpmaiblgnblpeaaDoor
open Go.RowKit

/-- Does an op end a block? -/
def endsB (op : Int) : Bool := decide (op = -1 ∨ op = 0 ∨ op = 15 ∨ op = 16 ∨ op = 17 ∨ op = 18 ∨ op = 19 ∨ op = 21)
/-- Is a word one with a place? -/
def isT (w : Int) : Bool := decide (0 ≤ dOp w) && hP (dOp w)
def tgV (w : Int) : Int := if isT w then dN w else 0
/-- Aim's word and error. -/
def aimV (w p : Int) : Int := if isT w && decide (0 ≤ p ∧ p < 16384) then encV (dOp w) (dD w) (dA w) (dB w) p else 0
def aimE (w p : Int) : Int := if isT w then (if decide (0 ≤ p ∧ p < 16384) then encE (dOp w) (dD w) (dA w) (dB w) p else 11) else 10











end Go.Proofs.YtpmaiblgnblpeaaDoor
