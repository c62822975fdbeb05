/-
  A merging under way, plain. What the statements need of the program: Of, Compare and Most of suffix, by what they answer.
-/
import Derived.Test.YtpmaiblgnblpeaaDoorProg
import Derived.WalkKit
import Derived.WalkSpells
import Derived.WalkLawsBesides
import Derived.RowKit3
import Derived.Below
import Derived.Deep.QuietTactic
import Derived.BigQuiet
import Derived.WalkSmall
import Derived.Laws.Rows
import Derived.Test.YtpmaiblgnblpeaaDoorPf18
import Derived.Test.YtpmaiblgnblpeaaDoorPf03
import Derived.Test.YtpmaiblgnblpeaaDoorPf08
namespace Go.Proofs.YtpmaiblgnblpeaaDoor
open Go.RowKit

/-- So many of the left one and of the right one are taken. -/
structure MrS (o : Nat → Nat → Int) (c : Nat → Nat → Nat) (L R : List Nat) (p q cc : Nat) : Prop where
  pl : p ≤ L.length
  ql : q ≤ R.length
  rest : (mrg o L R).drop (p + q) = mrg o (L.drop p) (R.drop q)
  cost : cc + mrgC o c (L.drop p) (R.drop q) = mrgC o c L R
theorem MrS.start (o : Nat → Nat → Int) (c : Nat → Nat → Nat) (L R : List Nat) : MrS o c L R 0 0 0 := ⟨Nat.zero_le _, Nat.zero_le _, by simp, by simp⟩
theorem sdrop {A : List Nat} {p : Nat} (h : p < A.length) : A.drop p = snth A p :: A.drop (p + 1) := by
  rw [List.drop_eq_getElem_cons h]
  simp [snth, h]
theorem sdrop_eq {A B : List Nat} {p x : Nat} (h : A.drop p = x :: B) : snth A p = x ∧ A.drop (p + 1) = B := by
  have hl : p < A.length := by
    have := congrArg List.length h
    rw [List.length_drop, List.length_cons] at this
    omega
  rw [sdrop hl] at h
  injection h with h1 h2
  exact ⟨h1, h2⟩
theorem MrS.right {o : Nat → Nat → Int} {c : Nat → Nat → Nat} {L R : List Nat} {p q cc : Nat} (h : MrS o c L R p q cc) (hp : p < L.length) (hq : q < R.length) (ho : o (snth R q) (snth L p) < 0) : snth (mrg o L R) (p + q) = snth R q ∧ MrS o c L R p (q + 1) (cc + c (snth R q) (snth L p)) := by
  have h1 := h.rest
  have h2 := h.cost
  rw [sdrop hp, sdrop hq, mrg_right ho] at h1
  rw [sdrop hp, sdrop hq, mrgC_right ho] at h2
  obtain ⟨e1, e2⟩ := sdrop_eq h1
  exact ⟨e1, h.pl, hq, by rw [← Nat.add_assoc, e2, sdrop hp], by rw [sdrop hp]; omega⟩
theorem MrS.left {o : Nat → Nat → Int} {c : Nat → Nat → Nat} {L R : List Nat} {p q cc : Nat} (h : MrS o c L R p q cc) (hp : p < L.length) (hq : q < R.length) (ho : ¬ o (snth R q) (snth L p) < 0) : snth (mrg o L R) (p + q) = snth L p ∧ MrS o c L R (p + 1) q (cc + c (snth R q) (snth L p)) := by
  have h1 := h.rest
  have h2 := h.cost
  rw [sdrop hp, sdrop hq, mrg_left ho] at h1
  rw [sdrop hp, sdrop hq, mrgC_left ho] at h2
  obtain ⟨e1, e2⟩ := sdrop_eq h1
  exact ⟨e1, hp, h.ql, by rw [show p + 1 + q = p + q + 1 by omega, e2, sdrop hq], by rw [sdrop hq]; omega⟩
theorem MrS.alone {o : Nat → Nat → Int} {c : Nat → Nat → Nat} {L R : List Nat} {p q cc : Nat} (h : MrS o c L R p q cc) (hp : p < L.length) (hq : R.length ≤ q) : snth (mrg o L R) (p + q) = snth L p ∧ MrS o c L R (p + 1) q cc := by
  have h1 := h.rest
  have h2 := h.cost
  rw [List.drop_eq_nil_of_le hq, mrg_out, sdrop hp] at h1
  rw [List.drop_eq_nil_of_le hq, mrgC_out] at h2
  obtain ⟨e1, e2⟩ := sdrop_eq h1
  exact ⟨e1, hp, h.ql, by rw [show p + 1 + q = p + q + 1 by omega, e2, List.drop_eq_nil_of_le hq, mrg_out], by rw [List.drop_eq_nil_of_le hq, mrgC_out]; omega⟩
theorem snth_drop (A : List Nat) (p j : Nat) : snth (A.drop p) j = snth A (p + j) := by simp [snth]
theorem MrS.done {o : Nat → Nat → Int} {c : Nat → Nat → Nat} {L R : List Nat} {p q cc : Nat} (h : MrS o c L R p q cc) (hp : L.length ≤ p) : cc = mrgC o c L R ∧ ∀ j, q ≤ j → j < R.length → snth (mrg o L R) (L.length + j) = snth R j := by
  have h1 := h.rest
  have h2 := h.cost
  have hpl := h.pl
  obtain rfl : p = L.length := by omega
  rw [List.drop_eq_nil_of_le (Nat.le_refl _), mrg_nil] at h1
  rw [List.drop_eq_nil_of_le (Nat.le_refl _), mrgC_nil] at h2
  refine ⟨by omega, fun j hj _ => ?_⟩
  have := congrArg (fun l => snth l (j - q)) h1
  simp only [snth_drop] at this
  rw [show L.length + q + (j - q) = L.length + j by omega, show q + (j - q) = j by omega] at this
  exact this



end Go.Proofs.YtpmaiblgnblpeaaDoor

namespace Go.Proofs.YtpmaiblgnblpeaaDoor
open Go.RowKit

/-- What Of answers: the array, the ranks, each in memory of its own, and a cost. -/
def OfR (l : List Int) (c : Int) (w : World) (e : Ending) (w' : World) : Prop := ∃ (A1 A2 : Option Addr) (k1 k2 : Nat), e = .returned (.agg #[.slice A1 l.length k1, .slice A2 l.length k2, .int .i64 c]) ∧ w'.ownsRow w.heap.size 3 1 (.slice A1 l.length k1) l.length (iVals .i64 (sufL l)) ∧ w'.ownsRow w.heap.size 3 1 (.slice A2 l.length k2) l.length (iVals .i64 (rkL l)) ∧ Off (Value.slice A1 l.length k1).ownBlock (Value.slice A2 l.length k2).ownBlock ∧ Below w.heap.size w w'
structure OfOK (cst : List Int → Int) : Prop where
  ok : ∀ (A : Option Addr) (c : Nat) (l : List Int) (w : World), IntsAt w A .i64 l → (∀ i, i < l.length → -9223372036854775808 ≤ nth l i ∧ nth l i ≤ 9223372036854775807) → l.length ≤ 2048 → Calls Tryd.prog 18 #[.slice A l.length c] w (OfR l (cst l) w)
  few : 3 ≤ cst [3, 1, 3, 1] ∧ cst [3, 1, 3, 1] ≤ 384
/-- How much it may cost. -/
def CostOK (cst : List Int → Int) : Prop := ∀ l : List Int, l.length ≤ 2048 → 0 ≤ cst l ∧ (l.length : Int) - 1 ≤ cst l ∧ cst l ≤ mostI (l.length : Int)


end Go.Proofs.YtpmaiblgnblpeaaDoor
