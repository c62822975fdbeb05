/-
  Which places of a text are named, which blocks there are; no Go in sight.
-/
import Derived.Test.YthhfkcmoncgknaaProg
import Derived.WalkKit
import Derived.WalkSpells
import Derived.WalkLawsBesides
import Derived.RowKit3
import Derived.Below
import Derived.Deep.QuietTactic
import Derived.BigQuiet
import Derived.WalkSmall
import Derived.Laws.Rows
import Derived.Test.YthhfkcmoncgknaaPo23
namespace Go.Proofs.Ythhfkcmoncgknaa
open Go.RowKit

/-- Some place below k is told to be y. -/
def anyF (g : Nat → Option Int) (k : Nat) (y : Int) : Bool := (List.range k).any fun i => g i == some y
def setF (f : Int → Bool) (x : Int) (y : Int) : Bool := y == x || f y
def addK (f : Int → Bool) (g : Nat → Option Int) (k : Nat) (y : Int) : Bool := f y || anyF g k y
theorem anyF_succ (g : Nat → Option Int) (k : Nat) (y : Int) : anyF g (k + 1) y = (anyF g k y || g k == some y) := by simp [anyF, List.range_succ, List.any_append]
theorem anyF_iff {g : Nat → Option Int} {k : Nat} {y : Int} : anyF g k y = true ↔ ∃ i, i < k ∧ g i = some y := by
  simp [anyF, List.any_eq_true]
theorem addK_zero (f : Int → Bool) (g : Nat → Option Int) (y : Int) : addK f g 0 y = f y := by simp [addK, anyF]
theorem addK_some {f : Int → Bool} {g : Nat → Option Int} {k : Nat} {x : Int} (h : g k = some x) (y : Int) : setF (addK f g k) x y = addK f g (k + 1) y := by
  unfold setF addK
  rw [anyF_succ, h]
  have : (some x == some y) = (y == x) := by
    cases h1 : (y == x) <;> simp_all
    exact fun e => h1 e.symm
  rw [this]
  cases (y == x) <;> cases f y <;> cases anyF g k y <;> rfl
theorem addK_none {f : Int → Bool} {g : Nat → Option Int} {k : Nat} (h : g k = none) (y : Int) : addK f g k y = addK f g (k + 1) y := by
  unfold addK
  rw [anyF_succ, h]
  simp
def gLab (text : List Int) (i : Nat) : Option Int := if isT (nth text i) = true then some (tgV (nth text i)) else none
def gTak (text : List Int) (i : Nat) : Option Int := if (dOp (nth text i) == 20) = true then some (dN (nth text i)) else none
def gSit (text : List Int) (i : Nat) : Option Int := if (dOp (nth text i) == 17) = true ∨ (dOp (nth text i) == 18) = true then some ((i : Int) + 1) else none
def gEnd (text : List Int) (i : Nat) : Option Int := if endsB (dOp (nth text i)) = true then some ((i : Int) + 1) else none
def noF (_ : Int) : Bool := false
def labF (text : List Int) (ent : Int) : Int → Bool := addK (setF noF ent) (gLab text) text.length
def takF (text : List Int) : Int → Bool := addK noF (gTak text) text.length
def sitF (text : List Int) : Int → Bool := addK noF (gSit text) text.length
def begF (text : List Int) (ent : Int) : Int → Bool := addK (addK (setF (setF noF 0) ent) (gLab text) text.length) (gEnd text) text.length
/-- The places below k that a function names, rising. -/
def plcT (f : Int → Bool) (k : Nat) : List Int := ((List.range k).filter fun (i : Nat) => f (i : Int)).map fun (i : Nat) => (i : Int)
theorem plcT_zero (f : Int → Bool) : plcT f 0 = [] := rfl
theorem plcT_yes {f : Int → Bool} {k : Nat} (h : f (k : Int) = true) : plcT f (k + 1) = plcT f k ++ [(k : Int)] := by simp [plcT, List.range_succ, List.filter_append, h]
theorem plcT_no {f : Int → Bool} {k : Nat} (h : f (k : Int) = false) : plcT f (k + 1) = plcT f k := by simp [plcT, List.range_succ, List.filter_append, h]
theorem plcT_len (f : Int → Bool) (k : Nat) : (plcT f k).length ≤ k := by
  induction k with
  | zero => simp [plcT]
  | succ k ih =>
    cases h : f (k : Int)
    · rw [plcT_no h]; omega
    · rw [plcT_yes h]; simp; omega
theorem plcT_fit {f g : Int → Bool} {k : Nat} (h : ∀ i : Nat, i < k → f (i : Int) = g (i : Int)) : plcT f k = plcT g k := by
  unfold plcT
  congr 1
  apply List.filter_congr
  intro i hi
  exact h i (by simpa using hi)
theorem plcT_mem {f : Int → Bool} {k : Nat} {y : Int} : y ∈ plcT f k ↔ 0 ≤ y ∧ y < k ∧ f y = true := by
  unfold plcT
  rw [List.mem_map]
  constructor
  · rintro ⟨i, hi, rfl⟩
    rw [List.mem_filter] at hi
    have := hi.1
    simp at this
    exact ⟨by omega, by omega, hi.2⟩
  · rintro ⟨h0, h1, h2⟩
    refine ⟨y.toNat, ?_, by omega⟩
    rw [List.mem_filter]
    refine ⟨by simp; omega, ?_⟩
    rw [show ((y.toNat : Nat) : Int) = y by omega]
    exact h2
/-- Whether a place lies in the block i. -/
def hasB (l : List Rel) (p : Int) (i : Nat) : Bool := decide (rAt l i ≤ p ∧ p < rSym l i)
/-- The first block that has a place, or -1. -/
def ofB (l : List Rel) (p : Int) : Int := match (List.range l.length).find? (hasB l p) with
  | some k => (k : Int)
  | none => -1
theorem of_at {l : List Rel} {p : Int} {k : Nat} (hk : k < l.length) (h0 : ∀ j, j < k → hasB l p j = false) (h : hasB l p k = true) : ofB l p = (k : Int) := by
  have hf : (List.range l.length).find? (hasB l p) = some k := by
    rw [List.find?_range_eq_some]
    exact ⟨h, by simpa using hk, fun j hj => by rw [h0 j hj]; rfl⟩
  unfold ofB
  rw [hf]
theorem of_no {l : List Rel} {p : Int} (h0 : ∀ j, j < l.length → hasB l p j = false) : ofB l p = -1 := by
  have hf : (List.range l.length).find? (hasB l p) = none := by
    rw [List.find?_eq_none]
    intro j hj
    rw [h0 j (by simpa using hj)]; simp
  unfold ofB
  rw [hf]
/-- Blocks from their beginnings. -/
def zipN : List Int → Int → List Rel
  | [], _ => []
  | [a], e => [(a, e)]
  | a :: b :: r, e => (a, b) :: zipN (b :: r) e
theorem zipN_len : ∀ (bs : List Int) (e : Int), (zipN bs e).length = bs.length
  | [], _ => rfl
  | [_], _ => rfl
  | a :: b :: r, e => by rw [zipN, List.length_cons, zipN_len (b :: r) e]; rfl
theorem zipN_snoc : ∀ (bs : List Int) (x e : Int), bs ≠ [] → zipN (bs ++ [x]) e = zipN bs x ++ [(x, e)]
  | [], _, _, h => absurd rfl h
  | [a], x, e, _ => rfl
  | a :: b :: r, x, e, _ => by
    have := zipN_snoc (b :: r) x e (by simp)
    simp only [List.cons_append, zipN] at this ⊢
    rw [this]
theorem zipN_at : ∀ (bs : List Int) (e : Int) (k : Nat), k < bs.length → rAt (zipN bs e) k = nth bs k ∧ rSym (zipN bs e) k = if k + 1 < bs.length then nth bs (k + 1) else e
  | [], _, k, h => by simp at h
  | [a], e, k, h => by
    obtain rfl : k = 0 := by simpa using h
    exact ⟨rfl, rfl⟩
  | a :: b :: r, e, 0, _ => by
    refine ⟨rfl, ?_⟩
    rw [if_pos (by simp)]; rfl
  | a :: b :: r, e, k + 1, h => by
    have := zipN_at (b :: r) e k (by simpa using h)
    refine ⟨this.1, ?_⟩
    have h2 := this.2
    rw [show rSym (zipN (a :: b :: r) e) (k + 1) = rSym (zipN (b :: r) e) k from rfl, h2]
    by_cases hk : k + 1 < (b :: r).length
    · rw [if_pos hk, if_pos (by simpa using hk)]; rfl
    · rw [if_neg hk, if_neg (by simpa using hk)]
/-- The blocks of a text. -/
def blkL (text : List Int) (ent : Int) : List Rel := zipN (plcT (begF text ent) text.length) (text.length : Int)
theorem lab_iff {text : List Int} {ent y : Int} : labF text ent y = true ↔ y = ent ∨ anyF (gLab text) text.length y = true := by
  unfold labF addK setF noF
  simp
theorem beg_iff {text : List Int} {ent y : Int} : begF text ent y = true ↔ y = 0 ∨ labF text ent y = true ∨ anyF (gEnd text) text.length y = true := by
  rw [lab_iff]
  unfold begF addK setF noF
  rw [Bool.or_eq_true, Bool.or_eq_true, Bool.or_eq_true, Bool.or_eq_true, beq_iff_eq, beq_iff_eq]
  constructor
  · rintro (((h | h | h) | h) | h)
    · exact .inr (.inl (.inl h))
    · exact .inl h
    · cases h
    · exact .inr (.inl (.inr h))
    · exact .inr (.inr h)
  · rintro (h | (h | h) | h)
    · exact .inl (.inl (.inr (.inl h)))
    · exact .inl (.inl (.inl h))
    · exact .inl (.inr h)
    · exact .inr h
theorem end_iff {text : List Int} {i : Nat} (hi : i < text.length) : anyF (gEnd text) text.length ((i : Int) + 1) = true ↔ endsB (dOp (nth text i)) = true := by
  rw [anyF_iff]
  constructor
  · rintro ⟨j, hj, e⟩
    unfold gEnd at e
    split at e
    · next h3 =>
      have : j = i := by injection e with e; omega
      subst this
      exact h3
    · cases e
  · intro h
    exact ⟨i, hi, by unfold gEnd; rw [if_pos h]⟩
theorem beg_zero (text : List Int) (ent : Int) : begF text ent 0 = true := beg_iff.2 (.inl rfl)
theorem beg_lab {text : List Int} {ent y : Int} (h : labF text ent y = true) : begF text ent y = true := beg_iff.2 (.inr (.inl h))
theorem beg_end {text : List Int} {ent : Int} {i : Nat} (hi : i < text.length) (h : endsB (dOp (nth text i)) = true) : begF text ent ((i : Int) + 1) = true := beg_iff.2 (.inr (.inr ((end_iff hi).2 h)))
/-- What begins a block, at a place behind the first one. -/
theorem beg_succ {text : List Int} {ent : Int} {i : Nat} (hi : i < text.length) : begF text ent ((i : Int) + 1) = (labF text ent ((i : Int) + 1) || endsB (dOp (nth text i))) := by
  rw [Bool.eq_iff_iff, beg_iff, Bool.or_eq_true, end_iff hi]
  constructor
  · rintro (h | h | h)
    · omega
    · exact .inl h
    · exact .inr h
  · rintro (h | h)
    · exact .inr (.inl h)
    · exact .inr (.inr h)







end Go.Proofs.Ythhfkcmoncgknaa
