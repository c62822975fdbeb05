/-
  When an image may be, as plain mathematics; no Go in sight. Which places of a text are named, which blocks there are; no Go in sight. Blocks lie one behind the other; no Go in sight.
-/
import Derived.Test.YtmlhnnmelopleaaGreatDoorProg
import Derived.Test.YtmlhnnmelopleaaGreatDoorPs03
import Derived.WalkKit
import Derived.WalkSpells
import Derived.WalkLawsBesides
import Derived.RowKit3
import Derived.Below
import Derived.Deep.QuietTactic
import Derived.BigQuiet
import Derived.WalkSmall
import Derived.Laws.Rows
namespace Go.Proofs.YtmlhnnmelopleaaGreatDoor
open Go.RowKit

/-- May a word be the last one? -/
def lastOK (w : Int) : Bool := decide (dOp w = 0 ∨ dOp w = 15 ∨ dOp w = 19 ∨ dOp w = 21)
/-- Does the word at a place have a target behind the text? -/
def farT (text : List Int) (i : Nat) : Bool := isT (nth text i) && decide ((text.length : Int) ≤ tgV (nth text i))
/-- What Check tells. -/
def checkI (text : List Int) (ml : Nat) (ent : Int) : Int × Int :=
  if text.length = 0 then (50, 0) else if 16384 < text.length then (42, 16384) else if 4096 < ml then (25, 4096) else if ent < 0 ∨ (text.length : Int) ≤ ent then (41, 0) else
  match (List.range text.length).find? (farT text) with
  | some i => (22, i)
  | none => if lastOK (nth text (text.length - 1)) then (0, 0) else (50, ((text.length - 1 : Nat) : Int))
/-- What is past the first four looks. -/
structure Past (text : List Int) (ml : Nat) (ent : Int) : Prop where
  pos : 0 < text.length
  len : text.length ≤ 16384
  mem : ml ≤ 4096
  ent0 : 0 ≤ ent
  ent1 : ent < text.length
theorem check_far {text : List Int} {ml : Nat} {ent : Int} {k : Nat} (h : Past text ml ent) (hk : k < text.length) (h0 : ∀ j, j < k → farT text j = false) (e : farT text k = true) : checkI text ml ent = (22, (k : Int)) := by
  have hf : (List.range text.length).find? (farT text) = some k := by
    rw [List.find?_range_eq_some]
    exact ⟨e, by simpa using hk, fun j hj => by rw [h0 j hj]; rfl⟩
  unfold checkI
  rw [if_neg (by have := h.pos; omega), if_neg (by have := h.len; omega), if_neg (by have := h.mem; omega), if_neg (by have := h.ent0; have := h.ent1; omega), hf]
theorem check_end {text : List Int} {ml : Nat} {ent : Int} (h : Past text ml ent) (h0 : ∀ j, j < text.length → farT text j = false) : checkI text ml ent = if lastOK (nth text (text.length - 1)) then (0, 0) else (50, ((text.length - 1 : Nat) : Int)) := by
  have hf : (List.range text.length).find? (farT text) = none := by
    rw [List.find?_eq_none]
    intro j hj
    rw [h0 j (by simpa using hj)]; simp
  unfold checkI
  rw [if_neg (by have := h.pos; omega), if_neg (by have := h.len; omega), if_neg (by have := h.mem; omega), if_neg (by have := h.ent0; have := h.ent1; omega), hf]
theorem check0 {text : List Int} {ml : Nat} {ent : Int} (h : text.length = 0) : checkI text ml ent = (50, 0) := by unfold checkI; rw [if_pos h]
theorem check1 {text : List Int} {ml : Nat} {ent : Int} (h0 : ¬ text.length = 0) (h : 16384 < text.length) : checkI text ml ent = (42, 16384) := by unfold checkI; rw [if_neg h0, if_pos h]
theorem check2 {text : List Int} {ml : Nat} {ent : Int} (h0 : ¬ text.length = 0) (h1 : ¬ 16384 < text.length) (h : 4096 < ml) : checkI text ml ent = (25, 4096) := by unfold checkI; rw [if_neg h0, if_neg h1, if_pos h]
theorem check3 {text : List Int} {ml : Nat} {ent : Int} (h0 : ¬ text.length = 0) (h1 : ¬ 16384 < text.length) (h2 : ¬ 4096 < ml) (h : ent < 0 ∨ (text.length : Int) ≤ ent) : checkI text ml ent = (41, 0) := by unfold checkI; rw [if_neg h0, if_neg h1, if_neg h2, if_pos h]
/-- An image that may be. -/
structure MayI (text : List Int) (ml : Nat) (ent : Int) : Prop where
  past : Past text ml ent
  far : ∀ j, j < text.length → farT text j = false
  last : lastOK (nth text (text.length - 1)) = true
theorem check_mayI {text : List Int} {ml : Nat} {ent : Int} (h : (checkI text ml ent).1 = 0) : MayI text ml ent := by
  by_cases h0 : text.length = 0
  · rw [check0 h0] at h; cases h
  by_cases h1 : 16384 < text.length
  · rw [check1 h0 h1] at h; cases h
  by_cases h2 : 4096 < ml
  · rw [check2 h0 h1 h2] at h; cases h
  by_cases h3 : ent < 0 ∨ (text.length : Int) ≤ ent
  · rw [check3 h0 h1 h2 h3] at h; cases h
  have hp : Past text ml ent := ⟨by omega, by omega, by omega, by omega, by omega⟩
  have hall : ∀ j, j < text.length → farT text j = false := by
    intro j
    induction j using Nat.strongRecOn with
    | ind j ih =>
      intro hj
      cases e : farT text j
      · rfl
      · rw [check_far hp hj (fun i hi => ih i hi (by omega)) e] at h; cases h
  refine ⟨hp, hall, ?_⟩
  rw [check_end hp hall] at h
  cases e : lastOK (nth text (text.length - 1))
  · rw [e] at h; cases h
  · rfl
theorem may_zero {text : List Int} {ml : Nat} {ent : Int} (h : MayI text ml ent) : checkI text ml ent = (0, 0) := by
  rw [check_end h.past h.far, h.last]; rfl
theorem check_pair {text : List Int} {ml : Nat} {ent : Int} (h : (checkI text ml ent).1 = 0) : checkI text ml ent = (0, 0) := may_zero (check_mayI h)
theorem check_range (text : List Int) (ml : Nat) (ent : Int) (h : text.length ≤ 1048576) : 0 ≤ (checkI text ml ent).1 ∧ (checkI text ml ent).1 ≤ 50 ∧ 0 ≤ (checkI text ml ent).2 ∧ (checkI text ml ent).2 ≤ 1048576 := by
  unfold checkI
  repeat' split
  all_goals (simp only; try omega)
  rename_i i hi
  have := List.mem_of_find?_eq_some hi
  simp at this
  omega







end Go.Proofs.YtmlhnnmelopleaaGreatDoor

namespace Go.Proofs.YtmlhnnmelopleaaGreatDoor
open Go.RowKit

/-- Some place below k is told to be y. -/
def anyF (g : Nat → Option Int) (k : Nat) (y : Int) : Bool := (List.range k).any fun i => g i == some y
def setF (f : Int → Bool) (x : Int) (y : Int) : Bool := y == x || f y
def addK (f : Int → Bool) (g : Nat → Option Int) (k : Nat) (y : Int) : Bool := f y || anyF g k y
theorem anyF_succ (g : Nat → Option Int) (k : Nat) (y : Int) : anyF g (k + 1) y = (anyF g k y || g k == some y) := by simp [anyF, List.range_succ, List.any_append]
theorem anyF_iff {g : Nat → Option Int} {k : Nat} {y : Int} : anyF g k y = true ↔ ∃ i, i < k ∧ g i = some y := by
  simp [anyF, List.any_eq_true]
theorem addK_zero (f : Int → Bool) (g : Nat → Option Int) (y : Int) : addK f g 0 y = f y := by simp [addK, anyF]
theorem addK_some {f : Int → Bool} {g : Nat → Option Int} {k : Nat} {x : Int} (h : g k = some x) (y : Int) : setF (addK f g k) x y = addK f g (k + 1) y := by
  unfold setF addK
  rw [anyF_succ, h]
  have : (some x == some y) = (y == x) := by
    cases h1 : (y == x) <;> simp_all
    exact fun e => h1 e.symm
  rw [this]
  cases (y == x) <;> cases f y <;> cases anyF g k y <;> rfl
theorem addK_none {f : Int → Bool} {g : Nat → Option Int} {k : Nat} (h : g k = none) (y : Int) : addK f g k y = addK f g (k + 1) y := by
  unfold addK
  rw [anyF_succ, h]
  simp
def gLab (text : List Int) (i : Nat) : Option Int := if isT (nth text i) = true then some (tgV (nth text i)) else none
def gTak (text : List Int) (i : Nat) : Option Int := if (dOp (nth text i) == 20) = true then some (dN (nth text i)) else none
def gSit (text : List Int) (i : Nat) : Option Int := if (dOp (nth text i) == 17) = true ∨ (dOp (nth text i) == 18) = true then some ((i : Int) + 1) else none
def gEnd (text : List Int) (i : Nat) : Option Int := if endsB (dOp (nth text i)) = true then some ((i : Int) + 1) else none
def noF (_ : Int) : Bool := false
def labF (text : List Int) (ent : Int) : Int → Bool := addK (setF noF ent) (gLab text) text.length
def takF (text : List Int) : Int → Bool := addK noF (gTak text) text.length
def sitF (text : List Int) : Int → Bool := addK noF (gSit text) text.length
def begF (text : List Int) (ent : Int) : Int → Bool := addK (addK (setF (setF noF 0) ent) (gLab text) text.length) (gEnd text) text.length
/-- The places below k that a function names, rising. -/
def plcT (f : Int → Bool) (k : Nat) : List Int := ((List.range k).filter fun (i : Nat) => f (i : Int)).map fun (i : Nat) => (i : Int)
theorem plcT_zero (f : Int → Bool) : plcT f 0 = [] := rfl
theorem plcT_yes {f : Int → Bool} {k : Nat} (h : f (k : Int) = true) : plcT f (k + 1) = plcT f k ++ [(k : Int)] := by simp [plcT, List.range_succ, List.filter_append, h]
theorem plcT_no {f : Int → Bool} {k : Nat} (h : f (k : Int) = false) : plcT f (k + 1) = plcT f k := by simp [plcT, List.range_succ, List.filter_append, h]
theorem plcT_len (f : Int → Bool) (k : Nat) : (plcT f k).length ≤ k := by
  induction k with
  | zero => simp [plcT]
  | succ k ih =>
    cases h : f (k : Int)
    · rw [plcT_no h]; omega
    · rw [plcT_yes h]; simp; omega
theorem plcT_fit {f g : Int → Bool} {k : Nat} (h : ∀ i : Nat, i < k → f (i : Int) = g (i : Int)) : plcT f k = plcT g k := by
  unfold plcT
  congr 1
  apply List.filter_congr
  intro i hi
  exact h i (by simpa using hi)
theorem plcT_mem {f : Int → Bool} {k : Nat} {y : Int} : y ∈ plcT f k ↔ 0 ≤ y ∧ y < k ∧ f y = true := by
  unfold plcT
  rw [List.mem_map]
  constructor
  · rintro ⟨i, hi, rfl⟩
    rw [List.mem_filter] at hi
    have := hi.1
    simp at this
    exact ⟨by omega, by omega, hi.2⟩
  · rintro ⟨h0, h1, h2⟩
    refine ⟨y.toNat, ?_, by omega⟩
    rw [List.mem_filter]
    refine ⟨by simp; omega, ?_⟩
    rw [show ((y.toNat : Nat) : Int) = y by omega]
    exact h2
/-- Whether a place lies in the block i. -/
def hasB (l : List Rel) (p : Int) (i : Nat) : Bool := decide (rAt l i ≤ p ∧ p < rSym l i)
/-- The first block that has a place, or -1. -/
def ofB (l : List Rel) (p : Int) : Int := match (List.range l.length).find? (hasB l p) with
  | some k => (k : Int)
  | none => -1
theorem of_at {l : List Rel} {p : Int} {k : Nat} (hk : k < l.length) (h0 : ∀ j, j < k → hasB l p j = false) (h : hasB l p k = true) : ofB l p = (k : Int) := by
  have hf : (List.range l.length).find? (hasB l p) = some k := by
    rw [List.find?_range_eq_some]
    exact ⟨h, by simpa using hk, fun j hj => by rw [h0 j hj]; rfl⟩
  unfold ofB
  rw [hf]
theorem of_no {l : List Rel} {p : Int} (h0 : ∀ j, j < l.length → hasB l p j = false) : ofB l p = -1 := by
  have hf : (List.range l.length).find? (hasB l p) = none := by
    rw [List.find?_eq_none]
    intro j hj
    rw [h0 j (by simpa using hj)]; simp
  unfold ofB
  rw [hf]
/-- Blocks from their beginnings. -/
def zipN : List Int → Int → List Rel
  | [], _ => []
  | [a], e => [(a, e)]
  | a :: b :: r, e => (a, b) :: zipN (b :: r) e
theorem zipN_len : ∀ (bs : List Int) (e : Int), (zipN bs e).length = bs.length
  | [], _ => rfl
  | [_], _ => rfl
  | a :: b :: r, e => by rw [zipN, List.length_cons, zipN_len (b :: r) e]; rfl
theorem zipN_snoc : ∀ (bs : List Int) (x e : Int), bs ≠ [] → zipN (bs ++ [x]) e = zipN bs x ++ [(x, e)]
  | [], _, _, h => absurd rfl h
  | [a], x, e, _ => rfl
  | a :: b :: r, x, e, _ => by
    have := zipN_snoc (b :: r) x e (by simp)
    simp only [List.cons_append, zipN] at this ⊢
    rw [this]
theorem zipN_at : ∀ (bs : List Int) (e : Int) (k : Nat), k < bs.length → rAt (zipN bs e) k = nth bs k ∧ rSym (zipN bs e) k = if k + 1 < bs.length then nth bs (k + 1) else e
  | [], _, k, h => by simp at h
  | [a], e, k, h => by
    obtain rfl : k = 0 := by simpa using h
    exact ⟨rfl, rfl⟩
  | a :: b :: r, e, 0, _ => by
    refine ⟨rfl, ?_⟩
    rw [if_pos (by simp)]; rfl
  | a :: b :: r, e, k + 1, h => by
    have := zipN_at (b :: r) e k (by simpa using h)
    refine ⟨this.1, ?_⟩
    have h2 := this.2
    rw [show rSym (zipN (a :: b :: r) e) (k + 1) = rSym (zipN (b :: r) e) k from rfl, h2]
    by_cases hk : k + 1 < (b :: r).length
    · rw [if_pos hk, if_pos (by simpa using hk)]; rfl
    · rw [if_neg hk, if_neg (by simpa using hk)]
/-- The blocks of a text. -/
def blkL (text : List Int) (ent : Int) : List Rel := zipN (plcT (begF text ent) text.length) (text.length : Int)
theorem lab_iff {text : List Int} {ent y : Int} : labF text ent y = true ↔ y = ent ∨ anyF (gLab text) text.length y = true := by
  unfold labF addK setF noF
  simp
theorem beg_iff {text : List Int} {ent y : Int} : begF text ent y = true ↔ y = 0 ∨ labF text ent y = true ∨ anyF (gEnd text) text.length y = true := by
  rw [lab_iff]
  unfold begF addK setF noF
  rw [Bool.or_eq_true, Bool.or_eq_true, Bool.or_eq_true, Bool.or_eq_true, beq_iff_eq, beq_iff_eq]
  constructor
  · rintro (((h | h | h) | h) | h)
    · exact .inr (.inl (.inl h))
    · exact .inl h
    · cases h
    · exact .inr (.inl (.inr h))
    · exact .inr (.inr h)
  · rintro (h | (h | h) | h)
    · exact .inl (.inl (.inr (.inl h)))
    · exact .inl (.inl (.inl h))
    · exact .inl (.inr h)
    · exact .inr h
theorem end_iff {text : List Int} {i : Nat} (hi : i < text.length) : anyF (gEnd text) text.length ((i : Int) + 1) = true ↔ endsB (dOp (nth text i)) = true := by
  rw [anyF_iff]
  constructor
  · rintro ⟨j, hj, e⟩
    unfold gEnd at e
    split at e
    · next h3 =>
      have : j = i := by injection e with e; omega
      subst this
      exact h3
    · cases e
  · intro h
    exact ⟨i, hi, by unfold gEnd; rw [if_pos h]⟩
theorem beg_zero (text : List Int) (ent : Int) : begF text ent 0 = true := beg_iff.2 (.inl rfl)
theorem beg_lab {text : List Int} {ent y : Int} (h : labF text ent y = true) : begF text ent y = true := beg_iff.2 (.inr (.inl h))
theorem beg_end {text : List Int} {ent : Int} {i : Nat} (hi : i < text.length) (h : endsB (dOp (nth text i)) = true) : begF text ent ((i : Int) + 1) = true := beg_iff.2 (.inr (.inr ((end_iff hi).2 h)))
/-- What begins a block, at a place behind the first one. -/
theorem beg_succ {text : List Int} {ent : Int} {i : Nat} (hi : i < text.length) : begF text ent ((i : Int) + 1) = (labF text ent ((i : Int) + 1) || endsB (dOp (nth text i))) := by
  rw [Bool.eq_iff_iff, beg_iff, Bool.or_eq_true, end_iff hi]
  constructor
  · rintro (h | h | h)
    · omega
    · exact .inl h
    · exact .inr h
  · rintro (h | h)
    · exact .inr (.inl h)
    · exact .inr (.inr h)




end Go.Proofs.YtmlhnnmelopleaaGreatDoor

namespace Go.Proofs.YtmlhnnmelopleaaGreatDoor
open Go.RowKit

theorem nth_mem {l : List Int} {k : Nat} (h : k < l.length) : nth l k ∈ l := by
  unfold nth
  rw [List.getD_eq_getElem?_getD, List.getElem?_eq_getElem h]
  exact List.getElem_mem h
theorem mem_nth {l : List Int} {y : Int} (h : y ∈ l) : ∃ k, k < l.length ∧ nth l k = y := by
  obtain ⟨k, hk, e⟩ := List.mem_iff_getElem.1 h
  exact ⟨k, hk, by unfold nth; rw [List.getD_eq_getElem?_getD, List.getElem?_eq_getElem hk]; exact e⟩
theorem plc_rise {f : Int → Bool} {n i j : Nat} (hij : i < j) (hj : j < (plcT f n).length) : nth (plcT f n) i < nth (plcT f n) j := by
  have hp : (plcT f n).Pairwise (· < ·) := by
    unfold plcT
    rw [List.pairwise_map]
    exact (List.pairwise_lt_range.filter _).imp (fun {a b} h => by omega)
  rw [List.pairwise_iff_getElem] at hp
  have := hp i j (by omega) hj hij
  unfold nth
  rw [List.getD_eq_getElem?_getD, List.getD_eq_getElem?_getD, List.getElem?_eq_getElem hj, List.getElem?_eq_getElem (show i < (plcT f n).length by omega)]
  exact this
theorem plc_first {f : Int → Bool} {n : Nat} (hn : 0 < n) (h0 : f 0 = true) : 0 < (plcT f n).length ∧ nth (plcT f n) 0 = 0 := by
  have hm : (0 : Int) ∈ plcT f n := plcT_mem.2 ⟨by omega, by omega, h0⟩
  obtain ⟨k, hk, e⟩ := mem_nth hm
  by_cases hk0 : k = 0
  · subst hk0; exact ⟨hk, e⟩
  · have h1 := plc_rise (f := f) (n := n) (show 0 < k by omega) hk
    have h2 := plcT_mem.1 (nth_mem (show 0 < (plcT f n).length by omega))
    omega
section
variable {f : Int → Bool} {n : Nat}
def blkN (f : Int → Bool) (n : Nat) : List Rel := zipN (plcT f n) (n : Int)
theorem blkN_len : (blkN f n).length = (plcT f n).length := zipN_len _ _
theorem blk_from {k : Nat} (hk : k < (plcT f n).length) : rAt (blkN f n) k = nth (plcT f n) k := (zipN_at _ _ k hk).1
theorem blk_to {k : Nat} (hk : k < (plcT f n).length) : rSym (blkN f n) k = if k + 1 < (plcT f n).length then nth (plcT f n) (k + 1) else (n : Int) := (zipN_at _ _ k hk).2
theorem blk_wide {k : Nat} (hk : k < (plcT f n).length) : rAt (blkN f n) k < rSym (blkN f n) k := by
  rw [blk_from hk, blk_to hk]
  split
  · next h => exact plc_rise (by omega) h
  · exact (plcT_mem.1 (nth_mem hk)).2.1
theorem blk_next {k : Nat} (hk : k + 1 < (plcT f n).length) : rSym (blkN f n) k = rAt (blkN f n) (k + 1) := by
  rw [blk_from hk, blk_to (by omega), if_pos hk]
theorem blk_last {k : Nat} (hk : k + 1 = (plcT f n).length) : rSym (blkN f n) k = (n : Int) := by
  rw [blk_to (by omega), if_neg (by omega)]
theorem blk_of {k : Nat} (hk : k < (plcT f n).length) : ofB (blkN f n) (nth (plcT f n) k) = (k : Int) := by
  refine of_at (by rw [blkN_len]; exact hk) (fun j hj => ?_) ?_
  · unfold hasB
    rw [decide_eq_false_iff_not]
    intro h
    have h2 := h.2
    rw [blk_next (show j + 1 < (plcT f n).length by omega), blk_from (show j + 1 < (plcT f n).length by omega)] at h2
    by_cases e : j + 1 = k
    · rw [e] at h2; omega
    · have := plc_rise (f := f) (n := n) (show j + 1 < k by omega) hk
      omega
  · unfold hasB
    rw [decide_eq_true_eq]
    have := blk_wide hk
    rw [blk_from hk] at this ⊢
    exact ⟨Int.le_refl _, this⟩
theorem blk_begin {y : Int} (h : y ∈ plcT f n) : ∃ k : Nat, k < (blkN f n).length ∧ ofB (blkN f n) y = (k : Int) ∧ rAt (blkN f n) k = y := by
  obtain ⟨k, hk, e⟩ := mem_nth h
  subst e
  exact ⟨k, by rw [blkN_len]; exact hk, blk_of hk, blk_from hk⟩
end
/-- The end of what was gone through. -/
def covAt (l : List Rel) (k : Nat) : Int := if k = 0 then 0 else rSym l (k - 1)
theorem cov_zero (l : List Rel) : covAt l 0 = 0 := rfl
theorem cov_succ (l : List Rel) (k : Nat) : covAt l (k + 1) = rSym l k := by unfold covAt; rw [if_neg (by omega)]; rfl
theorem cov_here {f : Int → Bool} {n k : Nat} (hn : 0 < n) (h0 : f 0 = true) (hk : k < (blkN f n).length) : rAt (blkN f n) k = covAt (blkN f n) k ∧ rAt (blkN f n) k < rSym (blkN f n) k ∧ ofB (blkN f n) (rAt (blkN f n) k) = (k : Int) := by
  rw [blkN_len] at hk
  refine ⟨?_, blk_wide hk, by rw [blk_from hk]; exact blk_of hk⟩
  cases k with
  | zero => rw [blk_from hk, (plc_first hn h0).2]; rfl
  | succ k => rw [cov_succ, blk_next hk]
theorem cov_end {f : Int → Bool} {n : Nat} (hn : 0 < n) (h0 : f 0 = true) : covAt (blkN f n) (blkN f n).length = (n : Int) := by
  have hp := (plc_first hn h0).1
  obtain ⟨k, hk⟩ : ∃ k, (plcT f n).length = k + 1 := ⟨(plcT f n).length - 1, by omega⟩
  rw [blkN_len, hk, cov_succ, blk_last hk.symm]
/-- Every label, and every return site, begins a block. -/
theorem lab_beg {text : List Int} {ent y : Int} (h : y ∈ plcT (labF text ent) text.length) : y ∈ plcT (begF text ent) text.length := by
  rw [plcT_mem] at h ⊢
  exact ⟨h.1, h.2.1, beg_lab h.2.2⟩
theorem sit_beg {text : List Int} {ent y : Int} (h : y ∈ plcT (sitF text) text.length) : y ∈ plcT (begF text ent) text.length := by
  rw [plcT_mem] at h ⊢
  refine ⟨h.1, h.2.1, ?_⟩
  have h2 := h.2.2
  unfold sitF addK noF at h2
  rw [Bool.false_or, anyF_iff] at h2
  obtain ⟨i, hi, e⟩ := h2
  unfold gSit at e
  split at e
  · next h3 =>
    injection e with e
    subst e
    refine beg_end hi ?_
    unfold endsB
    rw [decide_eq_true_eq]
    simp at h3
    omega
  · cases e




end Go.Proofs.YtmlhnnmelopleaaGreatDoor
