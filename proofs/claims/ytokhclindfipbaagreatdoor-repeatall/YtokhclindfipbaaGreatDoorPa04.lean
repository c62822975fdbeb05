/-
  Which places of a text are named, which blocks there are; no Go in sight. Blocks lie one behind the other; no Go in sight. The order of suffixes; the places by it, each once; plain. What neighbours of a suffix array have in common, plain.
-/
import Derived.Test.YtokhclindfipbaaGreatDoorProg
import Derived.WalkKit
import Derived.WalkSpells
import Derived.WalkLawsBesides
import Derived.RowKit3
import Derived.Below
import Derived.Deep.QuietTactic
import Derived.BigQuiet
import Derived.WalkSmall
import Derived.Laws.Rows
import Derived.Test.YtokhclindfipbaaGreatDoorPa03
import Derived.Test.YtokhclindfipbaaGreatDoorPa01
namespace Go.Proofs.YtokhclindfipbaaGreatDoor
open Go.RowKit

/-- Some place below k is told to be y. -/
def anyF (g : Nat → Option Int) (k : Nat) (y : Int) : Bool := (List.range k).any fun i => g i == some y
def setF (f : Int → Bool) (x : Int) (y : Int) : Bool := y == x || f y
def addK (f : Int → Bool) (g : Nat → Option Int) (k : Nat) (y : Int) : Bool := f y || anyF g k y
theorem anyF_succ (g : Nat → Option Int) (k : Nat) (y : Int) : anyF g (k + 1) y = (anyF g k y || g k == some y) := by simp [anyF, List.range_succ, List.any_append]
theorem anyF_iff {g : Nat → Option Int} {k : Nat} {y : Int} : anyF g k y = true ↔ ∃ i, i < k ∧ g i = some y := by
  simp [anyF, List.any_eq_true]
theorem addK_zero (f : Int → Bool) (g : Nat → Option Int) (y : Int) : addK f g 0 y = f y := by simp [addK, anyF]
theorem addK_some {f : Int → Bool} {g : Nat → Option Int} {k : Nat} {x : Int} (h : g k = some x) (y : Int) : setF (addK f g k) x y = addK f g (k + 1) y := by
  unfold setF addK
  rw [anyF_succ, h]
  have : (some x == some y) = (y == x) := by
    cases h1 : (y == x) <;> simp_all
    exact fun e => h1 e.symm
  rw [this]
  cases (y == x) <;> cases f y <;> cases anyF g k y <;> rfl
theorem addK_none {f : Int → Bool} {g : Nat → Option Int} {k : Nat} (h : g k = none) (y : Int) : addK f g k y = addK f g (k + 1) y := by
  unfold addK
  rw [anyF_succ, h]
  simp
def gLab (text : List Int) (i : Nat) : Option Int := if isT (nth text i) = true then some (tgV (nth text i)) else none
def gTak (text : List Int) (i : Nat) : Option Int := if (dOp (nth text i) == 20) = true then some (dN (nth text i)) else none
def gSit (text : List Int) (i : Nat) : Option Int := if (dOp (nth text i) == 17) = true ∨ (dOp (nth text i) == 18) = true then some ((i : Int) + 1) else none
def gEnd (text : List Int) (i : Nat) : Option Int := if endsB (dOp (nth text i)) = true then some ((i : Int) + 1) else none
def noF (_ : Int) : Bool := false
def labF (text : List Int) (ent : Int) : Int → Bool := addK (setF noF ent) (gLab text) text.length
def takF (text : List Int) : Int → Bool := addK noF (gTak text) text.length
def sitF (text : List Int) : Int → Bool := addK noF (gSit text) text.length
def begF (text : List Int) (ent : Int) : Int → Bool := addK (addK (setF (setF noF 0) ent) (gLab text) text.length) (gEnd text) text.length
/-- The places below k that a function names, rising. -/
def plcT (f : Int → Bool) (k : Nat) : List Int := ((List.range k).filter fun (i : Nat) => f (i : Int)).map fun (i : Nat) => (i : Int)
theorem plcT_zero (f : Int → Bool) : plcT f 0 = [] := rfl
theorem plcT_yes {f : Int → Bool} {k : Nat} (h : f (k : Int) = true) : plcT f (k + 1) = plcT f k ++ [(k : Int)] := by simp [plcT, List.range_succ, List.filter_append, h]
theorem plcT_no {f : Int → Bool} {k : Nat} (h : f (k : Int) = false) : plcT f (k + 1) = plcT f k := by simp [plcT, List.range_succ, List.filter_append, h]
theorem plcT_len (f : Int → Bool) (k : Nat) : (plcT f k).length ≤ k := by
  induction k with
  | zero => simp [plcT]
  | succ k ih =>
    cases h : f (k : Int)
    · rw [plcT_no h]; omega
    · rw [plcT_yes h]; simp; omega
theorem plcT_fit {f g : Int → Bool} {k : Nat} (h : ∀ i : Nat, i < k → f (i : Int) = g (i : Int)) : plcT f k = plcT g k := by
  unfold plcT
  congr 1
  apply List.filter_congr
  intro i hi
  exact h i (by simpa using hi)
theorem plcT_mem {f : Int → Bool} {k : Nat} {y : Int} : y ∈ plcT f k ↔ 0 ≤ y ∧ y < k ∧ f y = true := by
  unfold plcT
  rw [List.mem_map]
  constructor
  · rintro ⟨i, hi, rfl⟩
    rw [List.mem_filter] at hi
    have := hi.1
    simp at this
    exact ⟨by omega, by omega, hi.2⟩
  · rintro ⟨h0, h1, h2⟩
    refine ⟨y.toNat, ?_, by omega⟩
    rw [List.mem_filter]
    refine ⟨by simp; omega, ?_⟩
    rw [show ((y.toNat : Nat) : Int) = y by omega]
    exact h2
/-- Whether a place lies in the block i. -/
def hasB (l : List Rel) (p : Int) (i : Nat) : Bool := decide (rAt l i ≤ p ∧ p < rSym l i)
/-- The first block that has a place, or -1. -/
def ofB (l : List Rel) (p : Int) : Int := match (List.range l.length).find? (hasB l p) with
  | some k => (k : Int)
  | none => -1
theorem of_at {l : List Rel} {p : Int} {k : Nat} (hk : k < l.length) (h0 : ∀ j, j < k → hasB l p j = false) (h : hasB l p k = true) : ofB l p = (k : Int) := by
  have hf : (List.range l.length).find? (hasB l p) = some k := by
    rw [List.find?_range_eq_some]
    exact ⟨h, by simpa using hk, fun j hj => by rw [h0 j hj]; rfl⟩
  unfold ofB
  rw [hf]
theorem of_no {l : List Rel} {p : Int} (h0 : ∀ j, j < l.length → hasB l p j = false) : ofB l p = -1 := by
  have hf : (List.range l.length).find? (hasB l p) = none := by
    rw [List.find?_eq_none]
    intro j hj
    rw [h0 j (by simpa using hj)]; simp
  unfold ofB
  rw [hf]
/-- Blocks from their beginnings. -/
def zipN : List Int → Int → List Rel
  | [], _ => []
  | [a], e => [(a, e)]
  | a :: b :: r, e => (a, b) :: zipN (b :: r) e
theorem zipN_len : ∀ (bs : List Int) (e : Int), (zipN bs e).length = bs.length
  | [], _ => rfl
  | [_], _ => rfl
  | a :: b :: r, e => by rw [zipN, List.length_cons, zipN_len (b :: r) e]; rfl
theorem zipN_snoc : ∀ (bs : List Int) (x e : Int), bs ≠ [] → zipN (bs ++ [x]) e = zipN bs x ++ [(x, e)]
  | [], _, _, h => absurd rfl h
  | [a], x, e, _ => rfl
  | a :: b :: r, x, e, _ => by
    have := zipN_snoc (b :: r) x e (by simp)
    simp only [List.cons_append, zipN] at this ⊢
    rw [this]
theorem zipN_at : ∀ (bs : List Int) (e : Int) (k : Nat), k < bs.length → rAt (zipN bs e) k = nth bs k ∧ rSym (zipN bs e) k = if k + 1 < bs.length then nth bs (k + 1) else e
  | [], _, k, h => by simp at h
  | [a], e, k, h => by
    obtain rfl : k = 0 := by simpa using h
    exact ⟨rfl, rfl⟩
  | a :: b :: r, e, 0, _ => by
    refine ⟨rfl, ?_⟩
    rw [if_pos (by simp)]; rfl
  | a :: b :: r, e, k + 1, h => by
    have := zipN_at (b :: r) e k (by simpa using h)
    refine ⟨this.1, ?_⟩
    have h2 := this.2
    rw [show rSym (zipN (a :: b :: r) e) (k + 1) = rSym (zipN (b :: r) e) k from rfl, h2]
    by_cases hk : k + 1 < (b :: r).length
    · rw [if_pos hk, if_pos (by simpa using hk)]; rfl
    · rw [if_neg hk, if_neg (by simpa using hk)]
/-- The blocks of a text. -/
def blkL (text : List Int) (ent : Int) : List Rel := zipN (plcT (begF text ent) text.length) (text.length : Int)
theorem lab_iff {text : List Int} {ent y : Int} : labF text ent y = true ↔ y = ent ∨ anyF (gLab text) text.length y = true := by
  unfold labF addK setF noF
  simp
theorem beg_iff {text : List Int} {ent y : Int} : begF text ent y = true ↔ y = 0 ∨ labF text ent y = true ∨ anyF (gEnd text) text.length y = true := by
  rw [lab_iff]
  unfold begF addK setF noF
  rw [Bool.or_eq_true, Bool.or_eq_true, Bool.or_eq_true, Bool.or_eq_true, beq_iff_eq, beq_iff_eq]
  constructor
  · rintro (((h | h | h) | h) | h)
    · exact .inr (.inl (.inl h))
    · exact .inl h
    · cases h
    · exact .inr (.inl (.inr h))
    · exact .inr (.inr h)
  · rintro (h | (h | h) | h)
    · exact .inl (.inl (.inr (.inl h)))
    · exact .inl (.inl (.inl h))
    · exact .inl (.inr h)
    · exact .inr h
theorem end_iff {text : List Int} {i : Nat} (hi : i < text.length) : anyF (gEnd text) text.length ((i : Int) + 1) = true ↔ endsB (dOp (nth text i)) = true := by
  rw [anyF_iff]
  constructor
  · rintro ⟨j, hj, e⟩
    unfold gEnd at e
    split at e
    · next h3 =>
      have : j = i := by injection e with e; omega
      subst this
      exact h3
    · cases e
  · intro h
    exact ⟨i, hi, by unfold gEnd; rw [if_pos h]⟩
theorem beg_zero (text : List Int) (ent : Int) : begF text ent 0 = true := beg_iff.2 (.inl rfl)
theorem beg_lab {text : List Int} {ent y : Int} (h : labF text ent y = true) : begF text ent y = true := beg_iff.2 (.inr (.inl h))
theorem beg_end {text : List Int} {ent : Int} {i : Nat} (hi : i < text.length) (h : endsB (dOp (nth text i)) = true) : begF text ent ((i : Int) + 1) = true := beg_iff.2 (.inr (.inr ((end_iff hi).2 h)))
/-- What begins a block, at a place behind the first one. -/
theorem beg_succ {text : List Int} {ent : Int} {i : Nat} (hi : i < text.length) : begF text ent ((i : Int) + 1) = (labF text ent ((i : Int) + 1) || endsB (dOp (nth text i))) := by
  rw [Bool.eq_iff_iff, beg_iff, Bool.or_eq_true, end_iff hi]
  constructor
  · rintro (h | h | h)
    · omega
    · exact .inl h
    · exact .inr h
  · rintro (h | h)
    · exact .inr (.inl h)
    · exact .inr (.inr h)










end Go.Proofs.YtokhclindfipbaaGreatDoor

namespace Go.Proofs.YtokhclindfipbaaGreatDoor
open Go.RowKit

theorem nth_mem {l : List Int} {k : Nat} (h : k < l.length) : nth l k ∈ l := by
  unfold nth
  rw [List.getD_eq_getElem?_getD, List.getElem?_eq_getElem h]
  exact List.getElem_mem h
theorem mem_nth {l : List Int} {y : Int} (h : y ∈ l) : ∃ k, k < l.length ∧ nth l k = y := by
  obtain ⟨k, hk, e⟩ := List.mem_iff_getElem.1 h
  exact ⟨k, hk, by unfold nth; rw [List.getD_eq_getElem?_getD, List.getElem?_eq_getElem hk]; exact e⟩
theorem plc_rise {f : Int → Bool} {n i j : Nat} (hij : i < j) (hj : j < (plcT f n).length) : nth (plcT f n) i < nth (plcT f n) j := by
  have hp : (plcT f n).Pairwise (· < ·) := by
    unfold plcT
    rw [List.pairwise_map]
    exact (List.pairwise_lt_range.filter _).imp (fun {a b} h => by omega)
  rw [List.pairwise_iff_getElem] at hp
  have := hp i j (by omega) hj hij
  unfold nth
  rw [List.getD_eq_getElem?_getD, List.getD_eq_getElem?_getD, List.getElem?_eq_getElem hj, List.getElem?_eq_getElem (show i < (plcT f n).length by omega)]
  exact this
theorem plc_first {f : Int → Bool} {n : Nat} (hn : 0 < n) (h0 : f 0 = true) : 0 < (plcT f n).length ∧ nth (plcT f n) 0 = 0 := by
  have hm : (0 : Int) ∈ plcT f n := plcT_mem.2 ⟨by omega, by omega, h0⟩
  obtain ⟨k, hk, e⟩ := mem_nth hm
  by_cases hk0 : k = 0
  · subst hk0; exact ⟨hk, e⟩
  · have h1 := plc_rise (f := f) (n := n) (show 0 < k by omega) hk
    have h2 := plcT_mem.1 (nth_mem (show 0 < (plcT f n).length by omega))
    omega
section
variable {f : Int → Bool} {n : Nat}
def blkN (f : Int → Bool) (n : Nat) : List Rel := zipN (plcT f n) (n : Int)
theorem blkN_len : (blkN f n).length = (plcT f n).length := zipN_len _ _
theorem blk_from {k : Nat} (hk : k < (plcT f n).length) : rAt (blkN f n) k = nth (plcT f n) k := (zipN_at _ _ k hk).1
theorem blk_to {k : Nat} (hk : k < (plcT f n).length) : rSym (blkN f n) k = if k + 1 < (plcT f n).length then nth (plcT f n) (k + 1) else (n : Int) := (zipN_at _ _ k hk).2
theorem blk_wide {k : Nat} (hk : k < (plcT f n).length) : rAt (blkN f n) k < rSym (blkN f n) k := by
  rw [blk_from hk, blk_to hk]
  split
  · next h => exact plc_rise (by omega) h
  · exact (plcT_mem.1 (nth_mem hk)).2.1
theorem blk_next {k : Nat} (hk : k + 1 < (plcT f n).length) : rSym (blkN f n) k = rAt (blkN f n) (k + 1) := by
  rw [blk_from hk, blk_to (by omega), if_pos hk]
theorem blk_last {k : Nat} (hk : k + 1 = (plcT f n).length) : rSym (blkN f n) k = (n : Int) := by
  rw [blk_to (by omega), if_neg (by omega)]
theorem blk_of {k : Nat} (hk : k < (plcT f n).length) : ofB (blkN f n) (nth (plcT f n) k) = (k : Int) := by
  refine of_at (by rw [blkN_len]; exact hk) (fun j hj => ?_) ?_
  · unfold hasB
    rw [decide_eq_false_iff_not]
    intro h
    have h2 := h.2
    rw [blk_next (show j + 1 < (plcT f n).length by omega), blk_from (show j + 1 < (plcT f n).length by omega)] at h2
    by_cases e : j + 1 = k
    · rw [e] at h2; omega
    · have := plc_rise (f := f) (n := n) (show j + 1 < k by omega) hk
      omega
  · unfold hasB
    rw [decide_eq_true_eq]
    have := blk_wide hk
    rw [blk_from hk] at this ⊢
    exact ⟨Int.le_refl _, this⟩
theorem blk_begin {y : Int} (h : y ∈ plcT f n) : ∃ k : Nat, k < (blkN f n).length ∧ ofB (blkN f n) y = (k : Int) ∧ rAt (blkN f n) k = y := by
  obtain ⟨k, hk, e⟩ := mem_nth h
  subst e
  exact ⟨k, by rw [blkN_len]; exact hk, blk_of hk, blk_from hk⟩
end
/-- The end of what was gone through. -/
def covAt (l : List Rel) (k : Nat) : Int := if k = 0 then 0 else rSym l (k - 1)
theorem cov_zero (l : List Rel) : covAt l 0 = 0 := rfl
theorem cov_succ (l : List Rel) (k : Nat) : covAt l (k + 1) = rSym l k := by unfold covAt; rw [if_neg (by omega)]; rfl
theorem cov_here {f : Int → Bool} {n k : Nat} (hn : 0 < n) (h0 : f 0 = true) (hk : k < (blkN f n).length) : rAt (blkN f n) k = covAt (blkN f n) k ∧ rAt (blkN f n) k < rSym (blkN f n) k ∧ ofB (blkN f n) (rAt (blkN f n) k) = (k : Int) := by
  rw [blkN_len] at hk
  refine ⟨?_, blk_wide hk, by rw [blk_from hk]; exact blk_of hk⟩
  cases k with
  | zero => rw [blk_from hk, (plc_first hn h0).2]; rfl
  | succ k => rw [cov_succ, blk_next hk]
theorem cov_end {f : Int → Bool} {n : Nat} (hn : 0 < n) (h0 : f 0 = true) : covAt (blkN f n) (blkN f n).length = (n : Int) := by
  have hp := (plc_first hn h0).1
  obtain ⟨k, hk⟩ : ∃ k, (plcT f n).length = k + 1 := ⟨(plcT f n).length - 1, by omega⟩
  rw [blkN_len, hk, cov_succ, blk_last hk.symm]
/-- Every label, and every return site, begins a block. -/
theorem lab_beg {text : List Int} {ent y : Int} (h : y ∈ plcT (labF text ent) text.length) : y ∈ plcT (begF text ent) text.length := by
  rw [plcT_mem] at h ⊢
  exact ⟨h.1, h.2.1, beg_lab h.2.2⟩
theorem sit_beg {text : List Int} {ent y : Int} (h : y ∈ plcT (sitF text) text.length) : y ∈ plcT (begF text ent) text.length := by
  rw [plcT_mem] at h ⊢
  refine ⟨h.1, h.2.1, ?_⟩
  have h2 := h.2.2
  unfold sitF addK noF at h2
  rw [Bool.false_or, anyF_iff] at h2
  obtain ⟨i, hi, e⟩ := h2
  unfold gSit at e
  split at e
  · next h3 =>
    injection e with e
    subst e
    refine beg_end hi ?_
    unfold endsB
    rw [decide_eq_true_eq]
    simp at h3
    omega
  · cases e



end Go.Proofs.YtokhclindfipbaaGreatDoor

namespace Go.Proofs.YtokhclindfipbaaGreatDoor
open Go.RowKit

/-- Which of two lists is the lesser: at the first number that differs; else the shorter one. -/
def ltL : List Int → List Int → Bool
  | [], [] => false
  | [], _ :: _ => true
  | _ :: _, [] => false
  | a :: xs, b :: ys => if a = b then ltL xs ys else decide (a < b)
theorem ltL_nil (ys : List Int) : ltL [] ys = decide (0 < ys.length) := by cases ys <;> simp [ltL]
theorem ltL_out (xs : List Int) : ltL xs [] = false := by cases xs <;> rfl
theorem ltL_same : ∀ xs : List Int, ltL xs xs = false
  | [] => rfl
  | a :: xs => by rw [ltL, if_pos rfl]; exact ltL_same xs
theorem ltL_trans : ∀ {xs ys zs : List Int}, ltL xs ys = true → ltL ys zs = true → ltL xs zs = true
  | [], [], _, h, _ => by cases h
  | [], _ :: _, [], _, h => by cases h
  | [], _ :: _, _ :: _, _, _ => rfl
  | _ :: _, [], _, h, _ => by cases h
  | _ :: _, _ :: _, [], _, h => by cases h
  | a :: xs, b :: ys, c :: zs, h1, h2 => by
    rw [ltL] at h1 h2 ⊢
    by_cases e1 : a = b
    · subst e1
      rw [if_pos rfl] at h1
      by_cases e2 : a = c
      · rw [if_pos e2] at h2 ⊢
        exact ltL_trans h1 h2
      · rw [if_neg e2] at h2 ⊢
        exact h2
    · rw [if_neg e1] at h1
      have h1 : a < b := of_decide_eq_true h1
      by_cases e2 : b = c
      · subst e2
        rw [if_neg e1]
        exact decide_eq_true h1
      · rw [if_neg e2] at h2
        have h2 : b < c := of_decide_eq_true h2
        rw [if_neg (by omega)]
        exact decide_eq_true (by omega)
theorem ltL_total : ∀ {xs ys : List Int}, xs ≠ ys → ltL xs ys = true ∨ ltL ys xs = true
  | [], [], h => absurd rfl h
  | [], _ :: _, _ => .inl rfl
  | _ :: _, [], _ => .inr rfl
  | a :: xs, b :: ys, h => by
    rw [ltL, ltL]
    by_cases e : a = b
    · subst e
      rw [if_pos rfl, if_pos rfl]
      exact ltL_total fun x => h (by rw [x])
    · rw [if_neg e, if_neg fun x => e x.symm]
      rcases Int.lt_or_gt_of_ne e with h1 | h1
      · exact .inl (decide_eq_true h1)
      · exact .inr (decide_eq_true h1)
/-- Is the suffix at i less than that at k? -/
def lsS (l : List Int) (i k : Nat) : Bool := ltL (l.drop i) (l.drop k)
theorem lsS_same (l : List Int) (i : Nat) : lsS l i i = false := ltL_same _
theorem lsS_trans {l : List Int} {i j k : Nat} (h1 : lsS l i j = true) (h2 : lsS l j k = true) : lsS l i k = true := ltL_trans h1 h2
theorem lsS_asym {l : List Int} {i k : Nat} (h : lsS l i k = true) : lsS l k i = false := by
  cases h2 : lsS l k i with
  | false => rfl
  | true =>
    have := lsS_trans h h2
    rw [lsS_same] at this
    cases this
theorem lsS_total {l : List Int} {i k : Nat} (hi : i < l.length) (hk : k < l.length) (h : i ≠ k) : lsS l i k = true ∨ lsS l k i = true := by
  refine ltL_total fun e => h ?_
  have := congrArg List.length e
  rw [List.length_drop, List.length_drop] at this
  omega
theorem drop_nth {l : List Int} {i : Nat} (h : i < l.length) : l.drop i = nth l i :: l.drop (i + 1) := by
  rw [List.drop_eq_getElem_cons h]
  simp [nth, h]
/-- One step of the comparison. -/
theorem lsS_step {l : List Int} {i k : Nat} (hi : i < l.length) (hk : k < l.length) : lsS l i k = if nth l i = nth l k then lsS l (i + 1) (k + 1) else decide (nth l i < nth l k) := by
  unfold lsS
  rw [drop_nth hi, drop_nth hk, ltL]
theorem lsS_endI {l : List Int} {i k : Nat} (hi : l.length ≤ i) : lsS l i k = decide (k < l.length) := by
  unfold lsS
  rw [List.drop_eq_nil_of_le hi, ltL_nil, List.length_drop]
  congr 1
  rw [eq_iff_iff]
  omega
theorem lsS_endK {l : List Int} {i k : Nat} (hk : l.length ≤ k) : lsS l i k = false := by
  unfold lsS
  rw [List.drop_eq_nil_of_le hk, ltL_out]
/-- Places in the order of their suffixes: each once. -/
structure SufP (l : List Int) (A : List Nat) : Prop where
  perm : A.Perm (List.range l.length)
  ord : A.Pairwise fun i k => lsS l i k = true
theorem SufP.len {l : List Int} {A : List Nat} (h : SufP l A) : A.length = l.length := by rw [h.perm.length_eq, List.length_range]
theorem SufP.mem {l : List Int} {A : List Nat} (h : SufP l A) {i : Nat} : i ∈ A ↔ i < l.length := by rw [h.perm.mem_iff, List.mem_range]
theorem SufP.uniq {l : List Int} {A B : List Nat} (h : SufP l A) (k : SufP l B) : A = B :=
  List.Perm.eq_of_pairwise (le := fun i k => lsS l i k = true) (fun a b _ _ h1 h2 => by rw [lsS_asym h1] at h2; cases h2) h.ord k.ord (h.perm.trans k.perm.symm)
def sufN (l : List Int) : List Nat := (List.range l.length).mergeSort fun i k => !lsS l k i
theorem sufN_is (l : List Int) : SufP l (sufN l) := by
  have hp : (sufN l).Perm (List.range l.length) := List.mergeSort_perm _ _
  have hs : (sufN l).Pairwise fun i k => (!lsS l k i) = true := by
    refine List.pairwise_mergeSort (fun a b c h1 h2 => ?_) (fun a b => ?_) _
    · rw [Bool.not_eq_true'] at h1 h2 ⊢
      cases h3 : lsS l c a with
      | false => rfl
      | true =>
        exfalso
        by_cases e1 : l.drop a = l.drop b
        · have : lsS l c b = true := by unfold lsS at h3 ⊢; rw [← e1]; exact h3
          rw [this] at h2; cases h2
        · rcases ltL_total e1 with x | x
          · have := ltL_trans h3 x
            have h2 : ltL (l.drop c) (l.drop b) = false := h2
            rw [this] at h2; cases h2
          · have h1 : ltL (l.drop b) (l.drop a) = false := h1
            rw [x] at h1; cases h1
    · cases h1 : lsS l b a with
      | false => rfl
      | true => rw [lsS_asym h1]; rfl
  refine ⟨hp, ?_⟩
  have hn : (sufN l).Nodup := hp.nodup_iff.2 List.nodup_range
  refine (hs.and hn).imp_of_mem fun {a b} ha hb h => ?_
  have ha : a < l.length := by rw [hp.mem_iff, List.mem_range] at ha; exact ha
  have hb : b < l.length := by rw [hp.mem_iff, List.mem_range] at hb; exact hb
  rcases lsS_total ha hb h.2 with x | x
  · exact x
  · rw [x] at h; cases h.1
theorem sufN_uniq {l : List Int} {A : List Nat} (h : SufP l A) : A = sufN l := h.uniq (sufN_is l)
theorem sufN_len (l : List Int) : (sufN l).length = l.length := (sufN_is l).len
def snth (A : List Nat) (i : Nat) : Nat := A.getD i 0
theorem snth_get {A : List Nat} {i : Nat} (h : i < A.length) : A[i]? = some (snth A i) := by simp [snth, h]
theorem sufN_lt {l : List Int} {i : Nat} (h : i < l.length) : snth (sufN l) i < l.length := by
  have hi : i < (sufN l).length := by rw [sufN_len]; exact h
  have : snth (sufN l) i ∈ sufN l := List.mem_of_getElem? (snth_get hi)
  exact (sufN_is l).mem.1 this
theorem sufN_less {l : List Int} {i k : Nat} (hik : i < k) (hk : k < l.length) : lsS l (snth (sufN l) i) (snth (sufN l) k) = true := by
  have h := List.pairwise_iff_getElem.1 (sufN_is l).ord i k (by rw [sufN_len]; omega) (by rw [sufN_len]; exact hk) hik
  have e1 : (sufN l)[i]'(by rw [sufN_len]; omega) = snth (sufN l) i := by simp [snth, sufN_len, show i < l.length by omega]
  have e2 : (sufN l)[k]'(by rw [sufN_len]; exact hk) = snth (sufN l) k := by simp [snth, sufN_len, hk]
  rw [e1, e2] at h
  exact h
theorem sufN_inj {l : List Int} {i k : Nat} (hi : i < l.length) (hk : k < l.length) (h : snth (sufN l) i = snth (sufN l) k) : i = k := by
  rcases Nat.lt_trichotomy i k with c | c | c
  · have := sufN_less c hk; rw [h, lsS_same] at this; cases this
  · exact c
  · have := sufN_less c hi; rw [h, lsS_same] at this; cases this
/-- Where a place stands. -/
def rkN (l : List Int) (p : Nat) : Nat := (sufN l).idxOf p
theorem rkN_lt {l : List Int} {p : Nat} (h : p < l.length) : rkN l p < l.length := by
  have : p ∈ sufN l := (sufN_is l).mem.2 h
  have := List.idxOf_lt_length_of_mem this
  rw [sufN_len] at this
  exact this
theorem rkN_at {l : List Int} {p : Nat} (h : p < l.length) : snth (sufN l) (rkN l p) = p := by
  have hm : p ∈ sufN l := (sufN_is l).mem.2 h
  have hl : rkN l p < (sufN l).length := List.idxOf_lt_length_of_mem hm
  have e : snth (sufN l) (rkN l p) = (sufN l)[rkN l p]'hl := by simp [snth, hl]
  rw [e]
  exact List.getElem_idxOf hl
theorem rkN_of {l : List Int} {i : Nat} (h : i < l.length) : rkN l (snth (sufN l) i) = i := sufN_inj (rkN_lt (sufN_lt h)) h (rkN_at (sufN_lt h))
/-- Lists ordered alike have one order of suffixes. -/
theorem ltL_alike : ∀ {xs ys zs us : List Int}, xs.length = zs.length → ys.length = us.length → (∀ i, i < xs.length → i < ys.length → ((nth xs i = nth ys i ↔ nth zs i = nth us i) ∧ (nth xs i < nth ys i ↔ nth zs i < nth us i))) → ltL xs ys = ltL zs us
  | [], ys, [], us, _, h2, _ => by rw [ltL_nil, ltL_nil, h2]
  | _ :: _, _, [], _, h1, _, _ => by cases h1
  | [], _, _ :: _, _, h1, _, _ => by cases h1
  | _ :: _, [], _ :: _, [], _, _, _ => rfl
  | _ :: _, _ :: _, _ :: _, [], _, h2, _ => by cases h2
  | _ :: _, [], _ :: _, _ :: _, _, h2, _ => by cases h2
  | a :: xs, b :: ys, c :: zs, d :: us, h1, h2, h => by
    have h0 : (a = b ↔ c = d) ∧ (a < b ↔ c < d) := h 0 (by simp) (by simp)
    have ih := ltL_alike (xs := xs) (ys := ys) (zs := zs) (us := us) (by simpa using h1) (by simpa using h2) fun i hi hk => h (i + 1) (by simpa using hi) (by simpa using hk)
    rw [ltL, ltL]
    by_cases e : a = b
    · rw [if_pos e, if_pos (h0.1.1 e), ih]
    · rw [if_neg e, if_neg fun x => e (h0.1.2 x)]
      congr 1
      rw [eq_iff_iff]
      exact h0.2
theorem nth_dropS (l : List Int) (i k : Nat) : nth (l.drop i) k = nth l (i + k) := by simp [nth]
theorem sufN_alike {l t : List Int} (hl : t.length = l.length) (h : ∀ i k, i < l.length → k < l.length → ((nth l i = nth l k ↔ nth t i = nth t k) ∧ (nth l i < nth l k ↔ nth t i < nth t k))) : sufN t = sufN l := by
  have he : ∀ i k, lsS t i k = lsS l i k := fun i k => by
    unfold lsS
    refine (ltL_alike (by rw [List.length_drop, List.length_drop, hl]) (by rw [List.length_drop, List.length_drop, hl]) fun j hj hk => ?_).symm
    rw [List.length_drop] at hj hk
    rw [nth_dropS, nth_dropS, nth_dropS, nth_dropS]
    exact h _ _ (by omega) (by omega)
  refine (sufN_uniq ⟨?_, ?_⟩)
  · rw [← hl]; exact (sufN_is t).perm
  · exact (sufN_is t).ord.imp fun {a b} hab => by rw [← he]; exact hab
/-- The lists that are told. -/
def sufL (l : List Int) : List Int := (sufN l).map fun p => ((p : Nat) : Int)
def rkL (l : List Int) : List Int := (List.range l.length).map fun p => ((rkN l p : Nat) : Int)
theorem sufL_len (l : List Int) : (sufL l).length = l.length := by simp [sufL, sufN_len]
theorem rkL_len (l : List Int) : (rkL l).length = l.length := by simp [rkL]
theorem sufL_nth {l : List Int} {i : Nat} (h : i < l.length) : nth (sufL l) i = ((snth (sufN l) i : Nat) : Int) := by simp [nth, sufL, snth, sufN_len, h]
theorem rkL_nth {l : List Int} {i : Nat} (h : i < l.length) : nth (rkL l) i = ((rkN l i : Nat) : Int) := by simp [nth, rkL, h]
/-- Compare's answer. -/
def cmpS (l : List Int) (i k : Int) : Int := if i < 0 ∨ k < 0 ∨ (l.length : Int) ≤ i ∨ (l.length : Int) ≤ k ∨ i = k then 0 else if lsS l i.toNat k.toNat = true then -1 else 1
/-- How many binary digits. -/
def bitsN (n : Nat) : Nat := if n = 0 then 0 else bitsN (n / 2) + 1
termination_by n
decreasing_by omega
def mostI (n : Int) : Int := if n < 1 ∨ 16384 < n then 0 else 6 * n * ((bitsN n.toNat : Int) + 1) * ((bitsN n.toNat : Int) + 1)
theorem bitsN_zero : bitsN 0 = 0 := by rw [bitsN]; rfl
theorem bitsN_pos {n : Nat} (h : 0 < n) : bitsN n = bitsN (n / 2) + 1 := by
  rw [bitsN, if_neg (by omega)]
theorem bitsN_le : ∀ {k n : Nat}, n < 2 ^ k → bitsN n ≤ k
  | 0, n, h => by
    have : n = 0 := by simpa using h
    rw [this, bitsN_zero]; exact Nat.le_refl _
  | k + 1, n, h => by
    by_cases h0 : n = 0
    · rw [h0, bitsN_zero]; exact Nat.zero_le _
    · rw [bitsN_pos (by omega)]
      have := bitsN_le (k := k) (n := n / 2) (by rw [Nat.pow_succ] at h; omega)
      omega





end Go.Proofs.YtokhclindfipbaaGreatDoor

namespace Go.Proofs.YtokhclindfipbaaGreatDoor
open Go.RowKit

/-- How many numbers two lists have in common, from their beginnings on. -/
def cpL : List Int → List Int → Nat
  | a :: xs, b :: ys => if a = b then cpL xs ys + 1 else 0
  | [], _ => 0
  | _ :: _, [] => 0
theorem cpL_nil (ys : List Int) : cpL [] ys = 0 := by cases ys <;> rfl
theorem cpL_out (xs : List Int) : cpL xs [] = 0 := by cases xs <;> rfl
theorem cpL_comm : ∀ xs ys : List Int, cpL xs ys = cpL ys xs
  | [], ys => by rw [cpL_nil, cpL_out]
  | _ :: _, [] => rfl
  | a :: xs, b :: ys => by
    rw [cpL, cpL]
    by_cases e : a = b
    · rw [if_pos e, if_pos e.symm, cpL_comm xs ys]
    · rw [if_neg e, if_neg fun x => e x.symm]
theorem cpL_same : ∀ xs : List Int, cpL xs xs = xs.length
  | [] => rfl
  | a :: xs => by rw [cpL, if_pos rfl, cpL_same xs]; rfl
theorem cpL_le : ∀ xs ys : List Int, cpL xs ys ≤ xs.length
  | [], ys => by rw [cpL_nil]; exact Nat.zero_le _
  | _ :: _, [] => Nat.zero_le _
  | a :: xs, b :: ys => by
    rw [cpL]
    by_cases e : a = b
    · rw [if_pos e]; have := cpL_le xs ys; simp; exact this
    · rw [if_neg e]; exact Nat.zero_le _
/-- Of three lists in order: what the outer ones have in common is the lesser of what neighbours have. -/
theorem cpL_min : ∀ {xs ys zs : List Int}, ltL xs ys = true → ltL ys zs = true → cpL xs zs = min (cpL xs ys) (cpL ys zs)
  | [], ys, zs, _, _ => by rw [cpL_nil, cpL_nil, Nat.zero_min]
  | a :: xs, [], zs, h, _ => by rw [ltL] at h; cases h
  | a :: xs, b :: ys, [], _, h => by rw [ltL] at h; cases h
  | a :: xs, b :: ys, c :: zs, h1, h2 => by
    rw [ltL] at h1 h2
    rw [cpL, cpL, cpL]
    by_cases e1 : a = b
    · subst e1
      rw [if_pos rfl] at h1
      by_cases e2 : a = c
      · subst e2
        rw [if_pos rfl] at h2
        rw [if_pos rfl, if_pos rfl, if_pos rfl, cpL_min h1 h2]
        omega
      · rw [if_neg e2, if_neg e2, Nat.min_zero]
    · rw [if_neg e1] at h1
      have h1 : a < b := of_decide_eq_true h1
      by_cases e2 : b = c
      · subst e2
        rw [if_neg e1, if_neg e1, Nat.zero_min]
      · rw [if_neg e2] at h2
        have h2 : b < c := of_decide_eq_true h2
        rw [if_neg (show ¬ a = c by omega), if_neg e1, Nat.zero_min]
/-- What two suffixes have in common. -/
def cpS (l : List Int) (i k : Nat) : Nat := cpL (l.drop i) (l.drop k)
theorem cpS_comm (l : List Int) (i k : Nat) : cpS l i k = cpS l k i := cpL_comm _ _
theorem cpS_step {l : List Int} {i k : Nat} (hi : i < l.length) (hk : k < l.length) : cpS l i k = if nth l i = nth l k then cpS l (i + 1) (k + 1) + 1 else 0 := by
  unfold cpS
  rw [drop_nth hi, drop_nth hk, cpL]
theorem cpS_endI {l : List Int} {i k : Nat} (hi : l.length ≤ i) : cpS l i k = 0 := by
  unfold cpS
  rw [List.drop_eq_nil_of_le hi, cpL_nil]
theorem cpS_endK {l : List Int} {i k : Nat} (hk : l.length ≤ k) : cpS l i k = 0 := by rw [cpS_comm, cpS_endI hk]
theorem cpS_leI (l : List Int) (i k : Nat) : i + cpS l i k ≤ l.length ∨ cpS l i k = 0 := by
  by_cases h : i ≤ l.length
  · have h2 : cpL (l.drop i) (l.drop k) ≤ (l.drop i).length := cpL_le _ _
    have h3 : (l.drop i).length = l.length - i := List.length_drop
    have h4 : cpS l i k = cpL (l.drop i) (l.drop k) := rfl
    omega
  · exact .inr (cpS_endI (by omega))
theorem cpS_leK (l : List Int) (i k : Nat) : k + cpS l i k ≤ l.length ∨ cpS l i k = 0 := by rw [cpS_comm]; exact cpS_leI l k i
/-- A beginning that is in common may be counted first. -/
theorem cpS_from : ∀ (n : Nat) {l : List Int} {i k : Nat}, n ≤ cpS l i k → cpS l i k = n + cpS l (i + n) (k + n)
  | 0, l, i, k, _ => by simp
  | n + 1, l, i, k, h => by
    by_cases hi : i < l.length
    · by_cases hk : k < l.length
      · have hs := cpS_step hi hk
        by_cases e : nth l i = nth l k
        · rw [if_pos e] at hs
          have := cpS_from n (l := l) (i := i + 1) (k := k + 1) (by omega)
          rw [hs, this, show i + 1 + n = i + (n + 1) by omega, show k + 1 + n = k + (n + 1) by omega]
          omega
        · rw [if_neg e] at hs; omega
      · rw [cpS_endK (by omega)] at h; omega
    · rw [cpS_endI (by omega)] at h; omega
theorem cpS_min {l : List Int} {i j k : Nat} (h1 : lsS l i j = true) (h2 : lsS l j k = true) : cpS l i k = min (cpS l i j) (cpS l j k) := cpL_min h1 h2
/-- The number at a place of the array: what it has in common with the one ahead. -/
def cpN (l : List Int) (r : Nat) : Nat := if r = 0 then 0 else cpS l (snth (sufN l) (r - 1)) (snth (sufN l) r)
def cpA (l : List Int) : List Int := (List.range l.length).map fun r => ((cpN l r : Nat) : Int)
theorem cpA_len (l : List Int) : (cpA l).length = l.length := by simp [cpA]
theorem cpA_nth {l : List Int} {r : Nat} (h : r < l.length) : nth (cpA l) r = ((cpN l r : Nat) : Int) := by simp [nth, cpA, h]
/-- Between two places of the array. -/
theorem cpS_between {l : List Int} : ∀ {d i : Nat}, i + d + 1 < l.length → cpS l (snth (sufN l) i) (snth (sufN l) (i + d + 1)) = (List.range d).foldl (fun m j => min m (cpN l (i + 2 + j))) (cpN l (i + 1))
  | 0, i, h => by simp [cpN]
  | d + 1, i, h => by
    rw [List.range_succ, List.foldl_append, List.foldl_cons, List.foldl_nil, ← cpS_between (d := d) (i := i) (by omega)]
    have h1 := sufN_less (l := l) (i := i) (k := i + d + 1) (by omega) (by omega)
    have h2 := sufN_less (l := l) (i := i + d + 1) (k := i + (d + 1) + 1) (by omega) (by omega)
    rw [cpS_min h1 h2]
    congr 1
    unfold cpN
    rw [if_neg (by omega)]
    congr 2 <;> omega
/-- At least so much is in common just if all numbers between are at least that. -/
theorem cpS_all {l : List Int} {n : Nat} : ∀ {d i : Nat}, i + d + 1 < l.length → (n ≤ cpS l (snth (sufN l) i) (snth (sufN l) (i + d + 1)) ↔ ∀ j, i < j → j ≤ i + d + 1 → n ≤ cpN l j)
  | 0, i, h => by
    have e : cpN l (i + 1) = cpS l (snth (sufN l) i) (snth (sufN l) (i + 0 + 1)) := by unfold cpN; rw [if_neg (by omega)]; rfl
    rw [← e]
    constructor
    · intro h1 j hj1 hj2
      obtain rfl : j = i + 1 := by omega
      exact h1
    · intro h1; exact h1 _ (by omega) (by omega)
  | d + 1, i, h => by
    have h1 := sufN_less (l := l) (i := i) (k := i + d + 1) (by omega) (by omega)
    have h2 := sufN_less (l := l) (i := i + d + 1) (k := i + (d + 1) + 1) (by omega) (by omega)
    have e : cpN l (i + (d + 1) + 1) = cpS l (snth (sufN l) (i + d + 1)) (snth (sufN l) (i + (d + 1) + 1)) := by unfold cpN; rw [if_neg (by omega)]; rfl
    rw [cpS_min h1 h2, ← e, Nat.le_min, cpS_all (d := d) (i := i) (by omega)]
    constructor
    · rintro ⟨a, b⟩ j hj1 hj2
      by_cases hj : j = i + (d + 1) + 1
      · rw [hj]; exact b
      · exact a j hj1 (by omega)
    · intro a; exact ⟨fun j hj1 hj2 => a j hj1 (by omega), a _ (by omega) (by omega)⟩
theorem cpS_row {l : List Int} {n i k : Nat} (hik : i < k) (hk : k < l.length) : n ≤ cpS l (snth (sufN l) i) (snth (sufN l) k) ↔ ∀ j, i < j → j ≤ k → n ≤ cpN l j := by
  have h := cpS_all (l := l) (n := n) (d := k - i - 1) (i := i) (by omega)
  rw [show i + (k - i - 1) + 1 = k by omega] at h
  exact h
/-- The place ahead in the array. -/
def aheadN (l : List Int) (p : Nat) : Nat := snth (sufN l) (rkN l p - 1)
theorem cpN_rk {l : List Int} {p : Nat} (hp : p < l.length) (h : 0 < rkN l p) : cpN l (rkN l p) = cpS l (aheadN l p) p := by
  unfold cpN aheadN
  rw [if_neg (by omega), rkN_at hp]
theorem aheadN_lt {l : List Int} {p : Nat} (hp : p < l.length) : aheadN l p < l.length := sufN_lt (by have := rkN_lt hp; omega)
theorem aheadN_less {l : List Int} {p : Nat} (hp : p < l.length) (h : 0 < rkN l p) : lsS l (aheadN l p) p = true := by
  have := sufN_less (l := l) (i := rkN l p - 1) (k := rkN l p) (by omega) (rkN_lt hp)
  rw [rkN_at hp] at this
  exact this
theorem rkN_less {l : List Int} {p q : Nat} (hp : p < l.length) (hq : q < l.length) (h : lsS l p q = true) : rkN l p < rkN l q := by
  rcases Nat.lt_trichotomy (rkN l p) (rkN l q) with c | c | c
  · exact c
  · have e : p = q := by rw [← rkN_at hp, ← rkN_at hq, c]
    rw [e, lsS_same] at h; cases h
  · have := sufN_less c (rkN_lt hp)
    rw [rkN_at hp, rkN_at hq] at this
    rw [lsS_asym this] at h; cases h
/-- Each place's prefix is at most one shorter than the one of the place ahead in the list. -/
theorem cp_next {l : List Int} {p : Nat} (hp : p + 1 < l.length) : cpN l (rkN l p) ≤ cpN l (rkN l (p + 1)) + 1 := by
  by_cases h0 : 0 < rkN l p
  · rw [cpN_rk (by omega) h0]
    have hj : aheadN l p < l.length := aheadN_lt (by omega)
    have hls := aheadN_less (l := l) (p := p) (by omega) h0
    have hs := cpS_step hj (show p < l.length by omega)
    by_cases e : nth l (aheadN l p) = nth l p
    · rw [if_pos e] at hs
      rw [lsS_step hj (by omega), if_pos e] at hls
      by_cases hj1 : aheadN l p + 1 < l.length
      · have hr := rkN_less hj1 hp hls
        have hq : 0 < rkN l (p + 1) := by omega
        rw [cpN_rk hp hq]
        by_cases hsame : rkN l (aheadN l p + 1) = rkN l (p + 1) - 1
        · have : aheadN l (p + 1) = aheadN l p + 1 := by unfold aheadN; rw [← hsame, rkN_at hj1]; rfl
          rw [this]; omega
        · have h1 := sufN_less (l := l) (i := rkN l (aheadN l p + 1)) (k := rkN l (p + 1) - 1) (by omega) (by have := rkN_lt hp; omega)
          rw [rkN_at hj1] at h1
          have h2 := aheadN_less hp hq
          have := cpS_min h1 h2
          have e3 : snth (sufN l) (rkN l (p + 1) - 1) = aheadN l (p + 1) := rfl
          rw [e3] at this
          omega
      · rw [cpS_endI (show l.length ≤ aheadN l p + 1 by omega)] at hs
        omega
    · rw [if_neg e] at hs; omega
  · have : rkN l p = 0 := by omega
    rw [this]
    simp [cpN]
/-- The last place has nothing in common with what stands ahead of it beyond one number. -/
theorem cp_last {l : List Int} {p : Nat} (hp : p + 1 = l.length) : cpN l (rkN l p) ≤ 1 := by
  by_cases h0 : 0 < rkN l p
  · rw [cpN_rk (by omega) h0]
    have := cpS_leK l (aheadN l p) p
    omega
  · have : rkN l p = 0 := by omega
    rw [this]
    simp [cpN]




end Go.Proofs.YtokhclindfipbaaGreatDoor
