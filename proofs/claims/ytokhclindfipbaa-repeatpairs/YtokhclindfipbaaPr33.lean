/-
  What words read and write, as sets of registers; no Go in sight. Numbers of words, plain: one number just if one word that is not alone. What the statements need of the program: Of, Same and Count of number, by what they answer.
-/
import Derived.Test.YtokhclindfipbaaProg
import Derived.WalkKit
import Derived.WalkSpells
import Derived.WalkLawsBesides
import Derived.RowKit3
import Derived.Below
import Derived.Deep.QuietTactic
import Derived.BigQuiet
import Derived.WalkSmall
import Derived.Laws.Rows
import Derived.Laws.BitsAllLaws
import Derived.Test.YtokhclindfipbaaPr25
import Derived.Test.YtokhclindfipbaaPr01
import Derived.Test.YtokhclindfipbaaPr26
import Derived.Test.YtokhclindfipbaaPr03
namespace Go.Proofs.Ytokhclindfipbaa
open Go.RowKit

theorem dD_reg (v : Int) : 0 ≤ dD v ∧ dD v ≤ 15 := by
  unfold dD
  split
  · unfold wD; omega
  · omega
theorem dA_reg (v : Int) : 0 ≤ dA v ∧ dA v ≤ 15 := by
  unfold dA
  split
  · unfold wA; omega
  · omega
theorem dB_reg (v : Int) : 0 ≤ dB v ∧ dB v ≤ 15 := by
  unfold dB
  split
  · unfold wB; omega
  · omega
/-- A register as a set of registers. -/
def bitN (h : Bool) (r : Int) : Nat := if h = true then 2 ^ r.toNat else 0
theorem bitN_lt (h : Bool) {r : Int} (h1 : r ≤ 15) : bitN h r < 65536 := by
  unfold bitN
  split
  · have : 2 ^ r.toNat ≤ 2 ^ 15 := Nat.pow_le_pow_right (by omega) (by omega)
    omega
  · omega
/-- What is in the first set and not in the second one. -/
def lessN (a b : Nat) : Nat := a &&& (65535 - b)
theorem lessN_bit {a b : Nat} (hb : b < 65536) (i : Nat) : (lessN a b).testBit i = (a.testBit i && (decide (i < 16) && !b.testBit i)) := by
  unfold lessN
  rw [Nat.testBit_and, show 65535 - b = 2 ^ 16 - (b + 1) by omega, Nat.testBit_two_pow_sub_succ hb]
theorem lessN_lt {a b : Nat} (h : a < 65536) : lessN a b < 65536 := Nat.lt_of_le_of_lt Nat.and_le_left h
theorem orN_lt {a b : Nat} (h : a < 65536) (k : b < 65536) : a ||| b < 65536 := Nat.or_lt_two_pow (n := 16) h k
/-- What a word reads, what it writes. -/
def rdN (v : Int) : Nat := bitN (hA (dOp v)) (dA v) ||| bitN (hB (dOp v)) (dB v)
def wrN (v : Int) : Nat := if dOp v = 17 ∨ dOp v = 18 then 32768 else bitN (hD (dOp v)) (dD v)
theorem rdN_lt (v : Int) : rdN v < 65536 := orN_lt (bitN_lt _ (dA_reg v).2) (bitN_lt _ (dB_reg v).2)
theorem wrN_lt (v : Int) : wrN v < 65536 := by
  unfold wrN
  split
  · omega
  · exact bitN_lt _ (dD_reg v).2
/-- Is the link register in one of both? -/
def lnB (v : Int) : Bool := decide ((rdN v ||| wrN v) / 32768 = 1)
def alB (v : Int) : Bool := if dOp v = -1 ∨ dOp v = 16 then true else if dOp v = 19 ∨ dOp v = 17 then false else if dOp v = 18 then dA v == 15 else lnB v
/-- What the first k words of a row read, and what they write. -/
def allW (l : List Int) : Nat → Nat
  | 0 => 0
  | k + 1 => allW l k ||| wrN (nth l k)
def allR (l : List Int) : Nat → Nat
  | 0 => 0
  | k + 1 => allR l k ||| lessN (rdN (nth l k)) (allW l k)
theorem allW_lt (l : List Int) : ∀ k, allW l k < 65536
  | 0 => by show 0 < 65536; decide
  | k + 1 => orN_lt (allW_lt l k) (wrN_lt _)
theorem allR_lt (l : List Int) : ∀ k, allR l k < 65536
  | 0 => by show 0 < 65536; decide
  | k + 1 => orN_lt (allR_lt l k) (lessN_lt (rdN_lt _))
theorem nth_left {a b : List Int} {k : Nat} (h : k < a.length) : nth (a ++ b) k = nth a k := by
  unfold nth
  rw [List.getD_eq_getElem?_getD, List.getElem?_append_left h, ← List.getD_eq_getElem?_getD]
theorem nth_right {a b : List Int} {j : Nat} : nth (a ++ b) (a.length + j) = nth b j := by
  unfold nth
  rw [List.getD_eq_getElem?_getD, List.getElem?_append_right (by omega), Nat.add_sub_cancel_left, ← List.getD_eq_getElem?_getD]
theorem allW_left (a b : List Int) : ∀ k, k ≤ a.length → allW (a ++ b) k = allW a k
  | 0, _ => rfl
  | k + 1, h => by
    show allW (a ++ b) k ||| wrN (nth (a ++ b) k) = allW a k ||| wrN (nth a k)
    rw [allW_left a b k (by omega), nth_left (by omega)]
theorem allR_left (a b : List Int) : ∀ k, k ≤ a.length → allR (a ++ b) k = allR a k
  | 0, _ => rfl
  | k + 1, h => by
    show allR (a ++ b) k ||| lessN (rdN (nth (a ++ b) k)) (allW (a ++ b) k) = allR a k ||| lessN (rdN (nth a k)) (allW a k)
    rw [allR_left a b k (by omega), allW_left a b k (by omega), nth_left (by omega)]
theorem allW_two (a b : List Int) : ∀ j, allW (a ++ b) (a.length + j) = allW a a.length ||| allW b j
  | 0 => by
    show allW (a ++ b) a.length = allW a a.length ||| 0
    rw [allW_left a b _ (Nat.le_refl _), Nat.or_zero]
  | j + 1 => by
    show allW (a ++ b) (a.length + j) ||| wrN (nth (a ++ b) (a.length + j)) = allW a a.length ||| (allW b j ||| wrN (nth b j))
    rw [allW_two a b j, nth_right, Nat.or_assoc]
theorem less_or {x w y : Nat} (hw : w < 65536) (hy : y < 65536) : lessN x (w ||| y) = lessN (lessN x y) w := by
  apply Nat.eq_of_testBit_eq
  intro i
  rw [lessN_bit (orN_lt hw hy), lessN_bit hw, lessN_bit hy, Nat.testBit_or]
  cases x.testBit i <;> cases w.testBit i <;> cases y.testBit i <;> cases decide (i < 16) <;> rfl
theorem or_less {x y w : Nat} (hw : w < 65536) : lessN (x ||| y) w = lessN x w ||| lessN y w := by
  apply Nat.eq_of_testBit_eq
  intro i
  rw [lessN_bit hw, Nat.testBit_or, Nat.testBit_or, lessN_bit hw, lessN_bit hw]
  cases x.testBit i <;> cases w.testBit i <;> cases y.testBit i <;> cases decide (i < 16) <;> rfl
theorem allR_two (a b : List Int) : ∀ j, allR (a ++ b) (a.length + j) = allR a a.length ||| lessN (allR b j) (allW a a.length)
  | 0 => by
    show allR (a ++ b) a.length = allR a a.length ||| lessN 0 (allW a a.length)
    rw [allR_left a b _ (Nat.le_refl _), show lessN 0 (allW a a.length) = 0 from Nat.zero_and _, Nat.or_zero]
  | j + 1 => by
    show allR (a ++ b) (a.length + j) ||| lessN (rdN (nth (a ++ b) (a.length + j))) (allW (a ++ b) (a.length + j)) = allR a a.length ||| lessN (allR b j ||| lessN (rdN (nth b j)) (allW b j)) (allW a a.length)
    rw [allR_two a b j, allW_two a b j, nth_right, or_less (allW_lt _ _), less_or (allW_lt _ _) (allW_lt _ _), Nat.or_assoc]
/-- Sets as the machine's numbers. -/
theorem orI {a b : Nat} (h : a < 65536) (k : b < 65536) : bits .or .u16 (a : Int) (b : Int) = ((a ||| b : Nat) : Int) := by
  rw [u16_or _ _ (by omega) (by omega) (by omega) (by omega)]
  simp
theorem lessI {a b : Nat} (h : a < 65536) (k : b < 65536) : bits .andNot .u16 (a : Int) (b : Int) = ((lessN a b : Nat) : Int) := by
  rw [u16_andNot _ _ (by omega) (by omega) (by omega) (by omega)]
  simp [lessN]
theorem linkI {n : Nat} (_h : n < 65536) : (((n : Int) / 32768) == 1) = decide (n / 32768 = 1) := by
  by_cases e : n / 32768 = 1
  · rw [decide_eq_true e, beq_iff_eq]; omega
  · rw [decide_eq_false e, beq_eq_false_iff_ne]; omega





end Go.Proofs.Ytokhclindfipbaa

namespace Go.Proofs.Ytokhclindfipbaa
open Go.RowKit

/-- One word, which is not alone? -/
def smB (v w : Int) : Bool := (v == w) && !alB v
/-- The first place ahead of i whose word is the same; i itself, if there is none. -/
def fstP (text : List Int) (i : Nat) : Nat := match (List.range i).find? fun k => smB (nth text k) (nth text i) with
  | some k => k
  | none => i
def newP (text : List Int) (i : Nat) : Bool := fstP text i == i
/-- How many places ahead of i are new. -/
def rnk (text : List Int) : Nat → Nat
  | 0 => 0
  | i + 1 => rnk text i + (if newP text i = true then 1 else 0)
/-- The number of the place i. -/
def numN (text : List Int) (i : Nat) : Nat := rnk text (fstP text i)
def numL (text : List Int) (k : Nat) : List Int := (List.range k).map fun i => ((numN text i : Nat) : Int)
theorem numL_len (text : List Int) (k : Nat) : (numL text k).length = k := by simp [numL]
theorem numL_succ (text : List Int) (k : Nat) : numL text (k + 1) = numL text k ++ [((numN text k : Nat) : Int)] := by simp [numL, List.range_succ]
theorem numL_nth {text : List Int} {k i : Nat} (h : i < k) : nth (numL text k) i = ((numN text i : Nat) : Int) := by simp [nth, numL, h]
theorem fstP_hit {text : List Int} {i k : Nat} (hk : k < i) (h0 : ∀ j, j < k → smB (nth text j) (nth text i) = false) (h : smB (nth text k) (nth text i) = true) : fstP text i = k := by
  have hf : (List.range i).find? (fun k => smB (nth text k) (nth text i)) = some k := by
    rw [List.find?_range_eq_some]
    exact ⟨h, by simpa using hk, fun j hj => by rw [h0 j hj]; rfl⟩
  unfold fstP
  rw [hf]
theorem fstP_none {text : List Int} {i : Nat} (h0 : ∀ j, j < i → smB (nth text j) (nth text i) = false) : fstP text i = i := by
  have hf : (List.range i).find? (fun k => smB (nth text k) (nth text i)) = none := by
    rw [List.find?_eq_none]
    intro j hj
    rw [h0 j (by simpa using hj)]; simp
  unfold fstP
  rw [hf]
/-- What the first place is. -/
theorem fstP_cases (text : List Int) (i : Nat) : (fstP text i = i ∧ ∀ j, j < i → smB (nth text j) (nth text i) = false) ∨ (fstP text i < i ∧ smB (nth text (fstP text i)) (nth text i) = true ∧ ∀ j, j < fstP text i → smB (nth text j) (nth text i) = false) := by
  cases h : (List.range i).find? (fun k => smB (nth text k) (nth text i)) with
  | none =>
    left
    rw [List.find?_eq_none] at h
    have h0 : ∀ j, j < i → smB (nth text j) (nth text i) = false := fun j hj => by simpa using h j (by simpa using hj)
    exact ⟨fstP_none h0, h0⟩
  | some k =>
    right
    rw [List.find?_range_eq_some] at h
    have hk : k < i := by simpa using h.2.1
    have h0 : ∀ j, j < k → smB (nth text j) (nth text i) = false := fun j hj => by simpa using h.2.2 j hj
    have e := fstP_hit hk h0 h.1
    rw [e]
    exact ⟨hk, h.1, h0⟩
theorem smB_iff {v w : Int} : smB v w = true ↔ v = w ∧ alB v = false := by
  unfold smB
  rw [Bool.and_eq_true, beq_iff_eq, Bool.not_eq_true']
theorem fstP_le (text : List Int) (i : Nat) : fstP text i ≤ i := by
  rcases fstP_cases text i with h | h <;> omega
/-- The first place is new. -/
theorem fstP_new (text : List Int) (i : Nat) : fstP text (fstP text i) = fstP text i := by
  rcases fstP_cases text i with h | ⟨h1, h2, h3⟩
  · rw [h.1, h.1]
  · refine fstP_none fun j hj => ?_
    have := h3 j hj
    rw [(smB_iff.1 h2).1]
    exact this
theorem newP_iff {text : List Int} {i : Nat} : newP text i = true ↔ fstP text i = i := by
  unfold newP
  exact beq_iff_eq
theorem rnk_le {text : List Int} {i k : Nat} (h : i ≤ k) : rnk text i ≤ rnk text k := by
  induction k with
  | zero => rw [Nat.le_zero.1 h]; exact Nat.le_refl _
  | succ k ih =>
    by_cases e : i = k + 1
    · rw [e]; exact Nat.le_refl _
    · exact Nat.le_trans (ih (by omega)) (Nat.le_add_right _ _)
theorem rnk_lt {text : List Int} {i k : Nat} (hn : fstP text i = i) (h : i < k) : rnk text i < rnk text k := by
  have : rnk text (i + 1) = rnk text i + 1 := by
    show rnk text i + (if newP text i = true then 1 else 0) = _
    rw [if_pos (newP_iff.2 hn)]
  exact Nat.lt_of_lt_of_le (by omega) (rnk_le (text := text) (show i + 1 ≤ k by omega))
theorem rnk_up (text : List Int) (i : Nat) : rnk text i ≤ i := by
  induction i with
  | zero => exact Nat.le_refl _
  | succ i ih =>
    show rnk text i + (if newP text i = true then 1 else 0) ≤ i + 1
    split <;> omega
/-- One number just if one word that is not alone. -/
theorem num_same {text : List Int} {i k : Nat} (hk : k < i) : numN text i = numN text k ↔ (nth text i = nth text k ∧ alB (nth text i) = false) := by
  have hinj : numN text i = numN text k → fstP text i = fstP text k := fun h => by
    unfold numN at h
    rcases Nat.lt_trichotomy (fstP text i) (fstP text k) with c | c | c
    · have := rnk_lt (fstP_new text i) c; omega
    · exact c
    · have := rnk_lt (fstP_new text k) c; omega
  constructor
  · intro h
    have e := hinj h
    have lk := fstP_le text k
    rcases fstP_cases text i with c | ⟨c1, c2, _⟩
    · omega
    · rw [smB_iff] at c2
      rcases fstP_cases text k with d | ⟨d1, d2, _⟩
      · rw [e, d.1] at c2
        exact ⟨c2.1.symm, by rw [← c2.1]; exact c2.2⟩
      · rw [smB_iff] at d2
        rw [e] at c2
        exact ⟨c2.1.symm.trans d2.1, by rw [← c2.1]; exact c2.2⟩
  · rintro ⟨h1, h2⟩
    unfold numN
    congr 1
    have hki : smB (nth text k) (nth text i) = true := smB_iff.2 ⟨h1.symm, by rw [← h1]; exact h2⟩
    rcases fstP_cases text i with c | ⟨c1, c2, c3⟩
    · rw [c.2 k hk] at hki; cases hki
    · rcases fstP_cases text k with d | ⟨d1, d2, d3⟩
      · rcases Nat.lt_trichotomy (fstP text i) k with e | e | e
        · have := d.2 _ e
          rw [← h1, c2] at this; cases this
        · rw [e, d.1]
        · have := c3 k e
          rw [hki] at this; cases this
      · rcases Nat.lt_trichotomy (fstP text i) (fstP text k) with e | e | e
        · have := d3 _ e
          rw [← h1, c2] at this; cases this
        · exact e
        · have := c3 _ e
          rw [h1, d2] at this; cases this
/-- How many are new below the place: what the next new one gets. -/
theorem num_le (text : List Int) (i : Nat) : numN text i ≤ rnk text i := rnk_le (fstP_le text i)
theorem num_new {text : List Int} {i : Nat} (h : fstP text i = i) : numN text i = rnk text i := by unfold numN; rw [h]
theorem rnk_step (text : List Int) (i : Nat) : rnk text (i + 1) = if fstP text i = i then rnk text i + 1 else rnk text i := by
  show rnk text i + (if newP text i = true then 1 else 0) = _
  by_cases h : fstP text i = i
  · rw [if_pos (newP_iff.2 h), if_pos h]
  · rw [if_neg (fun x => h (newP_iff.1 x)), if_neg h]; rfl
/-- How many unlike numbers the first k of a list are. -/
def frsB (l : List Int) (i : Nat) : Bool := (List.range i).all fun k => nth l k != nth l i
def cntN (l : List Int) : Nat → Nat
  | 0 => 0
  | i + 1 => cntN l i + (if frsB l i = true then 1 else 0)
theorem cnt_up (l : List Int) (i : Nat) : cntN l i ≤ i := by
  induction i with
  | zero => exact Nat.le_refl _
  | succ i ih =>
    show cntN l i + (if frsB l i = true then 1 else 0) ≤ i + 1
    split <;> omega
theorem frsB_iff {l : List Int} {i : Nat} : frsB l i = true ↔ ∀ k, k < i → nth l k ≠ nth l i := by
  unfold frsB
  simp [List.all_eq_true]
/-- Of a text's numbers the new places are counted. -/
theorem cnt_num {text : List Int} {n : Nat} : ∀ {k : Nat}, k ≤ n → cntN (numL text n) k = rnk text k
  | 0, _ => rfl
  | k + 1, h => by
    show cntN (numL text n) k + (if frsB (numL text n) k = true then 1 else 0) = _
    rw [cnt_num (by omega), rnk_step]
    have : frsB (numL text n) k = true ↔ fstP text k = k := by
      rw [frsB_iff]
      constructor
      · intro hx
        rcases fstP_cases text k with c | ⟨c1, c2, c3⟩
        · exact c.1
        · exfalso
          refine hx _ c1 ?_
          rw [numL_nth (by omega), numL_nth (by omega)]
          have := (num_same c1).2 ⟨(smB_iff.1 c2).1.symm, by rw [← (smB_iff.1 c2).1]; exact (smB_iff.1 c2).2⟩
          omega
      · intro hx j hj e
        rw [numL_nth (by omega), numL_nth (by omega)] at e
        have h1 : numN text k = numN text j := by omega
        rw [num_new hx] at h1
        have := num_le text j
        have h2 : rnk text j ≤ rnk text k := rnk_le (by omega)
        obtain ⟨a, b⟩ := (num_same hj).1 (by rw [num_new hx]; exact h1)
        rcases fstP_cases text k with c | c
        · have := c.2 j hj
          rw [smB_iff.2 ⟨a.symm, by rw [← a]; exact b⟩] at this
          cases this
        · omega
    by_cases hx : fstP text k = k
    · rw [if_pos (this.2 hx), if_pos hx]
    · rw [if_neg (fun y => hx (this.1 y)), if_neg hx]; rfl
theorem bit_top {h : Bool} {r : Int} (h0 : 0 ≤ r) : (bitN h r).testBit 15 = (h && decide (r = 15)) := by
  unfold bitN
  cases h with
  | false => rw [if_neg (by decide), Nat.zero_testBit]; rfl
  | true =>
    rw [if_pos rfl, Nat.testBit_two_pow, Bool.true_and]
    by_cases e : r = 15
    · subst e; rfl
    · rw [decide_eq_false e, decide_eq_false (by omega)]
theorem top_bit {n : Nat} (h : n < 65536) : decide (n / 32768 = 1) = n.testBit 15 := by
  rw [Nat.testBit_eq_decide_div_mod_eq]
  have : n / 2 ^ 15 = n / 32768 := rfl
  rw [this, Bool.eq_iff_iff, decide_eq_true_eq, decide_eq_true_eq]
  omega
theorem reg_zero {h : Bool} {x : Int} (hr : regOK h x = true) (hh : h = false) : x = 0 := by
  subst hh
  unfold regOK at hr
  simpa using hr
/-- A word that is alone, by its fields. -/
theorem alone_is (v : Int) (h0 : 0 ≤ v) : alB v = (decide (dOp v < 0) || decide (dOp v = 16) || (decide (dD v = 15 ∨ dA v = 15 ∨ dB v = 15) && !decide (dOp v = 19))) := by
  cases hi : isIns v with
  | false =>
    have e : dOp v = -1 := by unfold dOp; rw [hi]; rfl
    unfold alB
    rw [if_pos (.inl e), decide_eq_true (show dOp v < 0 by omega)]
    rfl
  | true =>
    have hop : dOp v = wOp v := by unfold dOp; rw [hi]; rfl
    have hd : dD v = wD v := by unfold dD; rw [hi]; rfl
    have ha : dA v = wA v := by unfold dA; rw [hi]; rfl
    have hb : dB v = wB v := by unfold dB; rw [hi]; rfl
    have hp : 0 ≤ wOp v := by unfold wOp; omega
    have hin := hi
    unfold isIns insOK at hin
    simp only [Bool.and_eq_true] at hin
    obtain ⟨_, ⟨⟨r1, r2⟩, r3⟩, _⟩ := hin
    have zD := fun e => reg_zero r1 e
    have zA := fun e => reg_zero r2 e
    have zB := fun e => reg_zero r3 e
    rw [← hop] at zD zA zB hp
    rw [← hd] at zD
    rw [← ha] at zA
    rw [← hb] at zB
    have d0 := (dD_reg v).1
    have a0 := (dA_reg v).1
    have b0 := (dB_reg v).1
    have hln : lnB v = ((hA (dOp v) && decide (dA v = 15) || hB (dOp v) && decide (dB v = 15)) || (wrN v).testBit 15) := by
      unfold lnB
      rw [top_bit (orN_lt (rdN_lt v) (wrN_lt v)), Nat.testBit_or]
      congr 1
      unfold rdN
      rw [Nat.testBit_or, bit_top a0, bit_top b0]
    have hwr : ¬ (dOp v = 17 ∨ dOp v = 18) → (wrN v).testBit 15 = (hD (dOp v) && decide (dD v = 15)) := fun h => by
      unfold wrN
      rw [if_neg h, bit_top d0]
    have key : ∀ (h : Bool) (x : Int), (h = false → x = 0) → (h && decide (x = 15)) = decide (x = 15) := fun h x hx => by
      cases h with
      | true => rfl
      | false => rw [hx rfl]; rfl
    rw [Bool.eq_iff_iff]
    unfold alB
    by_cases c16 : dOp v = 16
    · rw [if_pos (.inr c16), decide_eq_true c16]; simp
    · rw [if_neg (by omega), decide_eq_false (show ¬ dOp v < 0 by omega), decide_eq_false c16, Bool.false_or, Bool.false_or]
      by_cases c19 : dOp v = 19 ∨ dOp v = 17
      · rw [if_pos c19]
        rcases c19 with c | c
        · rw [decide_eq_true c]; simp
        · have e1 := zD (by rw [c]; rfl)
          have e2 := zA (by rw [c]; rfl)
          have e3 := zB (by rw [c]; rfl)
          rw [e1, e2, e3]; simp
      · rw [if_neg c19, decide_eq_false (fun h => c19 (.inl h)), Bool.not_false, Bool.and_true]
        by_cases c18 : dOp v = 18
        · rw [if_pos c18]
          have e1 := zD (by rw [c18]; rfl)
          have e3 := zB (by rw [c18]; rfl)
          rw [e1, e3]; simp
        · rw [if_neg c18, hln, hwr (by omega), key _ _ zA, key _ _ zB, key _ _ zD]
          simp only [Bool.or_eq_true, decide_eq_true_eq]
          constructor
          · rintro ((h | h) | h)
            · exact .inr (.inl h)
            · exact .inr (.inr h)
            · exact .inl h
          · rintro (h | h | h)
            · exact .inr h
            · exact .inl (.inl h)
            · exact .inl (.inr h)



end Go.Proofs.Ytokhclindfipbaa

namespace Go.Proofs.Ytokhclindfipbaa
open Go.RowKit

def NofR (text : List Int) (w : World) (e : Ending) (w' : World) : Prop := ∃ (A : Option Addr) (c : Nat), e = .returned (.tuple #[.slice A text.length c, .int .i64 0]) ∧ w'.ownsRow w.heap.size 3 1 (.slice A text.length c) text.length (iVals .i64 (numL text text.length)) ∧ Below w.heap.size w w'
def NofN (E : Int) (w : World) (e : Ending) (w' : World) : Prop := ∃ (A : Option Addr) (c : Nat), e = .returned (.tuple #[.slice A 0 c, .int .i64 E]) ∧ w'.ownsRow w.heap.size 3 1 (.slice A 0 c) 0 [] ∧ Below w.heap.size w w'
structure NofOK : Prop where
  ok : ∀ (A1 A2 : Option Addr) (c1 ml c2 : Nat) (ent : Int) (text : List Int) (w : World), IntsAt w A1 .u32 text → (∀ i, i < text.length → 0 ≤ nth text i ∧ nth text i < 4294967296) → text.length ≤ 1048576 → ml ≤ 1048576 → (checkI text ml ent).1 = 0 →
    Calls Try.prog 8 #[.agg #[.slice A1 text.length c1, .int .i64 ent, .slice A2 ml c2]] w (NofR text w)
  no : ∀ (A1 A2 : Option Addr) (c1 ml c2 : Nat) (ent : Int) (text : List Int) (w : World), IntsAt w A1 .u32 text → (∀ i, i < text.length → 0 ≤ nth text i ∧ nth text i < 4294967296) → text.length ≤ 1048576 → ml ≤ 1048576 → (checkI text ml ent).1 ≠ 0 →
    Calls Try.prog 8 #[.agg #[.slice A1 text.length c1, .int .i64 ent, .slice A2 ml c2]] w (NofN (checkI text ml ent).1 w)
def SameOK : Prop := ∀ (v u : Int) (w : World), 0 ≤ v → v < 4294967296 → 0 ≤ u → u < 4294967296 → Calls Try.prog 34 #[.int .u32 v, .int .u32 u] w fun e w' => e = .returned (.bool (smB v u)) ∧ Below w.heap.size w w'

end Go.Proofs.Ytokhclindfipbaa
