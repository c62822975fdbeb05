/-
  What words read and write, as sets of registers; no Go in sight. The least sets of live registers, plain. What is live behind each place, gone through block by block, plain.
-/
import Derived.Test.YtfnicgihpelhhaaGreatProg
import Derived.WalkKit
import Derived.WalkSpells
import Derived.WalkLawsBesides
import Derived.RowKit3
import Derived.Below
import Derived.Deep.QuietTactic
import Derived.BigQuiet
import Derived.WalkSmall
import Derived.Laws.Rows
import Derived.Laws.BitsAllLaws
import Derived.Test.YtfnicgihpelhhaaGreatPl04
import Derived.Test.YtfnicgihpelhhaaGreatPl01
import Derived.Test.YtfnicgihpelhhaaGreatPl14
namespace Go.Proofs.YtfnicgihpelhhaaGreat
open Go.RowKit

theorem dD_reg (v : Int) : 0 ≤ dD v ∧ dD v ≤ 15 := by
  unfold dD
  split
  · unfold wD; omega
  · omega
theorem dA_reg (v : Int) : 0 ≤ dA v ∧ dA v ≤ 15 := by
  unfold dA
  split
  · unfold wA; omega
  · omega
theorem dB_reg (v : Int) : 0 ≤ dB v ∧ dB v ≤ 15 := by
  unfold dB
  split
  · unfold wB; omega
  · omega
/-- A register as a set of registers. -/
def bitN (h : Bool) (r : Int) : Nat := if h = true then 2 ^ r.toNat else 0
theorem bitN_lt (h : Bool) {r : Int} (h1 : r ≤ 15) : bitN h r < 65536 := by
  unfold bitN
  split
  · have : 2 ^ r.toNat ≤ 2 ^ 15 := Nat.pow_le_pow_right (by omega) (by omega)
    omega
  · omega
/-- What is in the first set and not in the second one. -/
def lessN (a b : Nat) : Nat := a &&& (65535 - b)
theorem lessN_bit {a b : Nat} (hb : b < 65536) (i : Nat) : (lessN a b).testBit i = (a.testBit i && (decide (i < 16) && !b.testBit i)) := by
  unfold lessN
  rw [Nat.testBit_and, show 65535 - b = 2 ^ 16 - (b + 1) by omega, Nat.testBit_two_pow_sub_succ hb]
theorem lessN_lt {a b : Nat} (h : a < 65536) : lessN a b < 65536 := Nat.lt_of_le_of_lt Nat.and_le_left h
theorem orN_lt {a b : Nat} (h : a < 65536) (k : b < 65536) : a ||| b < 65536 := Nat.or_lt_two_pow (n := 16) h k
/-- What a word reads, what it writes. -/
def rdN (v : Int) : Nat := bitN (hA (dOp v)) (dA v) ||| bitN (hB (dOp v)) (dB v)
def wrN (v : Int) : Nat := if dOp v = 17 ∨ dOp v = 18 then 32768 else bitN (hD (dOp v)) (dD v)
theorem rdN_lt (v : Int) : rdN v < 65536 := orN_lt (bitN_lt _ (dA_reg v).2) (bitN_lt _ (dB_reg v).2)
theorem wrN_lt (v : Int) : wrN v < 65536 := by
  unfold wrN
  split
  · omega
  · exact bitN_lt _ (dD_reg v).2
/-- Is the link register in one of both? -/
def lnB (v : Int) : Bool := decide ((rdN v ||| wrN v) / 32768 = 1)
def alB (v : Int) : Bool := if dOp v = -1 ∨ dOp v = 16 then true else if dOp v = 19 ∨ dOp v = 17 then false else if dOp v = 18 then dA v == 15 else lnB v
/-- What the first k words of a row read, and what they write. -/
def allW (l : List Int) : Nat → Nat
  | 0 => 0
  | k + 1 => allW l k ||| wrN (nth l k)
def allR (l : List Int) : Nat → Nat
  | 0 => 0
  | k + 1 => allR l k ||| lessN (rdN (nth l k)) (allW l k)
theorem allW_lt (l : List Int) : ∀ k, allW l k < 65536
  | 0 => by show 0 < 65536; decide
  | k + 1 => orN_lt (allW_lt l k) (wrN_lt _)
theorem allR_lt (l : List Int) : ∀ k, allR l k < 65536
  | 0 => by show 0 < 65536; decide
  | k + 1 => orN_lt (allR_lt l k) (lessN_lt (rdN_lt _))
theorem nth_left {a b : List Int} {k : Nat} (h : k < a.length) : nth (a ++ b) k = nth a k := by
  unfold nth
  rw [List.getD_eq_getElem?_getD, List.getElem?_append_left h, ← List.getD_eq_getElem?_getD]
theorem nth_right {a b : List Int} {j : Nat} : nth (a ++ b) (a.length + j) = nth b j := by
  unfold nth
  rw [List.getD_eq_getElem?_getD, List.getElem?_append_right (by omega), Nat.add_sub_cancel_left, ← List.getD_eq_getElem?_getD]
theorem allW_left (a b : List Int) : ∀ k, k ≤ a.length → allW (a ++ b) k = allW a k
  | 0, _ => rfl
  | k + 1, h => by
    show allW (a ++ b) k ||| wrN (nth (a ++ b) k) = allW a k ||| wrN (nth a k)
    rw [allW_left a b k (by omega), nth_left (by omega)]
theorem allR_left (a b : List Int) : ∀ k, k ≤ a.length → allR (a ++ b) k = allR a k
  | 0, _ => rfl
  | k + 1, h => by
    show allR (a ++ b) k ||| lessN (rdN (nth (a ++ b) k)) (allW (a ++ b) k) = allR a k ||| lessN (rdN (nth a k)) (allW a k)
    rw [allR_left a b k (by omega), allW_left a b k (by omega), nth_left (by omega)]
theorem allW_two (a b : List Int) : ∀ j, allW (a ++ b) (a.length + j) = allW a a.length ||| allW b j
  | 0 => by
    show allW (a ++ b) a.length = allW a a.length ||| 0
    rw [allW_left a b _ (Nat.le_refl _), Nat.or_zero]
  | j + 1 => by
    show allW (a ++ b) (a.length + j) ||| wrN (nth (a ++ b) (a.length + j)) = allW a a.length ||| (allW b j ||| wrN (nth b j))
    rw [allW_two a b j, nth_right, Nat.or_assoc]
theorem less_or {x w y : Nat} (hw : w < 65536) (hy : y < 65536) : lessN x (w ||| y) = lessN (lessN x y) w := by
  apply Nat.eq_of_testBit_eq
  intro i
  rw [lessN_bit (orN_lt hw hy), lessN_bit hw, lessN_bit hy, Nat.testBit_or]
  cases x.testBit i <;> cases w.testBit i <;> cases y.testBit i <;> cases decide (i < 16) <;> rfl
theorem or_less {x y w : Nat} (hw : w < 65536) : lessN (x ||| y) w = lessN x w ||| lessN y w := by
  apply Nat.eq_of_testBit_eq
  intro i
  rw [lessN_bit hw, Nat.testBit_or, Nat.testBit_or, lessN_bit hw, lessN_bit hw]
  cases x.testBit i <;> cases w.testBit i <;> cases y.testBit i <;> cases decide (i < 16) <;> rfl
theorem allR_two (a b : List Int) : ∀ j, allR (a ++ b) (a.length + j) = allR a a.length ||| lessN (allR b j) (allW a a.length)
  | 0 => by
    show allR (a ++ b) a.length = allR a a.length ||| lessN 0 (allW a a.length)
    rw [allR_left a b _ (Nat.le_refl _), show lessN 0 (allW a a.length) = 0 from Nat.zero_and _, Nat.or_zero]
  | j + 1 => by
    show allR (a ++ b) (a.length + j) ||| lessN (rdN (nth (a ++ b) (a.length + j))) (allW (a ++ b) (a.length + j)) = allR a a.length ||| lessN (allR b j ||| lessN (rdN (nth b j)) (allW b j)) (allW a a.length)
    rw [allR_two a b j, allW_two a b j, nth_right, or_less (allW_lt _ _), less_or (allW_lt _ _) (allW_lt _ _), Nat.or_assoc]
/-- Sets as the machine's numbers. -/
theorem orI {a b : Nat} (h : a < 65536) (k : b < 65536) : bits .or .u16 (a : Int) (b : Int) = ((a ||| b : Nat) : Int) := by
  rw [u16_or _ _ (by omega) (by omega) (by omega) (by omega)]
  simp
theorem lessI {a b : Nat} (h : a < 65536) (k : b < 65536) : bits .andNot .u16 (a : Int) (b : Int) = ((lessN a b : Nat) : Int) := by
  rw [u16_andNot _ _ (by omega) (by omega) (by omega) (by omega)]
  simp [lessN]
theorem linkI {n : Nat} (_h : n < 65536) : (((n : Int) / 32768) == 1) = decide (n / 32768 = 1) := by
  by_cases e : n / 32768 = 1
  · rw [decide_eq_true e, beq_iff_eq]; omega
  · rw [decide_eq_false e, beq_eq_false_iff_ne]; omega


end Go.Proofs.YtfnicgihpelhhaaGreat

namespace Go.Proofs.YtfnicgihpelhhaaGreat
open Go.RowKit

/-- A set within a set. -/
def SubN (a b : Nat) : Prop := ∀ r, a.testBit r = true → b.testBit r = true
theorem SubN.refl (a : Nat) : SubN a a := fun _ h => h
theorem SubN.trans {a b c : Nat} (h : SubN a b) (k : SubN b c) : SubN a c := fun r x => k r (h r x)
theorem SubN.anti {a b : Nat} (h : SubN a b) (k : SubN b a) : a = b := Nat.eq_of_testBit_eq fun i => by
  rw [Bool.eq_iff_iff]; exact ⟨h i, k i⟩
theorem SubN.le {a b : Nat} (h : SubN a b) : a ≤ b := by
  have e : a ||| b = b := Nat.eq_of_testBit_eq fun i => by
    rw [Nat.testBit_or]
    have := h i
    cases ha : a.testBit i with
    | true => rw [this ha]; rfl
    | false => rfl
  exact Nat.le_trans Nat.left_le_or (Nat.le_of_eq e)
theorem SubN.zero (b : Nat) : SubN 0 b := fun r h => by rw [Nat.zero_testBit] at h; cases h
theorem sub_or {a b c d : Nat} (h : SubN a c) (k : SubN b d) : SubN (a ||| b) (c ||| d) := fun r x => by
  rw [Nat.testBit_or, Bool.or_eq_true] at x ⊢
  exact x.imp (h r) (k r)
theorem sub_less {a b w : Nat} (hw : w < 65536) (h : SubN a b) : SubN (lessN a w) (lessN b w) := fun r x => by
  rw [lessN_bit hw, Bool.and_eq_true] at x ⊢
  exact ⟨h r x.1, x.2⟩
/-- All that is in the sets of the first k of a list. -/
def orE (F : Int → Nat) (l : List Int) : Nat → Nat
  | 0 => 0
  | k + 1 => orE F l k ||| F (nth l k)
theorem orE_sub {F G : Int → Nat} {l : List Int} : ∀ {k : Nat}, (∀ t, t < k → SubN (F (nth l t)) (G (nth l t))) → SubN (orE F l k) (orE G l k)
  | 0, _ => SubN.refl _
  | k + 1, h => sub_or (orE_sub fun t ht => h t (by omega)) (h k (by omega))
theorem orE_lt {F : Int → Nat} (l : List Int) (h : ∀ x, F x < 65536) : ∀ k, orE F l k < 65536
  | 0 => by show 0 < 65536; decide
  | k + 1 => orN_lt (orE_lt l h k) (h _)
/-- What is live ahead: read, or live behind and not written. -/
def insN (r w o : Nat) : Nat := r ||| lessN o w
theorem insN_lt {r w o : Nat} (hr : r < 65536) (ho : o < 65536) : insN r w o < 65536 := orN_lt hr (lessN_lt ho)
theorem insN_sub {r w a b : Nat} (hw : w < 65536) (h : SubN a b) : SubN (insN r w a) (insN r w b) := sub_or (SubN.refl _) (sub_less hw h)
/-- Sets for which each block's equations hold. -/
structure Sol (L : List (List Int)) (R W : Nat → Nat) (n : Nat) (F G : Int → Nat) : Prop where
  out : ∀ j : Nat, j < n → G (j : Int) = orE F (rowZ L j) (rowZ L j).length
  inn : ∀ j : Nat, j < n → F (j : Int) = insN (R j) (W j) (G (j : Int))
/-- The least ones. -/
structure Lst (L : List (List Int)) (R W : Nat → Nat) (n : Nat) (F G : Int → Nat) : Prop where
  sol : Sol L R W n F G
  low : ∀ F' G', Sol L R W n F' G' → ∀ j : Nat, j < n → SubN (F (j : Int)) (F' (j : Int)) ∧ SubN (G (j : Int)) (G' (j : Int))
theorem Lst.uniq {L : List (List Int)} {R W : Nat → Nat} {n : Nat} {F G F' G' : Int → Nat} (h : Lst L R W n F G) (k : Lst L R W n F' G') (j : Nat) (hj : j < n) : F (j : Int) = F' (j : Int) ∧ G (j : Int) = G' (j : Int) := by
  have h1 := h.low _ _ k.sol j hj
  have h2 := k.low _ _ h.sol j hj
  exact ⟨h1.1.anti h2.1, h1.2.anti h2.2⟩
/-- What stands between: sets that grow. -/
structure Grw (L : List (List Int)) (R W : Nat → Nat) (n : Nat) (F G : Int → Nat) : Prop where
  lt : ∀ x, F x < 65536 ∧ G x < 65536
  fst : ∀ j : Nat, j < n → SubN (F (j : Int)) (insN (R j) (W j) (G (j : Int)))
  snd : ∀ j : Nat, j < n → SubN (G (j : Int)) (orE F (rowZ L j) (rowZ L j).length)
  top : ∀ F' G', Sol L R W n F' G' → ∀ j : Nat, j < n → SubN (F (j : Int)) (F' (j : Int)) ∧ SubN (G (j : Int)) (G' (j : Int))
def zeroS (_ : Int) : Nat := 0
theorem Grw.zero (L : List (List Int)) (R W : Nat → Nat) (n : Nat) : Grw L R W n zeroS zeroS := ⟨fun _ => ⟨by show 0 < 65536; decide, by show 0 < 65536; decide⟩, fun _ _ => SubN.zero _, fun _ _ => SubN.zero _, fun _ _ _ _ _ => ⟨SubN.zero _, SubN.zero _⟩⟩
def putS (F : Int → Nat) (x : Int) (v : Nat) (y : Int) : Nat := if y = x then v else F y
theorem putS_here (F : Int → Nat) (x : Int) (v : Nat) : putS F x v x = v := if_pos rfl
theorem putS_else (F : Int → Nat) {x y : Int} (v : Nat) (h : y ≠ x) : putS F x v y = F y := if_neg h
theorem putS_same (F : Int → Nat) (x : Int) : putS F x (F x) = F := funext fun y => by
  by_cases h : y = x
  · rw [h, putS_here]
  · rw [putS_else _ _ h]
def Inn (L : List (List Int)) (n : Nat) : Prop := ∀ k t, k < n → t < (rowZ L k).length → 0 ≤ nth (rowZ L k) t ∧ nth (rowZ L k) t < (n : Int)
section
variable {L : List (List Int)} {R W : Nat → Nat} {n : Nat} {F G : Int → Nat}
theorem Grw.more (h : Grw L R W n F G) (hR : ∀ j, R j < 65536) (hW : ∀ j, W j < 65536) (hI : Inn L n) {k : Nat} (hk : k < n) :
    Grw L R W n (putS F (k : Int) (insN (R k) (W k) (orE F (rowZ L k) (rowZ L k).length))) (putS G (k : Int) (orE F (rowZ L k) (rowZ L k).length)) := by
  have ho := orE_lt (rowZ L k) (fun x => (h.lt x).1) (rowZ L k).length
  have hup : ∀ y, SubN (F y) (putS F (k : Int) (insN (R k) (W k) (orE F (rowZ L k) (rowZ L k).length)) y) := fun y => by
    by_cases e : y = (k : Int)
    · rw [e, putS_here]
      exact (h.fst k hk).trans (insN_sub (hW k) (h.snd k hk))
    · rw [putS_else _ _ e]; exact SubN.refl _
  refine ⟨fun x => ⟨?_, ?_⟩, fun j hj => ?_, fun j hj => ?_, fun F' G' hs j hj => ?_⟩
  · unfold putS
    split
    · exact insN_lt (hR k) ho
    · exact (h.lt x).1
  · unfold putS
    split
    · exact ho
    · exact (h.lt x).2
  · by_cases e : j = k
    · rw [e, putS_here, putS_here]; exact SubN.refl _
    · rw [putS_else _ _ (by omega), putS_else _ _ (by omega)]; exact h.fst j hj
  · by_cases e : j = k
    · rw [e, putS_here]; exact orE_sub fun t _ => hup _
    · rw [putS_else _ _ (by omega)]; exact (h.snd j hj).trans (orE_sub fun t _ => hup _)
  · by_cases e : j = k
    · have h1 : SubN (orE F (rowZ L k) (rowZ L k).length) (G' (k : Int)) := by
        rw [hs.out k hk]
        refine orE_sub fun t ht => ?_
        obtain ⟨a, b⟩ := hI k t hk ht
        have := (h.top F' G' hs (nth (rowZ L k) t).toNat (by omega)).1
        rwa [show (((nth (rowZ L k) t).toNat : Nat) : Int) = nth (rowZ L k) t by omega] at this
      rw [e, putS_here, putS_here]
      refine ⟨?_, h1⟩
      rw [hs.inn k hk]
      exact insN_sub (hW k) h1
    · rw [putS_else _ _ (by omega), putS_else _ _ (by omega)]; exact h.top F' G' hs j hj
end
/-- How much is still lacking. -/
def lowS (F : Int → Nat) : Nat → Nat
  | 0 => 0
  | n + 1 => lowS F n + (65535 - F (n : Int))
theorem lowS_le {F G : Int → Nat} : ∀ {n : Nat}, (∀ i : Nat, i < n → F (i : Int) ≤ G (i : Int)) → lowS G n ≤ lowS F n
  | 0, _ => Nat.le_refl _
  | n + 1, h => by
    have h1 := lowS_le (n := n) fun i hi => h i (by omega)
    have h2 := h n (by omega)
    unfold lowS
    omega
theorem lowS_lt {F G : Int → Nat} {k : Nat} : ∀ {n : Nat}, (∀ i : Nat, i < n → F (i : Int) ≤ G (i : Int)) → k < n → F (k : Int) < G (k : Int) → G (k : Int) < 65536 → lowS G n < lowS F n
  | 0, _, hk, _, _ => by omega
  | n + 1, h, hk, h1, h2 => by
    unfold lowS
    by_cases e : k = n
    · have h3 := lowS_le (n := n) fun i hi => h i (by omega)
      rw [e] at h1 h2
      omega
    · have h3 := lowS_lt (n := n) (fun i hi => h i (by omega)) (by omega) h1 h2
      have h4 := h n (by omega)
      omega
theorem lowS_same {F G : Int → Nat} {n : Nat} (h : ∀ i : Nat, i < n → F (i : Int) = G (i : Int)) : lowS F n = lowS G n :=
  Nat.le_antisymm (lowS_le fun i hi => Nat.le_of_eq (h i hi).symm) (lowS_le fun i hi => Nat.le_of_eq (h i hi))
/-- How a round has come on: all from k on are done. -/
def OnS (L : List (List Int)) (R W : Nat → Nat) (n : Nat) (F0 G0 F G : Int → Nat) (m : Bool) (k : Nat) : Prop :=
  (m = false → F = F0 ∧ G = G0 ∧ ∀ j : Nat, k ≤ j → j < n → G0 (j : Int) = orE F0 (rowZ L j) (rowZ L j).length ∧ F0 (j : Int) = insN (R j) (W j) (G0 (j : Int))) ∧ (m = true → lowS F n + lowS G n < lowS F0 n + lowS G0 n)
theorem OnS.zero (L : List (List Int)) (R W : Nat → Nat) (n : Nat) (F G : Int → Nat) : OnS L R W n F G F G false n := ⟨fun _ => ⟨rfl, rfl, fun j h1 h2 => by omega⟩, fun h => by cases h⟩
section
variable {L : List (List Int)} {R W : Nat → Nat} {n : Nat} {F0 G0 F G : Int → Nat} {m : Bool} {k : Nat}
theorem OnS.keep (h : OnS L R W n F0 G0 F G m (k + 1)) (e1 : insN (R k) (W k) (orE F (rowZ L k) (rowZ L k).length) = F (k : Int)) (e2 : orE F (rowZ L k) (rowZ L k).length = G (k : Int)) :
    OnS L R W n F0 G0 (putS F (k : Int) (insN (R k) (W k) (orE F (rowZ L k) (rowZ L k).length))) (putS G (k : Int) (orE F (rowZ L k) (rowZ L k).length)) m k := by
  rw [e1, putS_same, e2, putS_same]
  refine ⟨fun hm => ?_, h.2⟩
  obtain ⟨h1, h2, h3⟩ := h.1 hm
  subst h1 h2
  refine ⟨rfl, rfl, fun j hj hn => ?_⟩
  by_cases e : j = k
  · subst e
    exact ⟨e2.symm, by rw [← e2]; exact e1.symm⟩
  · exact h3 j (by omega) hn
theorem OnS.new (h : OnS L R W n F0 G0 F G m (k + 1)) (hg : Grw L R W n F G) (hR : ∀ j, R j < 65536) (hW : ∀ j, W j < 65536) (hk : k < n) (e : insN (R k) (W k) (orE F (rowZ L k) (rowZ L k).length) ≠ F (k : Int) ∨ orE F (rowZ L k) (rowZ L k).length ≠ G (k : Int)) :
    OnS L R W n F0 G0 (putS F (k : Int) (insN (R k) (W k) (orE F (rowZ L k) (rowZ L k).length))) (putS G (k : Int) (orE F (rowZ L k) (rowZ L k).length)) true k := by
  have ho := orE_lt (rowZ L k) (fun x => (hg.lt x).1) (rowZ L k).length
  have a1 : F (k : Int) ≤ insN (R k) (W k) (orE F (rowZ L k) (rowZ L k).length) := ((hg.fst k hk).trans (insN_sub (hW k) (hg.snd k hk))).le
  have a2 : G (k : Int) ≤ orE F (rowZ L k) (rowZ L k).length := (hg.snd k hk).le
  have b1 := insN_lt (w := W k) (hR k) ho
  generalize insN (R k) (W k) (orE F (rowZ L k) (rowZ L k).length) = v at *
  generalize orE F (rowZ L k) (rowZ L k).length = o at *
  have c1 : ∀ i : Nat, i < n → F (i : Int) ≤ putS F (k : Int) v (i : Int) := fun i _ => by
    by_cases x : i = k
    · rw [x, putS_here]; exact a1
    · rw [putS_else _ _ (by omega)]; exact Nat.le_refl _
  have c2 : ∀ i : Nat, i < n → G (i : Int) ≤ putS G (k : Int) o (i : Int) := fun i _ => by
    by_cases x : i = k
    · rw [x, putS_here]; exact a2
    · rw [putS_else _ _ (by omega)]; exact Nat.le_refl _
  have d1 := lowS_le c1
  have d2 := lowS_le c2
  have dd : lowS (putS F (k : Int) v) n + lowS (putS G (k : Int) o) n < lowS F n + lowS G n := by
    rcases e with e | e
    · have := lowS_lt c1 hk (by rw [putS_here]; omega) (by rw [putS_here]; exact b1)
      omega
    · have := lowS_lt c2 hk (by rw [putS_here]; omega) (by rw [putS_here]; exact ho)
      omega
  refine ⟨fun x => (by cases x), fun _ => ?_⟩
  cases m with
  | true => have := h.2 rfl; omega
  | false => obtain ⟨x, y, _⟩ := h.1 rfl; rw [x, y] at dd ⊢; exact dd
theorem OnS.done (h : OnS L R W n F0 G0 F G m 0) (hg : Grw L R W n F G) (e : m = false) : Lst L R W n F G := by
  obtain ⟨h1, h2, h3⟩ := h.1 e
  subst h1 h2
  exact ⟨⟨fun j hj => (h3 j (Nat.zero_le _) hj).1, fun j hj => (h3 j (Nat.zero_le _) hj).2⟩, hg.top⟩
end
/-- Place by place from a block's end. -/
def setB (text : List Int) (e : Int) (s : Nat) : Nat → Nat
  | 0 => s
  | k + 1 => insN (rdN (nth text (e - 1 - k).toNat)) (wrN (nth text (e - 1 - k).toNat)) (setB text e s k)
theorem setB_lt (text : List Int) (e : Int) {s : Nat} (h : s < 65536) : ∀ k, setB text e s k < 65536
  | 0 => h
  | k + 1 => insN_lt (rdN_lt _) (setB_lt text e h k)
/-- A block's words, what they read, what they write. -/
def cutL (l : List Int) (a b : Int) : List Int := (l.drop a.toNat).take (b - a).toNat
def blR (text : List Int) (ent : Int) (i : Nat) : Nat := allR (cutL text (rAt (blkL text ent) i) (rSym (blkL text ent) i)) (cutL text (rAt (blkL text ent) i) (rSym (blkL text ent) i)).length
def blW (text : List Int) (ent : Int) (i : Nat) : Nat := allW (cutL text (rAt (blkL text ent) i) (rSym (blkL text ent) i)) (cutL text (rAt (blkL text ent) i) (rSym (blkL text ent) i)).length
theorem blR_lt (text : List Int) (ent : Int) (i : Nat) : blR text ent i < 65536 := allR_lt _ _
theorem blW_lt (text : List Int) (ent : Int) (i : Nat) : blW text ent i < 65536 := allW_lt _ _
/-- The least sets of an image's blocks. -/
def LstI (text : List Int) (ent : Int) (F G : Int → Nat) : Prop := Lst (edgT text ent (blkL text ent).length) (blR text ent) (blW text ent) (blkL text ent).length F G
/-- What is live behind each place. -/
def BhI (text : List Int) (ent : Int) (H : Int → Nat) : Prop := ∃ F G, LstI text ent F G ∧ ∀ i : Nat, i < (blkL text ent).length → ∀ p : Nat, rAt (blkL text ent) i ≤ (p : Int) → (p : Int) < rSym (blkL text ent) i → H (p : Int) = setB text (rSym (blkL text ent) i) (G (i : Int)) (rSym (blkL text ent) i - 1 - (p : Int)).toNat
theorem cutL_len {l : List Int} {a b : Int} (h0 : 0 ≤ a) (h1 : a ≤ b) (h2 : b ≤ (l.length : Int)) : (cutL l a b).length = (b - a).toNat := by
  unfold cutL
  rw [List.length_take, List.length_drop]
  omega
theorem cutL_nth {l : List Int} {a b : Int} (h0 : 0 ≤ a) (h1 : a ≤ b) (h2 : b ≤ (l.length : Int)) {i : Nat} (hi : i < (cutL l a b).length) : nth (cutL l a b) i = nth l (a.toNat + i) := by
  rw [cutL_len h0 h1 h2] at hi
  unfold nth cutL
  rw [List.getD_eq_getElem?_getD, List.getD_eq_getElem?_getD, List.getElem?_take_of_lt hi, List.getElem?_drop]
theorem addTwo (a : Addr) (x i : Nat) : (a.add x).add i = a.add (x + i) := by
  by_cases hx : x = 0
  · subst hx; simp [Addr.add]
  · by_cases hi : i = 0
    · subst hi; simp [Addr.add]
    · simp [Addr.add, hx, hi, Nat.add_assoc]
theorem cutL_ints {w : World} {a : Addr} {K : IntKind} {l : List Int} (h : IntsAt w (some a) K l) {x y : Int} (h0 : 0 ≤ x) (h1 : x ≤ y) (h2 : y ≤ (l.length : Int)) : IntsAt w (some (a.add x.toNat)) K (cutL l x y) := fun i hi => by
  have hl := hi
  rw [cutL_len h0 h1 h2] at hl
  obtain ⟨b, e, q⟩ := h (x.toNat + i) (by omega)
  cases e
  exact ⟨_, rfl, by rw [cutL_nth h0 h1 h2 hi, ← q, addTwo]⟩


end Go.Proofs.YtfnicgihpelhhaaGreat

namespace Go.Proofs.YtfnicgihpelhhaaGreat
open Go.RowKit

def Dn (text : List Int) (L : List Rel) (G H : Int → Nat) (k : Nat) : Prop := ∀ i : Nat, i < k → ∀ p : Nat, rAt L i ≤ (p : Int) → (p : Int) < rSym L i → H (p : Int) = setB text (rSym L i) (G (i : Int)) (rSym L i - 1 - (p : Int)).toNat
def Dp (text : List Int) (L : List Rel) (G H : Int → Nat) (k : Nat) (x : Int) : Prop := Dn text L G H k ∧ ∀ p : Nat, x < (p : Int) → (p : Int) < rSym L k → H (p : Int) = setB text (rSym L k) (G (k : Int)) (rSym L k - 1 - (p : Int)).toNat
section
variable {text : List Int} {L : List Rel} {G H : Int → Nat} {k : Nat}
theorem Dp.start (h : Dn text L G H k) : Dp text L G H k (rSym L k - 1) := ⟨h, fun p a b => by omega⟩
theorem Dp.put {x : Nat} (h : Dp text L G H k (x : Int)) (hm : ∀ i, i < k → rSym L i ≤ rAt L k) (hx : rAt L k ≤ (x : Int)) (s : Nat) (hs : s = setB text (rSym L k) (G (k : Int)) (rSym L k - 1 - (x : Int)).toNat) : Dp text L G (putS H (x : Int) s) k ((x : Int) - 1) := by
  refine ⟨fun i hi p a b => ?_, fun p a b => ?_⟩
  · have := hm i hi
    rw [putS_else _ _ (by omega)]
    exact h.1 i hi p a b
  · by_cases e : p = x
    · subst e
      rw [putS_here]; exact hs
    · rw [putS_else _ _ (by omega)]
      exact h.2 p (by omega) b
theorem Dp.done {x : Int} (h : Dp text L G H k x) (hx : x < rAt L k) : Dn text L G H (k + 1) := fun i hi p a b => by
  by_cases e : i = k
  · subst e
    exact h.2 p (by omega) b
  · exact h.1 i (by omega) p a b
end
theorem begin_zero (text : List Int) (ent : Int) : begF text ent 0 = true := by simp [begF, addK, setF]
theorem blkRise {text : List Int} {ent : Int} (hn : 0 < text.length) : ∀ {k : Nat}, k < (blkL text ent).length → ∀ i, i < k → rSym (blkL text ent) i ≤ rAt (blkL text ent) k
  | 0, _, i, hi => by omega
  | k + 1, hk, i, hi => by
    have h1 : rAt (blkL text ent) (k + 1) = rSym (blkL text ent) k := by
      have := (cov_here hn (begin_zero text ent) hk).1
      rw [cov_succ] at this
      exact this
    rw [h1]
    by_cases e : i = k
    · rw [e]; exact Int.le_refl _
    · have h2 := blkRise (ent := ent) hn (k := k) (by omega) i (by omega)
      have h3 := (blk_in (text := text) (ent := ent) (show k < (blkL text ent).length by omega)).2.1
      omega
/-- Each place lies in a block. -/
theorem blk_all {text : List Int} {ent : Int} (hn : 0 < text.length) {p : Nat} (hp : p < text.length) : ∃ i : Nat, i < (blkL text ent).length ∧ rAt (blkL text ent) i ≤ (p : Int) ∧ (p : Int) < rSym (blkL text ent) i := by
  have h : ∀ k : Nat, k ≤ (blkL text ent).length → (p : Int) < covAt (blkL text ent) k → ∃ i : Nat, i < k ∧ rAt (blkL text ent) i ≤ (p : Int) ∧ (p : Int) < rSym (blkL text ent) i := by
    intro k
    induction k with
    | zero => intro _ h; rw [cov_zero] at h; omega
    | succ k ih =>
      intro hk h
      have h1 : rAt (blkL text ent) k = covAt (blkL text ent) k := (cov_here hn (begin_zero text ent) (show k < (blkL text ent).length by omega)).1
      rw [cov_succ] at h
      by_cases e : (p : Int) < covAt (blkL text ent) k
      · obtain ⟨i, a, b⟩ := ih (by omega) e
        exact ⟨i, by omega, b⟩
      · exact ⟨k, by omega, by omega, h⟩
  have he : covAt (blkL text ent) (blkL text ent).length = (text.length : Int) := cov_end hn (begin_zero text ent)
  obtain ⟨i, a, b⟩ := h _ (Nat.le_refl _) (by rw [he]; omega)
  exact ⟨i, a, b⟩
theorem BhI.uniq {text : List Int} {ent : Int} (hn : 0 < text.length) {H H' : Int → Nat} (h : BhI text ent H) (k : BhI text ent H') (p : Nat) (hp : p < text.length) : H (p : Int) = H' (p : Int) := by
  obtain ⟨F, G, h1, h2⟩ := h
  obtain ⟨F', G', k1, k2⟩ := k
  obtain ⟨i, a, b, c⟩ := blk_all (ent := ent) hn hp
  rw [h2 i a p b c, k2 i a p b c, (Lst.uniq h1 k1 i a).2]


end Go.Proofs.YtfnicgihpelhhaaGreat
