/-
  What words read and write, as sets of registers; no Go in sight. The least sets of live registers, plain. Edges turned round, step by step; no Go in sight. A graph with a hub has the same least sets; sets that grow while blocks wait; plain.
-/
import Derived.Test.YtfnicgihpelhhaaGreatProg
import Derived.WalkKit
import Derived.WalkSpells
import Derived.WalkLawsBesides
import Derived.RowKit3
import Derived.Below
import Derived.Deep.QuietTactic
import Derived.BigQuiet
import Derived.WalkSmall
import Derived.Laws.Rows
import Derived.Laws.BitsAllLaws
import Derived.Test.YtfnicgihpelhhaaGreatPd04
import Derived.Test.YtfnicgihpelhhaaGreatPd01
import Derived.Test.YtfnicgihpelhhaaGreatPd12
import Derived.Test.YtfnicgihpelhhaaGreatPd11
namespace Go.Proofs.YtfnicgihpelhhaaGreat
open Go.RowKit

theorem dD_reg (v : Int) : 0 ≤ dD v ∧ dD v ≤ 15 := by
  unfold dD
  split
  · unfold wD; omega
  · omega
theorem dA_reg (v : Int) : 0 ≤ dA v ∧ dA v ≤ 15 := by
  unfold dA
  split
  · unfold wA; omega
  · omega
theorem dB_reg (v : Int) : 0 ≤ dB v ∧ dB v ≤ 15 := by
  unfold dB
  split
  · unfold wB; omega
  · omega
/-- A register as a set of registers. -/
def bitN (h : Bool) (r : Int) : Nat := if h = true then 2 ^ r.toNat else 0
theorem bitN_lt (h : Bool) {r : Int} (h1 : r ≤ 15) : bitN h r < 65536 := by
  unfold bitN
  split
  · have : 2 ^ r.toNat ≤ 2 ^ 15 := Nat.pow_le_pow_right (by omega) (by omega)
    omega
  · omega
/-- What is in the first set and not in the second one. -/
def lessN (a b : Nat) : Nat := a &&& (65535 - b)
theorem lessN_bit {a b : Nat} (hb : b < 65536) (i : Nat) : (lessN a b).testBit i = (a.testBit i && (decide (i < 16) && !b.testBit i)) := by
  unfold lessN
  rw [Nat.testBit_and, show 65535 - b = 2 ^ 16 - (b + 1) by omega, Nat.testBit_two_pow_sub_succ hb]
theorem lessN_lt {a b : Nat} (h : a < 65536) : lessN a b < 65536 := Nat.lt_of_le_of_lt Nat.and_le_left h
theorem orN_lt {a b : Nat} (h : a < 65536) (k : b < 65536) : a ||| b < 65536 := Nat.or_lt_two_pow (n := 16) h k
/-- What a word reads, what it writes. -/
def rdN (v : Int) : Nat := bitN (hA (dOp v)) (dA v) ||| bitN (hB (dOp v)) (dB v)
def wrN (v : Int) : Nat := if dOp v = 17 ∨ dOp v = 18 then 32768 else bitN (hD (dOp v)) (dD v)
theorem rdN_lt (v : Int) : rdN v < 65536 := orN_lt (bitN_lt _ (dA_reg v).2) (bitN_lt _ (dB_reg v).2)
theorem wrN_lt (v : Int) : wrN v < 65536 := by
  unfold wrN
  split
  · omega
  · exact bitN_lt _ (dD_reg v).2
/-- Is the link register in one of both? -/
def lnB (v : Int) : Bool := decide ((rdN v ||| wrN v) / 32768 = 1)
def alB (v : Int) : Bool := if dOp v = -1 ∨ dOp v = 16 then true else if dOp v = 19 ∨ dOp v = 17 then false else if dOp v = 18 then dA v == 15 else lnB v
/-- What the first k words of a row read, and what they write. -/
def allW (l : List Int) : Nat → Nat
  | 0 => 0
  | k + 1 => allW l k ||| wrN (nth l k)
def allR (l : List Int) : Nat → Nat
  | 0 => 0
  | k + 1 => allR l k ||| lessN (rdN (nth l k)) (allW l k)
theorem allW_lt (l : List Int) : ∀ k, allW l k < 65536
  | 0 => by show 0 < 65536; decide
  | k + 1 => orN_lt (allW_lt l k) (wrN_lt _)
theorem allR_lt (l : List Int) : ∀ k, allR l k < 65536
  | 0 => by show 0 < 65536; decide
  | k + 1 => orN_lt (allR_lt l k) (lessN_lt (rdN_lt _))
theorem nth_left {a b : List Int} {k : Nat} (h : k < a.length) : nth (a ++ b) k = nth a k := by
  unfold nth
  rw [List.getD_eq_getElem?_getD, List.getElem?_append_left h, ← List.getD_eq_getElem?_getD]
theorem nth_right {a b : List Int} {j : Nat} : nth (a ++ b) (a.length + j) = nth b j := by
  unfold nth
  rw [List.getD_eq_getElem?_getD, List.getElem?_append_right (by omega), Nat.add_sub_cancel_left, ← List.getD_eq_getElem?_getD]
theorem allW_left (a b : List Int) : ∀ k, k ≤ a.length → allW (a ++ b) k = allW a k
  | 0, _ => rfl
  | k + 1, h => by
    show allW (a ++ b) k ||| wrN (nth (a ++ b) k) = allW a k ||| wrN (nth a k)
    rw [allW_left a b k (by omega), nth_left (by omega)]
theorem allR_left (a b : List Int) : ∀ k, k ≤ a.length → allR (a ++ b) k = allR a k
  | 0, _ => rfl
  | k + 1, h => by
    show allR (a ++ b) k ||| lessN (rdN (nth (a ++ b) k)) (allW (a ++ b) k) = allR a k ||| lessN (rdN (nth a k)) (allW a k)
    rw [allR_left a b k (by omega), allW_left a b k (by omega), nth_left (by omega)]
theorem allW_two (a b : List Int) : ∀ j, allW (a ++ b) (a.length + j) = allW a a.length ||| allW b j
  | 0 => by
    show allW (a ++ b) a.length = allW a a.length ||| 0
    rw [allW_left a b _ (Nat.le_refl _), Nat.or_zero]
  | j + 1 => by
    show allW (a ++ b) (a.length + j) ||| wrN (nth (a ++ b) (a.length + j)) = allW a a.length ||| (allW b j ||| wrN (nth b j))
    rw [allW_two a b j, nth_right, Nat.or_assoc]
theorem less_or {x w y : Nat} (hw : w < 65536) (hy : y < 65536) : lessN x (w ||| y) = lessN (lessN x y) w := by
  apply Nat.eq_of_testBit_eq
  intro i
  rw [lessN_bit (orN_lt hw hy), lessN_bit hw, lessN_bit hy, Nat.testBit_or]
  cases x.testBit i <;> cases w.testBit i <;> cases y.testBit i <;> cases decide (i < 16) <;> rfl
theorem or_less {x y w : Nat} (hw : w < 65536) : lessN (x ||| y) w = lessN x w ||| lessN y w := by
  apply Nat.eq_of_testBit_eq
  intro i
  rw [lessN_bit hw, Nat.testBit_or, Nat.testBit_or, lessN_bit hw, lessN_bit hw]
  cases x.testBit i <;> cases w.testBit i <;> cases y.testBit i <;> cases decide (i < 16) <;> rfl
theorem allR_two (a b : List Int) : ∀ j, allR (a ++ b) (a.length + j) = allR a a.length ||| lessN (allR b j) (allW a a.length)
  | 0 => by
    show allR (a ++ b) a.length = allR a a.length ||| lessN 0 (allW a a.length)
    rw [allR_left a b _ (Nat.le_refl _), show lessN 0 (allW a a.length) = 0 from Nat.zero_and _, Nat.or_zero]
  | j + 1 => by
    show allR (a ++ b) (a.length + j) ||| lessN (rdN (nth (a ++ b) (a.length + j))) (allW (a ++ b) (a.length + j)) = allR a a.length ||| lessN (allR b j ||| lessN (rdN (nth b j)) (allW b j)) (allW a a.length)
    rw [allR_two a b j, allW_two a b j, nth_right, or_less (allW_lt _ _), less_or (allW_lt _ _) (allW_lt _ _), Nat.or_assoc]
/-- Sets as the machine's numbers. -/
theorem orI {a b : Nat} (h : a < 65536) (k : b < 65536) : bits .or .u16 (a : Int) (b : Int) = ((a ||| b : Nat) : Int) := by
  rw [u16_or _ _ (by omega) (by omega) (by omega) (by omega)]
  simp
theorem lessI {a b : Nat} (h : a < 65536) (k : b < 65536) : bits .andNot .u16 (a : Int) (b : Int) = ((lessN a b : Nat) : Int) := by
  rw [u16_andNot _ _ (by omega) (by omega) (by omega) (by omega)]
  simp [lessN]
theorem linkI {n : Nat} (_h : n < 65536) : (((n : Int) / 32768) == 1) = decide (n / 32768 = 1) := by
  by_cases e : n / 32768 = 1
  · rw [decide_eq_true e, beq_iff_eq]; omega
  · rw [decide_eq_false e, beq_eq_false_iff_ne]; omega


end Go.Proofs.YtfnicgihpelhhaaGreat

namespace Go.Proofs.YtfnicgihpelhhaaGreat
open Go.RowKit

/-- A set within a set. -/
def SubN (a b : Nat) : Prop := ∀ r, a.testBit r = true → b.testBit r = true
theorem SubN.refl (a : Nat) : SubN a a := fun _ h => h
theorem SubN.trans {a b c : Nat} (h : SubN a b) (k : SubN b c) : SubN a c := fun r x => k r (h r x)
theorem SubN.anti {a b : Nat} (h : SubN a b) (k : SubN b a) : a = b := Nat.eq_of_testBit_eq fun i => by
  rw [Bool.eq_iff_iff]; exact ⟨h i, k i⟩
theorem SubN.le {a b : Nat} (h : SubN a b) : a ≤ b := by
  have e : a ||| b = b := Nat.eq_of_testBit_eq fun i => by
    rw [Nat.testBit_or]
    have := h i
    cases ha : a.testBit i with
    | true => rw [this ha]; rfl
    | false => rfl
  exact Nat.le_trans Nat.left_le_or (Nat.le_of_eq e)
theorem SubN.zero (b : Nat) : SubN 0 b := fun r h => by rw [Nat.zero_testBit] at h; cases h
theorem sub_or {a b c d : Nat} (h : SubN a c) (k : SubN b d) : SubN (a ||| b) (c ||| d) := fun r x => by
  rw [Nat.testBit_or, Bool.or_eq_true] at x ⊢
  exact x.imp (h r) (k r)
theorem sub_less {a b w : Nat} (hw : w < 65536) (h : SubN a b) : SubN (lessN a w) (lessN b w) := fun r x => by
  rw [lessN_bit hw, Bool.and_eq_true] at x ⊢
  exact ⟨h r x.1, x.2⟩
/-- All that is in the sets of the first k of a list. -/
def orE (F : Int → Nat) (l : List Int) : Nat → Nat
  | 0 => 0
  | k + 1 => orE F l k ||| F (nth l k)
theorem orE_sub {F G : Int → Nat} {l : List Int} : ∀ {k : Nat}, (∀ t, t < k → SubN (F (nth l t)) (G (nth l t))) → SubN (orE F l k) (orE G l k)
  | 0, _ => SubN.refl _
  | k + 1, h => sub_or (orE_sub fun t ht => h t (by omega)) (h k (by omega))
theorem orE_lt {F : Int → Nat} (l : List Int) (h : ∀ x, F x < 65536) : ∀ k, orE F l k < 65536
  | 0 => by show 0 < 65536; decide
  | k + 1 => orN_lt (orE_lt l h k) (h _)
/-- What is live ahead: read, or live behind and not written. -/
def insN (r w o : Nat) : Nat := r ||| lessN o w
theorem insN_lt {r w o : Nat} (hr : r < 65536) (ho : o < 65536) : insN r w o < 65536 := orN_lt hr (lessN_lt ho)
theorem insN_sub {r w a b : Nat} (hw : w < 65536) (h : SubN a b) : SubN (insN r w a) (insN r w b) := sub_or (SubN.refl _) (sub_less hw h)
/-- Sets for which each block's equations hold. -/
structure Sol (L : List (List Int)) (R W : Nat → Nat) (n : Nat) (F G : Int → Nat) : Prop where
  out : ∀ j : Nat, j < n → G (j : Int) = orE F (rowZ L j) (rowZ L j).length
  inn : ∀ j : Nat, j < n → F (j : Int) = insN (R j) (W j) (G (j : Int))
/-- The least ones. -/
structure Lst (L : List (List Int)) (R W : Nat → Nat) (n : Nat) (F G : Int → Nat) : Prop where
  sol : Sol L R W n F G
  low : ∀ F' G', Sol L R W n F' G' → ∀ j : Nat, j < n → SubN (F (j : Int)) (F' (j : Int)) ∧ SubN (G (j : Int)) (G' (j : Int))
theorem Lst.uniq {L : List (List Int)} {R W : Nat → Nat} {n : Nat} {F G F' G' : Int → Nat} (h : Lst L R W n F G) (k : Lst L R W n F' G') (j : Nat) (hj : j < n) : F (j : Int) = F' (j : Int) ∧ G (j : Int) = G' (j : Int) := by
  have h1 := h.low _ _ k.sol j hj
  have h2 := k.low _ _ h.sol j hj
  exact ⟨h1.1.anti h2.1, h1.2.anti h2.2⟩
/-- What stands between: sets that grow. -/
structure Grw (L : List (List Int)) (R W : Nat → Nat) (n : Nat) (F G : Int → Nat) : Prop where
  lt : ∀ x, F x < 65536 ∧ G x < 65536
  fst : ∀ j : Nat, j < n → SubN (F (j : Int)) (insN (R j) (W j) (G (j : Int)))
  snd : ∀ j : Nat, j < n → SubN (G (j : Int)) (orE F (rowZ L j) (rowZ L j).length)
  top : ∀ F' G', Sol L R W n F' G' → ∀ j : Nat, j < n → SubN (F (j : Int)) (F' (j : Int)) ∧ SubN (G (j : Int)) (G' (j : Int))
def zeroS (_ : Int) : Nat := 0
theorem Grw.zero (L : List (List Int)) (R W : Nat → Nat) (n : Nat) : Grw L R W n zeroS zeroS := ⟨fun _ => ⟨by show 0 < 65536; decide, by show 0 < 65536; decide⟩, fun _ _ => SubN.zero _, fun _ _ => SubN.zero _, fun _ _ _ _ _ => ⟨SubN.zero _, SubN.zero _⟩⟩
def putS (F : Int → Nat) (x : Int) (v : Nat) (y : Int) : Nat := if y = x then v else F y
theorem putS_here (F : Int → Nat) (x : Int) (v : Nat) : putS F x v x = v := if_pos rfl
theorem putS_else (F : Int → Nat) {x y : Int} (v : Nat) (h : y ≠ x) : putS F x v y = F y := if_neg h
theorem putS_same (F : Int → Nat) (x : Int) : putS F x (F x) = F := funext fun y => by
  by_cases h : y = x
  · rw [h, putS_here]
  · rw [putS_else _ _ h]
def Inn (L : List (List Int)) (n : Nat) : Prop := ∀ k t, k < n → t < (rowZ L k).length → 0 ≤ nth (rowZ L k) t ∧ nth (rowZ L k) t < (n : Int)
section
variable {L : List (List Int)} {R W : Nat → Nat} {n : Nat} {F G : Int → Nat}
theorem Grw.more (h : Grw L R W n F G) (hR : ∀ j, R j < 65536) (hW : ∀ j, W j < 65536) (hI : Inn L n) {k : Nat} (hk : k < n) :
    Grw L R W n (putS F (k : Int) (insN (R k) (W k) (orE F (rowZ L k) (rowZ L k).length))) (putS G (k : Int) (orE F (rowZ L k) (rowZ L k).length)) := by
  have ho := orE_lt (rowZ L k) (fun x => (h.lt x).1) (rowZ L k).length
  have hup : ∀ y, SubN (F y) (putS F (k : Int) (insN (R k) (W k) (orE F (rowZ L k) (rowZ L k).length)) y) := fun y => by
    by_cases e : y = (k : Int)
    · rw [e, putS_here]
      exact (h.fst k hk).trans (insN_sub (hW k) (h.snd k hk))
    · rw [putS_else _ _ e]; exact SubN.refl _
  refine ⟨fun x => ⟨?_, ?_⟩, fun j hj => ?_, fun j hj => ?_, fun F' G' hs j hj => ?_⟩
  · unfold putS
    split
    · exact insN_lt (hR k) ho
    · exact (h.lt x).1
  · unfold putS
    split
    · exact ho
    · exact (h.lt x).2
  · by_cases e : j = k
    · rw [e, putS_here, putS_here]; exact SubN.refl _
    · rw [putS_else _ _ (by omega), putS_else _ _ (by omega)]; exact h.fst j hj
  · by_cases e : j = k
    · rw [e, putS_here]; exact orE_sub fun t _ => hup _
    · rw [putS_else _ _ (by omega)]; exact (h.snd j hj).trans (orE_sub fun t _ => hup _)
  · by_cases e : j = k
    · have h1 : SubN (orE F (rowZ L k) (rowZ L k).length) (G' (k : Int)) := by
        rw [hs.out k hk]
        refine orE_sub fun t ht => ?_
        obtain ⟨a, b⟩ := hI k t hk ht
        have := (h.top F' G' hs (nth (rowZ L k) t).toNat (by omega)).1
        rwa [show (((nth (rowZ L k) t).toNat : Nat) : Int) = nth (rowZ L k) t by omega] at this
      rw [e, putS_here, putS_here]
      refine ⟨?_, h1⟩
      rw [hs.inn k hk]
      exact insN_sub (hW k) h1
    · rw [putS_else _ _ (by omega), putS_else _ _ (by omega)]; exact h.top F' G' hs j hj
end
/-- How much is still lacking. -/
def lowS (F : Int → Nat) : Nat → Nat
  | 0 => 0
  | n + 1 => lowS F n + (65535 - F (n : Int))
theorem lowS_le {F G : Int → Nat} : ∀ {n : Nat}, (∀ i : Nat, i < n → F (i : Int) ≤ G (i : Int)) → lowS G n ≤ lowS F n
  | 0, _ => Nat.le_refl _
  | n + 1, h => by
    have h1 := lowS_le (n := n) fun i hi => h i (by omega)
    have h2 := h n (by omega)
    unfold lowS
    omega
theorem lowS_lt {F G : Int → Nat} {k : Nat} : ∀ {n : Nat}, (∀ i : Nat, i < n → F (i : Int) ≤ G (i : Int)) → k < n → F (k : Int) < G (k : Int) → G (k : Int) < 65536 → lowS G n < lowS F n
  | 0, _, hk, _, _ => by omega
  | n + 1, h, hk, h1, h2 => by
    unfold lowS
    by_cases e : k = n
    · have h3 := lowS_le (n := n) fun i hi => h i (by omega)
      rw [e] at h1 h2
      omega
    · have h3 := lowS_lt (n := n) (fun i hi => h i (by omega)) (by omega) h1 h2
      have h4 := h n (by omega)
      omega
theorem lowS_same {F G : Int → Nat} {n : Nat} (h : ∀ i : Nat, i < n → F (i : Int) = G (i : Int)) : lowS F n = lowS G n :=
  Nat.le_antisymm (lowS_le fun i hi => Nat.le_of_eq (h i hi).symm) (lowS_le fun i hi => Nat.le_of_eq (h i hi))
/-- How a round has come on: all from k on are done. -/
def OnS (L : List (List Int)) (R W : Nat → Nat) (n : Nat) (F0 G0 F G : Int → Nat) (m : Bool) (k : Nat) : Prop :=
  (m = false → F = F0 ∧ G = G0 ∧ ∀ j : Nat, k ≤ j → j < n → G0 (j : Int) = orE F0 (rowZ L j) (rowZ L j).length ∧ F0 (j : Int) = insN (R j) (W j) (G0 (j : Int))) ∧ (m = true → lowS F n + lowS G n < lowS F0 n + lowS G0 n)
theorem OnS.zero (L : List (List Int)) (R W : Nat → Nat) (n : Nat) (F G : Int → Nat) : OnS L R W n F G F G false n := ⟨fun _ => ⟨rfl, rfl, fun j h1 h2 => by omega⟩, fun h => by cases h⟩
section
variable {L : List (List Int)} {R W : Nat → Nat} {n : Nat} {F0 G0 F G : Int → Nat} {m : Bool} {k : Nat}
theorem OnS.keep (h : OnS L R W n F0 G0 F G m (k + 1)) (e1 : insN (R k) (W k) (orE F (rowZ L k) (rowZ L k).length) = F (k : Int)) (e2 : orE F (rowZ L k) (rowZ L k).length = G (k : Int)) :
    OnS L R W n F0 G0 (putS F (k : Int) (insN (R k) (W k) (orE F (rowZ L k) (rowZ L k).length))) (putS G (k : Int) (orE F (rowZ L k) (rowZ L k).length)) m k := by
  rw [e1, putS_same, e2, putS_same]
  refine ⟨fun hm => ?_, h.2⟩
  obtain ⟨h1, h2, h3⟩ := h.1 hm
  subst h1 h2
  refine ⟨rfl, rfl, fun j hj hn => ?_⟩
  by_cases e : j = k
  · subst e
    exact ⟨e2.symm, by rw [← e2]; exact e1.symm⟩
  · exact h3 j (by omega) hn
theorem OnS.new (h : OnS L R W n F0 G0 F G m (k + 1)) (hg : Grw L R W n F G) (hR : ∀ j, R j < 65536) (hW : ∀ j, W j < 65536) (hk : k < n) (e : insN (R k) (W k) (orE F (rowZ L k) (rowZ L k).length) ≠ F (k : Int) ∨ orE F (rowZ L k) (rowZ L k).length ≠ G (k : Int)) :
    OnS L R W n F0 G0 (putS F (k : Int) (insN (R k) (W k) (orE F (rowZ L k) (rowZ L k).length))) (putS G (k : Int) (orE F (rowZ L k) (rowZ L k).length)) true k := by
  have ho := orE_lt (rowZ L k) (fun x => (hg.lt x).1) (rowZ L k).length
  have a1 : F (k : Int) ≤ insN (R k) (W k) (orE F (rowZ L k) (rowZ L k).length) := ((hg.fst k hk).trans (insN_sub (hW k) (hg.snd k hk))).le
  have a2 : G (k : Int) ≤ orE F (rowZ L k) (rowZ L k).length := (hg.snd k hk).le
  have b1 := insN_lt (w := W k) (hR k) ho
  generalize insN (R k) (W k) (orE F (rowZ L k) (rowZ L k).length) = v at *
  generalize orE F (rowZ L k) (rowZ L k).length = o at *
  have c1 : ∀ i : Nat, i < n → F (i : Int) ≤ putS F (k : Int) v (i : Int) := fun i _ => by
    by_cases x : i = k
    · rw [x, putS_here]; exact a1
    · rw [putS_else _ _ (by omega)]; exact Nat.le_refl _
  have c2 : ∀ i : Nat, i < n → G (i : Int) ≤ putS G (k : Int) o (i : Int) := fun i _ => by
    by_cases x : i = k
    · rw [x, putS_here]; exact a2
    · rw [putS_else _ _ (by omega)]; exact Nat.le_refl _
  have d1 := lowS_le c1
  have d2 := lowS_le c2
  have dd : lowS (putS F (k : Int) v) n + lowS (putS G (k : Int) o) n < lowS F n + lowS G n := by
    rcases e with e | e
    · have := lowS_lt c1 hk (by rw [putS_here]; omega) (by rw [putS_here]; exact b1)
      omega
    · have := lowS_lt c2 hk (by rw [putS_here]; omega) (by rw [putS_here]; exact ho)
      omega
  refine ⟨fun x => (by cases x), fun _ => ?_⟩
  cases m with
  | true => have := h.2 rfl; omega
  | false => obtain ⟨x, y, _⟩ := h.1 rfl; rw [x, y] at dd ⊢; exact dd
theorem OnS.done (h : OnS L R W n F0 G0 F G m 0) (hg : Grw L R W n F G) (e : m = false) : Lst L R W n F G := by
  obtain ⟨h1, h2, h3⟩ := h.1 e
  subst h1 h2
  exact ⟨⟨fun j hj => (h3 j (Nat.zero_le _) hj).1, fun j hj => (h3 j (Nat.zero_le _) hj).2⟩, hg.top⟩
end
/-- Place by place from a block's end. -/
def setB (text : List Int) (e : Int) (s : Nat) : Nat → Nat
  | 0 => s
  | k + 1 => insN (rdN (nth text (e - 1 - k).toNat)) (wrN (nth text (e - 1 - k).toNat)) (setB text e s k)
theorem setB_lt (text : List Int) (e : Int) {s : Nat} (h : s < 65536) : ∀ k, setB text e s k < 65536
  | 0 => h
  | k + 1 => insN_lt (rdN_lt _) (setB_lt text e h k)
/-- A block's words, what they read, what they write. -/
def cutL (l : List Int) (a b : Int) : List Int := (l.drop a.toNat).take (b - a).toNat
def blR (text : List Int) (ent : Int) (i : Nat) : Nat := allR (cutL text (rAt (blkL text ent) i) (rSym (blkL text ent) i)) (cutL text (rAt (blkL text ent) i) (rSym (blkL text ent) i)).length
def blW (text : List Int) (ent : Int) (i : Nat) : Nat := allW (cutL text (rAt (blkL text ent) i) (rSym (blkL text ent) i)) (cutL text (rAt (blkL text ent) i) (rSym (blkL text ent) i)).length
theorem blR_lt (text : List Int) (ent : Int) (i : Nat) : blR text ent i < 65536 := allR_lt _ _
theorem blW_lt (text : List Int) (ent : Int) (i : Nat) : blW text ent i < 65536 := allW_lt _ _
/-- The least sets of an image's blocks. -/
def LstI (text : List Int) (ent : Int) (F G : Int → Nat) : Prop := Lst (edgT text ent (blkL text ent).length) (blR text ent) (blW text ent) (blkL text ent).length F G
/-- What is live behind each place. -/
def BhI (text : List Int) (ent : Int) (H : Int → Nat) : Prop := ∃ F G, LstI text ent F G ∧ ∀ i : Nat, i < (blkL text ent).length → ∀ p : Nat, rAt (blkL text ent) i ≤ (p : Int) → (p : Int) < rSym (blkL text ent) i → H (p : Int) = setB text (rSym (blkL text ent) i) (G (i : Int)) (rSym (blkL text ent) i - 1 - (p : Int)).toNat
theorem cutL_len {l : List Int} {a b : Int} (h0 : 0 ≤ a) (h1 : a ≤ b) (h2 : b ≤ (l.length : Int)) : (cutL l a b).length = (b - a).toNat := by
  unfold cutL
  rw [List.length_take, List.length_drop]
  omega
theorem cutL_nth {l : List Int} {a b : Int} (h0 : 0 ≤ a) (h1 : a ≤ b) (h2 : b ≤ (l.length : Int)) {i : Nat} (hi : i < (cutL l a b).length) : nth (cutL l a b) i = nth l (a.toNat + i) := by
  rw [cutL_len h0 h1 h2] at hi
  unfold nth cutL
  rw [List.getD_eq_getElem?_getD, List.getD_eq_getElem?_getD, List.getElem?_take_of_lt hi, List.getElem?_drop]
theorem addTwo (a : Addr) (x i : Nat) : (a.add x).add i = a.add (x + i) := by
  by_cases hx : x = 0
  · subst hx; simp [Addr.add]
  · by_cases hi : i = 0
    · subst hi; simp [Addr.add]
    · simp [Addr.add, hx, hi, Nat.add_assoc]
theorem cutL_ints {w : World} {a : Addr} {K : IntKind} {l : List Int} (h : IntsAt w (some a) K l) {x y : Int} (h0 : 0 ≤ x) (h1 : x ≤ y) (h2 : y ≤ (l.length : Int)) : IntsAt w (some (a.add x.toNat)) K (cutL l x y) := fun i hi => by
  have hl := hi
  rw [cutL_len h0 h1 h2] at hl
  obtain ⟨b, e, q⟩ := h (x.toNat + i) (by omega)
  cases e
  exact ⟨_, rfl, by rw [cutL_nth h0 h1 h2 hi, ← q, addTwo]⟩


end Go.Proofs.YtfnicgihpelhhaaGreat

namespace Go.Proofs.YtfnicgihpelhhaaGreat
open Go.RowKit

/-- What the list i has, when k lists and j numbers of the next one were gone through. -/
def curB (L : List (List Int)) (k j i : Nat) : List Int := plcT (backR L i) k ++ (if (i : Int) ∈ (rowZ L k).take j then [(k : Int)] else [])
def bst (L : List (List Int)) (k j : Nat) : List (List Int) := (List.range L.length).map (curB L k j)
theorem bst_len (L : List (List Int)) (k j : Nat) : (bst L k j).length = L.length := by simp [bst]
theorem bst_row {L : List (List Int)} {k j i : Nat} (h : i < L.length) : rowZ (bst L k j) i = curB L k j i := rowZ_map h
theorem take_next {l : List Int} {j : Nat} (h : j < l.length) (x : Int) : x ∈ l.take (j + 1) ↔ x ∈ l.take j ∨ x = nth l j := by
  rw [List.take_succ_eq_append_getElem h, List.mem_append, List.mem_singleton]
  have : nth l j = l[j] := by simp [nth, List.getD, h]
  rw [this]
theorem curB_same {L : List (List Int)} {k j i : Nat} (hj : j < (rowZ L k).length) (h : (i : Int) ≠ nth (rowZ L k) j ∨ nth (rowZ L k) j ∈ (rowZ L k).take j) : curB L k (j + 1) i = curB L k j i := by
  unfold curB
  by_cases h1 : (i : Int) ∈ (rowZ L k).take j
  · rw [if_pos h1, if_pos ((take_next hj _).2 (.inl h1))]
  · rw [if_neg h1, if_neg]
    intro h2
    rcases (take_next hj _).1 h2 with h2 | h2
    · exact h1 h2
    · rcases h with h | h
      · exact h h2
      · rw [h2] at h1; exact h1 h
theorem bst_skip {L : List (List Int)} {k j : Nat} (hj : j < (rowZ L k).length) (h : nth (rowZ L k) j < 0 ∨ (L.length : Int) ≤ nth (rowZ L k) j ∨ nth (rowZ L k) j ∈ (rowZ L k).take j) : bst L k (j + 1) = bst L k j := by
  unfold bst
  refine List.map_congr_left fun i hi => ?_
  have hi : i < L.length := by simpa using hi
  refine curB_same hj ?_
  rcases h with h | h | h
  · exact .inl (by omega)
  · exact .inl (by omega)
  · exact .inr h
theorem bst_add {L : List (List Int)} {k j : Nat} (hj : j < (rowZ L k).length) {i : Nat} (hi : i < L.length) (h0 : nth (rowZ L k) j = (i : Int)) (h1 : (i : Int) ∉ (rowZ L k).take j) : bst L k (j + 1) = (bst L k j).set i (rowZ (bst L k j) i ++ [(k : Int)]) := by
  apply List.ext_getElem?
  intro t
  rw [List.getElem?_set, bst_len]
  by_cases ht : t < L.length
  · by_cases e : i = t
    · subst e
      rw [if_pos rfl, if_pos hi, bst_row hi]
      have : (bst L k (j + 1))[i]? = some (curB L k (j + 1) i) := by simp [bst, hi]
      rw [this]
      congr 1
      unfold curB
      rw [if_neg h1, if_pos ((take_next hj _).2 (.inr h0.symm)), List.append_nil]
    · rw [if_neg e]
      have a : (bst L k (j + 1))[t]? = some (curB L k (j + 1) t) := by simp [bst, ht]
      have b : (bst L k j)[t]? = some (curB L k j t) := by simp [bst, ht]
      rw [a, b, curB_same hj (.inl (by rw [h0]; omega))]
  · rw [List.getElem?_eq_none (by rw [bst_len]; omega), if_neg (by omega), List.getElem?_eq_none (by rw [bst_len]; omega)]
theorem bst_next (L : List (List Int)) (k : Nat) : bst L k (rowZ L k).length = bst L (k + 1) 0 := by
  unfold bst
  refine List.map_congr_left fun i hi => ?_
  unfold curB
  rw [List.take_length, List.take_zero, if_neg (List.not_mem_nil), List.append_nil]
  by_cases h : (i : Int) ∈ rowZ L k
  · rw [if_pos h, plcT_yes]
    unfold backR hasZ
    rw [decide_eq_true_eq]
    simpa using h
  · rw [if_neg h, List.append_nil, plcT_no]
    unfold backR hasZ
    rw [decide_eq_false_iff_not]
    simpa using h
theorem bst_end (L : List (List Int)) : bst L L.length 0 = backT L L.length := by
  unfold bst backT
  refine List.map_congr_left fun i hi => ?_
  unfold curB
  rw [List.take_zero, if_neg (List.not_mem_nil), List.append_nil]
theorem bst_zero (L : List (List Int)) : bst L 0 0 = List.replicate L.length [] := by
  apply List.ext_getElem?
  intro t
  by_cases ht : t < L.length
  · have a : (bst L 0 0)[t]? = some (curB L 0 0 t) := by simp [bst, ht]
    rw [a, List.getElem?_replicate, if_pos ht]
    first | rfl | (unfold curB; rw [List.take_zero, if_neg (List.not_mem_nil), List.append_nil, plcT_zero])
  · rw [List.getElem?_eq_none (by rw [bst_len]; omega), List.getElem?_replicate, if_neg ht]
/-- Does a list end in a number? -/
def endZ (l : List Int) (x : Int) : Bool := decide (0 < l.length ∧ nth l (l.length - 1) = x)
theorem curB_ends (L : List (List Int)) (k j i : Nat) : endZ (curB L k j i) (k : Int) = decide ((i : Int) ∈ (rowZ L k).take j) := by
  unfold endZ
  by_cases h : (i : Int) ∈ (rowZ L k).take j
  · rw [decide_eq_true h, decide_eq_true_eq]
    unfold curB
    rw [if_pos h, List.length_append]
    refine ⟨by simp, ?_⟩
    unfold nth
    simp [List.getD]
  · rw [decide_eq_false h, decide_eq_false_iff_not]
    unfold curB
    rw [if_neg h, List.append_nil]
    rintro ⟨h1, h2⟩
    have h3 := plcT_mem.1 (nth_mem (show (plcT (backR L i) k).length - 1 < (plcT (backR L i) k).length by omega))
    omega
theorem curB_len (L : List (List Int)) (k j i : Nat) : (curB L k j i).length ≤ k + 1 := by
  unfold curB
  have := plcT_len (backR L i) k
  rw [List.length_append]
  split <;> simp <;> omega
theorem rowZ_set {M : List (List Int)} {i t : Nat} {l : List Int} (ht : t < M.length) : rowZ (M.set i l) t = if i = t then l else rowZ M t := by
  unfold rowZ
  rw [List.getD_eq_getElem?_getD, List.getElem?_set, List.getD_eq_getElem?_getD]
  by_cases e : i = t
  · rw [if_pos e, if_pos e, if_pos (by omega)]; rfl
  · rw [if_neg e, if_neg e]


end Go.Proofs.YtfnicgihpelhhaaGreat

namespace Go.Proofs.YtfnicgihpelhhaaGreat
open Go.RowKit

/-- A graph with a hub: what leaps goes to the hub alone, and the hub goes where each of them went. -/
structure Hub (L M : List (List Int)) (n : Nat) (lp : Nat → Bool) : Prop where
  len : M.length = n + 1
  plain : ∀ k, k < n → lp k = false → rowZ M k = rowZ L k
  leap : ∀ k, k < n → lp k = true → rowZ M k = [(n : Int)]
  hub : ∀ k, k < n → lp k = true → rowZ M n = rowZ L k
  inn : ∀ t, t < (rowZ M n).length → 0 ≤ nth (rowZ M n) t ∧ nth (rowZ M n) t < (n : Int)
/-- What the blocks read; the hub behind them nothing. -/
def hubN (R : Nat → Nat) (n : Nat) (j : Nat) : Nat := if j < n then R j else 0
theorem hubN_in {R : Nat → Nat} {n j : Nat} (h : j < n) : hubN R n j = R j := if_pos h
theorem hubN_hub (R : Nat → Nat) (n : Nat) : hubN R n n = 0 := if_neg (by omega)
theorem hubN_lt {R : Nat → Nat} (n : Nat) (h : ∀ j, R j < 65536) (j : Nat) : hubN R n j < 65536 := by
  unfold hubN
  split
  · exact h j
  · omega
theorem orE_fit {F G : Int → Nat} {l : List Int} : ∀ {k : Nat}, (∀ t, t < k → F (nth l t) = G (nth l t)) → orE F l k = orE G l k
  | 0, _ => rfl
  | k + 1, h => by
    show orE F l k ||| F (nth l k) = orE G l k ||| G (nth l k)
    rw [orE_fit fun t ht => h t (by omega), h k (by omega)]
theorem orE_one (F : Int → Nat) (x : Int) : orE F [x] [x].length = F x := by
  show (0 : Nat) ||| F (nth [x] 0) = F x
  rw [Nat.zero_or]; rfl
theorem orE_in {F : Int → Nat} {l : List Int} : ∀ {k t : Nat}, t < k → SubN (F (nth l t)) (orE F l k)
  | 0, t, h => by omega
  | k + 1, t, h => fun r x => by
    show (orE F l k ||| F (nth l k)).testBit r = true
    rw [Nat.testBit_or, Bool.or_eq_true]
    by_cases e : t = k
    · subst e; exact .inr x
    · exact .inl (orE_in (show t < k by omega) r x)
theorem orE_out {F : Int → Nat} {l : List Int} {b : Nat} : ∀ {k : Nat}, (∀ t, t < k → SubN (F (nth l t)) b) → SubN (orE F l k) b
  | 0, _ => SubN.zero b
  | k + 1, h => fun r x => by
    have x : (orE F l k ||| F (nth l k)).testBit r = true := x
    rw [Nat.testBit_or, Bool.or_eq_true] at x
    rcases x with x | x
    · exact orE_out (fun t ht => h t (by omega)) r x
    · exact h k (by omega) r x
theorem orE_ltL {F : Int → Nat} {l : List Int} : ∀ {k : Nat}, (∀ t, t < k → F (nth l t) < 65536) → orE F l k < 65536
  | 0, _ => by show 0 < 65536; decide
  | k + 1, h => orN_lt (orE_ltL fun t ht => h t (by omega)) (h k (by omega))
theorem insN_hub {o : Nat} (h : o < 65536) : insN 0 0 o = o := by
  apply Nat.eq_of_testBit_eq
  intro i
  unfold insN
  rw [Nat.zero_or, lessN_bit (by omega), Nat.zero_testBit]
  by_cases e : i < 16
  · simp [e]
  · have : o.testBit i = false := Nat.testBit_lt_two_pow (Nat.lt_of_lt_of_le h (Nat.pow_le_pow_right (n := 2) (by omega) (show 16 ≤ i by omega)))
    rw [this]; rfl
theorem insN_all {r w o : Nat} (hr : r < 65536) : insN r w o < 65536 := orN_lt hr (Nat.lt_of_le_of_lt Nat.and_le_right (by omega))
section
variable {L M : List (List Int)} {n : Nat} {lp : Nat → Bool} {R W : Nat → Nat} {F G : Int → Nat}
theorem nth_back {l : List Int} {t : Nat} {n : Nat} (h : 0 ≤ nth l t ∧ nth l t < (n : Int)) : ∃ j : Nat, j < n ∧ nth l t = (j : Int) := ⟨(nth l t).toNat, by omega, by omega⟩
theorem Hub.sol (h : Hub L M n lp) (hR : ∀ j, R j < 65536) (hs : Sol M (hubN R n) (hubN W n) (n + 1) F G) : Sol L R W n F G := by
  have hF : ∀ j : Nat, j < n + 1 → F (j : Int) < 65536 := fun j hj => by
    rw [hs.inn j hj]
    exact insN_all (hubN_lt n hR j)
  have hGn : G (n : Int) < 65536 := by
    rw [hs.out n (by omega)]
    refine orE_ltL fun t ht => ?_
    obtain ⟨j, hj, e⟩ := nth_back (h.inn t ht)
    rw [e]; exact hF j (by omega)
  refine ⟨fun j hj => ?_, fun j hj => ?_⟩
  · cases e : lp j with
    | false => rw [hs.out j (by omega), h.plain j hj e]
    | true =>
      rw [hs.out j (by omega), h.leap j hj e, orE_one, hs.inn n (by omega), hubN_hub, hubN_hub, insN_hub hGn, hs.out n (by omega), h.hub j hj e]
  · rw [hs.inn j (by omega), hubN_in hj, hubN_in hj]
theorem Hub.low (h : Hub L M n lp) (hR : ∀ j, R j < 65536) (hI : Inn L n) (hs : Sol L R W n F G) : ∃ F' G', Sol M (hubN R n) (hubN W n) (n + 1) F' G' ∧ ∀ j : Nat, j < n → F' (j : Int) = F (j : Int) ∧ G' (j : Int) = G (j : Int) := by
  have hF : ∀ j : Nat, j < n → F (j : Int) < 65536 := fun j hj => by
    rw [hs.inn j hj]
    exact insN_all (hR j)
  have hb : orE F (rowZ M n) (rowZ M n).length < 65536 := orE_ltL fun t ht => by
    obtain ⟨j, hj, e⟩ := nth_back (h.inn t ht)
    rw [e]; exact hF j hj
  generalize hv : orE F (rowZ M n) (rowZ M n).length = v at hb
  have hold : ∀ (H : Int → Nat) (j : Nat), j < n → putS H (n : Int) v (j : Int) = H (j : Int) := fun H j hj => putS_else _ _ (by omega)
  have hor : ∀ l : List Int, (∀ t, t < l.length → 0 ≤ nth l t ∧ nth l t < (n : Int)) → orE (putS F (n : Int) v) l l.length = orE F l l.length := fun l hl => orE_fit fun t ht => by
    obtain ⟨j, hj, e⟩ := nth_back (hl t ht)
    rw [e]; exact hold F j hj
  refine ⟨putS F (n : Int) v, putS G (n : Int) v, ⟨fun j hj => ?_, fun j hj => ?_⟩, fun j hj => ⟨hold F j hj, hold G j hj⟩⟩
  · by_cases e : j = n
    · subst e
      rw [putS_here, hor _ h.inn, hv]
    · have hj : j < n := by omega
      rw [hold G j hj]
      cases e : lp j with
      | false => rw [h.plain j hj e, hor _ (fun t ht => hI j t hj ht)]; exact hs.out j hj
      | true => rw [h.leap j hj e, orE_one, putS_here, ← hv, h.hub j hj e]; exact hs.out j hj
  · by_cases e : j = n
    · subst e
      rw [putS_here, putS_here, hubN_hub, hubN_hub, insN_hub hb]
    · have hj : j < n := by omega
      rw [hold F j hj, hold G j hj, hubN_in hj, hubN_in hj]
      exact hs.inn j hj
/-- The least sets of the graph with the hub are those of the graph. -/
theorem Hub.lst (h : Hub L M n lp) (hR : ∀ j, R j < 65536) (hI : Inn L n) (hs : Lst M (hubN R n) (hubN W n) (n + 1) F G) : Lst L R W n F G := by
  refine ⟨h.sol hR hs.sol, fun F' G' k j hj => ?_⟩
  obtain ⟨F2, G2, k2, e⟩ := h.low hR hI k
  have := hs.low F2 G2 k2 j (by omega)
  rw [(e j hj).1, (e j hj).2] at this
  exact this
end
/-- Sets that grow, and which blocks wait. -/
structure Wk (M : List (List Int)) (R W : Nat → Nat) (N : Nat) (F G : Int → Nat) (S : Int → Bool) : Prop where
  grw : Grw M R W N F G
  done : ∀ k : Nat, k < N → S (k : Int) = false → F (k : Int) = insN (R k) (W k) (G (k : Int)) ∧ ∀ j : Nat, j < N → (k : Int) ∈ rowZ M j → SubN (F (k : Int)) (G (j : Int))
/-- In the midst of one: m of those that come to it have been told. -/
structure Md (M : List (List Int)) (R W : Nat → Nat) (N : Nat) (l : List Int) (k m : Nat) (F G : Int → Nat) (S : Int → Bool) : Prop where
  grw : Grw M R W N F G
  done : ∀ j : Nat, j < N → j ≠ k → S (j : Int) = false → F (j : Int) = insN (R j) (W j) (G (j : Int)) ∧ ∀ i : Nat, i < N → (j : Int) ∈ rowZ M i → SubN (F (j : Int)) (G (i : Int))
  here : S (k : Int) = false → F (k : Int) = insN (R k) (W k) (G (k : Int))
  told : ∀ t, t < m → SubN (F (k : Int)) (G (nth l t))
section
variable {M : List (List Int)} {R W : Nat → Nat} {N : Nat} {F G : Int → Nat} {S S' : Int → Bool} {l : List Int} {k m : Nat}
theorem mem_at {l : List Int} {x : Int} (h : x ∈ l) : ∃ t, t < l.length ∧ nth l t = x := by
  obtain ⟨t, ht, e⟩ := List.getElem_of_mem h
  refine ⟨t, ht, ?_⟩
  unfold nth
  rw [List.getD_eq_getElem?_getD, List.getElem?_eq_getElem ht, e]; rfl
theorem Wk.zero (hS : ∀ k : Nat, k < N → S (k : Int) = true) : Wk M R W N zeroS zeroS S := ⟨Grw.zero M R W N, fun k hk e => by rw [hS k hk] at e; cases e⟩
theorem Wk.fit (h : Wk M R W N F G S) (e : ∀ k : Nat, k < N → S (k : Int) = S' (k : Int)) : Wk M R W N F G S' := ⟨h.grw, fun k hk x => h.done k hk (by rw [e k hk]; exact x)⟩
/-- One is taken out: what is live ahead of it is told anew. -/
theorem Wk.take (h : Wk M R W N F G S) (hR : ∀ j, R j < 65536) (hW : ∀ j, W j < 65536) (hk : k < N) (hSk : S (k : Int) = true) (e : ∀ j : Nat, j < N → j ≠ k → S' (j : Int) = S (j : Int)) :
    Md M R W N l k 0 (putS F (k : Int) (insN (R k) (W k) (G (k : Int)))) G S' := by
  have hup : ∀ y, SubN (F y) (putS F (k : Int) (insN (R k) (W k) (G (k : Int))) y) := fun y => by
    by_cases e : y = (k : Int)
    · rw [e, putS_here]; exact h.grw.fst k hk
    · rw [putS_else _ _ e]; exact SubN.refl _
  refine ⟨⟨fun x => ⟨?_, (h.grw.lt x).2⟩, fun j hj => ?_, fun j hj => ?_, fun F' G' hs j hj => ?_⟩, fun j hj hne hS => ?_, fun _ => by rw [putS_here], fun t ht => by omega⟩
  · unfold putS
    split
    · exact insN_lt (hR k) (h.grw.lt _).2
    · exact (h.grw.lt x).1
  · by_cases e : j = k
    · rw [e, putS_here]; exact SubN.refl _
    · rw [putS_else _ _ (by omega)]; exact h.grw.fst j hj
  · exact (h.grw.snd j hj).trans (orE_sub fun t _ => hup _)
  · have := h.grw.top F' G' hs j hj
    by_cases e : j = k
    · subst e
      rw [putS_here]
      refine ⟨?_, this.2⟩
      rw [hs.inn j hj]
      exact insN_sub (hW j) this.2
    · rw [putS_else _ _ (by omega)]; exact this
  · rw [e j hj hne] at hS
    rw [putS_else _ _ (by omega)]
    exact h.done j hj hS
/-- One more that comes to it has all that is live ahead of it already. -/
theorem Md.skip (h : Md M R W N l k m F G S) (e : SubN (F (k : Int)) (G (nth l m))) : Md M R W N l k (m + 1) F G S := ⟨h.grw, h.done, h.here, fun t ht => by
  by_cases x : t = m
  · subst x; exact e
  · exact h.told t (by omega)⟩
/-- One more that comes to it grows, and waits. -/
theorem Md.grow (h : Md M R W N l k m F G S) (hW : ∀ j, W j < 65536) (hk : k < N) {f : Nat} (hf : f < N) (hl : nth l m = (f : Int)) (hm : (k : Int) ∈ rowZ M f) (e : ∀ j : Nat, j < N → j ≠ f → S' (j : Int) = S (j : Int)) (hS' : S' (f : Int) = true) :
    Md M R W N l k (m + 1) F (putS G (f : Int) (G (f : Int) ||| F (k : Int))) S' := by
  have hup : ∀ y, SubN (G y) (putS G (f : Int) (G (f : Int) ||| F (k : Int)) y) := fun y r x => by
    by_cases e : y = (f : Int)
    · rw [e, putS_here, Nat.testBit_or, ← e, x]; rfl
    · rw [putS_else _ _ e]; exact x
  obtain ⟨t0, ht0, et0⟩ := mem_at hm
  refine ⟨⟨fun x => ⟨(h.grw.lt x).1, ?_⟩, fun j hj => ?_, fun j hj => ?_, fun F' G' hs j hj => ?_⟩, fun j hj hne hS => ?_, fun hS => ?_, fun t ht => ?_⟩
  · unfold putS
    split
    · exact orN_lt (h.grw.lt _).2 (h.grw.lt _).1
    · exact (h.grw.lt x).2
  · exact (h.grw.fst j hj).trans (insN_sub (hW j) (hup _))
  · by_cases e : j = f
    · subst e
      rw [putS_here]
      intro r x
      rw [Nat.testBit_or, Bool.or_eq_true] at x
      rcases x with x | x
      · exact h.grw.snd j hj r x
      · exact orE_in ht0 r (by rw [et0]; exact x)
    · rw [putS_else _ _ (by omega)]; exact h.grw.snd j hj
  · have ht := h.grw.top F' G' hs j hj
    by_cases e : j = f
    · subst e
      rw [putS_here]
      refine ⟨ht.1, fun r x => ?_⟩
      rw [Nat.testBit_or, Bool.or_eq_true] at x
      rcases x with x | x
      · exact ht.2 r x
      · rw [hs.out j hj]
        exact orE_in ht0 r (by rw [et0]; exact (h.grw.top F' G' hs k hk).1 r x)
    · rw [putS_else _ _ (by omega)]; exact ht
  · by_cases x : j = f
    · subst x; rw [hS'] at hS; cases hS
    · rw [e j hj x] at hS
      obtain ⟨a, b⟩ := h.done j hj hne hS
      rw [putS_else _ _ (by omega)]
      exact ⟨a, fun i hi hm => (b i hi hm).trans (hup _)⟩
  · by_cases x : k = f
    · subst x; rw [hS'] at hS; cases hS
    · rw [e k hk x] at hS
      rw [putS_else _ _ (by omega)]
      exact h.here hS
  · by_cases x : t = m
    · subst x
      rw [hl, putS_here]
      intro r y
      rw [Nat.testBit_or, y, Bool.or_true]
    · exact (h.told t (by omega)).trans (hup _)
/-- All that come to it have been told. -/
theorem Md.wk (h : Md M R W N l k m F G S) (hl : ∀ j : Nat, j < N → (k : Int) ∈ rowZ M j → (j : Int) ∈ l) (hm : m = l.length) : Wk M R W N F G S := ⟨h.grw, fun j hj hS => by
  by_cases x : j = k
  · subst x
    refine ⟨h.here hS, fun i hi hi2 => ?_⟩
    obtain ⟨t, ht, et⟩ := mem_at (hl i hi hi2)
    rw [← et]
    exact h.told t (by omega)
  · exact h.done j hj x hS⟩
/-- None waits: the least sets. -/
theorem Wk.lst (h : Wk M R W N F G S) (hI : Inn M N) (hS : ∀ k : Nat, k < N → S (k : Int) = false) : Lst M R W N F G := by
  refine ⟨⟨fun j hj => ?_, fun j hj => (h.done j hj (hS j hj)).1⟩, h.grw.top⟩
  refine SubN.anti (h.grw.snd j hj) (orE_out fun t ht => ?_)
  obtain ⟨i, hi, e⟩ := nth_back (hI j t hj ht)
  rw [e]
  refine (h.done i hi (hS i hi)).2 j hj ?_
  rw [← e]
  exact nth_mem ht
/-- A set that grows. -/
theorem or_grows {a b : Nat} (hne : lessN b a ≠ 0) (ha : a < 65536) : a < a ||| b := by
  refine Nat.lt_of_le_of_ne Nat.left_le_or fun e => hne ?_
  apply Nat.eq_of_testBit_eq
  intro i
  rw [lessN_bit ha, Nat.zero_testBit]
  have h3 : a.testBit i = (a.testBit i || b.testBit i) := by
    have := congrArg (fun x => Nat.testBit x i) e
    simp only [Nat.testBit_or] at this
    exact this
  clear e
  generalize a.testBit i = x at *
  generalize b.testBit i = y at *
  cases x <;> cases y <;> first | exact absurd h3 (by decide) | simp
theorem less_zero {a b : Nat} (ha : a < 65536) (hb : b < 65536) (h : lessN b a = 0) : SubN b a := fun r x => by
  have := congrArg (fun y => Nat.testBit y r) h
  simp only [lessN_bit ha, x, Nat.zero_testBit, Bool.true_and] at this
  cases e : a.testBit r with
  | true => rfl
  | false =>
    rw [e] at this
    have h16 : r < 16 := by
      refine Classical.byContradiction fun hn => ?_
      have : b.testBit r = false := Nat.testBit_lt_two_pow (Nat.lt_of_lt_of_le hb (Nat.pow_le_pow_right (n := 2) (by omega) (show 16 ≤ r by omega)))
      rw [this] at x; cases x
    simp [h16] at this
theorem lowS_put {F : Int → Nat} {n f : Nat} {v : Nat} (hf : f < n) (h1 : F (f : Int) < v) (h2 : v < 65536) : lowS (putS F (f : Int) v) n < lowS F n := by
  refine lowS_lt (fun i hi => ?_) hf (by rw [putS_here]; exact h1) (by rw [putS_here]; exact h2)
  by_cases e : i = f
  · subst e; rw [putS_here]; omega
  · rw [putS_else _ _ (by omega)]; exact Nat.le_refl _
end
/-- Edges turned round, as members. -/
theorem back_mem {M : List (List Int)} {k j : Nat} (hk : k < M.length) (hj : j < M.length) (h : (k : Int) ∈ rowZ M j) : (j : Int) ∈ rowZ (backT M M.length) k := by
  unfold backT
  rw [rowZ_map hk, plcT_mem]
  refine ⟨by omega, by omega, ?_⟩
  unfold backR hasZ
  rw [show ((j : Int)).toNat = j by omega]
  exact decide_eq_true h
theorem back_at {M : List (List Int)} {k t : Nat} (hk : k < M.length) (ht : t < (rowZ (backT M M.length) k).length) : ∃ f : Nat, f < M.length ∧ nth (rowZ (backT M M.length) k) t = (f : Int) ∧ (k : Int) ∈ rowZ M f := by
  have hm := nth_mem ht
  generalize nth (rowZ (backT M M.length) k) t = x at hm
  unfold backT at hm
  rw [rowZ_map hk, plcT_mem] at hm
  obtain ⟨h0, h1, h2⟩ := hm
  unfold backR hasZ at h2
  exact ⟨x.toNat, by omega, by omega, of_decide_eq_true h2⟩

end Go.Proofs.YtfnicgihpelhhaaGreat
