/-
  Instructions and their words, as plain functions of numbers; no Go in sight. Instructions and their words, there and back, as plain functions of numbers; no Go in sight. What words read and write, as sets of registers; no Go in sight. Numbers as bytes, and how they are taken from the left, as plain mathematics; no Go in sight.
-/
import Derived.Test.YtmlhnnmelopleaaGreatDoorProg
import Derived.RowKit
import Derived.WalkKit
import Derived.WalkSpells
import Derived.WalkLawsBesides
import Derived.RowKit3
import Derived.Below
import Derived.Deep.QuietTactic
import Derived.BigQuiet
import Derived.WalkSmall
import Derived.Laws.Rows
import Derived.Laws.BitsAllLaws
import Derived.Test.YtmlhnnmelopleaaGreatDoorPs01
namespace Go.Proofs.YtmlhnnmelopleaaGreatDoor
open Go.RowKit

/-- Which fields an op has: D, A, B, N; whether its N is a place. -/
def hD (op : Int) : Bool := decide (op = 1 ∨ op = 2 ∨ (3 ≤ op ∧ op ≤ 11) ∨ op = 13 ∨ op = 20)
def hA (op : Int) : Bool := decide ((2 ≤ op ∧ op ≤ 12) ∨ op = 14 ∨ op = 16 ∨ op = 18 ∨ op = 19)
def hB (op : Int) : Bool := decide ((3 ≤ op ∧ op ≤ 10) ∨ op = 12)
def hN (op : Int) : Bool := decide (op = 1 ∨ op = 11 ∨ op = 12 ∨ (14 ≤ op ∧ op ≤ 17) ∨ op = 20)
def hP (op : Int) : Bool := decide ((15 ≤ op ∧ op ≤ 17) ∨ op = 20)
/-- May a register's field be r? -/
def regOK (h : Bool) (r : Int) : Bool := if h then decide (0 ≤ r ∧ r < 16) else decide (r = 0)
/-- May N be x? -/
def numOK (n p : Bool) (x : Int) : Bool := if n then (if p then decide (0 ≤ x ∧ x < 16384) else decide (-16384 ≤ x ∧ x ≤ 16383)) else decide (x = 0)
def insOK (op d a b n : Int) : Bool := regOK (hD op) d && regOK (hA op) a && regOK (hB op) b && numOK (hN op) (hP op) n
/-- The word. -/
def encW (op d a b n : Int) : Int := op * 134217728 + d * 8388608 + a * 524288 + b * 32768 + n % 32768
/-- Encode's word and error. -/
def encV (op d a b n : Int) : Int := if op < 0 ∨ 21 < op then 0 else if insOK op d a b n then encW op d a b n else 0
def encE (op d a b n : Int) : Int := if op < 0 ∨ 21 < op then 10 else if insOK op d a b n then 0 else 11
/-- The fields of a word. -/
def wOp (w : Int) : Int := w / 134217728
def wD (w : Int) : Int := w / 8388608 % 16
def wA (w : Int) : Int := w / 524288 % 16
def wB (w : Int) : Int := w / 32768 % 16
def wN (w : Int) : Int := if hN (wOp w) && !hP (wOp w) && decide (16384 ≤ w % 32768) then w % 32768 - 32768 else w % 32768
/-- Is a word an instruction? -/
def isIns (w : Int) : Bool := decide (wOp w ≤ 21) && insOK (wOp w) (wD w) (wA w) (wB w) (wN w)






end Go.Proofs.YtmlhnnmelopleaaGreatDoor

namespace Go.Proofs.YtmlhnnmelopleaaGreatDoor
open Go.RowKit

/-- What Decode tells. -/
def dOp (w : Int) : Int := if isIns w then wOp w else -1
def dD (w : Int) : Int := if isIns w then wD w else 0
def dA (w : Int) : Int := if isIns w then wA w else 0
def dB (w : Int) : Int := if isIns w then wB w else 0
def dN (w : Int) : Int := if isIns w then wN w else w
/-- Is N's number below nought? -/
def nNeg (w : Int) : Bool := hN (w / 134217728) && !hP (w / 134217728) && decide (16384 ≤ w % 32768)

theorem wN_neg {w : Int} (h : nNeg w = true) : wN w = w % 32768 - 32768 := by
  unfold nNeg at h; unfold wN wOp; rw [h]; rfl
theorem wN_pos {w : Int} (h : nNeg w = false) : wN w = w % 32768 := by
  unfold nNeg at h; unfold wN wOp; rw [h]; rfl
theorem encW_fields (w : Int) : encW (wOp w) (wD w) (wA w) (wB w) (wN w) = w := by
  unfold encW
  have e : wN w % 32768 = w % 32768 := by
    cases h : nNeg w
    · rw [wN_pos h]; omega
    · rw [wN_neg h]; omega
  rw [e]
  unfold wOp wD wA wB
  omega
theorem enc_yes {w : Int} (h0 : 0 ≤ w) (h1 : w < 4294967296) (h : isIns w = true) : encV (wOp w) (wD w) (wA w) (wB w) (wN w) = w ∧ encE (wOp w) (wD w) (wA w) (wB w) (wN w) = 0 := by
  have hw := encW_fields w
  unfold isIns at h
  rw [Bool.and_eq_true, decide_eq_true_eq] at h
  have hop : 0 ≤ wOp w := by unfold wOp; omega
  have hneg : ¬ (wOp w < 0 ∨ 21 < wOp w) := by omega
  unfold encV encE
  rw [if_neg hneg, if_neg hneg, if_pos h.2, if_pos h.2, hw]
  exact ⟨rfl, rfl⟩
theorem enc_no {w : Int} (h0 : 0 ≤ w) (h : isIns w = false) : encV (wOp w) (wD w) (wA w) (wB w) (wN w) = 0 ∧ (encE (wOp w) (wD w) (wA w) (wB w) (wN w) = 10 ∨ encE (wOp w) (wD w) (wA w) (wB w) (wN w) = 11) := by
  unfold isIns at h
  have hop : 0 ≤ wOp w := by unfold wOp; omega
  unfold encV encE
  by_cases hb : wOp w < 0 ∨ 21 < wOp w
  · rw [if_pos hb, if_pos hb]; exact ⟨rfl, Or.inl rfl⟩
  · rw [if_neg hb, if_neg hb]
    have hle : wOp w ≤ 21 := by omega
    rw [decide_eq_true hle, Bool.true_and] at h
    rw [h]; exact ⟨rfl, Or.inr rfl⟩






end Go.Proofs.YtmlhnnmelopleaaGreatDoor

namespace Go.Proofs.YtmlhnnmelopleaaGreatDoor
open Go.RowKit

theorem dD_reg (v : Int) : 0 ≤ dD v ∧ dD v ≤ 15 := by
  unfold dD
  split
  · unfold wD; omega
  · omega
theorem dA_reg (v : Int) : 0 ≤ dA v ∧ dA v ≤ 15 := by
  unfold dA
  split
  · unfold wA; omega
  · omega
theorem dB_reg (v : Int) : 0 ≤ dB v ∧ dB v ≤ 15 := by
  unfold dB
  split
  · unfold wB; omega
  · omega
/-- A register as a set of registers. -/
def bitN (h : Bool) (r : Int) : Nat := if h = true then 2 ^ r.toNat else 0
theorem bitN_lt (h : Bool) {r : Int} (h1 : r ≤ 15) : bitN h r < 65536 := by
  unfold bitN
  split
  · have : 2 ^ r.toNat ≤ 2 ^ 15 := Nat.pow_le_pow_right (by omega) (by omega)
    omega
  · omega
/-- What is in the first set and not in the second one. -/
def lessN (a b : Nat) : Nat := a &&& (65535 - b)
theorem lessN_bit {a b : Nat} (hb : b < 65536) (i : Nat) : (lessN a b).testBit i = (a.testBit i && (decide (i < 16) && !b.testBit i)) := by
  unfold lessN
  rw [Nat.testBit_and, show 65535 - b = 2 ^ 16 - (b + 1) by omega, Nat.testBit_two_pow_sub_succ hb]
theorem lessN_lt {a b : Nat} (h : a < 65536) : lessN a b < 65536 := Nat.lt_of_le_of_lt Nat.and_le_left h
theorem orN_lt {a b : Nat} (h : a < 65536) (k : b < 65536) : a ||| b < 65536 := Nat.or_lt_two_pow (n := 16) h k
/-- What a word reads, what it writes. -/
def rdN (v : Int) : Nat := bitN (hA (dOp v)) (dA v) ||| bitN (hB (dOp v)) (dB v)
def wrN (v : Int) : Nat := if dOp v = 17 ∨ dOp v = 18 then 32768 else bitN (hD (dOp v)) (dD v)
theorem rdN_lt (v : Int) : rdN v < 65536 := orN_lt (bitN_lt _ (dA_reg v).2) (bitN_lt _ (dB_reg v).2)
theorem wrN_lt (v : Int) : wrN v < 65536 := by
  unfold wrN
  split
  · omega
  · exact bitN_lt _ (dD_reg v).2
/-- Is the link register in one of both? -/
def lnB (v : Int) : Bool := decide ((rdN v ||| wrN v) / 32768 = 1)
def alB (v : Int) : Bool := if dOp v = -1 ∨ dOp v = 16 then true else if dOp v = 19 ∨ dOp v = 17 then false else if dOp v = 18 then dA v == 15 else lnB v
/-- What the first k words of a row read, and what they write. -/
def allW (l : List Int) : Nat → Nat
  | 0 => 0
  | k + 1 => allW l k ||| wrN (nth l k)
def allR (l : List Int) : Nat → Nat
  | 0 => 0
  | k + 1 => allR l k ||| lessN (rdN (nth l k)) (allW l k)
theorem allW_lt (l : List Int) : ∀ k, allW l k < 65536
  | 0 => by show 0 < 65536; decide
  | k + 1 => orN_lt (allW_lt l k) (wrN_lt _)
theorem allR_lt (l : List Int) : ∀ k, allR l k < 65536
  | 0 => by show 0 < 65536; decide
  | k + 1 => orN_lt (allR_lt l k) (lessN_lt (rdN_lt _))
theorem nth_left {a b : List Int} {k : Nat} (h : k < a.length) : nth (a ++ b) k = nth a k := by
  unfold nth
  rw [List.getD_eq_getElem?_getD, List.getElem?_append_left h, ← List.getD_eq_getElem?_getD]
theorem nth_right {a b : List Int} {j : Nat} : nth (a ++ b) (a.length + j) = nth b j := by
  unfold nth
  rw [List.getD_eq_getElem?_getD, List.getElem?_append_right (by omega), Nat.add_sub_cancel_left, ← List.getD_eq_getElem?_getD]
theorem allW_left (a b : List Int) : ∀ k, k ≤ a.length → allW (a ++ b) k = allW a k
  | 0, _ => rfl
  | k + 1, h => by
    show allW (a ++ b) k ||| wrN (nth (a ++ b) k) = allW a k ||| wrN (nth a k)
    rw [allW_left a b k (by omega), nth_left (by omega)]
theorem allR_left (a b : List Int) : ∀ k, k ≤ a.length → allR (a ++ b) k = allR a k
  | 0, _ => rfl
  | k + 1, h => by
    show allR (a ++ b) k ||| lessN (rdN (nth (a ++ b) k)) (allW (a ++ b) k) = allR a k ||| lessN (rdN (nth a k)) (allW a k)
    rw [allR_left a b k (by omega), allW_left a b k (by omega), nth_left (by omega)]
theorem allW_two (a b : List Int) : ∀ j, allW (a ++ b) (a.length + j) = allW a a.length ||| allW b j
  | 0 => by
    show allW (a ++ b) a.length = allW a a.length ||| 0
    rw [allW_left a b _ (Nat.le_refl _), Nat.or_zero]
  | j + 1 => by
    show allW (a ++ b) (a.length + j) ||| wrN (nth (a ++ b) (a.length + j)) = allW a a.length ||| (allW b j ||| wrN (nth b j))
    rw [allW_two a b j, nth_right, Nat.or_assoc]
theorem less_or {x w y : Nat} (hw : w < 65536) (hy : y < 65536) : lessN x (w ||| y) = lessN (lessN x y) w := by
  apply Nat.eq_of_testBit_eq
  intro i
  rw [lessN_bit (orN_lt hw hy), lessN_bit hw, lessN_bit hy, Nat.testBit_or]
  cases x.testBit i <;> cases w.testBit i <;> cases y.testBit i <;> cases decide (i < 16) <;> rfl
theorem or_less {x y w : Nat} (hw : w < 65536) : lessN (x ||| y) w = lessN x w ||| lessN y w := by
  apply Nat.eq_of_testBit_eq
  intro i
  rw [lessN_bit hw, Nat.testBit_or, Nat.testBit_or, lessN_bit hw, lessN_bit hw]
  cases x.testBit i <;> cases w.testBit i <;> cases y.testBit i <;> cases decide (i < 16) <;> rfl
theorem allR_two (a b : List Int) : ∀ j, allR (a ++ b) (a.length + j) = allR a a.length ||| lessN (allR b j) (allW a a.length)
  | 0 => by
    show allR (a ++ b) a.length = allR a a.length ||| lessN 0 (allW a a.length)
    rw [allR_left a b _ (Nat.le_refl _), show lessN 0 (allW a a.length) = 0 from Nat.zero_and _, Nat.or_zero]
  | j + 1 => by
    show allR (a ++ b) (a.length + j) ||| lessN (rdN (nth (a ++ b) (a.length + j))) (allW (a ++ b) (a.length + j)) = allR a a.length ||| lessN (allR b j ||| lessN (rdN (nth b j)) (allW b j)) (allW a a.length)
    rw [allR_two a b j, allW_two a b j, nth_right, or_less (allW_lt _ _), less_or (allW_lt _ _) (allW_lt _ _), Nat.or_assoc]
/-- Sets as the machine's numbers. -/
theorem orI {a b : Nat} (h : a < 65536) (k : b < 65536) : bits .or .u16 (a : Int) (b : Int) = ((a ||| b : Nat) : Int) := by
  rw [u16_or _ _ (by omega) (by omega) (by omega) (by omega)]
  simp
theorem lessI {a b : Nat} (h : a < 65536) (k : b < 65536) : bits .andNot .u16 (a : Int) (b : Int) = ((lessN a b : Nat) : Int) := by
  rw [u16_andNot _ _ (by omega) (by omega) (by omega) (by omega)]
  simp [lessN]
theorem linkI {n : Nat} (_h : n < 65536) : (((n : Int) / 32768) == 1) = decide (n / 32768 = 1) := by
  by_cases e : n / 32768 = 1
  · rw [decide_eq_true e, beq_iff_eq]; omega
  · rw [decide_eq_false e, beq_eq_false_iff_ne]; omega


end Go.Proofs.YtmlhnnmelopleaaGreatDoor

namespace Go.Proofs.YtmlhnnmelopleaaGreatDoor
open Go.RowKit

/-- A number's four bytes, the highest first; of eight. -/
def be4 (n : Int) : List Int := [n / 16777216 % 256, n / 65536 % 256, n / 256 % 256, n % 256]
def be8 (n : Int) : List Int := be4 (n / 4294967296) ++ be4 n
def v4 : List Int → Int
  | a :: b :: c :: d :: _ => ((a * 256 + b) * 256 + c) * 256 + d
  | _ => 0
def s64 (x : Int) : Int := if x < 9223372036854775808 then x else x - 18446744073709551616
def v8 (l : List Int) : Int := s64 (v4 l * 4294967296 + v4 (l.drop 4))
/-- Each is a byte. -/
def AreB (l : List Int) : Prop := ∀ x ∈ l, 0 ≤ x ∧ x < 256
theorem AreB.drop {l : List Int} (h : AreB l) (k : Nat) : AreB (l.drop k) := fun x hx => h x (List.mem_of_mem_drop hx)
theorem AreB.take {l : List Int} (h : AreB l) (k : Nat) : AreB (l.take k) := fun x hx => h x (List.mem_of_mem_take hx)
theorem AreB.app {l r : List Int} (h : AreB l) (k : AreB r) : AreB (l ++ r) := fun x hx => (List.mem_append.1 hx).elim (h x) (k x)
theorem be4_len (n : Int) : (be4 n).length = 4 := rfl
theorem be8_len (n : Int) : (be8 n).length = 8 := rfl
theorem be4_areB (n : Int) : AreB (be4 n) := fun x hx => by
  simp [be4] at hx
  omega
theorem be8_areB (n : Int) : AreB (be8 n) := (be4_areB _).app (be4_areB _)
theorem v4_be4 (n : Int) (r : List Int) : v4 (be4 n ++ r) = n % 4294967296 := by
  simp only [be4, List.cons_append, List.nil_append, v4]
  omega
theorem four_parts {l : List Int} (h : 4 ≤ l.length) : ∃ a b c d r, l = a :: b :: c :: d :: r := by
  match l, h with
  | a :: b :: c :: d :: r, _ => exact ⟨a, b, c, d, r, rfl⟩
theorem be4_v4 {l : List Int} (h : 4 ≤ l.length) (hb : AreB l) : l = be4 (v4 l) ++ l.drop 4 ∧ 0 ≤ v4 l ∧ v4 l < 4294967296 := by
  obtain ⟨a, b, c, d, r, rfl⟩ := four_parts h
  have h0 := hb a (by simp)
  have h1 := hb b (by simp)
  have h2 := hb c (by simp)
  have h3 := hb d (by simp)
  simp only [v4, be4, List.cons_append, List.nil_append, List.drop_succ_cons, List.drop_zero, List.cons.injEq, and_true]
  omega
theorem v8_be8 (n : Int) (r : List Int) (h0 : -9223372036854775808 ≤ n) (h1 : n < 9223372036854775808) : v8 (be8 n ++ r) = n := by
  have e : (be8 n ++ r).drop 4 = be4 n ++ r := rfl
  unfold v8
  rw [e, v4_be4]
  unfold be8
  rw [List.append_assoc, v4_be4]
  unfold s64
  split <;> omega
theorem be8_v8 {l : List Int} (h : 8 ≤ l.length) (hb : AreB l) : l = be8 (v8 l) ++ l.drop 8 ∧ -9223372036854775808 ≤ v8 l ∧ v8 l < 9223372036854775808 := by
  obtain ⟨e1, a1, a2⟩ := be4_v4 (l := l) (by omega) hb
  obtain ⟨e2, b1, b2⟩ := be4_v4 (l := l.drop 4) (by simp; omega) (hb.drop 4)
  have k1 : v8 l / 4294967296 % 4294967296 = v4 l := by
    unfold v8 s64
    split <;> omega
  have k2 : v8 l % 4294967296 = v4 (l.drop 4) := by
    unfold v8 s64
    split <;> omega
  have m4 : ∀ x : Int, be4 (x % 4294967296) = be4 x := fun x => by
    simp only [be4, List.cons.injEq, and_true]
    omega
  refine ⟨?_, ?_, ?_⟩
  · unfold be8
    rw [← m4 (v8 l / 4294967296), ← m4 (v8 l), k1, k2, List.append_assoc, show l.drop 8 = (l.drop 4).drop 4 by rw [List.drop_drop], ← e2]
    exact e1
  · unfold v8 s64
    split <;> omega
  · unfold v8 s64
    split <;> omega
/-- The sum of bytes. -/
def sumB (l : List Int) : Int := l.foldl (fun s b => (31 * s + b) % 4294967296) 0
/-- A text's bytes. -/
def strB (s : ByteArray) : List Int := s.data.toList.map fun c => (c.toNat : Int)
def textB (s : ByteArray) : List Int := be4 s.size ++ strB s
def symB (x : Sym) : List Int := textB x.1 ++ be4 x.2.1 ++ be4 x.2.2
def relB (x : Rel) : List Int := be4 x.1 ++ be4 x.2
def bodyB (nm : ByteArray) (code : List Int) (dA : Int) (data : List Int) (ss : List Sym) (rs : List Rel) : List Int :=
  [80, 76, 79, 49] ++ textB nm ++ be4 code.length ++ code.flatMap be4 ++ be4 dA ++ be4 data.length ++ data.flatMap be8 ++ be4 ss.length ++ ss.flatMap symB ++ be4 rs.length ++ rs.flatMap relB
def bytesB (nm : ByteArray) (code : List Int) (dA : Int) (data : List Int) (ss : List Sym) (rs : List Rel) : List Int :=
  bodyB nm code dA data ss rs ++ be4 (sumB (bodyB nm code dA data ss rs))
/-- Where a taker stands, and what is wrong. -/
structure Tk where
  pos : Nat
  bad : Int
  place : Int
def tWrong (t : Tk) (e p : Int) : Tk := if t.bad = 0 then ⟨t.pos, e, p⟩ else t
def tHas (N : Nat) (t : Tk) (n : Int) : Tk := if t.bad = 0 ∧ (N : Int) - t.pos < n then ⟨t.pos, 27, N⟩ else t
def tFour (b : List Int) (t : Tk) : Int × Tk := if (tHas b.length t 4).bad = 0 then (v4 (b.drop t.pos), ⟨t.pos + 4, 0, t.place⟩) else (0, tHas b.length t 4)
def tEight (b : List Int) (t : Tk) : Int × Tk := if (tHas b.length t 8).bad = 0 then (v8 (b.drop t.pos), ⟨t.pos + 8, 0, t.place⟩) else (0, tHas b.length t 8)
def tCount (b : List Int) (most : Int) (t : Tk) : Int × Tk :=
  if (tFour b t).2.bad = 0 then (if most < (tFour b t).1 then (0, ⟨t.pos + 4, 27, t.pos⟩) else tFour b t) else (0, (tFour b t).2)
def tBegin (b want : List Int) : Tk := match (List.range want.length).find? (fun i => decide (b.length ≤ i) || nth b i != nth want i) with
  | some i => ⟨want.length, 27, i⟩
  | none => ⟨want.length, 0, 0⟩
def strOf (l : List Int) : ByteArray := ⟨(l.map fun x => UInt8.ofNat x.toNat).toArray⟩
def tName (b : List Int) (t : Tk) : ByteArray × Tk :=
  if (tHas b.length (tCount b 24 t).2 (tCount b 24 t).1).bad = 0 then (strOf ((b.drop (tCount b 24 t).2.pos).take (tCount b 24 t).1.toNat), ⟨(tCount b 24 t).2.pos + (tCount b 24 t).1.toNat, 0, (tCount b 24 t).2.place⟩) else (⟨#[]⟩, tHas b.length (tCount b 24 t).2 (tCount b 24 t).1)
def tList {α : Type} (f : Tk → α × Tk) : Nat → Tk → List α × Tk
  | 0, t => ([], t)
  | n + 1, t => if t.bad = 0 then ((f t).1 :: (tList f n (f t).2).1, (tList f n (f t).2).2) else ([], t)
def great : Int := 2147483647
def tSym (b : List Int) (t : Tk) : Sym × Tk :=
  (((tName b t).1, (tCount b 3 (tName b t).2).1, (tCount b great (tCount b 3 (tName b t).2).2).1), (tCount b great (tCount b 3 (tName b t).2).2).2)
def tRel (b : List Int) (t : Tk) : Rel × Tk := (((tCount b great t).1, (tCount b great (tCount b great t).2).1), (tCount b great (tCount b great t).2).2)
def tEnd (b : List Int) (t : Tk) : Tk :=
  if (tFour b t).2.bad = 0 then (if t.pos + 4 < b.length then ⟨t.pos + 4, 27, t.pos + 4⟩ else if (tFour b t).1 = sumB (b.take t.pos) then (tFour b t).2 else ⟨t.pos + 4, 28, t.pos⟩) else (tFour b t).2
/-- All that is taken of an object's bytes. -/
structure Took where
  nm : ByteArray
  code : List Int
  dA : Int
  data : List Int
  ss : List Sym
  rs : List Rel
  t : Tk
def tCode (b : List Int) : List Int × Tk := tList (tFour b) (tCount b 16384 (tName b (tBegin b [80, 76, 79, 49])).2).1.toNat (tCount b 16384 (tName b (tBegin b [80, 76, 79, 49])).2).2
def tDat (b : List Int) : Int × Tk := tCount b great (tCode b).2
def tData (b : List Int) : List Int × Tk := tList (tEight b) (tCount b 4096 (tDat b).2).1.toNat (tCount b 4096 (tDat b).2).2
def tSyms (b : List Int) : List Sym × Tk := tList (tSym b) (tCount b 256 (tData b).2).1.toNat (tCount b 256 (tData b).2).2
def tRels (b : List Int) : List Rel × Tk := tList (tRel b) (tCount b (tCode b).1.length (tSyms b).2).1.toNat (tCount b (tCode b).1.length (tSyms b).2).2
def took (b : List Int) : Took := ⟨(tName b (tBegin b [80, 76, 79, 49])).1, (tCode b).1, (tDat b).1, (tData b).1, (tSyms b).1, (tRels b).1, tEnd b (tRels b).2⟩








end Go.Proofs.YtmlhnnmelopleaaGreatDoor
