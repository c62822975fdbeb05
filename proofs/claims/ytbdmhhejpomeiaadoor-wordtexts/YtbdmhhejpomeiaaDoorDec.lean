/-
  Numbers written in tens and read again, without Go: the two ways of reading a word's text, the program's and the document's, find the same word or both find none, for every list of bytes.
-/
import Derived.Lib.ItoaNum
import Derived.RowKit
namespace Go.Proofs.YtbdmhhejpomeiaaDoor
open Go.RowKit

/-- A word's text. -/
def txt (x : Int) (c : Bool) : List UInt8 := if c then 64 :: Lib.itoa x else Lib.itoa x

/-- What a word's number may be. -/
def InR (x : Int) : Prop := -9223372036854775808 ≤ x ∧ x ≤ 9223372036854775807

theorem inR_wrap (x : Int) : InR (wrap64 x) := by unfold InR wrap64; omega
theorem wrap_inR {x : Int} (h : InR x) : wrap64 x = x := by unfold InR at h; unfold wrap64; omega

/-- A step of gather: one byte. -/
def gstep (v : Int) (c m : Bool) (b : UInt8) : Option (Int × Bool × Bool) :=
  if b.toNat = 64 then some (v, true, m) else if b.toNat = 45 then some (v, c, true)
  else if 48 ≤ b.toNat ∧ b.toNat ≤ 57 then some (wrap64 (wrap64 (v * 10) + ((b.toNat : Int) - 48)), c, m) else none

/-- All the steps: as far as the bytes may be a word's. -/
def grun : List UInt8 → Int → Bool → Bool → Int × Bool × Bool
  | [], v, c, m => (v, c, m)
  | b :: l, v, c, m => match gstep v c m b with
    | some (v', c', m') => grun l v' c' m'
    | none => (v, c, m)

/-- What gather tells. -/
def gath (l : List UInt8) : Int × Bool := (if (grun l 0 false false).2.2 then wrap64 (- (grun l 0 false false).1) else (grun l 0 false false).1, (grun l 0 false false).2.1)

theorem grun_inR : ∀ (l : List UInt8) (v : Int) (c m : Bool), InR v → InR (grun l v c m).1
  | [], v, c, m, h => h
  | b :: l, v, c, m, h => by
    unfold grun gstep
    split
    · rename_i v' c' m' e
      split at e
      · cases e; exact grun_inR l _ _ _ h
      · split at e
        · cases e; exact grun_inR l _ _ _ h
        · split at e
          · cases e; exact grun_inR l _ _ _ (inR_wrap _)
          · cases e
    · exact h

theorem gath_inR (l : List UInt8) : InR (gath l).1 := by
  unfold gath
  simp only
  split
  · exact inR_wrap _
  · exact grun_inR l 0 false false (by unfold InR; omega)

theorem dig_toNat (k : Nat) (h : k < 10) : (UInt8.ofNat (48 + k)).toNat = 48 + k := by
  rw [UInt8.toNat_ofNat']; omega

theorem grun_dec (n : Nat) : ∀ (l : List UInt8) (c m : Bool), grun (Lib.decDigits n ++ l) 0 c m = grun l (wrap64 n) c m := by
  induction n using Nat.strongRecOn with
  | _ n ih =>
    intro l c m
    by_cases h : n < 10
    · rw [Lib.decDigits_one h]
      have e : gstep 0 c m (UInt8.ofNat (48 + n)) = some (wrap64 n, c, m) := by
        unfold gstep
        have ew : wrap64 (wrap64 (0 * 10) + (((48 + n : Nat) : Int) - 48)) = wrap64 n := by unfold wrap64; omega
        rw [dig_toNat n h, if_neg (by omega), if_neg (by omega), if_pos (by omega), ew]
      show grun (UInt8.ofNat (48 + n) :: l) 0 c m = _
      rw [grun, e]
    · rw [Lib.decDigits, dif_neg h, List.append_assoc, ih (n / 10) (by omega)]
      have e : gstep (wrap64 ((n / 10 : Nat) : Int)) c m (UInt8.ofNat (48 + n % 10)) = some (wrap64 n, c, m) := by
        unfold gstep
        have ew : wrap64 (wrap64 (wrap64 ((n / 10 : Nat) : Int) * 10) + (((48 + n % 10 : Nat) : Int) - 48)) = wrap64 n := by unfold wrap64; omega
        rw [dig_toNat (n % 10) (by omega), if_neg (by omega), if_neg (by omega), if_pos (by omega), ew]
      show grun (UInt8.ofNat (48 + n % 10) :: l) _ c m = _
      rw [grun, e]

theorem gath_txt (x : Int) (c : Bool) (h : InR x) : gath (txt x c) = (x, c) := by
  have h' := h
  unfold InR at h
  have hi : ∀ c0 : Bool, grun (Lib.itoa x) 0 c0 false = (wrap64 x.natAbs, c0, decide (x < 0)) := by
    intro c0
    unfold Lib.itoa
    by_cases hn : x < 0
    · rw [if_pos hn, grun]
      have e : gstep 0 c0 false 45 = some (0, c0, true) := by unfold gstep; rw [if_neg (by decide), if_pos (by decide)]
      rw [e]
      have := grun_dec x.natAbs [] c0 true
      rw [List.append_nil] at this
      simp only
      rw [this, decide_eq_true hn]; rfl
    · rw [if_neg hn]
      have := grun_dec x.toNat [] c0 false
      rw [List.append_nil] at this
      rw [this, decide_eq_false hn, show x.natAbs = x.toNat by omega]; rfl
  have hg : grun (txt x c) 0 false false = (wrap64 x.natAbs, c, decide (x < 0)) := by
    unfold txt
    cases c
    · exact hi false
    · show grun (64 :: Lib.itoa x) 0 false false = _
      rw [grun]
      have e : gstep 0 false false 64 = some (0, true, false) := by unfold gstep; rw [if_pos (by decide)]
      rw [e]
      exact hi true
  unfold gath
  rw [hg]
  simp only
  by_cases hn : x < 0
  · have ew : wrap64 (- wrap64 (x.natAbs : Int)) = x := by unfold wrap64; omega
    rw [decide_eq_true hn, if_pos rfl, ew]
  · have ew : wrap64 (x.natAbs : Int) = x := by unfold wrap64; omega
    rw [decide_eq_false hn, if_neg (by decide), ew]

/-- The document's way: digits alone. -/
def rdig : List UInt8 → Nat → Option Nat
  | [], v => some v
  | b :: l, v => if 48 ≤ b.toNat ∧ b.toNat ≤ 57 then rdig l (10 * v + (b.toNat - 48)) else none

/-- Behind an @ at the head. -/
def behindAt (l : List UInt8) : List UInt8 := if l.head? = some 64 then l.tail else l
/-- Behind a minus at the head. -/
def behindMinus (l : List UInt8) : List UInt8 := if l.head? = some 45 then l.tail else l

/-- The document's way: the word whose text the bytes may be. -/
def rpar (l : List UInt8) : Option (Int × Bool) :=
  if (behindMinus (behindAt l)).length < 1 ∨ 19 < (behindMinus (behindAt l)).length then none
  else match rdig (behindMinus (behindAt l)) 0 with
    | none => none
    | some v => if 9223372036854775808 < v ∨ (v = 9223372036854775808 ∧ (behindAt l).head? ≠ some 45) then none
      else some (if (behindAt l).head? = some 45 then - (v : Int) else v, decide (l.head? = some 64))

theorem rpar_inR {l : List UInt8} {v : Int} {c : Bool} (h : rpar l = some (v, c)) : InR v := by
  unfold rpar at h
  by_cases h1 : (behindMinus (behindAt l)).length < 1 ∨ 19 < (behindMinus (behindAt l)).length
  · rw [if_pos h1] at h; cases h
  · rw [if_neg h1] at h
    cases e : rdig (behindMinus (behindAt l)) 0 with
    | none => rw [e] at h; cases h
    | some n =>
      rw [e] at h
      simp only at h
      by_cases h2 : 9223372036854775808 < n ∨ (n = 9223372036854775808 ∧ (behindAt l).head? ≠ some 45)
      · rw [if_pos h2] at h; cases h
      · rw [if_neg h2] at h
        simp only [Option.some.injEq, Prod.mk.injEq] at h
        obtain ⟨h3, _⟩ := h
        subst h3
        unfold InR
        by_cases hm : (behindAt l).head? = some 45
        · rw [if_pos hm]; omega
        · rw [if_neg hm]
          have : ¬ n = 9223372036854775808 := fun hn => h2 (Or.inr ⟨hn, hm⟩)
          omega

theorem rdig_dec (n : Nat) : ∀ (l : List UInt8), rdig (Lib.decDigits n ++ l) 0 = rdig l n := by
  induction n using Nat.strongRecOn with
  | _ n ih =>
    intro l
    by_cases h : n < 10
    · rw [Lib.decDigits_one h]
      show rdig (UInt8.ofNat (48 + n) :: l) 0 = _
      rw [rdig, dig_toNat n h, if_pos (by omega)]
      congr 1; omega
    · rw [Lib.decDigits, dif_neg h, List.append_assoc, ih (n / 10) (by omega)]
      show rdig (UInt8.ofNat (48 + n % 10) :: l) _ = _
      rw [rdig, dig_toNat (n % 10) (by omega), if_pos (by omega)]
      congr 1; omega

/-- A numeral's first byte is a digit. -/
theorem dec_head (n : Nat) : ∃ b l, Lib.decDigits n = b :: l ∧ 48 ≤ b.toNat ∧ b.toNat ≤ 57 := by
  induction n using Nat.strongRecOn with
  | _ n ih =>
    by_cases h : n < 10
    · exact ⟨_, _, Lib.decDigits_one h, by rw [dig_toNat n h]; omega, by rw [dig_toNat n h]; omega⟩
    · obtain ⟨b, l, e, h1, h2⟩ := ih (n / 10) (by omega)
      exact ⟨b, l ++ [UInt8.ofNat (48 + n % 10)], by rw [Lib.decDigits, dif_neg h, e]; rfl, h1, h2⟩

theorem dec_len {n : Nat} (h : n ≤ 9223372036854775808) : 1 ≤ (Lib.decDigits n).length ∧ (Lib.decDigits n).length ≤ 19 := by
  rw [Lib.decDigits_length]
  refine ⟨Lib.nDigits_pos n, ?_⟩
  have : ∀ (k u : Nat), u < 10 ^ (k + 1) → Lib.nDigits u ≤ k + 1 := by
    intro k
    induction k with
    | zero => intro u hu; rw [Lib.nDigits_small (by omega)]; omega
    | succ k ih =>
      intro u hu
      by_cases h10 : u < 10
      · rw [Lib.nDigits_small h10]; omega
      · rw [Lib.nDigits_big h10]
        have := ih (u / 10) (by rw [Nat.pow_succ] at hu; omega)
        omega
  exact this 18 n (by omega)

theorem rpar_txt (x : Int) (c : Bool) (h : InR x) : rpar (txt x c) = some (x, c) := by
  unfold InR at h
  have hu : behindAt (txt x c) = Lib.itoa x ∧ decide ((txt x c).head? = some 64) = c := by
    unfold txt behindAt
    cases c
    · have hne : ¬ (Lib.itoa x).head? = some 64 := by
        unfold Lib.itoa
        split
        · simp
        · obtain ⟨b, l, e, h1, h2⟩ := dec_head x.toNat
          rw [e]
          simp only [List.head?_cons, Option.some.injEq]
          intro hb; subst hb; simp at h2
      simp [hne]
    · simp
  obtain ⟨hu, hc⟩ := hu
  unfold rpar
  rw [hu, hc]
  by_cases hn : x < 0
  · have e : Lib.itoa x = 45 :: Lib.decDigits x.natAbs := by unfold Lib.itoa; rw [if_pos hn]
    have hm : behindMinus (Lib.itoa x) = Lib.decDigits x.natAbs := by unfold behindMinus; rw [e]; simp
    have hh : (Lib.itoa x).head? = some 45 := by rw [e]; rfl
    have hl := dec_len (n := x.natAbs) (by omega)
    have hr := rdig_dec x.natAbs []
    rw [List.append_nil] at hr
    rw [hm, hr, if_neg (by omega)]
    simp only [rdig, hh, ne_eq, not_true_eq_false, and_false, or_false, if_true]
    have ex : - (x.natAbs : Int) = x := by omega
    rw [if_neg (by omega), ex]
  · have e : Lib.itoa x = Lib.decDigits x.toNat := by unfold Lib.itoa; rw [if_neg hn]
    have hh : ¬ (Lib.itoa x).head? = some 45 := by
      rw [e]
      obtain ⟨b, l, e', h1, h2⟩ := dec_head x.toNat
      rw [e']
      simp only [List.head?_cons, Option.some.injEq]
      intro hb; subst hb; simp at h1
    have hm : behindMinus (Lib.itoa x) = Lib.decDigits x.toNat := by unfold behindMinus; rw [if_neg hh, e]
    have hl := dec_len (n := x.toNat) (by omega)
    have hr := rdig_dec x.toNat []
    rw [List.append_nil] at hr
    rw [hm, hr, if_neg (by omega)]
    simp only [rdig, hh, ne_eq, not_false_eq_true, and_true, if_false]
    have ex : (x.toNat : Int) = x := by omega
    rw [if_neg (by omega), ex]

/-- What Read of the program tells. -/
def readG (l : List UInt8) : Option (Int × Bool) := if txt (gath l).1 (gath l).2 = l then some (gath l) else none
/-- What Read of the document tells. -/
def readF (l : List UInt8) : Option (Int × Bool) := match rpar l with
  | none => none
  | some p => if txt p.1 p.2 = l then some p else none

theorem read_same (l : List UInt8) : readF l = readG l := by
  unfold readF readG
  by_cases h : txt (gath l).1 (gath l).2 = l
  · rw [if_pos h]
    have := rpar_txt (gath l).1 (gath l).2 (gath_inR l)
    rw [h] at this
    rw [this]
    simp only [h, if_true]
  · rw [if_neg h]
    cases e : rpar l with
    | none => rfl
    | some p =>
      obtain ⟨v, c⟩ := p
      simp only
      rw [if_neg]
      intro hl
      apply h
      have := gath_txt v c (rpar_inR e)
      rw [hl] at this
      rw [this, hl]

theorem readG_txt (x : Int) (c : Bool) (h : InR x) : readG (txt x c) = some (x, c) := by
  unfold readG
  rw [gath_txt x c h]
  simp
end Go.Proofs.YtbdmhhejpomeiaaDoor
