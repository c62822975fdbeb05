/-
  What neighbours of a suffix array have in common, plain. Plain: what the prefixes cost, each found from the one of the place ahead in the list. Plain: the least between two places, the row around one; of an array: what suffixes have in common.
-/
import Derived.Test.YtokhclindfipbaaProg
import Derived.WalkKit
import Derived.WalkSpells
import Derived.WalkLawsBesides
import Derived.RowKit3
import Derived.Below
import Derived.Deep.QuietTactic
import Derived.BigQuiet
import Derived.WalkSmall
import Derived.Laws.Rows
import Derived.Test.YtokhclindfipbaaPr09
namespace Go.Proofs.Ytokhclindfipbaa
open Go.RowKit

/-- How many numbers two lists have in common, from their beginnings on. -/
def cpL : List Int → List Int → Nat
  | a :: xs, b :: ys => if a = b then cpL xs ys + 1 else 0
  | [], _ => 0
  | _ :: _, [] => 0
theorem cpL_nil (ys : List Int) : cpL [] ys = 0 := by cases ys <;> rfl
theorem cpL_out (xs : List Int) : cpL xs [] = 0 := by cases xs <;> rfl
theorem cpL_comm : ∀ xs ys : List Int, cpL xs ys = cpL ys xs
  | [], ys => by rw [cpL_nil, cpL_out]
  | _ :: _, [] => rfl
  | a :: xs, b :: ys => by
    rw [cpL, cpL]
    by_cases e : a = b
    · rw [if_pos e, if_pos e.symm, cpL_comm xs ys]
    · rw [if_neg e, if_neg fun x => e x.symm]
theorem cpL_same : ∀ xs : List Int, cpL xs xs = xs.length
  | [] => rfl
  | a :: xs => by rw [cpL, if_pos rfl, cpL_same xs]; rfl
theorem cpL_le : ∀ xs ys : List Int, cpL xs ys ≤ xs.length
  | [], ys => by rw [cpL_nil]; exact Nat.zero_le _
  | _ :: _, [] => Nat.zero_le _
  | a :: xs, b :: ys => by
    rw [cpL]
    by_cases e : a = b
    · rw [if_pos e]; have := cpL_le xs ys; simp; exact this
    · rw [if_neg e]; exact Nat.zero_le _
/-- Of three lists in order: what the outer ones have in common is the lesser of what neighbours have. -/
theorem cpL_min : ∀ {xs ys zs : List Int}, ltL xs ys = true → ltL ys zs = true → cpL xs zs = min (cpL xs ys) (cpL ys zs)
  | [], ys, zs, _, _ => by rw [cpL_nil, cpL_nil, Nat.zero_min]
  | a :: xs, [], zs, h, _ => by rw [ltL] at h; cases h
  | a :: xs, b :: ys, [], _, h => by rw [ltL] at h; cases h
  | a :: xs, b :: ys, c :: zs, h1, h2 => by
    rw [ltL] at h1 h2
    rw [cpL, cpL, cpL]
    by_cases e1 : a = b
    · subst e1
      rw [if_pos rfl] at h1
      by_cases e2 : a = c
      · subst e2
        rw [if_pos rfl] at h2
        rw [if_pos rfl, if_pos rfl, if_pos rfl, cpL_min h1 h2]
        omega
      · rw [if_neg e2, if_neg e2, Nat.min_zero]
    · rw [if_neg e1] at h1
      have h1 : a < b := of_decide_eq_true h1
      by_cases e2 : b = c
      · subst e2
        rw [if_neg e1, if_neg e1, Nat.zero_min]
      · rw [if_neg e2] at h2
        have h2 : b < c := of_decide_eq_true h2
        rw [if_neg (show ¬ a = c by omega), if_neg e1, Nat.zero_min]
/-- What two suffixes have in common. -/
def cpS (l : List Int) (i k : Nat) : Nat := cpL (l.drop i) (l.drop k)
theorem cpS_comm (l : List Int) (i k : Nat) : cpS l i k = cpS l k i := cpL_comm _ _
theorem cpS_step {l : List Int} {i k : Nat} (hi : i < l.length) (hk : k < l.length) : cpS l i k = if nth l i = nth l k then cpS l (i + 1) (k + 1) + 1 else 0 := by
  unfold cpS
  rw [drop_nth hi, drop_nth hk, cpL]
theorem cpS_endI {l : List Int} {i k : Nat} (hi : l.length ≤ i) : cpS l i k = 0 := by
  unfold cpS
  rw [List.drop_eq_nil_of_le hi, cpL_nil]
theorem cpS_endK {l : List Int} {i k : Nat} (hk : l.length ≤ k) : cpS l i k = 0 := by rw [cpS_comm, cpS_endI hk]
theorem cpS_leI (l : List Int) (i k : Nat) : i + cpS l i k ≤ l.length ∨ cpS l i k = 0 := by
  by_cases h : i ≤ l.length
  · have h2 : cpL (l.drop i) (l.drop k) ≤ (l.drop i).length := cpL_le _ _
    have h3 : (l.drop i).length = l.length - i := List.length_drop
    have h4 : cpS l i k = cpL (l.drop i) (l.drop k) := rfl
    omega
  · exact .inr (cpS_endI (by omega))
theorem cpS_leK (l : List Int) (i k : Nat) : k + cpS l i k ≤ l.length ∨ cpS l i k = 0 := by rw [cpS_comm]; exact cpS_leI l k i
/-- A beginning that is in common may be counted first. -/
theorem cpS_from : ∀ (n : Nat) {l : List Int} {i k : Nat}, n ≤ cpS l i k → cpS l i k = n + cpS l (i + n) (k + n)
  | 0, l, i, k, _ => by simp
  | n + 1, l, i, k, h => by
    by_cases hi : i < l.length
    · by_cases hk : k < l.length
      · have hs := cpS_step hi hk
        by_cases e : nth l i = nth l k
        · rw [if_pos e] at hs
          have := cpS_from n (l := l) (i := i + 1) (k := k + 1) (by omega)
          rw [hs, this, show i + 1 + n = i + (n + 1) by omega, show k + 1 + n = k + (n + 1) by omega]
          omega
        · rw [if_neg e] at hs; omega
      · rw [cpS_endK (by omega)] at h; omega
    · rw [cpS_endI (by omega)] at h; omega
theorem cpS_min {l : List Int} {i j k : Nat} (h1 : lsS l i j = true) (h2 : lsS l j k = true) : cpS l i k = min (cpS l i j) (cpS l j k) := cpL_min h1 h2
/-- The number at a place of the array: what it has in common with the one ahead. -/
def cpN (l : List Int) (r : Nat) : Nat := if r = 0 then 0 else cpS l (snth (sufN l) (r - 1)) (snth (sufN l) r)
def cpA (l : List Int) : List Int := (List.range l.length).map fun r => ((cpN l r : Nat) : Int)
theorem cpA_len (l : List Int) : (cpA l).length = l.length := by simp [cpA]
theorem cpA_nth {l : List Int} {r : Nat} (h : r < l.length) : nth (cpA l) r = ((cpN l r : Nat) : Int) := by simp [nth, cpA, h]
/-- Between two places of the array. -/
theorem cpS_between {l : List Int} : ∀ {d i : Nat}, i + d + 1 < l.length → cpS l (snth (sufN l) i) (snth (sufN l) (i + d + 1)) = (List.range d).foldl (fun m j => min m (cpN l (i + 2 + j))) (cpN l (i + 1))
  | 0, i, h => by simp [cpN]
  | d + 1, i, h => by
    rw [List.range_succ, List.foldl_append, List.foldl_cons, List.foldl_nil, ← cpS_between (d := d) (i := i) (by omega)]
    have h1 := sufN_less (l := l) (i := i) (k := i + d + 1) (by omega) (by omega)
    have h2 := sufN_less (l := l) (i := i + d + 1) (k := i + (d + 1) + 1) (by omega) (by omega)
    rw [cpS_min h1 h2]
    congr 1
    unfold cpN
    rw [if_neg (by omega)]
    congr 2 <;> omega
/-- At least so much is in common just if all numbers between are at least that. -/
theorem cpS_all {l : List Int} {n : Nat} : ∀ {d i : Nat}, i + d + 1 < l.length → (n ≤ cpS l (snth (sufN l) i) (snth (sufN l) (i + d + 1)) ↔ ∀ j, i < j → j ≤ i + d + 1 → n ≤ cpN l j)
  | 0, i, h => by
    have e : cpN l (i + 1) = cpS l (snth (sufN l) i) (snth (sufN l) (i + 0 + 1)) := by unfold cpN; rw [if_neg (by omega)]; rfl
    rw [← e]
    constructor
    · intro h1 j hj1 hj2
      obtain rfl : j = i + 1 := by omega
      exact h1
    · intro h1; exact h1 _ (by omega) (by omega)
  | d + 1, i, h => by
    have h1 := sufN_less (l := l) (i := i) (k := i + d + 1) (by omega) (by omega)
    have h2 := sufN_less (l := l) (i := i + d + 1) (k := i + (d + 1) + 1) (by omega) (by omega)
    have e : cpN l (i + (d + 1) + 1) = cpS l (snth (sufN l) (i + d + 1)) (snth (sufN l) (i + (d + 1) + 1)) := by unfold cpN; rw [if_neg (by omega)]; rfl
    rw [cpS_min h1 h2, ← e, Nat.le_min, cpS_all (d := d) (i := i) (by omega)]
    constructor
    · rintro ⟨a, b⟩ j hj1 hj2
      by_cases hj : j = i + (d + 1) + 1
      · rw [hj]; exact b
      · exact a j hj1 (by omega)
    · intro a; exact ⟨fun j hj1 hj2 => a j hj1 (by omega), a _ (by omega) (by omega)⟩
theorem cpS_row {l : List Int} {n i k : Nat} (hik : i < k) (hk : k < l.length) : n ≤ cpS l (snth (sufN l) i) (snth (sufN l) k) ↔ ∀ j, i < j → j ≤ k → n ≤ cpN l j := by
  have h := cpS_all (l := l) (n := n) (d := k - i - 1) (i := i) (by omega)
  rw [show i + (k - i - 1) + 1 = k by omega] at h
  exact h
/-- The place ahead in the array. -/
def aheadN (l : List Int) (p : Nat) : Nat := snth (sufN l) (rkN l p - 1)
theorem cpN_rk {l : List Int} {p : Nat} (hp : p < l.length) (h : 0 < rkN l p) : cpN l (rkN l p) = cpS l (aheadN l p) p := by
  unfold cpN aheadN
  rw [if_neg (by omega), rkN_at hp]
theorem aheadN_lt {l : List Int} {p : Nat} (hp : p < l.length) : aheadN l p < l.length := sufN_lt (by have := rkN_lt hp; omega)
theorem aheadN_less {l : List Int} {p : Nat} (hp : p < l.length) (h : 0 < rkN l p) : lsS l (aheadN l p) p = true := by
  have := sufN_less (l := l) (i := rkN l p - 1) (k := rkN l p) (by omega) (rkN_lt hp)
  rw [rkN_at hp] at this
  exact this
theorem rkN_less {l : List Int} {p q : Nat} (hp : p < l.length) (hq : q < l.length) (h : lsS l p q = true) : rkN l p < rkN l q := by
  rcases Nat.lt_trichotomy (rkN l p) (rkN l q) with c | c | c
  · exact c
  · have e : p = q := by rw [← rkN_at hp, ← rkN_at hq, c]
    rw [e, lsS_same] at h; cases h
  · have := sufN_less c (rkN_lt hp)
    rw [rkN_at hp, rkN_at hq] at this
    rw [lsS_asym this] at h; cases h
/-- Each place's prefix is at most one shorter than the one of the place ahead in the list. -/
theorem cp_next {l : List Int} {p : Nat} (hp : p + 1 < l.length) : cpN l (rkN l p) ≤ cpN l (rkN l (p + 1)) + 1 := by
  by_cases h0 : 0 < rkN l p
  · rw [cpN_rk (by omega) h0]
    have hj : aheadN l p < l.length := aheadN_lt (by omega)
    have hls := aheadN_less (l := l) (p := p) (by omega) h0
    have hs := cpS_step hj (show p < l.length by omega)
    by_cases e : nth l (aheadN l p) = nth l p
    · rw [if_pos e] at hs
      rw [lsS_step hj (by omega), if_pos e] at hls
      by_cases hj1 : aheadN l p + 1 < l.length
      · have hr := rkN_less hj1 hp hls
        have hq : 0 < rkN l (p + 1) := by omega
        rw [cpN_rk hp hq]
        by_cases hsame : rkN l (aheadN l p + 1) = rkN l (p + 1) - 1
        · have : aheadN l (p + 1) = aheadN l p + 1 := by unfold aheadN; rw [← hsame, rkN_at hj1]; rfl
          rw [this]; omega
        · have h1 := sufN_less (l := l) (i := rkN l (aheadN l p + 1)) (k := rkN l (p + 1) - 1) (by omega) (by have := rkN_lt hp; omega)
          rw [rkN_at hj1] at h1
          have h2 := aheadN_less hp hq
          have := cpS_min h1 h2
          have e3 : snth (sufN l) (rkN l (p + 1) - 1) = aheadN l (p + 1) := rfl
          rw [e3] at this
          omega
      · rw [cpS_endI (show l.length ≤ aheadN l p + 1 by omega)] at hs
        omega
    · rw [if_neg e] at hs; omega
  · have : rkN l p = 0 := by omega
    rw [this]
    simp [cpN]
/-- The last place has nothing in common with what stands ahead of it beyond one number. -/
theorem cp_last {l : List Int} {p : Nat} (hp : p + 1 = l.length) : cpN l (rkN l p) ≤ 1 := by
  by_cases h0 : 0 < rkN l p
  · rw [cpN_rk (by omega) h0]
    have := cpS_leK l (aheadN l p) p
    omega
  · have : rkN l p = 0 := by omega
    rw [this]
    simp [cpN]



end Go.Proofs.Ytokhclindfipbaa

namespace Go.Proofs.Ytokhclindfipbaa
open Go.RowKit

/-- The prefix of a place of the list; with how much its search begins; whether it ends at two numbers that differ. -/
def pfN (l : List Int) (p : Nat) : Nat := cpN l (rkN l p)
def pbN (l : List Int) (p : Nat) : Nat := if p = 0 then 0 else pfN l (p - 1) - 1
def pdN (l : List Int) (p : Nat) : Nat := if rkN l p = 0 then 0 else if max p (aheadN l p) + pfN l p < l.length then 1 else 0
def ccN (l : List Int) : Nat → Nat
  | 0 => 0
  | p + 1 => ccN l p + (pfN l p - pbN l p) + pdN l p
def ccI (l : List Int) : Int := ((ccN l l.length : Nat) : Int)
theorem pbN_le {l : List Int} {p : Nat} (hp : p < l.length) : pbN l p ≤ pfN l p := by
  unfold pbN
  by_cases h : p = 0
  · rw [if_pos h]; exact Nat.zero_le _
  · rw [if_neg h]
    have := cp_next (l := l) (p := p - 1) (by omega)
    rw [show p - 1 + 1 = p by omega] at this
    unfold pfN
    omega
theorem pbN_next (l : List Int) (p : Nat) : pbN l (p + 1) = pfN l p - 1 := by unfold pbN; rw [if_neg (by omega)]; rfl
theorem pbN_end (l : List Int) : pbN l l.length = 0 := by
  unfold pbN
  by_cases h : l.length = 0
  · rw [if_pos h]
  · rw [if_neg h]
    have := cp_last (l := l) (p := l.length - 1) (by omega)
    unfold pfN
    omega
theorem pfN_first {l : List Int} {p : Nat} (h : rkN l p = 0) : pfN l p = 0 := by unfold pfN; rw [h]; rfl
theorem rk_first {l : List Int} {p : Nat} (hp : p < l.length) : rkN l p = 0 ↔ snth (sufN l) 0 = p :=
  ⟨fun h => by rw [← h]; exact rkN_at hp, fun h => by rw [← h]; exact rkN_of (by omega)⟩
theorem cc_low {l : List Int} : ∀ {p : Nat}, p ≤ l.length → p + pbN l p ≤ ccN l p + (if snth (sufN l) 0 < p then 1 else 0)
  | 0, _ => by rw [if_neg (by omega)]; show 0 + pbN l 0 ≤ 0 + 0; unfold pbN; rw [if_pos rfl]; exact Nat.le_refl _
  | p + 1, hp => by
    have ih := cc_low (l := l) (p := p) (by omega)
    have hb := pbN_le (l := l) (p := p) (by omega)
    rw [pbN_next, ccN]
    by_cases h : rkN l p = 0
    · have h2 := (rk_first (show p < l.length by omega)).1 h
      have h3 := pfN_first h
      rw [if_pos (by omega)]
      rw [if_neg (by omega)] at ih
      omega
    · have h2 : ¬ snth (sufN l) 0 = p := fun e => h ((rk_first (show p < l.length by omega)).2 e)
      have h3 : (if snth (sufN l) 0 < p + 1 then 1 else 0) = (if snth (sufN l) 0 < p then 1 else 0) := by
        by_cases e : snth (sufN l) 0 < p
        · rw [if_pos e, if_pos (by omega)]
        · rw [if_neg e, if_neg (by omega)]
      rw [h3]
      have hd : pfN l p = 0 → pdN l p = 1 := fun e => by
        have := aheadN_lt (l := l) (p := p) (by omega)
        unfold pdN
        rw [if_neg h, if_pos (by omega)]
      omega
theorem pdN_le (l : List Int) (p : Nat) : pdN l p ≤ 1 := by
  unfold pdN
  by_cases h : rkN l p = 0
  · rw [if_pos h]; exact Nat.zero_le _
  · rw [if_neg h]
    by_cases h2 : max p (aheadN l p) + pfN l p < l.length
    · rw [if_pos h2]; exact Nat.le_refl _
    · rw [if_neg h2]; exact Nat.zero_le _
theorem cc_high {l : List Int} : ∀ {p : Nat}, p ≤ l.length → ccN l p ≤ 2 * p + pbN l p
  | 0, _ => by show 0 ≤ _; exact Nat.zero_le _
  | p + 1, hp => by
    have ih := cc_high (l := l) (p := p) (by omega)
    have hb := pbN_le (l := l) (p := p) (by omega)
    have hd := pdN_le l p
    rw [pbN_next, ccN]
    omega
theorem cc_ok (l : List Int) : (l.length : Int) - 1 ≤ ccI l ∧ 0 ≤ ccI l ∧ ccI l ≤ 2 * (l.length : Int) := by
  have h1 := cc_low (l := l) (p := l.length) (Nat.le_refl _)
  have h2 := cc_high (l := l) (p := l.length) (Nat.le_refl _)
  rw [pbN_end] at h1 h2
  unfold ccI
  have h3 : (if snth (sufN l) 0 < l.length then 1 else 0) ≤ 1 := by
    by_cases e : snth (sufN l) 0 < l.length
    · rw [if_pos e]; exact Nat.le_refl _
    · rw [if_neg e]; exact Nat.zero_le _
  omega
/-- Ways of the search. -/
theorem cp_stop {l : List Int} {p s : Nat} (hp : p < l.length) (hr : 0 < rkN l p) (hs : s ≤ pfN l p) (h : ¬ max p (aheadN l p) + s < l.length) : pfN l p = s := by
  have e : pfN l p = cpS l (aheadN l p) p := cpN_rk hp hr
  rw [e] at hs ⊢
  rw [cpS_from s hs]
  rcases Nat.le_total p (aheadN l p) with c | c
  · rw [cpS_endI (by omega)]; rfl
  · rw [cpS_endK (by omega)]; rfl
theorem cp_differ {l : List Int} {p s : Nat} (hp : p < l.length) (hr : 0 < rkN l p) (hs : s ≤ pfN l p) (h : max p (aheadN l p) + s < l.length) (hd : nth l (p + s) ≠ nth l (aheadN l p + s)) : pfN l p = s := by
  have e : pfN l p = cpS l (aheadN l p) p := cpN_rk hp hr
  rw [e] at hs ⊢
  rw [cpS_from s hs, cpS_step (by omega) (by omega), if_neg fun x => hd x.symm]; rfl
theorem cp_alike {l : List Int} {p s : Nat} (hp : p < l.length) (hr : 0 < rkN l p) (hs : s ≤ pfN l p) (h : max p (aheadN l p) + s < l.length) (hd : nth l (p + s) = nth l (aheadN l p + s)) : s + 1 ≤ pfN l p := by
  have e : pfN l p = cpS l (aheadN l p) p := cpN_rk hp hr
  rw [e] at hs ⊢
  rw [cpS_from s hs, cpS_step (by omega) (by omega), if_pos hd.symm]
  omega
theorem pdN_stop {l : List Int} {p : Nat} (hr : 0 < rkN l p) (h : ¬ max p (aheadN l p) + pfN l p < l.length) : pdN l p = 0 := by
  unfold pdN
  rw [if_neg (by omega), if_neg h]
theorem pdN_differ {l : List Int} {p : Nat} (hr : 0 < rkN l p) (h : max p (aheadN l p) + pfN l p < l.length) : pdN l p = 1 := by
  unfold pdN
  rw [if_neg (by omega), if_pos h]
theorem pdN_first {l : List Int} {p : Nat} (hr : rkN l p = 0) : pdN l p = 0 := if_pos hr
/-- The numbers of the array as they fill: p places of the list are done. -/
def cpV (l : List Int) (p r : Nat) : Int := if snth (sufN l) r < p then ((cpN l r : Nat) : Int) else 0
theorem cpV_zero (l : List Int) (r : Nat) : cpV l 0 r = 0 := if_neg (Nat.not_lt_zero _)
theorem cpV_put {l : List Int} {p r : Nat} (hp : p < l.length) (hr : r < l.length) : cpV l (p + 1) r = if r = rkN l p then ((pfN l p : Nat) : Int) else cpV l p r := by
  unfold cpV pfN
  by_cases e : r = rkN l p
  · rw [if_pos e, e, rkN_at hp, if_pos (by omega)]
  · rw [if_neg e]
    have : snth (sufN l) r ≠ p := fun x => e (by rw [← x, rkN_of hr])
    by_cases c : snth (sufN l) r < p
    · rw [if_pos c, if_pos (by omega)]
    · rw [if_neg c, if_neg (by omega)]
theorem cpV_first {l : List Int} {p r : Nat} (hp : p < l.length) (hr : r < l.length) (h : rkN l p = 0) : cpV l (p + 1) r = cpV l p r := by
  rw [cpV_put hp hr]
  by_cases e : r = rkN l p
  · rw [if_pos e, pfN_first h]
    unfold cpV
    rw [e, rkN_at hp, if_neg (by omega)]; rfl
  · rw [if_neg e]
theorem cpV_all {l : List Int} {r : Nat} (hr : r < l.length) : cpV l l.length r = nth (cpA l) r := by
  unfold cpV
  rw [if_pos (sufN_lt hr), cpA_nth hr]


end Go.Proofs.Ytokhclindfipbaa

namespace Go.Proofs.Ytokhclindfipbaa
open Go.RowKit

/-- The least of d + 1 numbers from a on. -/
def minR (p : List Int) (a : Nat) : Nat → Int
  | 0 => nth p a
  | d + 1 => min (minR p a d) (nth p (a + d + 1))
theorem minR_le (p : List Int) (a : Nat) : ∀ {d j : Nat}, a ≤ j → j ≤ a + d → minR p a d ≤ nth p j
  | 0, j, h1, h2 => by
    obtain rfl : j = a := by omega
    exact Int.le_refl _
  | d + 1, j, h1, h2 => by
    rw [minR]
    by_cases e : j = a + d + 1
    · subst e; exact Int.min_le_right _ _
    · exact Int.le_trans (Int.min_le_left _ _) (minR_le p a h1 (by omega))
theorem minR_mem (p : List Int) (a : Nat) : ∀ d : Nat, ∃ j, a ≤ j ∧ j ≤ a + d ∧ nth p j = minR p a d
  | 0 => ⟨a, Nat.le_refl _, Nat.le_refl _, rfl⟩
  | d + 1 => by
    obtain ⟨j, h1, h2, h3⟩ := minR_mem p a d
    rw [minR]
    by_cases e : minR p a d ≤ nth p (a + d + 1)
    · exact ⟨j, h1, by omega, by rw [h3, Int.min_eq_left e]⟩
    · exact ⟨a + d + 1, by omega, by omega, by rw [Int.min_eq_right (by omega)]⟩
theorem minR_uniq {p : List Int} {a d : Nat} {m : Int} (h1 : ∀ j, a ≤ j → j ≤ a + d → m ≤ nth p j) (h2 : ∃ j, a ≤ j ∧ j ≤ a + d ∧ nth p j = m) : m = minR p a d := by
  obtain ⟨j, a1, a2, a3⟩ := h2
  obtain ⟨k, b1, b2, b3⟩ := minR_mem p a d
  have := minR_le p a a1 a2
  have := h1 k b1 b2
  omega
theorem minR_drop (p : List Int) (a : Nat) : ∀ d : Nat, minR (p.drop a) 0 d = minR p a d
  | 0 => by rw [minR, minR, nth_dropS, Nat.add_zero]
  | d + 1 => by rw [minR, minR, minR_drop p a d, nth_dropS, show a + (0 + d + 1) = a + d + 1 by omega]
/-- Where the row around a place begins, and where it ends. -/
def grF (p : List Int) (L : Int) : Nat → Nat
  | 0 => 0
  | n + 1 => if L ≤ nth p (n + 1) then grF p L n else n + 1
def grT (p : List Int) (L : Int) : Nat → Nat → Nat
  | 0, t => t
  | d + 1, t => if L ≤ nth p t then grT p L d (t + 1) else t
theorem grF_le (p : List Int) (L : Int) : ∀ n : Nat, grF p L n ≤ n
  | 0 => Nat.le_refl _
  | n + 1 => by
    rw [grF]
    by_cases e : L ≤ nth p (n + 1)
    · rw [if_pos e]; have := grF_le p L n; omega
    · rw [if_neg e]; exact Nat.le_refl _
theorem grF_all (p : List Int) (L : Int) : ∀ {n j : Nat}, grF p L n < j → j ≤ n → L ≤ nth p j
  | 0, j, h1, h2 => by omega
  | n + 1, j, h1, h2 => by
    rw [grF] at h1
    by_cases e : L ≤ nth p (n + 1)
    · rw [if_pos e] at h1
      by_cases e2 : j = n + 1
      · rw [e2]; exact e
      · exact grF_all p L h1 (by omega)
    · rw [if_neg e] at h1; omega
theorem grF_end (p : List Int) (L : Int) : ∀ n : Nat, grF p L n = 0 ∨ nth p (grF p L n) < L
  | 0 => .inl rfl
  | n + 1 => by
    rw [grF]
    by_cases e : L ≤ nth p (n + 1)
    · rw [if_pos e]; exact grF_end p L n
    · rw [if_neg e]; exact .inr (by omega)
theorem grT_ge (p : List Int) (L : Int) : ∀ d t : Nat, t ≤ grT p L d t
  | 0, t => Nat.le_refl _
  | d + 1, t => by
    rw [grT]
    by_cases e : L ≤ nth p t
    · rw [if_pos e]; have := grT_ge p L d (t + 1); omega
    · rw [if_neg e]; exact Nat.le_refl _
theorem grT_le (p : List Int) (L : Int) : ∀ d t : Nat, grT p L d t ≤ t + d
  | 0, t => Nat.le_refl _
  | d + 1, t => by
    rw [grT]
    by_cases e : L ≤ nth p t
    · rw [if_pos e]; have := grT_le p L d (t + 1); omega
    · rw [if_neg e]; omega
theorem grT_all (p : List Int) (L : Int) : ∀ {d t j : Nat}, t ≤ j → j < grT p L d t → L ≤ nth p j
  | 0, t, j, h1, h2 => by rw [grT] at h2; omega
  | d + 1, t, j, h1, h2 => by
    rw [grT] at h2
    by_cases e : L ≤ nth p t
    · rw [if_pos e] at h2
      by_cases e2 : j = t
      · rw [e2]; exact e
      · exact grT_all p L (t := t + 1) (by omega) h2
    · rw [if_neg e] at h2; omega
theorem grT_end (p : List Int) (L : Int) : ∀ d t : Nat, grT p L d t = t + d ∨ nth p (grT p L d t) < L
  | 0, t => .inl rfl
  | d + 1, t => by
    rw [grT]
    by_cases e : L ≤ nth p t
    · rw [if_pos e]
      have := grT_end p L d (t + 1)
      rw [show t + (d + 1) = t + 1 + d by omega]
      exact this
    · rw [if_neg e]; exact .inr (by omega)
/-- The row of a length around a place of an array: just the suffixes that have so much in common with it. -/
theorem gr_row {l : List Int} {L i k : Nat} (hi : i < l.length) (hk : k < l.length) : (grF (cpA l) (L : Int) i ≤ k ∧ k < grT (cpA l) (L : Int) (l.length - (i + 1)) (i + 1)) ↔ (L ≤ cpS l (snth (sufN l) i) (snth (sufN l) k) ∨ i = k) := by
  have f0 := grF_le (cpA l) (L : Int) i
  have t0 := grT_ge (cpA l) (L : Int) (l.length - (i + 1)) (i + 1)
  rcases Nat.lt_trichotomy k i with c | c | c
  · rw [cpS_comm, cpS_row c hi]
    have hne : ¬ i = k := by omega
    constructor
    · rintro ⟨h, -⟩
      refine .inl fun j h1 h2 => ?_
      have := grF_all (cpA l) (L : Int) (n := i) (j := j) (by omega) h2
      rw [cpA_nth (by omega)] at this
      omega
    · rintro (h | h)
      · refine ⟨?_, by omega⟩
        rcases grF_end (cpA l) (L : Int) i with e | e
        · omega
        · by_cases hlt : k < grF (cpA l) (L : Int) i
          · have h1 := h _ hlt f0
            rw [cpA_nth (by omega)] at e
            omega
          · omega
      · exact absurd h hne
  · subst c
    exact ⟨fun _ => .inr rfl, fun _ => ⟨f0, by omega⟩⟩
  · rw [cpS_row c hk]
    have hne : ¬ i = k := by omega
    constructor
    · rintro ⟨-, h⟩
      refine .inl fun j h1 h2 => ?_
      have := grT_all (cpA l) (L : Int) (d := l.length - (i + 1)) (t := i + 1) (j := j) (by omega) (by omega)
      rw [cpA_nth (by omega)] at this
      omega
    · rintro (h | h)
      · refine ⟨by omega, ?_⟩
        rcases grT_end (cpA l) (L : Int) (l.length - (i + 1)) (i + 1) with e | e
        · omega
        · by_cases hlt : grT (cpA l) (L : Int) (l.length - (i + 1)) (i + 1) ≤ k
          · have h1 := h _ (by omega) hlt
            rw [cpA_nth (by omega)] at e
            omega
          · omega
      · exact absurd h hne
/-- The least between two places of an array: what their suffixes have in common. -/
theorem minR_cp {l : List Int} {i k : Nat} (hik : i < k) (hk : k < l.length) : minR (cpA l) (i + 1) (k - i - 1) = ((cpS l (snth (sufN l) i) (snth (sufN l) k) : Nat) : Int) := by
  refine (minR_uniq (fun j h1 h2 => ?_) ?_).symm
  · rw [cpA_nth (by omega)]
    have := (cpS_row (l := l) (n := cpS l (snth (sufN l) i) (snth (sufN l) k)) hik hk).1 (Nat.le_refl _) j (by omega) (by omega)
    omega
  · refine Classical.byContradiction fun hc => ?_
    have := (cpS_row (l := l) (n := cpS l (snth (sufN l) i) (snth (sufN l) k) + 1) hik hk).2 fun j h1 h2 => ?_
    · omega
    · have h3 := (cpS_row (l := l) (n := cpS l (snth (sufN l) i) (snth (sufN l) k)) hik hk).1 (Nat.le_refl _) j h1 h2
      have h4 : ¬ cpN l j = cpS l (snth (sufN l) i) (snth (sufN l) k) := fun e => hc ⟨j, by omega, by omega, by rw [cpA_nth (by omega), e]⟩
      omega
/-- What Least answers. -/
def leI (p : List Int) (i k : Int) : Int := if i < 0 ∨ k < 0 ∨ (p.length : Int) ≤ i ∨ (p.length : Int) ≤ k then 0 else if i = k then -1 else minR p (min i.toNat k.toNat + 1) (max i.toNat k.toNat - min i.toNat k.toNat - 1)
def leE (p : List Int) (i k : Int) : Int := if i < 0 ∨ k < 0 ∨ (p.length : Int) ≤ i ∨ (p.length : Int) ≤ k then 1 else 0
/-- What Group answers. -/
def gpF (p : List Int) (i L : Int) : Int := if i < 0 ∨ (p.length : Int) ≤ i ∨ L < 0 then 0 else ((grF p L i.toNat : Nat) : Int)
def gpT (p : List Int) (i L : Int) : Int := if i < 0 ∨ (p.length : Int) ≤ i ∨ L < 0 then 0 else ((grT p L (p.length - (i.toNat + 1)) (i.toNat + 1) : Nat) : Int)
def gpE (p : List Int) (i L : Int) : Int := if i < 0 ∨ (p.length : Int) ≤ i ∨ L < 0 then 1 else 0
theorem leI_cp {l : List Int} {i k : Nat} (hi : i < l.length) (hk : k < l.length) (h : i ≠ k) : leI (cpA l) (i : Int) (k : Int) = ((cpS l (snth (sufN l) i) (snth (sufN l) k) : Nat) : Int) := by
  unfold leI
  rw [cpA_len, if_neg (by omega), if_neg (by omega)]
  simp only [Int.toNat_natCast]
  rcases Nat.lt_or_gt_of_ne h with c | c
  · rw [Nat.min_eq_left (by omega), Nat.max_eq_right (by omega)]
    exact minR_cp c hk
  · rw [Nat.min_eq_right (by omega), Nat.max_eq_left (by omega), cpS_comm]
    exact minR_cp c hi
theorem leI_same {p : List Int} {i : Nat} (hi : i < p.length) : leI p (i : Int) (i : Int) = -1 := by
  unfold leI
  rw [if_neg (by omega), if_pos rfl]
theorem leE_ok {p : List Int} {i k : Nat} (hi : i < p.length) (hk : k < p.length) : leE p (i : Int) (k : Int) = 0 := by
  unfold leE
  rw [if_neg (by omega)]
theorem gp_ok {p : List Int} {i : Nat} {L : Int} (hi : i < p.length) (hL : 0 ≤ L) : gpF p (i : Int) L = ((grF p L i : Nat) : Int) ∧ gpT p (i : Int) L = ((grT p L (p.length - (i + 1)) (i + 1) : Nat) : Int) ∧ gpE p (i : Int) L = 0 := by
  unfold gpF gpT gpE
  rw [if_neg (by omega), if_neg (by omega), if_neg (by omega)]
  simp


end Go.Proofs.Ytokhclindfipbaa
