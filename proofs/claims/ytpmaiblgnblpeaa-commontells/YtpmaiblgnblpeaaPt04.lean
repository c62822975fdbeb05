/-
  Plain: the least between two places, the row around one; of an array: what suffixes have in common. Plain: what the prefixes cost, each found from the one of the place ahead in the list.
-/
import Derived.Test.YtpmaiblgnblpeaaProg
import Derived.WalkKit
import Derived.WalkSpells
import Derived.WalkLawsBesides
import Derived.RowKit3
import Derived.Below
import Derived.Deep.QuietTactic
import Derived.BigQuiet
import Derived.WalkSmall
import Derived.Laws.Rows
import Derived.Test.YtpmaiblgnblpeaaPt03
namespace Go.Proofs.Ytpmaiblgnblpeaa
open Go.RowKit

/-- The least of d + 1 numbers from a on. -/
def minR (p : List Int) (a : Nat) : Nat → Int
  | 0 => nth p a
  | d + 1 => min (minR p a d) (nth p (a + d + 1))
theorem minR_le (p : List Int) (a : Nat) : ∀ {d j : Nat}, a ≤ j → j ≤ a + d → minR p a d ≤ nth p j
  | 0, j, h1, h2 => by
    obtain rfl : j = a := by omega
    exact Int.le_refl _
  | d + 1, j, h1, h2 => by
    rw [minR]
    by_cases e : j = a + d + 1
    · subst e; exact Int.min_le_right _ _
    · exact Int.le_trans (Int.min_le_left _ _) (minR_le p a h1 (by omega))
theorem minR_mem (p : List Int) (a : Nat) : ∀ d : Nat, ∃ j, a ≤ j ∧ j ≤ a + d ∧ nth p j = minR p a d
  | 0 => ⟨a, Nat.le_refl _, Nat.le_refl _, rfl⟩
  | d + 1 => by
    obtain ⟨j, h1, h2, h3⟩ := minR_mem p a d
    rw [minR]
    by_cases e : minR p a d ≤ nth p (a + d + 1)
    · exact ⟨j, h1, by omega, by rw [h3, Int.min_eq_left e]⟩
    · exact ⟨a + d + 1, by omega, by omega, by rw [Int.min_eq_right (by omega)]⟩
theorem minR_uniq {p : List Int} {a d : Nat} {m : Int} (h1 : ∀ j, a ≤ j → j ≤ a + d → m ≤ nth p j) (h2 : ∃ j, a ≤ j ∧ j ≤ a + d ∧ nth p j = m) : m = minR p a d := by
  obtain ⟨j, a1, a2, a3⟩ := h2
  obtain ⟨k, b1, b2, b3⟩ := minR_mem p a d
  have := minR_le p a a1 a2
  have := h1 k b1 b2
  omega
theorem minR_drop (p : List Int) (a : Nat) : ∀ d : Nat, minR (p.drop a) 0 d = minR p a d
  | 0 => by rw [minR, minR, nth_dropS, Nat.add_zero]
  | d + 1 => by rw [minR, minR, minR_drop p a d, nth_dropS, show a + (0 + d + 1) = a + d + 1 by omega]
/-- Where the row around a place begins, and where it ends. -/
def grF (p : List Int) (L : Int) : Nat → Nat
  | 0 => 0
  | n + 1 => if L ≤ nth p (n + 1) then grF p L n else n + 1
def grT (p : List Int) (L : Int) : Nat → Nat → Nat
  | 0, t => t
  | d + 1, t => if L ≤ nth p t then grT p L d (t + 1) else t
theorem grF_le (p : List Int) (L : Int) : ∀ n : Nat, grF p L n ≤ n
  | 0 => Nat.le_refl _
  | n + 1 => by
    rw [grF]
    by_cases e : L ≤ nth p (n + 1)
    · rw [if_pos e]; have := grF_le p L n; omega
    · rw [if_neg e]; exact Nat.le_refl _
theorem grF_all (p : List Int) (L : Int) : ∀ {n j : Nat}, grF p L n < j → j ≤ n → L ≤ nth p j
  | 0, j, h1, h2 => by omega
  | n + 1, j, h1, h2 => by
    rw [grF] at h1
    by_cases e : L ≤ nth p (n + 1)
    · rw [if_pos e] at h1
      by_cases e2 : j = n + 1
      · rw [e2]; exact e
      · exact grF_all p L h1 (by omega)
    · rw [if_neg e] at h1; omega
theorem grF_end (p : List Int) (L : Int) : ∀ n : Nat, grF p L n = 0 ∨ nth p (grF p L n) < L
  | 0 => .inl rfl
  | n + 1 => by
    rw [grF]
    by_cases e : L ≤ nth p (n + 1)
    · rw [if_pos e]; exact grF_end p L n
    · rw [if_neg e]; exact .inr (by omega)
theorem grT_ge (p : List Int) (L : Int) : ∀ d t : Nat, t ≤ grT p L d t
  | 0, t => Nat.le_refl _
  | d + 1, t => by
    rw [grT]
    by_cases e : L ≤ nth p t
    · rw [if_pos e]; have := grT_ge p L d (t + 1); omega
    · rw [if_neg e]; exact Nat.le_refl _
theorem grT_le (p : List Int) (L : Int) : ∀ d t : Nat, grT p L d t ≤ t + d
  | 0, t => Nat.le_refl _
  | d + 1, t => by
    rw [grT]
    by_cases e : L ≤ nth p t
    · rw [if_pos e]; have := grT_le p L d (t + 1); omega
    · rw [if_neg e]; omega
theorem grT_all (p : List Int) (L : Int) : ∀ {d t j : Nat}, t ≤ j → j < grT p L d t → L ≤ nth p j
  | 0, t, j, h1, h2 => by rw [grT] at h2; omega
  | d + 1, t, j, h1, h2 => by
    rw [grT] at h2
    by_cases e : L ≤ nth p t
    · rw [if_pos e] at h2
      by_cases e2 : j = t
      · rw [e2]; exact e
      · exact grT_all p L (t := t + 1) (by omega) h2
    · rw [if_neg e] at h2; omega
theorem grT_end (p : List Int) (L : Int) : ∀ d t : Nat, grT p L d t = t + d ∨ nth p (grT p L d t) < L
  | 0, t => .inl rfl
  | d + 1, t => by
    rw [grT]
    by_cases e : L ≤ nth p t
    · rw [if_pos e]
      have := grT_end p L d (t + 1)
      rw [show t + (d + 1) = t + 1 + d by omega]
      exact this
    · rw [if_neg e]; exact .inr (by omega)
/-- The row of a length around a place of an array: just the suffixes that have so much in common with it. -/
theorem gr_row {l : List Int} {L i k : Nat} (hi : i < l.length) (hk : k < l.length) : (grF (cpA l) (L : Int) i ≤ k ∧ k < grT (cpA l) (L : Int) (l.length - (i + 1)) (i + 1)) ↔ (L ≤ cpS l (snth (sufN l) i) (snth (sufN l) k) ∨ i = k) := by
  have f0 := grF_le (cpA l) (L : Int) i
  have t0 := grT_ge (cpA l) (L : Int) (l.length - (i + 1)) (i + 1)
  rcases Nat.lt_trichotomy k i with c | c | c
  · rw [cpS_comm, cpS_row c hi]
    have hne : ¬ i = k := by omega
    constructor
    · rintro ⟨h, -⟩
      refine .inl fun j h1 h2 => ?_
      have := grF_all (cpA l) (L : Int) (n := i) (j := j) (by omega) h2
      rw [cpA_nth (by omega)] at this
      omega
    · rintro (h | h)
      · refine ⟨?_, by omega⟩
        rcases grF_end (cpA l) (L : Int) i with e | e
        · omega
        · by_cases hlt : k < grF (cpA l) (L : Int) i
          · have h1 := h _ hlt f0
            rw [cpA_nth (by omega)] at e
            omega
          · omega
      · exact absurd h hne
  · subst c
    exact ⟨fun _ => .inr rfl, fun _ => ⟨f0, by omega⟩⟩
  · rw [cpS_row c hk]
    have hne : ¬ i = k := by omega
    constructor
    · rintro ⟨-, h⟩
      refine .inl fun j h1 h2 => ?_
      have := grT_all (cpA l) (L : Int) (d := l.length - (i + 1)) (t := i + 1) (j := j) (by omega) (by omega)
      rw [cpA_nth (by omega)] at this
      omega
    · rintro (h | h)
      · refine ⟨by omega, ?_⟩
        rcases grT_end (cpA l) (L : Int) (l.length - (i + 1)) (i + 1) with e | e
        · omega
        · by_cases hlt : grT (cpA l) (L : Int) (l.length - (i + 1)) (i + 1) ≤ k
          · have h1 := h _ (by omega) hlt
            rw [cpA_nth (by omega)] at e
            omega
          · omega
      · exact absurd h hne
/-- The least between two places of an array: what their suffixes have in common. -/
theorem minR_cp {l : List Int} {i k : Nat} (hik : i < k) (hk : k < l.length) : minR (cpA l) (i + 1) (k - i - 1) = ((cpS l (snth (sufN l) i) (snth (sufN l) k) : Nat) : Int) := by
  refine (minR_uniq (fun j h1 h2 => ?_) ?_).symm
  · rw [cpA_nth (by omega)]
    have := (cpS_row (l := l) (n := cpS l (snth (sufN l) i) (snth (sufN l) k)) hik hk).1 (Nat.le_refl _) j (by omega) (by omega)
    omega
  · refine Classical.byContradiction fun hc => ?_
    have := (cpS_row (l := l) (n := cpS l (snth (sufN l) i) (snth (sufN l) k) + 1) hik hk).2 fun j h1 h2 => ?_
    · omega
    · have h3 := (cpS_row (l := l) (n := cpS l (snth (sufN l) i) (snth (sufN l) k)) hik hk).1 (Nat.le_refl _) j h1 h2
      have h4 : ¬ cpN l j = cpS l (snth (sufN l) i) (snth (sufN l) k) := fun e => hc ⟨j, by omega, by omega, by rw [cpA_nth (by omega), e]⟩
      omega
/-- What Least answers. -/
def leI (p : List Int) (i k : Int) : Int := if i < 0 ∨ k < 0 ∨ (p.length : Int) ≤ i ∨ (p.length : Int) ≤ k then 0 else if i = k then -1 else minR p (min i.toNat k.toNat + 1) (max i.toNat k.toNat - min i.toNat k.toNat - 1)
def leE (p : List Int) (i k : Int) : Int := if i < 0 ∨ k < 0 ∨ (p.length : Int) ≤ i ∨ (p.length : Int) ≤ k then 1 else 0
/-- What Group answers. -/
def gpF (p : List Int) (i L : Int) : Int := if i < 0 ∨ (p.length : Int) ≤ i ∨ L < 0 then 0 else ((grF p L i.toNat : Nat) : Int)
def gpT (p : List Int) (i L : Int) : Int := if i < 0 ∨ (p.length : Int) ≤ i ∨ L < 0 then 0 else ((grT p L (p.length - (i.toNat + 1)) (i.toNat + 1) : Nat) : Int)
def gpE (p : List Int) (i L : Int) : Int := if i < 0 ∨ (p.length : Int) ≤ i ∨ L < 0 then 1 else 0
theorem leI_cp {l : List Int} {i k : Nat} (hi : i < l.length) (hk : k < l.length) (h : i ≠ k) : leI (cpA l) (i : Int) (k : Int) = ((cpS l (snth (sufN l) i) (snth (sufN l) k) : Nat) : Int) := by
  unfold leI
  rw [cpA_len, if_neg (by omega), if_neg (by omega)]
  simp only [Int.toNat_natCast]
  rcases Nat.lt_or_gt_of_ne h with c | c
  · rw [Nat.min_eq_left (by omega), Nat.max_eq_right (by omega)]
    exact minR_cp c hk
  · rw [Nat.min_eq_right (by omega), Nat.max_eq_left (by omega), cpS_comm]
    exact minR_cp c hi
theorem leI_same {p : List Int} {i : Nat} (hi : i < p.length) : leI p (i : Int) (i : Int) = -1 := by
  unfold leI
  rw [if_neg (by omega), if_pos rfl]
theorem leE_ok {p : List Int} {i k : Nat} (hi : i < p.length) (hk : k < p.length) : leE p (i : Int) (k : Int) = 0 := by
  unfold leE
  rw [if_neg (by omega)]
theorem gp_ok {p : List Int} {i : Nat} {L : Int} (hi : i < p.length) (hL : 0 ≤ L) : gpF p (i : Int) L = ((grF p L i : Nat) : Int) ∧ gpT p (i : Int) L = ((grT p L (p.length - (i + 1)) (i + 1) : Nat) : Int) ∧ gpE p (i : Int) L = 0 := by
  unfold gpF gpT gpE
  rw [if_neg (by omega), if_neg (by omega), if_neg (by omega)]
  simp

end Go.Proofs.Ytpmaiblgnblpeaa

namespace Go.Proofs.Ytpmaiblgnblpeaa
open Go.RowKit

/-- The prefix of a place of the list; with how much its search begins; whether it ends at two numbers that differ. -/
def pfN (l : List Int) (p : Nat) : Nat := cpN l (rkN l p)
def pbN (l : List Int) (p : Nat) : Nat := if p = 0 then 0 else pfN l (p - 1) - 1
def pdN (l : List Int) (p : Nat) : Nat := if rkN l p = 0 then 0 else if max p (aheadN l p) + pfN l p < l.length then 1 else 0
def ccN (l : List Int) : Nat → Nat
  | 0 => 0
  | p + 1 => ccN l p + (pfN l p - pbN l p) + pdN l p
def ccI (l : List Int) : Int := ((ccN l l.length : Nat) : Int)
theorem pbN_le {l : List Int} {p : Nat} (hp : p < l.length) : pbN l p ≤ pfN l p := by
  unfold pbN
  by_cases h : p = 0
  · rw [if_pos h]; exact Nat.zero_le _
  · rw [if_neg h]
    have := cp_next (l := l) (p := p - 1) (by omega)
    rw [show p - 1 + 1 = p by omega] at this
    unfold pfN
    omega
theorem pbN_next (l : List Int) (p : Nat) : pbN l (p + 1) = pfN l p - 1 := by unfold pbN; rw [if_neg (by omega)]; rfl
theorem pbN_end (l : List Int) : pbN l l.length = 0 := by
  unfold pbN
  by_cases h : l.length = 0
  · rw [if_pos h]
  · rw [if_neg h]
    have := cp_last (l := l) (p := l.length - 1) (by omega)
    unfold pfN
    omega
theorem pfN_first {l : List Int} {p : Nat} (h : rkN l p = 0) : pfN l p = 0 := by unfold pfN; rw [h]; rfl
theorem rk_first {l : List Int} {p : Nat} (hp : p < l.length) : rkN l p = 0 ↔ snth (sufN l) 0 = p :=
  ⟨fun h => by rw [← h]; exact rkN_at hp, fun h => by rw [← h]; exact rkN_of (by omega)⟩
theorem cc_low {l : List Int} : ∀ {p : Nat}, p ≤ l.length → p + pbN l p ≤ ccN l p + (if snth (sufN l) 0 < p then 1 else 0)
  | 0, _ => by rw [if_neg (by omega)]; show 0 + pbN l 0 ≤ 0 + 0; unfold pbN; rw [if_pos rfl]; exact Nat.le_refl _
  | p + 1, hp => by
    have ih := cc_low (l := l) (p := p) (by omega)
    have hb := pbN_le (l := l) (p := p) (by omega)
    rw [pbN_next, ccN]
    by_cases h : rkN l p = 0
    · have h2 := (rk_first (show p < l.length by omega)).1 h
      have h3 := pfN_first h
      rw [if_pos (by omega)]
      rw [if_neg (by omega)] at ih
      omega
    · have h2 : ¬ snth (sufN l) 0 = p := fun e => h ((rk_first (show p < l.length by omega)).2 e)
      have h3 : (if snth (sufN l) 0 < p + 1 then 1 else 0) = (if snth (sufN l) 0 < p then 1 else 0) := by
        by_cases e : snth (sufN l) 0 < p
        · rw [if_pos e, if_pos (by omega)]
        · rw [if_neg e, if_neg (by omega)]
      rw [h3]
      have hd : pfN l p = 0 → pdN l p = 1 := fun e => by
        have := aheadN_lt (l := l) (p := p) (by omega)
        unfold pdN
        rw [if_neg h, if_pos (by omega)]
      omega
theorem pdN_le (l : List Int) (p : Nat) : pdN l p ≤ 1 := by
  unfold pdN
  by_cases h : rkN l p = 0
  · rw [if_pos h]; exact Nat.zero_le _
  · rw [if_neg h]
    by_cases h2 : max p (aheadN l p) + pfN l p < l.length
    · rw [if_pos h2]; exact Nat.le_refl _
    · rw [if_neg h2]; exact Nat.zero_le _
theorem cc_high {l : List Int} : ∀ {p : Nat}, p ≤ l.length → ccN l p ≤ 2 * p + pbN l p
  | 0, _ => by show 0 ≤ _; exact Nat.zero_le _
  | p + 1, hp => by
    have ih := cc_high (l := l) (p := p) (by omega)
    have hb := pbN_le (l := l) (p := p) (by omega)
    have hd := pdN_le l p
    rw [pbN_next, ccN]
    omega
theorem cc_ok (l : List Int) : (l.length : Int) - 1 ≤ ccI l ∧ 0 ≤ ccI l ∧ ccI l ≤ 2 * (l.length : Int) := by
  have h1 := cc_low (l := l) (p := l.length) (Nat.le_refl _)
  have h2 := cc_high (l := l) (p := l.length) (Nat.le_refl _)
  rw [pbN_end] at h1 h2
  unfold ccI
  have h3 : (if snth (sufN l) 0 < l.length then 1 else 0) ≤ 1 := by
    by_cases e : snth (sufN l) 0 < l.length
    · rw [if_pos e]; exact Nat.le_refl _
    · rw [if_neg e]; exact Nat.zero_le _
  omega
/-- Ways of the search. -/
theorem cp_stop {l : List Int} {p s : Nat} (hp : p < l.length) (hr : 0 < rkN l p) (hs : s ≤ pfN l p) (h : ¬ max p (aheadN l p) + s < l.length) : pfN l p = s := by
  have e : pfN l p = cpS l (aheadN l p) p := cpN_rk hp hr
  rw [e] at hs ⊢
  rw [cpS_from s hs]
  rcases Nat.le_total p (aheadN l p) with c | c
  · rw [cpS_endI (by omega)]; rfl
  · rw [cpS_endK (by omega)]; rfl
theorem cp_differ {l : List Int} {p s : Nat} (hp : p < l.length) (hr : 0 < rkN l p) (hs : s ≤ pfN l p) (h : max p (aheadN l p) + s < l.length) (hd : nth l (p + s) ≠ nth l (aheadN l p + s)) : pfN l p = s := by
  have e : pfN l p = cpS l (aheadN l p) p := cpN_rk hp hr
  rw [e] at hs ⊢
  rw [cpS_from s hs, cpS_step (by omega) (by omega), if_neg fun x => hd x.symm]; rfl
theorem cp_alike {l : List Int} {p s : Nat} (hp : p < l.length) (hr : 0 < rkN l p) (hs : s ≤ pfN l p) (h : max p (aheadN l p) + s < l.length) (hd : nth l (p + s) = nth l (aheadN l p + s)) : s + 1 ≤ pfN l p := by
  have e : pfN l p = cpS l (aheadN l p) p := cpN_rk hp hr
  rw [e] at hs ⊢
  rw [cpS_from s hs, cpS_step (by omega) (by omega), if_pos hd.symm]
  omega
theorem pdN_stop {l : List Int} {p : Nat} (hr : 0 < rkN l p) (h : ¬ max p (aheadN l p) + pfN l p < l.length) : pdN l p = 0 := by
  unfold pdN
  rw [if_neg (by omega), if_neg h]
theorem pdN_differ {l : List Int} {p : Nat} (hr : 0 < rkN l p) (h : max p (aheadN l p) + pfN l p < l.length) : pdN l p = 1 := by
  unfold pdN
  rw [if_neg (by omega), if_pos h]
theorem pdN_first {l : List Int} {p : Nat} (hr : rkN l p = 0) : pdN l p = 0 := if_pos hr
/-- The numbers of the array as they fill: p places of the list are done. -/
def cpV (l : List Int) (p r : Nat) : Int := if snth (sufN l) r < p then ((cpN l r : Nat) : Int) else 0
theorem cpV_zero (l : List Int) (r : Nat) : cpV l 0 r = 0 := if_neg (Nat.not_lt_zero _)
theorem cpV_put {l : List Int} {p r : Nat} (hp : p < l.length) (hr : r < l.length) : cpV l (p + 1) r = if r = rkN l p then ((pfN l p : Nat) : Int) else cpV l p r := by
  unfold cpV pfN
  by_cases e : r = rkN l p
  · rw [if_pos e, e, rkN_at hp, if_pos (by omega)]
  · rw [if_neg e]
    have : snth (sufN l) r ≠ p := fun x => e (by rw [← x, rkN_of hr])
    by_cases c : snth (sufN l) r < p
    · rw [if_pos c, if_pos (by omega)]
    · rw [if_neg c, if_neg (by omega)]
theorem cpV_first {l : List Int} {p r : Nat} (hp : p < l.length) (hr : r < l.length) (h : rkN l p = 0) : cpV l (p + 1) r = cpV l p r := by
  rw [cpV_put hp hr]
  by_cases e : r = rkN l p
  · rw [if_pos e, pfN_first h]
    unfold cpV
    rw [e, rkN_at hp, if_neg (by omega)]; rfl
  · rw [if_neg e]
theorem cpV_all {l : List Int} {r : Nat} (hr : r < l.length) : cpV l l.length r = nth (cpA l) r := by
  unfold cpV
  rw [if_pos (sufN_lt hr), cpA_nth hr]

end Go.Proofs.Ytpmaiblgnblpeaa
