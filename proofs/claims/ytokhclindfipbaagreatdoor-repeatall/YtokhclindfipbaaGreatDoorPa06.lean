/-
  Plain: what the prefixes cost, each found from the one of the place ahead in the list. Plain: the least between two places, the row around one; of an array: what suffixes have in common. Worlds that part in one block alone; no Go in sight. Rows of numbers as lists lie in memory; an image of its own memory; no Go in sight.
-/
import Derived.Test.YtokhclindfipbaaGreatDoorProg
import Derived.WalkKit
import Derived.WalkSpells
import Derived.WalkLawsBesides
import Derived.RowKit3
import Derived.Below
import Derived.Deep.QuietTactic
import Derived.BigQuiet
import Derived.WalkSmall
import Derived.Laws.Rows
import Derived.Test.YtokhclindfipbaaGreatDoorPa04
import Derived.Test.YtokhclindfipbaaGreatDoorPa01
import Derived.Laws.OwnMore
import Derived.Test.YtokhclindfipbaaGreatDoorPa02
namespace Go.Proofs.YtokhclindfipbaaGreatDoor
open Go.RowKit

/-- The prefix of a place of the list; with how much its search begins; whether it ends at two numbers that differ. -/
def pfN (l : List Int) (p : Nat) : Nat := cpN l (rkN l p)
def pbN (l : List Int) (p : Nat) : Nat := if p = 0 then 0 else pfN l (p - 1) - 1
def pdN (l : List Int) (p : Nat) : Nat := if rkN l p = 0 then 0 else if max p (aheadN l p) + pfN l p < l.length then 1 else 0
def ccN (l : List Int) : Nat → Nat
  | 0 => 0
  | p + 1 => ccN l p + (pfN l p - pbN l p) + pdN l p
def ccI (l : List Int) : Int := ((ccN l l.length : Nat) : Int)
theorem pbN_le {l : List Int} {p : Nat} (hp : p < l.length) : pbN l p ≤ pfN l p := by
  unfold pbN
  by_cases h : p = 0
  · rw [if_pos h]; exact Nat.zero_le _
  · rw [if_neg h]
    have := cp_next (l := l) (p := p - 1) (by omega)
    rw [show p - 1 + 1 = p by omega] at this
    unfold pfN
    omega
theorem pbN_next (l : List Int) (p : Nat) : pbN l (p + 1) = pfN l p - 1 := by unfold pbN; rw [if_neg (by omega)]; rfl
theorem pbN_end (l : List Int) : pbN l l.length = 0 := by
  unfold pbN
  by_cases h : l.length = 0
  · rw [if_pos h]
  · rw [if_neg h]
    have := cp_last (l := l) (p := l.length - 1) (by omega)
    unfold pfN
    omega
theorem pfN_first {l : List Int} {p : Nat} (h : rkN l p = 0) : pfN l p = 0 := by unfold pfN; rw [h]; rfl
theorem rk_first {l : List Int} {p : Nat} (hp : p < l.length) : rkN l p = 0 ↔ snth (sufN l) 0 = p :=
  ⟨fun h => by rw [← h]; exact rkN_at hp, fun h => by rw [← h]; exact rkN_of (by omega)⟩
theorem cc_low {l : List Int} : ∀ {p : Nat}, p ≤ l.length → p + pbN l p ≤ ccN l p + (if snth (sufN l) 0 < p then 1 else 0)
  | 0, _ => by rw [if_neg (by omega)]; show 0 + pbN l 0 ≤ 0 + 0; unfold pbN; rw [if_pos rfl]; exact Nat.le_refl _
  | p + 1, hp => by
    have ih := cc_low (l := l) (p := p) (by omega)
    have hb := pbN_le (l := l) (p := p) (by omega)
    rw [pbN_next, ccN]
    by_cases h : rkN l p = 0
    · have h2 := (rk_first (show p < l.length by omega)).1 h
      have h3 := pfN_first h
      rw [if_pos (by omega)]
      rw [if_neg (by omega)] at ih
      omega
    · have h2 : ¬ snth (sufN l) 0 = p := fun e => h ((rk_first (show p < l.length by omega)).2 e)
      have h3 : (if snth (sufN l) 0 < p + 1 then 1 else 0) = (if snth (sufN l) 0 < p then 1 else 0) := by
        by_cases e : snth (sufN l) 0 < p
        · rw [if_pos e, if_pos (by omega)]
        · rw [if_neg e, if_neg (by omega)]
      rw [h3]
      have hd : pfN l p = 0 → pdN l p = 1 := fun e => by
        have := aheadN_lt (l := l) (p := p) (by omega)
        unfold pdN
        rw [if_neg h, if_pos (by omega)]
      omega
theorem pdN_le (l : List Int) (p : Nat) : pdN l p ≤ 1 := by
  unfold pdN
  by_cases h : rkN l p = 0
  · rw [if_pos h]; exact Nat.zero_le _
  · rw [if_neg h]
    by_cases h2 : max p (aheadN l p) + pfN l p < l.length
    · rw [if_pos h2]; exact Nat.le_refl _
    · rw [if_neg h2]; exact Nat.zero_le _
theorem cc_high {l : List Int} : ∀ {p : Nat}, p ≤ l.length → ccN l p ≤ 2 * p + pbN l p
  | 0, _ => by show 0 ≤ _; exact Nat.zero_le _
  | p + 1, hp => by
    have ih := cc_high (l := l) (p := p) (by omega)
    have hb := pbN_le (l := l) (p := p) (by omega)
    have hd := pdN_le l p
    rw [pbN_next, ccN]
    omega
theorem cc_ok (l : List Int) : (l.length : Int) - 1 ≤ ccI l ∧ 0 ≤ ccI l ∧ ccI l ≤ 2 * (l.length : Int) := by
  have h1 := cc_low (l := l) (p := l.length) (Nat.le_refl _)
  have h2 := cc_high (l := l) (p := l.length) (Nat.le_refl _)
  rw [pbN_end] at h1 h2
  unfold ccI
  have h3 : (if snth (sufN l) 0 < l.length then 1 else 0) ≤ 1 := by
    by_cases e : snth (sufN l) 0 < l.length
    · rw [if_pos e]; exact Nat.le_refl _
    · rw [if_neg e]; exact Nat.zero_le _
  omega
/-- Ways of the search. -/
theorem cp_stop {l : List Int} {p s : Nat} (hp : p < l.length) (hr : 0 < rkN l p) (hs : s ≤ pfN l p) (h : ¬ max p (aheadN l p) + s < l.length) : pfN l p = s := by
  have e : pfN l p = cpS l (aheadN l p) p := cpN_rk hp hr
  rw [e] at hs ⊢
  rw [cpS_from s hs]
  rcases Nat.le_total p (aheadN l p) with c | c
  · rw [cpS_endI (by omega)]; rfl
  · rw [cpS_endK (by omega)]; rfl
theorem cp_differ {l : List Int} {p s : Nat} (hp : p < l.length) (hr : 0 < rkN l p) (hs : s ≤ pfN l p) (h : max p (aheadN l p) + s < l.length) (hd : nth l (p + s) ≠ nth l (aheadN l p + s)) : pfN l p = s := by
  have e : pfN l p = cpS l (aheadN l p) p := cpN_rk hp hr
  rw [e] at hs ⊢
  rw [cpS_from s hs, cpS_step (by omega) (by omega), if_neg fun x => hd x.symm]; rfl
theorem cp_alike {l : List Int} {p s : Nat} (hp : p < l.length) (hr : 0 < rkN l p) (hs : s ≤ pfN l p) (h : max p (aheadN l p) + s < l.length) (hd : nth l (p + s) = nth l (aheadN l p + s)) : s + 1 ≤ pfN l p := by
  have e : pfN l p = cpS l (aheadN l p) p := cpN_rk hp hr
  rw [e] at hs ⊢
  rw [cpS_from s hs, cpS_step (by omega) (by omega), if_pos hd.symm]
  omega
theorem pdN_stop {l : List Int} {p : Nat} (hr : 0 < rkN l p) (h : ¬ max p (aheadN l p) + pfN l p < l.length) : pdN l p = 0 := by
  unfold pdN
  rw [if_neg (by omega), if_neg h]
theorem pdN_differ {l : List Int} {p : Nat} (hr : 0 < rkN l p) (h : max p (aheadN l p) + pfN l p < l.length) : pdN l p = 1 := by
  unfold pdN
  rw [if_neg (by omega), if_pos h]
theorem pdN_first {l : List Int} {p : Nat} (hr : rkN l p = 0) : pdN l p = 0 := if_pos hr
/-- The numbers of the array as they fill: p places of the list are done. -/
def cpV (l : List Int) (p r : Nat) : Int := if snth (sufN l) r < p then ((cpN l r : Nat) : Int) else 0
theorem cpV_zero (l : List Int) (r : Nat) : cpV l 0 r = 0 := if_neg (Nat.not_lt_zero _)
theorem cpV_put {l : List Int} {p r : Nat} (hp : p < l.length) (hr : r < l.length) : cpV l (p + 1) r = if r = rkN l p then ((pfN l p : Nat) : Int) else cpV l p r := by
  unfold cpV pfN
  by_cases e : r = rkN l p
  · rw [if_pos e, e, rkN_at hp, if_pos (by omega)]
  · rw [if_neg e]
    have : snth (sufN l) r ≠ p := fun x => e (by rw [← x, rkN_of hr])
    by_cases c : snth (sufN l) r < p
    · rw [if_pos c, if_pos (by omega)]
    · rw [if_neg c, if_neg (by omega)]
theorem cpV_first {l : List Int} {p r : Nat} (hp : p < l.length) (hr : r < l.length) (h : rkN l p = 0) : cpV l (p + 1) r = cpV l p r := by
  rw [cpV_put hp hr]
  by_cases e : r = rkN l p
  · rw [if_pos e, pfN_first h]
    unfold cpV
    rw [e, rkN_at hp, if_neg (by omega)]; rfl
  · rw [if_neg e]
theorem cpV_all {l : List Int} {r : Nat} (hr : r < l.length) : cpV l l.length r = nth (cpA l) r := by
  unfold cpV
  rw [if_pos (sufN_lt hr), cpA_nth hr]



end Go.Proofs.YtokhclindfipbaaGreatDoor

namespace Go.Proofs.YtokhclindfipbaaGreatDoor
open Go.RowKit

/-- The least of d + 1 numbers from a on. -/
def minR (p : List Int) (a : Nat) : Nat → Int
  | 0 => nth p a
  | d + 1 => min (minR p a d) (nth p (a + d + 1))
theorem minR_le (p : List Int) (a : Nat) : ∀ {d j : Nat}, a ≤ j → j ≤ a + d → minR p a d ≤ nth p j
  | 0, j, h1, h2 => by
    obtain rfl : j = a := by omega
    exact Int.le_refl _
  | d + 1, j, h1, h2 => by
    rw [minR]
    by_cases e : j = a + d + 1
    · subst e; exact Int.min_le_right _ _
    · exact Int.le_trans (Int.min_le_left _ _) (minR_le p a h1 (by omega))
theorem minR_mem (p : List Int) (a : Nat) : ∀ d : Nat, ∃ j, a ≤ j ∧ j ≤ a + d ∧ nth p j = minR p a d
  | 0 => ⟨a, Nat.le_refl _, Nat.le_refl _, rfl⟩
  | d + 1 => by
    obtain ⟨j, h1, h2, h3⟩ := minR_mem p a d
    rw [minR]
    by_cases e : minR p a d ≤ nth p (a + d + 1)
    · exact ⟨j, h1, by omega, by rw [h3, Int.min_eq_left e]⟩
    · exact ⟨a + d + 1, by omega, by omega, by rw [Int.min_eq_right (by omega)]⟩
theorem minR_uniq {p : List Int} {a d : Nat} {m : Int} (h1 : ∀ j, a ≤ j → j ≤ a + d → m ≤ nth p j) (h2 : ∃ j, a ≤ j ∧ j ≤ a + d ∧ nth p j = m) : m = minR p a d := by
  obtain ⟨j, a1, a2, a3⟩ := h2
  obtain ⟨k, b1, b2, b3⟩ := minR_mem p a d
  have := minR_le p a a1 a2
  have := h1 k b1 b2
  omega
theorem minR_drop (p : List Int) (a : Nat) : ∀ d : Nat, minR (p.drop a) 0 d = minR p a d
  | 0 => by rw [minR, minR, nth_dropS, Nat.add_zero]
  | d + 1 => by rw [minR, minR, minR_drop p a d, nth_dropS, show a + (0 + d + 1) = a + d + 1 by omega]
/-- Where the row around a place begins, and where it ends. -/
def grF (p : List Int) (L : Int) : Nat → Nat
  | 0 => 0
  | n + 1 => if L ≤ nth p (n + 1) then grF p L n else n + 1
def grT (p : List Int) (L : Int) : Nat → Nat → Nat
  | 0, t => t
  | d + 1, t => if L ≤ nth p t then grT p L d (t + 1) else t
theorem grF_le (p : List Int) (L : Int) : ∀ n : Nat, grF p L n ≤ n
  | 0 => Nat.le_refl _
  | n + 1 => by
    rw [grF]
    by_cases e : L ≤ nth p (n + 1)
    · rw [if_pos e]; have := grF_le p L n; omega
    · rw [if_neg e]; exact Nat.le_refl _
theorem grF_all (p : List Int) (L : Int) : ∀ {n j : Nat}, grF p L n < j → j ≤ n → L ≤ nth p j
  | 0, j, h1, h2 => by omega
  | n + 1, j, h1, h2 => by
    rw [grF] at h1
    by_cases e : L ≤ nth p (n + 1)
    · rw [if_pos e] at h1
      by_cases e2 : j = n + 1
      · rw [e2]; exact e
      · exact grF_all p L h1 (by omega)
    · rw [if_neg e] at h1; omega
theorem grF_end (p : List Int) (L : Int) : ∀ n : Nat, grF p L n = 0 ∨ nth p (grF p L n) < L
  | 0 => .inl rfl
  | n + 1 => by
    rw [grF]
    by_cases e : L ≤ nth p (n + 1)
    · rw [if_pos e]; exact grF_end p L n
    · rw [if_neg e]; exact .inr (by omega)
theorem grT_ge (p : List Int) (L : Int) : ∀ d t : Nat, t ≤ grT p L d t
  | 0, t => Nat.le_refl _
  | d + 1, t => by
    rw [grT]
    by_cases e : L ≤ nth p t
    · rw [if_pos e]; have := grT_ge p L d (t + 1); omega
    · rw [if_neg e]; exact Nat.le_refl _
theorem grT_le (p : List Int) (L : Int) : ∀ d t : Nat, grT p L d t ≤ t + d
  | 0, t => Nat.le_refl _
  | d + 1, t => by
    rw [grT]
    by_cases e : L ≤ nth p t
    · rw [if_pos e]; have := grT_le p L d (t + 1); omega
    · rw [if_neg e]; omega
theorem grT_all (p : List Int) (L : Int) : ∀ {d t j : Nat}, t ≤ j → j < grT p L d t → L ≤ nth p j
  | 0, t, j, h1, h2 => by rw [grT] at h2; omega
  | d + 1, t, j, h1, h2 => by
    rw [grT] at h2
    by_cases e : L ≤ nth p t
    · rw [if_pos e] at h2
      by_cases e2 : j = t
      · rw [e2]; exact e
      · exact grT_all p L (t := t + 1) (by omega) h2
    · rw [if_neg e] at h2; omega
theorem grT_end (p : List Int) (L : Int) : ∀ d t : Nat, grT p L d t = t + d ∨ nth p (grT p L d t) < L
  | 0, t => .inl rfl
  | d + 1, t => by
    rw [grT]
    by_cases e : L ≤ nth p t
    · rw [if_pos e]
      have := grT_end p L d (t + 1)
      rw [show t + (d + 1) = t + 1 + d by omega]
      exact this
    · rw [if_neg e]; exact .inr (by omega)
/-- The row of a length around a place of an array: just the suffixes that have so much in common with it. -/
theorem gr_row {l : List Int} {L i k : Nat} (hi : i < l.length) (hk : k < l.length) : (grF (cpA l) (L : Int) i ≤ k ∧ k < grT (cpA l) (L : Int) (l.length - (i + 1)) (i + 1)) ↔ (L ≤ cpS l (snth (sufN l) i) (snth (sufN l) k) ∨ i = k) := by
  have f0 := grF_le (cpA l) (L : Int) i
  have t0 := grT_ge (cpA l) (L : Int) (l.length - (i + 1)) (i + 1)
  rcases Nat.lt_trichotomy k i with c | c | c
  · rw [cpS_comm, cpS_row c hi]
    have hne : ¬ i = k := by omega
    constructor
    · rintro ⟨h, -⟩
      refine .inl fun j h1 h2 => ?_
      have := grF_all (cpA l) (L : Int) (n := i) (j := j) (by omega) h2
      rw [cpA_nth (by omega)] at this
      omega
    · rintro (h | h)
      · refine ⟨?_, by omega⟩
        rcases grF_end (cpA l) (L : Int) i with e | e
        · omega
        · by_cases hlt : k < grF (cpA l) (L : Int) i
          · have h1 := h _ hlt f0
            rw [cpA_nth (by omega)] at e
            omega
          · omega
      · exact absurd h hne
  · subst c
    exact ⟨fun _ => .inr rfl, fun _ => ⟨f0, by omega⟩⟩
  · rw [cpS_row c hk]
    have hne : ¬ i = k := by omega
    constructor
    · rintro ⟨-, h⟩
      refine .inl fun j h1 h2 => ?_
      have := grT_all (cpA l) (L : Int) (d := l.length - (i + 1)) (t := i + 1) (j := j) (by omega) (by omega)
      rw [cpA_nth (by omega)] at this
      omega
    · rintro (h | h)
      · refine ⟨by omega, ?_⟩
        rcases grT_end (cpA l) (L : Int) (l.length - (i + 1)) (i + 1) with e | e
        · omega
        · by_cases hlt : grT (cpA l) (L : Int) (l.length - (i + 1)) (i + 1) ≤ k
          · have h1 := h _ (by omega) hlt
            rw [cpA_nth (by omega)] at e
            omega
          · omega
      · exact absurd h hne
/-- The least between two places of an array: what their suffixes have in common. -/
theorem minR_cp {l : List Int} {i k : Nat} (hik : i < k) (hk : k < l.length) : minR (cpA l) (i + 1) (k - i - 1) = ((cpS l (snth (sufN l) i) (snth (sufN l) k) : Nat) : Int) := by
  refine (minR_uniq (fun j h1 h2 => ?_) ?_).symm
  · rw [cpA_nth (by omega)]
    have := (cpS_row (l := l) (n := cpS l (snth (sufN l) i) (snth (sufN l) k)) hik hk).1 (Nat.le_refl _) j (by omega) (by omega)
    omega
  · refine Classical.byContradiction fun hc => ?_
    have := (cpS_row (l := l) (n := cpS l (snth (sufN l) i) (snth (sufN l) k) + 1) hik hk).2 fun j h1 h2 => ?_
    · omega
    · have h3 := (cpS_row (l := l) (n := cpS l (snth (sufN l) i) (snth (sufN l) k)) hik hk).1 (Nat.le_refl _) j h1 h2
      have h4 : ¬ cpN l j = cpS l (snth (sufN l) i) (snth (sufN l) k) := fun e => hc ⟨j, by omega, by omega, by rw [cpA_nth (by omega), e]⟩
      omega
/-- What Least answers. -/
def leI (p : List Int) (i k : Int) : Int := if i < 0 ∨ k < 0 ∨ (p.length : Int) ≤ i ∨ (p.length : Int) ≤ k then 0 else if i = k then -1 else minR p (min i.toNat k.toNat + 1) (max i.toNat k.toNat - min i.toNat k.toNat - 1)
def leE (p : List Int) (i k : Int) : Int := if i < 0 ∨ k < 0 ∨ (p.length : Int) ≤ i ∨ (p.length : Int) ≤ k then 1 else 0
/-- What Group answers. -/
def gpF (p : List Int) (i L : Int) : Int := if i < 0 ∨ (p.length : Int) ≤ i ∨ L < 0 then 0 else ((grF p L i.toNat : Nat) : Int)
def gpT (p : List Int) (i L : Int) : Int := if i < 0 ∨ (p.length : Int) ≤ i ∨ L < 0 then 0 else ((grT p L (p.length - (i.toNat + 1)) (i.toNat + 1) : Nat) : Int)
def gpE (p : List Int) (i L : Int) : Int := if i < 0 ∨ (p.length : Int) ≤ i ∨ L < 0 then 1 else 0
theorem leI_cp {l : List Int} {i k : Nat} (hi : i < l.length) (hk : k < l.length) (h : i ≠ k) : leI (cpA l) (i : Int) (k : Int) = ((cpS l (snth (sufN l) i) (snth (sufN l) k) : Nat) : Int) := by
  unfold leI
  rw [cpA_len, if_neg (by omega), if_neg (by omega)]
  simp only [Int.toNat_natCast]
  rcases Nat.lt_or_gt_of_ne h with c | c
  · rw [Nat.min_eq_left (by omega), Nat.max_eq_right (by omega)]
    exact minR_cp c hk
  · rw [Nat.min_eq_right (by omega), Nat.max_eq_left (by omega), cpS_comm]
    exact minR_cp c hi
theorem leI_same {p : List Int} {i : Nat} (hi : i < p.length) : leI p (i : Int) (i : Int) = -1 := by
  unfold leI
  rw [if_neg (by omega), if_pos rfl]
theorem leE_ok {p : List Int} {i k : Nat} (hi : i < p.length) (hk : k < p.length) : leE p (i : Int) (k : Int) = 0 := by
  unfold leE
  rw [if_neg (by omega)]
theorem gp_ok {p : List Int} {i : Nat} {L : Int} (hi : i < p.length) (hL : 0 ≤ L) : gpF p (i : Int) L = ((grF p L i : Nat) : Int) ∧ gpT p (i : Int) L = ((grT p L (p.length - (i + 1)) (i + 1) : Nat) : Int) ∧ gpE p (i : Int) L = 0 := by
  unfold gpF gpT gpE
  rw [if_neg (by omega), if_neg (by omega), if_neg (by omega)]
  simp



end Go.Proofs.YtokhclindfipbaaGreatDoor

namespace Go.Proofs.YtokhclindfipbaaGreatDoor
open Go.RowKit

/-- Nothing is other but what lies in block g, and new blocks. -/
def But (g : Nat) (w w' : World) : Prop := w'.os = w.os ∧ w'.tape = w.tape ∧ w'.output = w.output ∧ w.heap.size ≤ w'.heap.size ∧ ∀ k, k < w.heap.size → k ≠ g → w'.heap[k]? = w.heap[k]?
theorem But.refl (g : Nat) (w : World) : But g w w := ⟨rfl, rfl, rfl, Nat.le_refl _, fun _ _ _ => rfl⟩
theorem But.trans {g : Nat} {a b c : World} (h : But g a b) (k : But g b c) : But g a c :=
  ⟨k.1.trans h.1, k.2.1.trans h.2.1, k.2.2.1.trans h.2.2.1, Nat.le_trans h.2.2.2.1 k.2.2.2.1, fun i hi hn => (k.2.2.2.2 i (Nat.lt_of_lt_of_le hi h.2.2.2.1) hn).trans (h.2.2.2.2 i hi hn)⟩
theorem But.of {g : Nat} {w w' : World} (h : Below w.heap.size w w') : But g w w' := ⟨h.os, h.tape, h.output, h.size, fun k hk _ => h.block k hk⟩
theorem But.on {g : Nat} {a b c : World} (h : But g a b) (k : Below b.heap.size b c) : But g a c := h.trans (But.of k)
theorem But.set {g : Nat} {a b : World} (h : But g a b) (i : Nat) (v : Value) : But g a (b.setCell ⟨g, i, none⟩ v) :=
  h.trans ⟨rfl, rfl, rfl, Nat.le_of_eq (by simp [go_sem]), fun k _ hn => Below.heap_setCell _ _ _ _ hn⟩
theorem But.drewN {g : Nat} {a b : World} (h : But g a b) (n : Nat) : But g a (b.drewN n) := h
theorem But.cell {g : Nat} {w w' : World} (h : But g w w') {p : Addr} {v : Value} (hp : p.block ≠ g) (hc : w.cell? p = some v) : w'.cell? p = some v := by
  rw [World.cell?_of_block (w := w) (h.2.2.2.2 p.block (World.block_lt_of_cell? w _ hc) hp)]; exact hc
theorem But.below {g : Nat} {w0 w w' : World} (h : But g w w') (hb : Below w0.heap.size w0 w) (hg : w0.heap.size ≤ g) : Below w0.heap.size w0 w' :=
  ⟨h.1.trans hb.os, h.2.1.trans hb.tape, h.2.2.1.trans hb.output, Nat.le_trans hb.size h.2.2.2.1, fun k hk => (h.2.2.2.2 k (Nat.lt_of_lt_of_le hk hb.size) (by omega)).trans (hb.block k hk)⟩













end Go.Proofs.YtokhclindfipbaaGreatDoor

namespace Go.Proofs.YtokhclindfipbaaGreatDoor
open Go.RowKit

theorem row_but {w w1 : World} {base g n : Nat} {e : TypeId} {sz : Nat} {v : Value} {xs : List Value} (ho : w.ownsRow base e sz v n xs) (hg : g < base) (hb : But g w w1) : w1.ownsRow base e sz v n xs := by
  refine ho.kept (row := some g) ⟨hb.1, hb.2.1, hb.2.2.1, hb.2.2.2.1, fun k hk hn => hb.2.2.2.2 k hk (fun e => hn (by rw [e]))⟩ ?_
  cases hv : v.ownBlock with
  | none => exact Or.inl rfl
  | some k => exact Or.inr fun e => by cases e; have := ho.lt g hv; omega
theorem but_grown {w w1 w2 : World} {g : Nat} {row : Option Nat} (h : But g w w1) (hs : w1.grownBy w2 row) (hr : ∀ k, row = some k → w.heap.size ≤ k) : But g w w2 :=
  ⟨hs.os.trans h.1, hs.tape.trans h.2.1, hs.output.trans h.2.2.1, Nat.le_trans h.2.2.2.1 hs.size, fun k hk hn => (hs.block k (Nat.lt_of_lt_of_le hk h.2.2.2.1) (fun e => by have := hr k e.symm; omega)).trans (h.2.2.2.2 k hk hn)⟩
theorem any_form {w : World} {b n : Nat} {e : TypeId} {sz : Nat} {v : Value} {xs : List Value} (h : w.ownsRow b e sz v n xs) : ∃ A n c, v = .slice A n c := by
  rcases h.2 with ⟨rfl, _⟩ | ⟨g, cap, cur, rfl, _⟩
  · exact ⟨_, _, _, rfl⟩
  · exact ⟨_, _, _, rfl⟩

/-- A new block reads as it was made. -/
theorem new_cells (w : World) (l : List Value) (T : TypeId) (h : l.length ≤ 1048576) : ∀ j u, l[j]? = some u → (w.alloc (.cells l.toArray T)).cell? ((⟨w.heap.size, 0, none⟩ : Addr).add j) = some u := by
  have hr : (w.alloc (.cells l.toArray T)).ownsRow w.heap.size T 1 (.slice (some ⟨w.heap.size, 0, none⟩) l.length l.length) l.length l := by
    refine ⟨by omega, Or.inr ⟨w.heap.size, l.length, l.toArray, rfl, Nat.le_refl _, heap_alloc_new _ _, Nat.le_refl _, by unfold maxLen; omega, by simp, ?_⟩⟩
    simp only [Nat.mul_one]
    exact List.take_length
  exact hr.cells rfl
/-- Items as cells. -/
def iVals (K : IntKind) (zs : List Int) : List Value := zs.map (Value.int K)
theorem iVals_snoc (K : IntKind) (zs : List Int) (x : Int) : iVals K (zs ++ [x]) = iVals K zs ++ [.int K x] := by simp [iVals]
theorem add0 (j i : Nat) : (⟨j, 0, none⟩ : Addr).add i = ⟨j, i, none⟩ := by
  unfold Addr.add
  split <;> simp_all
theorem but_setB {w w1 : World} {g : Nat} (h : But g w w1) {B : Nat} (hB : w.heap.size ≤ B) (i : Nat) (v : Value) : But g w (w1.setCell ⟨B, i, none⟩ v) :=
  ⟨h.1, h.2.1, h.2.2.1, by simpa [go_sem] using h.2.2.2.1, fun k hk hn => (Below.heap_setCell _ _ _ _ (by show k ≠ B; omega)).trans (h.2.2.2.2 k hk hn)⟩
theorem but_box {w w1 : World} {g : Nat} (h : But g w w1) {B : Nat} {cs : Array Value} {t : TypeId} (hb : w.heap[B]? = some (.cells cs t (0, 0))) (hB : B ≠ g) : w1.heap[B]? = some (.cells cs t (0, 0)) := by
  rw [h.2.2.2.2 B (Array.getElem?_eq_some_iff.1 hb).1 hB]; exact hb
theorem box_set {w : World} {B : Nat} {cs : Array Value} {t : TypeId} (h : w.heap[B]? = some (.cells cs t (0, 0))) (i : Nat) (v : Value) : (w.setCell ⟨B, i, none⟩ v).heap[B]? = some (.cells (cs.setIfInBounds i v) t (0, 0)) := by
  simp [World.setCell, Array.getElem?_modify, h]
theorem box_fro {w : World} {B : Nat} {cs : Array Value} {t : TypeId} (h : w.heap[B]? = some (.cells cs t (0, 0))) (i : Nat) : w.frozen? ⟨B, i, none⟩ = false := by
  simp [World.frozen?, h]
theorem all_stick {α : Type} {b : List Int} {m : Int} {f : Tk → α × Tk} {t : Tk} (h : ¬ t.bad = 0) : (tAll b m f t).2 = t := by
  unfold tAll
  rw [count_stick h]
  rfl
theorem count_stick2 {b : List Int} {m : Int} {t : Tk} (h : ¬ t.bad = 0) : (tCount b m t).2 = t := by rw [count_stick h]
theorem end_stick {b : List Int} {t : Tk} (h : ¬ t.bad = 0) : tEnd b t = t := by
  unfold tEnd
  rw [four_stick h, if_neg h]
theorem own_form {w : World} {b n : Nat} {e : TypeId} {sz : Nat} {v : Value} {xs : List Value} (h : w.ownsRow b e sz v n xs) : ∃ A c, v = .slice A n c := by
  rcases h.2 with ⟨rfl, rfl⟩ | ⟨g, cap, cur, rfl, _⟩
  · exact ⟨_, _, rfl⟩
  · exact ⟨_, _, rfl⟩
theorem end_a {b : List Int} {p : Nat} (h : ¬ p + 4 ≤ b.length) : tEnd b ⟨p, 0, 0⟩ = ⟨p, 27, b.length⟩ := by
  unfold tEnd
  rw [four_no h, if_neg (by simp)]
theorem end_b {b : List Int} {p : Nat} (h : p + 4 < b.length) : tEnd b ⟨p, 0, 0⟩ = ⟨p + 4, 27, p + 4⟩ := by
  unfold tEnd
  rw [four_yes (by omega), if_pos rfl, if_pos h]
theorem end_c {b : List Int} {p : Nat} (h : p + 4 = b.length) (hs : ¬ v4 (b.drop p) = sumB (b.take p)) : tEnd b ⟨p, 0, 0⟩ = ⟨p + 4, 28, p⟩ := by
  unfold tEnd
  rw [four_yes (by omega), if_pos rfl, if_neg (by simp; omega), if_neg hs]
theorem end_d {b : List Int} {p : Nat} (h : p + 4 = b.length) (hs : v4 (b.drop p) = sumB (b.take p)) : tEnd b ⟨p, 0, 0⟩ = ⟨p + 4, 0, 0⟩ := by
  unfold tEnd
  rw [four_yes (by omega), if_pos rfl, if_neg (by simp; omega), if_pos hs]
theorem end_good {b : List Int} {p : Nat} (h : (tEnd b ⟨p, 0, 0⟩).bad = 0) : tEnd b ⟨p, 0, 0⟩ = ⟨(tEnd b ⟨p, 0, 0⟩).pos, 0, 0⟩ := by
  by_cases h1 : p + 4 ≤ b.length
  · by_cases h2 : p + 4 < b.length
    · rw [end_b h2] at h; cases h
    · by_cases h3 : v4 (b.drop p) = sumB (b.take p)
      · rw [end_d (by omega) h3]
      · rw [end_c (by omega) h3] at h; cases h
  · rw [end_a h1] at h; cases h
theorem all_len {α : Type} {b : List Int} {m : Nat} {f : Tk → α × Tk} {p : Nat} (hb : AreB b) (h : (tAll b (m : Int) f ⟨p, 0, 0⟩).2.bad = 0) : (tAll b (m : Int) f ⟨p, 0, 0⟩).1.length ≤ m := by
  by_cases hg : (tCount b m ⟨p, 0, 0⟩).2.bad = 0
  · have := (count_range hb hg).2
    have hl : ∀ (n : Nat) (t : Tk), (tList f n t).1.length ≤ n := by
      intro n
      induction n with
      | zero => intro t; simp [tList]
      | succ n ih =>
        intro t
        rw [tList]
        split
        · have := ih (f t).2
          simp
          omega
        · simp
    have h2 := hl (tCount b m ⟨p, 0, 0⟩).1.toNat (tCount b m ⟨p, 0, 0⟩).2
    unfold tAll
    omega
  · rw [all_bad hg] at h
    exact absurd h hg
theorem ownsRow_mono {w : World} {b b' : Nat} {e : TypeId} {k n : Nat} {v : Value} {xs : List Value} (h : w.ownsRow b e k v n xs) (hb : b' ≤ b) : w.ownsRow b' e k v n xs := by
  refine ⟨h.1, ?_⟩
  rcases h.2 with h0 | ⟨g, cap, cur, hv, hg, r⟩
  · exact Or.inl h0
  · exact Or.inr ⟨g, cap, cur, hv, Nat.le_trans hb hg, r⟩
theorem iVals_get {K : IntKind} {l : List Int} {i : Nat} (h : i < l.length) : (iVals K l)[i]? = some (.int K (nth l i)) := by simp [iVals, nth, List.getD, h]
theorem add_add (j k i : Nat) : ((⟨j, 0, none⟩ : Addr).add k).add i = (⟨j, 0, none⟩ : Addr).add (k + i) := by
  rw [add0, add0]
  unfold Addr.add
  split
  · next h => subst h; rfl
  · rfl
theorem row_ints {w : World} {base c n : Nat} {e : TypeId} {A : Option Addr} {K : IntKind} {l : List Int} (h : w.ownsRow base e 1 (.slice A n c) l.length (iVals K l)) : IntsAt w A K l := fun i hi => by
  rcases h.2 with ⟨_, h0⟩ | ⟨j, cap, cur, hv, hb, hg, hc, _⟩
  · omega
  · cases hv
    exact ⟨_, rfl, h.cells rfl i _ (iVals_get hi)⟩
theorem row_keep {w w1 : World} {base n : Nat} {e : TypeId} {sz : Nat} {v : Value} {xs : List Value} (h : w.ownsRow base e sz v n xs) (hb : Below w.heap.size w w1) : w1.ownsRow base e sz v n xs := by
  refine h.kept (row := none) ⟨hb.os, hb.tape, hb.output, hb.size, fun k hk _ => hb.block k hk⟩ ?_
  cases hv : v.ownBlock <;> simp
theorem lb_box {w w1 : World} {B : Nat} {cs : Array Value} {t : TypeId} (h : w.heap[B]? = some (.cells cs t (0, 0))) (hb : Below w.heap.size w w1) : w1.heap[B]? = some (.cells cs t (0, 0)) := by
  rw [hb.block B (Array.getElem?_eq_some_iff.1 h).1]; exact h

/-- The two lists of an image, each a row of its own behind base. -/
structure RowsI (w : World) (base : Nat) (A1 A2 : Option Addr) (c1 c2 : Nat) (text mem : List Int) : Prop where
  r1 : w.ownsRow base 93 1 (.slice A1 text.length c1) text.length (iVals .u32 text)
  r2 : w.ownsRow base 2 1 (.slice A2 mem.length c2) mem.length (iVals .i64 mem)
theorem RowsI.keep {w w1 : World} {base : Nat} {A1 A2 : Option Addr} {c1 c2 : Nat} {text mem : List Int} (h : RowsI w base A1 A2 c1 c2 text mem) (hb : Below w.heap.size w w1) : RowsI w1 base A1 A2 c1 c2 text mem := ⟨row_keep h.r1 hb, row_keep h.r2 hb⟩
theorem RowsI.mono {w : World} {base base' : Nat} {A1 A2 : Option Addr} {c1 c2 : Nat} {text mem : List Int} (h : RowsI w base A1 A2 c1 c2 text mem) (hb : base' ≤ base) : RowsI w base' A1 A2 c1 c2 text mem := ⟨ownsRow_mono h.r1 hb, ownsRow_mono h.r2 hb⟩
theorem RowsI.but {w w1 : World} {g base : Nat} {A1 A2 : Option Addr} {c1 c2 : Nat} {text mem : List Int} (h : RowsI w base A1 A2 c1 c2 text mem) (hb : But g w w1) (hg : g < base) : RowsI w1 base A1 A2 c1 c2 text mem := ⟨row_but h.r1 hg hb, row_but h.r2 hg hb⟩
theorem row_setB {w1 : World} {B base n : Nat} {e : TypeId} {sz : Nat} {v : Value} {xs : List Value} (h : w1.ownsRow base e sz v n xs) (hB : B < base) (i : Nat) (x : Value) : (w1.setCell ⟨B, i, none⟩ x).ownsRow base e sz v n xs := ownsRow_setCell_below h hB x
theorem RowsI.set {w : World} {B base : Nat} {A1 A2 : Option Addr} {c1 c2 : Nat} {text mem : List Int} (h : RowsI w base A1 A2 c1 c2 text mem) (hB : B < base) (i : Nat) (x : Value) : RowsI (w.setCell ⟨B, i, none⟩ x) base A1 A2 c1 c2 text mem := ⟨row_setB h.r1 hB i x, row_setB h.r2 hB i x⟩
theorem no_ints (w : World) (K : IntKind) : IntsAt w none K [] := fun i hi => by simp at hi













end Go.Proofs.YtokhclindfipbaaGreatDoor
