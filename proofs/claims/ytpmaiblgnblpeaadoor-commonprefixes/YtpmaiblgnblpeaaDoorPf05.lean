/-
  Plain: the least between two places, the row around one; of an array: what suffixes have in common. Worlds that part in one block alone; no Go in sight.
-/
import Derived.Test.YtpmaiblgnblpeaaDoorProg
import Derived.WalkKit
import Derived.WalkSpells
import Derived.WalkLawsBesides
import Derived.RowKit3
import Derived.Below
import Derived.Deep.QuietTactic
import Derived.BigQuiet
import Derived.WalkSmall
import Derived.Laws.Rows
import Derived.Test.YtpmaiblgnblpeaaDoorPf04
import Derived.Test.YtpmaiblgnblpeaaDoorPf01
namespace Go.Proofs.YtpmaiblgnblpeaaDoor
open Go.RowKit

/-- The least of d + 1 numbers from a on. -/
def minR (p : List Int) (a : Nat) : Nat → Int
  | 0 => nth p a
  | d + 1 => min (minR p a d) (nth p (a + d + 1))
theorem minR_le (p : List Int) (a : Nat) : ∀ {d j : Nat}, a ≤ j → j ≤ a + d → minR p a d ≤ nth p j
  | 0, j, h1, h2 => by
    obtain rfl : j = a := by omega
    exact Int.le_refl _
  | d + 1, j, h1, h2 => by
    rw [minR]
    by_cases e : j = a + d + 1
    · subst e; exact Int.min_le_right _ _
    · exact Int.le_trans (Int.min_le_left _ _) (minR_le p a h1 (by omega))
theorem minR_mem (p : List Int) (a : Nat) : ∀ d : Nat, ∃ j, a ≤ j ∧ j ≤ a + d ∧ nth p j = minR p a d
  | 0 => ⟨a, Nat.le_refl _, Nat.le_refl _, rfl⟩
  | d + 1 => by
    obtain ⟨j, h1, h2, h3⟩ := minR_mem p a d
    rw [minR]
    by_cases e : minR p a d ≤ nth p (a + d + 1)
    · exact ⟨j, h1, by omega, by rw [h3, Int.min_eq_left e]⟩
    · exact ⟨a + d + 1, by omega, by omega, by rw [Int.min_eq_right (by omega)]⟩
theorem minR_uniq {p : List Int} {a d : Nat} {m : Int} (h1 : ∀ j, a ≤ j → j ≤ a + d → m ≤ nth p j) (h2 : ∃ j, a ≤ j ∧ j ≤ a + d ∧ nth p j = m) : m = minR p a d := by
  obtain ⟨j, a1, a2, a3⟩ := h2
  obtain ⟨k, b1, b2, b3⟩ := minR_mem p a d
  have := minR_le p a a1 a2
  have := h1 k b1 b2
  omega
theorem minR_drop (p : List Int) (a : Nat) : ∀ d : Nat, minR (p.drop a) 0 d = minR p a d
  | 0 => by rw [minR, minR, nth_dropS, Nat.add_zero]
  | d + 1 => by rw [minR, minR, minR_drop p a d, nth_dropS, show a + (0 + d + 1) = a + d + 1 by omega]
/-- Where the row around a place begins, and where it ends. -/
def grF (p : List Int) (L : Int) : Nat → Nat
  | 0 => 0
  | n + 1 => if L ≤ nth p (n + 1) then grF p L n else n + 1
def grT (p : List Int) (L : Int) : Nat → Nat → Nat
  | 0, t => t
  | d + 1, t => if L ≤ nth p t then grT p L d (t + 1) else t
theorem grF_le (p : List Int) (L : Int) : ∀ n : Nat, grF p L n ≤ n
  | 0 => Nat.le_refl _
  | n + 1 => by
    rw [grF]
    by_cases e : L ≤ nth p (n + 1)
    · rw [if_pos e]; have := grF_le p L n; omega
    · rw [if_neg e]; exact Nat.le_refl _
theorem grF_all (p : List Int) (L : Int) : ∀ {n j : Nat}, grF p L n < j → j ≤ n → L ≤ nth p j
  | 0, j, h1, h2 => by omega
  | n + 1, j, h1, h2 => by
    rw [grF] at h1
    by_cases e : L ≤ nth p (n + 1)
    · rw [if_pos e] at h1
      by_cases e2 : j = n + 1
      · rw [e2]; exact e
      · exact grF_all p L h1 (by omega)
    · rw [if_neg e] at h1; omega
theorem grF_end (p : List Int) (L : Int) : ∀ n : Nat, grF p L n = 0 ∨ nth p (grF p L n) < L
  | 0 => .inl rfl
  | n + 1 => by
    rw [grF]
    by_cases e : L ≤ nth p (n + 1)
    · rw [if_pos e]; exact grF_end p L n
    · rw [if_neg e]; exact .inr (by omega)
theorem grT_ge (p : List Int) (L : Int) : ∀ d t : Nat, t ≤ grT p L d t
  | 0, t => Nat.le_refl _
  | d + 1, t => by
    rw [grT]
    by_cases e : L ≤ nth p t
    · rw [if_pos e]; have := grT_ge p L d (t + 1); omega
    · rw [if_neg e]; exact Nat.le_refl _
theorem grT_le (p : List Int) (L : Int) : ∀ d t : Nat, grT p L d t ≤ t + d
  | 0, t => Nat.le_refl _
  | d + 1, t => by
    rw [grT]
    by_cases e : L ≤ nth p t
    · rw [if_pos e]; have := grT_le p L d (t + 1); omega
    · rw [if_neg e]; omega
theorem grT_all (p : List Int) (L : Int) : ∀ {d t j : Nat}, t ≤ j → j < grT p L d t → L ≤ nth p j
  | 0, t, j, h1, h2 => by rw [grT] at h2; omega
  | d + 1, t, j, h1, h2 => by
    rw [grT] at h2
    by_cases e : L ≤ nth p t
    · rw [if_pos e] at h2
      by_cases e2 : j = t
      · rw [e2]; exact e
      · exact grT_all p L (t := t + 1) (by omega) h2
    · rw [if_neg e] at h2; omega
theorem grT_end (p : List Int) (L : Int) : ∀ d t : Nat, grT p L d t = t + d ∨ nth p (grT p L d t) < L
  | 0, t => .inl rfl
  | d + 1, t => by
    rw [grT]
    by_cases e : L ≤ nth p t
    · rw [if_pos e]
      have := grT_end p L d (t + 1)
      rw [show t + (d + 1) = t + 1 + d by omega]
      exact this
    · rw [if_neg e]; exact .inr (by omega)
/-- The row of a length around a place of an array: just the suffixes that have so much in common with it. -/
theorem gr_row {l : List Int} {L i k : Nat} (hi : i < l.length) (hk : k < l.length) : (grF (cpA l) (L : Int) i ≤ k ∧ k < grT (cpA l) (L : Int) (l.length - (i + 1)) (i + 1)) ↔ (L ≤ cpS l (snth (sufN l) i) (snth (sufN l) k) ∨ i = k) := by
  have f0 := grF_le (cpA l) (L : Int) i
  have t0 := grT_ge (cpA l) (L : Int) (l.length - (i + 1)) (i + 1)
  rcases Nat.lt_trichotomy k i with c | c | c
  · rw [cpS_comm, cpS_row c hi]
    have hne : ¬ i = k := by omega
    constructor
    · rintro ⟨h, -⟩
      refine .inl fun j h1 h2 => ?_
      have := grF_all (cpA l) (L : Int) (n := i) (j := j) (by omega) h2
      rw [cpA_nth (by omega)] at this
      omega
    · rintro (h | h)
      · refine ⟨?_, by omega⟩
        rcases grF_end (cpA l) (L : Int) i with e | e
        · omega
        · by_cases hlt : k < grF (cpA l) (L : Int) i
          · have h1 := h _ hlt f0
            rw [cpA_nth (by omega)] at e
            omega
          · omega
      · exact absurd h hne
  · subst c
    exact ⟨fun _ => .inr rfl, fun _ => ⟨f0, by omega⟩⟩
  · rw [cpS_row c hk]
    have hne : ¬ i = k := by omega
    constructor
    · rintro ⟨-, h⟩
      refine .inl fun j h1 h2 => ?_
      have := grT_all (cpA l) (L : Int) (d := l.length - (i + 1)) (t := i + 1) (j := j) (by omega) (by omega)
      rw [cpA_nth (by omega)] at this
      omega
    · rintro (h | h)
      · refine ⟨by omega, ?_⟩
        rcases grT_end (cpA l) (L : Int) (l.length - (i + 1)) (i + 1) with e | e
        · omega
        · by_cases hlt : grT (cpA l) (L : Int) (l.length - (i + 1)) (i + 1) ≤ k
          · have h1 := h _ (by omega) hlt
            rw [cpA_nth (by omega)] at e
            omega
          · omega
      · exact absurd h hne
/-- The least between two places of an array: what their suffixes have in common. -/
theorem minR_cp {l : List Int} {i k : Nat} (hik : i < k) (hk : k < l.length) : minR (cpA l) (i + 1) (k - i - 1) = ((cpS l (snth (sufN l) i) (snth (sufN l) k) : Nat) : Int) := by
  refine (minR_uniq (fun j h1 h2 => ?_) ?_).symm
  · rw [cpA_nth (by omega)]
    have := (cpS_row (l := l) (n := cpS l (snth (sufN l) i) (snth (sufN l) k)) hik hk).1 (Nat.le_refl _) j (by omega) (by omega)
    omega
  · refine Classical.byContradiction fun hc => ?_
    have := (cpS_row (l := l) (n := cpS l (snth (sufN l) i) (snth (sufN l) k) + 1) hik hk).2 fun j h1 h2 => ?_
    · omega
    · have h3 := (cpS_row (l := l) (n := cpS l (snth (sufN l) i) (snth (sufN l) k)) hik hk).1 (Nat.le_refl _) j h1 h2
      have h4 : ¬ cpN l j = cpS l (snth (sufN l) i) (snth (sufN l) k) := fun e => hc ⟨j, by omega, by omega, by rw [cpA_nth (by omega), e]⟩
      omega
/-- What Least answers. -/
def leI (p : List Int) (i k : Int) : Int := if i < 0 ∨ k < 0 ∨ (p.length : Int) ≤ i ∨ (p.length : Int) ≤ k then 0 else if i = k then -1 else minR p (min i.toNat k.toNat + 1) (max i.toNat k.toNat - min i.toNat k.toNat - 1)
def leE (p : List Int) (i k : Int) : Int := if i < 0 ∨ k < 0 ∨ (p.length : Int) ≤ i ∨ (p.length : Int) ≤ k then 1 else 0
/-- What Group answers. -/
def gpF (p : List Int) (i L : Int) : Int := if i < 0 ∨ (p.length : Int) ≤ i ∨ L < 0 then 0 else ((grF p L i.toNat : Nat) : Int)
def gpT (p : List Int) (i L : Int) : Int := if i < 0 ∨ (p.length : Int) ≤ i ∨ L < 0 then 0 else ((grT p L (p.length - (i.toNat + 1)) (i.toNat + 1) : Nat) : Int)
def gpE (p : List Int) (i L : Int) : Int := if i < 0 ∨ (p.length : Int) ≤ i ∨ L < 0 then 1 else 0
theorem leI_cp {l : List Int} {i k : Nat} (hi : i < l.length) (hk : k < l.length) (h : i ≠ k) : leI (cpA l) (i : Int) (k : Int) = ((cpS l (snth (sufN l) i) (snth (sufN l) k) : Nat) : Int) := by
  unfold leI
  rw [cpA_len, if_neg (by omega), if_neg (by omega)]
  simp only [Int.toNat_natCast]
  rcases Nat.lt_or_gt_of_ne h with c | c
  · rw [Nat.min_eq_left (by omega), Nat.max_eq_right (by omega)]
    exact minR_cp c hk
  · rw [Nat.min_eq_right (by omega), Nat.max_eq_left (by omega), cpS_comm]
    exact minR_cp c hi
theorem leI_same {p : List Int} {i : Nat} (hi : i < p.length) : leI p (i : Int) (i : Int) = -1 := by
  unfold leI
  rw [if_neg (by omega), if_pos rfl]
theorem leE_ok {p : List Int} {i k : Nat} (hi : i < p.length) (hk : k < p.length) : leE p (i : Int) (k : Int) = 0 := by
  unfold leE
  rw [if_neg (by omega)]
theorem gp_ok {p : List Int} {i : Nat} {L : Int} (hi : i < p.length) (hL : 0 ≤ L) : gpF p (i : Int) L = ((grF p L i : Nat) : Int) ∧ gpT p (i : Int) L = ((grT p L (p.length - (i + 1)) (i + 1) : Nat) : Int) ∧ gpE p (i : Int) L = 0 := by
  unfold gpF gpT gpE
  rw [if_neg (by omega), if_neg (by omega), if_neg (by omega)]
  simp


end Go.Proofs.YtpmaiblgnblpeaaDoor

namespace Go.Proofs.YtpmaiblgnblpeaaDoor
open Go.RowKit

/-- Nothing is other but what lies in block g, and new blocks. -/
def But (g : Nat) (w w' : World) : Prop := w'.os = w.os ∧ w'.tape = w.tape ∧ w'.output = w.output ∧ w.heap.size ≤ w'.heap.size ∧ ∀ k, k < w.heap.size → k ≠ g → w'.heap[k]? = w.heap[k]?
theorem But.refl (g : Nat) (w : World) : But g w w := ⟨rfl, rfl, rfl, Nat.le_refl _, fun _ _ _ => rfl⟩
theorem But.trans {g : Nat} {a b c : World} (h : But g a b) (k : But g b c) : But g a c :=
  ⟨k.1.trans h.1, k.2.1.trans h.2.1, k.2.2.1.trans h.2.2.1, Nat.le_trans h.2.2.2.1 k.2.2.2.1, fun i hi hn => (k.2.2.2.2 i (Nat.lt_of_lt_of_le hi h.2.2.2.1) hn).trans (h.2.2.2.2 i hi hn)⟩
theorem But.of {g : Nat} {w w' : World} (h : Below w.heap.size w w') : But g w w' := ⟨h.os, h.tape, h.output, h.size, fun k hk _ => h.block k hk⟩
theorem But.on {g : Nat} {a b c : World} (h : But g a b) (k : Below b.heap.size b c) : But g a c := h.trans (But.of k)
theorem But.set {g : Nat} {a b : World} (h : But g a b) (i : Nat) (v : Value) : But g a (b.setCell ⟨g, i, none⟩ v) :=
  h.trans ⟨rfl, rfl, rfl, Nat.le_of_eq (by simp [go_sem]), fun k _ hn => Below.heap_setCell _ _ _ _ hn⟩
theorem But.drewN {g : Nat} {a b : World} (h : But g a b) (n : Nat) : But g a (b.drewN n) := h
theorem But.cell {g : Nat} {w w' : World} (h : But g w w') {p : Addr} {v : Value} (hp : p.block ≠ g) (hc : w.cell? p = some v) : w'.cell? p = some v := by
  rw [World.cell?_of_block (w := w) (h.2.2.2.2 p.block (World.block_lt_of_cell? w _ hc) hp)]; exact hc
theorem But.below {g : Nat} {w0 w w' : World} (h : But g w w') (hb : Below w0.heap.size w0 w) (hg : w0.heap.size ≤ g) : Below w0.heap.size w0 w' :=
  ⟨h.1.trans hb.os, h.2.1.trans hb.tape, h.2.2.1.trans hb.output, Nat.le_trans hb.size h.2.2.2.1, fun k hk => (h.2.2.2.2 k (Nat.lt_of_lt_of_le hk hb.size) (by omega)).trans (hb.block k hk)⟩












end Go.Proofs.YtpmaiblgnblpeaaDoor
