/-
  The program's sorting, plain: merging, halves, how many it asks.
-/
import Derived.Test.YthhfkcmoncgknaaProg
import Derived.WalkKit
import Derived.WalkSpells
import Derived.WalkLawsBesides
import Derived.RowKit3
import Derived.Below
import Derived.Deep.QuietTactic
import Derived.BigQuiet
import Derived.WalkSmall
import Derived.Laws.Rows
import Derived.Test.YthhfkcmoncgknaaPt05
namespace Go.Proofs.Ythhfkcmoncgknaa
open Go.RowKit

/-- How two numbers are held against one another. -/
def cmpI (a b : Int) : Int := if a < b then -1 else if b < a then 1 else 0
theorem cmpI_neg {a b : Int} : cmpI a b < 0 ↔ a < b := by
  unfold cmpI
  split
  · simp [*]
  · split <;> simp [*]
theorem cmpI_zero {a b : Int} : cmpI a b = 0 ↔ a = b := by
  unfold cmpI
  split
  · constructor <;> intro h <;> omega
  · split
    · constructor <;> intro h <;> omega
    · constructor
      · intro _; omega
      · intro _; rfl
theorem cmpI_range (a b : Int) : -1 ≤ cmpI a b ∧ cmpI a b ≤ 1 := by
  unfold cmpI
  split
  · decide
  · split <;> decide
/-- Two sorted lists become one. -/
def mrg (o : Nat → Nat → Int) : List Nat → List Nat → List Nat
  | [], R => R
  | l :: L, [] => l :: L
  | l :: L, r :: R => if o r l < 0 then r :: mrg o (l :: L) R else l :: mrg o L (r :: R)
termination_by L R => L.length + R.length
def mrgC (o : Nat → Nat → Int) (c : Nat → Nat → Nat) : List Nat → List Nat → Nat
  | [], _ => 0
  | _ :: _, [] => 0
  | l :: L, r :: R => c r l + if o r l < 0 then mrgC o c (l :: L) R else mrgC o c L (r :: R)
termination_by L R => L.length + R.length
theorem mrg_nil (o : Nat → Nat → Int) (R : List Nat) : mrg o [] R = R := by rw [mrg]
theorem mrg_out (o : Nat → Nat → Int) (L : List Nat) : mrg o L [] = L := by cases L <;> rw [mrg]
theorem mrg_right {o : Nat → Nat → Int} {l r : Nat} {L R : List Nat} (h : o r l < 0) : mrg o (l :: L) (r :: R) = r :: mrg o (l :: L) R := by rw [mrg, if_pos h]
theorem mrg_left {o : Nat → Nat → Int} {l r : Nat} {L R : List Nat} (h : ¬ o r l < 0) : mrg o (l :: L) (r :: R) = l :: mrg o L (r :: R) := by rw [mrg, if_neg h]
theorem mrgC_nil (o : Nat → Nat → Int) (c : Nat → Nat → Nat) (R : List Nat) : mrgC o c [] R = 0 := by rw [mrgC]
theorem mrgC_out (o : Nat → Nat → Int) (c : Nat → Nat → Nat) (L : List Nat) : mrgC o c L [] = 0 := by cases L <;> rw [mrgC]
theorem mrgC_right {o : Nat → Nat → Int} {c : Nat → Nat → Nat} {l r : Nat} {L R : List Nat} (h : o r l < 0) : mrgC o c (l :: L) (r :: R) = c r l + mrgC o c (l :: L) R := by rw [mrgC, if_pos h]
theorem mrgC_left {o : Nat → Nat → Int} {c : Nat → Nat → Nat} {l r : Nat} {L R : List Nat} (h : ¬ o r l < 0) : mrgC o c (l :: L) (r :: R) = c r l + mrgC o c L (r :: R) := by rw [mrgC, if_neg h]
theorem mrg_perm (o : Nat → Nat → Int) : ∀ L R : List Nat, (mrg o L R).Perm (L ++ R)
  | [], R => by rw [mrg_nil]; exact List.Perm.refl _
  | l :: L, [] => by rw [mrg_out, List.append_nil]
  | l :: L, r :: R => by
    by_cases h : o r l < 0
    · rw [mrg_right h]
      exact ((mrg_perm o (l :: L) R).cons r).trans List.perm_middle.symm
    · rw [mrg_left h]
      exact (mrg_perm o L (r :: R)).cons l
termination_by L R => L.length + R.length
theorem mrg_len (o : Nat → Nat → Int) (L R : List Nat) : (mrg o L R).length = L.length + R.length := by rw [(mrg_perm o L R).length_eq, List.length_append]
theorem mrgC_le {o : Nat → Nat → Int} {c : Nat → Nat → Nat} (hc : ∀ i k, c i k ≤ 2) : ∀ L R : List Nat, mrgC o c L R ≤ 2 * (L.length + R.length - 1)
  | [], R => by rw [mrgC_nil]; exact Nat.zero_le _
  | l :: L, [] => by rw [mrgC_out]; exact Nat.zero_le _
  | l :: L, r :: R => by
    have h0 := hc r l
    by_cases h : o r l < 0
    · rw [mrgC_right h]
      have := mrgC_le (o := o) hc (l :: L) R
      simp only [List.length_cons] at this ⊢
      omega
    · rw [mrgC_left h]
      have := mrgC_le (o := o) hc L (r :: R)
      simp only [List.length_cons] at this ⊢
      omega
termination_by L R => L.length + R.length
/-- An order of places below n. -/
structure OrdP (o : Nat → Nat → Int) (n : Nat) : Prop where
  tot : ∀ i k, i < n → k < n → ¬ o i k < 0 → o k i ≤ 0
  trans : ∀ i j k, i < n → j < n → k < n → o i j ≤ 0 → o j k ≤ 0 → o i k ≤ 0
theorem mrg_ord {o : Nat → Nat → Int} {n : Nat} (h : OrdP o n) : ∀ L R : List Nat, (∀ x ∈ L, x < n) → (∀ x ∈ R, x < n) → L.Pairwise (fun i k => o i k ≤ 0) → R.Pairwise (fun i k => o i k ≤ 0) → (mrg o L R).Pairwise (fun i k => o i k ≤ 0)
  | [], R => fun _ _ _ hR => by rw [mrg_nil]; exact hR
  | l :: L, [] => fun _ _ hL _ => by rw [mrg_out]; exact hL
  | l :: L, r :: R => fun bL bR hL hR => by
    have b1 := bL l List.mem_cons_self
    have b2 := bR r List.mem_cons_self
    obtain ⟨pl, pL⟩ := List.pairwise_cons.1 hL
    obtain ⟨pr, pR⟩ := List.pairwise_cons.1 hR
    by_cases hc : o r l < 0
    · rw [mrg_right hc, List.pairwise_cons]
      refine ⟨fun x hx => ?_, mrg_ord h (l :: L) R bL (fun x hx => bR x (List.mem_cons_of_mem _ hx)) hL pR⟩
      rcases List.mem_append.1 ((mrg_perm o (l :: L) R).mem_iff.1 hx) with hx | hx
      · rcases List.mem_cons.1 hx with rfl | hx2
        · omega
        · exact h.trans r l x b2 b1 (bL x hx) (by omega) (pl x hx2)
      · exact pr x hx
    · rw [mrg_left hc, List.pairwise_cons]
      have hlr := h.tot r l b2 b1 hc
      refine ⟨fun x hx => ?_, mrg_ord h L (r :: R) (fun x hx => bL x (List.mem_cons_of_mem _ hx)) bR pL hR⟩
      rcases List.mem_append.1 ((mrg_perm o L (r :: R)).mem_iff.1 hx) with hx | hx
      · exact pl x hx
      · rcases List.mem_cons.1 hx with rfl | hx2
        · exact hlr
        · exact h.trans l r x b1 b2 (bR x hx) hlr (pr x hx2)
termination_by L R => L.length + R.length
/-- The program's sorting. -/
def srt (o : Nat → Nat → Int) (xs : List Nat) : List Nat :=
  if h : xs.length < 2 then xs else
    if o (snth (srt o (xs.take (xs.length / 2))) (xs.length / 2 - 1)) (snth (srt o (xs.drop (xs.length / 2))) 0) ≤ 0 then srt o (xs.take (xs.length / 2)) ++ srt o (xs.drop (xs.length / 2))
    else mrg o (srt o (xs.take (xs.length / 2))) (srt o (xs.drop (xs.length / 2)))
termination_by xs.length
decreasing_by all_goals (simp only [List.length_take, List.length_drop]; omega)
def srtC (o : Nat → Nat → Int) (c : Nat → Nat → Nat) (xs : List Nat) : Nat :=
  if _h : xs.length < 2 then 0 else
    srtC o c (xs.take (xs.length / 2)) + srtC o c (xs.drop (xs.length / 2)) + c (snth (srt o (xs.take (xs.length / 2))) (xs.length / 2 - 1)) (snth (srt o (xs.drop (xs.length / 2))) 0) + (if o (snth (srt o (xs.take (xs.length / 2))) (xs.length / 2 - 1)) (snth (srt o (xs.drop (xs.length / 2))) 0) ≤ 0 then 0 else mrgC o c (srt o (xs.take (xs.length / 2))) (srt o (xs.drop (xs.length / 2))))
termination_by xs.length
decreasing_by all_goals (simp only [List.length_take, List.length_drop]; omega)
theorem srt_small {o : Nat → Nat → Int} {xs : List Nat} (h : xs.length < 2) : srt o xs = xs := by rw [srt, dif_pos h]
theorem srtC_small {o : Nat → Nat → Int} {c : Nat → Nat → Nat} {xs : List Nat} (h : xs.length < 2) : srtC o c xs = 0 := by rw [srtC, dif_pos h]
/-- A list is cut in two, each is sorted. -/
theorem srt_cut {o : Nat → Nat → Int} {xs L R : List Nat} (h : ¬ xs.length < 2) (hL : srt o (xs.take (xs.length / 2)) = L) (hR : srt o (xs.drop (xs.length / 2)) = R) : srt o xs = if o (snth L (xs.length / 2 - 1)) (snth R 0) ≤ 0 then L ++ R else mrg o L R := by rw [srt, dif_neg h, hL, hR]
theorem srtC_cut {o : Nat → Nat → Int} {c : Nat → Nat → Nat} {xs L R : List Nat} (h : ¬ xs.length < 2) (hL : srt o (xs.take (xs.length / 2)) = L) (hR : srt o (xs.drop (xs.length / 2)) = R) : srtC o c xs = srtC o c (xs.take (xs.length / 2)) + srtC o c (xs.drop (xs.length / 2)) + c (snth L (xs.length / 2 - 1)) (snth R 0) + (if o (snth L (xs.length / 2 - 1)) (snth R 0) ≤ 0 then 0 else mrgC o c L R) := by rw [srtC, dif_neg h, hL, hR]
theorem srt_perm (o : Nat → Nat → Int) (n : Nat) : ∀ xs : List Nat, xs.length = n → (srt o xs).Perm xs := by
  induction n using Nat.strongRecOn with
  | _ n ih =>
  intro xs hn
  by_cases h : xs.length < 2
  · rw [srt_small h]
  have h1 := ih _ (by simp only [List.length_take]; omega) (xs.take (xs.length / 2)) rfl
  have h2 := ih _ (by simp only [List.length_drop]; omega) (xs.drop (xs.length / 2)) rfl
  have h3 : (srt o (xs.take (xs.length / 2)) ++ srt o (xs.drop (xs.length / 2))).Perm xs := by
    have := h1.append h2
    rw [List.take_append_drop] at this
    exact this
  rw [srt_cut h rfl rfl]
  split
  · exact h3
  · exact (mrg_perm _ _ _).trans h3
theorem srt_len (o : Nat → Nat → Int) (xs : List Nat) : (srt o xs).length = xs.length := (srt_perm o _ xs rfl).length_eq
theorem srt_mem {o : Nat → Nat → Int} {xs : List Nat} {x : Nat} : x ∈ srt o xs ↔ x ∈ xs := (srt_perm o _ xs rfl).mem_iff
theorem pair_nth {q : Nat → Nat → Prop} {A : List Nat} : A.Pairwise q ↔ ∀ i k, i < k → k < A.length → q (snth A i) (snth A k) := by
  rw [List.pairwise_iff_getElem]
  constructor
  · intro h i k hik hk
    have := h i k (by omega) hk hik
    simpa [snth, hk, show i < A.length by omega] using this
  · intro h i k hi hk hik
    have := h i k hik hk
    simpa [snth, hk, hi] using this
theorem mem_nth {A : List Nat} {x : Nat} (h : x ∈ A) : ∃ i, i < A.length ∧ snth A i = x := by
  obtain ⟨i, hi, e⟩ := List.getElem_of_mem h
  exact ⟨i, hi, by simp [snth, hi, e]⟩
theorem nth_mem {A : List Nat} {i : Nat} (h : i < A.length) : snth A i ∈ A := List.mem_of_getElem? (snth_get h)
theorem srt_ord {o : Nat → Nat → Int} {m : Nat} (hO : OrdP o m) (n : Nat) : ∀ xs : List Nat, xs.length = n → (∀ x ∈ xs, x < m) → (srt o xs).Pairwise (fun i k => o i k ≤ 0) := by
  induction n using Nat.strongRecOn with
  | _ n ih =>
  intro xs hn hb
  by_cases h : xs.length < 2
  · rw [srt_small h, pair_nth]
    intro i k hik hk
    omega
  have b1 : ∀ x ∈ srt o (xs.take (xs.length / 2)), x < m := fun x hx => hb x (List.mem_of_mem_take (srt_mem.1 hx))
  have b2 : ∀ x ∈ srt o (xs.drop (xs.length / 2)), x < m := fun x hx => hb x (List.mem_of_mem_drop (srt_mem.1 hx))
  have h1 := ih _ (by simp only [List.length_take]; omega) (xs.take (xs.length / 2)) rfl fun x hx => hb x (List.mem_of_mem_take hx)
  have h2 := ih _ (by simp only [List.length_drop]; omega) (xs.drop (xs.length / 2)) rfl fun x hx => hb x (List.mem_of_mem_drop hx)
  have l1 : (srt o (xs.take (xs.length / 2))).length = xs.length / 2 := by rw [srt_len, List.length_take]; omega
  have l2 : (srt o (xs.drop (xs.length / 2))).length = xs.length - xs.length / 2 := by rw [srt_len, List.length_drop]
  rw [srt_cut h rfl rfl]
  split
  · rename_i hc
    rw [List.pairwise_append]
    refine ⟨h1, h2, fun x hx y hy => ?_⟩
    obtain ⟨i, hi, rfl⟩ := mem_nth hx
    obtain ⟨k, hk, rfl⟩ := mem_nth hy
    have g1 : o (snth (srt o (xs.take (xs.length / 2))) i) (snth (srt o (xs.drop (xs.length / 2))) 0) ≤ 0 := by
      by_cases e : i = xs.length / 2 - 1
      · rw [e]; exact hc
      · exact hO.trans _ _ _ (b1 _ (nth_mem hi)) (b1 _ (nth_mem (by omega))) (b2 _ (nth_mem (by omega))) (pair_nth.1 h1 i (xs.length / 2 - 1) (by omega) (by omega)) hc
    by_cases e : k = 0
    · rw [e]; exact g1
    · exact hO.trans _ _ _ (b1 _ (nth_mem hi)) (b2 _ (nth_mem (by omega))) (b2 _ (nth_mem hk)) g1 (pair_nth.1 h2 0 k (by omega) hk)
  · exact mrg_ord hO _ _ b1 b2 h1 h2
theorem srtC_le {o : Nat → Nat → Int} {c : Nat → Nat → Nat} (hc : ∀ i k, c i k ≤ 2) : ∀ (b : Nat) (xs : List Nat), xs.length ≤ 2 ^ b → srtC o c xs ≤ 2 * xs.length * b
  | 0, xs, h => by rw [srtC_small (by simp at h; omega)]; exact Nat.zero_le _
  | b + 1, xs, h => by
    by_cases hs : xs.length < 2
    · rw [srtC_small hs]; exact Nat.zero_le _
    rw [Nat.pow_succ] at h
    have l1 : (xs.take (xs.length / 2)).length = xs.length / 2 := by rw [List.length_take]; omega
    have l2 : (xs.drop (xs.length / 2)).length = xs.length - xs.length / 2 := by rw [List.length_drop]
    have h1 := srtC_le (o := o) hc b (xs.take (xs.length / 2)) (by omega)
    have h2 := srtC_le (o := o) hc b (xs.drop (xs.length / 2)) (by omega)
    rw [l1] at h1
    rw [l2] at h2
    have h3 := mrgC_le (o := o) hc (srt o (xs.take (xs.length / 2))) (srt o (xs.drop (xs.length / 2)))
    rw [srt_len, srt_len, l1, l2] at h3
    have h4 := hc (snth (srt o (xs.take (xs.length / 2))) (xs.length / 2 - 1)) (snth (srt o (xs.drop (xs.length / 2))) 0)
    have h5 : 2 * (xs.length / 2) * b + 2 * (xs.length - xs.length / 2) * b = 2 * xs.length * b := by
      rw [← Nat.add_mul]; congr 1; omega
    have h6 : 2 * xs.length * (b + 1) = 2 * xs.length * b + 2 * xs.length := by rw [Nat.mul_add, Nat.mul_one]
    rw [srtC_cut hs rfl rfl, h6]
    split <;> omega
/-- How many unlike ones lie ahead. -/
def unl (o : Nat → Nat → Int) (A : List Nat) : Nat → Nat
  | 0 => 0
  | j + 1 => unl o A j + if o (snth A j) (snth A (j + 1)) = 0 then 0 else 1
def rnkC (c : Nat → Nat → Nat) (A : List Nat) : Nat → Nat
  | 0 => 0
  | j + 1 => rnkC c A j + c (snth A j) (snth A (j + 1))
theorem unl_add (o : Nat → Nat → Int) (A : List Nat) (a : Nat) : ∀ d, unl o A a ≤ unl o A (a + d) ∧ unl o A (a + d) ≤ unl o A a + d
  | 0 => ⟨Nat.le_refl _, Nat.le_refl _⟩
  | d + 1 => by
    have := unl_add o A a d
    rw [← Nat.add_assoc, unl]
    split <;> omega
theorem unl_mono {o : Nat → Nat → Int} {A : List Nat} {a b : Nat} (h : a ≤ b) : unl o A a ≤ unl o A b := by
  have := (unl_add o A a (b - a)).1
  rw [show a + (b - a) = b by omega] at this
  exact this
theorem unl_le (o : Nat → Nat → Int) (A : List Nat) (j : Nat) : unl o A j ≤ j := by
  have := (unl_add o A 0 j).2
  simp [unl] at this
  exact this
theorem unl_full {o : Nat → Nat → Int} {A : List Nat} {m j : Nat} (h : unl o A m = m) (hj : j ≤ m) : unl o A j = j := by
  have h1 := (unl_add o A j (m - j)).2
  rw [show j + (m - j) = m by omega, h] at h1
  have h2 := unl_le o A j
  omega
theorem rnkC_le {c : Nat → Nat → Nat} (A : List Nat) (hc : ∀ i k, c i k ≤ 2) : ∀ j, rnkC c A j ≤ 2 * j
  | 0 => Nat.le_refl _
  | j + 1 => by
    have := rnkC_le A hc j
    have := hc (snth A j) (snth A (j + 1))
    rw [rnkC]
    omega
theorem rnkC_ge {c : Nat → Nat → Nat} (A : List Nat) (hc : ∀ i k, 1 ≤ c i k) : ∀ j, j ≤ rnkC c A j
  | 0 => Nat.le_refl _
  | j + 1 => by
    have := rnkC_ge A hc j
    have := hc (snth A j) (snth A (j + 1))
    rw [rnkC]
    omega
/-- An order by keys. -/
structure KeyP (o : Nat → Nat → Int) (T : Nat → List Int) (n : Nat) : Prop where
  lt : ∀ i k, i < n → k < n → (o i k < 0 ↔ ltL (T i) (T k) = true)
  eq : ∀ i k, i < n → k < n → (o i k = 0 ↔ T i = T k)
theorem ltL_asym {xs ys : List Int} (h : ltL xs ys = true) : ltL ys xs = false := by
  cases h2 : ltL ys xs with
  | false => rfl
  | true =>
    have := ltL_trans h h2
    rw [ltL_same] at this
    cases this
theorem KeyP.le {o : Nat → Nat → Int} {T : Nat → List Int} {n : Nat} (h : KeyP o T n) {i k : Nat} (hi : i < n) (hk : k < n) : o i k ≤ 0 ↔ ltL (T i) (T k) = true ∨ T i = T k := by
  rw [← h.lt i k hi hk, ← h.eq i k hi hk]
  omega
theorem KeyP.ord {o : Nat → Nat → Int} {T : Nat → List Int} {n : Nat} (h : KeyP o T n) : OrdP o n where
  tot := fun i k hi hk hn => by
    rw [h.le hk hi]
    by_cases e : T k = T i
    · exact .inr e
    · rcases ltL_total e with x | x
      · exact .inl x
      · exact absurd ((h.lt i k hi hk).2 x) hn
  trans := fun i j k hi hj hk h1 h2 => by
    rw [h.le hi hj] at h1
    rw [h.le hj hk] at h2
    rw [h.le hi hk]
    rcases h1 with h1 | h1
    · rcases h2 with h2 | h2
      · exact .inl (ltL_trans h1 h2)
      · rw [← h2]; exact .inl h1
    · rw [h1]; exact h2
theorem unl_eq {o : Nat → Nat → Int} {T : Nat → List Int} {n : Nat} (h : KeyP o T n) {A : List Nat} (hA : ∀ x ∈ A, x < n) (hp : A.Pairwise fun i k => o i k ≤ 0) (a : Nat) : ∀ d, a + d < A.length → (unl o A a = unl o A (a + d) ↔ T (snth A a) = T (snth A (a + d)))
  | 0, _ => by simp
  | d + 1, hd => by
    have ih := unl_eq h hA hp a d (by omega)
    have b0 := hA _ (nth_mem (i := a) (A := A) (by omega))
    have b1 := hA _ (nth_mem (i := a + d) (A := A) (by omega))
    have b2 := hA _ (nth_mem (i := a + d + 1) (A := A) (by omega))
    have m1 := (unl_add o A a d).1
    have e1 := h.eq _ _ b1 b2
    rw [← Nat.add_assoc, unl]
    by_cases hz : o (snth A (a + d)) (snth A (a + d + 1)) = 0
    · rw [if_pos hz, Nat.add_zero, ih, e1.1 hz]
    · rw [if_neg hz]
      constructor
      · intro hh; omega
      · intro hh
        exfalso
        have l1 : ltL (T (snth A (a + d))) (T (snth A (a + d + 1))) = true := by
          rcases (h.le b1 b2).1 (pair_nth.1 hp (a + d) (a + d + 1) (by omega) hd) with x | x
          · exact x
          · exact absurd (e1.2 x) hz
        by_cases hd0 : d = 0
        · subst hd0
          rw [← hh] at l1
          rw [Nat.add_zero, ltL_same] at l1
          cases l1
        · have l2 := (h.le b0 b1).1 (pair_nth.1 hp a (a + d) (by omega) (by omega))
          rw [← hh] at l1
          rcases l2 with x | x
          · rw [ltL_asym x] at l1; cases l1
          · rw [x, ltL_same] at l1; cases l1
theorem unl_key {o : Nat → Nat → Int} {T : Nat → List Int} {n : Nat} (h : KeyP o T n) {A : List Nat} (hA : ∀ x ∈ A, x < n) (hp : A.Pairwise fun i k => o i k ≤ 0) {a b : Nat} (ha : a < A.length) (hb : b < A.length) : (unl o A a = unl o A b ↔ T (snth A a) = T (snth A b)) ∧ (unl o A a < unl o A b ↔ ltL (T (snth A a)) (T (snth A b)) = true) := by
  have key : ∀ {a b : Nat}, a ≤ b → b < A.length → (unl o A a = unl o A b ↔ T (snth A a) = T (snth A b)) := fun {a b} hab hb => by
    have := unl_eq h hA hp a (b - a) (by omega)
    rw [show a + (b - a) = b by omega] at this
    exact this
  have leq : ∀ {a b : Nat}, a ≤ b → b < A.length → (ltL (T (snth A a)) (T (snth A b)) = true ∨ T (snth A a) = T (snth A b)) := fun {a b} hab hb => by
    by_cases e : a = b
    · exact .inr (by rw [e])
    · exact (h.le (hA _ (nth_mem (by omega))) (hA _ (nth_mem hb))).1 (pair_nth.1 hp a b (by omega) hb)
  rcases Nat.le_total a b with hab | hab
  · refine ⟨key hab hb, ?_⟩
    have m := unl_mono (o := o) (A := A) hab
    have k1 := key hab hb
    constructor
    · intro hh
      rcases leq hab hb with x | x
      · exact x
      · have := k1.2 x; omega
    · intro hh
      have : ¬ unl o A a = unl o A b := fun e => by
        rw [k1.1 e, ltL_same] at hh; cases hh
      omega
  · have k1 := key hab ha
    refine ⟨⟨fun e => (k1.1 e.symm).symm, fun e => (k1.2 e.symm).symm⟩, ?_⟩
    have m := unl_mono (o := o) (A := A) hab
    constructor
    · intro hh; omega
    · intro hh
      rcases leq hab ha with x | x
      · rw [ltL_asym x] at hh; cases hh
      · rw [x, ltL_same] at hh; cases hh

end Go.Proofs.Ythhfkcmoncgknaa
