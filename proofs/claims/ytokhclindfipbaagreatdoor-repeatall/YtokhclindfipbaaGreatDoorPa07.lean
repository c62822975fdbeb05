/-
  What the statements need of the program: Prefixes, Least and Group of common, by what they answer. The program's sorting, plain: merging, halves, how many it asks. Doubled steps, plain: behind the round of step s ranks tell the order of the first 2 s numbers; the end; the cost. A merging under way, plain.
-/
import Derived.Test.YtokhclindfipbaaGreatDoorProg
import Derived.WalkKit
import Derived.WalkSpells
import Derived.WalkLawsBesides
import Derived.RowKit3
import Derived.Below
import Derived.Deep.QuietTactic
import Derived.BigQuiet
import Derived.WalkSmall
import Derived.Laws.Rows
import Derived.Test.YtokhclindfipbaaGreatDoorPa05
import Derived.Test.YtokhclindfipbaaGreatDoorPa06
import Derived.Test.YtokhclindfipbaaGreatDoorPa04
namespace Go.Proofs.YtokhclindfipbaaGreatDoor
open Go.RowKit

def Rng (i : Int) : Prop := -9223372036854775808 ≤ i ∧ i ≤ 9223372036854775807
/-- What Prefixes answers of a list and its array. -/
def PxR (l : List Int) (w : World) (e : Ending) (w' : World) : Prop := ∃ (A : Option Addr) (k : Nat), e = .returned (.tuple #[.slice A l.length k, .int .i64 (ccI l), .int .i64 0]) ∧ w'.ownsRow w.heap.size 3 1 (.slice A l.length k) l.length (iVals .i64 (cpA l)) ∧ Below w.heap.size w w'
def PxN (w : World) (e : Ending) (w' : World) : Prop := e = .returned (.tuple #[.slice none 0 0, .int .i64 0, .int .i64 1]) ∧ Below w.heap.size w w'
structure PrefixesOK : Prop where
  ok : ∀ (A B : Option Addr) (c d : Nat) (l : List Int) (w : World), IntsAt w A .i64 l → (∀ i, i < l.length → Rng (nth l i)) → l.length ≤ 2048 → IntsAt w B .i64 (sufL l) → Calls Tryz.prog 63 #[.slice A l.length c, .slice B l.length d] w (PxR l w)
  no : ∀ (A B : Option Addr) (c d : Nat) (l a : List Int) (w : World), IntsAt w A .i64 l → (∀ i, i < l.length → Rng (nth l i)) → l.length ≤ 2048 → IntsAt w B .i64 a → a.length ≤ 2048 → a ≠ sufL l → Calls Tryz.prog 63 #[.slice A l.length c, .slice B a.length d] w (PxN w)
def LeR (a b : Int) (w : World) (e : Ending) (w' : World) : Prop := e = .returned (.tuple #[.int .i64 a, .int .i64 b]) ∧ Below w.heap.size w w'
def GrR (a b c : Int) (w : World) (e : Ending) (w' : World) : Prop := e = .returned (.tuple #[.int .i64 a, .int .i64 b, .int .i64 c]) ∧ Below w.heap.size w w'
def GroupOK : Prop := ∀ (A : Option Addr) (c : Nat) (p : List Int) (i n : Int) (w : World), IntsAt w A .i64 p → p.length ≤ 16384 → Rng i → Rng n → Calls Tryz.prog 65 #[.slice A p.length c, .int .i64 i, .int .i64 n] w (GrR (gpF p i n) (gpT p i n) (gpE p i n) w)


end Go.Proofs.YtokhclindfipbaaGreatDoor

namespace Go.Proofs.YtokhclindfipbaaGreatDoor
open Go.RowKit

/-- How two numbers are held against one another. -/
def cmpI (a b : Int) : Int := if a < b then -1 else if b < a then 1 else 0
theorem cmpI_neg {a b : Int} : cmpI a b < 0 ↔ a < b := by
  unfold cmpI
  split
  · simp [*]
  · split <;> simp [*]
theorem cmpI_zero {a b : Int} : cmpI a b = 0 ↔ a = b := by
  unfold cmpI
  split
  · constructor <;> intro h <;> omega
  · split
    · constructor <;> intro h <;> omega
    · constructor
      · intro _; omega
      · intro _; rfl
theorem cmpI_range (a b : Int) : -1 ≤ cmpI a b ∧ cmpI a b ≤ 1 := by
  unfold cmpI
  split
  · decide
  · split <;> decide
/-- Two sorted lists become one. -/
def mrg (o : Nat → Nat → Int) : List Nat → List Nat → List Nat
  | [], R => R
  | l :: L, [] => l :: L
  | l :: L, r :: R => if o r l < 0 then r :: mrg o (l :: L) R else l :: mrg o L (r :: R)
termination_by L R => L.length + R.length
def mrgC (o : Nat → Nat → Int) (c : Nat → Nat → Nat) : List Nat → List Nat → Nat
  | [], _ => 0
  | _ :: _, [] => 0
  | l :: L, r :: R => c r l + if o r l < 0 then mrgC o c (l :: L) R else mrgC o c L (r :: R)
termination_by L R => L.length + R.length
theorem mrg_nil (o : Nat → Nat → Int) (R : List Nat) : mrg o [] R = R := by rw [mrg]
theorem mrg_out (o : Nat → Nat → Int) (L : List Nat) : mrg o L [] = L := by cases L <;> rw [mrg]
theorem mrg_right {o : Nat → Nat → Int} {l r : Nat} {L R : List Nat} (h : o r l < 0) : mrg o (l :: L) (r :: R) = r :: mrg o (l :: L) R := by rw [mrg, if_pos h]
theorem mrg_left {o : Nat → Nat → Int} {l r : Nat} {L R : List Nat} (h : ¬ o r l < 0) : mrg o (l :: L) (r :: R) = l :: mrg o L (r :: R) := by rw [mrg, if_neg h]
theorem mrgC_nil (o : Nat → Nat → Int) (c : Nat → Nat → Nat) (R : List Nat) : mrgC o c [] R = 0 := by rw [mrgC]
theorem mrgC_out (o : Nat → Nat → Int) (c : Nat → Nat → Nat) (L : List Nat) : mrgC o c L [] = 0 := by cases L <;> rw [mrgC]
theorem mrgC_right {o : Nat → Nat → Int} {c : Nat → Nat → Nat} {l r : Nat} {L R : List Nat} (h : o r l < 0) : mrgC o c (l :: L) (r :: R) = c r l + mrgC o c (l :: L) R := by rw [mrgC, if_pos h]
theorem mrgC_left {o : Nat → Nat → Int} {c : Nat → Nat → Nat} {l r : Nat} {L R : List Nat} (h : ¬ o r l < 0) : mrgC o c (l :: L) (r :: R) = c r l + mrgC o c L (r :: R) := by rw [mrgC, if_neg h]
theorem mrg_perm (o : Nat → Nat → Int) : ∀ L R : List Nat, (mrg o L R).Perm (L ++ R)
  | [], R => by rw [mrg_nil]; exact List.Perm.refl _
  | l :: L, [] => by rw [mrg_out, List.append_nil]
  | l :: L, r :: R => by
    by_cases h : o r l < 0
    · rw [mrg_right h]
      exact ((mrg_perm o (l :: L) R).cons r).trans List.perm_middle.symm
    · rw [mrg_left h]
      exact (mrg_perm o L (r :: R)).cons l
termination_by L R => L.length + R.length
theorem mrg_len (o : Nat → Nat → Int) (L R : List Nat) : (mrg o L R).length = L.length + R.length := by rw [(mrg_perm o L R).length_eq, List.length_append]
theorem mrgC_le {o : Nat → Nat → Int} {c : Nat → Nat → Nat} (hc : ∀ i k, c i k ≤ 2) : ∀ L R : List Nat, mrgC o c L R ≤ 2 * (L.length + R.length - 1)
  | [], R => by rw [mrgC_nil]; exact Nat.zero_le _
  | l :: L, [] => by rw [mrgC_out]; exact Nat.zero_le _
  | l :: L, r :: R => by
    have h0 := hc r l
    by_cases h : o r l < 0
    · rw [mrgC_right h]
      have := mrgC_le (o := o) hc (l :: L) R
      simp only [List.length_cons] at this ⊢
      omega
    · rw [mrgC_left h]
      have := mrgC_le (o := o) hc L (r :: R)
      simp only [List.length_cons] at this ⊢
      omega
termination_by L R => L.length + R.length
/-- An order of places below n. -/
structure OrdP (o : Nat → Nat → Int) (n : Nat) : Prop where
  tot : ∀ i k, i < n → k < n → ¬ o i k < 0 → o k i ≤ 0
  trans : ∀ i j k, i < n → j < n → k < n → o i j ≤ 0 → o j k ≤ 0 → o i k ≤ 0
theorem mrg_ord {o : Nat → Nat → Int} {n : Nat} (h : OrdP o n) : ∀ L R : List Nat, (∀ x ∈ L, x < n) → (∀ x ∈ R, x < n) → L.Pairwise (fun i k => o i k ≤ 0) → R.Pairwise (fun i k => o i k ≤ 0) → (mrg o L R).Pairwise (fun i k => o i k ≤ 0)
  | [], R => fun _ _ _ hR => by rw [mrg_nil]; exact hR
  | l :: L, [] => fun _ _ hL _ => by rw [mrg_out]; exact hL
  | l :: L, r :: R => fun bL bR hL hR => by
    have b1 := bL l List.mem_cons_self
    have b2 := bR r List.mem_cons_self
    obtain ⟨pl, pL⟩ := List.pairwise_cons.1 hL
    obtain ⟨pr, pR⟩ := List.pairwise_cons.1 hR
    by_cases hc : o r l < 0
    · rw [mrg_right hc, List.pairwise_cons]
      refine ⟨fun x hx => ?_, mrg_ord h (l :: L) R bL (fun x hx => bR x (List.mem_cons_of_mem _ hx)) hL pR⟩
      rcases List.mem_append.1 ((mrg_perm o (l :: L) R).mem_iff.1 hx) with hx | hx
      · rcases List.mem_cons.1 hx with rfl | hx2
        · omega
        · exact h.trans r l x b2 b1 (bL x hx) (by omega) (pl x hx2)
      · exact pr x hx
    · rw [mrg_left hc, List.pairwise_cons]
      have hlr := h.tot r l b2 b1 hc
      refine ⟨fun x hx => ?_, mrg_ord h L (r :: R) (fun x hx => bL x (List.mem_cons_of_mem _ hx)) bR pL hR⟩
      rcases List.mem_append.1 ((mrg_perm o L (r :: R)).mem_iff.1 hx) with hx | hx
      · exact pl x hx
      · rcases List.mem_cons.1 hx with rfl | hx2
        · exact hlr
        · exact h.trans l r x b1 b2 (bR x hx) hlr (pr x hx2)
termination_by L R => L.length + R.length
/-- The program's sorting. -/
def srt (o : Nat → Nat → Int) (xs : List Nat) : List Nat :=
  if h : xs.length < 2 then xs else
    if o (snth (srt o (xs.take (xs.length / 2))) (xs.length / 2 - 1)) (snth (srt o (xs.drop (xs.length / 2))) 0) ≤ 0 then srt o (xs.take (xs.length / 2)) ++ srt o (xs.drop (xs.length / 2))
    else mrg o (srt o (xs.take (xs.length / 2))) (srt o (xs.drop (xs.length / 2)))
termination_by xs.length
decreasing_by all_goals (simp only [List.length_take, List.length_drop]; omega)
def srtC (o : Nat → Nat → Int) (c : Nat → Nat → Nat) (xs : List Nat) : Nat :=
  if _h : xs.length < 2 then 0 else
    srtC o c (xs.take (xs.length / 2)) + srtC o c (xs.drop (xs.length / 2)) + c (snth (srt o (xs.take (xs.length / 2))) (xs.length / 2 - 1)) (snth (srt o (xs.drop (xs.length / 2))) 0) + (if o (snth (srt o (xs.take (xs.length / 2))) (xs.length / 2 - 1)) (snth (srt o (xs.drop (xs.length / 2))) 0) ≤ 0 then 0 else mrgC o c (srt o (xs.take (xs.length / 2))) (srt o (xs.drop (xs.length / 2))))
termination_by xs.length
decreasing_by all_goals (simp only [List.length_take, List.length_drop]; omega)
theorem srt_small {o : Nat → Nat → Int} {xs : List Nat} (h : xs.length < 2) : srt o xs = xs := by rw [srt, dif_pos h]
theorem srtC_small {o : Nat → Nat → Int} {c : Nat → Nat → Nat} {xs : List Nat} (h : xs.length < 2) : srtC o c xs = 0 := by rw [srtC, dif_pos h]
/-- A list is cut in two, each is sorted. -/
theorem srt_cut {o : Nat → Nat → Int} {xs L R : List Nat} (h : ¬ xs.length < 2) (hL : srt o (xs.take (xs.length / 2)) = L) (hR : srt o (xs.drop (xs.length / 2)) = R) : srt o xs = if o (snth L (xs.length / 2 - 1)) (snth R 0) ≤ 0 then L ++ R else mrg o L R := by rw [srt, dif_neg h, hL, hR]
theorem srtC_cut {o : Nat → Nat → Int} {c : Nat → Nat → Nat} {xs L R : List Nat} (h : ¬ xs.length < 2) (hL : srt o (xs.take (xs.length / 2)) = L) (hR : srt o (xs.drop (xs.length / 2)) = R) : srtC o c xs = srtC o c (xs.take (xs.length / 2)) + srtC o c (xs.drop (xs.length / 2)) + c (snth L (xs.length / 2 - 1)) (snth R 0) + (if o (snth L (xs.length / 2 - 1)) (snth R 0) ≤ 0 then 0 else mrgC o c L R) := by rw [srtC, dif_neg h, hL, hR]
theorem srt_perm (o : Nat → Nat → Int) (n : Nat) : ∀ xs : List Nat, xs.length = n → (srt o xs).Perm xs := by
  induction n using Nat.strongRecOn with
  | _ n ih =>
  intro xs hn
  by_cases h : xs.length < 2
  · rw [srt_small h]
  have h1 := ih _ (by simp only [List.length_take]; omega) (xs.take (xs.length / 2)) rfl
  have h2 := ih _ (by simp only [List.length_drop]; omega) (xs.drop (xs.length / 2)) rfl
  have h3 : (srt o (xs.take (xs.length / 2)) ++ srt o (xs.drop (xs.length / 2))).Perm xs := by
    have := h1.append h2
    rw [List.take_append_drop] at this
    exact this
  rw [srt_cut h rfl rfl]
  split
  · exact h3
  · exact (mrg_perm _ _ _).trans h3
theorem srt_len (o : Nat → Nat → Int) (xs : List Nat) : (srt o xs).length = xs.length := (srt_perm o _ xs rfl).length_eq
theorem srt_mem {o : Nat → Nat → Int} {xs : List Nat} {x : Nat} : x ∈ srt o xs ↔ x ∈ xs := (srt_perm o _ xs rfl).mem_iff
theorem pair_nth {q : Nat → Nat → Prop} {A : List Nat} : A.Pairwise q ↔ ∀ i k, i < k → k < A.length → q (snth A i) (snth A k) := by
  rw [List.pairwise_iff_getElem]
  constructor
  · intro h i k hik hk
    have := h i k (by omega) hk hik
    simpa [snth, hk, show i < A.length by omega] using this
  · intro h i k hi hk hik
    have := h i k hik hk
    simpa [snth, hk, hi] using this
theorem mem_snthS {A : List Nat} {x : Nat} (h : x ∈ A) : ∃ i, i < A.length ∧ snth A i = x := by
  obtain ⟨i, hi, e⟩ := List.getElem_of_mem h
  exact ⟨i, hi, by simp [snth, hi, e]⟩
theorem snth_memS {A : List Nat} {i : Nat} (h : i < A.length) : snth A i ∈ A := List.mem_of_getElem? (snth_get h)
theorem srt_ord {o : Nat → Nat → Int} {m : Nat} (hO : OrdP o m) (n : Nat) : ∀ xs : List Nat, xs.length = n → (∀ x ∈ xs, x < m) → (srt o xs).Pairwise (fun i k => o i k ≤ 0) := by
  induction n using Nat.strongRecOn with
  | _ n ih =>
  intro xs hn hb
  by_cases h : xs.length < 2
  · rw [srt_small h, pair_nth]
    intro i k hik hk
    omega
  have b1 : ∀ x ∈ srt o (xs.take (xs.length / 2)), x < m := fun x hx => hb x (List.mem_of_mem_take (srt_mem.1 hx))
  have b2 : ∀ x ∈ srt o (xs.drop (xs.length / 2)), x < m := fun x hx => hb x (List.mem_of_mem_drop (srt_mem.1 hx))
  have h1 := ih _ (by simp only [List.length_take]; omega) (xs.take (xs.length / 2)) rfl fun x hx => hb x (List.mem_of_mem_take hx)
  have h2 := ih _ (by simp only [List.length_drop]; omega) (xs.drop (xs.length / 2)) rfl fun x hx => hb x (List.mem_of_mem_drop hx)
  have l1 : (srt o (xs.take (xs.length / 2))).length = xs.length / 2 := by rw [srt_len, List.length_take]; omega
  have l2 : (srt o (xs.drop (xs.length / 2))).length = xs.length - xs.length / 2 := by rw [srt_len, List.length_drop]
  rw [srt_cut h rfl rfl]
  split
  · rename_i hc
    rw [List.pairwise_append]
    refine ⟨h1, h2, fun x hx y hy => ?_⟩
    obtain ⟨i, hi, rfl⟩ := mem_snthS hx
    obtain ⟨k, hk, rfl⟩ := mem_snthS hy
    have g1 : o (snth (srt o (xs.take (xs.length / 2))) i) (snth (srt o (xs.drop (xs.length / 2))) 0) ≤ 0 := by
      by_cases e : i = xs.length / 2 - 1
      · rw [e]; exact hc
      · exact hO.trans _ _ _ (b1 _ (snth_memS hi)) (b1 _ (snth_memS (by omega))) (b2 _ (snth_memS (by omega))) (pair_nth.1 h1 i (xs.length / 2 - 1) (by omega) (by omega)) hc
    by_cases e : k = 0
    · rw [e]; exact g1
    · exact hO.trans _ _ _ (b1 _ (snth_memS hi)) (b2 _ (snth_memS (by omega))) (b2 _ (snth_memS hk)) g1 (pair_nth.1 h2 0 k (by omega) hk)
  · exact mrg_ord hO _ _ b1 b2 h1 h2
theorem srtC_le {o : Nat → Nat → Int} {c : Nat → Nat → Nat} (hc : ∀ i k, c i k ≤ 2) : ∀ (b : Nat) (xs : List Nat), xs.length ≤ 2 ^ b → srtC o c xs ≤ 2 * xs.length * b
  | 0, xs, h => by rw [srtC_small (by simp at h; omega)]; exact Nat.zero_le _
  | b + 1, xs, h => by
    by_cases hs : xs.length < 2
    · rw [srtC_small hs]; exact Nat.zero_le _
    rw [Nat.pow_succ] at h
    have l1 : (xs.take (xs.length / 2)).length = xs.length / 2 := by rw [List.length_take]; omega
    have l2 : (xs.drop (xs.length / 2)).length = xs.length - xs.length / 2 := by rw [List.length_drop]
    have h1 := srtC_le (o := o) hc b (xs.take (xs.length / 2)) (by omega)
    have h2 := srtC_le (o := o) hc b (xs.drop (xs.length / 2)) (by omega)
    rw [l1] at h1
    rw [l2] at h2
    have h3 := mrgC_le (o := o) hc (srt o (xs.take (xs.length / 2))) (srt o (xs.drop (xs.length / 2)))
    rw [srt_len, srt_len, l1, l2] at h3
    have h4 := hc (snth (srt o (xs.take (xs.length / 2))) (xs.length / 2 - 1)) (snth (srt o (xs.drop (xs.length / 2))) 0)
    have h5 : 2 * (xs.length / 2) * b + 2 * (xs.length - xs.length / 2) * b = 2 * xs.length * b := by
      rw [← Nat.add_mul]; congr 1; omega
    have h6 : 2 * xs.length * (b + 1) = 2 * xs.length * b + 2 * xs.length := by rw [Nat.mul_add, Nat.mul_one]
    rw [srtC_cut hs rfl rfl, h6]
    split <;> omega
/-- How many unlike ones lie ahead. -/
def unl (o : Nat → Nat → Int) (A : List Nat) : Nat → Nat
  | 0 => 0
  | j + 1 => unl o A j + if o (snth A j) (snth A (j + 1)) = 0 then 0 else 1
def rnkC (c : Nat → Nat → Nat) (A : List Nat) : Nat → Nat
  | 0 => 0
  | j + 1 => rnkC c A j + c (snth A j) (snth A (j + 1))
theorem unl_add (o : Nat → Nat → Int) (A : List Nat) (a : Nat) : ∀ d, unl o A a ≤ unl o A (a + d) ∧ unl o A (a + d) ≤ unl o A a + d
  | 0 => ⟨Nat.le_refl _, Nat.le_refl _⟩
  | d + 1 => by
    have := unl_add o A a d
    rw [← Nat.add_assoc, unl]
    split <;> omega
theorem unl_mono {o : Nat → Nat → Int} {A : List Nat} {a b : Nat} (h : a ≤ b) : unl o A a ≤ unl o A b := by
  have := (unl_add o A a (b - a)).1
  rw [show a + (b - a) = b by omega] at this
  exact this
theorem unl_le (o : Nat → Nat → Int) (A : List Nat) (j : Nat) : unl o A j ≤ j := by
  have := (unl_add o A 0 j).2
  simp [unl] at this
  exact this
theorem unl_full {o : Nat → Nat → Int} {A : List Nat} {m j : Nat} (h : unl o A m = m) (hj : j ≤ m) : unl o A j = j := by
  have h1 := (unl_add o A j (m - j)).2
  rw [show j + (m - j) = m by omega, h] at h1
  have h2 := unl_le o A j
  omega
theorem rnkC_le {c : Nat → Nat → Nat} (A : List Nat) (hc : ∀ i k, c i k ≤ 2) : ∀ j, rnkC c A j ≤ 2 * j
  | 0 => Nat.le_refl _
  | j + 1 => by
    have := rnkC_le A hc j
    have := hc (snth A j) (snth A (j + 1))
    rw [rnkC]
    omega
theorem rnkC_ge {c : Nat → Nat → Nat} (A : List Nat) (hc : ∀ i k, 1 ≤ c i k) : ∀ j, j ≤ rnkC c A j
  | 0 => Nat.le_refl _
  | j + 1 => by
    have := rnkC_ge A hc j
    have := hc (snth A j) (snth A (j + 1))
    rw [rnkC]
    omega
/-- An order by keys. -/
structure KeyP (o : Nat → Nat → Int) (T : Nat → List Int) (n : Nat) : Prop where
  lt : ∀ i k, i < n → k < n → (o i k < 0 ↔ ltL (T i) (T k) = true)
  eq : ∀ i k, i < n → k < n → (o i k = 0 ↔ T i = T k)
theorem ltL_asym {xs ys : List Int} (h : ltL xs ys = true) : ltL ys xs = false := by
  cases h2 : ltL ys xs with
  | false => rfl
  | true =>
    have := ltL_trans h h2
    rw [ltL_same] at this
    cases this
theorem KeyP.le {o : Nat → Nat → Int} {T : Nat → List Int} {n : Nat} (h : KeyP o T n) {i k : Nat} (hi : i < n) (hk : k < n) : o i k ≤ 0 ↔ ltL (T i) (T k) = true ∨ T i = T k := by
  rw [← h.lt i k hi hk, ← h.eq i k hi hk]
  omega
theorem KeyP.ord {o : Nat → Nat → Int} {T : Nat → List Int} {n : Nat} (h : KeyP o T n) : OrdP o n where
  tot := fun i k hi hk hn => by
    rw [h.le hk hi]
    by_cases e : T k = T i
    · exact .inr e
    · rcases ltL_total e with x | x
      · exact .inl x
      · exact absurd ((h.lt i k hi hk).2 x) hn
  trans := fun i j k hi hj hk h1 h2 => by
    rw [h.le hi hj] at h1
    rw [h.le hj hk] at h2
    rw [h.le hi hk]
    rcases h1 with h1 | h1
    · rcases h2 with h2 | h2
      · exact .inl (ltL_trans h1 h2)
      · rw [← h2]; exact .inl h1
    · rw [h1]; exact h2
theorem unl_eq {o : Nat → Nat → Int} {T : Nat → List Int} {n : Nat} (h : KeyP o T n) {A : List Nat} (hA : ∀ x ∈ A, x < n) (hp : A.Pairwise fun i k => o i k ≤ 0) (a : Nat) : ∀ d, a + d < A.length → (unl o A a = unl o A (a + d) ↔ T (snth A a) = T (snth A (a + d)))
  | 0, _ => by simp
  | d + 1, hd => by
    have ih := unl_eq h hA hp a d (by omega)
    have b0 := hA _ (snth_memS (i := a) (A := A) (by omega))
    have b1 := hA _ (snth_memS (i := a + d) (A := A) (by omega))
    have b2 := hA _ (snth_memS (i := a + d + 1) (A := A) (by omega))
    have m1 := (unl_add o A a d).1
    have e1 := h.eq _ _ b1 b2
    rw [← Nat.add_assoc, unl]
    by_cases hz : o (snth A (a + d)) (snth A (a + d + 1)) = 0
    · rw [if_pos hz, Nat.add_zero, ih, e1.1 hz]
    · rw [if_neg hz]
      constructor
      · intro hh; omega
      · intro hh
        exfalso
        have l1 : ltL (T (snth A (a + d))) (T (snth A (a + d + 1))) = true := by
          rcases (h.le b1 b2).1 (pair_nth.1 hp (a + d) (a + d + 1) (by omega) hd) with x | x
          · exact x
          · exact absurd (e1.2 x) hz
        by_cases hd0 : d = 0
        · subst hd0
          rw [← hh] at l1
          rw [Nat.add_zero, ltL_same] at l1
          cases l1
        · have l2 := (h.le b0 b1).1 (pair_nth.1 hp a (a + d) (by omega) (by omega))
          rw [← hh] at l1
          rcases l2 with x | x
          · rw [ltL_asym x] at l1; cases l1
          · rw [x, ltL_same] at l1; cases l1
theorem unl_key {o : Nat → Nat → Int} {T : Nat → List Int} {n : Nat} (h : KeyP o T n) {A : List Nat} (hA : ∀ x ∈ A, x < n) (hp : A.Pairwise fun i k => o i k ≤ 0) {a b : Nat} (ha : a < A.length) (hb : b < A.length) : (unl o A a = unl o A b ↔ T (snth A a) = T (snth A b)) ∧ (unl o A a < unl o A b ↔ ltL (T (snth A a)) (T (snth A b)) = true) := by
  have key : ∀ {a b : Nat}, a ≤ b → b < A.length → (unl o A a = unl o A b ↔ T (snth A a) = T (snth A b)) := fun {a b} hab hb => by
    have := unl_eq h hA hp a (b - a) (by omega)
    rw [show a + (b - a) = b by omega] at this
    exact this
  have leq : ∀ {a b : Nat}, a ≤ b → b < A.length → (ltL (T (snth A a)) (T (snth A b)) = true ∨ T (snth A a) = T (snth A b)) := fun {a b} hab hb => by
    by_cases e : a = b
    · exact .inr (by rw [e])
    · exact (h.le (hA _ (snth_memS (by omega))) (hA _ (snth_memS hb))).1 (pair_nth.1 hp a b (by omega) hb)
  rcases Nat.le_total a b with hab | hab
  · refine ⟨key hab hb, ?_⟩
    have m := unl_mono (o := o) (A := A) hab
    have k1 := key hab hb
    constructor
    · intro hh
      rcases leq hab hb with x | x
      · exact x
      · have := k1.2 x; omega
    · intro hh
      have : ¬ unl o A a = unl o A b := fun e => by
        rw [k1.1 e, ltL_same] at hh; cases hh
      omega
  · have k1 := key hab ha
    refine ⟨⟨fun e => (k1.1 e.symm).symm, fun e => (k1.2 e.symm).symm⟩, ?_⟩
    have m := unl_mono (o := o) (A := A) hab
    constructor
    · intro hh; omega
    · intro hh
      rcases leq hab ha with x | x
      · rw [ltL_asym x] at hh; cases hh
      · rw [x, ltL_same] at hh; cases hh




end Go.Proofs.YtokhclindfipbaaGreatDoor

namespace Go.Proofs.YtokhclindfipbaaGreatDoor
open Go.RowKit

/-- What is compared of two places. -/
def ordV (r : List Int) (n s i k : Nat) : Int := if cmpI (nth r i) (nth r k) = 0 then (if n ≤ max i k + s then cmpI (k : Int) (i : Int) else cmpI (nth r (i + s)) (nth r (k + s))) else cmpI (nth r i) (nth r k)
def ordC (r : List Int) (n s i k : Nat) : Nat := if cmpI (nth r i) (nth r k) = 0 then (if n ≤ max i k + s then 1 else 2) else 1
theorem ordC_le (r : List Int) (n s i k : Nat) : ordC r n s i k ≤ 2 := by
  unfold ordC
  split
  · split <;> decide
  · decide
theorem ordC_ge (r : List Int) (n s i k : Nat) : 1 ≤ ordC r n s i k := by
  unfold ordC
  split
  · split <;> decide
  · decide
theorem ordV_range (r : List Int) (n s i k : Nat) : -1 ≤ ordV r n s i k ∧ ordV r n s i k ≤ 1 := by
  unfold ordV
  split
  · split <;> exact cmpI_range _ _
  · exact cmpI_range _ _
/-- One round. -/
def nxA (n : Nat) (r : List Int) (s : Nat) (A : List Nat) : List Nat := srt (ordV r n s) A
def nxR (n : Nat) (r : List Int) (s : Nat) (A : List Nat) : List Int := (List.range n).map fun p => ((unl (ordV r n s) (nxA n r s A) ((nxA n r s A).idxOf p) : Nat) : Int)
def nxC (n : Nat) (r : List Int) (s : Nat) (A : List Nat) : Nat := srtC (ordV r n s) (ordC r n s) A + rnkC (ordC r n s) (nxA n r s A) (n - 1)
def nxU (n : Nat) (r : List Int) (s : Nat) (A : List Nat) : Nat := unl (ordV r n s) (nxA n r s A) (n - 1) + 1
/-- How much all rounds cost. -/
def dbl (n : Nat) : Nat → List Nat → List Int → Nat → Nat → Nat
  | 0, _, _, _, c => c
  | f + 1, A, r, s, c => if nxU n r s A = n then c + nxC n r s A else dbl n f (nxA n r s A) (nxR n r s A) (2 * s) (c + nxC n r s A)
def cstN (l : List Int) : Nat := if l.length = 0 then 0 else dbl l.length l.length (List.range l.length) l 1 0
/-- What a suffix begins with. -/
def trn (l : List Int) (s i : Nat) : List Int := (l.drop i).take s
structure Rk (l r : List Int) (s : Nat) : Prop where
  len : r.length = l.length
  pos : 1 ≤ s
  lt : ∀ i k, i < l.length → k < l.length → (nth r i < nth r k ↔ ltL (trn l s i) (trn l s k) = true)
  eq : ∀ i k, i < l.length → k < l.length → (nth r i = nth r k ↔ trn l s i = trn l s k)
theorem trn_one {l : List Int} {i : Nat} (h : i < l.length) : trn l 1 i = [nth l i] := by
  unfold trn
  rw [drop_nth h]; rfl
theorem Rk.start (l : List Int) : Rk l l 1 where
  len := rfl
  pos := Nat.le_refl _
  lt := fun i k hi hk => by
    rw [trn_one hi, trn_one hk, ltL]
    by_cases e : nth l i = nth l k
    · rw [if_pos e, e]; simp [ltL]
    · rw [if_neg e, decide_eq_true_iff]
  eq := fun i k hi hk => by
    rw [trn_one hi, trn_one hk]
    simp
theorem ltL_take : ∀ (s : Nat) {xs ys : List Int}, ltL (xs.take s) (ys.take s) = true → ltL xs ys = true
  | 0, xs, ys, h => by simp [ltL] at h
  | s + 1, [], ys, h => by
    rw [ltL_nil, decide_eq_true_iff]
    cases ys with
    | nil => simp [ltL] at h
    | cons y ys => simp
  | s + 1, x :: xs, [], h => by simp [ltL] at h
  | s + 1, x :: xs, y :: ys, h => by
    rw [List.take_succ_cons, List.take_succ_cons, ltL] at h
    rw [ltL]
    by_cases e : x = y
    · rw [if_pos e] at h ⊢
      exact ltL_take s h
    · rw [if_neg e] at h ⊢
      exact h
theorem ltL_drop : ∀ (s : Nat) {xs ys : List Int}, xs.take s = ys.take s → ltL xs ys = ltL (xs.drop s) (ys.drop s)
  | 0, xs, ys, _ => by simp
  | s + 1, [], [], _ => by simp
  | s + 1, [], y :: ys, h => by simp at h
  | s + 1, x :: xs, [], h => by simp at h
  | s + 1, x :: xs, y :: ys, h => by
    rw [List.take_succ_cons, List.take_succ_cons] at h
    injection h with h1 h2
    rw [ltL, if_pos h1, List.drop_succ_cons, List.drop_succ_cons]
    exact ltL_drop s h2
theorem trn_take (l : List Int) (s i : Nat) : (trn l (2 * s) i).take s = trn l s i := by
  unfold trn
  rw [List.take_take, show min s (2 * s) = s by omega]
theorem trn_drop (l : List Int) (s i : Nat) : (trn l (2 * s) i).drop s = trn l s (i + s) := by
  unfold trn
  rw [List.drop_take, List.drop_drop, show 2 * s - s = s by omega]
theorem trn_len (l : List Int) (s i : Nat) : (trn l s i).length = min s (l.length - i) := by
  unfold trn
  rw [List.length_take, List.length_drop]
theorem trn_nil {l : List Int} {s i : Nat} (h : l.length ≤ i) : trn l s i = [] := by
  unfold trn
  rw [List.drop_eq_nil_of_le h, List.take_nil]
theorem Rk.key {l r : List Int} {s : Nat} (h : Rk l r s) : KeyP (ordV r l.length s) (trn l (2 * s)) l.length := by
  have main : ∀ i k, i < l.length → k < l.length → (ordV r l.length s i k < 0 ↔ ltL (trn l (2 * s) i) (trn l (2 * s) k) = true) ∧ (ordV r l.length s i k = 0 ↔ trn l (2 * s) i = trn l (2 * s) k) := fun i k hi hk => by
    have hp := h.pos
    unfold ordV
    by_cases e : cmpI (nth r i) (nth r k) = 0
    · rw [if_pos e]
      have et : trn l s i = trn l s k := (h.eq i k hi hk).1 (cmpI_zero.1 e)
      have ht : (trn l (2 * s) i).take s = (trn l (2 * s) k).take s := by rw [trn_take, trn_take, et]
      have e1 : ltL (trn l (2 * s) i) (trn l (2 * s) k) = ltL (trn l s (i + s)) (trn l s (k + s)) := by rw [ltL_drop s ht, trn_drop, trn_drop]
      have e2 : trn l (2 * s) i = trn l (2 * s) k ↔ trn l s (i + s) = trn l s (k + s) := by
        constructor
        · intro x; rw [← trn_drop, ← trn_drop, x]
        · intro x
          rw [← List.take_append_drop s (trn l (2 * s) i), ← List.take_append_drop s (trn l (2 * s) k), ht, trn_drop, trn_drop, x]
      rw [e1, e2]
      have el := congrArg List.length et
      rw [trn_len, trn_len] at el
      by_cases hm : l.length ≤ max i k + s
      · rw [if_pos hm, cmpI_neg, cmpI_zero]
        rcases Nat.lt_trichotomy i k with c | c | c
        · have hk2 : l.length ≤ k + s := by omega
          have hi2 : i + s < l.length := by omega
          rw [trn_nil hk2, ltL_out]
          refine ⟨⟨fun x => by omega, fun x => by cases x⟩, ⟨fun x => by omega, fun x => ?_⟩⟩
          have := congrArg List.length x
          rw [trn_len, List.length_nil] at this
          omega
        · subst c
          rw [ltL_same]
          exact ⟨⟨fun x => by omega, fun x => by cases x⟩, ⟨fun _ => rfl, fun _ => rfl⟩⟩
        · have hi2 : l.length ≤ i + s := by omega
          have hk2 : k + s < l.length := by omega
          rw [trn_nil hi2, ltL_nil, trn_len, decide_eq_true_iff]
          refine ⟨⟨fun x => by omega, fun x => by omega⟩, ⟨fun x => by omega, fun x => ?_⟩⟩
          have := congrArg List.length x
          rw [trn_len, List.length_nil] at this
          omega
      · rw [if_neg hm, cmpI_neg, cmpI_zero]
        exact ⟨h.lt _ _ (by omega) (by omega), h.eq _ _ (by omega) (by omega)⟩
    · rw [if_neg e, cmpI_neg, cmpI_zero]
      have hne : ¬ nth r i = nth r k := fun x => e (cmpI_zero.2 x)
      refine ⟨⟨fun x => ?_, fun x => ?_⟩, ⟨fun x => absurd x hne, fun x => ?_⟩⟩
      · have := (h.lt i k hi hk).1 x
        rw [← trn_take, ← trn_take l s k] at this
        exact ltL_take s this
      · rcases Int.lt_or_gt_of_ne hne with y | y
        · exact y
        · exfalso
          have := (h.lt k i hk hi).1 y
          rw [← trn_take, ← trn_take l s i] at this
          have := ltL_asym (ltL_take s this)
          rw [this] at x; cases x
      · refine absurd ((h.eq i k hi hk).2 ?_) hne
        rw [← trn_take, x, trn_take]
  exact ⟨fun i k hi hk => (main i k hi hk).1, fun i k hi hk => (main i k hi hk).2⟩
/-- The places, in some order. -/
def PlsP (n : Nat) (A : List Nat) : Prop := A.Perm (List.range n)
theorem PlsP.len {n : Nat} {A : List Nat} (h : PlsP n A) : A.length = n := by rw [List.Perm.length_eq h, List.length_range]
theorem PlsP.mem {n : Nat} {A : List Nat} (h : PlsP n A) {x : Nat} : x ∈ A ↔ x < n := by rw [List.Perm.mem_iff h, List.mem_range]
theorem PlsP.lt {n : Nat} {A : List Nat} (h : PlsP n A) {i : Nat} (hi : i < n) : snth A i < n := h.mem.1 (snth_memS (by rw [h.len]; exact hi))
theorem PlsP.nodup {n : Nat} {A : List Nat} (h : PlsP n A) : A.Nodup := (List.Perm.nodup_iff h).2 List.nodup_range
theorem PlsP.idx {n : Nat} {A : List Nat} (h : PlsP n A) {p : Nat} (hp : p < n) : A.idxOf p < n ∧ snth A (A.idxOf p) = p := by
  have hl : A.idxOf p < A.length := List.idxOf_lt_length_of_mem (h.mem.2 hp)
  refine ⟨by rw [← h.len]; exact hl, ?_⟩
  have e : snth A (A.idxOf p) = A[A.idxOf p]'hl := by simp [snth, hl]
  rw [e]
  exact List.getElem_idxOf hl
theorem PlsP.inj {n : Nat} {A : List Nat} (h : PlsP n A) {i k : Nat} (hi : i < n) (hk : k < n) (e : snth A i = snth A k) : i = k := by
  have hn : A.Pairwise fun a b => a ≠ b := h.nodup
  rcases Nat.lt_trichotomy i k with c | c | c
  · exact absurd e (pair_nth.1 hn i k c (by rw [h.len]; exact hk))
  · exact c
  · exact absurd e.symm (pair_nth.1 hn k i c (by rw [h.len]; exact hi))
theorem PlsP.at {n : Nat} {A : List Nat} (h : PlsP n A) {i : Nat} (hi : i < n) : A.idxOf (snth A i) = i := h.inj (h.idx (h.lt hi)).1 hi (h.idx (h.lt hi)).2
theorem PlsP.next {n : Nat} {A : List Nat} (h : PlsP n A) (r : List Int) (s : Nat) : PlsP n (nxA n r s A) := (srt_perm _ _ A rfl).trans h
theorem nxR_len (n : Nat) (r : List Int) (s : Nat) (A : List Nat) : (nxR n r s A).length = n := by simp [nxR]
theorem nxR_nth {n : Nat} {r : List Int} {s : Nat} {A : List Nat} {p : Nat} (h : p < n) : nth (nxR n r s A) p = ((unl (ordV r n s) (nxA n r s A) ((nxA n r s A).idxOf p) : Nat) : Int) := by simp [nth, nxR, h]
theorem Rk.next {l r : List Int} {s : Nat} (h : Rk l r s) {A : List Nat} (hA : PlsP l.length A) : Rk l (nxR l.length r s A) (2 * s) := by
  have hB := hA.next r s
  have hp : (nxA l.length r s A).Pairwise fun i k => ordV r l.length s i k ≤ 0 := srt_ord h.key.ord _ A rfl fun x hx => hA.mem.1 hx
  have hm : ∀ x ∈ nxA l.length r s A, x < l.length := fun x hx => hB.mem.1 hx
  have key : ∀ i k, i < l.length → k < l.length → _ := fun i k hi hk => unl_key h.key hm hp (a := (nxA l.length r s A).idxOf i) (b := (nxA l.length r s A).idxOf k) (by rw [hB.len]; exact (hB.idx hi).1) (by rw [hB.len]; exact (hB.idx hk).1)
  refine ⟨nxR_len _ _ _ _, by have := h.pos; omega, fun i k hi hk => ?_, fun i k hi hk => ?_⟩
  · have := (key i k hi hk).2
    rw [(hB.idx hi).2, (hB.idx hk).2] at this
    rw [nxR_nth hi, nxR_nth hk, ← this]
    omega
  · have := (key i k hi hk).1
    rw [(hB.idx hi).2, (hB.idx hk).2] at this
    rw [nxR_nth hi, nxR_nth hk, ← this]
    omega
/-- Where all are unlike, the array is found. -/
theorem Rk.done {l r : List Int} {s : Nat} (h : Rk l r s) {A : List Nat} (hA : PlsP l.length A) (hl : 0 < l.length) (hu : nxU l.length r s A = l.length) : nxA l.length r s A = sufN l ∧ nxR l.length r s A = rkL l := by
  have hB := hA.next r s
  have hp : (nxA l.length r s A).Pairwise fun i k => ordV r l.length s i k ≤ 0 := srt_ord h.key.ord _ A rfl fun x hx => hA.mem.1 hx
  have hm : ∀ x ∈ nxA l.length r s A, x < l.length := fun x hx => hB.mem.1 hx
  have hf : ∀ j, j < l.length → unl (ordV r l.length s) (nxA l.length r s A) j = j := fun j hj => unl_full (m := l.length - 1) (by unfold nxU at hu; omega) (by omega)
  have e : nxA l.length r s A = sufN l := by
    refine sufN_uniq ⟨hB, ?_⟩
    rw [pair_nth]
    intro i k hik hk
    rw [hB.len] at hk
    have := (unl_key h.key hm hp (a := i) (b := k) (by rw [hB.len]; omega) (by rw [hB.len]; exact hk)).2
    rw [hf i (by omega), hf k hk] at this
    have := this.1 hik
    unfold trn at this
    exact ltL_take _ this
  refine ⟨e, ?_⟩
  unfold nxR rkL
  refine List.map_congr_left fun p hp => ?_
  rw [List.mem_range] at hp
  rw [hf _ (hB.idx hp).1, e]
  rfl
theorem Rk.far {l r : List Int} {s : Nat} (h : Rk l r s) {A : List Nat} (hA : PlsP l.length A) (hl : 0 < l.length) (hs : l.length ≤ 2 * s) : nxU l.length r s A = l.length := by
  have hB := hA.next r s
  have step : ∀ j, j < l.length → unl (ordV r l.length s) (nxA l.length r s A) j = j := fun j => by
    induction j with
    | zero => intro _; rfl
    | succ j ih =>
      intro hj
      have b1 := hB.lt (i := j) (by omega)
      have b2 := hB.lt (i := j + 1) hj
      rw [unl, ih (by omega), if_neg]
      intro hz
      have ht := (h.key.eq _ _ b1 b2).1 hz
      have := congrArg List.length ht
      rw [trn_len, trn_len] at this
      have := hB.inj (by omega) hj (show snth (nxA l.length r s A) j = snth (nxA l.length r s A) (j + 1) by omega)
      omega
  unfold nxU
  rw [step _ (by omega)]
  omega
theorem nxU_on {l r : List Int} {s : Nat} (h : Rk l r s) {A : List Nat} (hA : PlsP l.length A) (hl : 0 < l.length) (hu : ¬ nxU l.length r s A = l.length) : 2 * s < l.length := by
  rcases Nat.lt_or_ge (2 * s) l.length with x | x
  · exact x
  · exact absurd (h.far hA hl x) hu
theorem nxC_le {n b : Nat} {r : List Int} {s : Nat} {A : List Nat} (hA : PlsP n A) (hb : n ≤ 2 ^ b) : nxC n r s A ≤ 2 * n * (b + 1) := by
  have h1 := srtC_le (o := ordV r n s) (c := ordC r n s) (ordC_le r n s) b A (by rw [hA.len]; exact hb)
  have h2 := rnkC_le (c := ordC r n s) (nxA n r s A) (ordC_le r n s) (n - 1)
  rw [hA.len] at h1
  unfold nxC
  rw [Nat.mul_add, Nat.mul_one]
  omega
theorem nxC_ge {n : Nat} {r : List Int} {s : Nat} {A : List Nat} : n - 1 ≤ nxC n r s A := by
  have h2 := rnkC_ge (c := ordC r n s) (nxA n r s A) (ordC_ge r n s) (n - 1)
  unfold nxC
  omega
theorem dbl_ge (n : Nat) : ∀ (f : Nat) (A : List Nat) (r : List Int) (s c : Nat), c ≤ dbl n f A r s c
  | 0, _, _, _, _ => Nat.le_refl _
  | f + 1, A, r, s, c => by
    rw [dbl]
    split
    · exact Nat.le_add_right _ _
    · exact Nat.le_trans (Nat.le_add_right _ _) (dbl_ge n f _ _ _ _)
theorem dbl_le {l : List Int} (hl : 0 < l.length) {b : Nat} (hb : l.length ≤ 2 ^ b) : ∀ (f : Nat) (A : List Nat) (r : List Int) (s c t : Nat), Rk l r s → PlsP l.length A → 0 < t → l.length ≤ s * 2 ^ t → dbl l.length f A r s c ≤ c + t * (2 * l.length * (b + 1))
  | 0, _, _, _, c, t, _, _, _, _ => Nat.le_add_right _ _
  | f + 1, A, r, s, c, t, hR, hA, ht, hs => by
    have h1 := nxC_le (r := r) (s := s) hA hb
    obtain ⟨t, rfl⟩ : ∃ t', t = t' + 1 := ⟨t - 1, by omega⟩
    have e1 : (t + 1) * (2 * l.length * (b + 1)) = t * (2 * l.length * (b + 1)) + 2 * l.length * (b + 1) := by rw [Nat.add_mul, Nat.one_mul]
    rw [dbl, e1]
    split
    · omega
    · rename_i hu
      have h2 := nxU_on hR hA hl hu
      have ht0 : 0 < t := by
        rcases Nat.eq_zero_or_pos t with x | x
        · subst x; simp at hs; omega
        · exact x
      have := dbl_le hl hb f _ _ (2 * s) (c + nxC l.length r s A) t (hR.next hA) (hA.next r s) ht0 (by rw [Nat.pow_succ] at hs; rw [Nat.mul_comm 2 s, Nat.mul_assoc, Nat.mul_comm 2]; exact hs)
      omega
theorem bitsN_lt : ∀ (n : Nat), n < 2 ^ bitsN n := fun n => by
  induction n using Nat.strongRecOn with
  | _ n ih =>
  by_cases h : n = 0
  · subst h; rw [bitsN_zero]; decide
  · rw [bitsN_pos (by omega), Nat.pow_succ]
    have := ih (n / 2) (by omega)
    omega
theorem PlsP.start (n : Nat) : PlsP n (List.range n) := List.Perm.refl _
theorem cst_le {l : List Int} (hl : 0 < l.length) : cstN l ≤ bitsN l.length * (2 * l.length * (bitsN l.length + 1)) := by
  unfold cstN
  rw [if_neg (by omega)]
  have h1 := bitsN_lt l.length
  have h0 : 0 < bitsN l.length := by rw [bitsN_pos hl]; exact Nat.succ_pos _
  have := dbl_le hl (b := bitsN l.length) (Nat.le_of_lt h1) l.length (List.range l.length) l 1 0 (bitsN l.length) (Rk.start l) (PlsP.start _) h0 (by rw [Nat.one_mul]; exact Nat.le_of_lt h1)
  rw [Nat.zero_add] at this
  exact this
theorem cst_ge {l : List Int} (hl : 0 < l.length) : l.length - 1 ≤ cstN l := by
  unfold cstN
  rw [if_neg (by omega)]
  obtain ⟨n, hn⟩ : ∃ n, l.length = n + 1 := ⟨l.length - 1, by omega⟩
  have h := nxC_ge (n := l.length) (r := l) (s := 1) (A := List.range l.length)
  conv => rhs; rw [hn]
  rw [← hn]
  rw [show dbl l.length (l.length) = dbl l.length (n + 1) by rw [← hn], dbl]
  split
  · omega
  · have := dbl_ge l.length n (nxA l.length l 1 (List.range l.length)) (nxR l.length l 1 (List.range l.length)) (2 * 1) (0 + nxC l.length l 1 (List.range l.length))
    omega
def cstI (l : List Int) : Int := (cstN l : Int)
theorem cstI_ok : ∀ l : List Int, l.length ≤ 16384 → 0 ≤ cstI l ∧ (l.length : Int) - 1 ≤ cstI l ∧ cstI l ≤ mostI (l.length : Int) := fun l hl => by
  unfold cstI mostI
  by_cases h0 : l.length = 0
  · have : cstN l = 0 := by unfold cstN; rw [if_pos h0]
    rw [this, h0]
    decide
  · have h1 := cst_le (l := l) (by omega)
    have h2 := cst_ge (l := l) (by omega)
    rw [if_neg (by omega), show ((l.length : Int)).toNat = l.length by omega]
    refine ⟨by omega, by omega, ?_⟩
    generalize bitsN l.length = b at *
    have h3 : b * (2 * l.length * (b + 1)) ≤ 6 * l.length * (b + 1) * (b + 1) := by
      have : b * (2 * l.length * (b + 1)) = 2 * l.length * (b + 1) * b := by rw [Nat.mul_comm]
      rw [this]
      exact Nat.mul_le_mul (Nat.mul_le_mul (Nat.mul_le_mul (by decide) (Nat.le_refl _)) (Nat.le_refl _)) (by omega)
    have h4 : cstN l ≤ 6 * l.length * (b + 1) * (b + 1) := Nat.le_trans h1 h3
    have h5 : ((cstN l : Nat) : Int) ≤ ((6 * l.length * (b + 1) * (b + 1) : Nat) : Int) := by exact_mod_cast h4
    simpa using h5




end Go.Proofs.YtokhclindfipbaaGreatDoor

namespace Go.Proofs.YtokhclindfipbaaGreatDoor
open Go.RowKit

/-- So many of the left one and of the right one are taken. -/
structure MrS (o : Nat → Nat → Int) (c : Nat → Nat → Nat) (L R : List Nat) (p q cc : Nat) : Prop where
  pl : p ≤ L.length
  ql : q ≤ R.length
  rest : (mrg o L R).drop (p + q) = mrg o (L.drop p) (R.drop q)
  cost : cc + mrgC o c (L.drop p) (R.drop q) = mrgC o c L R
theorem MrS.start (o : Nat → Nat → Int) (c : Nat → Nat → Nat) (L R : List Nat) : MrS o c L R 0 0 0 := ⟨Nat.zero_le _, Nat.zero_le _, by simp, by simp⟩
theorem sdrop {A : List Nat} {p : Nat} (h : p < A.length) : A.drop p = snth A p :: A.drop (p + 1) := by
  rw [List.drop_eq_getElem_cons h]
  simp [snth, h]
theorem sdrop_eq {A B : List Nat} {p x : Nat} (h : A.drop p = x :: B) : snth A p = x ∧ A.drop (p + 1) = B := by
  have hl : p < A.length := by
    have := congrArg List.length h
    rw [List.length_drop, List.length_cons] at this
    omega
  rw [sdrop hl] at h
  injection h with h1 h2
  exact ⟨h1, h2⟩
theorem MrS.right {o : Nat → Nat → Int} {c : Nat → Nat → Nat} {L R : List Nat} {p q cc : Nat} (h : MrS o c L R p q cc) (hp : p < L.length) (hq : q < R.length) (ho : o (snth R q) (snth L p) < 0) : snth (mrg o L R) (p + q) = snth R q ∧ MrS o c L R p (q + 1) (cc + c (snth R q) (snth L p)) := by
  have h1 := h.rest
  have h2 := h.cost
  rw [sdrop hp, sdrop hq, mrg_right ho] at h1
  rw [sdrop hp, sdrop hq, mrgC_right ho] at h2
  obtain ⟨e1, e2⟩ := sdrop_eq h1
  exact ⟨e1, h.pl, hq, by rw [← Nat.add_assoc, e2, sdrop hp], by rw [sdrop hp]; omega⟩
theorem MrS.left {o : Nat → Nat → Int} {c : Nat → Nat → Nat} {L R : List Nat} {p q cc : Nat} (h : MrS o c L R p q cc) (hp : p < L.length) (hq : q < R.length) (ho : ¬ o (snth R q) (snth L p) < 0) : snth (mrg o L R) (p + q) = snth L p ∧ MrS o c L R (p + 1) q (cc + c (snth R q) (snth L p)) := by
  have h1 := h.rest
  have h2 := h.cost
  rw [sdrop hp, sdrop hq, mrg_left ho] at h1
  rw [sdrop hp, sdrop hq, mrgC_left ho] at h2
  obtain ⟨e1, e2⟩ := sdrop_eq h1
  exact ⟨e1, hp, h.ql, by rw [show p + 1 + q = p + q + 1 by omega, e2, sdrop hq], by rw [sdrop hq]; omega⟩
theorem MrS.alone {o : Nat → Nat → Int} {c : Nat → Nat → Nat} {L R : List Nat} {p q cc : Nat} (h : MrS o c L R p q cc) (hp : p < L.length) (hq : R.length ≤ q) : snth (mrg o L R) (p + q) = snth L p ∧ MrS o c L R (p + 1) q cc := by
  have h1 := h.rest
  have h2 := h.cost
  rw [List.drop_eq_nil_of_le hq, mrg_out, sdrop hp] at h1
  rw [List.drop_eq_nil_of_le hq, mrgC_out] at h2
  obtain ⟨e1, e2⟩ := sdrop_eq h1
  exact ⟨e1, hp, h.ql, by rw [show p + 1 + q = p + q + 1 by omega, e2, List.drop_eq_nil_of_le hq, mrg_out], by rw [List.drop_eq_nil_of_le hq, mrgC_out]; omega⟩
theorem snth_drop (A : List Nat) (p j : Nat) : snth (A.drop p) j = snth A (p + j) := by simp [snth]
theorem MrS.done {o : Nat → Nat → Int} {c : Nat → Nat → Nat} {L R : List Nat} {p q cc : Nat} (h : MrS o c L R p q cc) (hp : L.length ≤ p) : cc = mrgC o c L R ∧ ∀ j, q ≤ j → j < R.length → snth (mrg o L R) (L.length + j) = snth R j := by
  have h1 := h.rest
  have h2 := h.cost
  have hpl := h.pl
  obtain rfl : p = L.length := by omega
  rw [List.drop_eq_nil_of_le (Nat.le_refl _), mrg_nil] at h1
  rw [List.drop_eq_nil_of_le (Nat.le_refl _), mrgC_nil] at h2
  refine ⟨by omega, fun j hj _ => ?_⟩
  have := congrArg (fun l => snth l (j - q)) h1
  simp only [snth_drop] at this
  rw [show L.length + q + (j - q) = L.length + j by omega, show q + (j - q) = j by omega] at this
  exact this




end Go.Proofs.YtokhclindfipbaaGreatDoor
