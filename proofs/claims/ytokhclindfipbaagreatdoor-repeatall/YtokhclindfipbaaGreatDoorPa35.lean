/-
  Plain: the sequences that are told, place by place of the array, are those that stand twice, in order. The rows of a text; is there room? Contracts of the library, laid at this program. A row that is gathered: its places with room, rising.
-/
import Derived.Test.YtokhclindfipbaaGreatDoorProg
import Derived.WalkKit
import Derived.WalkSpells
import Derived.WalkLawsBesides
import Derived.RowKit3
import Derived.Below
import Derived.Deep.QuietTactic
import Derived.BigQuiet
import Derived.WalkSmall
import Derived.Laws.Rows
import Derived.Test.YtokhclindfipbaaGreatDoorPa06
import Derived.Test.YtokhclindfipbaaGreatDoorPa05
import Derived.Shelf.Sort.Plain
import Derived.Shelf.Slices.In.SortNone
import Derived.OwnWalk
import Derived.Lib.OwnBridge
import Derived.Sort.OwnSortedInts
import Derived.Test.YtokhclindfipbaaGreatDoorPa18
import Derived.Test.YtokhclindfipbaaGreatDoorPa34
import Derived.Test.YtokhclindfipbaaGreatDoorPa17
namespace Go.Proofs.YtokhclindfipbaaGreatDoor
open Go.RowKit

theorem cpL_trans : ∀ {n : Nat} {xs ys zs : List Int}, n ≤ cpL xs ys → n ≤ cpL ys zs → n ≤ cpL xs zs
  | 0, _, _, _, _, _ => Nat.zero_le _
  | n + 1, [], ys, _, h, _ => by rw [cpL_nil] at h; omega
  | n + 1, _ :: _, [], _, h, _ => by rw [cpL_out] at h; omega
  | n + 1, _ :: _, _ :: _, [], _, h => by rw [cpL_out] at h; omega
  | n + 1, a :: xs, b :: ys, c :: zs, h1, h2 => by
    rw [cpL] at h1 h2 ⊢
    by_cases e1 : a = b
    · by_cases e2 : b = c
      · rw [if_pos e1] at h1
        rw [if_pos e2] at h2
        rw [if_pos (e1.trans e2)]
        have := cpL_trans (n := n) (xs := xs) (ys := ys) (zs := zs) (by omega) (by omega)
        omega
      · rw [if_neg e2] at h2; omega
    · rw [if_neg e1] at h1; omega
theorem cpS_trans {nm : List Int} {n i j k : Nat} (h1 : n ≤ cpS nm i j) (h2 : n ≤ cpS nm j k) : n ≤ cpS nm i k := cpL_trans h1 h2
theorem cpS_same (nm : List Int) (k : Nat) : cpS nm k k = nm.length - k := by
  unfold cpS
  rw [cpL_same, List.length_drop]
theorem cp_take : ∀ {n : Nat} {xs ys : List Int}, n ≤ cpL xs ys → xs.take n = ys.take n
  | 0, _, _, _ => by simp
  | n + 1, [], ys, h => by rw [cpL_nil] at h; omega
  | n + 1, _ :: _, [], h => by rw [cpL_out] at h; omega
  | n + 1, a :: xs, b :: ys, h => by
    rw [cpL] at h
    by_cases e : a = b
    · rw [if_pos e] at h
      rw [List.take_succ_cons, List.take_succ_cons, cp_take (n := n) (xs := xs) (ys := ys) (by omega), e]
    · rw [if_neg e] at h; omega
theorem lt_take : ∀ {xs ys : List Int} {n m : Nat}, ltL xs ys = true → cpL xs ys < m → n ≤ xs.length → m ≤ ys.length → ltL (xs.take n) (ys.take m) = true
  | [], [], _, _, h, _, _, _ => by cases h
  | [], y :: ys, n, m, _, hc, _, _ => by
    rw [cpL_nil] at hc
    obtain ⟨q, rfl⟩ : ∃ q, m = q + 1 := ⟨m - 1, by omega⟩
    simp [ltL]
  | x :: xs, [], _, _, h, _, _, _ => by cases h
  | x :: xs, y :: ys, n, m, h, hc, hn, hm => by
    rw [ltL] at h
    rw [cpL] at hc
    obtain ⟨q, rfl⟩ : ∃ q, m = q + 1 := ⟨m - 1, by omega⟩
    cases n with
    | zero => simp [ltL]
    | succ n =>
      rw [List.take_succ_cons, List.take_succ_cons, ltL]
      by_cases e : x = y
      · rw [if_pos e] at h hc ⊢
        exact lt_take h (by omega) (by simpa using hn) (by simpa using hm)
      · rw [if_neg e] at h ⊢
        exact h
theorem lt_take_same : ∀ {xs : List Int} {n m : Nat}, n < m → m ≤ xs.length → ltL (xs.take n) (xs.take m) = true
  | [], n, m, h, hm => by simp at hm; omega
  | x :: xs, n, m, h, hm => by
    obtain ⟨q, rfl⟩ : ∃ q, m = q + 1 := ⟨m - 1, by omega⟩
    cases n with
    | zero => simp [ltL]
    | succ n =>
      rw [List.take_succ_cons, List.take_succ_cons, ltL, if_pos rfl]
      exact lt_take_same (by omega) (by simpa using hm)
/-- The places at which what a place begins with stands, where there is room. -/
def plcR (nm : List Int) (en : Nat → Nat) (a n : Nat) : List Nat := (List.range nm.length).filter fun k => decide (n ≤ cpS nm a k) && decide (k + n ≤ en k)
theorem plcR_mem {nm : List Int} {en : Nat → Nat} {a n k : Nat} : k ∈ plcR nm en a n ↔ k < nm.length ∧ n ≤ cpS nm a k ∧ k + n ≤ en k := by simp [plcR]
theorem plcR_nodup (nm : List Int) (en : Nat → Nat) (a n : Nat) : (plcR nm en a n).Nodup := List.nodup_range.filter _
theorem plcR_sorted (nm : List Int) (en : Nat → Nat) (a n : Nat) : (plcR nm en a n).Pairwise fun a b => a < b := List.pairwise_lt_range.filter _
theorem plcR_room {nm : List Int} {en : Nat → Nat} (h : EnP nm en) {a n k : Nat} (_hk : k < nm.length) (hc : n ≤ cpS nm a k) (hr : k + n ≤ en k) : plcR nm en a n = plcS nm en k n := by
  unfold plcR plcS
  refine List.filter_congr fun j hj => ?_
  have hj' : j < nm.length := List.mem_range.1 hj
  have a1 := h.lt j hj'
  rw [Bool.eq_iff_iff]
  simp only [Bool.and_eq_true, decide_eq_true_eq, mE]
  constructor
  · rintro ⟨x, y⟩
    have h1 : n ≤ cpS nm k a := by rw [cpS_comm]; exact hc
    have h2 : n ≤ cpS nm k j := cpS_trans h1 x
    exact decide_eq_true (Nat.le_min.2 ⟨h2, Nat.le_min.2 ⟨by omega, by omega⟩⟩)
  · intro x
    obtain ⟨x1, x2⟩ := Nat.le_min.1 (of_decide_eq_true x)
    obtain ⟨x3, x4⟩ := Nat.le_min.1 x2
    exact ⟨cpS_trans hc x1, by omega⟩
theorem plcR_anti {nm : List Int} {en : Nat → Nat} {a n m : Nat} (h : n ≤ m) : (plcR nm en a m).length ≤ (plcR nm en a n).length := by
  unfold plcR
  rw [← List.countP_eq_length_filter, ← List.countP_eq_length_filter]
  refine List.countP_mono_left fun k _ hk => ?_
  simp only [Bool.and_eq_true, decide_eq_true_eq] at hk ⊢
  omega
theorem plcR_long {nm : List Int} {en : Nat → Nat} (h : EnP nm en) {a n : Nat} (hp : 0 < (plcR nm en a n).length) : n ≤ nm.length := by
  obtain ⟨k, hk⟩ := List.exists_mem_of_length_pos hp
  obtain ⟨k1, -, k3⟩ := plcR_mem.1 hk
  have := h.le k k1
  omega
/-- What is gathered of a part of the array. -/
def gatN (nm : List Int) (en : Nat → Nat) (a b n : Nat) : List Nat := ((List.range (b - a)).map fun j => snth (sufN nm) (a + j)).filter fun k => decide (k + n ≤ en k)
theorem gatN_zero (nm : List Int) (en : Nat → Nat) (a n : Nat) : gatN nm en a a n = [] := by simp [gatN]
theorem gatN_succ {nm : List Int} {en : Nat → Nat} {a b n : Nat} (h : a ≤ b) : gatN nm en a (b + 1) n = gatN nm en a b n ++ if snth (sufN nm) b + n ≤ en (snth (sufN nm) b) then [snth (sufN nm) b] else [] := by
  unfold gatN
  rw [show b + 1 - a = (b - a) + 1 by omega, List.range_succ, List.map_append, List.filter_append]
  congr 1
  rw [List.map_cons, List.map_nil, show a + (b - a) = b by omega]
  by_cases c : snth (sufN nm) b + n ≤ en (snth (sufN nm) b)
  · rw [if_pos c]; simp [c]
  · rw [if_neg c]; simp [c]
theorem gatN_len (nm : List Int) (en : Nat → Nat) (a b n : Nat) : (gatN nm en a b n).length ≤ b - a := by
  refine Nat.le_trans (List.length_filter_le _ _) ?_
  simp
def frN (nm : List Int) (f n : Nat) : Nat := grF (cpA nm) (n : Int) f
def toN (nm : List Int) (f n : Nat) : Nat := grT (cpA nm) (n : Int) (nm.length - (f + 1)) (f + 1)
theorem frto (nm : List Int) {f n : Nat} (hf : f < nm.length) : frN nm f n ≤ f ∧ f + 1 ≤ toN nm f n ∧ toN nm f n ≤ nm.length := by
  have a := grF_le (cpA nm) (n : Int) f
  have b := grT_ge (cpA nm) (n : Int) (nm.length - (f + 1)) (f + 1)
  have c := grT_le (cpA nm) (n : Int) (nm.length - (f + 1)) (f + 1)
  unfold frN toN
  omega
theorem gatN_mem {nm : List Int} {en : Nat → Nat} (h : EnP nm en) {f n k : Nat} (hf : f < nm.length) : k ∈ gatN nm en (frN nm f n) (toN nm f n) n ↔ k ∈ plcR nm en (snth (sufN nm) f) n := by
  obtain ⟨f1, f2, f3⟩ := frto nm (n := n) hf
  rw [plcR_mem]
  unfold gatN
  simp only [List.mem_filter, List.mem_map, List.mem_range, decide_eq_true_eq]
  constructor
  · rintro ⟨⟨j, hj, rfl⟩, hr⟩
    have hl : frN nm f n + j < nm.length := by omega
    have hk := sufN_lt hl
    refine ⟨hk, ?_, hr⟩
    rcases (gr_row (L := n) hf hl).1 ⟨by unfold frN; omega, by unfold toN at hj; omega⟩ with c | c
    · exact c
    · rw [← c, cpS_same]
      rw [← c] at hr hk
      have := h.le _ hk
      omega
  · rintro ⟨hk, hc, hr⟩
    have hl := rkN_lt hk
    obtain ⟨x, y⟩ := (gr_row (L := n) hf hl).2 (.inl (by rw [rkN_at hk]; exact hc))
    refine ⟨⟨rkN nm k - frN nm f n, ?_, ?_⟩, hr⟩
    · unfold frN toN; omega
    · rw [show frN nm f n + (rkN nm k - frN nm f n) = rkN nm k by unfold frN; omega, rkN_at hk]
theorem gatN_nodup {nm : List Int} {en : Nat → Nat} {a b n : Nat} (hb : b ≤ nm.length) : (gatN nm en a b n).Nodup := by
  unfold gatN
  refine List.Pairwise.filter _ ?_
  rw [List.pairwise_map]
  refine List.Pairwise.imp_of_mem ?_ (List.nodup_range (n := b - a))
  intro i k hi hk hne e
  have hi := List.mem_range.1 hi
  have hk := List.mem_range.1 hk
  have := sufN_inj (by omega) (by omega) e
  omega
/-- A list of places as the numbers that are told. -/
def nV64 (l : List Nat) : List Int := l.map fun k => ((k : Nat) : Int)
theorem nV64_len (l : List Nat) : (nV64 l).length = l.length := by simp [nV64]
theorem gatN_sort {nm : List Int} {en : Nat → Nat} (h : EnP nm en) {f n : Nat} (hf : f < nm.length) : ((nV64 (gatN nm en (frN nm f n) (toN nm f n) n)).mergeSort fun x y => decide (x ≤ y)) = nV64 (plcR nm en (snth (sufN nm) f) n) := by
  have hp : (gatN nm en (frN nm f n) (toN nm f n) n).Perm (plcR nm en (snth (sufN nm) f) n) := (List.perm_ext_iff_of_nodup (gatN_nodup (frto nm hf).2.2) (plcR_nodup _ _ _ _)).2 fun k => gatN_mem h hf
  have h1 : ((nV64 (gatN nm en (frN nm f n) (toN nm f n) n)).mergeSort fun x y => decide (x ≤ y)).Perm (nV64 (plcR nm en (snth (sufN nm) f) n)) := (List.mergeSort_perm _ _).trans (hp.map _)
  refine List.Perm.eq_of_pairwise (le := fun x y : Int => x ≤ y) (fun a b _ _ x y => Int.le_antisymm x y) ?_ ?_ h1
  · have := List.pairwise_mergeSort (le := fun x y : Int => decide (x ≤ y)) (fun a b c x y => by simp only [decide_eq_true_eq] at *; omega) (fun a b => by simp only [Bool.or_eq_true, decide_eq_true_eq]; omega) (nV64 (gatN nm en (frN nm f n) (toN nm f n) n))
    exact this.imp fun x => of_decide_eq_true x
  · unfold nV64
    rw [List.pairwise_map]
    exact (plcR_sorted nm en (snth (sufN nm) f) n).imp fun x => by omega
/-- The lengths that are told at a place of the array. -/
def n0N (nm : List Int) (f : Nat) : Nat := max 2 (cpN nm f + 1)
def tellB (nm : List Int) (en : Nat → Nat) (f n : Nat) : Bool := decide (n0N nm f ≤ n) && decide (2 ≤ (plcR nm en (snth (sufN nm) f) n).length)
def oneR (nm : List Int) (en : Nat → Nat) (f n : Nat) : Nat × Nat := (n, snth (plcR nm en (snth (sufN nm) f) n) 0)
def rowE (nm : List Int) (en : Nat → Nat) (f n : Nat) : List (Nat × Nat) := ((List.range n).filter (tellB nm en f)).map (oneR nm en f)
def preE (nm : List Int) (en : Nat → Nat) : Nat → List (Nat × Nat)
  | 0 => []
  | f + 1 => preE nm en f ++ rowE nm en f (nm.length + 1)
def eachL (nm : List Int) (en : Nat → Nat) : List (Nat × Nat) := preE nm en nm.length
theorem rowE_yes {nm : List Int} {en : Nat → Nat} {f n : Nat} (h : tellB nm en f n = true) : rowE nm en f (n + 1) = rowE nm en f n ++ [oneR nm en f n] := by
  unfold rowE
  rw [List.range_succ, List.filter_append, List.map_append]
  simp [h]
theorem rowE_no {nm : List Int} {en : Nat → Nat} {f n : Nat} (h : tellB nm en f n = false) : rowE nm en f (n + 1) = rowE nm en f n := by
  unfold rowE
  rw [List.range_succ, List.filter_append, List.map_append]
  simp [h]
theorem rowE_rest {nm : List Int} {en : Nat → Nat} {f n : Nat} (h : ∀ m, n ≤ m → tellB nm en f m = false) : ∀ {k : Nat}, n ≤ k → rowE nm en f k = rowE nm en f n := fun {k} hk => by
  induction k with
  | zero => rw [show n = 0 by omega]
  | succ k ih =>
    by_cases c : n ≤ k
    · rw [rowE_no (h k c), ih c]
    · rw [show n = k + 1 by omega]
theorem rowE_start (nm : List Int) (en : Nat → Nat) (f : Nat) : ∀ {n : Nat}, n ≤ n0N nm f → rowE nm en f n = [] := fun {n} => by
  induction n with
  | zero => intro _; rfl
  | succ n ih =>
    intro h
    rw [rowE_no (by simp [tellB]; omega), ih (by omega)]
theorem rowE_done {nm : List Int} {en : Nat → Nat} (_h : EnP nm en) {f n : Nat} (hn : n ≤ nm.length + 1) (hl : (plcR nm en (snth (sufN nm) f) n).length < 2) : rowE nm en f (nm.length + 1) = rowE nm en f n :=
  rowE_rest (fun m hm => by
    have := plcR_anti (nm := nm) (en := en) (a := snth (sufN nm) f) hm
    simp [tellB]
    omega) hn
theorem rowE_pre {nm : List Int} {en : Nat → Nat} {f n k : Nat} (h : n ≤ k) : rowE nm en f n <+: rowE nm en f k := by
  unfold rowE
  refine List.IsPrefix.map _ (List.IsPrefix.filter _ ?_)
  refine ⟨(List.range (k - n)).map (n + ·), ?_⟩
  rw [← List.range_add, Nat.add_sub_cancel' h]
theorem preE_pre {nm : List Int} {en : Nat → Nat} {f k : Nat} (h : f ≤ k) : preE nm en f <+: preE nm en k := by
  induction k with
  | zero => rw [show f = 0 by omega]; exact List.prefix_refl _
  | succ k ih =>
    by_cases c : f ≤ k
    · exact (ih c).trans (List.prefix_append _ _)
    · rw [show f = k + 1 by omega]; exact List.prefix_refl _
theorem each_pre {nm : List Int} {en : Nat → Nat} {f n : Nat} (hf : f < nm.length) (hn : n ≤ nm.length + 1) : preE nm en f ++ rowE nm en f n <+: eachL nm en := by
  refine List.IsPrefix.trans ?_ (preE_pre (nm := nm) (en := en) (f := f + 1) hf)
  rw [preE]
  exact (List.prefix_append_right_inj _).2 (rowE_pre hn)
theorem rowE_mem {nm : List Int} {en : Nat → Nat} {f k : Nat} {r : Nat × Nat} : r ∈ rowE nm en f k ↔ r.1 < k ∧ n0N nm f ≤ r.1 ∧ 2 ≤ (plcR nm en (snth (sufN nm) f) r.1).length ∧ r.2 = snth (plcR nm en (snth (sufN nm) f) r.1) 0 := by
  unfold rowE tellB oneR
  simp only [List.mem_map, List.mem_filter, List.mem_range, Bool.and_eq_true, decide_eq_true_eq]
  constructor
  · rintro ⟨n, ⟨h1, h2, h3⟩, rfl⟩
    exact ⟨h1, h2, h3, rfl⟩
  · rintro ⟨h1, h2, h3, h4⟩
    exact ⟨r.1, ⟨h1, h2, h3⟩, Prod.ext rfl h4.symm⟩
theorem preE_mem {nm : List Int} {en : Nat → Nat} {r : Nat × Nat} : ∀ {k : Nat}, r ∈ preE nm en k ↔ ∃ f, f < k ∧ r ∈ rowE nm en f (nm.length + 1)
  | 0 => by simp [preE]
  | k + 1 => by
    rw [preE, List.mem_append, preE_mem (k := k)]
    constructor
    · rintro (⟨f, h1, h2⟩ | h)
      · exact ⟨f, by omega, h2⟩
      · exact ⟨k, by omega, h⟩
    · rintro ⟨f, h1, h2⟩
      by_cases c : f = k
      · exact .inr (c ▸ h2)
      · exact .inl ⟨f, by omega, h2⟩
/-- The first of a row's places. -/
theorem plcR_head {nm : List Int} {en : Nat → Nat} {a n : Nat} (h : 0 < (plcR nm en a n).length) : snth (plcR nm en a n) 0 ∈ plcR nm en a n ∧ ∀ k, k ∈ plcR nm en a n → snth (plcR nm en a n) 0 ≤ k := by
  have hs := plcR_sorted nm en a n
  generalize plcR nm en a n = l at *
  cases l with
  | nil => simp at h
  | cons x l =>
    refine ⟨by simp [snth], fun k hk => ?_⟩
    rcases List.mem_cons.1 hk with rfl | hk
    · exact Nat.le_refl _
    · exact Nat.le_of_lt ((List.pairwise_cons.1 hs).1 k hk)
theorem two_other {l : List Nat} (hn : l.Nodup) (h : 2 ≤ l.length) (i : Nat) : ∃ k, k ∈ l ∧ k ≠ i := by
  match l, hn, h with
  | x :: y :: l, hn, _ =>
    by_cases c : x = i
    · refine ⟨y, by simp, fun e => ?_⟩
      rw [c, e] at hn
      simp at hn
    · exact ⟨x, by simp, c⟩
/-- What a told one is. -/
theorem rowE_rep {nm : List Int} {en : Nat → Nat} (h : EnP nm en) {f k : Nat} {r : Nat × Nat} (hr : r ∈ rowE nm en f k) : RepQ nm en r.1 r.2 ∧ r.1 ≤ cpS nm (snth (sufN nm) f) r.2 := by
  obtain ⟨-, h2, h3, h4⟩ := rowE_mem.1 hr
  obtain ⟨m1, m2⟩ := plcR_head (nm := nm) (en := en) (a := snth (sufN nm) f) (n := r.1) (by omega)
  rw [← h4] at m1 m2
  obtain ⟨q1, q2, q3⟩ := plcR_mem.1 m1
  have e := plcR_room h q1 q2 q3
  refine ⟨⟨q1, by unfold n0N at h2; omega, q3, ?_, fun k hk hm => ?_⟩, q2⟩
  · obtain ⟨j, j1, j2⟩ := two_other (plcR_nodup nm en (snth (sufN nm) f) r.1) h3 r.2
    rw [e] at j1
    obtain ⟨j3, j4⟩ := plcS_mem.1 j1
    exact ⟨j, j3, j2, j4⟩
  · have : k ∈ plcR nm en (snth (sufN nm) f) r.1 := by
      rw [e]
      exact plcS_mem.2 ⟨by omega, hm⟩
    have := m2 k this
    omega
theorem least_ex (p : Nat → Prop) [DecidablePred p] : ∀ n, p n → ∃ f, f ≤ n ∧ p f ∧ ∀ j, j < f → ¬ p j := fun n => by
  induction n using Nat.strongRecOn with
  | _ n ih =>
    intro hn
    by_cases c : ∃ j, j < n ∧ p j
    · obtain ⟨j, hj, hp⟩ := c
      obtain ⟨f, f1, f2, f3⟩ := ih j hj hp
      exact ⟨f, by omega, f2, f3⟩
    · exact ⟨n, Nat.le_refl _, hn, fun j hj hp => c ⟨j, hj, hp⟩⟩
theorem each_mem {nm : List Int} {en : Nat → Nat} (h : EnP nm en) (r : Nat × Nat) : r ∈ eachL nm en ↔ RepQ nm en r.1 r.2 := by
  unfold eachL
  rw [preE_mem]
  constructor
  · rintro ⟨f, -, h2⟩
    exact (rowE_rep h h2).1
  · intro q
    obtain ⟨q1, q2, q3, ⟨k, k1, k2, k3⟩, q5⟩ := q
    have hown : r.1 ≤ cpS nm r.2 r.2 := by
      rw [cpS_same]
      have := h.le r.2 q1
      omega
    obtain ⟨f, f1, f2, f3⟩ := least_ex (fun f => r.1 ≤ cpS nm r.2 (snth (sufN nm) f)) (rkN nm r.2) (by rw [rkN_at q1]; exact hown)
    have hf : f < nm.length := Nat.lt_of_le_of_lt f1 (rkN_lt q1)
    have f2' : r.1 ≤ cpS nm (snth (sufN nm) f) r.2 := by rw [cpS_comm]; exact f2
    have e := plcR_room h q1 f2' q3
    have hlen : 2 ≤ (plcS nm en r.2 r.1).length := (plcS_two h q1 q3).2 ⟨k, k1, k2, k3⟩
    refine ⟨f, hf, rowE_mem.2 ⟨?_, ?_, by rw [e]; exact hlen, ?_⟩⟩
    · have := h.le r.2 q1
      omega
    · unfold n0N
      have : cpN nm f < r.1 := by
        unfold cpN
        by_cases c : f = 0
        · rw [if_pos c]; omega
        · rw [if_neg c]
          refine Nat.lt_of_not_le fun x => f3 (f - 1) (by omega) ?_
          exact cpS_trans f2 (by rw [cpS_comm]; exact x)
      omega
    · rw [e]
      exact ((plcS_first h q1 q3).2 q5).symm
theorem seq_drop (nm : List Int) (i n : Nat) : seqN nm i n = (nm.drop i).take n := rfl
theorem rowE_seq {nm : List Int} {en : Nat → Nat} (h : EnP nm en) {f k : Nat} {r : Nat × Nat} (hr : r ∈ rowE nm en f k) : seqN nm r.2 r.1 = (nm.drop (snth (sufN nm) f)).take r.1 ∧ r.1 ≤ (nm.drop (snth (sufN nm) f)).length := by
  have q := (rowE_rep h hr).2
  refine ⟨(cp_take q).symm, ?_⟩
  have := cpL_le (nm.drop (snth (sufN nm) f)) (nm.drop r.2)
  exact Nat.le_trans q this
theorem rowE_ord {nm : List Int} {en : Nat → Nat} (h : EnP nm en) {f : Nat} : ∀ k : Nat, (rowE nm en f k).Pairwise fun a b => ltL (seqN nm a.2 a.1) (seqN nm b.2 b.1) = true
  | 0 => List.Pairwise.nil
  | k + 1 => by
    cases c : tellB nm en f k with
    | false => rw [rowE_no c]; exact rowE_ord h k
    | true =>
      have hy := rowE_yes c
      rw [hy, List.pairwise_append]
      refine ⟨rowE_ord h k, List.pairwise_singleton _ _, fun a ha b hb => ?_⟩
      rw [List.mem_singleton.1 hb]
      have h1 := rowE_seq h ha
      have h2 := rowE_seq h (r := oneR nm en f k) (f := f) (k := k + 1) (by rw [hy]; simp)
      rw [h1.1, h2.1]
      exact lt_take_same (rowE_mem.1 ha).1 h2.2
theorem row_below {nm : List Int} {en : Nat → Nat} (h : EnP nm en) {f g : Nat} (hfg : f < g) (hg : g < nm.length) {a b : Nat × Nat} {ka kb : Nat} (ha : a ∈ rowE nm en f ka) (hb : b ∈ rowE nm en g kb) : ltL (seqN nm a.2 a.1) (seqN nm b.2 b.1) = true := by
  have h1 := rowE_seq h ha
  have h2 := rowE_seq h hb
  rw [h1.1, h2.1]
  refine lt_take (sufN_less hfg hg) ?_ h1.2 h2.2
  have hb2 := (rowE_mem.1 hb).2.1
  unfold n0N at hb2
  refine Nat.lt_of_not_le fun x => ?_
  have := (cpS_row hfg hg).1 x g hfg (Nat.le_refl _)
  omega
theorem preE_ord {nm : List Int} {en : Nat → Nat} (h : EnP nm en) : ∀ {k : Nat}, k ≤ nm.length → (preE nm en k).Pairwise fun a b => ltL (seqN nm a.2 a.1) (seqN nm b.2 b.1) = true
  | 0, _ => List.Pairwise.nil
  | k + 1, hk => by
    rw [preE, List.pairwise_append]
    refine ⟨preE_ord h (by omega), rowE_ord h _, fun a ha b hb => ?_⟩
    obtain ⟨f, f1, f2⟩ := preE_mem.1 ha
    exact row_below h f1 (by omega) f2 hb
/-- What is told is just the sequences that stand twice, in order. -/
theorem each_is {nm : List Int} {en : Nat → Nat} (h : EnP nm en) : RepP nm en (eachL nm en) := ⟨each_mem h, preE_ord h (Nat.le_refl _)⟩
theorem oneR_plc {nm : List Int} {en : Nat → Nat} (h : EnP nm en) {f n : Nat} (hl : 2 ≤ (plcR nm en (snth (sufN nm) f) n).length) : plcR nm en (snth (sufN nm) f) n = plcS nm en (oneR nm en f n).2 n := by
  obtain ⟨m1, -⟩ := plcR_head (nm := nm) (en := en) (a := snth (sufN nm) f) (n := n) (by omega)
  obtain ⟨q1, q2, q3⟩ := plcR_mem.1 m1
  exact plcR_room h q1 q2 q3


end Go.Proofs.YtokhclindfipbaaGreatDoor

namespace Go.Proofs.YtokhclindfipbaaGreatDoor
open Go.RowKit

/-- Where blocks end, as a list. -/
def enZ (nm : List Int) (en : Nat → Nat) : List Int := (List.range nm.length).map fun k => ((en k : Nat) : Int)
theorem enZ_len (nm : List Int) (en : Nat → Nat) : (enZ nm en).length = nm.length := by simp [enZ]
theorem enZ_nth {nm : List Int} {en : Nat → Nat} {k : Nat} (h : k < nm.length) : nth (enZ nm en) k = ((en k : Nat) : Int) := by simp [nth, enZ, h]
/-- The rows of a text: four lists of numbers. -/
structure RwS (w : World) (B : Nat) (A1 A2 A3 A4 : Option Addr) (c1 c2 c3 c4 : Nat) (nm : List Int) (en : Nat → Nat) : Prop where
  f1 : w.cell? ⟨B, 0, none⟩ = some (.slice A1 nm.length c1)
  f2 : w.cell? ⟨B, 1, none⟩ = some (.slice A2 nm.length c2)
  f3 : w.cell? ⟨B, 2, none⟩ = some (.slice A3 nm.length c3)
  f4 : w.cell? ⟨B, 3, none⟩ = some (.slice A4 nm.length c4)
  r1 : IntsAt w A1 .i64 (sufL nm)
  r2 : IntsAt w A2 .i64 (rkL nm)
  r3 : IntsAt w A3 .i64 (cpA nm)
  r4 : IntsAt w A4 .i64 (enZ nm en)
  le : nm.length ≤ c1
theorem RwS.keep {w w' : World} {B : Nat} {A1 A2 A3 A4 : Option Addr} {c1 c2 c3 c4 : Nat} {nm : List Int} {en : Nat → Nat} (h : RwS w B A1 A2 A3 A4 c1 c2 c3 c4 nm en) (hb : Below w.heap.size w w') : RwS w' B A1 A2 A3 A4 c1 c2 c3 c4 nm en :=
  ⟨lkeep hb h.f1, lkeep hb h.f2, lkeep hb h.f3, lkeep hb h.f4, h.r1.keep hb, h.r2.keep hb, h.r3.keep hb, h.r4.keep hb, h.le⟩
def hrB (nm : List Int) (en : Nat → Nat) (i n : Int) : Bool := decide (0 ≤ i ∧ i < (nm.length : Int) ∧ n ≤ ((en i.toNat : Nat) : Int) - i)
theorem hrB_nat {nm : List Int} {en : Nat → Nat} (h : EnP nm en) {k n : Nat} (hk : k < nm.length) : hrB nm en (k : Int) (n : Int) = decide (k + n ≤ en k) := by
  have := h.lt k hk
  unfold hrB
  rw [decide_eq_decide, Int.toNat_natCast]
  omega
set_option maxRecDepth 100000 in
set_option maxHeartbeats 4000000 in
theorem room_any (B : Nat) (A1 A2 A3 A4 : Option Addr) (c1 c2 c3 c4 : Nat) (nm : List Int) (en : Nat → Nat) (i n : Int) (w : World) (h : RwS w B A1 A2 A3 A4 c1 c2 c3 c4 nm en) (he : EnP nm en) (hl : nm.length ≤ 16384) (hi : -9223372036854775808 ≤ i ∧ i ≤ 9223372036854775807) :
    Calls Tryz.prog 28 #[.pointer (some ⟨B, 0, none⟩), .int .i64 i, .int .i64 n] w fun e w' => e = .returned (.bool (hrB nm en i n)) ∧ w' = w := by
  have f4 := h.f4
  by_cases h0 : 0 ≤ i
  · by_cases h1 : i < (nm.length : Int)
    · obtain ⟨k, rfl⟩ : ∃ k : Nat, i = (k : Int) := ⟨i.toNat, by omega⟩
      have hk : k < nm.length := by omega
      obtain ⟨a, rfl, q⟩ := h.r4 k (by rw [enZ_len]; exact hk)
      rw [enZ_nth hk] at q
      have e1 := he.lt k hk
      have e2 := he.le k hk
      obtain ⟨E, hE⟩ : ∃ E, E = en k := ⟨_, rfl⟩
      rw [← hE] at q e1 e2
      have HR : Hid (hrB nm en (k : Int) n = decide (n ≤ (E : Int) - (k : Int))) := by
        unfold Hid hrB
        rw [hE, decide_eq_decide, Int.toNat_natCast]
        omega
      clear hE he h hi
      have b1 : (E : Int) ≤ 16384 := by omega
      have b2 : (k : Int) < (E : Int) := by omega
      have b3 : (0 : Int) ≤ (k : Int) := by omega
      by_cases h2 : n ≤ (E : Int) - (k : Int)
      · rw [HR.out, decide_eq_true h2]
        go_enter Tryz.func28, Tryz.ntmps28
        go_wp2
        go_ret
        exact ⟨rfl, rfl⟩
      · rw [HR.out, decide_eq_false h2]
        go_enter Tryz.func28, Tryz.ntmps28
        go_wp2
        go_ret
        exact ⟨rfl, rfl⟩
    · rw [show hrB nm en i n = false from decide_eq_false (fun x => h1 x.2.1)]
      clear h he hi
      go_enter Tryz.func28, Tryz.ntmps28
      go_wp2
      go_ret
      exact ⟨rfl, rfl⟩
  · rw [show hrB nm en i n = false from decide_eq_false (fun x => h0 x.1)]
    clear h he hi
    go_enter Tryz.func28, Tryz.ntmps28
    go_wp2
    go_ret
    exact ⟨rfl, rfl⟩
set_option maxRecDepth 100000 in
/-- The closure that asks it. -/
theorem asks_any (Br Bn B : Nat) (A1 A2 A3 A4 : Option Addr) (c1 c2 c3 c4 : Nat) (nm : List Int) (en : Nat → Nat) (k n : Nat) (w : World) (h : RwS w B A1 A2 A3 A4 c1 c2 c3 c4 nm en) (he : EnP nm en) (hl : nm.length ≤ 16384) (hr : w.cell? ⟨Br, 0, none⟩ = some (.pointer (some ⟨B, 0, none⟩))) (hn : w.cell? ⟨Bn, 0, none⟩ = some (.int .i64 (n : Int))) (hk : k < nm.length) :
    Calls Tryz.prog 67 #[.int .i64 (k : Int), .pointer (some ⟨Br, 0, none⟩), .pointer (some ⟨Bn, 0, none⟩)] w fun e w' => e = .returned (.bool (decide (k + n ≤ en k))) ∧ w' = w := by
  have C := room_any B A1 A2 A3 A4 c1 c2 c3 c4 nm en (k : Int) (n : Int) w h he hl (by omega)
  rw [hrB_nat he hk] at C
  clear h he
  go_enter Tryz.func67, Tryz.ntmps67
  go_wp2_with (go_at_call 28; refine C.mono ?_; rintro e w1 ⟨rfl, rfl⟩)
  go_ret
  exact ⟨rfl, rfl⟩


end Go.Proofs.YtokhclindfipbaaGreatDoor

namespace Go.Proofs
open Go.Shelf
def Tryz.layS_ren : Go.Shelf.Ren := ⟨fun | 189 => 91 | 125 => 108 | 257 => 107 | 128 => 126 | 129 => 127 | 294 => 117 | 295 => 118 | 296 => 119 | 297 => 120 | 298 => 121 | 299 => 122 | 216 => 123 | 300 => 124 | 301 => 125 | 328 => 138 | 329 => 139 | 330 => 140 | 331 => 141 | 332 => 142 | 215 => 104 | 343 => 152 | n => n, fun | 28 => 36 | 3 => 3 | 46 => 150 | 0 => 0 | 51 => 93 | 53 => 188 | 4 => 4 | 183 => 193 | 182 => 192 | 131 => 95 | 5 => 5 | 9 => 9 | 218 => 210 | 222 => 214 | 228 => 224 | 229 => 225 | n => n, fun | n => n⟩
theorem Tryz.layS : Go.Proofs.Lays.n189 Tryz.prog Tryz.layS_ren := {
  mixed := by kernel_rfl
  f125 := Tryz.func108.trans (congrArg some (by kernel_rfl))
  f128 := Tryz.func126.trans (congrArg some (by kernel_rfl))
  f129 := Tryz.func127.trans (congrArg some (by kernel_rfl))
  f189 := Tryz.func91.trans (congrArg some (by kernel_rfl))
  f215 := Tryz.func104.trans (congrArg some (by kernel_rfl))
  f216 := Tryz.func123.trans (congrArg some (by kernel_rfl))
  f257 := Tryz.func107.trans (congrArg some (by kernel_rfl))
  f294 := Tryz.func117.trans (congrArg some (by kernel_rfl))
  f295 := Tryz.func118.trans (congrArg some (by kernel_rfl))
  f296 := Tryz.func119.trans (congrArg some (by kernel_rfl))
  f297 := Tryz.func120.trans (congrArg some (by kernel_rfl))
  f298 := Tryz.func121.trans (congrArg some (by kernel_rfl))
  f299 := Tryz.func122.trans (congrArg some (by kernel_rfl))
  f300 := Tryz.func124.trans (congrArg some (by kernel_rfl))
  f301 := Tryz.func125.trans (congrArg some (by kernel_rfl))
  f328 := Tryz.func138.trans (congrArg some (by kernel_rfl))
  f329 := Tryz.func139.trans (congrArg some (by kernel_rfl))
  f330 := Tryz.func140.trans (congrArg some (by kernel_rfl))
  f331 := Tryz.func141.trans (congrArg some (by kernel_rfl))
  f332 := Tryz.func142.trans (congrArg some (by kernel_rfl))
  f343 := Tryz.func152.trans (congrArg some (by kernel_rfl))
  t0 := Tryz.underlying0
  a0 := Tryz.isAgg0
  z0 := Tryz.sizeOf0
  v0 := Tryz.zeroValue0
  t3 := Tryz.underlying3
  a3 := Tryz.isAgg3
  z3 := Tryz.sizeOf3
  v3 := Tryz.zeroValue3
  t4 := Tryz.underlying4
  a4 := Tryz.isAgg4
  z4 := Tryz.sizeOf4
  v4 := Tryz.zeroValue4
  t5 := Tryz.underlying5
  a5 := Tryz.isAgg5
  z5 := Tryz.sizeOf5
  v5 := Tryz.zeroValue5
  t9 := Tryz.underlying9
  a9 := Tryz.isAgg9
  z9 := Tryz.sizeOf9
  v9 := Tryz.zeroValue9
  t28 := Tryz.underlying36
  a28 := Tryz.isAgg36
  z28 := Tryz.sizeOf36
  v28 := Tryz.zeroValue36
  t46 := Tryz.underlying150
  a46 := Tryz.isAgg150
  z46 := Tryz.sizeOf150
  v46 := Tryz.zeroValue150
  t51 := Tryz.underlying93
  a51 := Tryz.isAgg93
  z51 := Tryz.sizeOf93
  v51 := Tryz.zeroValue93
  t53 := Tryz.underlying188
  a53 := Tryz.isAgg188
  z53 := Tryz.sizeOf188
  v53 := Tryz.zeroValue188
  t131 := Tryz.underlying95
  a131 := Tryz.isAgg95
  z131 := Tryz.sizeOf95
  v131 := Tryz.zeroValue95
  t182 := Tryz.underlying192
  a182 := Tryz.isAgg192
  z182 := Tryz.sizeOf192
  v182 := Tryz.zeroValue192
  t183 := Tryz.underlying193
  a183 := Tryz.isAgg193
  z183 := Tryz.sizeOf193
  v183 := Tryz.zeroValue193
  t218 := Tryz.underlying210
  a218 := Tryz.isAgg210
  z218 := Tryz.sizeOf210
  v218 := Tryz.zeroValue210
  t222 := Tryz.underlying214
  a222 := Tryz.isAgg214
  z222 := Tryz.sizeOf214
  v222 := Tryz.zeroValue214
  t228 := Tryz.underlying224
  a228 := Tryz.isAgg224
  z228 := Tryz.sizeOf224
  v228 := Tryz.zeroValue224
  t229 := Tryz.underlying225
  a229 := Tryz.isAgg225
  z229 := Tryz.sizeOf225
  v229 := Tryz.zeroValue225
}
end Go.Proofs

namespace Go.Proofs.YtokhclindfipbaaGreatDoor
open Go.RowKit

open Go.Sort
/-- What a list of places is answered as. -/
def GthP (T : List Nat) (w : World) (e : Ending) (w' : World) : Prop := ∃ (O : Option Addr) (c : Nat), e = .returned (.slice O T.length c) ∧ w'.ownsRow w.heap.size 3 1 (.slice O T.length c) T.length (iVals .i64 (nV64 T)) ∧ Below w.heap.size w w'
theorem make_cap (m : Nat) (hm : m ≤ 1048576) (w : World) : (Instr.makeSlice 36 (.int .i64 0) (.int .i64 (m : Int))).run Tryz.prog w = .ok (.slice (some ⟨w.heap.size, 0, none⟩) 0 m) (w.alloc (.cells (rowC m (fun _ => 0)).toArray 3)) := by
  obtain ⟨i, hi, hz, hs, hb⟩ := infoP3
  have h := run_makeSlice (P := Tryz.prog) w 36 3 i _ Tryz.underlying36 hi hz .i64 .i64 (0 : Int) (m : Int) (by omega) (by omega) (by rw [hs]; omega) (by rw [hb]; omega) (by omega)
  rw [hs, Nat.mul_one, show ((m : Int)).toNat = m by omega] at h
  rw [h, ← rowC_wcur, ← made_wcur (fun _ => .int .i64 0) (.int .i64 0) m]
  rfl
theorem own_cap (m : Nat) (hm : m ≤ 1048576) (w : World) : (w.alloc (.cells (rowC m (fun _ => 0)).toArray 3)).ownsRow w.heap.size 3 1 (.slice (some ⟨w.heap.size, 0, none⟩) 0 m) 0 [] :=
  ⟨rfl, .inr ⟨w.heap.size, m, _, rfl, Nat.le_refl _, heap_alloc_new _ _, Nat.zero_le _, by unfold maxLen; omega, by simp [rowC_len], by simp⟩⟩
theorem nV64_snoc (l : List Nat) (x : Nat) : nV64 (l ++ [x]) = nV64 l ++ [((x : Nat) : Int)] := by simp [nV64]
set_option maxHeartbeats 4000000 in
/-- The sort's end. -/
theorem sort_end {w w1 : World} {g cap n nn : Nat} {os : Array Obj} {l : List Int} (hown : w1.ownsRow w.heap.size 3 1 (.slice (some ⟨g, 0, none⟩) n cap) n (iVals .i64 l)) (hbel : Below w.heap.size w w1) (hlen : l.length = n) :
    (grow (putRow (Value.int .i64) (Sort.ahead w1 nn) g 0 (l.mergeSort fun x y => decide (x ≤ y)).toArray) os).ownsRow w.heap.size 3 1 (.slice (some ⟨g, 0, none⟩) n cap) n (iVals .i64 (l.mergeSort fun x y => decide (x ≤ y))) ∧ Below w.heap.size w (grow (putRow (Value.int .i64) (Sort.ahead w1 nn) g 0 (l.mergeSort fun x y => decide (x ≤ y)).toArray) os) := by
  have hl2 : (l.mergeSort fun x y => decide (x ≤ y)).length = l.length := List.length_mergeSort l
  subst hlen
  rcases hown.2 with ⟨h0, _⟩ | ⟨g', cap', cur, hv, hbase, hb, h1, h2, h3, h4⟩
  · cases h0
  cases hv
  exact ⟨ownsRow_sortedI (n := nn) (os := os) (ts := l.mergeSort fun x y => decide (x ≤ y)) hl2 hbase hb h1 h2 h3, hbel.grown (grownBy_sortedI _) hbel.size (fun j hj => by cases hj; exact hbase)⟩
set_option maxRecDepth 100000 in
set_option maxHeartbeats 8000000 in
theorem gath_any (Br Bn B : Nat) (X : Option Addr) (cx : Nat) (A1 A2 A3 A4 : Option Addr) (c1 c2 c3 c4 : Nat) (nm : List Int) (en : Nat → Nat) (a b n : Nat) (w : World) (h : RwS w B A1 A2 A3 A4 c1 c2 c3 c4 nm en) (he : EnP nm en) (hl : nm.length ≤ 16384) (hr : w.cell? ⟨Br, 0, none⟩ = some (.pointer (some ⟨B, 0, none⟩))) (hn : w.cell? ⟨Bn, 0, none⟩ = some (.int .i64 (n : Int)))
    (hab : a ≤ b) (hb : b ≤ nm.length) (hX : ∀ j, a + j < b → ∃ Y, X = some Y ∧ w.cell? (Y.add j) = some (.int .i64 ((snth (sufN nm) (a + j) : Nat) : Int))) (T : List Nat) (hT : ((nV64 (gatN nm en a b n)).mergeSort fun x y => decide (x ≤ y)) = nV64 T) :
    Calls Tryz.prog 66 #[.slice X (b - a) cx, .func (.func 67) #[] #[.pointer (some ⟨Br, 0, none⟩), .pointer (some ⟨Bn, 0, none⟩)]] w (GthP T w) := by
  have HW : Hid (∀ W, Below w.heap.size w W → RwS W B A1 A2 A3 A4 c1 c2 c3 c4 nm en ∧ W.cell? ⟨Br, 0, none⟩ = some (.pointer (some ⟨B, 0, none⟩)) ∧ W.cell? ⟨Bn, 0, none⟩ = some (.int .i64 (n : Int)) ∧ ∀ j, a + j < b → ∃ Y, X = some Y ∧ W.cell? (Y.add j) = some (.int .i64 ((snth (sufN nm) (a + j) : Nat) : Int))) := fun W hb => ⟨h.keep hb, lkeep hb hr, lkeep hb hn, fun j hj => by
    obtain ⟨Y, e, q⟩ := hX j hj
    exact ⟨Y, e, lkeep hb q⟩⟩
  have HE : Hid (EnP nm en) := he
  have HTT : Hid _ := hT
  obtain ⟨iI, hi, hz0, hz1, hz2⟩ := infoI3
  clear h he hr hn hX hT
  obtain ⟨m, hm⟩ : ∃ m, m = b - a := ⟨_, rfl⟩
  rw [← hm]
  have hm1 : m ≤ 16384 := by omega
  have HM : Hid (b = a + m) := by unfold Hid; omega
  have HMl : Hid (a + m ≤ nm.length) := by unfold Hid; omega
  have hmk := make_cap m (by omega) w
  have HO0 : Hid ((w.alloc (.cells (rowC m (fun _ => 0)).toArray 3)).ownsRow w.heap.size 3 1 (.slice (some ⟨w.heap.size, 0, none⟩) 0 m) 0 []) := own_cap m (by omega) w
  have HB0 : Hid (Below w.heap.size w (w.alloc (.cells (rowC m (fun _ => 0)).toArray 3))) := lb_alloc (Below.refl _ _) _
  clear hm hab hb
  go_enter Tryz.func66, Tryz.ntmps66
  go_wp2
  go_loopw [5, 13] (fun v i wr => ∃ (j k c : Nat) (O : Option Addr), i = .int .i64 (j : Int) ∧ v = .slice O k c ∧ j ≤ m ∧ k ≤ j ∧ Hid (k = (gatN nm en a (a + j) n).length) ∧ Hid (wr.ownsRow w.heap.size 3 1 (.slice O k c) k (iVals .i64 (nV64 (gatN nm en a (a + j) n)))) ∧ Hid (Below w.heap.size w wr)) (fun _ i _ => m - (intOf i).toNat)
  case atStart => exact ⟨0, 0, m, some ⟨w.heap.size, 0, none⟩, rfl, rfl, Nat.zero_le _, Nat.le_refl _, by unfold Hid; rw [Nat.add_zero, gatN_zero]; rfl, by unfold Hid; rw [Nat.add_zero, gatN_zero]; exact HO0.out, HB0⟩
  case round =>
    clear HO0 HB0 hmk
    obtain ⟨j, k, c, O, rfl, rfl, hj, hkj, HKl, HRw, HBr⟩ := hrel
    by_cases hlt : j < m
    · obtain ⟨HRS, hcr, hcn, hcx⟩ := HW.out wr HBr.out
      obtain ⟨Y, rfl, hcy⟩ := hcx j (by have := HM.out; omega)
      have hlt' : (j : Int) < (m : Int) := by omega
      have hj0 : (0 : Int) ≤ (j : Int) := by omega
      have C := asks_any Br Bn B A1 A2 A3 A4 c1 c2 c3 c4 nm en (snth (sufN nm) (a + j)) n wr HRS HE.out hl hcr hcn (sufN_lt (by have := HMl.out; omega))
      have hgs := gatN_succ (nm := nm) (en := en) (a := a) (b := a + j) (n := n) (by omega)
      clear hcx HRS hcr hcn
      generalize snth (sufN nm) (a + j) = x at *
      by_cases hx : x + n ≤ en x
      · rw [if_pos hx] at hgs
        rw [decide_eq_true hx] at C
        have HG : Hid (gatN nm en a (a + (j + 1)) n = gatN nm en a (a + j) n ++ [x]) := hgs
        clear hgs hx
        have HBa : Hid (Below w.heap.size w (wr.alloc (.cells #[.int .i64 (x : Int)] 3))) := lb_alloc HBr.out _
        have HRa : Hid ((wr.alloc (.cells #[.int .i64 (x : Int)] 3)).ownsRow w.heap.size 3 1 (.slice O k c) k (iVals .i64 (nV64 (gatN nm en a (a + j) n)))) := row_keep HRw.out (lb_alloc (Below.refl _ _) _)
        go_upto_region 6 with (go_at_call 67; refine C.mono ?_; rintro e w1 ⟨rfl, e1⟩; have e2 := e1.symm; clear e1; subst e2)
        go_upto_region 7 with ((at_builtin; go_loud (refine wpList_append_own _ rfl (.tmp 20) (.tmp 22) 36 rfl w.heap.size 3 iI (.int .i64 0) 1 8 Tryz.underlying36 hi hz0 hz1 hz2 rfl (by decide) (.slice O k c) k (iVals .i64 (nV64 (gatN nm en a (a + j) n))) rfl HRa.out ⟨wr.heap.size, 0, none⟩ 1 1 [.int .i64 (x : Int)] rfl rfl (fun j u hu => World.news_of_block (newAtK (by simp)) j u hu) one_oneI (by unfold maxLen; omega) (by omega) HBa.out.size ?_; intro v3 w4 hown hgrow _; have HR3 : Hid (w4.ownsRow w.heap.size 3 1 v3 (k + 1) (iVals .i64 (nV64 (gatN nm en a (a + (j + 1)) n)))) := (by rw [Hid, HG.out, nV64_snoc, iVals_snoc]; exact hown); have HB3 : Hid (Below w.heap.size w w4) := HBa.out.grown hgrow HBa.out.size (fun b hb => (HRa.out.lt b hb).1); clear hown hgrow)))
        obtain ⟨A5, c5, e5⟩ := own_sl HR3.out
        subst e5
        have HK3 : Hid (k + 1 = (gatN nm en a (a + (j + 1)) n).length) := by unfold Hid; rw [HG.out, List.length_append, ← HKl.out]; rfl
        go_wp2
        go_roundw
        case rel => exact ⟨j + 1, k + 1, c5, A5, by go_num, rfl, by omega, by omega, HK3, HR3, HB3⟩
        case measure => simp [intOf]; omega
      · rw [if_neg hx, List.append_nil] at hgs
        rw [decide_eq_false hx] at C
        have HG : Hid (gatN nm en a (a + (j + 1)) n = gatN nm en a (a + j) n) := hgs
        clear hgs hx
        go_wp2_with (go_at_call 67; refine C.mono ?_; rintro e w1 ⟨rfl, e1⟩; have e2 := e1.symm; clear e1; subst e2)
        go_roundw
        case rel => exact ⟨j + 1, k, c, O, by go_num, rfl, by omega, by omega, by rw [HG.out]; exact HKl, by rw [HG.out]; exact HRw, HBr⟩
        case measure => simp [intOf]; omega
    · obtain rfl : j = m := by omega
      have hlt' : ¬ (j : Int) < (j : Int) := by omega
      rw [← HM.out] at HKl HRw
      have HTT2 : Hid (((nV64 (gatN nm en a b n)).mergeSort fun x y => decide (x ≤ y)) = nV64 T) := HTT
      have HTl : Hid (T.length = k) := by
        have := congrArg List.length HTT.out
        rw [List.length_mergeSort, nV64_len, nV64_len] at this
        unfold Hid
        rw [← this, ← HKl.out]
      have HLn : Hid ((nV64 (gatN nm en a b n)).length = k) := by unfold Hid; rw [nV64_len]; exact HKl.out.symm
      clear HTT HM HMl HKl
      generalize nV64 (gatN nm en a b n) = L at *
      by_cases h0 : k = 0
      · subst h0
        have hg : ∀ (p : Option Addr) (k : Nat) (wx : World), Calls Tryz.prog 91 #[.slice p 0 k] wx fun e w' => e = .returned (.tuple #[]) ∧ w' = wx := fun p k wx => Any.slices_Sort_int_none Tryz.layS p k wx
        have HL0 : Hid ((L.mergeSort fun x y => decide (x ≤ y)) = L) := by
          unfold Hid
          rw [List.length_eq_zero_iff.1 HLn.out, List.mergeSort_nil]
        go_wp2_with (go_at_call 91; refine (hg _ _ _).mono ?_; rintro e w2 ⟨rfl, e1⟩; have e2 := e1.symm; clear e1; subst e2)
        go_ret
        refine ⟨O, c, by rw [HTl.out]; rfl, ?_, HBr.out⟩
        rw [HTl.out, ← HTT2.out, HL0.out]
        exact HRw.out
      · have HN : Hid (0 < k) := by unfold Hid; omega
        have hmz : ∀ (g cc : Nat) (wx : World), Sort.Holds (Value.int .i64) wx g 0 L.toArray → g < wx.heap.size → Calls Tryz.prog 91 #[.slice (some ⟨g, 0, none⟩) k cc] wx fun e w' => e = .returned (.tuple #[]) ∧ ∃ n os, w' = grow (putRow (Value.int .i64) (Sort.ahead wx n) g 0 (L.mergeSort fun x y => decide (x ≤ y)).toArray) os := fun g cc wx hH hgl => by
          have := Any.slices_Sort_int Tryz.layS g 0 cc L wx hH hgl (by rw [HLn.out]; omega)
          rw [HLn.out] at this
          exact this
        obtain ⟨g, cap, ev, hbg, hgl, hnc, hcm, hzl, hH⟩ := Lib.holds_of_ownsRow (enc := Value.int .i64) (zs := L) (show wr.ownsRow w.heap.size 3 1 (.slice O k c) k (L.map (Value.int .i64)) from HRw.out) (fun e => by injection e with _ e2 _; have := HN.out; omega)
        injection ev with e1 _ e3
        subst e1
        subst e3
        have C2 := hmz g c wr hH hgl
        have HSE : Hid (∀ nn os, (grow (putRow (Value.int .i64) (Sort.ahead wr nn) g 0 (L.mergeSort fun x y => decide (x ≤ y)).toArray) os).ownsRow w.heap.size 3 1 (.slice (some ⟨g, 0, none⟩) k c) k (iVals .i64 (L.mergeSort fun x y => decide (x ≤ y))) ∧ Below w.heap.size w (grow (putRow (Value.int .i64) (Sort.ahead wr nn) g 0 (L.mergeSort fun x y => decide (x ≤ y)).toArray) os)) := fun nn os => sort_end HRw.out HBr.out HLn.out
        clear hmz hH hbg hgl hnc hcm hzl h0
        go_wp2_with (go_at_call 91; refine C2.mono ?_; rintro e w2 ⟨rfl, nn, os, hw2⟩; have h5 := HSE.out nn os; rw [← hw2] at h5; have H5 : Hid _ := h5; clear h5 hw2)
        go_ret
        refine ⟨some ⟨g, 0, none⟩, c, by rw [HTl.out]; rfl, ?_, H5.out.2⟩
        rw [HTl.out, ← HTT2.out]
        exact H5.out.1


end Go.Proofs.YtokhclindfipbaaGreatDoor
