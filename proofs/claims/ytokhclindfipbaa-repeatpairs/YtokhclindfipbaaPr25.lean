/-
  Plain: the sequences that are told, place by place of the array, are those that stand twice, in order. The rows of a text; is there room? Instructions and their words, there and back, as plain functions of numbers; no Go in sight.
-/
import Derived.Test.YtokhclindfipbaaProg
import Derived.WalkKit
import Derived.WalkSpells
import Derived.WalkLawsBesides
import Derived.RowKit3
import Derived.Below
import Derived.Deep.QuietTactic
import Derived.BigQuiet
import Derived.WalkSmall
import Derived.Laws.Rows
import Derived.Test.YtokhclindfipbaaPr24
import Derived.Test.YtokhclindfipbaaPr15
import Derived.Test.YtokhclindfipbaaPr03
import Derived.Test.YtokhclindfipbaaPr04
namespace Go.Proofs.Ytokhclindfipbaa
open Go.RowKit

theorem cpL_trans : ∀ {n : Nat} {xs ys zs : List Int}, n ≤ cpL xs ys → n ≤ cpL ys zs → n ≤ cpL xs zs
  | 0, _, _, _, _, _ => Nat.zero_le _
  | n + 1, [], ys, _, h, _ => by rw [cpL_nil] at h; omega
  | n + 1, _ :: _, [], _, h, _ => by rw [cpL_out] at h; omega
  | n + 1, _ :: _, _ :: _, [], _, h => by rw [cpL_out] at h; omega
  | n + 1, a :: xs, b :: ys, c :: zs, h1, h2 => by
    rw [cpL] at h1 h2 ⊢
    by_cases e1 : a = b
    · by_cases e2 : b = c
      · rw [if_pos e1] at h1
        rw [if_pos e2] at h2
        rw [if_pos (e1.trans e2)]
        have := cpL_trans (n := n) (xs := xs) (ys := ys) (zs := zs) (by omega) (by omega)
        omega
      · rw [if_neg e2] at h2; omega
    · rw [if_neg e1] at h1; omega
theorem cpS_trans {nm : List Int} {n i j k : Nat} (h1 : n ≤ cpS nm i j) (h2 : n ≤ cpS nm j k) : n ≤ cpS nm i k := cpL_trans h1 h2
theorem cpS_same (nm : List Int) (k : Nat) : cpS nm k k = nm.length - k := by
  unfold cpS
  rw [cpL_same, List.length_drop]
theorem cp_take : ∀ {n : Nat} {xs ys : List Int}, n ≤ cpL xs ys → xs.take n = ys.take n
  | 0, _, _, _ => by simp
  | n + 1, [], ys, h => by rw [cpL_nil] at h; omega
  | n + 1, _ :: _, [], h => by rw [cpL_out] at h; omega
  | n + 1, a :: xs, b :: ys, h => by
    rw [cpL] at h
    by_cases e : a = b
    · rw [if_pos e] at h
      rw [List.take_succ_cons, List.take_succ_cons, cp_take (n := n) (xs := xs) (ys := ys) (by omega), e]
    · rw [if_neg e] at h; omega
theorem lt_take : ∀ {xs ys : List Int} {n m : Nat}, ltL xs ys = true → cpL xs ys < m → n ≤ xs.length → m ≤ ys.length → ltL (xs.take n) (ys.take m) = true
  | [], [], _, _, h, _, _, _ => by cases h
  | [], y :: ys, n, m, _, hc, _, _ => by
    rw [cpL_nil] at hc
    obtain ⟨q, rfl⟩ : ∃ q, m = q + 1 := ⟨m - 1, by omega⟩
    simp [ltL]
  | x :: xs, [], _, _, h, _, _, _ => by cases h
  | x :: xs, y :: ys, n, m, h, hc, hn, hm => by
    rw [ltL] at h
    rw [cpL] at hc
    obtain ⟨q, rfl⟩ : ∃ q, m = q + 1 := ⟨m - 1, by omega⟩
    cases n with
    | zero => simp [ltL]
    | succ n =>
      rw [List.take_succ_cons, List.take_succ_cons, ltL]
      by_cases e : x = y
      · rw [if_pos e] at h hc ⊢
        exact lt_take h (by omega) (by simpa using hn) (by simpa using hm)
      · rw [if_neg e] at h ⊢
        exact h
theorem lt_take_same : ∀ {xs : List Int} {n m : Nat}, n < m → m ≤ xs.length → ltL (xs.take n) (xs.take m) = true
  | [], n, m, h, hm => by simp at hm; omega
  | x :: xs, n, m, h, hm => by
    obtain ⟨q, rfl⟩ : ∃ q, m = q + 1 := ⟨m - 1, by omega⟩
    cases n with
    | zero => simp [ltL]
    | succ n =>
      rw [List.take_succ_cons, List.take_succ_cons, ltL, if_pos rfl]
      exact lt_take_same (by omega) (by simpa using hm)
/-- The places at which what a place begins with stands, where there is room. -/
def plcR (nm : List Int) (en : Nat → Nat) (a n : Nat) : List Nat := (List.range nm.length).filter fun k => decide (n ≤ cpS nm a k) && decide (k + n ≤ en k)
theorem plcR_mem {nm : List Int} {en : Nat → Nat} {a n k : Nat} : k ∈ plcR nm en a n ↔ k < nm.length ∧ n ≤ cpS nm a k ∧ k + n ≤ en k := by simp [plcR]
theorem plcR_nodup (nm : List Int) (en : Nat → Nat) (a n : Nat) : (plcR nm en a n).Nodup := List.nodup_range.filter _
theorem plcR_sorted (nm : List Int) (en : Nat → Nat) (a n : Nat) : (plcR nm en a n).Pairwise fun a b => a < b := List.pairwise_lt_range.filter _
theorem plcR_room {nm : List Int} {en : Nat → Nat} (h : EnP nm en) {a n k : Nat} (_hk : k < nm.length) (hc : n ≤ cpS nm a k) (hr : k + n ≤ en k) : plcR nm en a n = plcS nm en k n := by
  unfold plcR plcS
  refine List.filter_congr fun j hj => ?_
  have hj' : j < nm.length := List.mem_range.1 hj
  have a1 := h.lt j hj'
  rw [Bool.eq_iff_iff]
  simp only [Bool.and_eq_true, decide_eq_true_eq, mE]
  constructor
  · rintro ⟨x, y⟩
    have h1 : n ≤ cpS nm k a := by rw [cpS_comm]; exact hc
    have h2 : n ≤ cpS nm k j := cpS_trans h1 x
    exact decide_eq_true (Nat.le_min.2 ⟨h2, Nat.le_min.2 ⟨by omega, by omega⟩⟩)
  · intro x
    obtain ⟨x1, x2⟩ := Nat.le_min.1 (of_decide_eq_true x)
    obtain ⟨x3, x4⟩ := Nat.le_min.1 x2
    exact ⟨cpS_trans hc x1, by omega⟩
theorem plcR_anti {nm : List Int} {en : Nat → Nat} {a n m : Nat} (h : n ≤ m) : (plcR nm en a m).length ≤ (plcR nm en a n).length := by
  unfold plcR
  rw [← List.countP_eq_length_filter, ← List.countP_eq_length_filter]
  refine List.countP_mono_left fun k _ hk => ?_
  simp only [Bool.and_eq_true, decide_eq_true_eq] at hk ⊢
  omega
theorem plcR_long {nm : List Int} {en : Nat → Nat} (h : EnP nm en) {a n : Nat} (hp : 0 < (plcR nm en a n).length) : n ≤ nm.length := by
  obtain ⟨k, hk⟩ := List.exists_mem_of_length_pos hp
  obtain ⟨k1, -, k3⟩ := plcR_mem.1 hk
  have := h.le k k1
  omega
/-- What is gathered of a part of the array. -/
def gatN (nm : List Int) (en : Nat → Nat) (a b n : Nat) : List Nat := ((List.range (b - a)).map fun j => snth (sufN nm) (a + j)).filter fun k => decide (k + n ≤ en k)
theorem gatN_zero (nm : List Int) (en : Nat → Nat) (a n : Nat) : gatN nm en a a n = [] := by simp [gatN]
theorem gatN_succ {nm : List Int} {en : Nat → Nat} {a b n : Nat} (h : a ≤ b) : gatN nm en a (b + 1) n = gatN nm en a b n ++ if snth (sufN nm) b + n ≤ en (snth (sufN nm) b) then [snth (sufN nm) b] else [] := by
  unfold gatN
  rw [show b + 1 - a = (b - a) + 1 by omega, List.range_succ, List.map_append, List.filter_append]
  congr 1
  rw [List.map_cons, List.map_nil, show a + (b - a) = b by omega]
  by_cases c : snth (sufN nm) b + n ≤ en (snth (sufN nm) b)
  · rw [if_pos c]; simp [c]
  · rw [if_neg c]; simp [c]
theorem gatN_len (nm : List Int) (en : Nat → Nat) (a b n : Nat) : (gatN nm en a b n).length ≤ b - a := by
  refine Nat.le_trans (List.length_filter_le _ _) ?_
  simp
def frN (nm : List Int) (f n : Nat) : Nat := grF (cpA nm) (n : Int) f
def toN (nm : List Int) (f n : Nat) : Nat := grT (cpA nm) (n : Int) (nm.length - (f + 1)) (f + 1)
theorem frto (nm : List Int) {f n : Nat} (hf : f < nm.length) : frN nm f n ≤ f ∧ f + 1 ≤ toN nm f n ∧ toN nm f n ≤ nm.length := by
  have a := grF_le (cpA nm) (n : Int) f
  have b := grT_ge (cpA nm) (n : Int) (nm.length - (f + 1)) (f + 1)
  have c := grT_le (cpA nm) (n : Int) (nm.length - (f + 1)) (f + 1)
  unfold frN toN
  omega
theorem gatN_mem {nm : List Int} {en : Nat → Nat} (h : EnP nm en) {f n k : Nat} (hf : f < nm.length) : k ∈ gatN nm en (frN nm f n) (toN nm f n) n ↔ k ∈ plcR nm en (snth (sufN nm) f) n := by
  obtain ⟨f1, f2, f3⟩ := frto nm (n := n) hf
  rw [plcR_mem]
  unfold gatN
  simp only [List.mem_filter, List.mem_map, List.mem_range, decide_eq_true_eq]
  constructor
  · rintro ⟨⟨j, hj, rfl⟩, hr⟩
    have hl : frN nm f n + j < nm.length := by omega
    have hk := sufN_lt hl
    refine ⟨hk, ?_, hr⟩
    rcases (gr_row (L := n) hf hl).1 ⟨by unfold frN; omega, by unfold toN at hj; omega⟩ with c | c
    · exact c
    · rw [← c, cpS_same]
      rw [← c] at hr hk
      have := h.le _ hk
      omega
  · rintro ⟨hk, hc, hr⟩
    have hl := rkN_lt hk
    obtain ⟨x, y⟩ := (gr_row (L := n) hf hl).2 (.inl (by rw [rkN_at hk]; exact hc))
    refine ⟨⟨rkN nm k - frN nm f n, ?_, ?_⟩, hr⟩
    · unfold frN toN; omega
    · rw [show frN nm f n + (rkN nm k - frN nm f n) = rkN nm k by unfold frN; omega, rkN_at hk]
theorem gatN_nodup {nm : List Int} {en : Nat → Nat} {a b n : Nat} (hb : b ≤ nm.length) : (gatN nm en a b n).Nodup := by
  unfold gatN
  refine List.Pairwise.filter _ ?_
  rw [List.pairwise_map]
  refine List.Pairwise.imp_of_mem ?_ (List.nodup_range (n := b - a))
  intro i k hi hk hne e
  have hi := List.mem_range.1 hi
  have hk := List.mem_range.1 hk
  have := sufN_inj (by omega) (by omega) e
  omega
/-- A list of places as the numbers that are told. -/
def nV64 (l : List Nat) : List Int := l.map fun k => ((k : Nat) : Int)
theorem nV64_len (l : List Nat) : (nV64 l).length = l.length := by simp [nV64]
theorem gatN_sort {nm : List Int} {en : Nat → Nat} (h : EnP nm en) {f n : Nat} (hf : f < nm.length) : ((nV64 (gatN nm en (frN nm f n) (toN nm f n) n)).mergeSort fun x y => decide (x ≤ y)) = nV64 (plcR nm en (snth (sufN nm) f) n) := by
  have hp : (gatN nm en (frN nm f n) (toN nm f n) n).Perm (plcR nm en (snth (sufN nm) f) n) := (List.perm_ext_iff_of_nodup (gatN_nodup (frto nm hf).2.2) (plcR_nodup _ _ _ _)).2 fun k => gatN_mem h hf
  have h1 : ((nV64 (gatN nm en (frN nm f n) (toN nm f n) n)).mergeSort fun x y => decide (x ≤ y)).Perm (nV64 (plcR nm en (snth (sufN nm) f) n)) := (List.mergeSort_perm _ _).trans (hp.map _)
  refine List.Perm.eq_of_pairwise (le := fun x y : Int => x ≤ y) (fun a b _ _ x y => Int.le_antisymm x y) ?_ ?_ h1
  · have := List.pairwise_mergeSort (le := fun x y : Int => decide (x ≤ y)) (fun a b c x y => by simp only [decide_eq_true_eq] at *; omega) (fun a b => by simp only [Bool.or_eq_true, decide_eq_true_eq]; omega) (nV64 (gatN nm en (frN nm f n) (toN nm f n) n))
    exact this.imp fun x => of_decide_eq_true x
  · unfold nV64
    rw [List.pairwise_map]
    exact (plcR_sorted nm en (snth (sufN nm) f) n).imp fun x => by omega
/-- The lengths that are told at a place of the array. -/
def n0N (nm : List Int) (f : Nat) : Nat := max 2 (cpN nm f + 1)
def tellB (nm : List Int) (en : Nat → Nat) (f n : Nat) : Bool := decide (n0N nm f ≤ n) && decide (2 ≤ (plcR nm en (snth (sufN nm) f) n).length)
def oneR (nm : List Int) (en : Nat → Nat) (f n : Nat) : Nat × Nat := (n, snth (plcR nm en (snth (sufN nm) f) n) 0)
def rowE (nm : List Int) (en : Nat → Nat) (f n : Nat) : List (Nat × Nat) := ((List.range n).filter (tellB nm en f)).map (oneR nm en f)
def preE (nm : List Int) (en : Nat → Nat) : Nat → List (Nat × Nat)
  | 0 => []
  | f + 1 => preE nm en f ++ rowE nm en f (nm.length + 1)
def eachL (nm : List Int) (en : Nat → Nat) : List (Nat × Nat) := preE nm en nm.length
theorem rowE_yes {nm : List Int} {en : Nat → Nat} {f n : Nat} (h : tellB nm en f n = true) : rowE nm en f (n + 1) = rowE nm en f n ++ [oneR nm en f n] := by
  unfold rowE
  rw [List.range_succ, List.filter_append, List.map_append]
  simp [h]
theorem rowE_no {nm : List Int} {en : Nat → Nat} {f n : Nat} (h : tellB nm en f n = false) : rowE nm en f (n + 1) = rowE nm en f n := by
  unfold rowE
  rw [List.range_succ, List.filter_append, List.map_append]
  simp [h]
theorem rowE_rest {nm : List Int} {en : Nat → Nat} {f n : Nat} (h : ∀ m, n ≤ m → tellB nm en f m = false) : ∀ {k : Nat}, n ≤ k → rowE nm en f k = rowE nm en f n := fun {k} hk => by
  induction k with
  | zero => rw [show n = 0 by omega]
  | succ k ih =>
    by_cases c : n ≤ k
    · rw [rowE_no (h k c), ih c]
    · rw [show n = k + 1 by omega]
theorem rowE_start (nm : List Int) (en : Nat → Nat) (f : Nat) : ∀ {n : Nat}, n ≤ n0N nm f → rowE nm en f n = [] := fun {n} => by
  induction n with
  | zero => intro _; rfl
  | succ n ih =>
    intro h
    rw [rowE_no (by simp [tellB]; omega), ih (by omega)]
theorem rowE_done {nm : List Int} {en : Nat → Nat} (_h : EnP nm en) {f n : Nat} (hn : n ≤ nm.length + 1) (hl : (plcR nm en (snth (sufN nm) f) n).length < 2) : rowE nm en f (nm.length + 1) = rowE nm en f n :=
  rowE_rest (fun m hm => by
    have := plcR_anti (nm := nm) (en := en) (a := snth (sufN nm) f) hm
    simp [tellB]
    omega) hn
theorem rowE_pre {nm : List Int} {en : Nat → Nat} {f n k : Nat} (h : n ≤ k) : rowE nm en f n <+: rowE nm en f k := by
  unfold rowE
  refine List.IsPrefix.map _ (List.IsPrefix.filter _ ?_)
  refine ⟨(List.range (k - n)).map (n + ·), ?_⟩
  rw [← List.range_add, Nat.add_sub_cancel' h]
theorem preE_pre {nm : List Int} {en : Nat → Nat} {f k : Nat} (h : f ≤ k) : preE nm en f <+: preE nm en k := by
  induction k with
  | zero => rw [show f = 0 by omega]; exact List.prefix_refl _
  | succ k ih =>
    by_cases c : f ≤ k
    · exact (ih c).trans (List.prefix_append _ _)
    · rw [show f = k + 1 by omega]; exact List.prefix_refl _
theorem each_pre {nm : List Int} {en : Nat → Nat} {f n : Nat} (hf : f < nm.length) (hn : n ≤ nm.length + 1) : preE nm en f ++ rowE nm en f n <+: eachL nm en := by
  refine List.IsPrefix.trans ?_ (preE_pre (nm := nm) (en := en) (f := f + 1) hf)
  rw [preE]
  exact (List.prefix_append_right_inj _).2 (rowE_pre hn)
theorem rowE_mem {nm : List Int} {en : Nat → Nat} {f k : Nat} {r : Nat × Nat} : r ∈ rowE nm en f k ↔ r.1 < k ∧ n0N nm f ≤ r.1 ∧ 2 ≤ (plcR nm en (snth (sufN nm) f) r.1).length ∧ r.2 = snth (plcR nm en (snth (sufN nm) f) r.1) 0 := by
  unfold rowE tellB oneR
  simp only [List.mem_map, List.mem_filter, List.mem_range, Bool.and_eq_true, decide_eq_true_eq]
  constructor
  · rintro ⟨n, ⟨h1, h2, h3⟩, rfl⟩
    exact ⟨h1, h2, h3, rfl⟩
  · rintro ⟨h1, h2, h3, h4⟩
    exact ⟨r.1, ⟨h1, h2, h3⟩, Prod.ext rfl h4.symm⟩
theorem preE_mem {nm : List Int} {en : Nat → Nat} {r : Nat × Nat} : ∀ {k : Nat}, r ∈ preE nm en k ↔ ∃ f, f < k ∧ r ∈ rowE nm en f (nm.length + 1)
  | 0 => by simp [preE]
  | k + 1 => by
    rw [preE, List.mem_append, preE_mem (k := k)]
    constructor
    · rintro (⟨f, h1, h2⟩ | h)
      · exact ⟨f, by omega, h2⟩
      · exact ⟨k, by omega, h⟩
    · rintro ⟨f, h1, h2⟩
      by_cases c : f = k
      · exact .inr (c ▸ h2)
      · exact .inl ⟨f, by omega, h2⟩
/-- The first of a row's places. -/
theorem plcR_head {nm : List Int} {en : Nat → Nat} {a n : Nat} (h : 0 < (plcR nm en a n).length) : snth (plcR nm en a n) 0 ∈ plcR nm en a n ∧ ∀ k, k ∈ plcR nm en a n → snth (plcR nm en a n) 0 ≤ k := by
  have hs := plcR_sorted nm en a n
  generalize plcR nm en a n = l at *
  cases l with
  | nil => simp at h
  | cons x l =>
    refine ⟨by simp [snth], fun k hk => ?_⟩
    rcases List.mem_cons.1 hk with rfl | hk
    · exact Nat.le_refl _
    · exact Nat.le_of_lt ((List.pairwise_cons.1 hs).1 k hk)
theorem two_other {l : List Nat} (hn : l.Nodup) (h : 2 ≤ l.length) (i : Nat) : ∃ k, k ∈ l ∧ k ≠ i := by
  match l, hn, h with
  | x :: y :: l, hn, _ =>
    by_cases c : x = i
    · refine ⟨y, by simp, fun e => ?_⟩
      rw [c, e] at hn
      simp at hn
    · exact ⟨x, by simp, c⟩
/-- What a told one is. -/
theorem rowE_rep {nm : List Int} {en : Nat → Nat} (h : EnP nm en) {f k : Nat} {r : Nat × Nat} (hr : r ∈ rowE nm en f k) : RepQ nm en r.1 r.2 ∧ r.1 ≤ cpS nm (snth (sufN nm) f) r.2 := by
  obtain ⟨-, h2, h3, h4⟩ := rowE_mem.1 hr
  obtain ⟨m1, m2⟩ := plcR_head (nm := nm) (en := en) (a := snth (sufN nm) f) (n := r.1) (by omega)
  rw [← h4] at m1 m2
  obtain ⟨q1, q2, q3⟩ := plcR_mem.1 m1
  have e := plcR_room h q1 q2 q3
  refine ⟨⟨q1, by unfold n0N at h2; omega, q3, ?_, fun k hk hm => ?_⟩, q2⟩
  · obtain ⟨j, j1, j2⟩ := two_other (plcR_nodup nm en (snth (sufN nm) f) r.1) h3 r.2
    rw [e] at j1
    obtain ⟨j3, j4⟩ := plcS_mem.1 j1
    exact ⟨j, j3, j2, j4⟩
  · have : k ∈ plcR nm en (snth (sufN nm) f) r.1 := by
      rw [e]
      exact plcS_mem.2 ⟨by omega, hm⟩
    have := m2 k this
    omega
theorem least_ex (p : Nat → Prop) [DecidablePred p] : ∀ n, p n → ∃ f, f ≤ n ∧ p f ∧ ∀ j, j < f → ¬ p j := fun n => by
  induction n using Nat.strongRecOn with
  | _ n ih =>
    intro hn
    by_cases c : ∃ j, j < n ∧ p j
    · obtain ⟨j, hj, hp⟩ := c
      obtain ⟨f, f1, f2, f3⟩ := ih j hj hp
      exact ⟨f, by omega, f2, f3⟩
    · exact ⟨n, Nat.le_refl _, hn, fun j hj hp => c ⟨j, hj, hp⟩⟩
theorem each_mem {nm : List Int} {en : Nat → Nat} (h : EnP nm en) (r : Nat × Nat) : r ∈ eachL nm en ↔ RepQ nm en r.1 r.2 := by
  unfold eachL
  rw [preE_mem]
  constructor
  · rintro ⟨f, -, h2⟩
    exact (rowE_rep h h2).1
  · intro q
    obtain ⟨q1, q2, q3, ⟨k, k1, k2, k3⟩, q5⟩ := q
    have hown : r.1 ≤ cpS nm r.2 r.2 := by
      rw [cpS_same]
      have := h.le r.2 q1
      omega
    obtain ⟨f, f1, f2, f3⟩ := least_ex (fun f => r.1 ≤ cpS nm r.2 (snth (sufN nm) f)) (rkN nm r.2) (by rw [rkN_at q1]; exact hown)
    have hf : f < nm.length := Nat.lt_of_le_of_lt f1 (rkN_lt q1)
    have f2' : r.1 ≤ cpS nm (snth (sufN nm) f) r.2 := by rw [cpS_comm]; exact f2
    have e := plcR_room h q1 f2' q3
    have hlen : 2 ≤ (plcS nm en r.2 r.1).length := (plcS_two h q1 q3).2 ⟨k, k1, k2, k3⟩
    refine ⟨f, hf, rowE_mem.2 ⟨?_, ?_, by rw [e]; exact hlen, ?_⟩⟩
    · have := h.le r.2 q1
      omega
    · unfold n0N
      have : cpN nm f < r.1 := by
        unfold cpN
        by_cases c : f = 0
        · rw [if_pos c]; omega
        · rw [if_neg c]
          refine Nat.lt_of_not_le fun x => f3 (f - 1) (by omega) ?_
          exact cpS_trans f2 (by rw [cpS_comm]; exact x)
      omega
    · rw [e]
      exact ((plcS_first h q1 q3).2 q5).symm
theorem seq_drop (nm : List Int) (i n : Nat) : seqN nm i n = (nm.drop i).take n := rfl
theorem rowE_seq {nm : List Int} {en : Nat → Nat} (h : EnP nm en) {f k : Nat} {r : Nat × Nat} (hr : r ∈ rowE nm en f k) : seqN nm r.2 r.1 = (nm.drop (snth (sufN nm) f)).take r.1 ∧ r.1 ≤ (nm.drop (snth (sufN nm) f)).length := by
  have q := (rowE_rep h hr).2
  refine ⟨(cp_take q).symm, ?_⟩
  have := cpL_le (nm.drop (snth (sufN nm) f)) (nm.drop r.2)
  exact Nat.le_trans q this
theorem rowE_ord {nm : List Int} {en : Nat → Nat} (h : EnP nm en) {f : Nat} : ∀ k : Nat, (rowE nm en f k).Pairwise fun a b => ltL (seqN nm a.2 a.1) (seqN nm b.2 b.1) = true
  | 0 => List.Pairwise.nil
  | k + 1 => by
    cases c : tellB nm en f k with
    | false => rw [rowE_no c]; exact rowE_ord h k
    | true =>
      have hy := rowE_yes c
      rw [hy, List.pairwise_append]
      refine ⟨rowE_ord h k, List.pairwise_singleton _ _, fun a ha b hb => ?_⟩
      rw [List.mem_singleton.1 hb]
      have h1 := rowE_seq h ha
      have h2 := rowE_seq h (r := oneR nm en f k) (f := f) (k := k + 1) (by rw [hy]; simp)
      rw [h1.1, h2.1]
      exact lt_take_same (rowE_mem.1 ha).1 h2.2
theorem row_below {nm : List Int} {en : Nat → Nat} (h : EnP nm en) {f g : Nat} (hfg : f < g) (hg : g < nm.length) {a b : Nat × Nat} {ka kb : Nat} (ha : a ∈ rowE nm en f ka) (hb : b ∈ rowE nm en g kb) : ltL (seqN nm a.2 a.1) (seqN nm b.2 b.1) = true := by
  have h1 := rowE_seq h ha
  have h2 := rowE_seq h hb
  rw [h1.1, h2.1]
  refine lt_take (sufN_less hfg hg) ?_ h1.2 h2.2
  have hb2 := (rowE_mem.1 hb).2.1
  unfold n0N at hb2
  refine Nat.lt_of_not_le fun x => ?_
  have := (cpS_row hfg hg).1 x g hfg (Nat.le_refl _)
  omega
theorem preE_ord {nm : List Int} {en : Nat → Nat} (h : EnP nm en) : ∀ {k : Nat}, k ≤ nm.length → (preE nm en k).Pairwise fun a b => ltL (seqN nm a.2 a.1) (seqN nm b.2 b.1) = true
  | 0, _ => List.Pairwise.nil
  | k + 1, hk => by
    rw [preE, List.pairwise_append]
    refine ⟨preE_ord h (by omega), rowE_ord h _, fun a ha b hb => ?_⟩
    obtain ⟨f, f1, f2⟩ := preE_mem.1 ha
    exact row_below h f1 (by omega) f2 hb
/-- What is told is just the sequences that stand twice, in order. -/
theorem each_is {nm : List Int} {en : Nat → Nat} (h : EnP nm en) : RepP nm en (eachL nm en) := ⟨each_mem h, preE_ord h (Nat.le_refl _)⟩
theorem oneR_plc {nm : List Int} {en : Nat → Nat} (h : EnP nm en) {f n : Nat} (hl : 2 ≤ (plcR nm en (snth (sufN nm) f) n).length) : plcR nm en (snth (sufN nm) f) n = plcS nm en (oneR nm en f n).2 n := by
  obtain ⟨m1, -⟩ := plcR_head (nm := nm) (en := en) (a := snth (sufN nm) f) (n := n) (by omega)
  obtain ⟨q1, q2, q3⟩ := plcR_mem.1 m1
  exact plcR_room h q1 q2 q3

end Go.Proofs.Ytokhclindfipbaa

namespace Go.Proofs.Ytokhclindfipbaa
open Go.RowKit

/-- Where blocks end, as a list. -/
def enZ (nm : List Int) (en : Nat → Nat) : List Int := (List.range nm.length).map fun k => ((en k : Nat) : Int)
theorem enZ_len (nm : List Int) (en : Nat → Nat) : (enZ nm en).length = nm.length := by simp [enZ]
theorem enZ_nth {nm : List Int} {en : Nat → Nat} {k : Nat} (h : k < nm.length) : nth (enZ nm en) k = ((en k : Nat) : Int) := by simp [nth, enZ, h]
/-- The rows of a text: four lists of numbers. -/
structure RwS (w : World) (B : Nat) (A1 A2 A3 A4 : Option Addr) (c1 c2 c3 c4 : Nat) (nm : List Int) (en : Nat → Nat) : Prop where
  f1 : w.cell? ⟨B, 0, none⟩ = some (.slice A1 nm.length c1)
  f2 : w.cell? ⟨B, 1, none⟩ = some (.slice A2 nm.length c2)
  f3 : w.cell? ⟨B, 2, none⟩ = some (.slice A3 nm.length c3)
  f4 : w.cell? ⟨B, 3, none⟩ = some (.slice A4 nm.length c4)
  r1 : IntsAt w A1 .i64 (sufL nm)
  r2 : IntsAt w A2 .i64 (rkL nm)
  r3 : IntsAt w A3 .i64 (cpA nm)
  r4 : IntsAt w A4 .i64 (enZ nm en)
  le : nm.length ≤ c1
theorem RwS.keep {w w' : World} {B : Nat} {A1 A2 A3 A4 : Option Addr} {c1 c2 c3 c4 : Nat} {nm : List Int} {en : Nat → Nat} (h : RwS w B A1 A2 A3 A4 c1 c2 c3 c4 nm en) (hb : Below w.heap.size w w') : RwS w' B A1 A2 A3 A4 c1 c2 c3 c4 nm en :=
  ⟨lkeep hb h.f1, lkeep hb h.f2, lkeep hb h.f3, lkeep hb h.f4, h.r1.keep hb, h.r2.keep hb, h.r3.keep hb, h.r4.keep hb, h.le⟩
def hrB (nm : List Int) (en : Nat → Nat) (i n : Int) : Bool := decide (0 ≤ i ∧ i < (nm.length : Int) ∧ n ≤ ((en i.toNat : Nat) : Int) - i)
theorem hrB_nat {nm : List Int} {en : Nat → Nat} (h : EnP nm en) {k n : Nat} (hk : k < nm.length) : hrB nm en (k : Int) (n : Int) = decide (k + n ≤ en k) := by
  have := h.lt k hk
  unfold hrB
  rw [decide_eq_decide, Int.toNat_natCast]
  omega
set_option maxRecDepth 100000 in
set_option maxHeartbeats 4000000 in
theorem room_any (B : Nat) (A1 A2 A3 A4 : Option Addr) (c1 c2 c3 c4 : Nat) (nm : List Int) (en : Nat → Nat) (i n : Int) (w : World) (h : RwS w B A1 A2 A3 A4 c1 c2 c3 c4 nm en) (he : EnP nm en) (hl : nm.length ≤ 16384) (hi : -9223372036854775808 ≤ i ∧ i ≤ 9223372036854775807) :
    Calls Try.prog 29 #[.pointer (some ⟨B, 0, none⟩), .int .i64 i, .int .i64 n] w fun e w' => e = .returned (.bool (hrB nm en i n)) ∧ w' = w := by
  have f4 := h.f4
  by_cases h0 : 0 ≤ i
  · by_cases h1 : i < (nm.length : Int)
    · obtain ⟨k, rfl⟩ : ∃ k : Nat, i = (k : Int) := ⟨i.toNat, by omega⟩
      have hk : k < nm.length := by omega
      obtain ⟨a, rfl, q⟩ := h.r4 k (by rw [enZ_len]; exact hk)
      rw [enZ_nth hk] at q
      have e1 := he.lt k hk
      have e2 := he.le k hk
      obtain ⟨E, hE⟩ : ∃ E, E = en k := ⟨_, rfl⟩
      rw [← hE] at q e1 e2
      have HR : Hid (hrB nm en (k : Int) n = decide (n ≤ (E : Int) - (k : Int))) := by
        unfold Hid hrB
        rw [hE, decide_eq_decide, Int.toNat_natCast]
        omega
      clear hE he h hi
      have b1 : (E : Int) ≤ 16384 := by omega
      have b2 : (k : Int) < (E : Int) := by omega
      have b3 : (0 : Int) ≤ (k : Int) := by omega
      by_cases h2 : n ≤ (E : Int) - (k : Int)
      · rw [HR.out, decide_eq_true h2]
        go_enter Try.func29, Try.ntmps29
        go_wp2
        go_ret
        exact ⟨rfl, rfl⟩
      · rw [HR.out, decide_eq_false h2]
        go_enter Try.func29, Try.ntmps29
        go_wp2
        go_ret
        exact ⟨rfl, rfl⟩
    · rw [show hrB nm en i n = false from decide_eq_false (fun x => h1 x.2.1)]
      clear h he hi
      go_enter Try.func29, Try.ntmps29
      go_wp2
      go_ret
      exact ⟨rfl, rfl⟩
  · rw [show hrB nm en i n = false from decide_eq_false (fun x => h0 x.1)]
    clear h he hi
    go_enter Try.func29, Try.ntmps29
    go_wp2
    go_ret
    exact ⟨rfl, rfl⟩
set_option maxRecDepth 100000 in
/-- The closure that asks it. -/
theorem asks_any (Br Bn B : Nat) (A1 A2 A3 A4 : Option Addr) (c1 c2 c3 c4 : Nat) (nm : List Int) (en : Nat → Nat) (k n : Nat) (w : World) (h : RwS w B A1 A2 A3 A4 c1 c2 c3 c4 nm en) (he : EnP nm en) (hl : nm.length ≤ 16384) (hr : w.cell? ⟨Br, 0, none⟩ = some (.pointer (some ⟨B, 0, none⟩))) (hn : w.cell? ⟨Bn, 0, none⟩ = some (.int .i64 (n : Int))) (hk : k < nm.length) :
    Calls Try.prog 45 #[.int .i64 (k : Int), .pointer (some ⟨Br, 0, none⟩), .pointer (some ⟨Bn, 0, none⟩)] w fun e w' => e = .returned (.bool (decide (k + n ≤ en k))) ∧ w' = w := by
  have C := room_any B A1 A2 A3 A4 c1 c2 c3 c4 nm en (k : Int) (n : Int) w h he hl (by omega)
  rw [hrB_nat he hk] at C
  clear h he
  go_enter Try.func45, Try.ntmps45
  go_wp2_with (go_at_call 29; refine C.mono ?_; rintro e w1 ⟨rfl, rfl⟩)
  go_ret
  exact ⟨rfl, rfl⟩

end Go.Proofs.Ytokhclindfipbaa

namespace Go.Proofs.Ytokhclindfipbaa
open Go.RowKit

/-- What Decode tells. -/
def dOp (w : Int) : Int := if isIns w then wOp w else -1
def dD (w : Int) : Int := if isIns w then wD w else 0
def dA (w : Int) : Int := if isIns w then wA w else 0
def dB (w : Int) : Int := if isIns w then wB w else 0
def dN (w : Int) : Int := if isIns w then wN w else w
/-- Is N's number below nought? -/
def nNeg (w : Int) : Bool := hN (w / 134217728) && !hP (w / 134217728) && decide (16384 ≤ w % 32768)

theorem wN_neg {w : Int} (h : nNeg w = true) : wN w = w % 32768 - 32768 := by
  unfold nNeg at h; unfold wN wOp; rw [h]; rfl
theorem wN_pos {w : Int} (h : nNeg w = false) : wN w = w % 32768 := by
  unfold nNeg at h; unfold wN wOp; rw [h]; rfl
theorem encW_fields (w : Int) : encW (wOp w) (wD w) (wA w) (wB w) (wN w) = w := by
  unfold encW
  have e : wN w % 32768 = w % 32768 := by
    cases h : nNeg w
    · rw [wN_pos h]; omega
    · rw [wN_neg h]; omega
  rw [e]
  unfold wOp wD wA wB
  omega
theorem enc_yes {w : Int} (h0 : 0 ≤ w) (h1 : w < 4294967296) (h : isIns w = true) : encV (wOp w) (wD w) (wA w) (wB w) (wN w) = w ∧ encE (wOp w) (wD w) (wA w) (wB w) (wN w) = 0 := by
  have hw := encW_fields w
  unfold isIns at h
  rw [Bool.and_eq_true, decide_eq_true_eq] at h
  have hop : 0 ≤ wOp w := by unfold wOp; omega
  have hneg : ¬ (wOp w < 0 ∨ 21 < wOp w) := by omega
  unfold encV encE
  rw [if_neg hneg, if_neg hneg, if_pos h.2, if_pos h.2, hw]
  exact ⟨rfl, rfl⟩
theorem enc_no {w : Int} (h0 : 0 ≤ w) (h : isIns w = false) : encV (wOp w) (wD w) (wA w) (wB w) (wN w) = 0 ∧ (encE (wOp w) (wD w) (wA w) (wB w) (wN w) = 10 ∨ encE (wOp w) (wD w) (wA w) (wB w) (wN w) = 11) := by
  unfold isIns at h
  have hop : 0 ≤ wOp w := by unfold wOp; omega
  unfold encV encE
  by_cases hb : wOp w < 0 ∨ 21 < wOp w
  · rw [if_pos hb, if_pos hb]; exact ⟨rfl, Or.inl rfl⟩
  · rw [if_neg hb, if_neg hb]
    have hle : wOp w ≤ 21 := by omega
    rw [decide_eq_true hle, Bool.true_and] at h
    rw [h]; exact ⟨rfl, Or.inr rfl⟩











end Go.Proofs.Ytokhclindfipbaa
