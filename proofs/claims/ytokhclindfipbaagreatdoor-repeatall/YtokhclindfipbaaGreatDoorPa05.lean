/-
  Plain: the sequences that stand twice, within blocks; their pairs. Plain: the sequences in order, by merging; how they are told by definition; sums over blocks. Plain: where blocks end. Rows with blocks of their own, marked and grown: what stays; no Go in sight.
-/
import Derived.Test.YtokhclindfipbaaGreatDoorProg
import Derived.WalkKit
import Derived.WalkSpells
import Derived.WalkLawsBesides
import Derived.RowKit3
import Derived.Below
import Derived.Deep.QuietTactic
import Derived.BigQuiet
import Derived.WalkSmall
import Derived.Laws.Rows
import Derived.Test.YtokhclindfipbaaGreatDoorPa04
import Derived.Deep.AppendLies
import Derived.Laws.OwnMore
namespace Go.Proofs.YtokhclindfipbaaGreatDoor
open Go.RowKit

/-- The numbers of two places are the same for so many, one behind the other. -/
theorem cp_agree {nm : List Int} : ∀ {n i k : Nat}, i + n ≤ nm.length → k + n ≤ nm.length → (n ≤ cpS nm i k ↔ ∀ t, t < n → nth nm (i + t) = nth nm (k + t))
  | 0, i, k, _, _ => ⟨fun _ t h => absurd h (Nat.not_lt_zero _), fun _ => Nat.zero_le _⟩
  | n + 1, i, k, hi, hk => by
    have ih := cp_agree (nm := nm) (n := n) (i := i + 1) (k := k + 1) (by omega) (by omega)
    have hs := cpS_step (l := nm) (i := i) (k := k) (by omega) (by omega)
    by_cases e : nth nm i = nth nm k
    · rw [if_pos e] at hs
      constructor
      · intro h t ht
        cases t with
        | zero => exact e
        | succ t =>
          have := ih.1 (by omega) t (by omega)
          rw [show i + (t + 1) = i + 1 + t by omega, show k + (t + 1) = k + 1 + t by omega]
          exact this
      · intro h
        have := ih.2 fun t ht => by
          have := h (t + 1) (by omega)
          rw [show i + (t + 1) = i + 1 + t by omega, show k + (t + 1) = k + 1 + t by omega] at this
          exact this
        omega
    · rw [if_neg e] at hs
      constructor
      · intro h; omega
      · intro h
        have := h 0 (by omega)
        exact absurd this e
/-- Where blocks end. -/
structure EnP (nm : List Int) (en : Nat → Nat) : Prop where
  lt : ∀ i, i < nm.length → i < en i
  le : ∀ i, i < nm.length → en i ≤ nm.length
/-- How much two places have in common within their blocks. -/
def mE (nm : List Int) (en : Nat → Nat) (i k : Nat) : Nat := min (cpS nm i k) (min (en i - i) (en k - k))
theorem mE_comm (nm : List Int) (en : Nat → Nat) (i k : Nat) : mE nm en i k = mE nm en k i := by
  unfold mE
  rw [cpS_comm nm i k]
  omega
theorem mE_iff {nm : List Int} {en : Nat → Nat} (h : EnP nm en) {n i k : Nat} (hi : i < nm.length) (hk : k < nm.length) : n ≤ mE nm en i k ↔ i + n ≤ en i ∧ k + n ≤ en k ∧ ∀ t, t < n → nth nm (i + t) = nth nm (k + t) := by
  have a1 := h.lt i hi
  have a2 := h.le i hi
  have b1 := h.lt k hk
  have b2 := h.le k hk
  unfold mE
  constructor
  · intro x
    exact ⟨by omega, by omega, (cp_agree (by omega) (by omega)).1 (by omega)⟩
  · rintro ⟨x, y, z⟩
    have := (cp_agree (nm := nm) (n := n) (i := i) (k := k) (by omega) (by omega)).2 z
    omega
theorem mE_self {nm : List Int} {en : Nat → Nat} (h : EnP nm en) {n i : Nat} (hi : i < nm.length) : n ≤ mE nm en i i ↔ i + n ≤ en i := by
  rw [mE_iff h hi hi]
  exact ⟨fun x => x.1, fun x => ⟨x, x, fun _ _ => rfl⟩⟩
theorem mE_trans {nm : List Int} {en : Nat → Nat} (h : EnP nm en) {n i j k : Nat} (hi : i < nm.length) (hj : j < nm.length) (hk : k < nm.length) (h1 : n ≤ mE nm en i j) (h2 : n ≤ mE nm en j k) : n ≤ mE nm en i k := by
  rw [mE_iff h hi hj] at h1
  rw [mE_iff h hj hk] at h2
  rw [mE_iff h hi hk]
  exact ⟨h1.1, h2.2.1, fun t ht => (h1.2.2 t ht).trans (h2.2.2 t ht)⟩
/-- The places at which the sequence of a length at a place stands. -/
def plcS (nm : List Int) (en : Nat → Nat) (i n : Nat) : List Nat := (List.range nm.length).filter fun k => decide (n ≤ mE nm en i k)
theorem plcS_mem {nm : List Int} {en : Nat → Nat} {i n k : Nat} : k ∈ plcS nm en i n ↔ k < nm.length ∧ n ≤ mE nm en i k := by simp [plcS]
/-- Is it a sequence that stands twice, and does it first stand there? -/
def RepQ (nm : List Int) (en : Nat → Nat) (n i : Nat) : Prop := i < nm.length ∧ 2 ≤ n ∧ i + n ≤ en i ∧ (∃ k, k < nm.length ∧ k ≠ i ∧ n ≤ mE nm en i k) ∧ ∀ k, k < i → ¬ n ≤ mE nm en i k
def repB (nm : List Int) (en : Nat → Nat) (n i : Nat) : Bool := decide (i < nm.length) && decide (2 ≤ n) && decide (i + n ≤ en i) && ((List.range nm.length).any fun k => decide (k ≠ i) && decide (n ≤ mE nm en i k)) && !((List.range i).any fun k => decide (n ≤ mE nm en i k))
theorem repB_iff {nm : List Int} {en : Nat → Nat} {n i : Nat} : repB nm en n i = true ↔ RepQ nm en n i := by
  unfold repB RepQ
  simp only [Bool.and_eq_true, decide_eq_true_eq, List.any_eq_true, List.mem_range, Bool.not_eq_true', List.any_eq_false]
  constructor
  · rintro ⟨⟨⟨⟨a, b⟩, c⟩, k, d1, d2, d3⟩, e⟩
    exact ⟨a, b, c, ⟨k, d1, d2, d3⟩, e⟩
  · rintro ⟨a, b, c, ⟨k, d1, d2, d3⟩, e⟩
    exact ⟨⟨⟨⟨a, b⟩, c⟩, k, d1, d2, d3⟩, e⟩
/-- A sequence's numbers. -/
def seqN (nm : List Int) (i n : Nat) : List Int := (nm.drop i).take n
theorem seqN_len {nm : List Int} {i n : Nat} (h : i + n ≤ nm.length) : (seqN nm i n).length = n := by
  unfold seqN
  rw [List.length_take, List.length_drop]
  omega
theorem seqN_nth {nm : List Int} {i n t : Nat} (ht : t < n) : nth (seqN nm i n) t = nth nm (i + t) := by
  unfold seqN nth
  simp [ht]
theorem seqN_same {nm : List Int} {i k n : Nat} (h : seqN nm i n = seqN nm k n) : ∀ t, t < n → nth nm (i + t) = nth nm (k + t) := fun t ht => by rw [← seqN_nth ht, h, seqN_nth ht]
/-- Two told sequences with the same numbers are one. -/
theorem rep_one {nm : List Int} {en : Nat → Nat} (h : EnP nm en) {n m i k : Nat} (h1 : RepQ nm en n i) (h2 : RepQ nm en m k) (e : seqN nm i n = seqN nm k m) : n = m ∧ i = k := by
  obtain ⟨a1, a2, a3, -, a5⟩ := h1
  obtain ⟨b1, b2, b3, -, b5⟩ := h2
  have la := h.le i a1
  have lb := h.le k b1
  have en' : n = m := by
    have := congrArg List.length e
    rw [seqN_len (by omega), seqN_len (by omega)] at this
    exact this
  subst en'
  have x : n ≤ mE nm en i k := (mE_iff h a1 b1).2 ⟨a3, b3, seqN_same e⟩
  refine ⟨rfl, ?_⟩
  rcases Nat.lt_trichotomy i k with c | c | c
  · exact absurd (by rw [mE_comm]; exact x) (b5 i c)
  · exact c
  · exact absurd x (a5 k c)
/-- The sequences that stand twice, each with its length and its first place, in their order. -/
structure RepP (nm : List Int) (en : Nat → Nat) (L : List (Nat × Nat)) : Prop where
  mem : ∀ r, r ∈ L ↔ RepQ nm en r.1 r.2
  ord : L.Pairwise fun a b => ltL (seqN nm a.2 a.1) (seqN nm b.2 b.1) = true
theorem ltL_asymR {xs ys : List Int} (h : ltL xs ys = true) : ¬ ltL ys xs = true := fun k => by
  have := ltL_trans h k
  rw [ltL_same] at this
  cases this
theorem RepP.nodup {nm : List Int} {en : Nat → Nat} {L : List (Nat × Nat)} (h : RepP nm en L) : L.Nodup := h.ord.imp fun {a b} x e => by
  rw [e, ltL_same] at x
  cases x
theorem RepP.uniq {nm : List Int} {en : Nat → Nat} {L M : List (Nat × Nat)} (h : RepP nm en L) (k : RepP nm en M) : L = M := by
  have hp : L.Perm M := (List.perm_ext_iff_of_nodup h.nodup k.nodup).2 fun r => (h.mem r).trans (k.mem r).symm
  exact hp.eq_of_pairwise (fun a b _ _ x y => absurd y (ltL_asymR x)) h.ord k.ord
def repC (nm : List Int) (en : Nat → Nat) : List (Nat × Nat) := (List.range nm.length).flatMap fun i => ((List.range (nm.length + 1)).filter fun n => repB nm en n i).map fun n => (n, i)
theorem repC_mem {nm : List Int} {en : Nat → Nat} (h : EnP nm en) (r : Nat × Nat) : r ∈ repC nm en ↔ RepQ nm en r.1 r.2 := by
  unfold repC
  simp only [List.mem_flatMap, List.mem_range, List.mem_map, List.mem_filter]
  constructor
  · rintro ⟨i, hi, n, ⟨_, hb⟩, rfl⟩
    exact repB_iff.1 hb
  · intro q
    have := h.le r.2 q.1
    have := q.2.2.1
    exact ⟨r.2, q.1, r.1, ⟨by omega, repB_iff.2 q⟩, rfl⟩
/-- Sums. -/
def sumR : Nat → (Nat → Nat) → Nat
  | 0, _ => 0
  | n + 1, f => sumR n f + f n
theorem sumR_congr : ∀ {n : Nat} {f g : Nat → Nat}, (∀ i, i < n → f i = g i) → sumR n f = sumR n g
  | 0, _, _, _ => rfl
  | n + 1, f, g, h => by rw [sumR, sumR, sumR_congr fun i hi => h i (by omega), h n (by omega)]
theorem sumR_zero : ∀ n : Nat, sumR n (fun _ => 0) = 0
  | 0 => rfl
  | n + 1 => by rw [sumR, sumR_zero n]
theorem sumR_add : ∀ (n : Nat) (f g : Nat → Nat), sumR n (fun i => f i + g i) = sumR n f + sumR n g
  | 0, _, _ => rfl
  | n + 1, f, g => by rw [sumR, sumR, sumR, sumR_add n f g]; omega
theorem sumR_count (p : Nat → Bool) : ∀ n : Nat, sumR n (fun i => if p i = true then 1 else 0) = ((List.range n).filter p).length
  | 0 => rfl
  | n + 1 => by
    rw [sumR, sumR_count p n, List.range_succ, List.filter_append, List.length_append]
    by_cases h : p n = true
    · rw [if_pos h]; simp [h]
    · rw [if_neg h]; simp [h]
theorem sumR_pick (p : Nat → Bool) (c : Nat) : ∀ n : Nat, sumR n (fun i => if p i = true then c else 0) = ((List.range n).filter p).length * c
  | 0 => by rw [sumR]; simp
  | n + 1 => by
    rw [sumR, sumR_pick p c n, List.range_succ, List.filter_append, List.length_append]
    by_cases h : p n = true
    · rw [if_pos h]; simp [h, Nat.add_mul]
    · rw [if_neg h]; simp [h]
theorem sumR_but (p : Nat → Bool) {i : Nat} (hp : p i = true) : ∀ {n : Nat}, i < n → sumR n (fun k => if (p k && decide (k ≠ i)) = true then 1 else 0) + 1 = ((List.range n).filter p).length := fun {n} hi => by
  have h1 : sumR n (fun k => if (p k && decide (k ≠ i)) = true then 1 else 0) + sumR n (fun k => if decide (k = i) = true then 1 else 0) = sumR n (fun k => if p k = true then 1 else 0) := by
    rw [← sumR_add]
    refine sumR_congr fun k _ => ?_
    by_cases e : k = i
    · subst e; simp [hp]
    · simp [e]
  have h2 : ∀ n, i < n → sumR n (fun k => if decide (k = i) = true then 1 else 0) = 1 := fun n => by
    induction n with
    | zero => intro h; omega
    | succ n ih =>
      intro h
      rw [sumR]
      by_cases e : n = i
      · subst e
        rw [sumR_congr (g := fun _ => 0) fun k hk => if_neg (by simp; omega), sumR_zero]
        simp
      · rw [ih (by omega)]
        simp [e]
  rw [h2 n hi] at h1
  rw [h1, sumR_count]
/-- Ordered pairs of different places of a set. -/
theorem sumR_pairs (p : Nat → Bool) (n : Nat) : sumR n (fun i => sumR n fun k => if (p i && p k && decide (k ≠ i)) = true then 1 else 0) = ((List.range n).filter p).length * (((List.range n).filter p).length - 1) := by
  have : ∀ i, i < n → sumR n (fun k => if (p i && p k && decide (k ≠ i)) = true then 1 else 0) = if p i = true then ((List.range n).filter p).length - 1 else 0 := fun i hi => by
    by_cases h : p i = true
    · rw [if_pos h]
      have e := sumR_but p h hi
      rw [← e, Nat.add_sub_cancel]
      exact sumR_congr fun k _ => by simp [h]
    · rw [if_neg h, sumR_congr (g := fun _ => 0) fun k _ => by simp [h], sumR_zero]
  rw [sumR_congr this, sumR_pick]
theorem sumL_swap {α : Type} : ∀ (L : List α) (n : Nat) (g : α → Nat → Nat), (L.map fun r => sumR n (g r)).sum = sumR n fun i => (L.map fun r => g r i).sum
  | [], n, g => by simp [sumR_zero]
  | r :: L, n, g => by
    simp only [List.map_cons, List.sum_cons]
    rw [sumL_swap L n g, ← sumR_add]
theorem sumL_count {α : Type} (p : α → Bool) : ∀ L : List α, (L.map fun r => if p r = true then 1 else 0).sum = (L.filter p).length
  | [] => rfl
  | r :: L => by
    simp only [List.map_cons, List.sum_cons, List.filter_cons]
    rw [sumL_count p L]
    by_cases h : p r = true
    · rw [if_pos h, if_pos h, List.length_cons]; omega
    · rw [if_neg h, if_neg h]; omega
/-- Does a told sequence stand at a place? -/
def onB (nm : List Int) (en : Nat → Nat) (r : Nat × Nat) (k : Nat) : Bool := decide (r.1 ≤ mE nm en r.2 k)
theorem plcS_on (nm : List Int) (en : Nat → Nat) (r : Nat × Nat) : plcS nm en r.2 r.1 = (List.range nm.length).filter (onB nm en r) := rfl
/-- The first place at which the sequence of a length at i stands. -/
theorem first_is {nm : List Int} {en : Nat → Nat} (h : EnP nm en) {n i : Nat} (hi : i < nm.length) (hr : i + n ≤ en i) : ∃ f, f ≤ i ∧ n ≤ mE nm en f i ∧ ∀ k, k < f → ¬ n ≤ mE nm en f k := by
  have : ∀ m, ∀ i, i < m → i < nm.length → i + n ≤ en i → ∃ f, f ≤ i ∧ n ≤ mE nm en f i ∧ ∀ k, k < f → ¬ n ≤ mE nm en f k := fun m => by
    induction m with
    | zero => intro i h; omega
    | succ m ih =>
      intro i hm hi hr
      by_cases c : ∃ k, k < i ∧ n ≤ mE nm en i k
      · obtain ⟨k, hk, hn⟩ := c
        have hkr := ((mE_iff h hi (by omega)).1 hn).2.1
        obtain ⟨f, f1, f2, f3⟩ := ih k (by omega) (by omega) hkr
        exact ⟨f, by omega, mE_trans h (by omega) (by omega) hi f2 (by rw [mE_comm]; exact hn), f3⟩
      · exact ⟨i, Nat.le_refl _, (mE_self h hi).2 hr, fun k hk hn => c ⟨k, hk, hn⟩⟩
  exact this (i + 1) i (by omega) hi hr
/-- Of two different places and a length: one told sequence, and one alone, has both. -/
theorem rep_both {nm : List Int} {en : Nat → Nat} (h : EnP nm en) {n i k : Nat} (hi : i < nm.length) (hk : k < nm.length) (hne : i ≠ k) (hn : 2 ≤ n) (hm : n ≤ mE nm en i k) : ∃ f, RepQ nm en n f ∧ n ≤ mE nm en f i ∧ n ≤ mE nm en f k := by
  have hr := ((mE_iff h hi hk).1 hm).1
  obtain ⟨f, f1, f2, f3⟩ := first_is h hi hr
  have fk := mE_trans h (by omega) hi hk f2 hm
  refine ⟨f, ⟨by omega, hn, ((mE_iff h (by omega) hi).1 f2).1, ?_, f3⟩, f2, fk⟩
  by_cases c : i = f
  · exact ⟨k, hk, by omega, fk⟩
  · exact ⟨i, hi, c, f2⟩
theorem rep_alone {nm : List Int} {en : Nat → Nat} (h : EnP nm en) {n i f g : Nat} (hi : i < nm.length) (hf : RepQ nm en n f) (hg : RepQ nm en n g) (h1 : n ≤ mE nm en f i) (h2 : n ≤ mE nm en g i) : f = g := by
  have x : n ≤ mE nm en f g := mE_trans h hf.1 hi hg.1 h1 (by rw [mE_comm]; exact h2)
  rcases Nat.lt_trichotomy f g with c | c | c
  · exact absurd (by rw [mE_comm]; exact x) (hg.2.2.2.2 f c)
  · exact c
  · exact absurd x (hf.2.2.2.2 g c)
/-- How many lengths two places have in common, from 2 on. -/
def cntE (nm : List Int) (en : Nat → Nat) (i k : Nat) : Nat := if i = k then 0 else mE nm en i k - 1
theorem rep_count {nm : List Int} {en : Nat → Nat} (h : EnP nm en) {L : List (Nat × Nat)} (hL : RepP nm en L) {i k : Nat} (hi : i < nm.length) (hk : k < nm.length) (hne : i ≠ k) : (L.filter fun r => onB nm en r i && onB nm en r k).length = mE nm en i k - 1 := by
  have hperm : ((L.filter fun r => onB nm en r i && onB nm en r k).map fun r => r.1).Perm ((List.range (mE nm en i k + 1)).filter fun n => decide (2 ≤ n)) := by
    refine (List.perm_ext_iff_of_nodup ?_ ?_).2 fun n => ?_
    · rw [List.Nodup, List.pairwise_map]
      refine List.Pairwise.imp_of_mem ?_ (hL.nodup.filter _)
      intro a b ha hb hab e
      simp only [List.mem_filter, onB, Bool.and_eq_true, decide_eq_true_eq] at ha hb
      have qa := (hL.mem a).1 ha.1
      have qb := (hL.mem b).1 hb.1
      have x := ha.2.1
      have y := hb.2.1
      rw [← e] at y qb
      exact hab (Prod.ext e (rep_alone h hi qa qb x y))
    · exact List.nodup_range.filter _
    · simp only [List.mem_map, List.mem_filter, onB, Bool.and_eq_true, decide_eq_true_eq, List.mem_range]
      constructor
      · rintro ⟨r, ⟨hr, h1, h2⟩, rfl⟩
        have q := (hL.mem r).1 hr
        have := mE_trans h hi q.1 hk (by rw [mE_comm]; exact h1) h2
        exact ⟨by omega, q.2.1⟩
      · rintro ⟨h1, h2⟩
        obtain ⟨f, q, a, b⟩ := rep_both h hi hk hne h2 (by omega)
        exact ⟨(n, f), ⟨(hL.mem _).2 q, a, b⟩, rfl⟩
  have e := hperm.length_eq
  rw [List.length_map] at e
  rw [e]
  have : ∀ m, ((List.range (m + 1)).filter fun n => decide (2 ≤ n)).length = m - 1 := fun m => by
    induction m with
    | zero => rfl
    | succ m ih =>
      rw [List.range_succ, List.filter_append, List.length_append, ih]
      by_cases c : 2 ≤ m + 1
      · simp [c]; omega
      · simp [c]; omega
  exact this _
/-- W3's count: the pairs of places of all told sequences are the pairs that have a length in common. -/
theorem rep_sum {nm : List Int} {en : Nat → Nat} (h : EnP nm en) {L : List (Nat × Nat)} (hL : RepP nm en L) : (L.map fun r => (plcS nm en r.2 r.1).length * ((plcS nm en r.2 r.1).length - 1)).sum = sumR nm.length fun i => sumR nm.length fun k => cntE nm en i k := by
  have e1 : (L.map fun r => (plcS nm en r.2 r.1).length * ((plcS nm en r.2 r.1).length - 1)) = L.map fun r => sumR nm.length (fun i => sumR nm.length fun k => if (onB nm en r i && onB nm en r k && decide (k ≠ i)) = true then 1 else 0) := List.map_congr_left fun r _ => by rw [plcS_on, sumR_pairs]
  rw [e1, sumL_swap]
  refine sumR_congr fun i hi => ?_
  rw [sumL_swap]
  refine sumR_congr fun k hk => ?_
  unfold cntE
  by_cases c : i = k
  · rw [if_pos c]
    have : (L.map fun r => if (onB nm en r i && onB nm en r k && decide (k ≠ i)) = true then 1 else 0) = L.map fun _ => 0 := List.map_congr_left fun r _ => by simp [c]
    rw [this]
    clear this e1 hL
    induction L with
    | nil => rfl
    | cons r L ih => simp only [List.map_cons, List.sum_cons, ih]
  · rw [if_neg c, sumL_count, ← rep_count h hL hi hk c]
    congr 1
    exact List.filter_congr fun r _ => by simp [show k ≠ i from fun e => c e.symm]



end Go.Proofs.YtokhclindfipbaaGreatDoor

namespace Go.Proofs.YtokhclindfipbaaGreatDoor
open Go.RowKit

/-- Not greater, of two sequences. -/
def lsQ (nm : List Int) (a b : Nat × Nat) : Bool := ltL (seqN nm a.2 a.1) (seqN nm b.2 b.1)
def leQ (nm : List Int) (a b : Nat × Nat) : Bool := !lsQ nm b a
theorem leQ_trans (nm : List Int) (a b c : Nat × Nat) (h1 : leQ nm a b = true) (h2 : leQ nm b c = true) : leQ nm a c = true := by
  unfold leQ lsQ at *
  rw [Bool.not_eq_true'] at h1 h2 ⊢
  cases h3 : ltL (seqN nm c.2 c.1) (seqN nm a.2 a.1) with
  | false => rfl
  | true =>
    exfalso
    by_cases e1 : seqN nm a.2 a.1 = seqN nm b.2 b.1
    · rw [e1, h2] at h3; cases h3
    · rcases ltL_total e1 with x | x
      · rw [ltL_trans h3 x] at h2; cases h2
      · rw [x] at h1; cases h1
theorem leQ_total (nm : List Int) (a b : Nat × Nat) : (leQ nm a b || leQ nm b a) = true := by
  unfold leQ lsQ
  cases h1 : ltL (seqN nm b.2 b.1) (seqN nm a.2 a.1) with
  | false => rfl
  | true =>
    have : ltL (seqN nm a.2 a.1) (seqN nm b.2 b.1) = false := by
      cases h2 : ltL (seqN nm a.2 a.1) (seqN nm b.2 b.1) with
      | false => rfl
      | true => exact absurd h2 (ltL_asymR h1)
    rw [this]; rfl
/-- A list in order, of the same members. -/
structure SrQ (nm : List Int) (X R : List (Nat × Nat)) : Prop where
  perm : R.Perm X
  ord : R.Pairwise fun a b => leQ nm a b = true
theorem SrQ.len {nm : List Int} {X R : List (Nat × Nat)} (h : SrQ nm X R) : R.length = X.length := h.perm.length_eq
theorem SrQ.few {nm : List Int} {X : List (Nat × Nat)} (h : X.length < 2) : SrQ nm X X := by
  refine ⟨List.Perm.refl _, ?_⟩
  match X, h with
  | [], _ => exact List.Pairwise.nil
  | [a], _ => simp
theorem SrQ.merge {nm : List Int} {X Y A B : List (Nat × Nat)} (ha : SrQ nm X A) (hb : SrQ nm Y B) : SrQ nm (X ++ Y) (List.merge A B (leQ nm)) :=
  ⟨(List.merge_perm_append (leQ nm)).trans (ha.perm.append hb.perm), List.pairwise_merge (leQ_trans nm) (leQ_total nm) A B ha.ord hb.ord⟩
theorem repC_nodup (nm : List Int) (en : Nat → Nat) : (repC nm en).Nodup := by
  unfold repC
  rw [List.Nodup, List.pairwise_flatMap]
  constructor
  · intro i _
    rw [List.pairwise_map]
    exact (List.nodup_range.filter _).imp fun {a b} h e => h (Prod.mk.inj e).1
  · refine List.nodup_range.imp fun {a b} h => ?_
    intro x hx y hy e
    simp only [List.mem_map] at hx hy
    obtain ⟨n, _, rfl⟩ := hx
    obtain ⟨m, _, rfl⟩ := hy
    exact h (Prod.mk.inj e).2
/-- What is told by definition, in order: the sequences that stand twice. -/
theorem SrQ.rep {nm : List Int} {en : Nat → Nat} (h : EnP nm en) {R : List (Nat × Nat)} (hR : SrQ nm (repC nm en) R) : RepP nm en R := by
  have hm : ∀ r, r ∈ R ↔ RepQ nm en r.1 r.2 := fun r => by rw [hR.perm.mem_iff, repC_mem h]
  refine ⟨hm, ?_⟩
  have hn : R.Nodup := hR.perm.nodup_iff.2 (repC_nodup nm en)
  refine (hR.ord.and hn).imp_of_mem fun {a b} ha hb x => ?_
  have ne : seqN nm a.2 a.1 ≠ seqN nm b.2 b.1 := fun e => by
    obtain ⟨e1, e2⟩ := rep_one h ((hm a).1 ha) ((hm b).1 hb) e
    exact x.2 (Prod.ext e1 e2)
  rcases ltL_total ne with y | y
  · exact y
  · have z : leQ nm a b = true := x.1
    unfold leQ lsQ at z
    rw [y] at z; cases z
/-- The list itself. -/
def repL (nm : List Int) (en : Nat → Nat) : List (Nat × Nat) := (repC nm en).mergeSort (leQ nm)
theorem repL_is {nm : List Int} {en : Nat → Nat} (h : EnP nm en) : RepP nm en (repL nm en) :=
  SrQ.rep h ⟨List.mergeSort_perm _ _, List.pairwise_mergeSort (leQ_trans nm) (leQ_total nm) _⟩
theorem repL_uniq {nm : List Int} {en : Nat → Nat} (h : EnP nm en) {R : List (Nat × Nat)} (hR : RepP nm en R) : R = repL nm en := hR.uniq (repL_is h)
/-- A merging under way. -/
def MrQ (nm : List Int) (A B O : List (Nat × Nat)) (p q : Nat) : Prop := List.merge A B (leQ nm) = O ++ List.merge (A.drop p) (B.drop q) (leQ nm)
def rth (A : List (Nat × Nat)) (i : Nat) : Nat × Nat := A.getD i (0, 0)
theorem rdrop {A : List (Nat × Nat)} {p : Nat} (h : p < A.length) : A.drop p = rth A p :: A.drop (p + 1) := by
  rw [List.drop_eq_getElem_cons h]
  simp [rth, h]
theorem rth_mem {A : List (Nat × Nat)} {i : Nat} (h : i < A.length) : rth A i ∈ A := by simp [rth, h]
theorem MrQ.start (nm : List Int) (A B : List (Nat × Nat)) : MrQ nm A B [] 0 0 := rfl
theorem MrQ.left {nm : List Int} {A B O : List (Nat × Nat)} {p q : Nat} (h : MrQ nm A B O p q) (hp : p < A.length) (hq : q < B.length) (hl : lsQ nm (rth B q) (rth A p) = false) : MrQ nm A B (O ++ [rth A p]) (p + 1) q := by
  unfold MrQ at *
  rw [h, rdrop hp, rdrop hq, List.cons_merge_cons_pos _ _ _ (by unfold leQ; rw [hl]; rfl), List.append_assoc]
  rfl
theorem MrQ.right {nm : List Int} {A B O : List (Nat × Nat)} {p q : Nat} (h : MrQ nm A B O p q) (hp : p < A.length) (hq : q < B.length) (hl : lsQ nm (rth B q) (rth A p) = true) : MrQ nm A B (O ++ [rth B q]) p (q + 1) := by
  unfold MrQ at *
  rw [h, rdrop hp, rdrop hq, List.cons_merge_cons_neg _ _ _ (by unfold leQ; rw [hl]; simp), List.append_assoc, ← rdrop hp]
  rfl
theorem MrQ.done {nm : List Int} {A B O : List (Nat × Nat)} {p q : Nat} (h : MrQ nm A B O p q) (he : A.length ≤ p ∨ B.length ≤ q) : List.merge A B (leQ nm) = O ++ A.drop p ++ B.drop q := by
  unfold MrQ at h
  rw [h, List.append_assoc]
  congr 1
  rcases he with e | e
  · rw [List.drop_eq_nil_of_le e, List.nil_append, List.nil_merge]
  · rw [List.drop_eq_nil_of_le e, List.append_nil, List.merge_right]
/-- The order of two sequences, step by step. -/
theorem lsQ_step {nm : List Int} {i n k m t : Nat} (hi : i + n ≤ nm.length) (hk : k + m ≤ nm.length) (h1 : t < n) (h2 : t < m) : ltL ((seqN nm i n).drop t) ((seqN nm k m).drop t) = if nth nm (i + t) = nth nm (k + t) then ltL ((seqN nm i n).drop (t + 1)) ((seqN nm k m).drop (t + 1)) else decide (nth nm (i + t) < nth nm (k + t)) := by
  rw [drop_nth (l := seqN nm i n) (i := t) (by rw [seqN_len hi]; exact h1), drop_nth (l := seqN nm k m) (i := t) (by rw [seqN_len hk]; exact h2), ltL, seqN_nth h1, seqN_nth h2]
theorem lsQ_end {nm : List Int} {i n k m t : Nat} (hi : i + n ≤ nm.length) (hk : k + m ≤ nm.length) (ht : t ≤ n) (ht2 : t ≤ m) (h : n ≤ t ∨ m ≤ t) : ltL ((seqN nm i n).drop t) ((seqN nm k m).drop t) = decide (n < m) := by
  rcases h with h | h
  · have e0 : (seqN nm i n).drop t = [] := List.drop_eq_nil_of_le (by rw [seqN_len hi]; exact h)
    rw [e0, ltL_nil, List.length_drop, seqN_len hk]
    congr 1
    exact propext ⟨fun x => by omega, fun x => by omega⟩
  · have e0 : (seqN nm k m).drop t = [] := List.drop_eq_nil_of_le (by rw [seqN_len hk]; exact h)
    rw [e0, ltL_out]
    symm
    rw [decide_eq_false_iff_not]
    omega
/-- The rows of a place: so many lengths are looked at. -/
def rowQ (nm : List Int) (en : Nat → Nat) (i n : Nat) : List (Nat × Nat) := ((List.range n).filter fun m => repB nm en m i).map fun m => (m, i)
theorem rowQ_yes {nm : List Int} {en : Nat → Nat} {i n : Nat} (h : repB nm en n i = true) : rowQ nm en i (n + 1) = rowQ nm en i n ++ [(n, i)] := by
  unfold rowQ
  rw [List.range_succ, List.filter_append, List.map_append]
  simp [h]
theorem rowQ_no {nm : List Int} {en : Nat → Nat} {i n : Nat} (h : repB nm en n i = false) : rowQ nm en i (n + 1) = rowQ nm en i n := by
  unfold rowQ
  rw [List.range_succ, List.filter_append, List.map_append]
  simp [h]
theorem rowQ_rest {nm : List Int} {en : Nat → Nat} {i n : Nat} (h : ∀ m, n ≤ m → repB nm en m i = false) : ∀ {k : Nat}, n ≤ k → rowQ nm en i k = rowQ nm en i n := fun {k} hk => by
  obtain ⟨d, rfl⟩ : ∃ d, k = n + d := ⟨k - n, by omega⟩
  induction d with
  | zero => rfl
  | succ d ih => rw [show n + (d + 1) = n + d + 1 by omega, rowQ_no (h _ (by omega)), ih (by omega)]
theorem rowQ_two (nm : List Int) (en : Nat → Nat) (i : Nat) : rowQ nm en i 2 = [] := by
  have h0 : ∀ m, m < 2 → repB nm en m i = false := fun m hm => by
    cases h : repB nm en m i with
    | false => rfl
    | true => have := (repB_iff.1 h).2.1; omega
  rw [show 2 = 0 + 1 + 1 from rfl, rowQ_no (h0 _ (by omega)), rowQ_no (h0 _ (by omega))]
  rfl
theorem rep_room {nm : List Int} {en : Nat → Nat} {i n : Nat} (h : en i < i + n) {m : Nat} (hm : n ≤ m) : repB nm en m i = false := by
  cases e : repB nm en m i with
  | false => rfl
  | true => have := (repB_iff.1 e).2.2.1; omega
theorem plcS_own {nm : List Int} {en : Nat → Nat} (h : EnP nm en) {i n : Nat} (hi : i < nm.length) (hr : i + n ≤ en i) : i ∈ plcS nm en i n := plcS_mem.2 ⟨hi, (mE_self h hi).2 hr⟩
theorem plcS_nodup (nm : List Int) (en : Nat → Nat) (i n : Nat) : (plcS nm en i n).Nodup := List.nodup_range.filter _
theorem plcS_two {nm : List Int} {en : Nat → Nat} (h : EnP nm en) {i n : Nat} (hi : i < nm.length) (hr : i + n ≤ en i) : 2 ≤ (plcS nm en i n).length ↔ ∃ k, k < nm.length ∧ k ≠ i ∧ n ≤ mE nm en i k := by
  have hs := sumR_but (fun k => decide (n ≤ mE nm en i k)) (i := i) (decide_eq_true ((mE_self h hi).2 hr)) hi
  have e : plcS nm en i n = (List.range nm.length).filter fun k => decide (n ≤ mE nm en i k) := rfl
  rw [e, ← hs]
  rw [sumR_count]
  constructor
  · intro x
    have : 0 < ((List.range nm.length).filter fun k => decide (n ≤ mE nm en i k) && decide (k ≠ i)).length := by omega
    obtain ⟨k, hk⟩ := List.exists_mem_of_length_pos this
    simp only [List.mem_filter, List.mem_range, Bool.and_eq_true, decide_eq_true_eq] at hk
    exact ⟨k, hk.1, hk.2.2, hk.2.1⟩
  · rintro ⟨k, k1, k2, k3⟩
    have : k ∈ (List.range nm.length).filter fun k => decide (n ≤ mE nm en i k) && decide (k ≠ i) := by
      simp only [List.mem_filter, List.mem_range, Bool.and_eq_true, decide_eq_true_eq]
      exact ⟨k1, k3, k2⟩
    have := List.length_pos_of_mem this
    omega
theorem rep_few {nm : List Int} {en : Nat → Nat} (h : EnP nm en) {i n : Nat} (hi : i < nm.length) (hr : i + n ≤ en i) (hf : (plcS nm en i n).length < 2) {m : Nat} (hm : n ≤ m) : repB nm en m i = false := by
  cases e : repB nm en m i with
  | false => rfl
  | true =>
    obtain ⟨_, _, _, ⟨k, k1, k2, k3⟩, _⟩ := repB_iff.1 e
    have := (plcS_two h hi hr).2 ⟨k, k1, k2, by omega⟩
    omega
theorem plcS_sorted (nm : List Int) (en : Nat → Nat) (i n : Nat) : (plcS nm en i n).Pairwise fun a b => a < b := List.pairwise_lt_range.filter _
/-- The first place is the least. -/
theorem plcS_first {nm : List Int} {en : Nat → Nat} (h : EnP nm en) {i n : Nat} (hi : i < nm.length) (hr : i + n ≤ en i) : snth (plcS nm en i n) 0 = i ↔ ∀ k, k < i → ¬ n ≤ mE nm en i k := by
  have hs := plcS_sorted nm en i n
  have hown := plcS_own h hi hr
  cases e : plcS nm en i n with
  | nil => rw [e] at hown; cases hown
  | cons f L =>
    rw [e] at hs hown
    have hs' := List.pairwise_cons.1 hs
    show f = i ↔ _
    constructor
    · intro x k hk hn
      have hk' : k ∈ plcS nm en i n := plcS_mem.2 ⟨by omega, hn⟩
      rw [e] at hk'
      rcases List.mem_cons.1 hk' with y | y
      · omega
      · have := hs'.1 k y; omega
    · intro x
      have hf : f ∈ plcS nm en i n := by rw [e]; exact List.mem_cons_self
      have := plcS_mem.1 hf
      rcases List.mem_cons.1 hown with y | y
      · exact y.symm
      · have := hs'.1 i y
        exact absurd (plcS_mem.1 hf).2 (x f this)
theorem repB_told {nm : List Int} {en : Nat → Nat} (h : EnP nm en) {i n : Nat} (hi : i < nm.length) (hn : 2 ≤ n) (hr : i + n ≤ en i) (h2 : 2 ≤ (plcS nm en i n).length) : repB nm en n i = decide (snth (plcS nm en i n) 0 = i) := by
  by_cases c : snth (plcS nm en i n) 0 = i
  · rw [decide_eq_true c]
    exact repB_iff.2 ⟨hi, hn, hr, (plcS_two h hi hr).1 h2, (plcS_first h hi hr).1 c⟩
  · rw [decide_eq_false c]
    cases e : repB nm en n i with
    | false => rfl
    | true => exact absurd ((plcS_first h hi hr).2 (repB_iff.1 e).2.2.2.2) c
/-- The places of a sequence are those of where it first stands. -/
theorem plcS_same {nm : List Int} {en : Nat → Nat} (h : EnP nm en) {i k n : Nat} (hi : i < nm.length) (hk : k < nm.length) (hm : n ≤ mE nm en i k) : plcS nm en i n = plcS nm en k n := List.filter_congr fun j hj => by
  have hj : j < nm.length := List.mem_range.1 hj
  congr 1
  exact propext ⟨fun x => mE_trans h hk hi hj (by rw [mE_comm]; exact hm) x, fun x => mE_trans h hi hk hj hm x⟩
/-- Sums over blocks that lie one behind the other. -/
theorem sumR_app (f : Nat → Nat) : ∀ (n m : Nat), sumR (n + m) f = sumR n f + sumR m fun t => f (n + t)
  | n, 0 => rfl
  | n, m + 1 => by rw [show n + (m + 1) = n + m + 1 by omega, sumR, sumR_app f n m, sumR]; omega
theorem sumR_blocks {bd : Nat → Nat} (f : Nat → Nat) (h0 : bd 0 = 0) (hm : ∀ j, bd j ≤ bd (j + 1)) : ∀ m : Nat, sumR m (fun j => sumR (bd (j + 1) - bd j) fun t => f (bd j + t)) = sumR (bd m) f
  | 0 => by rw [h0]; rfl
  | m + 1 => by
    have := hm m
    rw [sumR, sumR_blocks f h0 hm m, show bd (m + 1) = bd m + (bd (m + 1) - bd m) by omega, sumR_app]
    rw [show bd m + (bd (m + 1) - bd m) - bd m = bd (m + 1) - bd m by omega]
theorem sumR_swap : ∀ (n m : Nat) (f : Nat → Nat → Nat), sumR n (fun i => sumR m fun k => f i k) = sumR m fun k => sumR n fun i => f i k
  | 0, m, f => (sumR_zero m).symm
  | n + 1, m, f => by
    rw [sumR, sumR_swap n m f, ← sumR_add]
    exact sumR_congr fun k _ => rfl
theorem sumR_pairsB {bd : Nat → Nat} (f : Nat → Nat → Nat) (h0 : bd 0 = 0) (hm : ∀ j, bd j ≤ bd (j + 1)) (m : Nat) : sumR m (fun b => sumR m fun c => sumR (bd (b + 1) - bd b) fun s => sumR (bd (c + 1) - bd c) fun t => f (bd b + s) (bd c + t)) = sumR (bd m) fun i => sumR (bd m) fun k => f i k := by
  rw [← sumR_blocks (fun i => sumR (bd m) fun k => f i k) h0 hm m]
  refine sumR_congr fun b _ => ?_
  rw [sumR_swap]
  refine sumR_congr fun s _ => ?_
  exact sumR_blocks (fun k => f (bd b + s) k) h0 hm m



end Go.Proofs.YtokhclindfipbaaGreatDoor

namespace Go.Proofs.YtokhclindfipbaaGreatDoor
open Go.RowKit

/-- Where blocks begin, one behind the other; behind the last one: the text's end. -/
def bdN (f : Int → Bool) (n j : Nat) : Nat := if j < (plcT f n).length then (nth (plcT f n) j).toNat else n
theorem plc_in {f : Int → Bool} {n j : Nat} (h : j < (plcT f n).length) : 0 ≤ nth (plcT f n) j ∧ nth (plcT f n) j < (n : Int) ∧ f (nth (plcT f n) j) = true := plcT_mem.1 (nth_mem h)
theorem bdN_zero {f : Int → Bool} {n : Nat} (h0 : f 0 = true) : bdN f n 0 = 0 := by
  unfold bdN
  by_cases h : 0 < (plcT f n).length
  · rw [if_pos h]
    have hn : 0 < n := by have := plcT_len f n; omega
    rw [(plc_first hn h0).2]; rfl
  · rw [if_neg h]
    by_cases hn : 0 < n
    · exact absurd (plc_first hn h0).1 h
    · omega
theorem bdN_rise {f : Int → Bool} {n j : Nat} (h : j < (plcT f n).length) : bdN f n j < bdN f n (j + 1) := by
  unfold bdN
  rw [if_pos h]
  have a := plc_in h
  by_cases h2 : j + 1 < (plcT f n).length
  · rw [if_pos h2]
    have := plc_rise (f := f) (n := n) (i := j) (j := j + 1) (by omega) h2
    omega
  · rw [if_neg h2]; omega
theorem bdN_mono (f : Int → Bool) (n j : Nat) : bdN f n j ≤ bdN f n (j + 1) := by
  by_cases h : j < (plcT f n).length
  · exact Nat.le_of_lt (bdN_rise h)
  · unfold bdN
    rw [if_neg h, if_neg (by omega)]
    exact Nat.le_refl _
theorem bdN_end (f : Int → Bool) (n : Nat) : bdN f n (plcT f n).length = n := if_neg (Nat.lt_irrefl _)
theorem bdN_le (f : Int → Bool) (n j : Nat) : bdN f n j ≤ n := by
  unfold bdN
  by_cases h : j < (plcT f n).length
  · rw [if_pos h]; have := plc_in h; omega
  · rw [if_neg h]; exact Nat.le_refl _
theorem bd_from {f : Int → Bool} {n j : Nat} (h : j < (plcT f n).length) : rAt (blkN f n) j = ((bdN f n j : Nat) : Int) := by
  rw [blk_from h]
  unfold bdN
  rw [if_pos h]
  have := plc_in h
  omega
theorem bd_to {f : Int → Bool} {n j : Nat} (h : j < (plcT f n).length) : rSym (blkN f n) j = ((bdN f n (j + 1) : Nat) : Int) := by
  rw [blk_to h]
  unfold bdN
  by_cases h2 : j + 1 < (plcT f n).length
  · rw [if_pos h2, if_pos h2]
    have := plc_in h2
    omega
  · rw [if_neg h2, if_neg h2]
/-- Where the block of a place ends. -/
def enK (f : Int → Bool) (n k : Nat) : Nat := match (List.range n).find? fun j => decide (k < j) && f (j : Int) with
  | some j => j
  | none => n
theorem enK_hit {f : Int → Bool} {n k j : Nat} (h1 : k < j) (h2 : j < n) (h3 : f (j : Int) = true) (h0 : ∀ i, k < i → i < j → f (i : Int) = false) : enK f n k = j := by
  have hf : (List.range n).find? (fun j => decide (k < j) && f (j : Int)) = some j := by
    rw [List.find?_range_eq_some]
    refine ⟨by simp [h1, h3], by simpa using h2, fun i hi => ?_⟩
    by_cases c : k < i
    · simp [h0 i c hi]
    · simp [c]
  unfold enK
  rw [hf]
theorem enK_none {f : Int → Bool} {n k : Nat} (h0 : ∀ i, k < i → i < n → f (i : Int) = false) : enK f n k = n := by
  have hf : (List.range n).find? (fun j => decide (k < j) && f (j : Int)) = none := by
    rw [List.find?_eq_none]
    intro i hi
    have hi : i < n := by simpa using hi
    by_cases c : k < i
    · simp [h0 i c hi]
    · simp [c]
  unfold enK
  rw [hf]
theorem enK_in {f : Int → Bool} {n j k : Nat} (hj : j < (plcT f n).length) (h1 : bdN f n j ≤ k) (h2 : k < bdN f n (j + 1)) : enK f n k = bdN f n (j + 1) := by
  have none : ∀ i, k < i → i < bdN f n (j + 1) → f (i : Int) = false := fun i hi1 hi2 => by
    cases e : f (i : Int) with
    | false => rfl
    | true =>
      exfalso
      have hn := bdN_le f n (j + 1)
      have hm : (i : Int) ∈ plcT f n := plcT_mem.2 ⟨by omega, by omega, e⟩
      obtain ⟨d, hd, ed⟩ := mem_nth hm
      rcases Nat.lt_or_ge j d with c | c
      · have a : bdN f n (j + 1) = (nth (plcT f n) (j + 1)).toNat := if_pos (by omega)
        by_cases c2 : d = j + 1
        · rw [c2] at ed; omega
        · have := plc_rise (f := f) (n := n) (i := j + 1) (j := d) (by omega) hd
          have := plc_in (f := f) (n := n) (j := j + 1) (by omega)
          omega
      · have a : bdN f n j = (nth (plcT f n) j).toNat := if_pos hj
        by_cases c2 : d = j
        · rw [c2] at ed; omega
        · have := plc_rise (f := f) (n := n) (i := d) (j := j) (by omega) hj
          have := plc_in hj
          omega
  by_cases c : j + 1 < (plcT f n).length
  · have a : bdN f n (j + 1) = (nth (plcT f n) (j + 1)).toNat := if_pos c
    have b := plc_in c
    refine enK_hit h2 (by omega) ?_ none
    rw [a, show (((nth (plcT f n) (j + 1)).toNat : Nat) : Int) = nth (plcT f n) (j + 1) by omega]
    exact b.2.2
  · have a : bdN f n (j + 1) = n := if_neg c
    rw [a] at none ⊢
    exact enK_none none
theorem enK_lt {f : Int → Bool} {n k : Nat} (hk : k < n) : k < enK f n k ∧ enK f n k ≤ n := by
  unfold enK
  cases h : (List.range n).find? (fun j => decide (k < j) && f (j : Int)) with
  | none => exact ⟨hk, Nat.le_refl _⟩
  | some j =>
    rw [List.find?_range_eq_some] at h
    have h1 := h.1
    simp only [Bool.and_eq_true, decide_eq_true_eq] at h1
    have h2 : j < n := by simpa using h.2.1
    exact ⟨h1.1, Nat.le_of_lt h2⟩
theorem enK_ok {f : Int → Bool} {nm : List Int} : EnP nm (enK f nm.length) := ⟨fun _ h => (enK_lt h).1, fun _ h => (enK_lt h).2⟩
/-- Each place is in a block. -/
theorem bd_of {f : Int → Bool} {n k : Nat} (h0 : f 0 = true) (hk : k < n) : ∃ j, j < (plcT f n).length ∧ bdN f n j ≤ k ∧ k < bdN f n (j + 1) := by
  have : ∀ m, m ≤ (plcT f n).length → k < bdN f n m → ∃ j, j < m ∧ bdN f n j ≤ k ∧ k < bdN f n (j + 1) := fun m => by
    induction m with
    | zero => intro _ h; rw [bdN_zero h0] at h; omega
    | succ m ih =>
      intro hm h
      by_cases c : k < bdN f n m
      · obtain ⟨j, a, b⟩ := ih (by omega) c
        exact ⟨j, by omega, b⟩
      · exact ⟨m, by omega, by omega, h⟩
  obtain ⟨j, a, b⟩ := this _ (Nat.le_refl _) (by rw [bdN_end]; exact hk)
  exact ⟨j, a, b⟩
/-- The ends as they fill: all places below a bound are done. -/
def enV (f : Int → Bool) (n p k : Nat) : Int := if k < p then ((enK f n k : Nat) : Int) else 0
theorem enV_zero (f : Int → Bool) (n k : Nat) : enV f n 0 k = 0 := if_neg (Nat.not_lt_zero _)
theorem enV_put (f : Int → Bool) (n p k : Nat) : enV f n (p + 1) k = if k = p then ((enK f n p : Nat) : Int) else enV f n p k := by
  unfold enV
  by_cases e : k = p
  · rw [if_pos e, e, if_pos (by omega)]
  · rw [if_neg e]
    by_cases c : k < p
    · rw [if_pos c, if_pos (by omega)]
    · rw [if_neg c, if_neg (by omega)]
def enL (f : Int → Bool) (n : Nat) : List Int := (List.range n).map fun k => ((enK f n k : Nat) : Int)
theorem enL_len (f : Int → Bool) (n : Nat) : (enL f n).length = n := by simp [enL]
theorem enL_nth {f : Int → Bool} {n k : Nat} (h : k < n) : nth (enL f n) k = ((enK f n k : Nat) : Int) := by simp [nth, enL, h]



end Go.Proofs.YtokhclindfipbaaGreatDoor

namespace Go.Proofs.YtokhclindfipbaaGreatDoor


section
variable {P : Program}
/-- An append of something: in place, or in a block made now with all the others as they were. -/
theorem run_append_two (w : World) (t ty e : TypeId) (i : TypeInfo) (z : Value) (size bytes : Nat) (ht : P.underlying t = some (.slice e)) (hi : P.info? e = some i) (hz : i.zero = some z)
    (hsize : i.size = size) (hby : i.bytes = bytes) (hzs : z.cells.size = size) (hsz : 0 < size)
    (v : Value) (n : Nat) (xs : List Value) (hown : w.ownsRow 0 e size v n xs)
    (a : Addr) (m c : Nat) (news : List Value) (hl : news.length = m * size) (hnews : ∀ j u, news[j]? = some u → w.cell? (a.add j) = some u) (h1 : ∀ u ∈ news, u.oneCell' = true)
    (hm : 0 < m) (h63 : n + m ≤ maxLen) (hbytes : (n + m) * bytes ≤ 140737488355328) :
    ∃ g cap w', (Builtin.append_ #[t, t] ty #[v, .slice (some a) m c]).run P w = .ok (.slice (some ⟨g, 0, none⟩) (n + m) cap) w' ∧
      w'.ownsRow 0 e size (.slice (some ⟨g, 0, none⟩) (n + m) cap) (n + m) (xs ++ news) ∧ w.grownBy w' v.ownBlock ∧ (v = .slice (some ⟨g, 0, none⟩) n cap ∨ (g = w.heap.size ∧ w.grownBy w' none)) := by
  obtain ⟨g', cap', w', hr, h2, h3, h4, _⟩ := run_append_lies (P := P) w t ty 0 e i z size bytes ht hi hz hsize hby hzs hsz v n xs hown a m c news hl hnews h1 hm h63 hbytes (Nat.zero_le _) _ rfl
  rcases hown.2 with ⟨rfl, rfl⟩ | ⟨g, cap, cur, rfl, hbg, hg, hnc, hcm, hcs, htake⟩
  · refine ⟨g', cap', w', hr, h2, h3, .inr ⟨?_, h3⟩⟩
    rcases h4 with h4 | h4
    · cases h4
    · exact h4
  · by_cases hroom : n + m ≤ cap
    · obtain ⟨w2, hr2, h5, h6⟩ := run_append_fits (P := P) w 0 t ty e i size ht hi hsize g n cap xs hown a m c news hl hnews h1 hroom
      exact ⟨g, cap, w2, hr2, h5, h6, .inl rfl⟩
    · subst hsize hby
      have hr2 := run_append_grow (P := P) w t ty e i z ht hi hz ⟨g, 0, none⟩ n cap xs hown.1 (hown.cells (g := g) rfl) a m c news hl hnews (by omega) (by simp only [maxLen] at h63; omega) (growslice_fits (by omega) hbytes)
      have e2 := hr.symm.trans hr2
      simp only [Result.ok.injEq, Value.slice.injEq, Option.some.injEq, Addr.mk.injEq, and_true, true_and] at e2
      obtain ⟨⟨e3, _⟩, e4⟩ := e2
      refine ⟨g', cap', w', hr, h2, h3, .inr ⟨e3, ?_⟩⟩
      rw [e4]
      exact ⟨rfl, rfl, rfl, by simp, fun k hk _ => Go.RowKit.Below.heap_alloc w.drew _ k hk⟩
theorem wp_append_two (w : World) {o : Oper} {a : Act} {K : Act → World → Prop} {Q : Exit → Act → World → Prop} (s x : Operand) (t : TypeId)
    (ho : o.op = .call { callee := .builtin .append, args := #[s, x], argTypes := #[t, t] })
    (e : TypeId) (i : TypeInfo) (z : Value) (size bytes : Nat) (ht : P.underlying t = some (.slice e)) (hi : P.info? e = some i) (hz : i.zero = some z)
    (hsize : i.size = size) (hby : i.bytes = bytes) (hzs : z.cells.size = size) (hsz : 0 < size)
    (v : Value) (n : Nat) (xs : List Value) (hs : a.eval s = v) (hown : w.ownsRow 0 e size v n xs)
    (ad : Addr) (m c : Nat) (news : List Value) (hx : a.eval x = .slice (some ad) m c) (hl : news.length = m * size) (hnews : ∀ j u, news[j]? = some u → w.cell? (ad.add j) = some u) (h1 : ∀ u ∈ news, u.oneCell' = true)
    (hm : 0 < m) (h63 : n + m ≤ maxLen) (hbytes : (n + m) * bytes ≤ 140737488355328)
    (h : ∀ g cap w', w'.ownsRow 0 e size (.slice (some ⟨g, 0, none⟩) (n + m) cap) (n + m) (xs ++ news) → w.grownBy w' v.ownBlock → (v = .slice (some ⟨g, 0, none⟩) n cap ∨ (g = w.heap.size ∧ w.grownBy w' none)) → K (a.put o.dst (.slice (some ⟨g, 0, none⟩) (n + m) cap)) w') : o.wp P a w K Q := by
  obtain ⟨g, cap, w', hr, h2, h3, h4⟩ := run_append_two (P := P) w t o.type e i z size bytes ht hi hz hsize hby hzs hsz v n xs hown ad m c news hl hnews h1 hm h63 hbytes
  unfold Oper.wp execOp
  simp only [ho, resolve, invoke, builtin, Sem.run_bind, Sem.run_pure, Result.andThen_ok, List.map_toArray, List.map_cons, List.map_nil, hs, hx, hr]
  exact h g cap w' h2 h3 h4
theorem wpList_append_two (w : World) {ops : Array Oper} {rest : List Oper} {o : Oper} {a : Act} {Q : Exit → Act → World → Prop} (hgd : o.guard = none) (s x : Operand) (t : TypeId)
    (ho : o.op = .call { callee := .builtin .append, args := #[s, x], argTypes := #[t, t] })
    (e : TypeId) (i : TypeInfo) (z : Value) (size bytes : Nat) (ht : P.underlying t = some (.slice e)) (hi : P.info? e = some i) (hz : i.zero = some z)
    (hsize : i.size = size) (hby : i.bytes = bytes) (hzs : z.cells.size = size) (hsz : 0 < size)
    (v : Value) (n : Nat) (xs : List Value) (hs : a.eval s = v) (hown : w.ownsRow 0 e size v n xs)
    (ad : Addr) (m c : Nat) (news : List Value) (hx : a.eval x = .slice (some ad) m c) (hl : news.length = m * size) (hnews : ∀ j u, news[j]? = some u → w.cell? (ad.add j) = some u) (h1 : ∀ u ∈ news, u.oneCell' = true)
    (hm : 0 < m) (h63 : n + m ≤ maxLen) (hbytes : (n + m) * bytes ≤ 140737488355328)
    (h : ∀ g cap w', w'.ownsRow 0 e size (.slice (some ⟨g, 0, none⟩) (n + m) cap) (n + m) (xs ++ news) → w.grownBy w' v.ownBlock → (v = .slice (some ⟨g, 0, none⟩) n cap ∨ (g = w.heap.size ∧ w.grownBy w' none)) → wpList P ops Q rest (a.put o.dst (.slice (some ⟨g, 0, none⟩) (n + m) cap)) w') : wpList P ops Q (o :: rest) a w :=
  wpList_plain hgd fun _ hK => wp_append_two w s x t ho e i z size bytes ht hi hz hsize hby hzs hsz v n xs hs hown ad m c news hx hl hnews h1 hm h63 hbytes fun g cap w' h2 h3 h4 => hK _ _ (h g cap w' h2 h3 h4)
end

/-- L marks of the list n. -/
def marks (mk : Nat → Nat → List Value) (n L : Nat) : List Value := (List.range L).flatMap (mk n)
theorem marks_zero (mk : Nat → Nat → List Value) (n : Nat) : marks mk n 0 = [] := rfl
theorem marks_succ (mk : Nat → Nat → List Value) (n L : Nat) : marks mk n (L + 1) = marks mk n L ++ mk n L := by simp [marks, List.range_succ]
theorem marks_len {mk : Nat → Nat → List Value} {size : Nat} (h : ∀ n i, (mk n i).length = size) (n L : Nat) : (marks mk n L).length = L * size := by
  induction L with
  | zero => simp [marks]
  | succ L ih => rw [marks_succ, List.length_append, ih, h, Nat.succ_mul]
theorem marks_take {mk : Nat → Nat → List Value} {size : Nat} (h : ∀ n i, (mk n i).length = size) (n : Nat) {L M : Nat} (hL : L ≤ M) : (marks mk n M).take (L * size) = marks mk n L := by
  induction M with
  | zero =>
    obtain rfl : L = 0 := by omega
    simp [marks]
  | succ M ih =>
    by_cases e : L = M + 1
    · subst e
      rw [List.take_of_length_le (by rw [marks_len h]; exact Nat.le_refl _)]
    · rw [marks_succ, List.take_append_of_le_length (by rw [marks_len h]; exact Nat.mul_le_mul_right _ (by omega))]
      exact ih (by omega)
theorem marks_get {mk : Nat → Nat → List Value} {size : Nat} (h : ∀ n i, (mk n i).length = size) (n : Nat) {L i j : Nat} (hi : i < L) (hj : j < size) : (marks mk n L)[i * size + j]? = (mk n i)[j]? := by
  have h1 : (marks mk n (i + 1))[i * size + j]? = (mk n i)[j]? := by
    rw [marks_succ, List.getElem?_append_right (by rw [marks_len h]; omega), marks_len h]
    congr 1
    omega
  rw [← h1, ← marks_take h n (show i + 1 ≤ L by omega), List.getElem?_take, if_pos (by rw [Nat.succ_mul]; omega)]

/-- A row stays where another block grows. -/
theorem own_apart {w w' : World} {base : Nat} {e : TypeId} {size : Nat} {v : Value} {n : Nat} {xs : List Value} {row : Option Nat} (h : w.ownsRow base e size v n xs) (hg : w.grownBy w' row) (hne : ∀ b, v.ownBlock = some b → row ≠ some b) : w'.ownsRow base e size v n xs := by
  refine h.kept hg ?_
  cases hv : v.ownBlock with
  | none => exact .inl rfl
  | some b => exact .inr (fun e => hne b hv e.symm)
/-- What lies in a block's cells is of one kind. -/
theorem own_block {w : World} {base : Nat} {e : TypeId} {size : Nat} {v : Value} {n : Nat} {xs : List Value} (h : w.ownsRow base e size v n xs) {b : Nat} (hb : v.ownBlock = some b) : ∃ cur, w.heap[b]? = some (.cells cur e (0, 0)) := by
  rcases h.2 with ⟨rfl, _⟩ | ⟨g, cap, cur, rfl, _, hg, _⟩
  · cases hb
  · cases hb
    exact ⟨cur, hg⟩
/-- A row of one kind is not a block of another. -/
def Not (w : World) (e : TypeId) (row : Option Nat) : Prop := ∀ b, row = some b → ∀ cur, w.heap[b]? ≠ some (.cells cur e (0, 0))
theorem own_other {w w' : World} {base : Nat} {e : TypeId} {size : Nat} {v : Value} {n : Nat} {xs : List Value} {row : Option Nat} (h : w.ownsRow base e size v n xs) (hg : w.grownBy w' row) (hne : Not w e row) : w'.ownsRow base e size v n xs :=
  own_apart h hg fun b hb hr => by
    obtain ⟨cur, hc⟩ := own_block h hb
    exact hne b hr cur hc
theorem own_not {w : World} {base : Nat} {e : TypeId} {size : Nat} {v : Value} {n : Nat} {xs : List Value} (h : w.ownsRow base e size v n xs) {e' : TypeId} (hne : e ≠ e') : Not w e' v.ownBlock := fun b hb cur hc => by
  obtain ⟨c2, hc2⟩ := own_block h hb
  rw [hc2] at hc
  simp only [Option.some.injEq, Obj.cells.injEq] at hc
  exact hne hc.2.1

/-- A bag's rows: each a value and its length. -/
def rv (rs : List (Value × Nat)) (m : Nat) : Value := (rs.getD m (.slice none 0 0, 0)).1
def rl (rs : List (Value × Nat)) (m : Nat) : Nat := (rs.getD m (.slice none 0 0, 0)).2
def vn (os : List Value) (m : Nat) : Value := os.getD m (.slice none 0 0)
theorem vn_map (rs : List (Value × Nat)) (m : Nat) (h : m < rs.length) : vn (rs.map Prod.fst) m = rv rs m := by simp [vn, rv, h]
theorem vn_last (os : List Value) (x : Value) : vn (os ++ [x]) os.length = x := by simp [vn]
theorem vn_old (os : List Value) (x : Value) (j : Nat) (h : j < os.length) : vn (os ++ [x]) j = vn os j := by
  unfold vn
  rw [List.getD_eq_getElem?_getD, List.getD_eq_getElem?_getD, List.getElem?_append_left h]
/-- Two lists of lists that lie apart, by blocks. -/
def Off (a b : Option Nat) : Prop := ∀ k, a = some k → b ≠ some k
theorem Off.symm {a b : Option Nat} (h : Off a b) : Off b a := fun k hb ha => h k ha hb

section
variable (T TS : TypeId) (size : Nat) (mk : Nat → Nat → List Value) (rs : List (Value × Nat))
/-- What is held: a bag's row, or one grown by one, or by seventy. -/
def Held (os ms : List Value) (v : Value) (k L : Nat) : Prop :=
  (k < rs.length ∧ v = rv rs k ∧ L = rl rs k) ∨ (k < os.length ∧ v = vn os k ∧ L = rl rs k + 1) ∨ (k < ms.length ∧ v = vn ms k ∧ L = rl rs k + 70)
/-- The three lists of lists. -/
structure Three (w : World) (V O M : Value) (os ms : List Value) : Prop where
  bag : w.ownsRow 0 TS 1 V rs.length (rs.map Prod.fst)
  one : w.ownsRow 0 TS 1 O os.length os
  more : w.ownsRow 0 TS 1 M ms.length ms
  vo : Off V.ownBlock O.ownBlock
  vm : Off V.ownBlock M.ownBlock
  om : Off O.ownBlock M.ownBlock
/-- All that is other: the bag's rows, and what is new. -/
structure Fr (w0 w : World) : Prop where
  os : w.os = w0.os
  tape : w.tape = w0.tape
  output : w.output = w0.output
  size : w0.heap.size ≤ w.heap.size
  block : ∀ b, b < w0.heap.size → (∀ m, m < rs.length → (rv rs m).ownBlock ≠ some b) → w.heap[b]? = w0.heap[b]?
/-- Whose block it may be. -/
def Mine (w0 : World) (row : Option Nat) : Prop := ∀ b, row = some b → w0.heap.size ≤ b ∨ ∃ m, m < rs.length ∧ (rv rs m).ownBlock = some b
/-- Ahead of the list n. -/
structure Out (w0 w : World) (n : Nat) (V O M : Value) (os ms : List Value) : Prop where
  three : Three TS rs w V O M os ms
  fr : Fr rs w0 w
  mo : Mine rs w0 O.ownBlock
  mm : Mine rs w0 M.ownBlock
  held : ∀ v k L, Held rs os ms v k L → w.ownsRow 0 T size v L (marks mk k L) ∧ ∀ m, n ≤ m → m < rs.length → ∀ b, v.ownBlock = some b → (rv rs m).ownBlock = some b → L ≤ rl rs m
/-- At the list n, grown to i. -/
structure Ap (w0 w : World) (n : Nat) (V O M : Value) (os ms : List Value) (l : Value) (i : Nat) : Prop where
  out : Out T TS size mk rs w0 w (n + 1) V O M os ms
  cur : w.ownsRow 0 T size l i (marks mk n i)
  my : Mine rs w0 l.ownBlock
  far : ∀ m, n + 1 ≤ m → m < rs.length → Off l.ownBlock (rv rs m).ownBlock
  safe : ∀ v k L, Held rs os ms v k L → ∀ b, v.ownBlock = some b → l.ownBlock = some b → L ≤ i

variable {T TS size mk rs}
theorem Fr.grown {w0 w w' : World} {row : Option Nat} (h : Fr rs w0 w) (hg : w.grownBy w' row) (hm : Mine rs w0 row) : Fr rs w0 w' := by
  refine ⟨hg.os.trans h.os, hg.tape.trans h.tape, hg.output.trans h.output, Nat.le_trans h.size hg.size, fun b hb hn => ?_⟩
  rw [hg.block b (Nat.lt_of_lt_of_le hb h.size) (fun e => ?_), h.block b hb hn]
  rcases hm b e.symm with h1 | ⟨m, h1, h2⟩
  · omega
  · exact hn m h1 h2
theorem Three.other {w w' : World} {V O M : Value} {os ms : List Value} {row : Option Nat} (h : Three TS rs w V O M os ms) (hg : w.grownBy w' row) (hn : Not w TS row) : Three TS rs w' V O M os ms :=
  ⟨own_other h.bag hg hn, own_other h.one hg hn, own_other h.more hg hn, h.vo, h.vm, h.om⟩
/-- A block's number, of one that is owned. -/
theorem own_lt {w : World} {base : Nat} {e : TypeId} {size : Nat} {v : Value} {n : Nat} {xs : List Value} (h : w.ownsRow base e size v n xs) {b : Nat} (hb : v.ownBlock = some b) : b < w.heap.size := (h.lt b hb).2
/-- Where a row is behind an append. -/
def Grew (w w' : World) (v : Value) (n g cap : Nat) : Prop := v = .slice (some ⟨g, 0, none⟩) n cap ∨ (g = w.heap.size ∧ w.grownBy w' none)
theorem Grew.off {w w' : World} {v : Value} {n g cap n' : Nat} {base : Nat} {e : TypeId} {size : Nat} {u : Value} {k : Nat} {xs : List Value} (h : Grew w w' v n g cap) (hu : w.ownsRow base e size u k xs) (ho : Off u.ownBlock v.ownBlock) : Off u.ownBlock (Value.slice (some ⟨g, 0, none⟩) n' cap).ownBlock := by
  rcases h with rfl | ⟨rfl, _⟩
  · exact ho
  · intro b hb e
    have := own_lt hu hb
    simp only [Value.ownBlock, Option.some.injEq] at e
    omega
theorem Grew.mine {w w' w0 : World} {v : Value} {n g cap n' : Nat} (h : Grew w w' v n g cap) (hs : w0.heap.size ≤ w.heap.size) (hm : Mine rs w0 v.ownBlock) : Mine rs w0 (Value.slice (some ⟨g, 0, none⟩) n' cap).ownBlock := by
  rcases h with rfl | ⟨rfl, _⟩
  · exact hm
  · intro b e
    simp only [Value.ownBlock, Option.some.injEq] at e
    left
    omega
theorem Three.addOne {w w' : World} {V O M : Value} {os ms : List Value} {x : Value} {g cap : Nat} (h : Three TS rs w V O M os ms) (ho : w'.ownsRow 0 TS 1 (.slice (some ⟨g, 0, none⟩) (os.length + 1) cap) (os.length + 1) (os ++ [x])) (hg : w.grownBy w' O.ownBlock) (hw : Grew w w' O os.length g cap) :
    Three TS rs w' V (.slice (some ⟨g, 0, none⟩) (os.length + 1) cap) M (os ++ [x]) ms := by
  refine ⟨own_apart h.bag hg h.vo, by rw [List.length_append]; exact ho, own_apart h.more hg (fun b hb e => h.om b e hb), hw.off h.bag h.vo, h.vm, ?_⟩
  exact (hw.off h.more h.om.symm).symm
theorem Three.addMore {w w' : World} {V O M : Value} {os ms : List Value} {x : Value} {g cap : Nat} (h : Three TS rs w V O M os ms) (ho : w'.ownsRow 0 TS 1 (.slice (some ⟨g, 0, none⟩) (ms.length + 1) cap) (ms.length + 1) (ms ++ [x])) (hg : w.grownBy w' M.ownBlock) (hw : Grew w w' M ms.length g cap) :
    Three TS rs w' V O (.slice (some ⟨g, 0, none⟩) (ms.length + 1) cap) os (ms ++ [x]) := by
  refine ⟨own_apart h.bag hg h.vm, own_apart h.one hg h.om, by rw [List.length_append]; exact ho, h.vo, hw.off h.bag h.vm, ?_⟩
  exact hw.off h.one h.om
/-- A held row stays while the current one grows. -/
theorem held_grow (hmk : ∀ n i, (mk n i).length = size) (_hsz : 0 < size) {w w' : World} {v l : Value} {k L n i g cap : Nat} (hv : w.ownsRow 0 T size v L (marks mk k L)) (hl : w.ownsRow 0 T size l i (marks mk n i)) (hs : ∀ b, v.ownBlock = some b → l.ownBlock = some b → L ≤ i)
    (ho : w'.ownsRow 0 T size (.slice (some ⟨g, 0, none⟩) (i + 1) cap) (i + 1) (marks mk n (i + 1))) (hg : w.grownBy w' l.ownBlock) (hw : Grew w w' l i g cap) : w'.ownsRow 0 T size v L (marks mk k L) := by
  rcases hw with rfl | ⟨_, h0⟩
  · by_cases hb : v.ownBlock = some g
    · have hLi := hs g hb rfl
      refine ⟨hv.1, ?_⟩
      rcases hv.2 with h1 | ⟨gv, cv, cur, rfl, _, hgv, hLc, hcm, hcs, htk⟩
      · exact .inl h1
      · obtain rfl : gv = g := by simpa [Value.ownBlock] using hb
        rcases hl.2 with ⟨e1, _⟩ | ⟨g2, c2, cur2, e2, _, hg2, _, _, hcs2, htk2⟩
        · cases e1
        · cases e2
          rw [hgv] at hg2
          cases hg2
          rcases ho.2 with ⟨e1, _⟩ | ⟨g3, c3, cur3, e3, _, hg3, _, _, hcs3, htk3⟩
          · cases e1
          · cases e3
            refine .inr ⟨gv, cv, cur3, rfl, Nat.zero_le _, hg3, hLc, hcm, by omega, ?_⟩
            have a1 : cur3.toList.take (L * size) = marks mk n L := by
              have := congrArg (List.take (L * size)) htk3
              rwa [List.take_take, Nat.min_eq_left (Nat.mul_le_mul_right _ (by omega)), marks_take hmk n (by omega)] at this
            have a2 : cur.toList.take (L * size) = marks mk n L := by
              have := congrArg (List.take (L * size)) htk2
              rwa [List.take_take, Nat.min_eq_left (Nat.mul_le_mul_right _ hLi), marks_take hmk n hLi] at this
            rw [a1, ← a2, htk]
    · exact own_apart hv hg fun b hb' e => by
        have : b = g := by simpa [Value.ownBlock] using e.symm
        exact hb (this ▸ hb')
  · exact own_apart hv h0 fun b _ e => by cases e
theorem Out.other {w0 w w' : World} {n : Nat} {V O M : Value} {os ms : List Value} {row : Option Nat} (h : Out T TS size mk rs w0 w n V O M os ms) (hg : w.grownBy w' row) (hn : Not w TS row) (hn2 : Not w T row) (hm : Mine rs w0 row) : Out T TS size mk rs w0 w' n V O M os ms :=
  ⟨h.three.other hg hn, h.fr.grown hg hm, h.mo, h.mm, fun v k L hh => ⟨own_other (h.held v k L hh).1 hg hn2, (h.held v k L hh).2⟩⟩
/-- The current row grows by one. -/
theorem Ap.grow (hmk : ∀ n i, (mk n i).length = size) (hsz : 0 < size) (hT : T ≠ TS) {w0 w w' : World} {n : Nat} {V O M : Value} {os ms : List Value} {l : Value} {i g cap : Nat} (h : Ap T TS size mk rs w0 w n V O M os ms l i)
    (ho : w'.ownsRow 0 T size (.slice (some ⟨g, 0, none⟩) (i + 1) cap) (i + 1) (marks mk n i ++ mk n i)) (hg : w.grownBy w' l.ownBlock) (hw : l = .slice (some ⟨g, 0, none⟩) i cap ∨ (g = w.heap.size ∧ w.grownBy w' none)) : Ap T TS size mk rs w0 w' n V O M os ms (.slice (some ⟨g, 0, none⟩) (i + 1) cap) (i + 1) := by
  rw [← marks_succ] at ho
  have hw' : Grew w w' l i g cap := hw
  refine ⟨⟨h.out.three.other hg (own_not h.cur hT), h.out.fr.grown hg h.my, h.out.mo, h.out.mm, fun v k L hh => ⟨held_grow hmk hsz (h.out.held v k L hh).1 h.cur (h.safe v k L hh) ho hg hw', (h.out.held v k L hh).2⟩⟩, ho, hw'.mine h.out.fr.size h.my, fun m h1 h2 => ?_, fun v k L hh b hb e => ?_⟩
  · exact (hw'.off (h.out.held _ _ _ (.inl ⟨h2, rfl, rfl⟩)).1 (h.far m h1 h2).symm).symm
  · rcases hw' with rfl | ⟨rfl, _⟩
    · exact Nat.le_succ_of_le (h.safe v k L hh b hb e)
    · have := own_lt (h.out.held v k L hh).1 hb
      simp only [Value.ownBlock, Option.some.injEq] at e
      omega
/-- The row grown by one is kept. -/
theorem Ap.addOne (hT : T ≠ TS) {w0 w w' : World} {n : Nat} {V O M : Value} {os ms : List Value} {l : Value} {i g cap : Nat} (h : Ap T TS size mk rs w0 w n V O M os ms l i) (hi : i = rl rs n + 1) (hos : os.length = n)
    (ho : w'.ownsRow 0 TS 1 (.slice (some ⟨g, 0, none⟩) (os.length + 1) cap) (os.length + 1) (os ++ [l])) (hg : w.grownBy w' O.ownBlock) (hw : O = .slice (some ⟨g, 0, none⟩) os.length cap ∨ (g = w.heap.size ∧ w.grownBy w' none)) :
    Ap T TS size mk rs w0 w' n V (.slice (some ⟨g, 0, none⟩) (os.length + 1) cap) M (os ++ [l]) ms l i := by
  have hw' : Grew w w' O os.length g cap := hw
  have hno := own_not h.out.three.one (e' := T) hT.symm
  have hc : w'.ownsRow 0 T size l i (marks mk n i) := own_other h.cur hg hno
  have hd : ∀ v k L, Held rs (os ++ [l]) ms v k L → Held rs os ms v k L ∨ (v = l ∧ k = n ∧ L = i) := by
    rintro v k L (h1 | ⟨h1, h2, h3⟩ | h1)
    · exact .inl (.inl h1)
    · by_cases e : k < os.length
      · exact .inl (.inr (.inl ⟨e, by rw [h2, vn_old _ _ _ e], h3⟩))
      · obtain rfl : k = os.length := by simp at h1; omega
        rw [vn_last] at h2
        exact .inr ⟨h2, hos, by rw [h3, hos, hi]⟩
    · exact .inl (.inr (.inr h1))
  refine ⟨⟨h.out.three.addOne ho hg hw', h.out.fr.grown hg h.out.mo, hw'.mine h.out.fr.size h.out.mo, h.out.mm, fun v k L hh => ?_⟩, hc, h.my, h.far, fun v k L hh b hb e => ?_⟩
  · rcases hd v k L hh with hh | ⟨rfl, rfl, rfl⟩
    · exact ⟨own_other (h.out.held v k L hh).1 hg hno, (h.out.held v k L hh).2⟩
    · exact ⟨hc, fun m h1 h2 b hb e => absurd e (h.far m h1 h2 b hb)⟩
  · rcases hd v k L hh with hh | ⟨rfl, rfl, rfl⟩
    · exact h.safe v k L hh b hb e
    · exact Nat.le_refl _
/-- The row grown by seventy is kept: on to the next. -/
theorem Ap.addMore (hT : T ≠ TS) {w0 w w' : World} {n : Nat} {V O M : Value} {os ms : List Value} {l : Value} {i g cap : Nat} (h : Ap T TS size mk rs w0 w n V O M os ms l i) (hi : i = rl rs n + 70) (hms : ms.length = n)
    (ho : w'.ownsRow 0 TS 1 (.slice (some ⟨g, 0, none⟩) (ms.length + 1) cap) (ms.length + 1) (ms ++ [l])) (hg : w.grownBy w' M.ownBlock) (hw : M = .slice (some ⟨g, 0, none⟩) ms.length cap ∨ (g = w.heap.size ∧ w.grownBy w' none)) :
    Out T TS size mk rs w0 w' (n + 1) V O (.slice (some ⟨g, 0, none⟩) (ms.length + 1) cap) os (ms ++ [l]) := by
  have hw' : Grew w w' M ms.length g cap := hw
  have hno := own_not h.out.three.more (e' := T) hT.symm
  have hc : w'.ownsRow 0 T size l i (marks mk n i) := own_other h.cur hg hno
  refine ⟨h.out.three.addMore ho hg hw', h.out.fr.grown hg h.out.mm, h.out.mo, hw'.mine h.out.fr.size h.out.mm, fun v k L hh => ?_⟩
  have hd : Held rs os ms v k L ∨ (v = l ∧ k = n ∧ L = i) := by
    rcases hh with h1 | h1 | ⟨h1, h2, h3⟩
    · exact .inl (.inl h1)
    · exact .inl (.inr (.inl h1))
    · by_cases e : k < ms.length
      · exact .inl (.inr (.inr ⟨e, by rw [h2, vn_old _ _ _ e], h3⟩))
      · obtain rfl : k = ms.length := by simp at h1; omega
        rw [vn_last] at h2
        exact .inr ⟨h2, hms, by rw [h3, hms, hi]⟩
  rcases hd with hh | ⟨rfl, rfl, rfl⟩
  · exact ⟨own_other (h.out.held v k L hh).1 hg hno, (h.out.held v k L hh).2⟩
  · exact ⟨hc, fun m h1 h2 b hb e => absurd e (h.far m h1 h2 b hb)⟩
/-- The rows' blocks are different ones. -/
def Sep (rs : List (Value × Nat)) : Prop := ∀ m m', m < m' → m' < rs.length → Off (rv rs m).ownBlock (rv rs m').ownBlock
theorem Sep.eq (h : Sep rs) {m m' : Nat} (hm : m < rs.length) (hm' : m' < rs.length) {b : Nat} (h1 : (rv rs m).ownBlock = some b) (h2 : (rv rs m').ownBlock = some b) : m = m' := by
  rcases Nat.lt_trichotomy m m' with h3 | h3 | h3
  · exact absurd h2 (h m m' h3 hm' b h1)
  · exact h3
  · exact absurd h1 (h m' m h3 hm b h2)
/-- The next list is taken up. -/
theorem Out.take (hs : Sep rs) {w0 w : World} {n : Nat} {V O M : Value} {os ms : List Value} (h : Out T TS size mk rs w0 w n V O M os ms) (hn : n < rs.length) : Ap T TS size mk rs w0 w n V O M os ms (rv rs n) (rl rs n) := by
  have hh : Held rs os ms (rv rs n) n (rl rs n) := .inl ⟨hn, rfl, rfl⟩
  refine ⟨⟨h.three, h.fr, h.mo, h.mm, fun v k L h1 => ⟨(h.held v k L h1).1, fun m h2 => (h.held v k L h1).2 m (by omega)⟩⟩, (h.held _ _ _ hh).1, fun b hb => .inr ⟨n, hn, hb⟩, fun m h1 h2 => hs n m (by omega) h2, fun v k L h1 b hb e => (h.held v k L h1).2 n (Nat.le_refl _) hn b hb e⟩
/-- While the marks are being written: up to the place i of the list n. -/
def Wr (T : TypeId) (size : Nat) (mk : Nat → Nat → List Value) (rs : List (Value × Nat)) (w : World) (n i : Nat) : Prop :=
  ∀ m, m < rs.length → ∃ xs, w.ownsRow 0 T size (rv rs m) (rl rs m) xs ∧ (m < n → xs = marks mk m (rl rs m)) ∧ (m = n → xs.take (i * size) = marks mk n i)
/-- All marks stand. -/
theorem Wr.out (hs : Sep rs) {w0 w : World} {V : Value} (h : Wr T size mk rs w rs.length 0) (hV : w.ownsRow 0 TS 1 V rs.length (rs.map Prod.fst)) (hf : Fr rs w0 w) : Out T TS size mk rs w0 w 0 V (.slice none 0 0) (.slice none 0 0) [] [] := by
  refine ⟨⟨hV, World.ownsRow_nil _ _ _ _, World.ownsRow_nil _ _ _ _, fun b _ e => (by cases e), fun b _ e => (by cases e), fun b _ e => (by cases e)⟩, hf, fun b e => (by cases e), fun b e => (by cases e), fun v k L hh => ?_⟩
  rcases hh with ⟨h1, rfl, rfl⟩ | ⟨h1, _⟩ | ⟨h1, _⟩
  · obtain ⟨xs, hx, h2, _⟩ := h k h1
    rw [h2 h1] at hx
    exact ⟨hx, fun m _ h4 b hb hb' => by rw [hs.eq h1 h4 hb hb']; exact Nat.le_refl _⟩
  · simp at h1
  · simp at h1
theorem Wr.next {w : World} {n : Nat} (h : Wr T size mk rs w n (rl rs n)) : Wr T size mk rs w (n + 1) 0 := by
  intro m hm
  obtain ⟨xs, hx, h1, h2⟩ := h m hm
  refine ⟨xs, hx, fun h3 => ?_, fun _ => by simp [marks]⟩
  by_cases e : m < n
  · exact h1 e
  · obtain rfl : m = n := by omega
    rw [← h2 rfl, List.take_of_length_le (by rw [hx.1]; exact Nat.le_refl _)]
/-- A mark is written. -/
theorem Wr.step (hs : Sep rs) {w w' : World} {n i : Nat} (h : Wr T size mk rs w n i) (hn : n < rs.length) (hg : w.grownBy w' (rv rs n).ownBlock) (ho : ∀ xs, w.ownsRow 0 T size (rv rs n) (rl rs n) xs → xs.take (i * size) = marks mk n i → ∃ ys, w'.ownsRow 0 T size (rv rs n) (rl rs n) ys ∧ ys.take ((i + 1) * size) = marks mk n (i + 1)) : Wr T size mk rs w' n (i + 1) := by
  intro m hm
  obtain ⟨xs, hx, h1, h2⟩ := h m hm
  by_cases e : m = n
  · subst e
    obtain ⟨ys, hy, h3⟩ := ho xs hx (h2 rfl)
    exact ⟨ys, hy, fun h4 => absurd h4 (by omega), fun _ => h3⟩
  · refine ⟨xs, own_apart hx hg fun b hb e2 => e (hs.eq hm hn hb e2), h1, fun h4 => absurd h4 e⟩
end














end Go.Proofs.YtokhclindfipbaaGreatDoor
