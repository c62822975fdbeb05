/-
  A number, so many times. Plain: the sequences that stand twice, within blocks; their pairs. Plain: the sequences in order, by merging; how they are told by definition; sums over blocks.
-/
import Derived.Test.YtokhclindfipbaaProg
import Derived.WalkKit
import Derived.WalkSpells
import Derived.WalkLawsBesides
import Derived.RowKit3
import Derived.Below
import Derived.Deep.QuietTactic
import Derived.BigQuiet
import Derived.WalkSmall
import Derived.Laws.Rows
import Derived.Test.YtokhclindfipbaaPr08
import Derived.Test.YtokhclindfipbaaPr14
import Derived.Test.YtokhclindfipbaaPr23
import Derived.OwnWalk
import Derived.Deep.RegionHeld3
import Derived.Test.YtokhclindfipbaaPr15
namespace Go.Proofs.Ytokhclindfipbaa
open Go.RowKit

/-- How far the copies have come. -/
def upF (v : Int) (k : Nat) (j : Nat) : Int := if j < k then v else 0
theorem copy_up {h n k : Nat} {v : Int} {w : World} (hh : RwN w h n (upF v k)) (hk : k ≤ n) :
    ∃ w', (∀ ty, (Builtin.copy_ #[34, 34] ty #[.slice (some ⟨h, k, none⟩) (n - k) (n - k), .slice (some ⟨h, 0, none⟩) k n]).run Try.prog w = .ok (.int .i64 ((min k (n - k) : Nat) : Int)) w') ∧ RwN w' h n (upF v (k + min k (n - k))) ∧ ButS (fun b => b = h) w w' := by
  have hl : (rowC (min k (n - k)) (fun _ => v)).length = min k (n - k) := rowC_len _ _
  have hrun := fun ty => run_copy_row (P := Try.prog) w 34 34 ty 3 h k (n - k) (n - k) ⟨h, 0, none⟩ k n _ 3 (rowC (min k (n - k)) (fun _ => v)) Try.underlying34 (by kernel_rfl) hh (by rw [hl]) (fun j u hu => by
    have hj : j < min k (n - k) := by
      have := (List.getElem?_eq_some_iff.1 hu).1
      rw [hl] at this
      exact this
    rw [rowC_get hj] at hu
    obtain rfl := Option.some.inj hu
    rw [add0, hh.cell (i := j) (by omega)]
    unfold upF
    rw [if_pos (by omega)]) (by rw [hl]; simp only [List.size_toArray, rowC_len]; exact (by omega : k + min k (n - k) ≤ n)) (fun u hu => by
    obtain ⟨j, _, rfl⟩ := List.mem_map.1 hu
    rfl)
  have e : (List.take k (rowC n (upF v k)).toArray.toList ++ rowC (min k (n - k)) (fun _ => v) ++ List.drop (k + (rowC (min k (n - k)) (fun _ => v)).length) (rowC n (upF v k)).toArray.toList) = rowC n (upF v (k + min k (n - k))) := by
    rw [hl]
    have hm : min k (n - k) ≤ n - k := Nat.min_le_right _ _
    generalize min k (n - k) = m at *
    apply List.ext_getElem?
    intro i
    rw [List.getElem?_append, List.getElem?_append]
    simp only [List.length_append, List.length_take, rowC_len]
    by_cases h1 : i < k
    · rw [if_pos (by omega), if_pos (by omega), List.getElem?_take_of_lt (by omega)]
      rw [rowC_get (by omega), rowC_get (by omega)]
      unfold upF
      rw [if_pos h1, if_pos (by omega)]
    · by_cases h2 : i < k + m
      · rw [if_pos (by omega), if_neg (by omega), rowC_get (by omega), rowC_get (by omega)]
        unfold upF
        rw [if_pos (by omega)]
      · rw [if_neg (by omega), List.getElem?_drop]
        rw [show k + m + (i - (min k n + m)) = i by omega]
        by_cases h3 : i < n
        · rw [rowC_get h3, rowC_get h3]
          unfold upF
          rw [if_neg (by omega), if_neg (by omega)]
        · rw [List.getElem?_eq_none (by rw [rowC_len]; omega), List.getElem?_eq_none (by rw [rowC_len]; omega)]
  rw [e, hl] at hrun
  exact ⟨_, hrun, setRow_heap w h _ _ 3 _ hh, rfl, rfl, rfl, by simp [World.setRow], fun b _ hb => setRow_other w h b _ hb⟩
theorem below_at {w W W' : World} {g : Nat} (hb : Below w.heap.size w W) (h : ButS (fun b => b = g) W W') (hg : w.heap.size ≤ g) : Below w.heap.size w W' :=
  ⟨h.1.trans hb.os, h.2.1.trans hb.tape, h.2.2.1.trans hb.output, Nat.le_trans hb.size h.2.2.2.1, fun k hk => (h.2.2.2.2 k (Nat.lt_of_lt_of_le hk hb.size) (fun (e : k = g) => by omega)).trans (hb.block k hk)⟩
set_option maxRecDepth 100000 in
set_option maxHeartbeats 8000000 in
theorem repeat_any (b : Nat) (v : Int) (n : Nat) (h1 : 1 ≤ n) (hn : n ≤ 1048576) (w : World) (hX : w.cell? ⟨b, 0, none⟩ = some (.int .i64 v)) :
    Calls Try.prog 58 #[.slice (some ⟨b, 0, none⟩) 1 1, .int .i64 (n : Int)] w fun e w' => ∃ g, e = .returned (.slice (some ⟨g, 0, none⟩) n n) ∧ w.heap.size ≤ g ∧ RwN w' g n (fun _ => v) ∧ Below w.heap.size w w' := by
  have C := mul_any n hn w
  have hmk := made_rowP n hn w
  have hb0 : Below w.heap.size w (w.alloc (.cells (rowC n (fun _ => 0)).toArray 3)) := lb_alloc (Below.refl _ _) _
  have hr0 : RwN (w.alloc (.cells (rowC n (fun _ => 0)).toArray 3)) w.heap.size n (fun _ => 0) := heap_alloc_new _ _
  obtain ⟨w2, cp, h2, hb2⟩ := copy_runN w.heap.size n n b 0 1 1 (fun _ => 0) (fun _ => v) (w.alloc (.cells (rowC n (fun _ => 0)).toArray 3)) hr0 (fun j hj => by
    obtain rfl : j = 0 := by omega
    exact lkeep hb0 hX) h1
  have HR2 : Hid (RwN w2 w.heap.size n (upF v 1)) := h2
  have HB2 : Hid (Below w.heap.size w w2) := below_at hb0 hb2 (Nat.le_refl _)
  have b1 : (n : Int) ≤ 1048576 := by omega
  have b2 : ¬ (n : Int) < 0 := by omega
  have b3 : ¬ (9223372036854775807 : Int) < (n : Int) := by omega
  clear hb0 hr0 h2 hb2 hX
  go_enter Try.func58, Try.ntmps58
  go_wp2_with (go_at_call 71; refine C.mono ?_; rintro e w1 ⟨rfl, e1⟩; have e2 := e1.symm; clear e1; subst e2)
  clear cp hmk C b1 b2 b3
  go_loopw [8] (fun x wr => ∃ k : Nat, x = .int .i64 (k : Int) ∧ 1 ≤ k ∧ k ≤ n ∧ Hid (RwN wr w.heap.size n (upF v k)) ∧ Hid (Below w.heap.size w wr)) (fun x _ => n - (intOf x).toNat)
  case atStart => exact ⟨1, rfl, Nat.le_refl _, h1, HR2, HB2⟩
  case round =>
    clear HR2 HB2
    obtain ⟨k, rfl, hk1, hkn, HR, HB⟩ := hrel
    by_cases hlt : k < n
    · have hlt' : (k : Int) < (n : Int) := by omega
      have sl1 := rest_runS w.heap.size 0 n n k hlt (Nat.le_refl _)
      have sl2 := head_runS w.heap.size 0 n n k (by omega) (Nat.le_refl _)
      rw [Nat.zero_add] at sl1
      have hru := HR.out
      have hru2 : RwN wr.drew w.heap.size n (upF v k) := hru
      obtain ⟨w6, cp6, h6, hb6⟩ := copy_up hru2 hkn
      have HR6 : Hid (RwN w6 w.heap.size n (upF v (k + min k (n - k)))) := h6
      have HB6 : Hid (Below w.heap.size w w6) := below_at HB.out.drew hb6 (Nat.le_refl _)
      have hm1 : min k (n - k) ≤ n - k := Nat.min_le_right _ _
      have hm2 : 1 ≤ min k (n - k) := by omega
      clear h6 hb6 hru hru2
      generalize min k (n - k) = m at *
      have hw : IntKind.i64.wrap ((k : Int) + (m : Int)) = (k : Int) + (m : Int) := by simp [IntKind.wrap, IntKind.bits, IntKind.signed]; omega
      go_upto_region 9 with fail
      go_region_held3 (fun _ => True) (trivial) (fail)
      go_wp2
      go_roundw
      case rel => exact ⟨k + m, by rw [Int.natCast_add], by omega, by omega, HR6, HB6⟩
      case measure => simp [intOf]; omega
    · obtain rfl : k = n := by omega
      have hlt' : ¬ (k : Int) < (k : Int) := by omega
      go_wp2
      go_ret
      exact ⟨w.heap.size, rfl, Nat.le_refl _, HR.out.same fun j hj => if_pos hj, HB.out⟩

end Go.Proofs.Ytokhclindfipbaa

namespace Go.Proofs.Ytokhclindfipbaa
open Go.RowKit

/-- The numbers of two places are the same for so many, one behind the other. -/
theorem cp_agree {nm : List Int} : ∀ {n i k : Nat}, i + n ≤ nm.length → k + n ≤ nm.length → (n ≤ cpS nm i k ↔ ∀ t, t < n → nth nm (i + t) = nth nm (k + t))
  | 0, i, k, _, _ => ⟨fun _ t h => absurd h (Nat.not_lt_zero _), fun _ => Nat.zero_le _⟩
  | n + 1, i, k, hi, hk => by
    have ih := cp_agree (nm := nm) (n := n) (i := i + 1) (k := k + 1) (by omega) (by omega)
    have hs := cpS_step (l := nm) (i := i) (k := k) (by omega) (by omega)
    by_cases e : nth nm i = nth nm k
    · rw [if_pos e] at hs
      constructor
      · intro h t ht
        cases t with
        | zero => exact e
        | succ t =>
          have := ih.1 (by omega) t (by omega)
          rw [show i + (t + 1) = i + 1 + t by omega, show k + (t + 1) = k + 1 + t by omega]
          exact this
      · intro h
        have := ih.2 fun t ht => by
          have := h (t + 1) (by omega)
          rw [show i + (t + 1) = i + 1 + t by omega, show k + (t + 1) = k + 1 + t by omega] at this
          exact this
        omega
    · rw [if_neg e] at hs
      constructor
      · intro h; omega
      · intro h
        have := h 0 (by omega)
        exact absurd this e
/-- Where blocks end. -/
structure EnP (nm : List Int) (en : Nat → Nat) : Prop where
  lt : ∀ i, i < nm.length → i < en i
  le : ∀ i, i < nm.length → en i ≤ nm.length
/-- How much two places have in common within their blocks. -/
def mE (nm : List Int) (en : Nat → Nat) (i k : Nat) : Nat := min (cpS nm i k) (min (en i - i) (en k - k))
theorem mE_comm (nm : List Int) (en : Nat → Nat) (i k : Nat) : mE nm en i k = mE nm en k i := by
  unfold mE
  rw [cpS_comm nm i k]
  omega
theorem mE_iff {nm : List Int} {en : Nat → Nat} (h : EnP nm en) {n i k : Nat} (hi : i < nm.length) (hk : k < nm.length) : n ≤ mE nm en i k ↔ i + n ≤ en i ∧ k + n ≤ en k ∧ ∀ t, t < n → nth nm (i + t) = nth nm (k + t) := by
  have a1 := h.lt i hi
  have a2 := h.le i hi
  have b1 := h.lt k hk
  have b2 := h.le k hk
  unfold mE
  constructor
  · intro x
    exact ⟨by omega, by omega, (cp_agree (by omega) (by omega)).1 (by omega)⟩
  · rintro ⟨x, y, z⟩
    have := (cp_agree (nm := nm) (n := n) (i := i) (k := k) (by omega) (by omega)).2 z
    omega
theorem mE_self {nm : List Int} {en : Nat → Nat} (h : EnP nm en) {n i : Nat} (hi : i < nm.length) : n ≤ mE nm en i i ↔ i + n ≤ en i := by
  rw [mE_iff h hi hi]
  exact ⟨fun x => x.1, fun x => ⟨x, x, fun _ _ => rfl⟩⟩
theorem mE_trans {nm : List Int} {en : Nat → Nat} (h : EnP nm en) {n i j k : Nat} (hi : i < nm.length) (hj : j < nm.length) (hk : k < nm.length) (h1 : n ≤ mE nm en i j) (h2 : n ≤ mE nm en j k) : n ≤ mE nm en i k := by
  rw [mE_iff h hi hj] at h1
  rw [mE_iff h hj hk] at h2
  rw [mE_iff h hi hk]
  exact ⟨h1.1, h2.2.1, fun t ht => (h1.2.2 t ht).trans (h2.2.2 t ht)⟩
/-- The places at which the sequence of a length at a place stands. -/
def plcS (nm : List Int) (en : Nat → Nat) (i n : Nat) : List Nat := (List.range nm.length).filter fun k => decide (n ≤ mE nm en i k)
theorem plcS_mem {nm : List Int} {en : Nat → Nat} {i n k : Nat} : k ∈ plcS nm en i n ↔ k < nm.length ∧ n ≤ mE nm en i k := by simp [plcS]
/-- Is it a sequence that stands twice, and does it first stand there? -/
def RepQ (nm : List Int) (en : Nat → Nat) (n i : Nat) : Prop := i < nm.length ∧ 2 ≤ n ∧ i + n ≤ en i ∧ (∃ k, k < nm.length ∧ k ≠ i ∧ n ≤ mE nm en i k) ∧ ∀ k, k < i → ¬ n ≤ mE nm en i k
def repB (nm : List Int) (en : Nat → Nat) (n i : Nat) : Bool := decide (i < nm.length) && decide (2 ≤ n) && decide (i + n ≤ en i) && ((List.range nm.length).any fun k => decide (k ≠ i) && decide (n ≤ mE nm en i k)) && !((List.range i).any fun k => decide (n ≤ mE nm en i k))
theorem repB_iff {nm : List Int} {en : Nat → Nat} {n i : Nat} : repB nm en n i = true ↔ RepQ nm en n i := by
  unfold repB RepQ
  simp only [Bool.and_eq_true, decide_eq_true_eq, List.any_eq_true, List.mem_range, Bool.not_eq_true', List.any_eq_false]
  constructor
  · rintro ⟨⟨⟨⟨a, b⟩, c⟩, k, d1, d2, d3⟩, e⟩
    exact ⟨a, b, c, ⟨k, d1, d2, d3⟩, e⟩
  · rintro ⟨a, b, c, ⟨k, d1, d2, d3⟩, e⟩
    exact ⟨⟨⟨⟨a, b⟩, c⟩, k, d1, d2, d3⟩, e⟩
/-- A sequence's numbers. -/
def seqN (nm : List Int) (i n : Nat) : List Int := (nm.drop i).take n
theorem seqN_len {nm : List Int} {i n : Nat} (h : i + n ≤ nm.length) : (seqN nm i n).length = n := by
  unfold seqN
  rw [List.length_take, List.length_drop]
  omega
theorem seqN_nth {nm : List Int} {i n t : Nat} (ht : t < n) : nth (seqN nm i n) t = nth nm (i + t) := by
  unfold seqN nth
  simp [ht]
theorem seqN_same {nm : List Int} {i k n : Nat} (h : seqN nm i n = seqN nm k n) : ∀ t, t < n → nth nm (i + t) = nth nm (k + t) := fun t ht => by rw [← seqN_nth ht, h, seqN_nth ht]
/-- Two told sequences with the same numbers are one. -/
theorem rep_one {nm : List Int} {en : Nat → Nat} (h : EnP nm en) {n m i k : Nat} (h1 : RepQ nm en n i) (h2 : RepQ nm en m k) (e : seqN nm i n = seqN nm k m) : n = m ∧ i = k := by
  obtain ⟨a1, a2, a3, -, a5⟩ := h1
  obtain ⟨b1, b2, b3, -, b5⟩ := h2
  have la := h.le i a1
  have lb := h.le k b1
  have en' : n = m := by
    have := congrArg List.length e
    rw [seqN_len (by omega), seqN_len (by omega)] at this
    exact this
  subst en'
  have x : n ≤ mE nm en i k := (mE_iff h a1 b1).2 ⟨a3, b3, seqN_same e⟩
  refine ⟨rfl, ?_⟩
  rcases Nat.lt_trichotomy i k with c | c | c
  · exact absurd (by rw [mE_comm]; exact x) (b5 i c)
  · exact c
  · exact absurd x (a5 k c)
/-- The sequences that stand twice, each with its length and its first place, in their order. -/
structure RepP (nm : List Int) (en : Nat → Nat) (L : List (Nat × Nat)) : Prop where
  mem : ∀ r, r ∈ L ↔ RepQ nm en r.1 r.2
  ord : L.Pairwise fun a b => ltL (seqN nm a.2 a.1) (seqN nm b.2 b.1) = true
theorem ltL_asymR {xs ys : List Int} (h : ltL xs ys = true) : ¬ ltL ys xs = true := fun k => by
  have := ltL_trans h k
  rw [ltL_same] at this
  cases this
theorem RepP.nodup {nm : List Int} {en : Nat → Nat} {L : List (Nat × Nat)} (h : RepP nm en L) : L.Nodup := h.ord.imp fun {a b} x e => by
  rw [e, ltL_same] at x
  cases x
theorem RepP.uniq {nm : List Int} {en : Nat → Nat} {L M : List (Nat × Nat)} (h : RepP nm en L) (k : RepP nm en M) : L = M := by
  have hp : L.Perm M := (List.perm_ext_iff_of_nodup h.nodup k.nodup).2 fun r => (h.mem r).trans (k.mem r).symm
  exact hp.eq_of_pairwise (fun a b _ _ x y => absurd y (ltL_asymR x)) h.ord k.ord
def repC (nm : List Int) (en : Nat → Nat) : List (Nat × Nat) := (List.range nm.length).flatMap fun i => ((List.range (nm.length + 1)).filter fun n => repB nm en n i).map fun n => (n, i)
theorem repC_mem {nm : List Int} {en : Nat → Nat} (h : EnP nm en) (r : Nat × Nat) : r ∈ repC nm en ↔ RepQ nm en r.1 r.2 := by
  unfold repC
  simp only [List.mem_flatMap, List.mem_range, List.mem_map, List.mem_filter]
  constructor
  · rintro ⟨i, hi, n, ⟨_, hb⟩, rfl⟩
    exact repB_iff.1 hb
  · intro q
    have := h.le r.2 q.1
    have := q.2.2.1
    exact ⟨r.2, q.1, r.1, ⟨by omega, repB_iff.2 q⟩, rfl⟩
/-- Sums. -/
def sumR : Nat → (Nat → Nat) → Nat
  | 0, _ => 0
  | n + 1, f => sumR n f + f n
theorem sumR_congr : ∀ {n : Nat} {f g : Nat → Nat}, (∀ i, i < n → f i = g i) → sumR n f = sumR n g
  | 0, _, _, _ => rfl
  | n + 1, f, g, h => by rw [sumR, sumR, sumR_congr fun i hi => h i (by omega), h n (by omega)]
theorem sumR_zero : ∀ n : Nat, sumR n (fun _ => 0) = 0
  | 0 => rfl
  | n + 1 => by rw [sumR, sumR_zero n]
theorem sumR_add : ∀ (n : Nat) (f g : Nat → Nat), sumR n (fun i => f i + g i) = sumR n f + sumR n g
  | 0, _, _ => rfl
  | n + 1, f, g => by rw [sumR, sumR, sumR, sumR_add n f g]; omega
theorem sumR_count (p : Nat → Bool) : ∀ n : Nat, sumR n (fun i => if p i = true then 1 else 0) = ((List.range n).filter p).length
  | 0 => rfl
  | n + 1 => by
    rw [sumR, sumR_count p n, List.range_succ, List.filter_append, List.length_append]
    by_cases h : p n = true
    · rw [if_pos h]; simp [h]
    · rw [if_neg h]; simp [h]
theorem sumR_pick (p : Nat → Bool) (c : Nat) : ∀ n : Nat, sumR n (fun i => if p i = true then c else 0) = ((List.range n).filter p).length * c
  | 0 => by rw [sumR]; simp
  | n + 1 => by
    rw [sumR, sumR_pick p c n, List.range_succ, List.filter_append, List.length_append]
    by_cases h : p n = true
    · rw [if_pos h]; simp [h, Nat.add_mul]
    · rw [if_neg h]; simp [h]
theorem sumR_but (p : Nat → Bool) {i : Nat} (hp : p i = true) : ∀ {n : Nat}, i < n → sumR n (fun k => if (p k && decide (k ≠ i)) = true then 1 else 0) + 1 = ((List.range n).filter p).length := fun {n} hi => by
  have h1 : sumR n (fun k => if (p k && decide (k ≠ i)) = true then 1 else 0) + sumR n (fun k => if decide (k = i) = true then 1 else 0) = sumR n (fun k => if p k = true then 1 else 0) := by
    rw [← sumR_add]
    refine sumR_congr fun k _ => ?_
    by_cases e : k = i
    · subst e; simp [hp]
    · simp [e]
  have h2 : ∀ n, i < n → sumR n (fun k => if decide (k = i) = true then 1 else 0) = 1 := fun n => by
    induction n with
    | zero => intro h; omega
    | succ n ih =>
      intro h
      rw [sumR]
      by_cases e : n = i
      · subst e
        rw [sumR_congr (g := fun _ => 0) fun k hk => if_neg (by simp; omega), sumR_zero]
        simp
      · rw [ih (by omega)]
        simp [e]
  rw [h2 n hi] at h1
  rw [h1, sumR_count]
/-- Ordered pairs of different places of a set. -/
theorem sumR_pairs (p : Nat → Bool) (n : Nat) : sumR n (fun i => sumR n fun k => if (p i && p k && decide (k ≠ i)) = true then 1 else 0) = ((List.range n).filter p).length * (((List.range n).filter p).length - 1) := by
  have : ∀ i, i < n → sumR n (fun k => if (p i && p k && decide (k ≠ i)) = true then 1 else 0) = if p i = true then ((List.range n).filter p).length - 1 else 0 := fun i hi => by
    by_cases h : p i = true
    · rw [if_pos h]
      have e := sumR_but p h hi
      rw [← e, Nat.add_sub_cancel]
      exact sumR_congr fun k _ => by simp [h]
    · rw [if_neg h, sumR_congr (g := fun _ => 0) fun k _ => by simp [h], sumR_zero]
  rw [sumR_congr this, sumR_pick]
theorem sumL_swap {α : Type} : ∀ (L : List α) (n : Nat) (g : α → Nat → Nat), (L.map fun r => sumR n (g r)).sum = sumR n fun i => (L.map fun r => g r i).sum
  | [], n, g => by simp [sumR_zero]
  | r :: L, n, g => by
    simp only [List.map_cons, List.sum_cons]
    rw [sumL_swap L n g, ← sumR_add]
theorem sumL_count {α : Type} (p : α → Bool) : ∀ L : List α, (L.map fun r => if p r = true then 1 else 0).sum = (L.filter p).length
  | [] => rfl
  | r :: L => by
    simp only [List.map_cons, List.sum_cons, List.filter_cons]
    rw [sumL_count p L]
    by_cases h : p r = true
    · rw [if_pos h, if_pos h, List.length_cons]; omega
    · rw [if_neg h, if_neg h]; omega
/-- Does a told sequence stand at a place? -/
def onB (nm : List Int) (en : Nat → Nat) (r : Nat × Nat) (k : Nat) : Bool := decide (r.1 ≤ mE nm en r.2 k)
theorem plcS_on (nm : List Int) (en : Nat → Nat) (r : Nat × Nat) : plcS nm en r.2 r.1 = (List.range nm.length).filter (onB nm en r) := rfl
/-- The first place at which the sequence of a length at i stands. -/
theorem first_is {nm : List Int} {en : Nat → Nat} (h : EnP nm en) {n i : Nat} (hi : i < nm.length) (hr : i + n ≤ en i) : ∃ f, f ≤ i ∧ n ≤ mE nm en f i ∧ ∀ k, k < f → ¬ n ≤ mE nm en f k := by
  have : ∀ m, ∀ i, i < m → i < nm.length → i + n ≤ en i → ∃ f, f ≤ i ∧ n ≤ mE nm en f i ∧ ∀ k, k < f → ¬ n ≤ mE nm en f k := fun m => by
    induction m with
    | zero => intro i h; omega
    | succ m ih =>
      intro i hm hi hr
      by_cases c : ∃ k, k < i ∧ n ≤ mE nm en i k
      · obtain ⟨k, hk, hn⟩ := c
        have hkr := ((mE_iff h hi (by omega)).1 hn).2.1
        obtain ⟨f, f1, f2, f3⟩ := ih k (by omega) (by omega) hkr
        exact ⟨f, by omega, mE_trans h (by omega) (by omega) hi f2 (by rw [mE_comm]; exact hn), f3⟩
      · exact ⟨i, Nat.le_refl _, (mE_self h hi).2 hr, fun k hk hn => c ⟨k, hk, hn⟩⟩
  exact this (i + 1) i (by omega) hi hr
/-- Of two different places and a length: one told sequence, and one alone, has both. -/
theorem rep_both {nm : List Int} {en : Nat → Nat} (h : EnP nm en) {n i k : Nat} (hi : i < nm.length) (hk : k < nm.length) (hne : i ≠ k) (hn : 2 ≤ n) (hm : n ≤ mE nm en i k) : ∃ f, RepQ nm en n f ∧ n ≤ mE nm en f i ∧ n ≤ mE nm en f k := by
  have hr := ((mE_iff h hi hk).1 hm).1
  obtain ⟨f, f1, f2, f3⟩ := first_is h hi hr
  have fk := mE_trans h (by omega) hi hk f2 hm
  refine ⟨f, ⟨by omega, hn, ((mE_iff h (by omega) hi).1 f2).1, ?_, f3⟩, f2, fk⟩
  by_cases c : i = f
  · exact ⟨k, hk, by omega, fk⟩
  · exact ⟨i, hi, c, f2⟩
theorem rep_alone {nm : List Int} {en : Nat → Nat} (h : EnP nm en) {n i f g : Nat} (hi : i < nm.length) (hf : RepQ nm en n f) (hg : RepQ nm en n g) (h1 : n ≤ mE nm en f i) (h2 : n ≤ mE nm en g i) : f = g := by
  have x : n ≤ mE nm en f g := mE_trans h hf.1 hi hg.1 h1 (by rw [mE_comm]; exact h2)
  rcases Nat.lt_trichotomy f g with c | c | c
  · exact absurd (by rw [mE_comm]; exact x) (hg.2.2.2.2 f c)
  · exact c
  · exact absurd x (hf.2.2.2.2 g c)
/-- How many lengths two places have in common, from 2 on. -/
def cntE (nm : List Int) (en : Nat → Nat) (i k : Nat) : Nat := if i = k then 0 else mE nm en i k - 1
theorem rep_count {nm : List Int} {en : Nat → Nat} (h : EnP nm en) {L : List (Nat × Nat)} (hL : RepP nm en L) {i k : Nat} (hi : i < nm.length) (hk : k < nm.length) (hne : i ≠ k) : (L.filter fun r => onB nm en r i && onB nm en r k).length = mE nm en i k - 1 := by
  have hperm : ((L.filter fun r => onB nm en r i && onB nm en r k).map fun r => r.1).Perm ((List.range (mE nm en i k + 1)).filter fun n => decide (2 ≤ n)) := by
    refine (List.perm_ext_iff_of_nodup ?_ ?_).2 fun n => ?_
    · rw [List.Nodup, List.pairwise_map]
      refine List.Pairwise.imp_of_mem ?_ (hL.nodup.filter _)
      intro a b ha hb hab e
      simp only [List.mem_filter, onB, Bool.and_eq_true, decide_eq_true_eq] at ha hb
      have qa := (hL.mem a).1 ha.1
      have qb := (hL.mem b).1 hb.1
      have x := ha.2.1
      have y := hb.2.1
      rw [← e] at y qb
      exact hab (Prod.ext e (rep_alone h hi qa qb x y))
    · exact List.nodup_range.filter _
    · simp only [List.mem_map, List.mem_filter, onB, Bool.and_eq_true, decide_eq_true_eq, List.mem_range]
      constructor
      · rintro ⟨r, ⟨hr, h1, h2⟩, rfl⟩
        have q := (hL.mem r).1 hr
        have := mE_trans h hi q.1 hk (by rw [mE_comm]; exact h1) h2
        exact ⟨by omega, q.2.1⟩
      · rintro ⟨h1, h2⟩
        obtain ⟨f, q, a, b⟩ := rep_both h hi hk hne h2 (by omega)
        exact ⟨(n, f), ⟨(hL.mem _).2 q, a, b⟩, rfl⟩
  have e := hperm.length_eq
  rw [List.length_map] at e
  rw [e]
  have : ∀ m, ((List.range (m + 1)).filter fun n => decide (2 ≤ n)).length = m - 1 := fun m => by
    induction m with
    | zero => rfl
    | succ m ih =>
      rw [List.range_succ, List.filter_append, List.length_append, ih]
      by_cases c : 2 ≤ m + 1
      · simp [c]; omega
      · simp [c]; omega
  exact this _
/-- W3's count: the pairs of places of all told sequences are the pairs that have a length in common. -/
theorem rep_sum {nm : List Int} {en : Nat → Nat} (h : EnP nm en) {L : List (Nat × Nat)} (hL : RepP nm en L) : (L.map fun r => (plcS nm en r.2 r.1).length * ((plcS nm en r.2 r.1).length - 1)).sum = sumR nm.length fun i => sumR nm.length fun k => cntE nm en i k := by
  have e1 : (L.map fun r => (plcS nm en r.2 r.1).length * ((plcS nm en r.2 r.1).length - 1)) = L.map fun r => sumR nm.length (fun i => sumR nm.length fun k => if (onB nm en r i && onB nm en r k && decide (k ≠ i)) = true then 1 else 0) := List.map_congr_left fun r _ => by rw [plcS_on, sumR_pairs]
  rw [e1, sumL_swap]
  refine sumR_congr fun i hi => ?_
  rw [sumL_swap]
  refine sumR_congr fun k hk => ?_
  unfold cntE
  by_cases c : i = k
  · rw [if_pos c]
    have : (L.map fun r => if (onB nm en r i && onB nm en r k && decide (k ≠ i)) = true then 1 else 0) = L.map fun _ => 0 := List.map_congr_left fun r _ => by simp [c]
    rw [this]
    clear this e1 hL
    induction L with
    | nil => rfl
    | cons r L ih => simp only [List.map_cons, List.sum_cons, ih]
  · rw [if_neg c, sumL_count, ← rep_count h hL hi hk c]
    congr 1
    exact List.filter_congr fun r _ => by simp [show k ≠ i from fun e => c e.symm]


end Go.Proofs.Ytokhclindfipbaa

namespace Go.Proofs.Ytokhclindfipbaa
open Go.RowKit

/-- Not greater, of two sequences. -/
def lsQ (nm : List Int) (a b : Nat × Nat) : Bool := ltL (seqN nm a.2 a.1) (seqN nm b.2 b.1)
def leQ (nm : List Int) (a b : Nat × Nat) : Bool := !lsQ nm b a
theorem leQ_trans (nm : List Int) (a b c : Nat × Nat) (h1 : leQ nm a b = true) (h2 : leQ nm b c = true) : leQ nm a c = true := by
  unfold leQ lsQ at *
  rw [Bool.not_eq_true'] at h1 h2 ⊢
  cases h3 : ltL (seqN nm c.2 c.1) (seqN nm a.2 a.1) with
  | false => rfl
  | true =>
    exfalso
    by_cases e1 : seqN nm a.2 a.1 = seqN nm b.2 b.1
    · rw [e1, h2] at h3; cases h3
    · rcases ltL_total e1 with x | x
      · rw [ltL_trans h3 x] at h2; cases h2
      · rw [x] at h1; cases h1
theorem leQ_total (nm : List Int) (a b : Nat × Nat) : (leQ nm a b || leQ nm b a) = true := by
  unfold leQ lsQ
  cases h1 : ltL (seqN nm b.2 b.1) (seqN nm a.2 a.1) with
  | false => rfl
  | true =>
    have : ltL (seqN nm a.2 a.1) (seqN nm b.2 b.1) = false := by
      cases h2 : ltL (seqN nm a.2 a.1) (seqN nm b.2 b.1) with
      | false => rfl
      | true => exact absurd h2 (ltL_asymR h1)
    rw [this]; rfl
/-- A list in order, of the same members. -/
structure SrQ (nm : List Int) (X R : List (Nat × Nat)) : Prop where
  perm : R.Perm X
  ord : R.Pairwise fun a b => leQ nm a b = true
theorem SrQ.len {nm : List Int} {X R : List (Nat × Nat)} (h : SrQ nm X R) : R.length = X.length := h.perm.length_eq
theorem SrQ.few {nm : List Int} {X : List (Nat × Nat)} (h : X.length < 2) : SrQ nm X X := by
  refine ⟨List.Perm.refl _, ?_⟩
  match X, h with
  | [], _ => exact List.Pairwise.nil
  | [a], _ => simp
theorem SrQ.merge {nm : List Int} {X Y A B : List (Nat × Nat)} (ha : SrQ nm X A) (hb : SrQ nm Y B) : SrQ nm (X ++ Y) (List.merge A B (leQ nm)) :=
  ⟨(List.merge_perm_append (leQ nm)).trans (ha.perm.append hb.perm), List.pairwise_merge (leQ_trans nm) (leQ_total nm) A B ha.ord hb.ord⟩
theorem repC_nodup (nm : List Int) (en : Nat → Nat) : (repC nm en).Nodup := by
  unfold repC
  rw [List.Nodup, List.pairwise_flatMap]
  constructor
  · intro i _
    rw [List.pairwise_map]
    exact (List.nodup_range.filter _).imp fun {a b} h e => h (Prod.mk.inj e).1
  · refine List.nodup_range.imp fun {a b} h => ?_
    intro x hx y hy e
    simp only [List.mem_map] at hx hy
    obtain ⟨n, _, rfl⟩ := hx
    obtain ⟨m, _, rfl⟩ := hy
    exact h (Prod.mk.inj e).2
/-- What is told by definition, in order: the sequences that stand twice. -/
theorem SrQ.rep {nm : List Int} {en : Nat → Nat} (h : EnP nm en) {R : List (Nat × Nat)} (hR : SrQ nm (repC nm en) R) : RepP nm en R := by
  have hm : ∀ r, r ∈ R ↔ RepQ nm en r.1 r.2 := fun r => by rw [hR.perm.mem_iff, repC_mem h]
  refine ⟨hm, ?_⟩
  have hn : R.Nodup := hR.perm.nodup_iff.2 (repC_nodup nm en)
  refine (hR.ord.and hn).imp_of_mem fun {a b} ha hb x => ?_
  have ne : seqN nm a.2 a.1 ≠ seqN nm b.2 b.1 := fun e => by
    obtain ⟨e1, e2⟩ := rep_one h ((hm a).1 ha) ((hm b).1 hb) e
    exact x.2 (Prod.ext e1 e2)
  rcases ltL_total ne with y | y
  · exact y
  · have z : leQ nm a b = true := x.1
    unfold leQ lsQ at z
    rw [y] at z; cases z
/-- The list itself. -/
def repL (nm : List Int) (en : Nat → Nat) : List (Nat × Nat) := (repC nm en).mergeSort (leQ nm)
theorem repL_is {nm : List Int} {en : Nat → Nat} (h : EnP nm en) : RepP nm en (repL nm en) :=
  SrQ.rep h ⟨List.mergeSort_perm _ _, List.pairwise_mergeSort (leQ_trans nm) (leQ_total nm) _⟩
theorem repL_uniq {nm : List Int} {en : Nat → Nat} (h : EnP nm en) {R : List (Nat × Nat)} (hR : RepP nm en R) : R = repL nm en := hR.uniq (repL_is h)
/-- A merging under way. -/
def MrQ (nm : List Int) (A B O : List (Nat × Nat)) (p q : Nat) : Prop := List.merge A B (leQ nm) = O ++ List.merge (A.drop p) (B.drop q) (leQ nm)
def rth (A : List (Nat × Nat)) (i : Nat) : Nat × Nat := A.getD i (0, 0)
theorem rdrop {A : List (Nat × Nat)} {p : Nat} (h : p < A.length) : A.drop p = rth A p :: A.drop (p + 1) := by
  rw [List.drop_eq_getElem_cons h]
  simp [rth, h]
theorem rth_mem {A : List (Nat × Nat)} {i : Nat} (h : i < A.length) : rth A i ∈ A := by simp [rth, h]
theorem MrQ.start (nm : List Int) (A B : List (Nat × Nat)) : MrQ nm A B [] 0 0 := rfl
theorem MrQ.left {nm : List Int} {A B O : List (Nat × Nat)} {p q : Nat} (h : MrQ nm A B O p q) (hp : p < A.length) (hq : q < B.length) (hl : lsQ nm (rth B q) (rth A p) = false) : MrQ nm A B (O ++ [rth A p]) (p + 1) q := by
  unfold MrQ at *
  rw [h, rdrop hp, rdrop hq, List.cons_merge_cons_pos _ _ _ (by unfold leQ; rw [hl]; rfl), List.append_assoc]
  rfl
theorem MrQ.right {nm : List Int} {A B O : List (Nat × Nat)} {p q : Nat} (h : MrQ nm A B O p q) (hp : p < A.length) (hq : q < B.length) (hl : lsQ nm (rth B q) (rth A p) = true) : MrQ nm A B (O ++ [rth B q]) p (q + 1) := by
  unfold MrQ at *
  rw [h, rdrop hp, rdrop hq, List.cons_merge_cons_neg _ _ _ (by unfold leQ; rw [hl]; simp), List.append_assoc, ← rdrop hp]
  rfl
theorem MrQ.done {nm : List Int} {A B O : List (Nat × Nat)} {p q : Nat} (h : MrQ nm A B O p q) (he : A.length ≤ p ∨ B.length ≤ q) : List.merge A B (leQ nm) = O ++ A.drop p ++ B.drop q := by
  unfold MrQ at h
  rw [h, List.append_assoc]
  congr 1
  rcases he with e | e
  · rw [List.drop_eq_nil_of_le e, List.nil_append, List.nil_merge]
  · rw [List.drop_eq_nil_of_le e, List.append_nil, List.merge_right]
/-- The order of two sequences, step by step. -/
theorem lsQ_step {nm : List Int} {i n k m t : Nat} (hi : i + n ≤ nm.length) (hk : k + m ≤ nm.length) (h1 : t < n) (h2 : t < m) : ltL ((seqN nm i n).drop t) ((seqN nm k m).drop t) = if nth nm (i + t) = nth nm (k + t) then ltL ((seqN nm i n).drop (t + 1)) ((seqN nm k m).drop (t + 1)) else decide (nth nm (i + t) < nth nm (k + t)) := by
  rw [drop_nth (l := seqN nm i n) (i := t) (by rw [seqN_len hi]; exact h1), drop_nth (l := seqN nm k m) (i := t) (by rw [seqN_len hk]; exact h2), ltL, seqN_nth h1, seqN_nth h2]
theorem lsQ_end {nm : List Int} {i n k m t : Nat} (hi : i + n ≤ nm.length) (hk : k + m ≤ nm.length) (ht : t ≤ n) (ht2 : t ≤ m) (h : n ≤ t ∨ m ≤ t) : ltL ((seqN nm i n).drop t) ((seqN nm k m).drop t) = decide (n < m) := by
  rcases h with h | h
  · have e0 : (seqN nm i n).drop t = [] := List.drop_eq_nil_of_le (by rw [seqN_len hi]; exact h)
    rw [e0, ltL_nil, List.length_drop, seqN_len hk]
    congr 1
    exact propext ⟨fun x => by omega, fun x => by omega⟩
  · have e0 : (seqN nm k m).drop t = [] := List.drop_eq_nil_of_le (by rw [seqN_len hk]; exact h)
    rw [e0, ltL_out]
    symm
    rw [decide_eq_false_iff_not]
    omega
/-- The rows of a place: so many lengths are looked at. -/
def rowQ (nm : List Int) (en : Nat → Nat) (i n : Nat) : List (Nat × Nat) := ((List.range n).filter fun m => repB nm en m i).map fun m => (m, i)
theorem rowQ_yes {nm : List Int} {en : Nat → Nat} {i n : Nat} (h : repB nm en n i = true) : rowQ nm en i (n + 1) = rowQ nm en i n ++ [(n, i)] := by
  unfold rowQ
  rw [List.range_succ, List.filter_append, List.map_append]
  simp [h]
theorem rowQ_no {nm : List Int} {en : Nat → Nat} {i n : Nat} (h : repB nm en n i = false) : rowQ nm en i (n + 1) = rowQ nm en i n := by
  unfold rowQ
  rw [List.range_succ, List.filter_append, List.map_append]
  simp [h]
theorem rowQ_rest {nm : List Int} {en : Nat → Nat} {i n : Nat} (h : ∀ m, n ≤ m → repB nm en m i = false) : ∀ {k : Nat}, n ≤ k → rowQ nm en i k = rowQ nm en i n := fun {k} hk => by
  obtain ⟨d, rfl⟩ : ∃ d, k = n + d := ⟨k - n, by omega⟩
  induction d with
  | zero => rfl
  | succ d ih => rw [show n + (d + 1) = n + d + 1 by omega, rowQ_no (h _ (by omega)), ih (by omega)]
theorem rowQ_two (nm : List Int) (en : Nat → Nat) (i : Nat) : rowQ nm en i 2 = [] := by
  have h0 : ∀ m, m < 2 → repB nm en m i = false := fun m hm => by
    cases h : repB nm en m i with
    | false => rfl
    | true => have := (repB_iff.1 h).2.1; omega
  rw [show 2 = 0 + 1 + 1 from rfl, rowQ_no (h0 _ (by omega)), rowQ_no (h0 _ (by omega))]
  rfl
theorem rep_room {nm : List Int} {en : Nat → Nat} {i n : Nat} (h : en i < i + n) {m : Nat} (hm : n ≤ m) : repB nm en m i = false := by
  cases e : repB nm en m i with
  | false => rfl
  | true => have := (repB_iff.1 e).2.2.1; omega
theorem plcS_own {nm : List Int} {en : Nat → Nat} (h : EnP nm en) {i n : Nat} (hi : i < nm.length) (hr : i + n ≤ en i) : i ∈ plcS nm en i n := plcS_mem.2 ⟨hi, (mE_self h hi).2 hr⟩
theorem plcS_nodup (nm : List Int) (en : Nat → Nat) (i n : Nat) : (plcS nm en i n).Nodup := List.nodup_range.filter _
theorem plcS_two {nm : List Int} {en : Nat → Nat} (h : EnP nm en) {i n : Nat} (hi : i < nm.length) (hr : i + n ≤ en i) : 2 ≤ (plcS nm en i n).length ↔ ∃ k, k < nm.length ∧ k ≠ i ∧ n ≤ mE nm en i k := by
  have hs := sumR_but (fun k => decide (n ≤ mE nm en i k)) (i := i) (decide_eq_true ((mE_self h hi).2 hr)) hi
  have e : plcS nm en i n = (List.range nm.length).filter fun k => decide (n ≤ mE nm en i k) := rfl
  rw [e, ← hs]
  rw [sumR_count]
  constructor
  · intro x
    have : 0 < ((List.range nm.length).filter fun k => decide (n ≤ mE nm en i k) && decide (k ≠ i)).length := by omega
    obtain ⟨k, hk⟩ := List.exists_mem_of_length_pos this
    simp only [List.mem_filter, List.mem_range, Bool.and_eq_true, decide_eq_true_eq] at hk
    exact ⟨k, hk.1, hk.2.2, hk.2.1⟩
  · rintro ⟨k, k1, k2, k3⟩
    have : k ∈ (List.range nm.length).filter fun k => decide (n ≤ mE nm en i k) && decide (k ≠ i) := by
      simp only [List.mem_filter, List.mem_range, Bool.and_eq_true, decide_eq_true_eq]
      exact ⟨k1, k3, k2⟩
    have := List.length_pos_of_mem this
    omega
theorem rep_few {nm : List Int} {en : Nat → Nat} (h : EnP nm en) {i n : Nat} (hi : i < nm.length) (hr : i + n ≤ en i) (hf : (plcS nm en i n).length < 2) {m : Nat} (hm : n ≤ m) : repB nm en m i = false := by
  cases e : repB nm en m i with
  | false => rfl
  | true =>
    obtain ⟨_, _, _, ⟨k, k1, k2, k3⟩, _⟩ := repB_iff.1 e
    have := (plcS_two h hi hr).2 ⟨k, k1, k2, by omega⟩
    omega
theorem plcS_sorted (nm : List Int) (en : Nat → Nat) (i n : Nat) : (plcS nm en i n).Pairwise fun a b => a < b := List.pairwise_lt_range.filter _
/-- The first place is the least. -/
theorem plcS_first {nm : List Int} {en : Nat → Nat} (h : EnP nm en) {i n : Nat} (hi : i < nm.length) (hr : i + n ≤ en i) : snth (plcS nm en i n) 0 = i ↔ ∀ k, k < i → ¬ n ≤ mE nm en i k := by
  have hs := plcS_sorted nm en i n
  have hown := plcS_own h hi hr
  cases e : plcS nm en i n with
  | nil => rw [e] at hown; cases hown
  | cons f L =>
    rw [e] at hs hown
    have hs' := List.pairwise_cons.1 hs
    show f = i ↔ _
    constructor
    · intro x k hk hn
      have hk' : k ∈ plcS nm en i n := plcS_mem.2 ⟨by omega, hn⟩
      rw [e] at hk'
      rcases List.mem_cons.1 hk' with y | y
      · omega
      · have := hs'.1 k y; omega
    · intro x
      have hf : f ∈ plcS nm en i n := by rw [e]; exact List.mem_cons_self
      have := plcS_mem.1 hf
      rcases List.mem_cons.1 hown with y | y
      · exact y.symm
      · have := hs'.1 i y
        exact absurd (plcS_mem.1 hf).2 (x f this)
theorem repB_told {nm : List Int} {en : Nat → Nat} (h : EnP nm en) {i n : Nat} (hi : i < nm.length) (hn : 2 ≤ n) (hr : i + n ≤ en i) (h2 : 2 ≤ (plcS nm en i n).length) : repB nm en n i = decide (snth (plcS nm en i n) 0 = i) := by
  by_cases c : snth (plcS nm en i n) 0 = i
  · rw [decide_eq_true c]
    exact repB_iff.2 ⟨hi, hn, hr, (plcS_two h hi hr).1 h2, (plcS_first h hi hr).1 c⟩
  · rw [decide_eq_false c]
    cases e : repB nm en n i with
    | false => rfl
    | true => exact absurd ((plcS_first h hi hr).2 (repB_iff.1 e).2.2.2.2) c
/-- The places of a sequence are those of where it first stands. -/
theorem plcS_same {nm : List Int} {en : Nat → Nat} (h : EnP nm en) {i k n : Nat} (hi : i < nm.length) (hk : k < nm.length) (hm : n ≤ mE nm en i k) : plcS nm en i n = plcS nm en k n := List.filter_congr fun j hj => by
  have hj : j < nm.length := List.mem_range.1 hj
  congr 1
  exact propext ⟨fun x => mE_trans h hk hi hj (by rw [mE_comm]; exact hm) x, fun x => mE_trans h hi hk hj hm x⟩
/-- Sums over blocks that lie one behind the other. -/
theorem sumR_app (f : Nat → Nat) : ∀ (n m : Nat), sumR (n + m) f = sumR n f + sumR m fun t => f (n + t)
  | n, 0 => rfl
  | n, m + 1 => by rw [show n + (m + 1) = n + m + 1 by omega, sumR, sumR_app f n m, sumR]; omega
theorem sumR_blocks {bd : Nat → Nat} (f : Nat → Nat) (h0 : bd 0 = 0) (hm : ∀ j, bd j ≤ bd (j + 1)) : ∀ m : Nat, sumR m (fun j => sumR (bd (j + 1) - bd j) fun t => f (bd j + t)) = sumR (bd m) f
  | 0 => by rw [h0]; rfl
  | m + 1 => by
    have := hm m
    rw [sumR, sumR_blocks f h0 hm m, show bd (m + 1) = bd m + (bd (m + 1) - bd m) by omega, sumR_app]
    rw [show bd m + (bd (m + 1) - bd m) - bd m = bd (m + 1) - bd m by omega]
theorem sumR_swap : ∀ (n m : Nat) (f : Nat → Nat → Nat), sumR n (fun i => sumR m fun k => f i k) = sumR m fun k => sumR n fun i => f i k
  | 0, m, f => (sumR_zero m).symm
  | n + 1, m, f => by
    rw [sumR, sumR_swap n m f, ← sumR_add]
    exact sumR_congr fun k _ => rfl
theorem sumR_pairsB {bd : Nat → Nat} (f : Nat → Nat → Nat) (h0 : bd 0 = 0) (hm : ∀ j, bd j ≤ bd (j + 1)) (m : Nat) : sumR m (fun b => sumR m fun c => sumR (bd (b + 1) - bd b) fun s => sumR (bd (c + 1) - bd c) fun t => f (bd b + s) (bd c + t)) = sumR (bd m) fun i => sumR (bd m) fun k => f i k := by
  rw [← sumR_blocks (fun i => sumR (bd m) fun k => f i k) h0 hm m]
  refine sumR_congr fun b _ => ?_
  rw [sumR_swap]
  refine sumR_congr fun s _ => ?_
  exact sumR_blocks (fun k => f (bd b + s) k) h0 hm m


end Go.Proofs.Ytokhclindfipbaa
