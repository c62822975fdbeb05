/-
  Doubled steps, plain: behind the round of step s ranks tell the order of the first 2 s numbers; the end; the cost.
-/
import Derived.Test.YthhfkcmoncgknaaProg
import Derived.WalkKit
import Derived.WalkSpells
import Derived.WalkLawsBesides
import Derived.RowKit3
import Derived.Below
import Derived.Deep.QuietTactic
import Derived.BigQuiet
import Derived.WalkSmall
import Derived.Laws.Rows
import Derived.Test.YthhfkcmoncgknaaPt23
namespace Go.Proofs.Ythhfkcmoncgknaa
open Go.RowKit

/-- What is compared of two places. -/
def ordV (r : List Int) (n s i k : Nat) : Int := if cmpI (nth r i) (nth r k) = 0 then (if n ≤ max i k + s then cmpI (k : Int) (i : Int) else cmpI (nth r (i + s)) (nth r (k + s))) else cmpI (nth r i) (nth r k)
def ordC (r : List Int) (n s i k : Nat) : Nat := if cmpI (nth r i) (nth r k) = 0 then (if n ≤ max i k + s then 1 else 2) else 1
theorem ordC_le (r : List Int) (n s i k : Nat) : ordC r n s i k ≤ 2 := by
  unfold ordC
  split
  · split <;> decide
  · decide
theorem ordC_ge (r : List Int) (n s i k : Nat) : 1 ≤ ordC r n s i k := by
  unfold ordC
  split
  · split <;> decide
  · decide
theorem ordV_range (r : List Int) (n s i k : Nat) : -1 ≤ ordV r n s i k ∧ ordV r n s i k ≤ 1 := by
  unfold ordV
  split
  · split <;> exact cmpI_range _ _
  · exact cmpI_range _ _
/-- One round. -/
def nxA (n : Nat) (r : List Int) (s : Nat) (A : List Nat) : List Nat := srt (ordV r n s) A
def nxR (n : Nat) (r : List Int) (s : Nat) (A : List Nat) : List Int := (List.range n).map fun p => ((unl (ordV r n s) (nxA n r s A) ((nxA n r s A).idxOf p) : Nat) : Int)
def nxC (n : Nat) (r : List Int) (s : Nat) (A : List Nat) : Nat := srtC (ordV r n s) (ordC r n s) A + rnkC (ordC r n s) (nxA n r s A) (n - 1)
def nxU (n : Nat) (r : List Int) (s : Nat) (A : List Nat) : Nat := unl (ordV r n s) (nxA n r s A) (n - 1) + 1
/-- How much all rounds cost. -/
def dbl (n : Nat) : Nat → List Nat → List Int → Nat → Nat → Nat
  | 0, _, _, _, c => c
  | f + 1, A, r, s, c => if nxU n r s A = n then c + nxC n r s A else dbl n f (nxA n r s A) (nxR n r s A) (2 * s) (c + nxC n r s A)
def cstN (l : List Int) : Nat := if l.length = 0 then 0 else dbl l.length l.length (List.range l.length) l 1 0
/-- What a suffix begins with. -/
def trn (l : List Int) (s i : Nat) : List Int := (l.drop i).take s
structure Rk (l r : List Int) (s : Nat) : Prop where
  len : r.length = l.length
  pos : 1 ≤ s
  lt : ∀ i k, i < l.length → k < l.length → (nth r i < nth r k ↔ ltL (trn l s i) (trn l s k) = true)
  eq : ∀ i k, i < l.length → k < l.length → (nth r i = nth r k ↔ trn l s i = trn l s k)
theorem trn_one {l : List Int} {i : Nat} (h : i < l.length) : trn l 1 i = [nth l i] := by
  unfold trn
  rw [drop_nth h]; rfl
theorem Rk.start (l : List Int) : Rk l l 1 where
  len := rfl
  pos := Nat.le_refl _
  lt := fun i k hi hk => by
    rw [trn_one hi, trn_one hk, ltL]
    by_cases e : nth l i = nth l k
    · rw [if_pos e, e]; simp [ltL]
    · rw [if_neg e, decide_eq_true_iff]
  eq := fun i k hi hk => by
    rw [trn_one hi, trn_one hk]
    simp
theorem ltL_take : ∀ (s : Nat) {xs ys : List Int}, ltL (xs.take s) (ys.take s) = true → ltL xs ys = true
  | 0, xs, ys, h => by simp [ltL] at h
  | s + 1, [], ys, h => by
    rw [ltL_nil, decide_eq_true_iff]
    cases ys with
    | nil => simp [ltL] at h
    | cons y ys => simp
  | s + 1, x :: xs, [], h => by simp [ltL] at h
  | s + 1, x :: xs, y :: ys, h => by
    rw [List.take_succ_cons, List.take_succ_cons, ltL] at h
    rw [ltL]
    by_cases e : x = y
    · rw [if_pos e] at h ⊢
      exact ltL_take s h
    · rw [if_neg e] at h ⊢
      exact h
theorem ltL_drop : ∀ (s : Nat) {xs ys : List Int}, xs.take s = ys.take s → ltL xs ys = ltL (xs.drop s) (ys.drop s)
  | 0, xs, ys, _ => by simp
  | s + 1, [], [], _ => by simp
  | s + 1, [], y :: ys, h => by simp at h
  | s + 1, x :: xs, [], h => by simp at h
  | s + 1, x :: xs, y :: ys, h => by
    rw [List.take_succ_cons, List.take_succ_cons] at h
    injection h with h1 h2
    rw [ltL, if_pos h1, List.drop_succ_cons, List.drop_succ_cons]
    exact ltL_drop s h2
theorem trn_take (l : List Int) (s i : Nat) : (trn l (2 * s) i).take s = trn l s i := by
  unfold trn
  rw [List.take_take, show min s (2 * s) = s by omega]
theorem trn_drop (l : List Int) (s i : Nat) : (trn l (2 * s) i).drop s = trn l s (i + s) := by
  unfold trn
  rw [List.drop_take, List.drop_drop, show 2 * s - s = s by omega]
theorem trn_len (l : List Int) (s i : Nat) : (trn l s i).length = min s (l.length - i) := by
  unfold trn
  rw [List.length_take, List.length_drop]
theorem trn_nil {l : List Int} {s i : Nat} (h : l.length ≤ i) : trn l s i = [] := by
  unfold trn
  rw [List.drop_eq_nil_of_le h, List.take_nil]
theorem Rk.key {l r : List Int} {s : Nat} (h : Rk l r s) : KeyP (ordV r l.length s) (trn l (2 * s)) l.length := by
  have main : ∀ i k, i < l.length → k < l.length → (ordV r l.length s i k < 0 ↔ ltL (trn l (2 * s) i) (trn l (2 * s) k) = true) ∧ (ordV r l.length s i k = 0 ↔ trn l (2 * s) i = trn l (2 * s) k) := fun i k hi hk => by
    have hp := h.pos
    unfold ordV
    by_cases e : cmpI (nth r i) (nth r k) = 0
    · rw [if_pos e]
      have et : trn l s i = trn l s k := (h.eq i k hi hk).1 (cmpI_zero.1 e)
      have ht : (trn l (2 * s) i).take s = (trn l (2 * s) k).take s := by rw [trn_take, trn_take, et]
      have e1 : ltL (trn l (2 * s) i) (trn l (2 * s) k) = ltL (trn l s (i + s)) (trn l s (k + s)) := by rw [ltL_drop s ht, trn_drop, trn_drop]
      have e2 : trn l (2 * s) i = trn l (2 * s) k ↔ trn l s (i + s) = trn l s (k + s) := by
        constructor
        · intro x; rw [← trn_drop, ← trn_drop, x]
        · intro x
          rw [← List.take_append_drop s (trn l (2 * s) i), ← List.take_append_drop s (trn l (2 * s) k), ht, trn_drop, trn_drop, x]
      rw [e1, e2]
      have el := congrArg List.length et
      rw [trn_len, trn_len] at el
      by_cases hm : l.length ≤ max i k + s
      · rw [if_pos hm, cmpI_neg, cmpI_zero]
        rcases Nat.lt_trichotomy i k with c | c | c
        · have hk2 : l.length ≤ k + s := by omega
          have hi2 : i + s < l.length := by omega
          rw [trn_nil hk2, ltL_out]
          refine ⟨⟨fun x => by omega, fun x => by cases x⟩, ⟨fun x => by omega, fun x => ?_⟩⟩
          have := congrArg List.length x
          rw [trn_len, List.length_nil] at this
          omega
        · subst c
          rw [ltL_same]
          exact ⟨⟨fun x => by omega, fun x => by cases x⟩, ⟨fun _ => rfl, fun _ => rfl⟩⟩
        · have hi2 : l.length ≤ i + s := by omega
          have hk2 : k + s < l.length := by omega
          rw [trn_nil hi2, ltL_nil, trn_len, decide_eq_true_iff]
          refine ⟨⟨fun x => by omega, fun x => by omega⟩, ⟨fun x => by omega, fun x => ?_⟩⟩
          have := congrArg List.length x
          rw [trn_len, List.length_nil] at this
          omega
      · rw [if_neg hm, cmpI_neg, cmpI_zero]
        exact ⟨h.lt _ _ (by omega) (by omega), h.eq _ _ (by omega) (by omega)⟩
    · rw [if_neg e, cmpI_neg, cmpI_zero]
      have hne : ¬ nth r i = nth r k := fun x => e (cmpI_zero.2 x)
      refine ⟨⟨fun x => ?_, fun x => ?_⟩, ⟨fun x => absurd x hne, fun x => ?_⟩⟩
      · have := (h.lt i k hi hk).1 x
        rw [← trn_take, ← trn_take l s k] at this
        exact ltL_take s this
      · rcases Int.lt_or_gt_of_ne hne with y | y
        · exact y
        · exfalso
          have := (h.lt k i hk hi).1 y
          rw [← trn_take, ← trn_take l s i] at this
          have := ltL_asym (ltL_take s this)
          rw [this] at x; cases x
      · refine absurd ((h.eq i k hi hk).2 ?_) hne
        rw [← trn_take, x, trn_take]
  exact ⟨fun i k hi hk => (main i k hi hk).1, fun i k hi hk => (main i k hi hk).2⟩
/-- The places, in some order. -/
def PlsP (n : Nat) (A : List Nat) : Prop := A.Perm (List.range n)
theorem PlsP.len {n : Nat} {A : List Nat} (h : PlsP n A) : A.length = n := by rw [List.Perm.length_eq h, List.length_range]
theorem PlsP.mem {n : Nat} {A : List Nat} (h : PlsP n A) {x : Nat} : x ∈ A ↔ x < n := by rw [List.Perm.mem_iff h, List.mem_range]
theorem PlsP.lt {n : Nat} {A : List Nat} (h : PlsP n A) {i : Nat} (hi : i < n) : snth A i < n := h.mem.1 (nth_mem (by rw [h.len]; exact hi))
theorem PlsP.nodup {n : Nat} {A : List Nat} (h : PlsP n A) : A.Nodup := (List.Perm.nodup_iff h).2 List.nodup_range
theorem PlsP.idx {n : Nat} {A : List Nat} (h : PlsP n A) {p : Nat} (hp : p < n) : A.idxOf p < n ∧ snth A (A.idxOf p) = p := by
  have hl : A.idxOf p < A.length := List.idxOf_lt_length_of_mem (h.mem.2 hp)
  refine ⟨by rw [← h.len]; exact hl, ?_⟩
  have e : snth A (A.idxOf p) = A[A.idxOf p]'hl := by simp [snth, hl]
  rw [e]
  exact List.getElem_idxOf hl
theorem PlsP.inj {n : Nat} {A : List Nat} (h : PlsP n A) {i k : Nat} (hi : i < n) (hk : k < n) (e : snth A i = snth A k) : i = k := by
  have hn : A.Pairwise fun a b => a ≠ b := h.nodup
  rcases Nat.lt_trichotomy i k with c | c | c
  · exact absurd e (pair_nth.1 hn i k c (by rw [h.len]; exact hk))
  · exact c
  · exact absurd e.symm (pair_nth.1 hn k i c (by rw [h.len]; exact hi))
theorem PlsP.at {n : Nat} {A : List Nat} (h : PlsP n A) {i : Nat} (hi : i < n) : A.idxOf (snth A i) = i := h.inj (h.idx (h.lt hi)).1 hi (h.idx (h.lt hi)).2
theorem PlsP.next {n : Nat} {A : List Nat} (h : PlsP n A) (r : List Int) (s : Nat) : PlsP n (nxA n r s A) := (srt_perm _ _ A rfl).trans h
theorem nxR_len (n : Nat) (r : List Int) (s : Nat) (A : List Nat) : (nxR n r s A).length = n := by simp [nxR]
theorem nxR_nth {n : Nat} {r : List Int} {s : Nat} {A : List Nat} {p : Nat} (h : p < n) : nth (nxR n r s A) p = ((unl (ordV r n s) (nxA n r s A) ((nxA n r s A).idxOf p) : Nat) : Int) := by simp [nth, nxR, h]
theorem Rk.next {l r : List Int} {s : Nat} (h : Rk l r s) {A : List Nat} (hA : PlsP l.length A) : Rk l (nxR l.length r s A) (2 * s) := by
  have hB := hA.next r s
  have hp : (nxA l.length r s A).Pairwise fun i k => ordV r l.length s i k ≤ 0 := srt_ord h.key.ord _ A rfl fun x hx => hA.mem.1 hx
  have hm : ∀ x ∈ nxA l.length r s A, x < l.length := fun x hx => hB.mem.1 hx
  have key : ∀ i k, i < l.length → k < l.length → _ := fun i k hi hk => unl_key h.key hm hp (a := (nxA l.length r s A).idxOf i) (b := (nxA l.length r s A).idxOf k) (by rw [hB.len]; exact (hB.idx hi).1) (by rw [hB.len]; exact (hB.idx hk).1)
  refine ⟨nxR_len _ _ _ _, by have := h.pos; omega, fun i k hi hk => ?_, fun i k hi hk => ?_⟩
  · have := (key i k hi hk).2
    rw [(hB.idx hi).2, (hB.idx hk).2] at this
    rw [nxR_nth hi, nxR_nth hk, ← this]
    omega
  · have := (key i k hi hk).1
    rw [(hB.idx hi).2, (hB.idx hk).2] at this
    rw [nxR_nth hi, nxR_nth hk, ← this]
    omega
/-- Where all are unlike, the array is found. -/
theorem Rk.done {l r : List Int} {s : Nat} (h : Rk l r s) {A : List Nat} (hA : PlsP l.length A) (hl : 0 < l.length) (hu : nxU l.length r s A = l.length) : nxA l.length r s A = sufN l ∧ nxR l.length r s A = rkL l := by
  have hB := hA.next r s
  have hp : (nxA l.length r s A).Pairwise fun i k => ordV r l.length s i k ≤ 0 := srt_ord h.key.ord _ A rfl fun x hx => hA.mem.1 hx
  have hm : ∀ x ∈ nxA l.length r s A, x < l.length := fun x hx => hB.mem.1 hx
  have hf : ∀ j, j < l.length → unl (ordV r l.length s) (nxA l.length r s A) j = j := fun j hj => unl_full (m := l.length - 1) (by unfold nxU at hu; omega) (by omega)
  have e : nxA l.length r s A = sufN l := by
    refine sufN_uniq ⟨hB, ?_⟩
    rw [pair_nth]
    intro i k hik hk
    rw [hB.len] at hk
    have := (unl_key h.key hm hp (a := i) (b := k) (by rw [hB.len]; omega) (by rw [hB.len]; exact hk)).2
    rw [hf i (by omega), hf k hk] at this
    have := this.1 hik
    unfold trn at this
    exact ltL_take _ this
  refine ⟨e, ?_⟩
  unfold nxR rkL
  refine List.map_congr_left fun p hp => ?_
  rw [List.mem_range] at hp
  rw [hf _ (hB.idx hp).1, e]
  rfl
theorem Rk.far {l r : List Int} {s : Nat} (h : Rk l r s) {A : List Nat} (hA : PlsP l.length A) (hl : 0 < l.length) (hs : l.length ≤ 2 * s) : nxU l.length r s A = l.length := by
  have hB := hA.next r s
  have step : ∀ j, j < l.length → unl (ordV r l.length s) (nxA l.length r s A) j = j := fun j => by
    induction j with
    | zero => intro _; rfl
    | succ j ih =>
      intro hj
      have b1 := hB.lt (i := j) (by omega)
      have b2 := hB.lt (i := j + 1) hj
      rw [unl, ih (by omega), if_neg]
      intro hz
      have ht := (h.key.eq _ _ b1 b2).1 hz
      have := congrArg List.length ht
      rw [trn_len, trn_len] at this
      have := hB.inj (by omega) hj (show snth (nxA l.length r s A) j = snth (nxA l.length r s A) (j + 1) by omega)
      omega
  unfold nxU
  rw [step _ (by omega)]
  omega
theorem nxU_on {l r : List Int} {s : Nat} (h : Rk l r s) {A : List Nat} (hA : PlsP l.length A) (hl : 0 < l.length) (hu : ¬ nxU l.length r s A = l.length) : 2 * s < l.length := by
  rcases Nat.lt_or_ge (2 * s) l.length with x | x
  · exact x
  · exact absurd (h.far hA hl x) hu
theorem nxC_le {n b : Nat} {r : List Int} {s : Nat} {A : List Nat} (hA : PlsP n A) (hb : n ≤ 2 ^ b) : nxC n r s A ≤ 2 * n * (b + 1) := by
  have h1 := srtC_le (o := ordV r n s) (c := ordC r n s) (ordC_le r n s) b A (by rw [hA.len]; exact hb)
  have h2 := rnkC_le (c := ordC r n s) (nxA n r s A) (ordC_le r n s) (n - 1)
  rw [hA.len] at h1
  unfold nxC
  rw [Nat.mul_add, Nat.mul_one]
  omega
theorem nxC_ge {n : Nat} {r : List Int} {s : Nat} {A : List Nat} : n - 1 ≤ nxC n r s A := by
  have h2 := rnkC_ge (c := ordC r n s) (nxA n r s A) (ordC_ge r n s) (n - 1)
  unfold nxC
  omega
theorem dbl_ge (n : Nat) : ∀ (f : Nat) (A : List Nat) (r : List Int) (s c : Nat), c ≤ dbl n f A r s c
  | 0, _, _, _, _ => Nat.le_refl _
  | f + 1, A, r, s, c => by
    rw [dbl]
    split
    · exact Nat.le_add_right _ _
    · exact Nat.le_trans (Nat.le_add_right _ _) (dbl_ge n f _ _ _ _)
theorem dbl_le {l : List Int} (hl : 0 < l.length) {b : Nat} (hb : l.length ≤ 2 ^ b) : ∀ (f : Nat) (A : List Nat) (r : List Int) (s c t : Nat), Rk l r s → PlsP l.length A → 0 < t → l.length ≤ s * 2 ^ t → dbl l.length f A r s c ≤ c + t * (2 * l.length * (b + 1))
  | 0, _, _, _, c, t, _, _, _, _ => Nat.le_add_right _ _
  | f + 1, A, r, s, c, t, hR, hA, ht, hs => by
    have h1 := nxC_le (r := r) (s := s) hA hb
    obtain ⟨t, rfl⟩ : ∃ t', t = t' + 1 := ⟨t - 1, by omega⟩
    have e1 : (t + 1) * (2 * l.length * (b + 1)) = t * (2 * l.length * (b + 1)) + 2 * l.length * (b + 1) := by rw [Nat.add_mul, Nat.one_mul]
    rw [dbl, e1]
    split
    · omega
    · rename_i hu
      have h2 := nxU_on hR hA hl hu
      have ht0 : 0 < t := by
        rcases Nat.eq_zero_or_pos t with x | x
        · subst x; simp at hs; omega
        · exact x
      have := dbl_le hl hb f _ _ (2 * s) (c + nxC l.length r s A) t (hR.next hA) (hA.next r s) ht0 (by rw [Nat.pow_succ] at hs; rw [Nat.mul_comm 2 s, Nat.mul_assoc, Nat.mul_comm 2]; exact hs)
      omega
theorem bitsN_lt : ∀ (n : Nat), n < 2 ^ bitsN n := fun n => by
  induction n using Nat.strongRecOn with
  | _ n ih =>
  by_cases h : n = 0
  · subst h; rw [bitsN_zero]; decide
  · rw [bitsN_pos (by omega), Nat.pow_succ]
    have := ih (n / 2) (by omega)
    omega
theorem PlsP.start (n : Nat) : PlsP n (List.range n) := List.Perm.refl _
theorem cst_le {l : List Int} (hl : 0 < l.length) : cstN l ≤ bitsN l.length * (2 * l.length * (bitsN l.length + 1)) := by
  unfold cstN
  rw [if_neg (by omega)]
  have h1 := bitsN_lt l.length
  have h0 : 0 < bitsN l.length := by rw [bitsN_pos hl]; exact Nat.succ_pos _
  have := dbl_le hl (b := bitsN l.length) (Nat.le_of_lt h1) l.length (List.range l.length) l 1 0 (bitsN l.length) (Rk.start l) (PlsP.start _) h0 (by rw [Nat.one_mul]; exact Nat.le_of_lt h1)
  rw [Nat.zero_add] at this
  exact this
theorem cst_ge {l : List Int} (hl : 0 < l.length) : l.length - 1 ≤ cstN l := by
  unfold cstN
  rw [if_neg (by omega)]
  obtain ⟨n, hn⟩ : ∃ n, l.length = n + 1 := ⟨l.length - 1, by omega⟩
  have h := nxC_ge (n := l.length) (r := l) (s := 1) (A := List.range l.length)
  conv => rhs; rw [hn]
  rw [← hn]
  rw [show dbl l.length (l.length) = dbl l.length (n + 1) by rw [← hn], dbl]
  split
  · omega
  · have := dbl_ge l.length n (nxA l.length l 1 (List.range l.length)) (nxR l.length l 1 (List.range l.length)) (2 * 1) (0 + nxC l.length l 1 (List.range l.length))
    omega
def cstI (l : List Int) : Int := (cstN l : Int)
theorem cstI_ok : ∀ l : List Int, l.length ≤ 16384 → 0 ≤ cstI l ∧ (l.length : Int) - 1 ≤ cstI l ∧ cstI l ≤ mostI (l.length : Int) := fun l hl => by
  unfold cstI mostI
  by_cases h0 : l.length = 0
  · have : cstN l = 0 := by unfold cstN; rw [if_pos h0]
    rw [this, h0]
    decide
  · have h1 := cst_le (l := l) (by omega)
    have h2 := cst_ge (l := l) (by omega)
    rw [if_neg (by omega), show ((l.length : Int)).toNat = l.length by omega]
    refine ⟨by omega, by omega, ?_⟩
    generalize bitsN l.length = b at *
    have h3 : b * (2 * l.length * (b + 1)) ≤ 6 * l.length * (b + 1) * (b + 1) := by
      have : b * (2 * l.length * (b + 1)) = 2 * l.length * (b + 1) * b := by rw [Nat.mul_comm]
      rw [this]
      exact Nat.mul_le_mul (Nat.mul_le_mul (Nat.mul_le_mul (by decide) (Nat.le_refl _)) (Nat.le_refl _)) (by omega)
    have h4 : cstN l ≤ 6 * l.length * (b + 1) * (b + 1) := Nat.le_trans h1 h3
    have h5 : ((cstN l : Nat) : Int) ≤ ((6 * l.length * (b + 1) * (b + 1) : Nat) : Int) := by exact_mod_cast h4
    simpa using h5

end Go.Proofs.Ythhfkcmoncgknaa
