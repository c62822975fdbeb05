/-
  What a taker takes when all is well, and when not; no Go in sight. Rows of numbers as lists lie in memory; an image of its own memory; no Go in sight.
-/
import Derived.Test.YtpmaiblgnblpeaaProg
import Derived.Test.YtpmaiblgnblpeaaPr06
import Derived.Laws.Rows
import Derived.Laws.OwnMore
import Derived.Test.YtpmaiblgnblpeaaPr05
namespace Go.Proofs.Ytpmaiblgnblpeaa
open Go.RowKit

/-- A byte taken. -/
def tByte (b : List Int) (t : Tk) : Int × Tk := if t.pos < b.length then (nth b t.pos, ⟨t.pos + 1, 0, t.place⟩) else (0, ⟨t.pos, 27, b.length⟩)
/-- The value of bytes. -/
def valB (l : List Int) : Int := l.foldl (fun a x => a * 256 + x) 0
theorem valB_snoc (l : List Int) (k : Nat) (h : k < l.length) : valB (l.take (k + 1)) = valB (l.take k) * 256 + nth l k := by
  rw [List.take_succ_eq_append_getElem h]
  unfold valB
  rw [List.foldl_append]
  simp [nth, List.getD, h]
theorem valB_range (l : List Int) (hb : AreB l) : 0 ≤ valB l ∧ valB l < 256 ^ l.length := by
  have h : ∀ (l : List Int) (a : Int), AreB l → 0 ≤ a → 0 ≤ l.foldl (fun a x => a * 256 + x) a ∧ l.foldl (fun a x => a * 256 + x) a < (a + 1) * 256 ^ l.length := by
    intro l
    induction l with
    | nil => intro a _ h0; simp; omega
    | cons x l ih =>
      intro a hb h0
      have hx := hb x (by simp)
      obtain ⟨i1, i2⟩ := ih (a * 256 + x) (fun y hy => hb y (by simp [hy])) (by omega)
      refine ⟨by simpa using i1, ?_⟩
      simp only [List.foldl_cons, List.length_cons]
      refine Int.lt_of_lt_of_le i2 ?_
      have hp : (0 : Int) ≤ 256 ^ l.length := Int.le_of_lt (Int.pow_pos (by omega))
      rw [Int.pow_succ]
      have := Int.mul_le_mul_of_nonneg_right (show a * 256 + x + 1 ≤ (a + 1) * 256 by omega) hp
      calc (a * 256 + x + 1) * 256 ^ l.length ≤ (a + 1) * 256 * 256 ^ l.length := this
        _ = (a + 1) * (256 ^ l.length * 256) := by rw [Int.mul_assoc, Int.mul_comm 256]
  have := h l 0 hb (by omega)
  unfold valB
  simpa using this
theorem nth_drop (b : List Int) (p k : Nat) : nth (b.drop p) k = nth b (p + k) := by simp [nth, List.getD]
theorem val4 {l : List Int} (h : 4 ≤ l.length) : valB (l.take 4) = v4 l := by
  obtain ⟨a, b, c, d, r, rfl⟩ := four_parts h
  simp [valB, v4]
theorem val8 {l : List Int} (h : 8 ≤ l.length) : valB (l.take 8) = v4 l * 4294967296 + v4 (l.drop 4) := by
  obtain ⟨a, b, c, d, r, rfl⟩ := four_parts (l := l) (by omega)
  obtain ⟨a2, b2, c2, d2, r2, rfl⟩ := four_parts (l := r) (by simp at h; omega)
  simp [valB, v4]
  omega



theorem four_yes {b : List Int} {p : Nat} (h : p + 4 ≤ b.length) : tFour b ⟨p, 0, 0⟩ = (v4 (b.drop p), ⟨p + 4, 0, 0⟩) := by
  unfold tFour
  rw [tHas_yes (by simp; omega)]
  rfl
theorem four_no {b : List Int} {p : Nat} (h : ¬ p + 4 ≤ b.length) : tFour b ⟨p, 0, 0⟩ = (0, ⟨p, 27, b.length⟩) := by
  unfold tFour
  have e : tHas b.length ⟨p, 0, 0⟩ 4 = ⟨p, 27, b.length⟩ := by unfold tHas; rw [if_pos ⟨rfl, by simp; omega⟩]
  rw [e]
  rfl
theorem eight_yes {b : List Int} {p : Nat} (h : p + 8 ≤ b.length) : tEight b ⟨p, 0, 0⟩ = (v8 (b.drop p), ⟨p + 8, 0, 0⟩) := by
  unfold tEight
  rw [tHas_yes (by simp; omega)]
  rfl
theorem eight_no {b : List Int} {p : Nat} (h : ¬ p + 8 ≤ b.length) : tEight b ⟨p, 0, 0⟩ = (0, ⟨p, 27, b.length⟩) := by
  unfold tEight
  have e : tHas b.length ⟨p, 0, 0⟩ 8 = ⟨p, 27, b.length⟩ := by unfold tHas; rw [if_pos ⟨rfl, by simp; omega⟩]
  rw [e]
  rfl
theorem count_no {b : List Int} {p : Nat} {m : Int} (h : ¬ p + 4 ≤ b.length) : tCount b m ⟨p, 0, 0⟩ = (0, ⟨p, 27, b.length⟩) := by
  unfold tCount
  rw [four_no h]
  rfl
theorem count_much {b : List Int} {p : Nat} {m : Int} (h : p + 4 ≤ b.length) (hm : m < v4 (b.drop p)) : tCount b m ⟨p, 0, 0⟩ = (0, ⟨p + 4, 27, p⟩) := by
  unfold tCount
  rw [four_yes h, if_pos rfl, if_pos hm]
theorem count_yes {b : List Int} {p : Nat} {m : Int} (h : p + 4 ≤ b.length) (hm : ¬ m < v4 (b.drop p)) : tCount b m ⟨p, 0, 0⟩ = (v4 (b.drop p), ⟨p + 4, 0, 0⟩) := by
  unfold tCount
  rw [four_yes h, if_pos rfl, if_neg hm]
/-- A taker that, all well, tells no place. -/
def Plain {α : Type} (f : Tk → α × Tk) : Prop := ∀ p, (f ⟨p, 0, 0⟩).2.bad = 0 → (f ⟨p, 0, 0⟩).2.place = 0
theorem plain_tk {α : Type} {f : Tk → α × Tk} (hf : Plain f) {p : Nat} (h : (f ⟨p, 0, 0⟩).2.bad = 0) : (f ⟨p, 0, 0⟩).2 = ⟨(f ⟨p, 0, 0⟩).2.pos, 0, 0⟩ := by
  have h2 := hf p h
  cases e : (f ⟨p, 0, 0⟩).2
  rw [e] at h h2
  simp only at h h2
  subst h h2
  rfl
theorem plain_four (b : List Int) : Plain (tFour b) := fun p h => by
  by_cases hp : p + 4 ≤ b.length
  · rw [four_yes hp]
  · rw [four_no hp] at h; cases h
theorem plain_eight (b : List Int) : Plain (tEight b) := fun p h => by
  by_cases hp : p + 8 ≤ b.length
  · rw [eight_yes hp]
  · rw [eight_no hp] at h; cases h
theorem plain_count (b : List Int) (m : Int) : Plain (tCount b m) := fun p h => by
  by_cases hp : p + 4 ≤ b.length
  · by_cases hm : m < v4 (b.drop p)
    · rw [count_much hp hm] at h; cases h
    · rw [count_yes hp hm]
  · rw [count_no hp] at h; cases h
theorem plain_byte (b : List Int) : Plain (tByte b) := fun p h => by
  unfold tByte at h ⊢
  split at h
  · next hp => rw [if_pos hp]
  · cases h
theorem list_bad {α : Type} (f : Tk → α × Tk) (n : Nat) (t : Tk) (h : ¬ t.bad = 0) : tList f n t = ([], t) := by
  cases n with
  | zero => rfl
  | succ n => rw [tList, if_neg h]
theorem list_step {α : Type} (f : Tk → α × Tk) (n : Nat) (t : Tk) (h : t.bad = 0) : tList f (n + 1) t = ((f t).1 :: (tList f n (f t).2).1, (tList f n (f t).2).2) := by rw [tList, if_pos h]
/-- How far a list has been taken: k items, and what is left. -/
def Far {α : Type} (f : Tk → α × Tk) (n : Nat) (t : Tk) (k : Nat) (done : List α) (q : Nat) : Prop :=
  done.length = k ∧ k ≤ n ∧ tList f n t = (done ++ (tList f (n - k) ⟨q, 0, 0⟩).1, (tList f (n - k) ⟨q, 0, 0⟩).2)
theorem far_start {α : Type} (f : Tk → α × Tk) (n p : Nat) : Far f n ⟨p, 0, 0⟩ 0 [] p := ⟨rfl, Nat.zero_le _, rfl⟩
theorem far_next {α : Type} {f : Tk → α × Tk} (hf : Plain f) {n k q : Nat} {t : Tk} {done : List α} (h : Far f n t k done q) (hk : k < n) (hg : (f ⟨q, 0, 0⟩).2.bad = 0) : Far f n t (k + 1) (done ++ [(f ⟨q, 0, 0⟩).1]) (f ⟨q, 0, 0⟩).2.pos := by
  obtain ⟨h1, h2, h3⟩ := h
  refine ⟨by simp [h1], hk, ?_⟩
  rw [h3, show n - k = (n - (k + 1)) + 1 by omega, list_step _ _ _ rfl, ← plain_tk hf hg, List.append_assoc]
  rfl
theorem far_bad {α : Type} {f : Tk → α × Tk} {n k q : Nat} {t : Tk} {done : List α} (h : Far f n t k done q) (hk : k < n) (hg : ¬ (f ⟨q, 0, 0⟩).2.bad = 0) : (tList f n t).2 = (f ⟨q, 0, 0⟩).2 := by
  obtain ⟨h1, h2, h3⟩ := h
  rw [h3, show n - k = (n - (k + 1)) + 1 by omega, list_step _ _ _ rfl, list_bad _ _ _ hg]
theorem far_end {α : Type} {f : Tk → α × Tk} {n q : Nat} {t : Tk} {done : List α} (h : Far f n t n done q) : tList f n t = (done, ⟨q, 0, 0⟩) := by
  obtain ⟨h1, h2, h3⟩ := h
  rw [h3, Nat.sub_self]
  simp [tList]
/-- How many there are, and each of them. -/
def tAll {α : Type} (b : List Int) (m : Int) (f : Tk → α × Tk) (t : Tk) : List α × Tk := tList f (tCount b m t).1.toNat (tCount b m t).2
theorem all_bad {α : Type} {b : List Int} {m : Int} {f : Tk → α × Tk} {t : Tk} (h : ¬ (tCount b m t).2.bad = 0) : (tAll b m f t).2 = (tCount b m t).2 := by
  unfold tAll
  rw [list_bad _ _ _ h]
theorem plain_list {α : Type} {f : Tk → α × Tk} (hf : Plain f) (n : Nat) : Plain (tList f n) := fun p => by
  induction n generalizing p with
  | zero => intro _; rfl
  | succ n ih =>
    intro h
    rw [list_step _ _ _ rfl] at h ⊢
    by_cases hg : (f ⟨p, 0, 0⟩).2.bad = 0
    · rw [plain_tk hf hg] at h ⊢
      exact ih _ h
    · rw [list_bad _ _ _ hg] at h
      exact absurd h hg
theorem plain_all {α : Type} {f : Tk → α × Tk} (hf : Plain f) (b : List Int) (m : Int) : Plain (tAll b m f) := fun p h => by
  unfold tAll at h ⊢
  by_cases hg : (tCount b m ⟨p, 0, 0⟩).2.bad = 0
  · have e := plain_tk (plain_count b m) hg
    rw [e] at h ⊢
    exact plain_list hf _ _ h
  · rw [list_bad _ _ _ hg] at h
    exact absurd h hg
theorem count_range {b : List Int} {m : Int} {p : Nat} (hb : AreB b) (h : (tCount b m ⟨p, 0, 0⟩).2.bad = 0) : 0 ≤ (tCount b m ⟨p, 0, 0⟩).1 ∧ (tCount b m ⟨p, 0, 0⟩).1 ≤ m := (tCount_ok hb h).2
/-- Bytes, one by one. -/
theorem bytes_all (b : List Int) : ∀ (n q : Nat), q ≤ b.length → (q + n ≤ b.length → tList (tByte b) n ⟨q, 0, 0⟩ = ((b.drop q).take n, ⟨q + n, 0, 0⟩)) ∧ (¬ q + n ≤ b.length → (tList (tByte b) n ⟨q, 0, 0⟩).2 = ⟨b.length, 27, b.length⟩) := by
  intro n
  induction n with
  | zero => intro q hq; exact ⟨fun _ => by simp [tList], fun h => absurd hq h⟩
  | succ n ih =>
    intro q hq
    rw [list_step _ _ _ rfl]
    by_cases hlt : q < b.length
    · have e : tByte b ⟨q, 0, 0⟩ = (nth b q, ⟨q + 1, 0, 0⟩) := by unfold tByte; rw [if_pos hlt]
      rw [e]
      obtain ⟨i1, i2⟩ := ih (q + 1) hlt
      refine ⟨fun h => ?_, fun h => ?_⟩
      · rw [i1 (by omega)]
        have ed : b.drop q = nth b q :: b.drop (q + 1) := by rw [List.drop_eq_getElem_cons hlt]; simp [nth, List.getD, hlt]
        rw [ed, List.take_succ_cons, show q + 1 + n = q + (n + 1) by omega]
      · exact i2 (by omega)
    · have e : tByte b ⟨q, 0, 0⟩ = (0, ⟨q, 27, b.length⟩) := by unfold tByte; rw [if_neg hlt]
      rw [e]
      refine ⟨fun h => by omega, fun h => ?_⟩
      rw [list_bad _ _ _ (by simp)]
      rw [show q = b.length by omega]
theorem has_stick {N : Nat} {t : Tk} {n : Int} (h : ¬ t.bad = 0) : tHas N t n = t := by unfold tHas; rw [if_neg (fun k => h k.1)]
theorem four_stick {b : List Int} {t : Tk} (h : ¬ t.bad = 0) : tFour b t = (0, t) := by unfold tFour; rw [has_stick h, if_neg h]
theorem count_stick {b : List Int} {m : Int} {t : Tk} (h : ¬ t.bad = 0) : tCount b m t = (0, t) := by unfold tCount; rw [four_stick h, if_neg h]











end Go.Proofs.Ytpmaiblgnblpeaa

namespace Go.Proofs.Ytpmaiblgnblpeaa
open Go.RowKit

theorem row_but {w w1 : World} {base g n : Nat} {e : TypeId} {sz : Nat} {v : Value} {xs : List Value} (ho : w.ownsRow base e sz v n xs) (hg : g < base) (hb : But g w w1) : w1.ownsRow base e sz v n xs := by
  refine ho.kept (row := some g) ⟨hb.1, hb.2.1, hb.2.2.1, hb.2.2.2.1, fun k hk hn => hb.2.2.2.2 k hk (fun e => hn (by rw [e]))⟩ ?_
  cases hv : v.ownBlock with
  | none => exact Or.inl rfl
  | some k => exact Or.inr fun e => by cases e; have := ho.lt g hv; omega
theorem but_grown {w w1 w2 : World} {g : Nat} {row : Option Nat} (h : But g w w1) (hs : w1.grownBy w2 row) (hr : ∀ k, row = some k → w.heap.size ≤ k) : But g w w2 :=
  ⟨hs.os.trans h.1, hs.tape.trans h.2.1, hs.output.trans h.2.2.1, Nat.le_trans h.2.2.2.1 hs.size, fun k hk hn => (hs.block k (Nat.lt_of_lt_of_le hk h.2.2.2.1) (fun e => by have := hr k e.symm; omega)).trans (h.2.2.2.2 k hk hn)⟩
theorem any_form {w : World} {b n : Nat} {e : TypeId} {sz : Nat} {v : Value} {xs : List Value} (h : w.ownsRow b e sz v n xs) : ∃ A n c, v = .slice A n c := by
  rcases h.2 with ⟨rfl, _⟩ | ⟨g, cap, cur, rfl, _⟩
  · exact ⟨_, _, _, rfl⟩
  · exact ⟨_, _, _, rfl⟩

/-- A new block reads as it was made. -/
theorem new_cells (w : World) (l : List Value) (T : TypeId) (h : l.length ≤ 1048576) : ∀ j u, l[j]? = some u → (w.alloc (.cells l.toArray T)).cell? ((⟨w.heap.size, 0, none⟩ : Addr).add j) = some u := by
  have hr : (w.alloc (.cells l.toArray T)).ownsRow w.heap.size T 1 (.slice (some ⟨w.heap.size, 0, none⟩) l.length l.length) l.length l := by
    refine ⟨by omega, Or.inr ⟨w.heap.size, l.length, l.toArray, rfl, Nat.le_refl _, heap_alloc_new _ _, Nat.le_refl _, by unfold maxLen; omega, by simp, ?_⟩⟩
    simp only [Nat.mul_one]
    exact List.take_length
  exact hr.cells rfl
/-- Items as cells. -/
def iVals (K : IntKind) (zs : List Int) : List Value := zs.map (Value.int K)
theorem iVals_snoc (K : IntKind) (zs : List Int) (x : Int) : iVals K (zs ++ [x]) = iVals K zs ++ [.int K x] := by simp [iVals]
theorem add0 (j i : Nat) : (⟨j, 0, none⟩ : Addr).add i = ⟨j, i, none⟩ := by
  unfold Addr.add
  split <;> simp_all
theorem but_setB {w w1 : World} {g : Nat} (h : But g w w1) {B : Nat} (hB : w.heap.size ≤ B) (i : Nat) (v : Value) : But g w (w1.setCell ⟨B, i, none⟩ v) :=
  ⟨h.1, h.2.1, h.2.2.1, by simpa [go_sem] using h.2.2.2.1, fun k hk hn => (Below.heap_setCell _ _ _ _ (by show k ≠ B; omega)).trans (h.2.2.2.2 k hk hn)⟩
theorem but_box {w w1 : World} {g : Nat} (h : But g w w1) {B : Nat} {cs : Array Value} {t : TypeId} (hb : w.heap[B]? = some (.cells cs t (0, 0))) (hB : B ≠ g) : w1.heap[B]? = some (.cells cs t (0, 0)) := by
  rw [h.2.2.2.2 B (Array.getElem?_eq_some_iff.1 hb).1 hB]; exact hb
theorem box_set {w : World} {B : Nat} {cs : Array Value} {t : TypeId} (h : w.heap[B]? = some (.cells cs t (0, 0))) (i : Nat) (v : Value) : (w.setCell ⟨B, i, none⟩ v).heap[B]? = some (.cells (cs.setIfInBounds i v) t (0, 0)) := by
  simp [World.setCell, Array.getElem?_modify, h]
theorem box_fro {w : World} {B : Nat} {cs : Array Value} {t : TypeId} (h : w.heap[B]? = some (.cells cs t (0, 0))) (i : Nat) : w.frozen? ⟨B, i, none⟩ = false := by
  simp [World.frozen?, h]
theorem all_stick {α : Type} {b : List Int} {m : Int} {f : Tk → α × Tk} {t : Tk} (h : ¬ t.bad = 0) : (tAll b m f t).2 = t := by
  unfold tAll
  rw [count_stick h]
  rfl
theorem count_stick2 {b : List Int} {m : Int} {t : Tk} (h : ¬ t.bad = 0) : (tCount b m t).2 = t := by rw [count_stick h]
theorem end_stick {b : List Int} {t : Tk} (h : ¬ t.bad = 0) : tEnd b t = t := by
  unfold tEnd
  rw [four_stick h, if_neg h]
theorem own_form {w : World} {b n : Nat} {e : TypeId} {sz : Nat} {v : Value} {xs : List Value} (h : w.ownsRow b e sz v n xs) : ∃ A c, v = .slice A n c := by
  rcases h.2 with ⟨rfl, rfl⟩ | ⟨g, cap, cur, rfl, _⟩
  · exact ⟨_, _, rfl⟩
  · exact ⟨_, _, rfl⟩
theorem end_a {b : List Int} {p : Nat} (h : ¬ p + 4 ≤ b.length) : tEnd b ⟨p, 0, 0⟩ = ⟨p, 27, b.length⟩ := by
  unfold tEnd
  rw [four_no h, if_neg (by simp)]
theorem end_b {b : List Int} {p : Nat} (h : p + 4 < b.length) : tEnd b ⟨p, 0, 0⟩ = ⟨p + 4, 27, p + 4⟩ := by
  unfold tEnd
  rw [four_yes (by omega), if_pos rfl, if_pos h]
theorem end_c {b : List Int} {p : Nat} (h : p + 4 = b.length) (hs : ¬ v4 (b.drop p) = sumB (b.take p)) : tEnd b ⟨p, 0, 0⟩ = ⟨p + 4, 28, p⟩ := by
  unfold tEnd
  rw [four_yes (by omega), if_pos rfl, if_neg (by simp; omega), if_neg hs]
theorem end_d {b : List Int} {p : Nat} (h : p + 4 = b.length) (hs : v4 (b.drop p) = sumB (b.take p)) : tEnd b ⟨p, 0, 0⟩ = ⟨p + 4, 0, 0⟩ := by
  unfold tEnd
  rw [four_yes (by omega), if_pos rfl, if_neg (by simp; omega), if_pos hs]
theorem end_good {b : List Int} {p : Nat} (h : (tEnd b ⟨p, 0, 0⟩).bad = 0) : tEnd b ⟨p, 0, 0⟩ = ⟨(tEnd b ⟨p, 0, 0⟩).pos, 0, 0⟩ := by
  by_cases h1 : p + 4 ≤ b.length
  · by_cases h2 : p + 4 < b.length
    · rw [end_b h2] at h; cases h
    · by_cases h3 : v4 (b.drop p) = sumB (b.take p)
      · rw [end_d (by omega) h3]
      · rw [end_c (by omega) h3] at h; cases h
  · rw [end_a h1] at h; cases h
theorem all_len {α : Type} {b : List Int} {m : Nat} {f : Tk → α × Tk} {p : Nat} (hb : AreB b) (h : (tAll b (m : Int) f ⟨p, 0, 0⟩).2.bad = 0) : (tAll b (m : Int) f ⟨p, 0, 0⟩).1.length ≤ m := by
  by_cases hg : (tCount b m ⟨p, 0, 0⟩).2.bad = 0
  · have := (count_range hb hg).2
    have hl : ∀ (n : Nat) (t : Tk), (tList f n t).1.length ≤ n := by
      intro n
      induction n with
      | zero => intro t; simp [tList]
      | succ n ih =>
        intro t
        rw [tList]
        split
        · have := ih (f t).2
          simp
          omega
        · simp
    have h2 := hl (tCount b m ⟨p, 0, 0⟩).1.toNat (tCount b m ⟨p, 0, 0⟩).2
    unfold tAll
    omega
  · rw [all_bad hg] at h
    exact absurd h hg
theorem ownsRow_mono {w : World} {b b' : Nat} {e : TypeId} {k n : Nat} {v : Value} {xs : List Value} (h : w.ownsRow b e k v n xs) (hb : b' ≤ b) : w.ownsRow b' e k v n xs := by
  refine ⟨h.1, ?_⟩
  rcases h.2 with h0 | ⟨g, cap, cur, hv, hg, r⟩
  · exact Or.inl h0
  · exact Or.inr ⟨g, cap, cur, hv, Nat.le_trans hb hg, r⟩
theorem iVals_get {K : IntKind} {l : List Int} {i : Nat} (h : i < l.length) : (iVals K l)[i]? = some (.int K (nth l i)) := by simp [iVals, nth, List.getD, h]
theorem add_add (j k i : Nat) : ((⟨j, 0, none⟩ : Addr).add k).add i = (⟨j, 0, none⟩ : Addr).add (k + i) := by
  rw [add0, add0]
  unfold Addr.add
  split
  · next h => subst h; rfl
  · rfl
theorem row_ints {w : World} {base c n : Nat} {e : TypeId} {A : Option Addr} {K : IntKind} {l : List Int} (h : w.ownsRow base e 1 (.slice A n c) l.length (iVals K l)) : IntsAt w A K l := fun i hi => by
  rcases h.2 with ⟨_, h0⟩ | ⟨j, cap, cur, hv, hb, hg, hc, _⟩
  · omega
  · cases hv
    exact ⟨_, rfl, h.cells rfl i _ (iVals_get hi)⟩
theorem row_keep {w w1 : World} {base n : Nat} {e : TypeId} {sz : Nat} {v : Value} {xs : List Value} (h : w.ownsRow base e sz v n xs) (hb : Below w.heap.size w w1) : w1.ownsRow base e sz v n xs := by
  refine h.kept (row := none) ⟨hb.os, hb.tape, hb.output, hb.size, fun k hk _ => hb.block k hk⟩ ?_
  cases hv : v.ownBlock <;> simp
theorem lb_box {w w1 : World} {B : Nat} {cs : Array Value} {t : TypeId} (h : w.heap[B]? = some (.cells cs t (0, 0))) (hb : Below w.heap.size w w1) : w1.heap[B]? = some (.cells cs t (0, 0)) := by
  rw [hb.block B (Array.getElem?_eq_some_iff.1 h).1]; exact h

/-- The two lists of an image, each a row of its own behind base. -/
structure RowsI (w : World) (base : Nat) (A1 A2 : Option Addr) (c1 c2 : Nat) (text mem : List Int) : Prop where
  r1 : w.ownsRow base 55 1 (.slice A1 text.length c1) text.length (iVals .u32 text)
  r2 : w.ownsRow base 2 1 (.slice A2 mem.length c2) mem.length (iVals .i64 mem)
theorem RowsI.keep {w w1 : World} {base : Nat} {A1 A2 : Option Addr} {c1 c2 : Nat} {text mem : List Int} (h : RowsI w base A1 A2 c1 c2 text mem) (hb : Below w.heap.size w w1) : RowsI w1 base A1 A2 c1 c2 text mem := ⟨row_keep h.r1 hb, row_keep h.r2 hb⟩
theorem RowsI.mono {w : World} {base base' : Nat} {A1 A2 : Option Addr} {c1 c2 : Nat} {text mem : List Int} (h : RowsI w base A1 A2 c1 c2 text mem) (hb : base' ≤ base) : RowsI w base' A1 A2 c1 c2 text mem := ⟨ownsRow_mono h.r1 hb, ownsRow_mono h.r2 hb⟩
theorem RowsI.but {w w1 : World} {g base : Nat} {A1 A2 : Option Addr} {c1 c2 : Nat} {text mem : List Int} (h : RowsI w base A1 A2 c1 c2 text mem) (hb : But g w w1) (hg : g < base) : RowsI w1 base A1 A2 c1 c2 text mem := ⟨row_but h.r1 hg hb, row_but h.r2 hg hb⟩
theorem row_setB {w1 : World} {B base n : Nat} {e : TypeId} {sz : Nat} {v : Value} {xs : List Value} (h : w1.ownsRow base e sz v n xs) (hB : B < base) (i : Nat) (x : Value) : (w1.setCell ⟨B, i, none⟩ x).ownsRow base e sz v n xs := ownsRow_setCell_below h hB x
theorem RowsI.set {w : World} {B base : Nat} {A1 A2 : Option Addr} {c1 c2 : Nat} {text mem : List Int} (h : RowsI w base A1 A2 c1 c2 text mem) (hB : B < base) (i : Nat) (x : Value) : RowsI (w.setCell ⟨B, i, none⟩ x) base A1 A2 c1 c2 text mem := ⟨row_setB h.r1 hB i x, row_setB h.r2 hB i x⟩
theorem no_ints (w : World) (K : IntKind) : IntsAt w none K [] := fun i hi => by simp at hi











end Go.Proofs.Ytpmaiblgnblpeaa
