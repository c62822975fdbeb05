/-
  Lists of blocks, how they lie in memory. A row that is written from its end on. A row of cells and a map are not one; new blocks.
-/
import Derived.Test.YtgkdagnpefgjcaaGreatProg
import Derived.WalkKit
import Derived.WalkSpells
import Derived.WalkLawsBesides
import Derived.RowKit3
import Derived.Below
import Derived.Deep.QuietTactic
import Derived.BigQuiet
import Derived.WalkSmall
import Derived.Laws.Rows
import Derived.Deep.AppendLies
import Derived.Test.YtgkdagnpefgjcaaGreatPr12
import Derived.Test.YtgkdagnpefgjcaaGreatPr05
import Derived.Test.YtgkdagnpefgjcaaGreatPr11
namespace Go.Proofs.YtgkdagnpefgjcaaGreat
open Go.RowKit

/-- The cells of a list of blocks. -/
def dNews : List Rel → List Value
  | [] => []
  | x :: l => .int .i64 x.1 :: .int .i64 x.2 :: dNews l
theorem dNews_append : ∀ a b : List Rel, dNews (a ++ b) = dNews a ++ dNews b
  | [], _ => rfl
  | x :: a, b => by rw [List.cons_append, dNews, dNews, dNews_append a b]; rfl
theorem dNews_snoc (a : List Rel) (x : Rel) : dNews (a ++ [x]) = dNews a ++ [.int .i64 x.1, .int .i64 x.2] := dNews_append a [x]
theorem dNews_len : ∀ l : List Rel, (dNews l).length = l.length * 2
  | [] => rfl
  | x :: l => by simp [dNews, dNews_len l]; omega
theorem dNews_get : ∀ {l : List Rel} {i : Nat}, i < l.length → (dNews l)[i * 2]? = some (.int .i64 (rAt l i)) ∧ (dNews l)[i * 2 + 1]? = some (.int .i64 (rSym l i))
  | [], _, h => absurd h (Nat.not_lt_zero _)
  | x :: l, 0, _ => ⟨rfl, rfl⟩
  | x :: l, i + 1, h => by
    have := dNews_get (l := l) (i := i) (by simpa using h)
    rw [show (i + 1) * 2 = i * 2 + 1 + 1 by omega]
    exact this
theorem dNews_one : ∀ (l : List Rel), ∀ u ∈ dNews l, u.oneCell' = true
  | [], u, hu => by simp [dNews] at hu
  | x :: l, u, hu => by
    simp only [dNews, List.mem_cons] at hu
    rcases hu with rfl | rfl | hu
    · rfl
    · rfl
    · exact dNews_one l u hu
theorem dNews_cell {w : World} {a : Addr} {zs : List Rel} (hA : RelsAt w (some a) zs) (j : Nat) (u : Value) (h : (dNews zs)[j]? = some u) : w.cell? (a.add j) = some u := by
  have hj : j < zs.length * 2 := by
    have := (List.getElem?_eq_some_iff.1 h).1; rwa [dNews_len] at this
  obtain ⟨i, hi⟩ : ∃ i, i = j / 2 := ⟨_, rfl⟩
  obtain ⟨b, e, c0, c1⟩ := hA i (by omega)
  obtain rfl := Option.some.inj e
  obtain ⟨g0, g1⟩ := dNews_get (l := zs) (i := i) (by omega)
  have hm : j = i * 2 ∨ j = i * 2 + 1 := by omega
  clear hi
  rcases hm with rfl | rfl
  · rw [c0, ← h, g0]
  · rw [g1] at h
    rw [← h, ← Deep.add_add]
    exact c1
theorem drow_rels {w : World} {base c n : Nat} {e : TypeId} {A : Option Addr} {l : List Rel} (h : w.ownsRow base e 2 (.slice A n c) l.length (dNews l)) : RelsAt w A l := fun i hi => by
  rcases h.2 with ⟨_, h0⟩ | ⟨j, cap, cur, hv, hb, hg, hc, _⟩
  · omega
  · cases hv
    obtain ⟨a, b⟩ := dNews_get hi
    exact ⟨_, rfl, h.cells rfl _ _ a, by rw [Deep.add_add]; exact h.cells rfl _ _ b⟩
theorem no_rels (w : World) : RelsAt w none [] := fun i hi => by simp at hi
theorem infoB : ∃ i, Tryz.prog.info? 46 = some i ∧ i.zero = some (.agg #[.int .i64 0, .int .i64 0]) ∧ i.size = 2 ∧ i.bytes = 16 :=
  ⟨(Tryz.prog.info? 46).get (by kernel_rfl), by kernel_rfl, by kernel_rfl, by kernel_rfl, by kernel_rfl⟩
theorem two_oneI {x y : Int} : ∀ u ∈ [Value.int .i64 x, .int .i64 y], u.oneCell' = true := fun u hu => by
  simp only [List.mem_cons, List.not_mem_nil, or_false] at hu
  rcases hu with rfl | rfl <;> rfl


end Go.Proofs.YtgkdagnpefgjcaaGreat

namespace Go.Proofs.YtgkdagnpefgjcaaGreat
open Go.RowKit

theorem wdn_set2 (f z : Nat → Value) (N k : Nat) (h : k + 1 < N) : (((wcur z f N (k + 2)).setIfInBounds k (f k)).setIfInBounds (k + 1) (f (k + 1))) = wcur z f N k := by
  apply Array.ext_getElem?
  intro i
  by_cases hi : i < N
  · rw [wcur_get _ _ _ _ _ hi, Array.getElem?_setIfInBounds, Array.size_setIfInBounds, wcur_size, Array.getElem?_setIfInBounds, wcur_size]
    by_cases h1 : k + 1 = i
    · subst h1; rw [if_pos rfl, if_pos h, if_neg (by omega)]
    · rw [if_neg h1]
      by_cases h2 : k = i
      · subst h2; rw [if_pos rfl, if_pos hi, if_neg (by omega)]
      · rw [if_neg h2, wcur_get _ _ _ _ _ hi]
        by_cases h3 : i < k
        · simp [h3, show i < k + 2 by omega]
        · simp [h3, show ¬ i < k + 2 by omega]
  · rw [Array.getElem?_eq_none (by simp [wcur_size]; omega), Array.getElem?_eq_none (by simp [wcur_size]; omega)]
/-- Where the block ahead of the beginning j ends. -/
def endB (ps : List Int) (n : Int) (j : Nat) : Int := if j < ps.length then nth ps j else n
def bCell (ps : List Int) (n : Int) (i : Nat) : Value := if i % 2 = 0 then .int .i64 (nth ps (i / 2)) else .int .i64 (endB ps n (i / 2 + 1))
def zCell (_ : Nat) : Value := .int .i64 0
theorem bCell0 (ps : List Int) (n : Int) (k : Nat) : bCell ps n (k * 2) = .int .i64 (nth ps k) := by
  have e : (k * 2) / 2 = k := by omega
  have m : (k * 2) % 2 = 0 := by omega
  unfold bCell
  rw [if_pos m, e]
theorem bCell1 (ps : List Int) (n : Int) (k : Nat) : bCell ps n (k * 2 + 1) = .int .i64 (endB ps n (k + 1)) := by
  have e : (k * 2 + 1) / 2 = k := by omega
  have m : ¬ (k * 2 + 1) % 2 = 0 := by omega
  unfold bCell
  rw [if_neg m, e]
theorem blk_step (ps : List Int) (n : Int) (k : Nat) (h : k < ps.length) : (((wcur zCell (bCell ps n) (ps.length * 2) ((k + 1) * 2)).setIfInBounds (k * 2) (.int .i64 (nth ps k))).setIfInBounds (k * 2 + 1) (.int .i64 (endB ps n (k + 1)))) = wcur zCell (bCell ps n) (ps.length * 2) (k * 2) := by
  rw [← bCell0 ps n k, ← bCell1 ps n k, show (k + 1) * 2 = k * 2 + 2 by omega]
  exact wdn_set2 _ _ _ _ (by omega)
theorem blk_done (ps : List Int) (n : Int) : (wcur zCell (bCell ps n) (ps.length * 2) 0).toList = dNews (zipN ps n) := by
  apply List.ext_getElem?
  intro i
  rw [Array.getElem?_toList]
  by_cases hi : i < ps.length * 2
  · rw [wcur_get _ _ _ _ _ hi, if_neg (by omega)]
    obtain ⟨k, hk⟩ : ∃ k, i = k * 2 ∨ i = k * 2 + 1 := ⟨i / 2, by omega⟩
    have hkl : k < ps.length := by omega
    obtain ⟨g0, g1⟩ := dNews_get (l := zipN ps n) (i := k) (by rw [zipN_len]; exact hkl)
    obtain ⟨z0, z1⟩ := zipN_at ps n k hkl
    rcases hk with rfl | rfl
    · rw [g0, bCell0, z0]
    · rw [g1, bCell1, z1]; rfl
  · rw [Array.getElem?_eq_none (by simp [wcur_size]; omega), List.getElem?_eq_none (by rw [dNews_len, zipN_len]; omega)]
theorem made_blk (ps : List Int) (n : Int) (N : Nat) : madeCells #[.int .i64 0, .int .i64 0] N = wcur zCell (bCell ps n) N N := by
  apply Array.ext_getElem?
  intro i
  by_cases hi : i < N
  · rw [wcur_get _ _ _ _ _ hi, if_pos hi]
    have h : i % 2 = 0 ∨ i % 2 = 1 := by omega
    rcases h with h | h <;> simp [madeCells, hi, h, zCell]
  · rw [Array.getElem?_eq_none (by simp [madeCells]; omega), Array.getElem?_eq_none (by simp [wcur_size]; omega)]
theorem make_blk (ps : List Int) (n : Int) (hn : ps.length ≤ 1048576) (w : World) : (Instr.makeSlice 28 (.int .i64 (ps.length : Int)) (.int .i64 (ps.length : Int))).run Tryz.prog w = .ok (.slice (some ⟨w.heap.size, 0, none⟩) ps.length ps.length) (w.alloc (.cells (wcur zCell (bCell ps n) (ps.length * 2) (ps.length * 2)) 46)) := by
  obtain ⟨i, hi, hz, hs, hb⟩ := infoB
  have h := run_makeSlice (P := Tryz.prog) w 28 46 i _ Tryz.underlying28 hi hz .i64 .i64 (ps.length : Int) (ps.length : Int) (by omega) (by omega) (by rw [hs]; omega) (by rw [hb]; omega) (by omega)
  rw [hs, show ((ps.length : Int)).toNat = ps.length by omega] at h
  rw [h, ← made_blk ps n (ps.length * 2)]
  rfl
theorem own_blk (ps : List Int) (n : Int) (w : World) (hn : ps.length ≤ 1048576) : (w.alloc (.cells (wcur zCell (bCell ps n) (ps.length * 2) 0) 46)).ownsRow w.heap.size 46 2 (.slice (some ⟨w.heap.size, 0, none⟩) (zipN ps n).length ps.length) (zipN ps n).length (dNews (zipN ps n)) := by
  refine ⟨by rw [dNews_len], Or.inr ⟨w.heap.size, ps.length, wcur zCell (bCell ps n) (ps.length * 2) 0, rfl, Nat.le_refl _, heap_alloc_new _ _, by rw [zipN_len]; exact Nat.le_refl _, by unfold maxLen; omega, by rw [wcur_size], ?_⟩⟩
  rw [zipN_len, blk_done, List.take_of_length_le (by rw [dNews_len, zipN_len]; exact Nat.le_refl _)]
/-- An answer of Blocks. -/
def BlkP (E : Int) (l : List Rel) (w : World) (e : Ending) (w' : World) : Prop :=
  ∃ (A : Option Addr) (c : Nat), e = .returned (.tuple #[.slice A l.length c, .int .i64 E]) ∧ w'.ownsRow w.heap.size 46 2 (.slice A l.length c) l.length (dNews l) ∧ Below w.heap.size w w'
def outB (text : List Int) (ml : Nat) (ent : Int) : List Rel := if (checkI text ml ent).1 = 0 then blkL text ent else []


end Go.Proofs.YtgkdagnpefgjcaaGreat

namespace Go.Proofs.YtgkdagnpefgjcaaGreat
open Go.RowKit

theorem newAtK {w : World} {o : Obj} {n : Nat} (h : n = w.heap.size) : (w.alloc o).heap[n]? = some o := by subst h; exact heap_alloc_new w o
theorem Mks.notrow {w : World} {b n : Nat} {f : Int → Bool} (h : Mks w b n f) {base : Nat} {e : TypeId} {sz : Nat} {v : Value} {m : Nat} {xs : List Value} (hr : w.ownsRow base e sz v m xs) : some b ≠ v.ownBlock := by
  obtain ⟨D, ⟨es, clock, h1, h2⟩, h3⟩ := h
  rcases hr.2 with ⟨rfl, _⟩ | ⟨g, cap, cur, rfl, _, hg2, _⟩
  · intro e; cases e
  · intro e
    cases e
    rw [h1] at hg2
    cases hg2


end Go.Proofs.YtgkdagnpefgjcaaGreat
