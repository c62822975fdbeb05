/-
  How a list of objects, copied with marks, lies. WideObjects of the document's helpers: a list of objects in memory of its own, with marks. Two lists of numbers compared, by the document's helpers: true just if they are one list; the first is at most 2^20 long. Two lists of symbols, of relocations compared, by the document's helpers: true just if they are one list; the first is at most 2^20 long. An object compared with one that is the same, by the document's helper: true; the lists are at most 2^20 long.
-/
import Derived.Test.YtiihfkjgdhfmiaaProg
import Derived.WalkKit
import Derived.WalkSpells
import Derived.WalkLawsBesides
import Derived.RowKit3
import Derived.Below
import Derived.Deep.QuietTactic
import Derived.BigQuiet
import Derived.WalkSmall
import Derived.Laws.Rows
import Derived.Test.YtiihfkjgdhfmiaaSR02
import Derived.Test.YtiihfkjgdhfmiaaSR06
import Derived.Test.YtiihfkjgdhfmiaaSR01
namespace Go.Proofs.Ytiihfkjgdhfmiaa
open Go.RowKit

/-- The cells of a list copied with marks: the lists of the object at a place lie behind a block. -/
def wOb (l : List Ob) (s i : Nat) : Value := if i / 6 < l.length then (#[.string (ob l (i / 6)).nm, .slice (some ⟨s + 6 * (i / 6) + 2, 0, none⟩) (ob l (i / 6)).code.length ((ob l (i / 6)).code.length + 64), .int .i64 (ob l (i / 6)).dA, .slice (some ⟨s + 6 * (i / 6) + 3, 0, none⟩) (ob l (i / 6)).data.length ((ob l (i / 6)).data.length + 64), .slice (some ⟨s + 6 * (i / 6) + 4, 0, none⟩) (ob l (i / 6)).ss.length ((ob l (i / 6)).ss.length + 64), .slice (some ⟨s + 6 * (i / 6) + 5, 0, none⟩) (ob l (i / 6)).rs.length ((ob l (i / 6)).rs.length + 64)] : Array Value).getD (i % 6) (.int .i64 0) else (#[.string ⟨#[]⟩, .slice none 0 0, .int .i64 (9437184 + (i / 6 : Nat) + 1), .slice none 0 0, .slice none 0 0, .slice none 0 0] : Array Value).getD (i % 6) (.int .i64 0)
def zOb (i : Nat) : Value := (#[.string ⟨#[]⟩, .slice none 0 0, .int .i64 0, .slice none 0 0, .slice none 0 0, .slice none 0 0] : Array Value).getD (i % 6) (.int .i64 0)
theorem wOb_item0 (l : List Ob) (s k : Nat) (h : k < l.length) : wOb l s (k * 6) = .string (ob l k).nm := by
  have e : (k * 6) / 6 = k := by omega
  have m : (k * 6) % 6 = 0 := by omega
  simp [wOb, e, m, h]
theorem wOb_item1 (l : List Ob) (s k : Nat) (h : k < l.length) : wOb l s (k * 6 + 1) = .slice (some ⟨s + 6 * k + 2, 0, none⟩) (ob l k).code.length ((ob l k).code.length + 64) := by
  have e : (k * 6 + 1) / 6 = k := by omega
  have m : (k * 6 + 1) % 6 = 1 := by omega
  simp [wOb, e, m, h]
theorem wOb_item2 (l : List Ob) (s k : Nat) (h : k < l.length) : wOb l s (k * 6 + 2) = .int .i64 (ob l k).dA := by
  have e : (k * 6 + 2) / 6 = k := by omega
  have m : (k * 6 + 2) % 6 = 2 := by omega
  simp [wOb, e, m, h]
theorem wOb_item3 (l : List Ob) (s k : Nat) (h : k < l.length) : wOb l s (k * 6 + 3) = .slice (some ⟨s + 6 * k + 3, 0, none⟩) (ob l k).data.length ((ob l k).data.length + 64) := by
  have e : (k * 6 + 3) / 6 = k := by omega
  have m : (k * 6 + 3) % 6 = 3 := by omega
  simp [wOb, e, m, h]
theorem wOb_item4 (l : List Ob) (s k : Nat) (h : k < l.length) : wOb l s (k * 6 + 4) = .slice (some ⟨s + 6 * k + 4, 0, none⟩) (ob l k).ss.length ((ob l k).ss.length + 64) := by
  have e : (k * 6 + 4) / 6 = k := by omega
  have m : (k * 6 + 4) % 6 = 4 := by omega
  simp [wOb, e, m, h]
theorem wOb_item5 (l : List Ob) (s k : Nat) (h : k < l.length) : wOb l s (k * 6 + 5) = .slice (some ⟨s + 6 * k + 5, 0, none⟩) (ob l k).rs.length ((ob l k).rs.length + 64) := by
  have e : (k * 6 + 5) / 6 = k := by omega
  have m : (k * 6 + 5) % 6 = 5 := by omega
  simp [wOb, e, m, h]
theorem wOb_mark0 (l : List Ob) (s k : Nat) (h : ¬ k < l.length) : wOb l s (k * 6) = .string ⟨#[]⟩ := by
  have e : (k * 6) / 6 = k := by omega
  have m : (k * 6) % 6 = 0 := by omega
  simp [wOb, e, m, h]
theorem wOb_mark1 (l : List Ob) (s k : Nat) (h : ¬ k < l.length) : wOb l s (k * 6 + 1) = .slice none 0 0 := by
  have e : (k * 6 + 1) / 6 = k := by omega
  have m : (k * 6 + 1) % 6 = 1 := by omega
  simp [wOb, e, m, h]
theorem wOb_mark2 (l : List Ob) (s k : Nat) (h : ¬ k < l.length) : wOb l s (k * 6 + 2) = .int .i64 (9437184 + k + 1) := by
  have e : (k * 6 + 2) / 6 = k := by omega
  have m : (k * 6 + 2) % 6 = 2 := by omega
  simp [wOb, e, m, h]
theorem wOb_mark3 (l : List Ob) (s k : Nat) (h : ¬ k < l.length) : wOb l s (k * 6 + 3) = .slice none 0 0 := by
  have e : (k * 6 + 3) / 6 = k := by omega
  have m : (k * 6 + 3) % 6 = 3 := by omega
  simp [wOb, e, m, h]
theorem wOb_mark4 (l : List Ob) (s k : Nat) (h : ¬ k < l.length) : wOb l s (k * 6 + 4) = .slice none 0 0 := by
  have e : (k * 6 + 4) / 6 = k := by omega
  have m : (k * 6 + 4) % 6 = 4 := by omega
  simp [wOb, e, m, h]
theorem wOb_mark5 (l : List Ob) (s k : Nat) (h : ¬ k < l.length) : wOb l s (k * 6 + 5) = .slice none 0 0 := by
  have e : (k * 6 + 5) / 6 = k := by omega
  have m : (k * 6 + 5) % 6 = 5 := by omega
  simp [wOb, e, m, h]
theorem wcur_step {f z : Nat → Value} {N k : Nat} {v : Value} (hv : f k = v) (h : k < N) : (wcur f z N k).setIfInBounds k v = wcur f z N (k + 1) := by
  rw [← hv]
  exact wcur_set f z N k h
theorem ob_item (l : List Ob) (s k : Nat) (h : k < l.length) : ((((((wcur (wOb l s) zOb ((l.length + 64) * 6) (k * 6)).setIfInBounds (k * 6) (.string (ob l k).nm)).setIfInBounds (k * 6 + 1) (.slice (some ⟨s + 6 * k + 2, 0, none⟩) (ob l k).code.length ((ob l k).code.length + 64))).setIfInBounds (k * 6 + 2) (.int .i64 (ob l k).dA)).setIfInBounds (k * 6 + 3) (.slice (some ⟨s + 6 * k + 3, 0, none⟩) (ob l k).data.length ((ob l k).data.length + 64))).setIfInBounds (k * 6 + 4) (.slice (some ⟨s + 6 * k + 4, 0, none⟩) (ob l k).ss.length ((ob l k).ss.length + 64))).setIfInBounds (k * 6 + 5) (.slice (some ⟨s + 6 * k + 5, 0, none⟩) (ob l k).rs.length ((ob l k).rs.length + 64)) = wcur (wOb l s) zOb ((l.length + 64) * 6) ((k + 1) * 6) := by
  rw [wcur_step (wOb_item0 l s k h) (by omega), wcur_step (wOb_item1 l s k h) (by omega), wcur_step (wOb_item2 l s k h) (by omega), wcur_step (wOb_item3 l s k h) (by omega), wcur_step (wOb_item4 l s k h) (by omega), wcur_step (wOb_item5 l s k h) (by omega), show (k + 1) * 6 = k * 6 + 6 by omega]
theorem ob_mark (l : List Ob) (s k : Nat) (hk : k < l.length + 64) (h : ¬ k < l.length) : ((((((wcur (wOb l s) zOb ((l.length + 64) * 6) (k * 6)).setIfInBounds (k * 6) (.string ⟨#[]⟩)).setIfInBounds (k * 6 + 1) (.slice none 0 0)).setIfInBounds (k * 6 + 2) (.int .i64 (9437184 + k + 1))).setIfInBounds (k * 6 + 3) (.slice none 0 0)).setIfInBounds (k * 6 + 4) (.slice none 0 0)).setIfInBounds (k * 6 + 5) (.slice none 0 0) = wcur (wOb l s) zOb ((l.length + 64) * 6) ((k + 1) * 6) := by
  rw [wcur_step (wOb_mark0 l s k h) (by omega), wcur_step (wOb_mark1 l s k h) (by omega), wcur_step (wOb_mark2 l s k h) (by omega), wcur_step (wOb_mark3 l s k h) (by omega), wcur_step (wOb_mark4 l s k h) (by omega), wcur_step (wOb_mark5 l s k h) (by omega), show (k + 1) * 6 = k * 6 + 6 by omega]
theorem info65 : ∃ i, Try.prog.info? 49 = some i ∧ i.zero = some (.agg #[.string ⟨#[]⟩, .slice none 0 0, .int .i64 0, .slice none 0 0, .slice none 0 0, .slice none 0 0]) ∧ i.size = 6 ∧ i.bytes = 120 :=
  ⟨(Try.prog.info? 49).get (by kernel_rfl), by kernel_rfl, by kernel_rfl, by kernel_rfl, by kernel_rfl⟩
theorem made_ob (f : Nat → Value) (N : Nat) : madeCells #[.string ⟨#[]⟩, .slice none 0 0, .int .i64 0, .slice none 0 0, .slice none 0 0, .slice none 0 0] N = wcur f zOb N 0 := by
  apply Array.ext_getElem?
  intro i
  by_cases hi : i < N
  · rw [wcur_get _ _ _ _ _ hi]
    have h : i % 6 = 0 ∨ i % 6 = 1 ∨ i % 6 = 2 ∨ i % 6 = 3 ∨ i % 6 = 4 ∨ i % 6 = 5 := by omega
    rcases h with h | h | h | h | h | h <;> simp [madeCells, hi, h, zOb]
  · rw [Array.getElem?_eq_none (by simp [madeCells]; omega), Array.getElem?_eq_none (by simp [wcur_size]; omega)]
theorem make53 (f : Nat → Value) (n : Nat) (hn : n ≤ 1048576) (w : World) : (Instr.makeSlice 22 (.int .i64 ((n : Int) + 64)) (.int .i64 ((n : Int) + 64))).run Try.prog w = .ok (.slice (some ⟨w.heap.size, 0, none⟩) (n + 64) (n + 64)) (w.alloc (.cells (wcur f zOb ((n + 64) * 6) 0) 49)) := by
  obtain ⟨i, hi, hz, hs, hb⟩ := info65
  have h := run_makeSlice (P := Try.prog) w 22 49 i _ Try.underlying22 hi hz .i64 .i64 ((n : Int) + 64) ((n : Int) + 64) (by omega) (by omega) (by rw [hs]; omega) (by rw [hb]; omega) (by omega)
  rw [hs, show ((n : Int) + 64).toNat = n + 64 by omega] at h
  rw [h, ← made_ob f ((n + 64) * 6)]
  rfl
/-- The four blocks of an object's lists, behind a block. -/
def Blk (w : World) (o : Ob) (b : Nat) : Prop := w.heap[b + 2]? = some (.cells (wcur (wInt .u32 o.code) (fun _ => .int .u32 0) (o.code.length + 64) (o.code.length + 64)) 78 (0, 0)) ∧ w.heap[b + 3]? = some (.cells (wcur (wInt .i64 o.data) (fun _ => .int .i64 0) (o.data.length + 64) (o.data.length + 64)) 2 (0, 0)) ∧ w.heap[b + 4]? = some (.cells (wcur (wSym o.ss) zSym ((o.ss.length + 64) * 3) ((o.ss.length + 64) * 3)) 52 (0, 0)) ∧ w.heap[b + 5]? = some (.cells (wcur (wRel o.rs) (fun _ => .int .i64 0) ((o.rs.length + 64) * 2) ((o.rs.length + 64) * 2)) 96 (0, 0))
theorem blk_ints {w : World} {g : Nat} {K : IntKind} {z : Nat → Value} {zs : List Int} {t : TypeId} (h : w.heap[g]? = some (.cells (wcur (wInt K zs) z (zs.length + 64) (zs.length + 64)) t (0, 0))) : IntsAt w (some ⟨g, 0, none⟩) K zs := fun i hi =>
  ⟨_, rfl, by rw [addz, Lib.cell_of_heap h, wcur_full _ _ _ _ (by omega)]; simp [wInt, hi]⟩
theorem blk_marki {w : World} {g : Nat} {K : IntKind} {z : Nat → Value} {zs : List Int} {t : TypeId} (h : w.heap[g]? = some (.cells (wcur (wInt K zs) z (zs.length + 64) (zs.length + 64)) t (0, 0))) : MarkI w K g zs.length := fun i h1 h2 => by
  rw [Lib.cell_of_heap h, wcur_full _ _ _ _ h2]; simp [wInt, mark, show ¬ i < zs.length by omega]
theorem blk_syms {w : World} {g : Nat} {zs : List Sym} {t : TypeId} (h : w.heap[g]? = some (.cells (wcur (wSym zs) zSym ((zs.length + 64) * 3) ((zs.length + 64) * 3)) t (0, 0))) : SymsAt w (some ⟨g, 0, none⟩) zs := fun i hi =>
  ⟨_, rfl, by rw [addz, Lib.cell_of_heap h, wcur_full _ _ _ _ (by omega), wSym_item0 zs i hi], by rw [addz2 _ _ _ (by omega), Lib.cell_of_heap h, wcur_full _ _ _ _ (by omega), wSym_item1 zs i hi], by rw [addz2 _ _ _ (by omega), Lib.cell_of_heap h, wcur_full _ _ _ _ (by omega), wSym_item2 zs i hi]⟩
theorem blk_marks {w : World} {g : Nat} {zs : List Sym} {t : TypeId} (h : w.heap[g]? = some (.cells (wcur (wSym zs) zSym ((zs.length + 64) * 3) ((zs.length + 64) * 3)) t (0, 0))) : MarkS w g zs.length := fun i h1 h2 =>
  ⟨by rw [Lib.cell_of_heap h, wcur_full _ _ _ _ (by omega), wSym_mark0 zs i (by omega)], by rw [Lib.cell_of_heap h, wcur_full _ _ _ _ (by omega), wSym_mark1 zs i (by omega)], by rw [Lib.cell_of_heap h, wcur_full _ _ _ _ (by omega), wSym_mark2 zs i (by omega)]⟩
theorem blk_rels {w : World} {g : Nat} {z : Nat → Value} {zs : List Rel} {t : TypeId} (h : w.heap[g]? = some (.cells (wcur (wRel zs) z ((zs.length + 64) * 2) ((zs.length + 64) * 2)) t (0, 0))) : RelsAt w (some ⟨g, 0, none⟩) zs := fun i hi =>
  ⟨_, rfl, by rw [addz, Lib.cell_of_heap h, wcur_full _ _ _ _ (by omega), wRel_item0 zs i hi], by rw [addz2 _ _ _ (by omega), Lib.cell_of_heap h, wcur_full _ _ _ _ (by omega), wRel_item1 zs i hi]⟩
theorem blk_markr {w : World} {g : Nat} {z : Nat → Value} {zs : List Rel} {t : TypeId} (h : w.heap[g]? = some (.cells (wcur (wRel zs) z ((zs.length + 64) * 2) ((zs.length + 64) * 2)) t (0, 0))) : MarkR w g zs.length := fun i h1 h2 =>
  ⟨by rw [Lib.cell_of_heap h, wcur_full _ _ _ _ (by omega), wRel_mark0 zs i (by omega)], by rw [Lib.cell_of_heap h, wcur_full _ _ _ _ (by omega), wRel_mark1 zs i (by omega)]⟩
def GO (s i : Nat) : Nat × Nat × Nat × Nat := (s + 6 * i + 2, s + 6 * i + 3, s + 6 * i + 4, s + 6 * i + 5)
theorem Blk.marks {w : World} {o : Ob} {s i : Nat} (h : Blk w o (s + 6 * i)) : MarkE w o (GO s i) := ⟨blk_marki h.1, blk_marki h.2.1, blk_marks h.2.2.1, blk_markr h.2.2.2⟩
theorem Blk.inn {w w0 : World} {o : Ob} {p : Pl} {s i : Nat} (h : Blk w o (s + 6 * i)) (h0 : ObIn w0 p o) : ObIn w (wpl o (GO s i)) o :=
  ⟨blk_ints h.1, blk_ints h.2.1, blk_syms h.2.2.1, blk_rels h.2.2.2, h0.cr, h0.dr, h0.da, h0.hc, h0.hd, h0.hs, h0.hl, h0.hN, Nat.le_add_right _ _⟩
theorem Blk.keep {w w1 : World} {o : Ob} {b : Nat} (h : Blk w o b) (hk : ∀ i, b + 2 ≤ i → i < b + 6 → w1.heap[i]? = w.heap[i]?) : Blk w1 o b :=
  ⟨(hk _ (by omega) (by omega)).trans h.1, (hk _ (by omega) (by omega)).trans h.2.1, (hk _ (by omega) (by omega)).trans h.2.2.1, (hk _ (by omega) (by omega)).trans h.2.2.2⟩
theorem row_obs {w : World} {g s : Nat} {l : List Ob} (h : w.heap[g]? = some (.cells (wcur (wOb l s) zOb ((l.length + 64) * 6) ((l.length + 64) * 6)) 49 (0, 0))) : ObsAt w (some ⟨g, 0, none⟩) (fun i => wpl (ob l i) (GO s i)) l := fun i hi =>
  ⟨_, rfl, by rw [addz, Lib.cell_of_heap h, wcur_full _ _ _ _ (by omega), wOb_item0 l s i hi], by rw [addz2 _ _ _ (by omega), Lib.cell_of_heap h, wcur_full _ _ _ _ (by omega), wOb_item1 l s i hi]; rfl, by rw [addz2 _ _ _ (by omega), Lib.cell_of_heap h, wcur_full _ _ _ _ (by omega), wOb_item2 l s i hi], by rw [addz2 _ _ _ (by omega), Lib.cell_of_heap h, wcur_full _ _ _ _ (by omega), wOb_item3 l s i hi]; rfl, by rw [addz2 _ _ _ (by omega), Lib.cell_of_heap h, wcur_full _ _ _ _ (by omega), wOb_item4 l s i hi]; rfl, by rw [addz2 _ _ _ (by omega), Lib.cell_of_heap h, wcur_full _ _ _ _ (by omega), wOb_item5 l s i hi]; rfl⟩
theorem row_marks {w : World} {g s : Nat} {l : List Ob} (h : w.heap[g]? = some (.cells (wcur (wOb l s) zOb ((l.length + 64) * 6) ((l.length + 64) * 6)) 49 (0, 0))) : MarkO w g l.length := fun i h1 h2 =>
  ⟨by rw [Lib.cell_of_heap h, wcur_full _ _ _ _ (by omega), wOb_mark0 l s i (by omega)], by rw [Lib.cell_of_heap h, wcur_full _ _ _ _ (by omega), wOb_mark1 l s i (by omega)], by rw [Lib.cell_of_heap h, wcur_full _ _ _ _ (by omega), wOb_mark2 l s i (by omega)], by rw [Lib.cell_of_heap h, wcur_full _ _ _ _ (by omega), wOb_mark3 l s i (by omega)], by rw [Lib.cell_of_heap h, wcur_full _ _ _ _ (by omega), wOb_mark4 l s i (by omega)], by rw [Lib.cell_of_heap h, wcur_full _ _ _ _ (by omega), wOb_mark5 l s i (by omega)]⟩
theorem set_off {w : World} {g k i : Nat} (u : Value) (hi : ¬ g = i) : (w.setCell ⟨g, k, none⟩ u).heap[i]? = w.heap[i]? := by
  simp [World.setCell, Array.getElem?_modify, hi]



end Go.Proofs.Ytiihfkjgdhfmiaa

namespace Go.Proofs.Ytiihfkjgdhfmiaa
open Go.RowKit

theorem set_row {w : World} {g k : Nat} {cur : Array Value} {t : TypeId} (h : w.heap[g]? = some (.cells cur t (0, 0))) (u : Value) : (w.setCell ⟨g, k, none⟩ u).heap[g]? = some (.cells (cur.setIfInBounds k u) t (0, 0)) := by
  simp [World.setCell, Array.getElem?_modify, h]

theorem six_row {w : World} {g k : Nat} {cur : Array Value} {t : TypeId} (h : w.heap[g]? = some (.cells cur t (0, 0))) (v0 v1 v2 v3 v4 v5 : Value) : (((((((w).setCell ⟨g, k * 6, none⟩ (v0)).setCell ⟨g, k * 6 + 1, none⟩ (v1)).setCell ⟨g, k * 6 + 2, none⟩ (v2)).setCell ⟨g, k * 6 + 3, none⟩ (v3)).setCell ⟨g, k * 6 + 4, none⟩ (v4)).setCell ⟨g, k * 6 + 5, none⟩ (v5)).heap[g]? = some (.cells (((((((cur).setIfInBounds (k * 6) (v0)).setIfInBounds (k * 6 + 1) (v1)).setIfInBounds (k * 6 + 2) (v2)).setIfInBounds (k * 6 + 3) (v3)).setIfInBounds (k * 6 + 4) (v4)).setIfInBounds (k * 6 + 5) (v5)) t (0, 0)) :=
  set_row (set_row (set_row (set_row (set_row (set_row h v0) v1) v2) v3) v4) v5
theorem six_off {w : World} {g k i : Nat} (v0 v1 v2 v3 v4 v5 : Value) (hi : ¬ g = i) : (((((((w).setCell ⟨g, k * 6, none⟩ (v0)).setCell ⟨g, k * 6 + 1, none⟩ (v1)).setCell ⟨g, k * 6 + 2, none⟩ (v2)).setCell ⟨g, k * 6 + 3, none⟩ (v3)).setCell ⟨g, k * 6 + 4, none⟩ (v4)).setCell ⟨g, k * 6 + 5, none⟩ (v5)).heap[i]? = w.heap[i]? := by
  rw [set_off _ hi, set_off _ hi, set_off _ hi, set_off _ hi, set_off _ hi, set_off _ hi]
theorem six_below {w0 w : World} {g k : Nat} (v0 v1 v2 v3 v4 v5 : Value) (h : Below g w0 w) : Below g w0 (((((((w).setCell ⟨g, k * 6, none⟩ (v0)).setCell ⟨g, k * 6 + 1, none⟩ (v1)).setCell ⟨g, k * 6 + 2, none⟩ (v2)).setCell ⟨g, k * 6 + 3, none⟩ (v3)).setCell ⟨g, k * 6 + 4, none⟩ (v4)).setCell ⟨g, k * 6 + 5, none⟩ (v5)) :=
  ((((((h.setCell (p := ⟨g, k * 6, none⟩) (Nat.le_refl _) v0).setCell (p := ⟨g, k * 6 + 1, none⟩) (Nat.le_refl _) v1).setCell (p := ⟨g, k * 6 + 2, none⟩) (Nat.le_refl _) v2).setCell (p := ⟨g, k * 6 + 3, none⟩) (Nat.le_refl _) v3).setCell (p := ⟨g, k * 6 + 4, none⟩) (Nat.le_refl _) v4).setCell (p := ⟨g, k * 6 + 5, none⟩) (Nat.le_refl _) v5)
theorem six_size {w : World} {g k : Nat} (v0 v1 v2 v3 v4 v5 : Value) : (((((((w).setCell ⟨g, k * 6, none⟩ (v0)).setCell ⟨g, k * 6 + 1, none⟩ (v1)).setCell ⟨g, k * 6 + 2, none⟩ (v2)).setCell ⟨g, k * 6 + 3, none⟩ (v3)).setCell ⟨g, k * 6 + 4, none⟩ (v4)).setCell ⟨g, k * 6 + 5, none⟩ (v5)).heap.size = w.heap.size := by
  simp [World.setCell]
theorem alloc_at (w : World) (o : Obj) (i : Nat) (h : i < w.heap.size) : (w.alloc o).heap[i]? = w.heap[i]? := (lb_alloc (Below.refl w.heap.size w) o).block i h
theorem wideobj_blk (o : Ob) (p : Pl) (w : World) (h : ObIn w p o) (s k : Nat) (hs : w.heap.size = s + 6 * k) :
    Calls Try.prog 19 #[.agg #[.string o.nm, .slice p.A1 o.code.length p.c1, .int .i64 o.dA, .slice p.A2 o.data.length p.c2, .slice p.A3 o.ss.length p.c3, .slice p.A4 o.rs.length p.c4]] w fun e w' => e = .returned (.agg #[.string o.nm, .slice (some ⟨s + 6 * k + 2, 0, none⟩) o.code.length (o.code.length + 64), .int .i64 o.dA, .slice (some ⟨s + 6 * k + 3, 0, none⟩) o.data.length (o.data.length + 64), .slice (some ⟨s + 6 * k + 4, 0, none⟩) o.ss.length (o.ss.length + 64), .slice (some ⟨s + 6 * k + 5, 0, none⟩) o.rs.length (o.rs.length + 64)]) ∧ Below w.heap.size w w' ∧ Blk w' o (s + 6 * k) ∧ w'.heap.size = s + 6 * (k + 1) := by
  refine (wideobj_any o.nm o.dA p.A1 p.A2 p.A3 p.A4 p.c1 p.c2 p.c3 p.c4 o.code o.data o.ss o.rs w h.cd h.dt h.sy h.rl h.hc h.hd h.hs h.hl).mono ?_
  rintro e w' ⟨rfl, rfl⟩
  refine ⟨by rw [hs], lb_alloc (lb_alloc (lb_alloc (lb_alloc (lb_alloc (lb_alloc (Below.refl _ _) _) _) _) _) _) _, ?_, by simp only [al_size]; omega⟩
  generalize (Obj.cells #[.string o.nm, .slice (some ⟨w.heap.size + 2, 0, none⟩) o.code.length (o.code.length + 64), .int .i64 o.dA, .slice (some ⟨w.heap.size + 3, 0, none⟩) o.data.length (o.data.length + 64), .slice (some ⟨w.heap.size + 4, 0, none⟩) o.ss.length (o.ss.length + 64), .slice (some ⟨w.heap.size + 5, 0, none⟩) o.rs.length (o.rs.length + 64)] 49) = X
  refine ⟨?_, ?_, ?_, ?_⟩
  · rw [alloc_at _ _ _ (by simp only [al_size]; omega), alloc_at _ _ _ (by simp only [al_size]; omega), alloc_at _ _ _ (by simp only [al_size]; omega)]
    rw [show s + 6 * k + 2 = ((w.alloc X).alloc X).heap.size by simp only [al_size]; omega]
    exact heap_alloc_new _ _
  · rw [alloc_at _ _ _ (by simp only [al_size]; omega), alloc_at _ _ _ (by simp only [al_size]; omega)]
    rw [show s + 6 * k + 3 = (((w.alloc X).alloc X).alloc (.cells (wcur (wInt .u32 o.code) (fun _ => .int .u32 0) (o.code.length + 64) (o.code.length + 64)) 78)).heap.size by simp only [al_size]; omega]
    exact heap_alloc_new _ _
  · rw [alloc_at _ _ _ (by simp only [al_size]; omega)]
    rw [show s + 6 * k + 4 = ((((w.alloc X).alloc X).alloc (.cells (wcur (wInt .u32 o.code) (fun _ => .int .u32 0) (o.code.length + 64) (o.code.length + 64)) 78)).alloc (.cells (wcur (wInt .i64 o.data) (fun _ => .int .i64 0) (o.data.length + 64) (o.data.length + 64)) 2)).heap.size by simp only [al_size]; omega]
    exact heap_alloc_new _ _
  · rw [show s + 6 * k + 5 = (((((w.alloc X).alloc X).alloc (.cells (wcur (wInt .u32 o.code) (fun _ => .int .u32 0) (o.code.length + 64) (o.code.length + 64)) 78)).alloc (.cells (wcur (wInt .i64 o.data) (fun _ => .int .i64 0) (o.data.length + 64) (o.data.length + 64)) 2)).alloc (.cells (wcur (wSym o.ss) zSym ((o.ss.length + 64) * 3) ((o.ss.length + 64) * 3)) 52)).heap.size by simp only [al_size]; omega]
    exact heap_alloc_new _ _
set_option maxHeartbeats 4000000 in
set_option maxRecDepth 100000 in
theorem wideobs_any (A : Option Addr) (ca : Nat) (q : Nat → Pl) (l : List Ob) (w : World) (hA : ObsIn w A q l) :
    Calls Try.prog 7 #[.slice A l.length ca] w fun e w' => e = .returned (.slice (some ⟨w.heap.size, 0, none⟩) l.length (l.length + 64)) ∧ Below w.heap.size w w' ∧ WideO w' w.heap.size l (GO (w.heap.size + 1)) := by
  have HA : Hid (ObsIn w A q l) := hA
  have hf := hA.few
  have hm := make53 (wOb l (w.heap.size + 1)) l.length (by omega)
  have HB1 : Hid (Below w.heap.size w (w.alloc (.cells (wcur (wOb l (w.heap.size + 1)) zOb ((l.length + 64) * 6) 0) 49))) := lb_alloc (Below.refl _ _) _
  have HX1 : Hid ((w.alloc (.cells (wcur (wOb l (w.heap.size + 1)) zOb ((l.length + 64) * 6) 0) 49)).heap[w.heap.size]? = some (.cells (wcur (wOb l (w.heap.size + 1)) zOb ((l.length + 64) * 6) 0) 49 (0, 0))) := heap_alloc_new _ _
  have HZ1 : Hid ((w.alloc (.cells (wcur (wOb l (w.heap.size + 1)) zOb ((l.length + 64) * 6) 0) 49)).heap.size = w.heap.size + 1 + 6 * 0) := al_size _ _
  clear hA
  go_enter Try.func7, Try.ntmps7
  go_wp2
  go_loopw [4] (fun i wr => ∃ k : Nat, i = .int .i64 k ∧ k ≤ l.length + 64 ∧ Hid (Below w.heap.size w wr) ∧ Hid (wr.heap[w.heap.size]? = some (.cells (wcur (wOb l (w.heap.size + 1)) zOb ((l.length + 64) * 6) (k * 6)) 49 (0, 0))) ∧ Hid (k ≤ l.length → wr.heap.size = w.heap.size + 1 + 6 * k) ∧ Hid (∀ j, j < k → j < l.length → Blk wr (ob l j) (w.heap.size + 1 + 6 * j))) (fun i _ => l.length + 64 - (intOf i).toNat)
  case atStart => exact ⟨0, rfl, by omega, HB1, HX1, fun _ => HZ1.out, fun j hj => absurd hj (Nat.not_lt_zero _)⟩
  case round =>
    clear hm HB1 HX1 HZ1
    obtain ⟨k, rfl, hk, HB, HX, HZ, HK⟩ := hrel
    by_cases hlt : k < l.length + 64
    · have HG : Hid (∀ j, j < 6 → (wcur (wOb l (w.heap.size + 1)) zOb ((l.length + 64) * 6) (k * 6))[k * 6 + j]? = some (zOb (k * 6 + j))) := fun j hj => by rw [wcur_get _ _ _ _ _ (by omega), if_neg (by omega)]
      by_cases h2 : k < l.length
      · obtain ⟨a, ea, x0, x1, x2, x3, x4, x5⟩ := HA.out.cells.six HB.out k h2
        have CE := wideobj_blk (ob l k) (q k) wr ((HA.out.each k h2).keep HB.out) (w.heap.size + 1) k (HZ.out (by omega))
        subst ea
        go_wp2_with fail
        refine CE.mono ?_
        rintro e w1 ⟨rfl, hb1, hblk, hsz⟩
        have hx1 := (hb1.block w.heap.size (Array.getElem?_eq_some_iff.1 HX.out).1).trans HX.out
        have HX2 : Hid ((((((((w1).setCell ⟨w.heap.size, k * 6, none⟩ (.string (ob l k).nm)).setCell ⟨w.heap.size, k * 6 + 1, none⟩ (.slice (some ⟨w.heap.size + 1 + 6 * k + 2, 0, none⟩) (ob l k).code.length ((ob l k).code.length + 64))).setCell ⟨w.heap.size, k * 6 + 2, none⟩ (.int .i64 (ob l k).dA)).setCell ⟨w.heap.size, k * 6 + 3, none⟩ (.slice (some ⟨w.heap.size + 1 + 6 * k + 3, 0, none⟩) (ob l k).data.length ((ob l k).data.length + 64))).setCell ⟨w.heap.size, k * 6 + 4, none⟩ (.slice (some ⟨w.heap.size + 1 + 6 * k + 4, 0, none⟩) (ob l k).ss.length ((ob l k).ss.length + 64))).setCell ⟨w.heap.size, k * 6 + 5, none⟩ (.slice (some ⟨w.heap.size + 1 + 6 * k + 5, 0, none⟩) (ob l k).rs.length ((ob l k).rs.length + 64))).heap[w.heap.size]? = some (.cells (wcur (wOb l (w.heap.size + 1)) zOb ((l.length + 64) * 6) ((k + 1) * 6)) 49 (0, 0))) := by
          unfold Hid
          rw [six_row hx1, ob_item l (w.heap.size + 1) k h2]
        have HB2 : Hid (Below w.heap.size w (((((((w1).setCell ⟨w.heap.size, k * 6, none⟩ (.string (ob l k).nm)).setCell ⟨w.heap.size, k * 6 + 1, none⟩ (.slice (some ⟨w.heap.size + 1 + 6 * k + 2, 0, none⟩) (ob l k).code.length ((ob l k).code.length + 64))).setCell ⟨w.heap.size, k * 6 + 2, none⟩ (.int .i64 (ob l k).dA)).setCell ⟨w.heap.size, k * 6 + 3, none⟩ (.slice (some ⟨w.heap.size + 1 + 6 * k + 3, 0, none⟩) (ob l k).data.length ((ob l k).data.length + 64))).setCell ⟨w.heap.size, k * 6 + 4, none⟩ (.slice (some ⟨w.heap.size + 1 + 6 * k + 4, 0, none⟩) (ob l k).ss.length ((ob l k).ss.length + 64))).setCell ⟨w.heap.size, k * 6 + 5, none⟩ (.slice (some ⟨w.heap.size + 1 + 6 * k + 5, 0, none⟩) (ob l k).rs.length ((ob l k).rs.length + 64)))) := six_below _ _ _ _ _ _ (lb_trans HB.out hb1)
        have HZ2 : Hid (k + 1 ≤ l.length → (((((((w1).setCell ⟨w.heap.size, k * 6, none⟩ (.string (ob l k).nm)).setCell ⟨w.heap.size, k * 6 + 1, none⟩ (.slice (some ⟨w.heap.size + 1 + 6 * k + 2, 0, none⟩) (ob l k).code.length ((ob l k).code.length + 64))).setCell ⟨w.heap.size, k * 6 + 2, none⟩ (.int .i64 (ob l k).dA)).setCell ⟨w.heap.size, k * 6 + 3, none⟩ (.slice (some ⟨w.heap.size + 1 + 6 * k + 3, 0, none⟩) (ob l k).data.length ((ob l k).data.length + 64))).setCell ⟨w.heap.size, k * 6 + 4, none⟩ (.slice (some ⟨w.heap.size + 1 + 6 * k + 4, 0, none⟩) (ob l k).ss.length ((ob l k).ss.length + 64))).setCell ⟨w.heap.size, k * 6 + 5, none⟩ (.slice (some ⟨w.heap.size + 1 + 6 * k + 5, 0, none⟩) (ob l k).rs.length ((ob l k).rs.length + 64))).heap.size = w.heap.size + 1 + 6 * (k + 1)) := fun _ => by rw [six_size]; exact hsz
        have HK2 : Hid (∀ j, j < k + 1 → j < l.length → Blk (((((((w1).setCell ⟨w.heap.size, k * 6, none⟩ (.string (ob l k).nm)).setCell ⟨w.heap.size, k * 6 + 1, none⟩ (.slice (some ⟨w.heap.size + 1 + 6 * k + 2, 0, none⟩) (ob l k).code.length ((ob l k).code.length + 64))).setCell ⟨w.heap.size, k * 6 + 2, none⟩ (.int .i64 (ob l k).dA)).setCell ⟨w.heap.size, k * 6 + 3, none⟩ (.slice (some ⟨w.heap.size + 1 + 6 * k + 3, 0, none⟩) (ob l k).data.length ((ob l k).data.length + 64))).setCell ⟨w.heap.size, k * 6 + 4, none⟩ (.slice (some ⟨w.heap.size + 1 + 6 * k + 4, 0, none⟩) (ob l k).ss.length ((ob l k).ss.length + 64))).setCell ⟨w.heap.size, k * 6 + 5, none⟩ (.slice (some ⟨w.heap.size + 1 + 6 * k + 5, 0, none⟩) (ob l k).rs.length ((ob l k).rs.length + 64))) (ob l j) (w.heap.size + 1 + 6 * j)) := fun j hj hjl => by
          by_cases e : j = k
          · subst e
            exact hblk.keep fun i h1 _ => six_off _ _ _ _ _ _ (by omega)
          · exact (HK.out j (by omega) hjl).keep fun i h1 h3 => (six_off _ _ _ _ _ _ (by omega)).trans (hb1.block i (by have := HZ.out (by omega); omega))
        have cg : ∀ j, j < 6 → w1.cell? ⟨w.heap.size, k * 6 + j, none⟩ = some (zOb (k * 6 + j)) := fun j hj => by rw [Lib.cell_of_heap hx1]; exact HG.out j hj
        have c0 := cg 0 (by omega)
        have c1 := cg 1 (by omega)
        have c2 := cg 2 (by omega)
        have c3 := cg 3 (by omega)
        have c4 := cg 4 (by omega)
        have c5 := cg 5 (by omega)
        rw [Nat.add_zero] at c0
        have fg : ∀ j, w1.frozen? ⟨w.heap.size, j, none⟩ = false := fun j => Lib.frozen_of_heap hx1 j
        clear cg hx1 hb1 hblk hsz CE HK HZ HG x0 x1 x2 x3 x4 x5
        go_wp2
        go_roundw
        case rel => exact ⟨k + 1, by go_num, by omega, HB2, HX2, HZ2, HK2⟩
        case measure => simp [intOf]; omega
      · go_wp2_with fail
        refine (num_any 9 k (by omega) (by omega) (by omega) (by omega) _).mono ?_
        rintro e w1 ⟨rfl, rfl⟩
        have hx1 := HX.out
        have HX2 : Hid ((((((((w1).setCell ⟨w.heap.size, k * 6, none⟩ (.string ⟨#[]⟩)).setCell ⟨w.heap.size, k * 6 + 1, none⟩ (.slice none 0 0)).setCell ⟨w.heap.size, k * 6 + 2, none⟩ (.int .i64 (9437184 + k + 1))).setCell ⟨w.heap.size, k * 6 + 3, none⟩ (.slice none 0 0)).setCell ⟨w.heap.size, k * 6 + 4, none⟩ (.slice none 0 0)).setCell ⟨w.heap.size, k * 6 + 5, none⟩ (.slice none 0 0)).heap[w.heap.size]? = some (.cells (wcur (wOb l (w.heap.size + 1)) zOb ((l.length + 64) * 6) ((k + 1) * 6)) 49 (0, 0))) := by
          unfold Hid
          rw [six_row hx1, ob_mark l (w.heap.size + 1) k hlt h2]
        have HB2 : Hid (Below w.heap.size w (((((((w1).setCell ⟨w.heap.size, k * 6, none⟩ (.string ⟨#[]⟩)).setCell ⟨w.heap.size, k * 6 + 1, none⟩ (.slice none 0 0)).setCell ⟨w.heap.size, k * 6 + 2, none⟩ (.int .i64 (9437184 + k + 1))).setCell ⟨w.heap.size, k * 6 + 3, none⟩ (.slice none 0 0)).setCell ⟨w.heap.size, k * 6 + 4, none⟩ (.slice none 0 0)).setCell ⟨w.heap.size, k * 6 + 5, none⟩ (.slice none 0 0))) := six_below _ _ _ _ _ _ HB.out
        have HK2 : Hid (∀ j, j < k + 1 → j < l.length → Blk (((((((w1).setCell ⟨w.heap.size, k * 6, none⟩ (.string ⟨#[]⟩)).setCell ⟨w.heap.size, k * 6 + 1, none⟩ (.slice none 0 0)).setCell ⟨w.heap.size, k * 6 + 2, none⟩ (.int .i64 (9437184 + k + 1))).setCell ⟨w.heap.size, k * 6 + 3, none⟩ (.slice none 0 0)).setCell ⟨w.heap.size, k * 6 + 4, none⟩ (.slice none 0 0)).setCell ⟨w.heap.size, k * 6 + 5, none⟩ (.slice none 0 0)) (ob l j) (w.heap.size + 1 + 6 * j)) := fun j hj hjl => (HK.out j (by omega) hjl).keep fun i h1 h3 => six_off _ _ _ _ _ _ (by omega)
        have cg : ∀ j, j < 6 → w1.cell? ⟨w.heap.size, k * 6 + j, none⟩ = some (zOb (k * 6 + j)) := fun j hj => by rw [Lib.cell_of_heap hx1]; exact HG.out j hj
        have c0 := cg 0 (by omega)
        have c1 := cg 1 (by omega)
        have c2 := cg 2 (by omega)
        have c3 := cg 3 (by omega)
        have c4 := cg 4 (by omega)
        have c5 := cg 5 (by omega)
        rw [Nat.add_zero] at c0
        have fg : ∀ j, w1.frozen? ⟨w.heap.size, j, none⟩ = false := fun j => Lib.frozen_of_heap hx1 j
        clear cg hx1 HK HZ HG
        go_wp2
        go_roundw
        case rel => exact ⟨k + 1, by go_num, by omega, HB2, HX2, fun h => absurd h (by omega), HK2⟩
        case measure => simp [intOf]; omega
    · obtain rfl : k = l.length + 64 := by omega
      clear hlt hk
      go_wp2
      go_ret
      exact ⟨rfl, HB.out, ⟨⟨row_obs HX.out, fun i hi => (HK.out i (by omega) hi).inn (HA.out.each i hi), hf⟩, row_marks HX.out, fun i hi => (HK.out i (by omega) hi).marks⟩⟩



end Go.Proofs.Ytiihfkjgdhfmiaa

namespace Go.Proofs.Ytiihfkjgdhfmiaa
open Go.RowKit

set_option maxRecDepth 100000 in
set_option maxHeartbeats 1000000 in
theorem eqwords_any (A B : Option Addr) (ca cb : Nat) (zs ys : List Int) (w : World) (hA : IntsAt w A .u32 zs) (hB : IntsAt w B .u32 ys) (hz : zs.length ≤ 1048576) :
    Calls Try.prog 40 #[.slice A zs.length ca, .slice B ys.length cb] w fun e w' => e = .returned (.bool (decide (zs = ys))) ∧ Below w.heap.size w w' := by
  by_cases hl : zs.length = ys.length
  · have hl' : ((zs.length : Int) == (ys.length : Int)) = true := by rw [hl]; simp
    have HL : Hid (zs.length = ys.length) := hl
    clear hl
    go_enter Try.func40, Try.ntmps40
    go_wp2
    go_loopw [5] (fun i wr => ∃ (k m : Nat), i = .int .i64 k ∧ k ≤ zs.length ∧ wr = w.drewN m ∧ Hid (zs.take k = ys.take k)) (fun i _ => zs.length - (intOf i).toNat)
    case atStart => exact ⟨0, 0, rfl, by omega, rfl, by simp [Hid]⟩
    case round =>
      obtain ⟨k, m, rfl, hk, rfl, HT⟩ := hrel
      by_cases hlt : k < zs.length
      · obtain ⟨a, rfl, c1⟩ := hA k hlt
        obtain ⟨b, rfl, c2⟩ := hB k (by have := HL.out; omega)
        have hlt2 : (k : Int) < (ys.length : Int) := by have := HL.out; omega
        by_cases he : nth zs k = nth ys k
        · have HE : Hid (nth zs k = nth ys k) := he
          have he' : (nth zs k == nth ys k) = true := by simpa using he
          clear he
          go_wp2_with fail
          go_quiet (fail)
          go_wp2
          go_roundw
          case rel => exact ⟨k + 1, _, by go_num, by omega, rfl, take_same HT.out hlt (by omega) HE.out⟩
          case measure => simp [intOf]; omega
        · have HE : Hid (¬ nth zs k = nth ys k) := he
          have he' : (nth zs k == nth ys k) = false := by simpa using he
          clear he
          go_wp2_with fail
          go_quiet (fail)
          go_wp2
          go_ret
          exact ⟨retB (decide_eq_false (nth_ne HE.out)).symm, below_drewN (below_drewN (Below.refl _ _) _) _⟩
      · go_wp2
        go_ret
        exact ⟨retB (decide_eq_true (take_all HT.out (by omega) HL.out)).symm, below_drewN (Below.refl _ _) _⟩
  · have hl' : ((zs.length : Int) == (ys.length : Int)) = false := by simp; omega
    have HL : Hid (¬ zs.length = ys.length) := hl
    clear hl
    go_enter Try.func40, Try.ntmps40
    go_wp2
    go_ret
    exact ⟨retB (decide_eq_false (fun h => HL.out (by rw [h]))).symm, Below.refl _ _⟩

set_option maxRecDepth 100000 in
set_option maxHeartbeats 1000000 in
theorem eqlongs_any (A B : Option Addr) (ca cb : Nat) (zs ys : List Int) (w : World) (hA : IntsAt w A .i64 zs) (hB : IntsAt w B .i64 ys) (hz : zs.length ≤ 1048576) :
    Calls Try.prog 41 #[.slice A zs.length ca, .slice B ys.length cb] w fun e w' => e = .returned (.bool (decide (zs = ys))) ∧ Below w.heap.size w w' := by
  by_cases hl : zs.length = ys.length
  · have hl' : ((zs.length : Int) == (ys.length : Int)) = true := by rw [hl]; simp
    have HL : Hid (zs.length = ys.length) := hl
    clear hl
    go_enter Try.func41, Try.ntmps41
    go_wp2
    go_loopw [5] (fun i wr => ∃ (k m : Nat), i = .int .i64 k ∧ k ≤ zs.length ∧ wr = w.drewN m ∧ Hid (zs.take k = ys.take k)) (fun i _ => zs.length - (intOf i).toNat)
    case atStart => exact ⟨0, 0, rfl, by omega, rfl, by simp [Hid]⟩
    case round =>
      obtain ⟨k, m, rfl, hk, rfl, HT⟩ := hrel
      by_cases hlt : k < zs.length
      · obtain ⟨a, rfl, c1⟩ := hA k hlt
        obtain ⟨b, rfl, c2⟩ := hB k (by have := HL.out; omega)
        have hlt2 : (k : Int) < (ys.length : Int) := by have := HL.out; omega
        by_cases he : nth zs k = nth ys k
        · have HE : Hid (nth zs k = nth ys k) := he
          have he' : (nth zs k == nth ys k) = true := by simpa using he
          clear he
          go_wp2_with fail
          go_quiet (fail)
          go_wp2
          go_roundw
          case rel => exact ⟨k + 1, _, by go_num, by omega, rfl, take_same HT.out hlt (by omega) HE.out⟩
          case measure => simp [intOf]; omega
        · have HE : Hid (¬ nth zs k = nth ys k) := he
          have he' : (nth zs k == nth ys k) = false := by simpa using he
          clear he
          go_wp2_with fail
          go_quiet (fail)
          go_wp2
          go_ret
          exact ⟨retB (decide_eq_false (nth_ne HE.out)).symm, below_drewN (below_drewN (Below.refl _ _) _) _⟩
      · go_wp2
        go_ret
        exact ⟨retB (decide_eq_true (take_all HT.out (by omega) HL.out)).symm, below_drewN (Below.refl _ _) _⟩
  · have hl' : ((zs.length : Int) == (ys.length : Int)) = false := by simp; omega
    have HL : Hid (¬ zs.length = ys.length) := hl
    clear hl
    go_enter Try.func41, Try.ntmps41
    go_wp2
    go_ret
    exact ⟨retB (decide_eq_false (fun h => HL.out (by rw [h]))).symm, Below.refl _ _⟩
set_option maxRecDepth 100000 in
set_option maxHeartbeats 1000000 in
theorem eqrel_any (A B : Option Addr) (ca cb : Nat) (zs ys : List Rel) (w : World) (hA : RelsAt w A zs) (hB : RelsAt w B ys) (hz : zs.length ≤ 1048576) :
    Calls Try.prog 43 #[.slice A zs.length ca, .slice B ys.length cb] w fun e w' => e = .returned (.bool (decide (zs = ys))) ∧ Below w.heap.size w w' := by
  by_cases hl : zs.length = ys.length
  · have hl' : ((zs.length : Int) == (ys.length : Int)) = true := by rw [hl]; simp
    have HL : Hid (zs.length = ys.length) := hl
    clear hl
    go_enter Try.func43, Try.ntmps43
    go_wp2
    go_loopw [5] (fun i wr => ∃ (k m : Nat), i = .int .i64 k ∧ k ≤ zs.length ∧ wr = w.drewN m ∧ Hid (zs.take k = ys.take k)) (fun i _ => zs.length - (intOf i).toNat)
    case atStart => exact ⟨0, 0, rfl, by omega, rfl, by simp [Hid]⟩
    case round =>
      obtain ⟨k, m, rfl, hk, rfl, HT⟩ := hrel
      by_cases hlt : k < zs.length
      · obtain ⟨a, rfl, c0, c1⟩ := hA k hlt
        obtain ⟨b, rfl, d0, d1⟩ := hB k (by have := HL.out; omega)
        have hlt2 : (k : Int) < (ys.length : Int) := by have := HL.out; omega
        have p0 : w.cell? (a.add (k * 2)) = some (.int .i64 (rAt zs k)) := c0
        have q0 : w.cell? (b.add (k * 2)) = some (.int .i64 (rAt ys k)) := d0
        have p1 : w.cell? (⟨(a.add (k * 2)).block, (a.add (k * 2)).off + 1, none⟩) = some (.int .i64 (rSym zs k)) := c1
        have q1 : w.cell? (⟨(b.add (k * 2)).block, (b.add (k * 2)).off + 1, none⟩) = some (.int .i64 (rSym ys k)) := d1
        clear c0 d0 c1 d1
        by_cases h0 : ¬ rAt zs k = rAt ys k
        · have HE : Hid (¬ rAt zs k = rAt ys k) := h0
          have e0 : (rAt zs k == rAt ys k) = false := by simpa using h0
          clear h0
          go_wp2_with fail
          go_quiet (fail)
          go_wp2
          go_ret
          exact ⟨retB (decide_eq_false (fun h => HE.out (by rw [h]))).symm, below_drewN (below_drewN (Below.refl _ _) _) _⟩
        have H0 : Hid (rAt zs k = rAt ys k) := Classical.not_not.1 h0
        have e0 : (rAt zs k == rAt ys k) = true := by simpa using H0.out
        clear h0
        by_cases h1 : ¬ rSym zs k = rSym ys k
        · have HE : Hid (¬ rSym zs k = rSym ys k) := h1
          have e1 : (rSym zs k == rSym ys k) = false := by simpa using h1
          clear h1
          go_wp2_with fail
          go_quiet (fail)
          go_wp2
          go_ret
          exact ⟨retB (decide_eq_false (fun h => HE.out (by rw [h]))).symm, below_drewN (below_drewN (Below.refl _ _) _) _⟩
        have H1 : Hid (rSym zs k = rSym ys k) := Classical.not_not.1 h1
        have e1 : (rSym zs k == rSym ys k) = true := by simpa using H1.out
        clear h1
        go_wp2_with fail
        go_quiet (fail)
        go_wp2
        go_roundw
        case rel => exact ⟨k + 1, _, by go_num, by omega, rfl, take_same HT.out hlt (by omega) (rel_same H0.out H1.out)⟩
        case measure => simp [intOf]; omega
      · go_wp2
        go_ret
        exact ⟨retB (decide_eq_true (take_all HT.out (by omega) HL.out)).symm, below_drewN (Below.refl _ _) _⟩
  · have hl' : ((zs.length : Int) == (ys.length : Int)) = false := by simp; omega
    have HL : Hid (¬ zs.length = ys.length) := hl
    clear hl
    go_enter Try.func43, Try.ntmps43
    go_wp2
    go_ret
    exact ⟨retB (decide_eq_false (fun h => HL.out (by rw [h]))).symm, Below.refl _ _⟩

set_option maxRecDepth 100000 in
set_option maxHeartbeats 1000000 in
theorem eqsym_any (A B : Option Addr) (ca cb : Nat) (zs ys : List Sym) (w : World) (hA : SymsAt w A zs) (hB : SymsAt w B ys) (hz : zs.length ≤ 1048576) :
    Calls Try.prog 42 #[.slice A zs.length ca, .slice B ys.length cb] w fun e w' => e = .returned (.bool (decide (zs = ys))) ∧ Below w.heap.size w w' := by
  by_cases hl : zs.length = ys.length
  · have hl' : ((zs.length : Int) == (ys.length : Int)) = true := by rw [hl]; simp
    have HL : Hid (zs.length = ys.length) := hl
    clear hl
    go_enter Try.func42, Try.ntmps42
    go_wp2
    go_loopw [5] (fun i wr => ∃ (k m : Nat), i = .int .i64 k ∧ k ≤ zs.length ∧ wr = w.drewN m ∧ Hid (zs.take k = ys.take k)) (fun i _ => zs.length - (intOf i).toNat)
    case atStart => exact ⟨0, 0, rfl, by omega, rfl, by simp [Hid]⟩
    case round =>
      obtain ⟨k, m, rfl, hk, rfl, HT⟩ := hrel
      by_cases hlt : k < zs.length
      · obtain ⟨a, rfl, c0, c1, c2⟩ := hA k hlt
        obtain ⟨b, rfl, d0, d1, d2⟩ := hB k (by have := HL.out; omega)
        have hlt2 : (k : Int) < (ys.length : Int) := by have := HL.out; omega
        have p0 : w.cell? (a.add (k * 3)) = some (.string (sName zs k)) := c0
        have q0 : w.cell? (b.add (k * 3)) = some (.string (sName ys k)) := d0
        have p1 : w.cell? (⟨(a.add (k * 3)).block, (a.add (k * 3)).off + 1, none⟩) = some (.int .i8 (sKind zs k)) := c1
        have q1 : w.cell? (⟨(b.add (k * 3)).block, (b.add (k * 3)).off + 1, none⟩) = some (.int .i8 (sKind ys k)) := d1
        have p2 : w.cell? (⟨(a.add (k * 3)).block, (a.add (k * 3)).off + 2, none⟩) = some (.int .i64 (sAt zs k)) := c2
        have q2 : w.cell? (⟨(b.add (k * 3)).block, (b.add (k * 3)).off + 2, none⟩) = some (.int .i64 (sAt ys k)) := d2
        clear c0 d0 c1 d1 c2 d2
        by_cases h0 : ¬ sName zs k = sName ys k
        · have HE : Hid (¬ sName zs k = sName ys k) := h0
          have e0 : ((sName zs k).toList == (sName ys k).toList) = false := by rw [ByteArray.toList_eq, ByteArray.toList_eq]; simpa using (fun h => h0 (ByteArray.ext (Array.ext' h)))
          clear h0
          go_wp2_with fail
          go_quiet (fail)
          go_wp2
          go_ret
          exact ⟨retB (decide_eq_false (fun h => HE.out (by rw [h]))).symm, below_drewN (below_drewN (Below.refl _ _) _) _⟩
        have H0 : Hid (sName zs k = sName ys k) := Classical.not_not.1 h0
        have e0 : ((sName zs k).toList == (sName ys k).toList) = true := by rw [H0.out]; simp
        clear h0
        by_cases h1 : ¬ sKind zs k = sKind ys k
        · have HE : Hid (¬ sKind zs k = sKind ys k) := h1
          have e1 : (sKind zs k == sKind ys k) = false := by simpa using h1
          clear h1
          go_wp2_with fail
          go_quiet (fail)
          go_wp2
          go_ret
          exact ⟨retB (decide_eq_false (fun h => HE.out (by rw [h]))).symm, below_drewN (below_drewN (Below.refl _ _) _) _⟩
        have H1 : Hid (sKind zs k = sKind ys k) := Classical.not_not.1 h1
        have e1 : (sKind zs k == sKind ys k) = true := by simpa using H1.out
        clear h1
        by_cases h2 : ¬ sAt zs k = sAt ys k
        · have HE : Hid (¬ sAt zs k = sAt ys k) := h2
          have e2 : (sAt zs k == sAt ys k) = false := by simpa using h2
          clear h2
          go_wp2_with fail
          go_quiet (fail)
          go_wp2
          go_ret
          exact ⟨retB (decide_eq_false (fun h => HE.out (by rw [h]))).symm, below_drewN (below_drewN (Below.refl _ _) _) _⟩
        have H2 : Hid (sAt zs k = sAt ys k) := Classical.not_not.1 h2
        have e2 : (sAt zs k == sAt ys k) = true := by simpa using H2.out
        clear h2
        go_wp2_with fail
        go_quiet (fail)
        go_wp2
        go_roundw
        case rel => exact ⟨k + 1, _, by go_num, by omega, rfl, take_same HT.out hlt (by omega) (sym_same H0.out H1.out H2.out)⟩
        case measure => simp [intOf]; omega
      · go_wp2
        go_ret
        exact ⟨retB (decide_eq_true (take_all HT.out (by omega) HL.out)).symm, below_drewN (Below.refl _ _) _⟩
  · have hl' : ((zs.length : Int) == (ys.length : Int)) = false := by simp; omega
    have HL : Hid (¬ zs.length = ys.length) := hl
    clear hl
    go_enter Try.func42, Try.ntmps42
    go_wp2
    go_ret
    exact ⟨retB (decide_eq_false (fun h => HL.out (by rw [h]))).symm, Below.refl _ _⟩
set_option maxRecDepth 100000 in
set_option maxHeartbeats 2000000 in
theorem eqobj_same (nm : ByteArray) (dA : Int) (A1 A2 A3 A4 : Option Addr) (c1 c2 c3 c4 : Nat) (code data : List Int) (ss : List Sym) (rs : List Rel) (w : World) (B1 B2 B3 B4 : Option Addr) (e1 e2 e3 e4 : Nat) (hC : IntsAt w A1 .u32 code) (hD : IntsAt w A2 .i64 data) (hS : SymsAt w A3 ss) (hL : RelsAt w A4 rs) (hc : code.length ≤ 1048576) (hd : data.length ≤ 1048576) (hs : ss.length ≤ 1048576) (hl : rs.length ≤ 1048576) (gC : IntsAt w B1 .u32 code) (gD : IntsAt w B2 .i64 data) (gS : SymsAt w B3 ss) (gL : RelsAt w B4 rs) :
    Calls Try.prog 29 #[.agg #[.string nm, .slice A1 code.length c1, .int .i64 dA, .slice A2 data.length c2, .slice A3 ss.length c3, .slice A4 rs.length c4], .agg #[.string nm, .slice B1 code.length e1, .int .i64 dA, .slice B2 data.length e2, .slice B3 ss.length e3, .slice B4 rs.length e4]] w fun e w' => e = .returned (.bool true) ∧ Below w.heap.size w w' := by
  have E0 := fun wx (hx : Below w.heap.size w wx) => eqwords_any A1 B1 c1 e1 code code wx (hC.keep hx) (gC.keep hx) hc
  simp only [decide_true] at E0
  have E1 := fun wx (hx : Below w.heap.size w wx) => eqlongs_any A2 B2 c2 e2 data data wx (hD.keep hx) (gD.keep hx) hd
  simp only [decide_true] at E1
  have E2 := fun wx (hx : Below w.heap.size w wx) => eqsym_any A3 B3 c3 e3 ss ss wx (hS.keep hx) (gS.keep hx) hs
  simp only [decide_true] at E2
  have E3 := fun wx (hx : Below w.heap.size w wx) => eqrel_any A4 B4 c4 e4 rs rs wx (hL.keep hx) (gL.keep hx) hl
  simp only [decide_true] at E3
  go_enter Try.func29, Try.ntmps29
  go_wp2_with fail
  refine (E0 _ (lb_alloc (lb_alloc (Below.refl _ _) _) _)).mono ?_
  rintro e w0 ⟨rfl, hb0⟩
  have HB0 : Hid (Below w.heap.size w w0) := lb_trans (lb_alloc (lb_alloc (Below.refl _ _) _) _) hb0
  have q0a0 : w0.cell? ⟨w.heap.size, 0, none⟩ = some (.string nm) := lkeep hb0 (by simp [go_sem])
  have q0a1 : w0.cell? ⟨w.heap.size, 1, none⟩ = some (.slice A1 code.length c1) := lkeep hb0 (by simp [go_sem])
  have q0a2 : w0.cell? ⟨w.heap.size, 2, none⟩ = some (.int .i64 dA) := lkeep hb0 (by simp [go_sem])
  have q0a3 : w0.cell? ⟨w.heap.size, 3, none⟩ = some (.slice A2 data.length c2) := lkeep hb0 (by simp [go_sem])
  have q0a4 : w0.cell? ⟨w.heap.size, 4, none⟩ = some (.slice A3 ss.length c3) := lkeep hb0 (by simp [go_sem])
  have q0a5 : w0.cell? ⟨w.heap.size, 5, none⟩ = some (.slice A4 rs.length c4) := lkeep hb0 (by simp [go_sem])
  have q0b0 : w0.cell? ⟨w.heap.size + 1, 0, none⟩ = some (.string nm) := lkeep hb0 (by simp [go_sem])
  have q0b1 : w0.cell? ⟨w.heap.size + 1, 1, none⟩ = some (.slice B1 code.length e1) := lkeep hb0 (by simp [go_sem])
  have q0b2 : w0.cell? ⟨w.heap.size + 1, 2, none⟩ = some (.int .i64 dA) := lkeep hb0 (by simp [go_sem])
  have q0b3 : w0.cell? ⟨w.heap.size + 1, 3, none⟩ = some (.slice B2 data.length e2) := lkeep hb0 (by simp [go_sem])
  have q0b4 : w0.cell? ⟨w.heap.size + 1, 4, none⟩ = some (.slice B3 ss.length e3) := lkeep hb0 (by simp [go_sem])
  have q0b5 : w0.cell? ⟨w.heap.size + 1, 5, none⟩ = some (.slice B4 rs.length e4) := lkeep hb0 (by simp [go_sem])
  clear hb0
  go_wp2_with fail
  refine (E1 _ (HB0.out)).mono ?_
  rintro e w1 ⟨rfl, hb1⟩
  have HB1 : Hid (Below w.heap.size w w1) := lb_trans (HB0.out) hb1
  have q1a0 := lkeep hb1 q0a0
  have q1a1 := lkeep hb1 q0a1
  have q1a2 := lkeep hb1 q0a2
  have q1a3 := lkeep hb1 q0a3
  have q1a4 := lkeep hb1 q0a4
  have q1a5 := lkeep hb1 q0a5
  have q1b0 := lkeep hb1 q0b0
  have q1b1 := lkeep hb1 q0b1
  have q1b2 := lkeep hb1 q0b2
  have q1b3 := lkeep hb1 q0b3
  have q1b4 := lkeep hb1 q0b4
  have q1b5 := lkeep hb1 q0b5
  clear hb1 q0a0 q0a1 q0a2 q0a3 q0a4 q0a5 q0b0 q0b1 q0b2 q0b3 q0b4 q0b5
  go_wp2_with fail
  refine (E2 _ (HB1.out)).mono ?_
  rintro e w2 ⟨rfl, hb2⟩
  have HB2 : Hid (Below w.heap.size w w2) := lb_trans (HB1.out) hb2
  have q2a0 := lkeep hb2 q1a0
  have q2a1 := lkeep hb2 q1a1
  have q2a2 := lkeep hb2 q1a2
  have q2a3 := lkeep hb2 q1a3
  have q2a4 := lkeep hb2 q1a4
  have q2a5 := lkeep hb2 q1a5
  have q2b0 := lkeep hb2 q1b0
  have q2b1 := lkeep hb2 q1b1
  have q2b2 := lkeep hb2 q1b2
  have q2b3 := lkeep hb2 q1b3
  have q2b4 := lkeep hb2 q1b4
  have q2b5 := lkeep hb2 q1b5
  clear hb2 q1a0 q1a1 q1a2 q1a3 q1a4 q1a5 q1b0 q1b1 q1b2 q1b3 q1b4 q1b5
  go_wp2_with fail
  refine (E3 _ (HB2.out)).mono ?_
  rintro e w3 ⟨rfl, hb3⟩
  have HB3 : Hid (Below w.heap.size w w3) := lb_trans (HB2.out) hb3
  have q3a0 := lkeep hb3 q2a0
  have q3a1 := lkeep hb3 q2a1
  have q3a2 := lkeep hb3 q2a2
  have q3a3 := lkeep hb3 q2a3
  have q3a4 := lkeep hb3 q2a4
  have q3a5 := lkeep hb3 q2a5
  have q3b0 := lkeep hb3 q2b0
  have q3b1 := lkeep hb3 q2b1
  have q3b2 := lkeep hb3 q2b2
  have q3b3 := lkeep hb3 q2b3
  have q3b4 := lkeep hb3 q2b4
  have q3b5 := lkeep hb3 q2b5
  clear hb3 q2a0 q2a1 q2a2 q2a3 q2a4 q2a5 q2b0 q2b1 q2b2 q2b3 q2b4 q2b5
  go_wp2
  go_ret
  exact ⟨rfl, HB3.out⟩





end Go.Proofs.Ytiihfkjgdhfmiaa
