/-
  Rows of numbers as lists lie in memory; an image of its own memory; no Go in sight. A list of numbers copied into memory of its own, with marks behind it, by the document's helpers; it is at most 2^20 long. A list of spots in memory. A list of spots that came in, and one of bools, opened; no condition.
-/
import Derived.Test.YtkdafkdogmemcaaDoorProg
import Derived.Laws.Rows
import Derived.Laws.OwnMore
import Derived.Test.YtkdafkdogmemcaaDoorPs01
import Derived.Test.YtkdafkdogmemcaaDoorPs02
import Derived.WalkKit
import Derived.WalkSpells
import Derived.WalkLawsBesides
import Derived.RowKit3
import Derived.Below
import Derived.Deep.QuietTactic
import Derived.BigQuiet
import Derived.WalkSmall
import Derived.Laws.MakeOwn
import Derived.OwnWalk
import Derived.Deep.SlicePairs
import Derived.Deep.Slices
import Derived.Laws.AppendOwn
import Derived.Lib.BufferOwn
import Derived.ProofKit
import Derived.OpenShut
import Derived.Stop.Joined
import Derived.Carry
import Derived.Lib.SmallJoins
import Derived.Deep.Strs
import Derived.SizedLaws
namespace Go.Proofs.YtkdafkdogmemcaaDoor
open Go.RowKit

theorem row_but {w w1 : World} {base g n : Nat} {e : TypeId} {sz : Nat} {v : Value} {xs : List Value} (ho : w.ownsRow base e sz v n xs) (hg : g < base) (hb : But g w w1) : w1.ownsRow base e sz v n xs := by
  refine ho.kept (row := some g) ⟨hb.1, hb.2.1, hb.2.2.1, hb.2.2.2.1, fun k hk hn => hb.2.2.2.2 k hk (fun e => hn (by rw [e]))⟩ ?_
  cases hv : v.ownBlock with
  | none => exact Or.inl rfl
  | some k => exact Or.inr fun e => by cases e; have := ho.lt g hv; omega
theorem but_grown {w w1 w2 : World} {g : Nat} {row : Option Nat} (h : But g w w1) (hs : w1.grownBy w2 row) (hr : ∀ k, row = some k → w.heap.size ≤ k) : But g w w2 :=
  ⟨hs.os.trans h.1, hs.tape.trans h.2.1, hs.output.trans h.2.2.1, Nat.le_trans h.2.2.2.1 hs.size, fun k hk hn => (hs.block k (Nat.lt_of_lt_of_le hk h.2.2.2.1) (fun e => by have := hr k e.symm; omega)).trans (h.2.2.2.2 k hk hn)⟩
theorem any_form {w : World} {b n : Nat} {e : TypeId} {sz : Nat} {v : Value} {xs : List Value} (h : w.ownsRow b e sz v n xs) : ∃ A n c, v = .slice A n c := by
  rcases h.2 with ⟨rfl, _⟩ | ⟨g, cap, cur, rfl, _⟩
  · exact ⟨_, _, _, rfl⟩
  · exact ⟨_, _, _, rfl⟩

/-- A new block reads as it was made. -/
theorem new_cells (w : World) (l : List Value) (T : TypeId) (h : l.length ≤ 1048576) : ∀ j u, l[j]? = some u → (w.alloc (.cells l.toArray T)).cell? ((⟨w.heap.size, 0, none⟩ : Addr).add j) = some u := by
  have hr : (w.alloc (.cells l.toArray T)).ownsRow w.heap.size T 1 (.slice (some ⟨w.heap.size, 0, none⟩) l.length l.length) l.length l := by
    refine ⟨by omega, Or.inr ⟨w.heap.size, l.length, l.toArray, rfl, Nat.le_refl _, heap_alloc_new _ _, Nat.le_refl _, by unfold maxLen; omega, by simp, ?_⟩⟩
    simp only [Nat.mul_one]
    exact List.take_length
  exact hr.cells rfl
/-- Items as cells. -/
def iVals (K : IntKind) (zs : List Int) : List Value := zs.map (Value.int K)
theorem iVals_snoc (K : IntKind) (zs : List Int) (x : Int) : iVals K (zs ++ [x]) = iVals K zs ++ [.int K x] := by simp [iVals]
theorem add0 (j i : Nat) : (⟨j, 0, none⟩ : Addr).add i = ⟨j, i, none⟩ := by
  unfold Addr.add
  split <;> simp_all
theorem but_setB {w w1 : World} {g : Nat} (h : But g w w1) {B : Nat} (hB : w.heap.size ≤ B) (i : Nat) (v : Value) : But g w (w1.setCell ⟨B, i, none⟩ v) :=
  ⟨h.1, h.2.1, h.2.2.1, by simpa [go_sem] using h.2.2.2.1, fun k hk hn => (Below.heap_setCell _ _ _ _ (by show k ≠ B; omega)).trans (h.2.2.2.2 k hk hn)⟩
theorem but_box {w w1 : World} {g : Nat} (h : But g w w1) {B : Nat} {cs : Array Value} {t : TypeId} (hb : w.heap[B]? = some (.cells cs t (0, 0))) (hB : B ≠ g) : w1.heap[B]? = some (.cells cs t (0, 0)) := by
  rw [h.2.2.2.2 B (Array.getElem?_eq_some_iff.1 hb).1 hB]; exact hb
theorem box_set {w : World} {B : Nat} {cs : Array Value} {t : TypeId} (h : w.heap[B]? = some (.cells cs t (0, 0))) (i : Nat) (v : Value) : (w.setCell ⟨B, i, none⟩ v).heap[B]? = some (.cells (cs.setIfInBounds i v) t (0, 0)) := by
  simp [World.setCell, Array.getElem?_modify, h]
theorem box_fro {w : World} {B : Nat} {cs : Array Value} {t : TypeId} (h : w.heap[B]? = some (.cells cs t (0, 0))) (i : Nat) : w.frozen? ⟨B, i, none⟩ = false := by
  simp [World.frozen?, h]
theorem all_stick {α : Type} {b : List Int} {m : Int} {f : Tk → α × Tk} {t : Tk} (h : ¬ t.bad = 0) : (tAll b m f t).2 = t := by
  unfold tAll
  rw [count_stick h]
  rfl
theorem count_stick2 {b : List Int} {m : Int} {t : Tk} (h : ¬ t.bad = 0) : (tCount b m t).2 = t := by rw [count_stick h]
theorem end_stick {b : List Int} {t : Tk} (h : ¬ t.bad = 0) : tEnd b t = t := by
  unfold tEnd
  rw [four_stick h, if_neg h]
theorem own_form {w : World} {b n : Nat} {e : TypeId} {sz : Nat} {v : Value} {xs : List Value} (h : w.ownsRow b e sz v n xs) : ∃ A c, v = .slice A n c := by
  rcases h.2 with ⟨rfl, rfl⟩ | ⟨g, cap, cur, rfl, _⟩
  · exact ⟨_, _, rfl⟩
  · exact ⟨_, _, rfl⟩
theorem end_a {b : List Int} {p : Nat} (h : ¬ p + 4 ≤ b.length) : tEnd b ⟨p, 0, 0⟩ = ⟨p, 27, b.length⟩ := by
  unfold tEnd
  rw [four_no h, if_neg (by simp)]
theorem end_b {b : List Int} {p : Nat} (h : p + 4 < b.length) : tEnd b ⟨p, 0, 0⟩ = ⟨p + 4, 27, p + 4⟩ := by
  unfold tEnd
  rw [four_yes (by omega), if_pos rfl, if_pos h]
theorem end_c {b : List Int} {p : Nat} (h : p + 4 = b.length) (hs : ¬ v4 (b.drop p) = sumB (b.take p)) : tEnd b ⟨p, 0, 0⟩ = ⟨p + 4, 28, p⟩ := by
  unfold tEnd
  rw [four_yes (by omega), if_pos rfl, if_neg (by simp; omega), if_neg hs]
theorem end_d {b : List Int} {p : Nat} (h : p + 4 = b.length) (hs : v4 (b.drop p) = sumB (b.take p)) : tEnd b ⟨p, 0, 0⟩ = ⟨p + 4, 0, 0⟩ := by
  unfold tEnd
  rw [four_yes (by omega), if_pos rfl, if_neg (by simp; omega), if_pos hs]
theorem end_good {b : List Int} {p : Nat} (h : (tEnd b ⟨p, 0, 0⟩).bad = 0) : tEnd b ⟨p, 0, 0⟩ = ⟨(tEnd b ⟨p, 0, 0⟩).pos, 0, 0⟩ := by
  by_cases h1 : p + 4 ≤ b.length
  · by_cases h2 : p + 4 < b.length
    · rw [end_b h2] at h; cases h
    · by_cases h3 : v4 (b.drop p) = sumB (b.take p)
      · rw [end_d (by omega) h3]
      · rw [end_c (by omega) h3] at h; cases h
  · rw [end_a h1] at h; cases h
theorem all_len {α : Type} {b : List Int} {m : Nat} {f : Tk → α × Tk} {p : Nat} (hb : AreB b) (h : (tAll b (m : Int) f ⟨p, 0, 0⟩).2.bad = 0) : (tAll b (m : Int) f ⟨p, 0, 0⟩).1.length ≤ m := by
  by_cases hg : (tCount b m ⟨p, 0, 0⟩).2.bad = 0
  · have := (count_range hb hg).2
    have hl : ∀ (n : Nat) (t : Tk), (tList f n t).1.length ≤ n := by
      intro n
      induction n with
      | zero => intro t; simp [tList]
      | succ n ih =>
        intro t
        rw [tList]
        split
        · have := ih (f t).2
          simp
          omega
        · simp
    have h2 := hl (tCount b m ⟨p, 0, 0⟩).1.toNat (tCount b m ⟨p, 0, 0⟩).2
    unfold tAll
    omega
  · rw [all_bad hg] at h
    exact absurd h hg
theorem ownsRow_mono {w : World} {b b' : Nat} {e : TypeId} {k n : Nat} {v : Value} {xs : List Value} (h : w.ownsRow b e k v n xs) (hb : b' ≤ b) : w.ownsRow b' e k v n xs := by
  refine ⟨h.1, ?_⟩
  rcases h.2 with h0 | ⟨g, cap, cur, hv, hg, r⟩
  · exact Or.inl h0
  · exact Or.inr ⟨g, cap, cur, hv, Nat.le_trans hb hg, r⟩
theorem iVals_get {K : IntKind} {l : List Int} {i : Nat} (h : i < l.length) : (iVals K l)[i]? = some (.int K (nth l i)) := by simp [iVals, nth, List.getD, h]
theorem add_add (j k i : Nat) : ((⟨j, 0, none⟩ : Addr).add k).add i = (⟨j, 0, none⟩ : Addr).add (k + i) := by
  rw [add0, add0]
  unfold Addr.add
  split
  · next h => subst h; rfl
  · rfl
theorem row_ints {w : World} {base c n : Nat} {e : TypeId} {A : Option Addr} {K : IntKind} {l : List Int} (h : w.ownsRow base e 1 (.slice A n c) l.length (iVals K l)) : IntsAt w A K l := fun i hi => by
  rcases h.2 with ⟨_, h0⟩ | ⟨j, cap, cur, hv, hb, hg, hc, _⟩
  · omega
  · cases hv
    exact ⟨_, rfl, h.cells rfl i _ (iVals_get hi)⟩
theorem row_keep {w w1 : World} {base n : Nat} {e : TypeId} {sz : Nat} {v : Value} {xs : List Value} (h : w.ownsRow base e sz v n xs) (hb : Below w.heap.size w w1) : w1.ownsRow base e sz v n xs := by
  refine h.kept (row := none) ⟨hb.os, hb.tape, hb.output, hb.size, fun k hk _ => hb.block k hk⟩ ?_
  cases hv : v.ownBlock <;> simp
theorem lb_box {w w1 : World} {B : Nat} {cs : Array Value} {t : TypeId} (h : w.heap[B]? = some (.cells cs t (0, 0))) (hb : Below w.heap.size w w1) : w1.heap[B]? = some (.cells cs t (0, 0)) := by
  rw [hb.block B (Array.getElem?_eq_some_iff.1 h).1]; exact h

/-- The two lists of an image, each a row of its own behind base. -/
structure RowsI (w : World) (base : Nat) (A1 A2 : Option Addr) (c1 c2 : Nat) (text mem : List Int) : Prop where
  r1 : w.ownsRow base 81 1 (.slice A1 text.length c1) text.length (iVals .u32 text)
  r2 : w.ownsRow base 2 1 (.slice A2 mem.length c2) mem.length (iVals .i64 mem)
theorem RowsI.keep {w w1 : World} {base : Nat} {A1 A2 : Option Addr} {c1 c2 : Nat} {text mem : List Int} (h : RowsI w base A1 A2 c1 c2 text mem) (hb : Below w.heap.size w w1) : RowsI w1 base A1 A2 c1 c2 text mem := ⟨row_keep h.r1 hb, row_keep h.r2 hb⟩
theorem RowsI.mono {w : World} {base base' : Nat} {A1 A2 : Option Addr} {c1 c2 : Nat} {text mem : List Int} (h : RowsI w base A1 A2 c1 c2 text mem) (hb : base' ≤ base) : RowsI w base' A1 A2 c1 c2 text mem := ⟨ownsRow_mono h.r1 hb, ownsRow_mono h.r2 hb⟩
theorem RowsI.but {w w1 : World} {g base : Nat} {A1 A2 : Option Addr} {c1 c2 : Nat} {text mem : List Int} (h : RowsI w base A1 A2 c1 c2 text mem) (hb : But g w w1) (hg : g < base) : RowsI w1 base A1 A2 c1 c2 text mem := ⟨row_but h.r1 hg hb, row_but h.r2 hg hb⟩
theorem row_setB {w1 : World} {B base n : Nat} {e : TypeId} {sz : Nat} {v : Value} {xs : List Value} (h : w1.ownsRow base e sz v n xs) (hB : B < base) (i : Nat) (x : Value) : (w1.setCell ⟨B, i, none⟩ x).ownsRow base e sz v n xs := ownsRow_setCell_below h hB x
theorem RowsI.set {w : World} {B base : Nat} {A1 A2 : Option Addr} {c1 c2 : Nat} {text mem : List Int} (h : RowsI w base A1 A2 c1 c2 text mem) (hB : B < base) (i : Nat) (x : Value) : RowsI (w.setCell ⟨B, i, none⟩ x) base A1 A2 c1 c2 text mem := ⟨row_setB h.r1 hB i x, row_setB h.r2 hB i x⟩
theorem no_ints (w : World) (K : IntKind) : IntsAt w none K [] := fun i hi => by simp at hi








end Go.Proofs.YtkdafkdogmemcaaDoor

namespace Go.Proofs.YtkdafkdogmemcaaDoor
open Go.RowKit

theorem made_wcur (f : Nat → Value) (z : Value) (N : Nat) : madeCells #[z] N = wcur f (fun _ => z) N 0 := by
  apply Array.ext_getElem?
  intro i
  by_cases hi : i < N
  · rw [wcur_get _ _ _ _ _ hi]; simp [madeCells, hi, Nat.mod_one]
  · rw [Array.getElem?_eq_none (by simp [madeCells]; omega), Array.getElem?_eq_none (by simp [wcur_size]; omega)]
theorem info45 : ∃ i, Tryd.prog.info? 81 = some i ∧ i.zero = some (.int .u32 0) ∧ i.size = 1 ∧ i.bytes = 4 :=
  ⟨(Tryd.prog.info? 81).get (by kernel_rfl), by kernel_rfl, by kernel_rfl, by kernel_rfl, by kernel_rfl⟩
theorem make22 (f : Nat → Value) (n : Nat) (hn : n ≤ 1048576) (w : World) : (Instr.makeSlice 80 (.int .i64 ((n : Int) + 64)) (.int .i64 ((n : Int) + 64))).run Tryd.prog w = .ok (.slice (some ⟨w.heap.size, 0, none⟩) (n + 64) (n + 64)) (w.alloc (.cells (wcur f (fun _ => .int .u32 0) (n + 64) 0) 81)) := by
  obtain ⟨i, hi, hz, hs, hb⟩ := info45
  have h := run_makeSlice (P := Tryd.prog) w 80 81 i _ Tryd.underlying80 hi hz .i64 .i64 ((n : Int) + 64) ((n : Int) + 64) (by omega) (by omega) (by rw [hs]; omega) (by rw [hb]; omega) (by omega)
  rw [hs, Nat.mul_one, show ((n : Int) + 64).toNat = n + 64 by omega] at h
  rw [h, ← made_wcur f (.int .u32 0) (n + 64)]
  rfl
theorem info2 : ∃ i, Tryd.prog.info? 2 = some i ∧ i.zero = some (.int .i64 0) ∧ i.size = 1 ∧ i.bytes = 8 :=
  ⟨(Tryd.prog.info? 2).get (by kernel_rfl), by kernel_rfl, by kernel_rfl, by kernel_rfl, by kernel_rfl⟩
theorem make23 (f : Nat → Value) (n : Nat) (hn : n ≤ 1048576) (w : World) : (Instr.makeSlice 79 (.int .i64 ((n : Int) + 64)) (.int .i64 ((n : Int) + 64))).run Tryd.prog w = .ok (.slice (some ⟨w.heap.size, 0, none⟩) (n + 64) (n + 64)) (w.alloc (.cells (wcur f (fun _ => .int .i64 0) (n + 64) 0) 2)) := by
  obtain ⟨i, hi, hz, hs, hb⟩ := info2
  have h := run_makeSlice (P := Tryd.prog) w 79 2 i _ Tryd.underlying79 hi hz .i64 .i64 ((n : Int) + 64) ((n : Int) + 64) (by omega) (by omega) (by rw [hs]; omega) (by rw [hb]; omega) (by omega)
  rw [hs, Nat.mul_one, show ((n : Int) + 64).toNat = n + 64 by omega] at h
  rw [h, ← made_wcur f (.int .i64 0) (n + 64)]
  rfl






end Go.Proofs.YtkdafkdogmemcaaDoor

namespace Go.Proofs.YtkdafkdogmemcaaDoor
open Go.RowKit

abbrev Spt := Int × Int × Int
def spD : Spt := (0, 0, 0)
def spt (l : List Spt) (k : Nat) : Spt := l.getD k spD
theorem spt_mem {l : List Spt} {k : Nat} (h : k < l.length) : spt l k ∈ l := by
  unfold spt
  rw [List.getD_eq_getElem?_getD, List.getElem?_eq_getElem h]
  exact List.getElem_mem _
def SpAt (w : World) (A : Option Addr) (l : List Spt) : Prop := ∀ j, j < l.length → ∃ a : Addr, A = some a ∧ w.cell? (a.add (j * 3)) = some (.int .i64 (spt l j).1) ∧ w.cell? ((a.add (j * 3)).add 1) = some (.int .i8 (spt l j).2.1) ∧ w.cell? ((a.add (j * 3)).add 2) = some (.int .i8 (spt l j).2.2)
theorem SpAt.keep {w w' : World} {A : Option Addr} {l : List Spt} (h : SpAt w A l) (hb : Below w.heap.size w w') : SpAt w' A l := fun j hj => by
  obtain ⟨a, e, q1, q2, q3⟩ := h j hj
  exact ⟨a, e, lkeep hb q1, lkeep hb q2, lkeep hb q3⟩
def spNews (l : List Spt) : List Value := l.flatMap fun s => [.int .i64 s.1, .int .i8 s.2.1, .int .i8 s.2.2]
theorem spNews_len : ∀ l : List Spt, (spNews l).length = l.length * 3
  | [] => rfl
  | r :: R => by
    show (Value.int .i64 r.1 :: Value.int .i8 r.2.1 :: Value.int .i8 r.2.2 :: spNews R).length = _
    rw [List.length_cons, List.length_cons, List.length_cons, spNews_len R, List.length_cons]
    omega
theorem spNews_app (R Q : List Spt) : spNews (R ++ Q) = spNews R ++ spNews Q := by simp [spNews]
theorem spNews_get : ∀ {R : List Spt} {j : Nat}, j < R.length → (spNews R)[j * 3]? = some (.int .i64 (spt R j).1) ∧ (spNews R)[j * 3 + 1]? = some (.int .i8 (spt R j).2.1) ∧ (spNews R)[j * 3 + 2]? = some (.int .i8 (spt R j).2.2)
  | r :: R, 0, _ => ⟨rfl, rfl, rfl⟩
  | r :: R, j + 1, h => by
    have ih := spNews_get (R := R) (j := j) (by simp at h; omega)
    show (Value.int .i64 r.1 :: Value.int .i8 r.2.1 :: Value.int .i8 r.2.2 :: spNews R)[(j + 1) * 3]? = _ ∧ (Value.int .i64 r.1 :: Value.int .i8 r.2.1 :: Value.int .i8 r.2.2 :: spNews R)[(j + 1) * 3 + 1]? = _ ∧ (Value.int .i64 r.1 :: Value.int .i8 r.2.1 :: Value.int .i8 r.2.2 :: spNews R)[(j + 1) * 3 + 2]? = _
    rw [show (j + 1) * 3 = j * 3 + 1 + 1 + 1 by omega, show j * 3 + 1 + 1 + 1 + 1 = (j * 3 + 1) + 1 + 1 + 1 by omega, show j * 3 + 1 + 1 + 1 + 2 = (j * 3 + 2) + 1 + 1 + 1 by omega]
    simp only [List.getElem?_cons_succ]
    exact ih
theorem spNews_one (R : List Spt) : ∀ u ∈ spNews R, u.oneCell' = true := fun u hu => by
  unfold spNews at hu
  obtain ⟨r, _, hu⟩ := List.mem_flatMap.1 hu
  simp only [List.mem_cons, List.not_mem_nil, or_false] at hu
  rcases hu with rfl | rfl | rfl <;> rfl
theorem row_sps {w : World} {base c n : Nat} {e : TypeId} {A : Option Addr} {R : List Spt} (h : w.ownsRow base e 3 (.slice A n c) R.length (spNews R)) : SpAt w A R := fun i hi => by
  rcases h.2 with ⟨_, h0⟩ | ⟨j, cap, cur, hv, hb, hg, hc, _⟩
  · omega
  · cases hv
    obtain ⟨a, b, d⟩ := spNews_get hi
    refine ⟨_, rfl, h.cells rfl _ _ a, ?_, ?_⟩
    · rw [Deep.add_add]; exact h.cells rfl _ _ b
    · rw [Deep.add_add]; exact h.cells rfl _ _ d
theorem infoSp : ∃ i, Tryd.prog.info? 53 = some i ∧ i.zero = some (.agg #[.int .i64 0, .int .i8 0, .int .i8 0]) ∧ i.size = 3 ∧ i.bytes = 16 :=
  ⟨(Tryd.prog.info? 53).get (by kernel_rfl), by kernel_rfl, by kernel_rfl, by kernel_rfl, by kernel_rfl⟩
theorem sp_oneI (a b c : Int) : ∀ u ∈ [Value.int .i64 a, .int .i8 b, .int .i8 c], u.oneCell' = true := fun u hu => by
  simp only [List.mem_cons, List.not_mem_nil, or_false] at hu
  rcases hu with rfl | rfl | rfl <;> rfl
theorem own_formS {w : World} {b n sz : Nat} {T : TypeId} {v : Value} {xs : List Value} (h : w.ownsRow b T sz v n xs) : ∃ A c, v = .slice A n c ∧ n ≤ c := by
  rcases h.2 with ⟨e, e2⟩ | ⟨g, cap, cur, e, _, _, hc, _⟩
  · exact ⟨none, 0, by rw [e, e2], by omega⟩
  · exact ⟨_, _, e, hc⟩


end Go.Proofs.YtkdafkdogmemcaaDoor

namespace Go.Proofs.YtkdafkdogmemcaaDoor
open Go.ChangeShapes Go.WideShapes Go.ChangeAt Go.RowKit Go.Joins
set_option maxRecDepth 100000

theorem mk_at20 {α : Type} (f : Nat → α) (n : Nat) (z : α) (i : Nat) (h : i < n) : ((List.range n).map f).getD i z = f i := by simp [List.getD, h]
theorem open_spots {H : Type} {enc : TypeId × Value → H} {W : World} {base : Nat} {sp : Nat → Bool} {held : Bool} {fuel : Nat} {cs : List Value} {x : DataW H × List MemPlace} (h : DataW.trod enc Tryd.prog W base sp held fuel 22 cs = some x) :
    ∃ (O : Option Addr) (cap : Nat) (zs : List Spt), cs = [.slice O zs.length cap] ∧ SpAt W O zs ∧ zs.length ≤ maxLen ∧ (∀ i, i < zs.length → (Lit.int .i64 (spt zs i).1).wf = true ∧ (Lit.int .i8 (spt zs i).2.1).wf = true ∧ (Lit.int .i8 (spt zs i).2.2).wf = true) ∧ (O = none → cap = 0) := by
  rcases Deep.open_slice Tryd.underlying22 h with ⟨rfl, _⟩ | ⟨a, len, cap, m, n, D, Pl, rfl, _, hl, hm, hmm, hxx, hx⟩
  · exact ⟨none, 0, [], rfl, fun i hi => by simp at hi, by simp, fun i hi => by simp at hi, fun _ => rfl⟩
  · have hlm : len ≤ m := by rw [hmm]; split <;> omega
    have each : ∀ i, ∃ q : Spt, (i < len → W.cell? (a.add (i * 3)) = some (.int .i64 q.1) ∧ W.cell? (a.add (i * 3 + 1)) = some (.int .i8 q.2.1) ∧ W.cell? (a.add (i * 3 + 2)) = some (.int .i8 q.2.2) ∧ (Lit.int .i64 q.1).wf = true ∧ (Lit.int .i8 q.2.1).wf = true ∧ (Lit.int .i8 q.2.2).wf = true) := by
      intro i
      by_cases hi : i < len
      · obtain ⟨cs', h1, h2⟩ := hx i (by omega)
        rw [show Tryd.prog.cellsOf 53 = 3 by kernel_rfl] at h1
        obtain ⟨_, hlen, hcell⟩ := World.cells?_some h1
        obtain ⟨y0, y1, y2, k, hD, _, g0, g1, g2⟩ := Deep.trod_struct3 Tryd.underlying53 h2
        match cs', hlen with
        | [v0, v1, v2], _ =>
          simp [show Tryd.prog.cellsOf 3 = 1 by kernel_rfl, show Tryd.prog.cellsOf 51 = 1 by kernel_rfl] at g0 g1 g2
          obtain ⟨s, e0, _, hs⟩ := DataW.trod_int Tryd.underlying3 g0
          obtain ⟨u, e1, _, hu⟩ := DataW.trod_int Tryd.underlying51 g1
          obtain ⟨v, e2, _, hv⟩ := DataW.trod_int Tryd.underlying51 g2
          simp at e0 e1 e2
          subst e0 e1 e2
          have q0 := hcell 0 (by omega)
          have q1 := hcell 1 (by omega)
          have q2 := hcell 2 (by omega)
          rw [Deep.add_add] at q0 q1 q2
          exact ⟨(s, u, v), fun _ => ⟨by simpa using q0, by simpa using q1, by simpa using q2, hs, hu, hv⟩⟩
      · exact ⟨spD, fun h => absurd h hi⟩
    obtain ⟨f, hf⟩ := Classical.axiomOfChoice each
    refine ⟨some a, cap, (List.range len).map f, by simp, ?_, by simp; omega, ?_, fun h => by cases h⟩
    · intro i hi
      have hi' : i < len := by simpa using hi
      obtain ⟨h0, h1, h2, _⟩ := hf i hi'
      refine ⟨a, rfl, ?_, ?_, ?_⟩
      · unfold spt; rw [mk_at20 _ _ _ _ hi']; exact h0
      · unfold spt; rw [mk_at20 _ _ _ _ hi', Deep.add_add]; exact h1
      · unfold spt; rw [mk_at20 _ _ _ _ hi', Deep.add_add]; exact h2
    · intro i hi
      have hi' : i < len := by simpa using hi
      unfold spt
      rw [mk_at20 _ _ _ _ hi']
      exact (hf i hi').2.2.2

end Go.Proofs.YtkdafkdogmemcaaDoor
