/-
  An output in memory: its box and its own row of bytes; no Go in sight. The program writes numbers and texts into an output; what is written is at most 2^20 bytes.
-/
import Derived.Test.YtpmaiblgnblpeaaDoorProg
import Derived.WalkKit
import Derived.WalkSpells
import Derived.WalkLawsBesides
import Derived.RowKit3
import Derived.Below
import Derived.Deep.QuietTactic
import Derived.BigQuiet
import Derived.WalkSmall
import Derived.Laws.Rows
import Derived.Test.YtpmaiblgnblpeaaDoorPf37
import Derived.Lib.AppendStr
namespace Go.Proofs.YtpmaiblgnblpeaaDoor
open Go.RowKit


/-- Bytes as cells. -/
def bNews (l : List Int) : List Value := l.map (Value.int .u8)
theorem bNews_len (l : List Int) : (bNews l).length = l.length := by simp [bNews]
theorem bNews_one (l : List Int) : ∀ u ∈ bNews l, u.oneCell' = true := fun u hu => by
  unfold bNews at hu
  obtain ⟨x, _, rfl⟩ := List.mem_map.1 hu
  rfl
theorem bNews_app (l r : List Int) : bNews l ++ bNews r = bNews (l ++ r) := by simp [bNews]
theorem be4_mod (x : Int) : be4 (x % 4294967296) = be4 x := by
  simp only [be4, List.cons.injEq, and_true]
  omega
/-- No row of bytes. -/
def NoB (w : World) (k : Nat) : Prop := ∀ cur, w.heap[k]? ≠ some (.cells cur 5 (0, 0))
/-- Nothing is other but the box g and rows of bytes behind it. -/
structure OutTo (g : Nat) (w w' : World) : Prop where
  os : w'.os = w.os
  tape : w'.tape = w.tape
  output : w'.output = w.output
  size : w.heap.size ≤ w'.heap.size
  block : ∀ k, k < w.heap.size → k ≠ g → (k < g ∨ NoB w k) → w'.heap[k]? = w.heap[k]?
theorem OutTo.refl (g : Nat) (w : World) : OutTo g w w := ⟨rfl, rfl, rfl, Nat.le_refl _, fun _ _ _ _ => rfl⟩
theorem OutTo.trans {g : Nat} {w w1 w2 : World} (h : OutTo g w w1) (k : OutTo g w1 w2) : OutTo g w w2 := by
  refine ⟨k.os.trans h.os, k.tape.trans h.tape, k.output.trans h.output, Nat.le_trans h.size k.size, fun i hi hg hr => ?_⟩
  have e := h.block i hi hg hr
  refine (k.block i (Nat.lt_of_lt_of_le hi h.size) hg ?_).trans e
  rcases hr with hr | hr
  · exact Or.inl hr
  · exact Or.inr fun cur => by rw [e]; exact hr cur
theorem OutTo.of {g : Nat} {w w1 : World} (hb : Below w.heap.size w w1) : OutTo g w w1 := ⟨hb.os, hb.tape, hb.output, hb.size, fun i hi _ _ => hb.block i hi⟩
theorem OutTo.below {g : Nat} {w w1 : World} (hg : g < w.heap.size) (k : OutTo g w w1) : Below g w w1 :=
  ⟨k.os, k.tape, k.output, k.size, fun i hi => k.block i (by omega) (by omega) (Or.inl hi)⟩
/-- A block that is no row of bytes and not the box stays. -/
theorem OutTo.box {g : Nat} {w w1 : World} (k : OutTo g w w1) {B : Nat} {cur : Array Value} {t : TypeId} (hb : w.heap[B]? = some (.cells cur t (0, 0))) (ht : t ≠ 5) (hg : B ≠ g) : w1.heap[B]? = some (.cells cur t (0, 0)) := by
  rw [k.block B (Array.getElem?_eq_some_iff.1 hb).1 hg (Or.inr fun c => by rw [hb]; intro e; cases e; exact ht rfl)]; exact hb
theorem OutTo.cell {g : Nat} {w w1 : World} (k : OutTo g w w1) (hgw : g < w.heap.size) {p : Addr} {v : Value} (hc : w.cell? p = some v) (hg : p.block < g) : w1.cell? p = some v := by
  rw [World.cell?_of_block (w := w) ((k.below hgw).block p.block hg)]; exact hc
theorem own_noB {w : World} {g n k : Nat} {v : Value} {xs : List Value} (h : w.ownsRow (g + 1) 5 1 v n xs) (hk : k < g ∨ NoB w k) : some k ≠ v.ownBlock := fun e => by
  have hl := h.lt k e.symm
  rcases hk with hk | hk
  · omega
  · rcases h.2 with ⟨rfl, _⟩ | ⟨j, cap, cur, rfl, _, hj, _⟩
    · cases e
    · cases e
      exact hk cur hj




end Go.Proofs.YtpmaiblgnblpeaaDoor

namespace Go.Proofs.YtpmaiblgnblpeaaDoor
open Go.RowKit


theorem info5 : ∃ i, Tryd.prog.info? 5 = some i ∧ i.zero = some (.int .u8 0) ∧ i.size = 1 ∧ i.bytes = 1 :=
  ⟨(Tryd.prog.info? 5).get (by kernel_rfl), by kernel_rfl, by kernel_rfl, by kernel_rfl, by kernel_rfl⟩
theorem new_lit (w : World) (l : List Int) (h : l.length ≤ 1048576) : (w.alloc (.cells (bNews l).toArray 5)).ownsRow w.heap.size 5 1 (.slice (some ⟨w.heap.size, 0, none⟩) l.length l.length) l.length (bNews l) := by
  refine ⟨by rw [bNews_len]; omega, Or.inr ⟨w.heap.size, l.length, (bNews l).toArray, rfl, Nat.le_refl _, heap_alloc_new _ _, Nat.le_refl _, by unfold maxLen; omega, by simp [bNews], ?_⟩⟩
  simp only [Nat.mul_one]
  rw [← bNews_len l]
  exact List.take_length
theorem lit_cells (w : World) (l : List Int) (h : l.length ≤ 1048576) : ∀ j u, (bNews l)[j]? = some u → (w.alloc (.cells (bNews l).toArray 5)).cell? ((⟨w.heap.size, 0, none⟩ : Addr).add j) = some u := (new_lit w l h).cells rfl
theorem slice_form {w : World} {b n : Nat} {v : Value} {xs : List Value} (h : w.ownsRow b 5 1 v n xs) : ∃ A n c, v = .slice A n c := by
  rcases h.2 with ⟨rfl, _⟩ | ⟨g, cap, cur, rfl, _⟩
  · exact ⟨_, _, _, rfl⟩
  · exact ⟨_, _, _, rfl⟩
theorem len_app4 (l : List Int) (n : Int) : (l ++ be4 n).length = l.length + 4 := by simp [be4_len]
theorem str_news (s : ByteArray) : Lib.strCells s = bNews (strB s) := by
  unfold Lib.strCells bNews strB
  rw [List.map_map]; rfl
theorem strB_size (s : ByteArray) : (strB s).length = s.size := by
  unfold strB
  rw [List.length_map, Array.length_toList]
  rfl





end Go.Proofs.YtpmaiblgnblpeaaDoor
