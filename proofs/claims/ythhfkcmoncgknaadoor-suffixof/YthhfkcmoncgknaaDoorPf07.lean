/-
  A taker in memory, and worlds that part in its block alone; no Go in sight. An output in memory: its box and its own row of bytes; no Go in sight.
-/
import Derived.Test.YthhfkcmoncgknaaDoorProg
import Derived.Test.YthhfkcmoncgknaaDoorPf06
import Derived.WalkKit
import Derived.WalkSpells
import Derived.WalkLawsBesides
import Derived.RowKit3
import Derived.Below
import Derived.Deep.QuietTactic
import Derived.BigQuiet
import Derived.WalkSmall
import Derived.Laws.Rows
namespace Go.Proofs.YthhfkcmoncgknaaDoor
open Go.RowKit

theorem But.setAt {g : Nat} {a b : World} (h : But g a b) (i : Nat) (v : Value) : But g a (b.setCell ⟨g, i, none⟩ v) := h.set i v
/-- A taker: its bytes, where it stands, what is wrong. -/
def TkAt (w : World) (g : Nat) (A : Option Addr) (n c : Nat) (t : Tk) : Prop :=
  (w.cell? ⟨g, 0, none⟩ = some (.slice A n c) ∧ w.cell? ⟨g, 1, none⟩ = some (.int .i64 t.pos) ∧ w.cell? ⟨g, 2, none⟩ = some (.int .i64 t.bad) ∧ w.cell? ⟨g, 3, none⟩ = some (.int .i64 t.place)) ∧ ∀ i, w.frozen? ⟨g, i, none⟩ = false
theorem TkAt.keep {w w' : World} {g : Nat} {A : Option Addr} {n c : Nat} {t : Tk} (h : TkAt w g A n c t) (hb : Below w.heap.size w w') : TkAt w' g A n c t :=
  ⟨⟨lkeep hb h.1.1, lkeep hb h.1.2.1, lkeep hb h.1.2.2.1, lkeep hb h.1.2.2.2⟩, fun i => by
    have hl : g < w.heap.size := World.block_lt_of_cell? w ⟨g, 0, none⟩ h.1.1
    rw [hb.frozen (p := ⟨g, i, none⟩) hl]; exact h.2 i⟩
theorem TkAt.drewN {w : World} {g : Nat} {A : Option Addr} {n c : Nat} {t : Tk} (h : TkAt w g A n c t) (k : Nat) : TkAt (w.drewN k) g A n c t := h
theorem TkAt.posTo {w : World} {g : Nat} {A : Option Addr} {n c : Nat} {t : Tk} (h : TkAt w g A n c t) (p : Nat) : TkAt (w.setCell ⟨g, 1, none⟩ (.int .i64 p)) g A n c ⟨p, t.bad, t.place⟩ := by
  refine ⟨⟨?_, ?_, ?_, ?_⟩, fun i => ?_⟩
  · rw [← h.1.1]; simp [go_sem]
  · simp [go_sem, h.1.2.1]
  · rw [← h.1.2.2.1]; simp [go_sem]
  · rw [← h.1.2.2.2]; simp [go_sem]
  · rw [← h.2 i]; simp [go_sem]
theorem TkAt.wrongTo {w : World} {g : Nat} {A : Option Addr} {n c : Nat} {t : Tk} (h : TkAt w g A n c t) (e p : Int) : TkAt ((w.setCell ⟨g, 2, none⟩ (.int .i64 e)).setCell ⟨g, 3, none⟩ (.int .i64 p)) g A n c ⟨t.pos, e, p⟩ := by
  refine ⟨⟨?_, ?_, ?_, ?_⟩, fun i => ?_⟩
  · rw [← h.1.1]; simp [go_sem]
  · rw [← h.1.2.1]; simp [go_sem]
  · simp [go_sem, h.1.2.2.1]
  · simp [go_sem, h.1.2.2.2]
  · rw [← h.2 i]; simp [go_sem]





end Go.Proofs.YthhfkcmoncgknaaDoor

namespace Go.Proofs.YthhfkcmoncgknaaDoor
open Go.RowKit


/-- Bytes as cells. -/
def bNews (l : List Int) : List Value := l.map (Value.int .u8)
theorem bNews_len (l : List Int) : (bNews l).length = l.length := by simp [bNews]
theorem bNews_one (l : List Int) : ∀ u ∈ bNews l, u.oneCell' = true := fun u hu => by
  unfold bNews at hu
  obtain ⟨x, _, rfl⟩ := List.mem_map.1 hu
  rfl
theorem bNews_app (l r : List Int) : bNews l ++ bNews r = bNews (l ++ r) := by simp [bNews]
theorem be4_mod (x : Int) : be4 (x % 4294967296) = be4 x := by
  simp only [be4, List.cons.injEq, and_true]
  omega
/-- No row of bytes. -/
def NoB (w : World) (k : Nat) : Prop := ∀ cur, w.heap[k]? ≠ some (.cells cur 5 (0, 0))
/-- Nothing is other but the box g and rows of bytes behind it. -/
structure OutTo (g : Nat) (w w' : World) : Prop where
  os : w'.os = w.os
  tape : w'.tape = w.tape
  output : w'.output = w.output
  size : w.heap.size ≤ w'.heap.size
  block : ∀ k, k < w.heap.size → k ≠ g → (k < g ∨ NoB w k) → w'.heap[k]? = w.heap[k]?
theorem OutTo.refl (g : Nat) (w : World) : OutTo g w w := ⟨rfl, rfl, rfl, Nat.le_refl _, fun _ _ _ _ => rfl⟩
theorem OutTo.trans {g : Nat} {w w1 w2 : World} (h : OutTo g w w1) (k : OutTo g w1 w2) : OutTo g w w2 := by
  refine ⟨k.os.trans h.os, k.tape.trans h.tape, k.output.trans h.output, Nat.le_trans h.size k.size, fun i hi hg hr => ?_⟩
  have e := h.block i hi hg hr
  refine (k.block i (Nat.lt_of_lt_of_le hi h.size) hg ?_).trans e
  rcases hr with hr | hr
  · exact Or.inl hr
  · exact Or.inr fun cur => by rw [e]; exact hr cur
theorem OutTo.of {g : Nat} {w w1 : World} (hb : Below w.heap.size w w1) : OutTo g w w1 := ⟨hb.os, hb.tape, hb.output, hb.size, fun i hi _ _ => hb.block i hi⟩
theorem OutTo.below {g : Nat} {w w1 : World} (hg : g < w.heap.size) (k : OutTo g w w1) : Below g w w1 :=
  ⟨k.os, k.tape, k.output, k.size, fun i hi => k.block i (by omega) (by omega) (Or.inl hi)⟩
/-- A block that is no row of bytes and not the box stays. -/
theorem OutTo.box {g : Nat} {w w1 : World} (k : OutTo g w w1) {B : Nat} {cur : Array Value} {t : TypeId} (hb : w.heap[B]? = some (.cells cur t (0, 0))) (ht : t ≠ 5) (hg : B ≠ g) : w1.heap[B]? = some (.cells cur t (0, 0)) := by
  rw [k.block B (Array.getElem?_eq_some_iff.1 hb).1 hg (Or.inr fun c => by rw [hb]; intro e; cases e; exact ht rfl)]; exact hb
theorem OutTo.cell {g : Nat} {w w1 : World} (k : OutTo g w w1) (hgw : g < w.heap.size) {p : Addr} {v : Value} (hc : w.cell? p = some v) (hg : p.block < g) : w1.cell? p = some v := by
  rw [World.cell?_of_block (w := w) ((k.below hgw).block p.block hg)]; exact hc
theorem own_noB {w : World} {g n k : Nat} {v : Value} {xs : List Value} (h : w.ownsRow (g + 1) 5 1 v n xs) (hk : k < g ∨ NoB w k) : some k ≠ v.ownBlock := fun e => by
  have hl := h.lt k e.symm
  rcases hk with hk | hk
  · omega
  · rcases h.2 with ⟨rfl, _⟩ | ⟨j, cap, cur, rfl, _, hj, _⟩
    · cases e
    · cases e
      exact hk cur hj



end Go.Proofs.YthhfkcmoncgknaaDoor
