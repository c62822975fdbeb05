/-
  Lists, and how they lie in memory; no Go in sight.
-/
import Derived.Test.YthhfkcmoncgknaaProg
import Derived.WalkKit
import Derived.WalkSpells
import Derived.WalkLawsBesides
import Derived.RowKit3
import Derived.Below
namespace Go.Proofs.Ythhfkcmoncgknaa
open Go.RowKit

theorem take_same {α : Type} {zs ys : List α} {z : α} {k : Nat} (h : zs.take k = ys.take k) (h1 : k < zs.length) (h2 : k < ys.length) (e : zs.getD k z = ys.getD k z) : zs.take (k + 1) = ys.take (k + 1) := by
  rw [List.take_succ_eq_append_getElem h1, List.take_succ_eq_append_getElem h2, h]
  have : zs[k] = ys[k] := by simpa [List.getD, h1, h2] using e
  rw [this]
theorem take_all {α : Type} {zs ys : List α} {k : Nat} (h : zs.take k = ys.take k) (h1 : zs.length ≤ k) (h2 : zs.length = ys.length) : zs = ys := by
  rw [List.take_of_length_le h1, List.take_of_length_le (by omega)] at h
  exact h
theorem ne_at {α : Type} {zs ys : List α} {z : α} {k : Nat} (e : ¬ zs.getD k z = ys.getD k z) : ¬ zs = ys := fun h => e (by rw [h])
theorem retB {a b : Bool} (h : a = b) : Ending.returned (.bool a) = .returned (.bool b) := by rw [h]
/-- The number at a place of a list. -/
def nth (zs : List Int) (k : Nat) : Int := zs.getD k 0
abbrev Sym := ByteArray × Int × Int
abbrev Rel := Int × Int
def symD : Sym := (⟨#[]⟩, 0, 0)
def sName (l : List Sym) (k : Nat) : ByteArray := (l.getD k symD).1
def sKind (l : List Sym) (k : Nat) : Int := (l.getD k symD).2.1
def sAt (l : List Sym) (k : Nat) : Int := (l.getD k symD).2.2
def rAt (l : List Rel) (k : Nat) : Int := (l.getD k (0, 0)).1
def rSym (l : List Rel) (k : Nat) : Int := (l.getD k (0, 0)).2
/-- How a list lies in memory: each cell of each item. -/
def IntsAt (w : World) (A : Option Addr) (K : IntKind) (zs : List Int) : Prop := ∀ i, i < zs.length → ∃ a : Addr, A = some a ∧ w.cell? (a.add i) = some (.int K (nth zs i))
def SymsAt (w : World) (A : Option Addr) (zs : List Sym) : Prop := ∀ i, i < zs.length → ∃ a : Addr, A = some a ∧ w.cell? (a.add (i * 3)) = some (.string (sName zs i)) ∧ w.cell? ((a.add (i * 3)).add 1) = some (.int .i8 (sKind zs i)) ∧ w.cell? ((a.add (i * 3)).add 2) = some (.int .i64 (sAt zs i))
def RelsAt (w : World) (A : Option Addr) (zs : List Rel) : Prop := ∀ i, i < zs.length → ∃ a : Addr, A = some a ∧ w.cell? (a.add (i * 2)) = some (.int .i64 (rAt zs i)) ∧ w.cell? ((a.add (i * 2)).add 1) = some (.int .i64 (rSym zs i))
theorem lb_alloc {w w1 : World} (h : Below w.heap.size w w1) (o : Obj) : Below w.heap.size w (w1.alloc o) := h.alloc h.size o
theorem lb_trans {w w1 w2 : World} (h : Below w.heap.size w w1) (k : Below w1.heap.size w1 w2) : Below w.heap.size w w2 := h.trans (k.mono h.size)
theorem lkeep {w w1 : World} (h : Below w.heap.size w w1) {p : Addr} {v : Value} (hc : w.cell? p = some v) : w1.cell? p = some v := by
  rw [h.cell (p := p) (World.block_lt_of_cell? w _ hc)]; exact hc
theorem IntsAt.keep {w w1 : World} {A : Option Addr} {K : IntKind} {zs : List Int} (h : IntsAt w A K zs) (hb : Below w.heap.size w w1) : IntsAt w1 A K zs := fun i hi => by
  obtain ⟨a, e, c⟩ := h i hi
  exact ⟨a, e, lkeep hb c⟩
theorem SymsAt.keep {w w1 : World} {A : Option Addr} {zs : List Sym} (h : SymsAt w A zs) (hb : Below w.heap.size w w1) : SymsAt w1 A zs := fun i hi => by
  obtain ⟨a, e, c, d, f⟩ := h i hi
  exact ⟨a, e, lkeep hb c, lkeep hb d, lkeep hb f⟩
theorem RelsAt.keep {w w1 : World} {A : Option Addr} {zs : List Rel} (h : RelsAt w A zs) (hb : Below w.heap.size w w1) : RelsAt w1 A zs := fun i hi => by
  obtain ⟨a, e, c, d⟩ := h i hi
  exact ⟨a, e, lkeep hb c, lkeep hb d⟩
theorem nth_ne {zs ys : List Int} {k : Nat} (e : ¬ nth zs k = nth ys k) : ¬ zs = ys := fun h => e (by rw [h])
theorem sym_same {zs ys : List Sym} {k : Nat} (e : sName zs k = sName ys k) (f : sKind zs k = sKind ys k) (g : sAt zs k = sAt ys k) : zs.getD k symD = ys.getD k symD := Prod.ext e (Prod.ext f g)
theorem rel_same {zs ys : List Rel} {k : Nat} (e : rAt zs k = rAt ys k) (f : rSym zs k = rSym ys k) : zs.getD k (0, 0) = ys.getD k (0, 0) := Prod.ext e f
/-- A row of cells, written up to k. -/
def wcur (f z : Nat → Value) (N k : Nat) : Array Value := ((List.range N).map fun i => if i < k then f i else z i).toArray
theorem wcur_size (f z : Nat → Value) (N k : Nat) : (wcur f z N k).size = N := by simp [wcur]
theorem wcur_get (f z : Nat → Value) (N k i : Nat) (h : i < N) : (wcur f z N k)[i]? = some (if i < k then f i else z i) := by simp [wcur, h]
theorem wcur_set (f z : Nat → Value) (N k : Nat) (h : k < N) : (wcur f z N k).setIfInBounds k (f k) = wcur f z N (k + 1) := by
  apply Array.ext_getElem?
  intro i
  by_cases hi : i < N
  · rw [wcur_get _ _ _ _ _ hi, Array.getElem?_setIfInBounds, wcur_size]
    by_cases hk : k = i
    · subst hk; simp [h]
    · rw [if_neg hk, wcur_get _ _ _ _ _ hi]
      by_cases h1 : i < k
      · simp [h1, show i < k + 1 by omega]
      · simp [h1, show ¬ i < k + 1 by omega]
  · rw [Array.getElem?_eq_none (by simp [wcur_size]; omega), Array.getElem?_eq_none (by simp [wcur_size]; omega)]
/-- The mark at a place. -/
def mark (i : Nat) : Int := 9437184 + i + 1
def wInt (k : IntKind) (zs : List Int) (i : Nat) : Value := if i < zs.length then .int k (nth zs i) else .int k (mark i)
def wSym (zs : List Sym) (i : Nat) : Value := if i / 3 < zs.length then (if i % 3 = 0 then .string (sName zs (i / 3)) else if i % 3 = 1 then .int .i8 (sKind zs (i / 3)) else .int .i64 (sAt zs (i / 3))) else (if i % 3 = 0 then .string ⟨#[]⟩ else if i % 3 = 1 then .int .i8 0 else .int .i64 (mark (i / 3)))
def zSym (i : Nat) : Value := if i % 3 = 0 then .string ⟨#[]⟩ else if i % 3 = 1 then .int .i8 0 else .int .i64 0
def wRel (zs : List Rel) (i : Nat) : Value := if i / 2 < zs.length then (if i % 2 = 0 then .int .i64 (rAt zs (i / 2)) else .int .i64 (rSym zs (i / 2))) else (if i % 2 = 0 then .int .i64 (mark (i / 2)) else .int .i64 0)












end Go.Proofs.Ythhfkcmoncgknaa
