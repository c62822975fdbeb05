/-
  Worlds that part in one block alone, and the marks that lie in it; no Go in sight.
-/
import Derived.Test.YtbphfgalgiinnaaProg
import Derived.WalkKit
import Derived.WalkSpells
import Derived.WalkLawsBesides
import Derived.RowKit3
import Derived.Below
import Derived.Deep.QuietTactic
import Derived.BigQuiet
import Derived.WalkSmall
import Derived.Test.YtbphfgalgiinnaaObCheck
namespace Go.Proofs.Ytbphfgalgiinnaa
open Go.RowKit

/-- Nothing is other but what lies in block g, and new blocks. -/
def But (g : Nat) (w w' : World) : Prop := w'.os = w.os ∧ w'.tape = w.tape ∧ w'.output = w.output ∧ w.heap.size ≤ w'.heap.size ∧ ∀ k, k < w.heap.size → k ≠ g → w'.heap[k]? = w.heap[k]?
theorem But.refl (g : Nat) (w : World) : But g w w := ⟨rfl, rfl, rfl, Nat.le_refl _, fun _ _ _ => rfl⟩
theorem But.trans {g : Nat} {a b c : World} (h : But g a b) (k : But g b c) : But g a c :=
  ⟨k.1.trans h.1, k.2.1.trans h.2.1, k.2.2.1.trans h.2.2.1, Nat.le_trans h.2.2.2.1 k.2.2.2.1, fun i hi hn => (k.2.2.2.2 i (Nat.lt_of_lt_of_le hi h.2.2.2.1) hn).trans (h.2.2.2.2 i hi hn)⟩
theorem But.of {g : Nat} {w w' : World} (h : Below w.heap.size w w') : But g w w' := ⟨h.os, h.tape, h.output, h.size, fun k hk _ => h.block k hk⟩
theorem But.on {g : Nat} {a b c : World} (h : But g a b) (k : Below b.heap.size b c) : But g a c := h.trans (But.of k)
theorem But.set {g : Nat} {a b : World} (h : But g a b) (i : Nat) (v : Value) : But g a (b.setCell ⟨g, i, none⟩ v) :=
  h.trans ⟨rfl, rfl, rfl, Nat.le_of_eq (by simp [go_sem]), fun k _ hn => Below.heap_setCell _ _ _ _ hn⟩
theorem But.drewN {g : Nat} {a b : World} (h : But g a b) (n : Nat) : But g a (b.drewN n) := h
theorem But.cell {g : Nat} {w w' : World} (h : But g w w') {p : Addr} {v : Value} (hp : p.block ≠ g) (hc : w.cell? p = some v) : w'.cell? p = some v := by
  rw [World.cell?_of_block (w := w) (h.2.2.2.2 p.block (World.block_lt_of_cell? w _ hc) hp)]; exact hc
theorem But.below {g : Nat} {w0 w w' : World} (h : But g w w') (hb : Below w0.heap.size w0 w) (hg : w0.heap.size ≤ g) : Below w0.heap.size w0 w' :=
  ⟨h.1.trans hb.os, h.2.1.trans hb.tape, h.2.2.1.trans hb.output, Nat.le_trans hb.size h.2.2.2.1, fun k hk => (h.2.2.2.2 k (Nat.lt_of_lt_of_le hk hb.size) (by omega)).trans (hb.block k hk)⟩
/-- The marks: as many as an object's code may be long. -/
def MarksAt (w : World) (g : Nat) (m : Nat → Bool) : Prop := (∀ i, i < 16384 → w.cell? ⟨g, i, none⟩ = some (.bool (m i))) ∧ ∀ i, w.frozen? ⟨g, i, none⟩ = false
theorem MarksAt.keep {w w' : World} {g : Nat} {m : Nat → Bool} (h : MarksAt w g m) (hb : Below w.heap.size w w') : MarksAt w' g m :=
  ⟨fun i hi => lkeep hb (h.1 i hi), fun i => by
    have hl : g < w.heap.size := World.block_lt_of_cell? w _ (h.1 0 (by omega))
    rw [hb.frozen (p := ⟨g, i, none⟩) hl]; exact h.2 i⟩
theorem MarksAt.set {w : World} {g : Nat} {m : Nat → Bool} (h : MarksAt w g m) (i : Nat) : MarksAt (w.setCell ⟨g, i, none⟩ (.bool true)) g (fun j => j == i || m j) :=
  ⟨fun j hj => by
    by_cases hij : j = i
    · subst hij
      simp [go_sem, h.1 j hj]
    · have e : (j == i) = false := by simpa using hij
      simp only [e, Bool.false_or]
      rw [← h.1 j hj]
      simp [go_sem], fun j => by rw [← h.2 j]; simp [go_sem]⟩
theorem MarksAt.drewN {w : World} {g : Nat} {m : Nat → Bool} (h : MarksAt w g m) (n : Nat) : MarksAt (w.drewN n) g m := h
/-- Each place that is marked holds no target but 0. -/
def Safe (code : List Int) (m : Nat → Bool) : Prop := ∀ i, m i = true → tgV (nth code i) = 0
theorem Safe.set {code : List Int} {m : Nat → Bool} (h : Safe code m) (i : Nat) (e : tgV (nth code i) = 0) : Safe code (fun j => j == i || m j) := fun j hj => by
  simp at hj
  rcases hj with rfl | hj
  · exact e
  · exact h j hj
/-- The place ahead of which the next relocation may not lie. -/
def aheadV (zs : List Rel) (k : Nat) : Int := if k = 0 then -1 else rAt zs (k - 1)
theorem ahead_zero (zs : List Rel) : aheadV zs 0 = -1 := rfl
theorem ahead_succ (zs : List Rel) (k : Nat) : aheadV zs (k + 1) = rAt zs k := by unfold aheadV; rw [if_neg (by omega)]; rfl
theorem rel_past {zs : List Rel} {code : List Int} {ns k : Nat} (h : ∀ j, j < k → relE zs code ns j = 0) : -1 ≤ aheadV zs k := by
  unfold aheadV
  split
  · omega
  · next hk =>
    have := h (k - 1) (by omega)
    unfold relE at this
    split at this
    · omega
    · next h1 => omega
theorem rel_bad {zs : List Rel} {code : List Int} {ns k : Nat} (h : ∀ j, j < k → relE zs code ns j = 0) (e : rAt zs k ≤ aheadV zs k ∨ (code.length : Int) ≤ rAt zs k ∨ rSym zs k < 0 ∨ (ns : Int) ≤ rSym zs k) : relE zs code ns k = 24 := by
  have hp := rel_past h
  unfold aheadV at e hp
  unfold relE
  rw [if_pos]
  split at e
  · omega
  · rename_i hk; rw [if_neg hk] at hp; omega
theorem rel_fine {zs : List Rel} {code : List Int} {ns k : Nat} (h : ∀ j, j < k → relE zs code ns j = 0) (e : ¬ rAt zs k ≤ aheadV zs k) (e2 : ¬ (code.length : Int) ≤ rAt zs k) (e3 : ¬ rSym zs k < 0) (e4 : ¬ (ns : Int) ≤ rSym zs k) :
    0 ≤ rAt zs k ∧ (isT (nth code (rAt zs k).toNat) = false ∨ ¬ tgV (nth code (rAt zs k).toNat) = 0 → relE zs code ns k = 24) ∧ (¬ (isT (nth code (rAt zs k).toNat) = false ∨ ¬ tgV (nth code (rAt zs k).toNat) = 0) → relE zs code ns k = 0) := by
  have hp := rel_past h
  have h0 : 0 ≤ rAt zs k := by omega
  have hx : ¬ (rAt zs k < 0 ∨ (code.length : Int) ≤ rAt zs k ∨ (0 < k ∧ rAt zs k ≤ rAt zs (k - 1)) ∨ rSym zs k < 0 ∨ (ns : Int) ≤ rSym zs k) := by
    unfold aheadV at e
    split at e
    · omega
    · omega
  refine ⟨h0, fun hh => ?_, fun hh => ?_⟩
  · unfold relE; rw [if_neg hx, if_pos hh]
  · unfold relE; rw [if_neg hx, if_neg hh]

end Go.Proofs.Ytbphfgalgiinnaa
