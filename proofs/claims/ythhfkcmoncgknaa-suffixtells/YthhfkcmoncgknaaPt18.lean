/-
  Where an object that was copied with marks lies, and that the marks stand; its lists are at most 2^20 long.
-/
import Derived.Test.YthhfkcmoncgknaaProg
import Derived.WalkKit
import Derived.WalkSpells
import Derived.WalkLawsBesides
import Derived.RowKit3
import Derived.Below
import Derived.Deep.QuietTactic
import Derived.BigQuiet
import Derived.WalkSmall
import Derived.Laws.Rows
import Derived.Test.YthhfkcmoncgknaaPt17
namespace Go.Proofs.Ythhfkcmoncgknaa
open Go.RowKit

theorem al_size (X : World) (o : Obj) : (X.alloc o).heap.size = X.heap.size + 1 := by simp
theorem addz (g i : Nat) : (⟨g, 0, none⟩ : Addr).add i = ⟨g, i, none⟩ := by
  unfold Addr.add; split
  · subst_vars; rfl
  · simp
theorem addz2 (g i j : Nat) (hj : ¬ j = 0) : ((⟨g, 0, none⟩ : Addr).add i).add j = ⟨g, i + j, none⟩ := by
  rw [addz]; unfold Addr.add; rw [if_neg hj]
theorem row_new (X : World) (cs : Array Value) (t : TypeId) (j : Nat) (v : Value) (h : cs[j]? = some v) : (X.alloc (.cells cs t)).cell? ⟨X.heap.size, j, none⟩ = some v := by
  rw [cell_of_row _ _ _ _ _ _ (heap_alloc_new X _)]; exact h
theorem wcur_full (f z : Nat → Value) (N i : Nat) (h : i < N) : (wcur f z N N)[i]? = some (f i) := by rw [wcur_get _ _ _ _ _ h, if_pos h]
theorem wide_ints (X : World) (K : IntKind) (z : Nat → Value) (zs : List Int) (t : TypeId) : IntsAt (X.alloc (.cells (wcur (wInt K zs) z (zs.length + 64) (zs.length + 64)) t)) (some ⟨X.heap.size, 0, none⟩) K zs := fun i hi =>
  ⟨_, rfl, by rw [addz]; exact row_new _ _ _ _ _ (by rw [wcur_full _ _ _ _ (by omega)]; simp [wInt, hi])⟩
theorem wide_marki (X : World) (K : IntKind) (z : Nat → Value) (zs : List Int) (t : TypeId) : MarkI (X.alloc (.cells (wcur (wInt K zs) z (zs.length + 64) (zs.length + 64)) t)) K X.heap.size zs.length := fun i h1 h2 =>
  row_new _ _ _ _ _ (by rw [wcur_full _ _ _ _ h2]; simp [wInt, mark, show ¬ i < zs.length by omega])



end Go.Proofs.Ythhfkcmoncgknaa
