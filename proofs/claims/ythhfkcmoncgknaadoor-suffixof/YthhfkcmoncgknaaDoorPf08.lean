/-
  The program writes numbers and texts into an output; what is written is at most 2^20 bytes.
-/
import Derived.Test.YthhfkcmoncgknaaDoorProg
import Derived.WalkKit
import Derived.WalkSpells
import Derived.WalkLawsBesides
import Derived.RowKit3
import Derived.Below
import Derived.Deep.QuietTactic
import Derived.BigQuiet
import Derived.WalkSmall
import Derived.Laws.Rows
import Derived.Lib.AppendStr
import Derived.Test.YthhfkcmoncgknaaDoorPf07
namespace Go.Proofs.YthhfkcmoncgknaaDoor
open Go.RowKit


theorem info5 : ∃ i, Tryd.prog.info? 5 = some i ∧ i.zero = some (.int .u8 0) ∧ i.size = 1 ∧ i.bytes = 1 :=
  ⟨(Tryd.prog.info? 5).get (by kernel_rfl), by kernel_rfl, by kernel_rfl, by kernel_rfl, by kernel_rfl⟩
theorem new_lit (w : World) (l : List Int) (h : l.length ≤ 1048576) : (w.alloc (.cells (bNews l).toArray 5)).ownsRow w.heap.size 5 1 (.slice (some ⟨w.heap.size, 0, none⟩) l.length l.length) l.length (bNews l) := by
  refine ⟨by rw [bNews_len]; omega, Or.inr ⟨w.heap.size, l.length, (bNews l).toArray, rfl, Nat.le_refl _, heap_alloc_new _ _, Nat.le_refl _, by unfold maxLen; omega, by simp [bNews], ?_⟩⟩
  simp only [Nat.mul_one]
  rw [← bNews_len l]
  exact List.take_length
theorem lit_cells (w : World) (l : List Int) (h : l.length ≤ 1048576) : ∀ j u, (bNews l)[j]? = some u → (w.alloc (.cells (bNews l).toArray 5)).cell? ((⟨w.heap.size, 0, none⟩ : Addr).add j) = some u := (new_lit w l h).cells rfl
theorem slice_form {w : World} {b n : Nat} {v : Value} {xs : List Value} (h : w.ownsRow b 5 1 v n xs) : ∃ A n c, v = .slice A n c := by
  rcases h.2 with ⟨rfl, _⟩ | ⟨g, cap, cur, rfl, _⟩
  · exact ⟨_, _, _, rfl⟩
  · exact ⟨_, _, _, rfl⟩
theorem len_app4 (l : List Int) (n : Int) : (l ++ be4 n).length = l.length + 4 := by simp [be4_len]
theorem str_news (s : ByteArray) : Lib.strCells s = bNews (strB s) := by
  unfold Lib.strCells bNews strB
  rw [List.map_map]; rfl
theorem strB_size (s : ByteArray) : (strB s).length = s.size := by
  unfold strB
  rw [List.length_map, Array.length_toList]
  rfl




end Go.Proofs.YthhfkcmoncgknaaDoor
