/-
  A list of spots in memory.
-/
import Derived.Test.YtmlhnnmelopleaaGreatDoorProg
import Derived.WalkKit
import Derived.WalkSpells
import Derived.WalkLawsBesides
import Derived.RowKit3
import Derived.Below
import Derived.Deep.QuietTactic
import Derived.BigQuiet
import Derived.WalkSmall
import Derived.Laws.Rows
import Derived.Test.YtmlhnnmelopleaaGreatDoorPs01
import Derived.Test.YtmlhnnmelopleaaGreatDoorPs09
import Derived.Test.YtmlhnnmelopleaaGreatDoorPs23
import Derived.OwnWalk
import Derived.Deep.SlicePairs
namespace Go.Proofs.YtmlhnnmelopleaaGreatDoor
open Go.RowKit

abbrev Spt := Int × Int × Int
def spD : Spt := (0, 0, 0)
def spt (l : List Spt) (k : Nat) : Spt := l.getD k spD
theorem spt_mem {l : List Spt} {k : Nat} (h : k < l.length) : spt l k ∈ l := by
  unfold spt
  rw [List.getD_eq_getElem?_getD, List.getElem?_eq_getElem h]
  exact List.getElem_mem _
def SpAt (w : World) (A : Option Addr) (l : List Spt) : Prop := ∀ j, j < l.length → ∃ a : Addr, A = some a ∧ w.cell? (a.add (j * 3)) = some (.int .i64 (spt l j).1) ∧ w.cell? ((a.add (j * 3)).add 1) = some (.int .i8 (spt l j).2.1) ∧ w.cell? ((a.add (j * 3)).add 2) = some (.int .i8 (spt l j).2.2)
theorem SpAt.keep {w w' : World} {A : Option Addr} {l : List Spt} (h : SpAt w A l) (hb : Below w.heap.size w w') : SpAt w' A l := fun j hj => by
  obtain ⟨a, e, q1, q2, q3⟩ := h j hj
  exact ⟨a, e, lkeep hb q1, lkeep hb q2, lkeep hb q3⟩
def spNews (l : List Spt) : List Value := l.flatMap fun s => [.int .i64 s.1, .int .i8 s.2.1, .int .i8 s.2.2]
theorem spNews_len : ∀ l : List Spt, (spNews l).length = l.length * 3
  | [] => rfl
  | r :: R => by
    show (Value.int .i64 r.1 :: Value.int .i8 r.2.1 :: Value.int .i8 r.2.2 :: spNews R).length = _
    rw [List.length_cons, List.length_cons, List.length_cons, spNews_len R, List.length_cons]
    omega
theorem spNews_app (R Q : List Spt) : spNews (R ++ Q) = spNews R ++ spNews Q := by simp [spNews]
theorem spNews_get : ∀ {R : List Spt} {j : Nat}, j < R.length → (spNews R)[j * 3]? = some (.int .i64 (spt R j).1) ∧ (spNews R)[j * 3 + 1]? = some (.int .i8 (spt R j).2.1) ∧ (spNews R)[j * 3 + 2]? = some (.int .i8 (spt R j).2.2)
  | r :: R, 0, _ => ⟨rfl, rfl, rfl⟩
  | r :: R, j + 1, h => by
    have ih := spNews_get (R := R) (j := j) (by simp at h; omega)
    show (Value.int .i64 r.1 :: Value.int .i8 r.2.1 :: Value.int .i8 r.2.2 :: spNews R)[(j + 1) * 3]? = _ ∧ (Value.int .i64 r.1 :: Value.int .i8 r.2.1 :: Value.int .i8 r.2.2 :: spNews R)[(j + 1) * 3 + 1]? = _ ∧ (Value.int .i64 r.1 :: Value.int .i8 r.2.1 :: Value.int .i8 r.2.2 :: spNews R)[(j + 1) * 3 + 2]? = _
    rw [show (j + 1) * 3 = j * 3 + 1 + 1 + 1 by omega, show j * 3 + 1 + 1 + 1 + 1 = (j * 3 + 1) + 1 + 1 + 1 by omega, show j * 3 + 1 + 1 + 1 + 2 = (j * 3 + 2) + 1 + 1 + 1 by omega]
    simp only [List.getElem?_cons_succ]
    exact ih
theorem spNews_one (R : List Spt) : ∀ u ∈ spNews R, u.oneCell' = true := fun u hu => by
  unfold spNews at hu
  obtain ⟨r, _, hu⟩ := List.mem_flatMap.1 hu
  simp only [List.mem_cons, List.not_mem_nil, or_false] at hu
  rcases hu with rfl | rfl | rfl <;> rfl
theorem row_sps {w : World} {base c n : Nat} {e : TypeId} {A : Option Addr} {R : List Spt} (h : w.ownsRow base e 3 (.slice A n c) R.length (spNews R)) : SpAt w A R := fun i hi => by
  rcases h.2 with ⟨_, h0⟩ | ⟨j, cap, cur, hv, hb, hg, hc, _⟩
  · omega
  · cases hv
    obtain ⟨a, b, d⟩ := spNews_get hi
    refine ⟨_, rfl, h.cells rfl _ _ a, ?_, ?_⟩
    · rw [Deep.add_add]; exact h.cells rfl _ _ b
    · rw [Deep.add_add]; exact h.cells rfl _ _ d
theorem infoSp : ∃ i, Tryz.prog.info? 54 = some i ∧ i.zero = some (.agg #[.int .i64 0, .int .i8 0, .int .i8 0]) ∧ i.size = 3 ∧ i.bytes = 16 :=
  ⟨(Tryz.prog.info? 54).get (by kernel_rfl), by kernel_rfl, by kernel_rfl, by kernel_rfl, by kernel_rfl⟩
theorem sp_oneI (a b c : Int) : ∀ u ∈ [Value.int .i64 a, .int .i8 b, .int .i8 c], u.oneCell' = true := fun u hu => by
  simp only [List.mem_cons, List.not_mem_nil, or_false] at hu
  rcases hu with rfl | rfl | rfl <;> rfl
theorem own_formS {w : World} {b n sz : Nat} {T : TypeId} {v : Value} {xs : List Value} (h : w.ownsRow b T sz v n xs) : ∃ A c, v = .slice A n c ∧ n ≤ c := by
  rcases h.2 with ⟨e, e2⟩ | ⟨g, cap, cur, e, _, _, hc, _⟩
  · exact ⟨none, 0, by rw [e, e2], by omega⟩
  · exact ⟨_, _, e, hc⟩

end Go.Proofs.YtmlhnnmelopleaaGreatDoor
