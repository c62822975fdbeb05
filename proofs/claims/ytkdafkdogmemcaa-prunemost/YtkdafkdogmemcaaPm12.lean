/-
  A list of spots that came in, and one of bools, opened; no condition. A number, a list of spots, one of bools, as they are handed in.
-/
import Derived.Test.YtkdafkdogmemcaaProg
import Derived.WalkKit
import Derived.WalkSpells
import Derived.WalkLawsBesides
import Derived.RowKit3
import Derived.Below
import Derived.Deep.QuietTactic
import Derived.BigQuiet
import Derived.WalkSmall
import Derived.Laws.Rows
import Derived.ProofKit
import Derived.OpenShut
import Derived.Stop.Joined
import Derived.Carry
import Derived.Lib.SmallJoins
import Derived.Deep.SlicePairs
import Derived.Deep.Strs
import Derived.SizedLaws
import Derived.Test.YtkdafkdogmemcaaPm03
import Derived.Test.YtkdafkdogmemcaaPm11
import Derived.Test.YtkdafkdogmemcaaPm01
import Derived.Test.YtkdafkdogmemcaaRows
namespace Go.Proofs.Ytkdafkdogmemcaa
open Go.ChangeShapes Go.WideShapes Go.ChangeAt Go.RowKit Go.Joins
set_option maxRecDepth 100000

theorem mk_at20 {α : Type} (f : Nat → α) (n : Nat) (z : α) (i : Nat) (h : i < n) : ((List.range n).map f).getD i z = f i := by simp [List.getD, h]
theorem open_spots {H : Type} {enc : TypeId × Value → H} {W : World} {base : Nat} {sp : Nat → Bool} {held : Bool} {fuel : Nat} {cs : List Value} {x : DataW H × List MemPlace} (h : DataW.trod enc Try.prog W base sp held fuel 22 cs = some x) :
    ∃ (O : Option Addr) (cap : Nat) (zs : List Spt), cs = [.slice O zs.length cap] ∧ SpAt W O zs ∧ zs.length ≤ maxLen ∧ (∀ i, i < zs.length → (Lit.int .i64 (spt zs i).1).wf = true ∧ (Lit.int .i8 (spt zs i).2.1).wf = true ∧ (Lit.int .i8 (spt zs i).2.2).wf = true) ∧ (O = none → cap = 0) := by
  rcases Deep.open_slice Try.underlying22 h with ⟨rfl, _⟩ | ⟨a, len, cap, m, n, D, Pl, rfl, _, hl, hm, hmm, hxx, hx⟩
  · exact ⟨none, 0, [], rfl, fun i hi => by simp at hi, by simp, fun i hi => by simp at hi, fun _ => rfl⟩
  · have hlm : len ≤ m := by rw [hmm]; split <;> omega
    have each : ∀ i, ∃ q : Spt, (i < len → W.cell? (a.add (i * 3)) = some (.int .i64 q.1) ∧ W.cell? (a.add (i * 3 + 1)) = some (.int .i8 q.2.1) ∧ W.cell? (a.add (i * 3 + 2)) = some (.int .i8 q.2.2) ∧ (Lit.int .i64 q.1).wf = true ∧ (Lit.int .i8 q.2.1).wf = true ∧ (Lit.int .i8 q.2.2).wf = true) := by
      intro i
      by_cases hi : i < len
      · obtain ⟨cs', h1, h2⟩ := hx i (by omega)
        rw [show Try.prog.cellsOf 27 = 3 by kernel_rfl] at h1
        obtain ⟨_, hlen, hcell⟩ := World.cells?_some h1
        obtain ⟨y0, y1, y2, k, hD, _, g0, g1, g2⟩ := Deep.trod_struct3 Try.underlying27 h2
        match cs', hlen with
        | [v0, v1, v2], _ =>
          simp [show Try.prog.cellsOf 3 = 1 by kernel_rfl, show Try.prog.cellsOf 25 = 1 by kernel_rfl] at g0 g1 g2
          obtain ⟨s, e0, _, hs⟩ := DataW.trod_int Try.underlying3 g0
          obtain ⟨u, e1, _, hu⟩ := DataW.trod_int Try.underlying25 g1
          obtain ⟨v, e2, _, hv⟩ := DataW.trod_int Try.underlying25 g2
          simp at e0 e1 e2
          subst e0 e1 e2
          have q0 := hcell 0 (by omega)
          have q1 := hcell 1 (by omega)
          have q2 := hcell 2 (by omega)
          rw [Deep.add_add] at q0 q1 q2
          exact ⟨(s, u, v), fun _ => ⟨by simpa using q0, by simpa using q1, by simpa using q2, hs, hu, hv⟩⟩
      · exact ⟨spD, fun h => absurd h hi⟩
    obtain ⟨f, hf⟩ := Classical.axiomOfChoice each
    refine ⟨some a, cap, (List.range len).map f, by simp, ?_, by simp; omega, ?_, fun h => by cases h⟩
    · intro i hi
      have hi' : i < len := by simpa using hi
      obtain ⟨h0, h1, h2, _⟩ := hf i hi'
      refine ⟨a, rfl, ?_, ?_, ?_⟩
      · unfold spt; rw [mk_at20 _ _ _ _ hi']; exact h0
      · unfold spt; rw [mk_at20 _ _ _ _ hi', Deep.add_add]; exact h1
      · unfold spt; rw [mk_at20 _ _ _ _ hi', Deep.add_add]; exact h2
    · intro i hi
      have hi' : i < len := by simpa using hi
      unfold spt
      rw [mk_at20 _ _ _ _ hi']
      exact (hf i hi').2.2.2

theorem open_bools20 {H : Type} {enc : TypeId × Value → H} {W : World} {base : Nat} {sp : Nat → Bool} {held : Bool} {fuel : Nat} {cs : List Value} {x : DataW H × List MemPlace} (h : DataW.trod enc Try.prog W base sp held fuel 23 cs = some x) :
    ∃ (O : Option Addr) (cap : Nat) (bs : List Bool), cs = [.slice O bs.length cap] ∧ BoolsAt W O bs ∧ bs.length ≤ maxLen ∧ (O = none → cap = 0) := by
  rcases Deep.open_slice Try.underlying23 h with ⟨rfl, _⟩ | ⟨a, len, cap, m, n, D, Pl, rfl, _, hl, hm, hmm, hxx, hx⟩
  · exact ⟨none, 0, [], rfl, fun i hi => by simp at hi, by simp, fun _ => rfl⟩
  · have hlm : len ≤ m := by rw [hmm]; split <;> omega
    have each : ∀ i, ∃ q : Bool, (i < len → W.cell? (a.add i) = some (.bool q)) := by
      intro i
      by_cases hi : i < len
      · obtain ⟨cs', h1, h2⟩ := hx i (by omega)
        rw [show Try.prog.cellsOf 4 = 1 by kernel_rfl] at h1
        obtain ⟨_, hlen, hcell⟩ := World.cells?_some h1
        obtain ⟨b, e0, _⟩ := DataW.trod_bool Try.underlying4 h2
        subst e0
        have q0 := hcell 0 (by omega)
        rw [Deep.add_add] at q0
        exact ⟨b, fun _ => by simpa using q0⟩
      · exact ⟨false, fun h => absurd h hi⟩
    obtain ⟨f, hf⟩ := Classical.axiomOfChoice each
    refine ⟨some a, cap, (List.range len).map f, by simp, ?_, by simp; omega, fun h => by cases h⟩
    intro i hi
    have hi' : i < len := by simpa using hi
    refine ⟨a, rfl, ?_⟩
    rw [mk_at20 _ _ _ _ hi']
    exact hf i hi'

end Go.Proofs.Ytkdafkdogmemcaa

namespace Go.Proofs.Ytkdafkdogmemcaa
open Go.ChangeShapes Go.WideShapes Go.ChangeAt Go.RowKit Go.Joins

set_option maxRecDepth 100000 in
theorem openSpots {H : Type} {enc : TypeId × Value → H} {W : World} {b0 base : Nat} {sp : Nat → Bool} {held : Bool} {v : Value} {d : DataW H} {p : List MemPlace} (hv : Value.okWide Try.prog W .any b0 22 v) (h : DataW.Trod enc Try.prog W base sp held 22 v d p) :
    ∃ (O : Option Addr) (cap : Nat) (zs : List Spt), v = .slice O zs.length cap ∧ SpAt W O zs := by
  obtain ⟨a, len, c, rfl⟩ := okWide_slice Try.underlying22 hv
  obtain ⟨fuel, hf⟩ := h
  obtain ⟨O, cap, zs, e, k, _⟩ := open_spots hf
  exact ⟨O, cap, zs, by simpa [Value.cells] using e, k⟩

set_option maxRecDepth 100000 in
theorem openBools {H : Type} {enc : TypeId × Value → H} {W : World} {b0 base : Nat} {sp : Nat → Bool} {held : Bool} {v : Value} {d : DataW H} {p : List MemPlace} (hv : Value.okWide Try.prog W .any b0 23 v) (h : DataW.Trod enc Try.prog W base sp held 23 v d p) :
    ∃ (O : Option Addr) (cap : Nat) (bs : List Bool), v = .slice O bs.length cap ∧ BoolsAt W O bs := by
  obtain ⟨a, len, c, rfl⟩ := okWide_slice Try.underlying23 hv
  obtain ⟨fuel, hf⟩ := h
  obtain ⟨O, cap, bs, e, k, _⟩ := open_bools20 hf
  exact ⟨O, cap, bs, by simpa [Value.cells] using e, k⟩

end Go.Proofs.Ytkdafkdogmemcaa
