/-
  Has of the document's answer returns which fields an op has, for every op; no condition. Whether a field may be, by the document's answer: register and number; no condition. Encode of the document's answer returns an instruction's word or the error, for every instruction; no condition.
-/
import Derived.Test.YtgkdagnpefgjcaaGreatProg
import Derived.WalkKit
import Derived.WalkSpells
import Derived.WalkLawsBesides
import Derived.RowKit3
import Derived.Below
import Derived.Test.YtgkdagnpefgjcaaGreatPr04
namespace Go.Proofs.YtgkdagnpefgjcaaGreat
open Go.RowKit


end Go.Proofs.YtgkdagnpefgjcaaGreat

namespace Go.Proofs.YtgkdagnpefgjcaaGreat
open Go.RowKit


end Go.Proofs.YtgkdagnpefgjcaaGreat

namespace Go.Proofs.YtgkdagnpefgjcaaGreat
open Go.RowKit

theorem bel_alloc {w w1 : World} (h : Below w.heap.size w w1) (o : Obj) : Below w.heap.size w (w1.alloc o) := h.alloc h.size o
theorem bel_trans {w w1 w2 : World} (h : Below w.heap.size w w1) (k : Below w1.heap.size w1 w2) : Below w.heap.size w w2 := h.trans (k.mono h.size)
theorem cell_keep {w w1 : World} (h : Below w.heap.size w w1) {b o : Nat} {v : Value} (hc : w.cell? ⟨b, o, none⟩ = some v) : w1.cell? ⟨b, o, none⟩ = some v := by
  rw [h.cell (p := ⟨b, o, none⟩) (World.block_lt_of_cell? w _ hc)]; exact hc
theorem frozen_keep {w w1 : World} (h : Below w.heap.size w w1) {b o : Nat} {v : Value} (hc : w.cell? ⟨b, o, none⟩ = some v) (hf : w.frozen? ⟨b, o, none⟩ = false) : w1.frozen? ⟨b, o, none⟩ = false := by
  rw [h.frozen (p := ⟨b, o, none⟩) (World.block_lt_of_cell? w _ hc)]; exact hf

theorem reg_range {h : Bool} {r : Int} (hr : regOK h r = true) : 0 ≤ r ∧ r < 16 := by
  unfold regOK at hr
  cases h
  · simp at hr; omega
  · simp at hr; omega
theorem num_range {n p : Bool} {x : Int} (hr : numOK n p x = true) : -16384 ≤ x ∧ x ≤ 16383 := by
  unfold numOK at hr
  cases n
  · simp at hr; omega
  · cases p
    · simp at hr; omega
    · simp at hr; omega
theorem encE_no {op d a b n : Int} (h : ¬ (op < 0 ∨ 21 < op)) (hi : insOK op d a b n = false) : encV op d a b n = 0 ∧ encE op d a b n = 11 := by
  unfold encV encE; rw [if_neg h, if_neg h, hi]; exact ⟨rfl, rfl⟩
theorem encE_yes {op d a b n : Int} (h : ¬ (op < 0 ∨ 21 < op)) (hi : insOK op d a b n = true) : encV op d a b n = encW op d a b n ∧ encE op d a b n = 0 := by
  unfold encV encE; rw [if_neg h, if_neg h, hi]; exact ⟨rfl, rfl⟩
theorem ret2 {a b c d : Int} (h : a = b) (k : c = d) : Ending.returned (.tuple #[.int .u32 a, .int .i64 c]) = .returned (.tuple #[.int .u32 b, .int .i64 d]) := by rw [h, k]


end Go.Proofs.YtgkdagnpefgjcaaGreat
