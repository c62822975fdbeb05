/-
  Ends, Falls, Target and Aim of package isa, each by what it returns; a word is of 32 bits.
-/
import Derived.Test.YtfdkefnfebnmgaaDoorDec
import Derived.Test.YtfdkefnfebnmgaaDoorHas
import Derived.Test.YtfdkefnfebnmgaaDoorGoes
namespace Go.Proofs.YtfdkefnfebnmgaaDoor
open Go.RowKit

theorem dOp_le {v : Int} (h1 : v < 4294967296) : dOp v ≤ 31 := by
  unfold dOp wOp; split <;> omega
theorem isafalls_any (v : Int) (h0 : 0 ≤ v) (h1 : v < 4294967296) (w : World) : Calls Tryd.prog 19 #[.int .u32 v] w fun e w' => e = .returned (.bool (!endsB (dOp v) || dOp v == 16)) ∧ Below w.heap.size w w' :=
  falls_of v _ _ _ _ _ w (isadecode_any v h0 h1)
theorem isaends_any (v : Int) (h0 : 0 ≤ v) (h1 : v < 4294967296) (w : World) : Calls Tryd.prog 17 #[.int .u32 v] w fun e w' => e = .returned (.bool (endsB (dOp v))) ∧ Below w.heap.size w w' := by
  have h := ends_of v _ _ _ _ _ _ w (isadecode_any v h0 h1) (isafalls_any v h0 h1)
  rw [ends_falls] at h
  exact h
theorem isT_hP (v : Int) : isT v = hP (dOp v) := by
  unfold isT
  cases h : hP (dOp v)
  · simp
  · unfold hP at h
    simp at h
    rw [decide_eq_true (by omega)]; rfl
theorem isatarget_any (v : Int) (h0 : 0 ≤ v) (h1 : v < 4294967296) (w : World) : Calls Tryd.prog 14 #[.int .u32 v] w fun e w' => e = .returned (.tuple #[.int .i64 (tgV v), .bool (isT v)]) ∧ Below w.heap.size w w' := by
  have h := target_of v _ _ _ _ _ _ _ _ _ _ w (isadecode_any v h0 h1) (isahas_any (dOp v) (by have := dOp_le h1; omega))
  rw [← isT_hP] at h
  exact h
theorem aim_no {v p : Int} (hT : isT v = true) (hp : ¬ (0 ≤ p ∧ p < 16384)) : encV (dOp v) (dD v) (dA v) (dB v) p = 0 ∧ encE (dOp v) (dD v) (dA v) (dB v) p = 11 := by
  rw [isT_hP] at hT
  have hN := hP_hN _ hT
  have hr : ¬ (dOp v < 0 ∨ 21 < dOp v) := by unfold hP at hT; simp at hT; omega
  refine encE_no hr ?_
  unfold insOK numOK
  rw [hT, hN, decide_eq_false hp]
  simp
theorem isaaim_any (v p : Int) (h0 : 0 ≤ v) (h1 : v < 4294967296) (w : World) : Calls Tryd.prog 23 #[.int .u32 v, .int .i64 p] w fun e w' => e = .returned (.tuple #[.int .u32 (aimV v p), .int .i64 (aimE v p)]) ∧ Below w.heap.size w w' := by
  have h := aim_of v p _ _ _ _ _ _ _ _ _ w (isadecode_any v h0 h1) (isatarget_any v h0 h1) (isaencode_any (dOp v) (dD v) (dA v) (dB v) p (by have := dOp_le h1; omega))
  have e : aimV v p = (if isT v then encV (dOp v) (dD v) (dA v) (dB v) p else 0) ∧ aimE v p = (if isT v then encE (dOp v) (dD v) (dA v) (dB v) p else 10) := by
    unfold aimV aimE
    cases hT : isT v
    · exact ⟨rfl, rfl⟩
    · by_cases hp : 0 ≤ p ∧ p < 16384
      · rw [decide_eq_true hp]; exact ⟨rfl, rfl⟩
      · rw [decide_eq_false hp, (aim_no hT hp).1, (aim_no hT hp).2]; exact ⟨rfl, rfl⟩
  rw [e.1, e.2]
  exact h

end Go.Proofs.YtfdkefnfebnmgaaDoor
