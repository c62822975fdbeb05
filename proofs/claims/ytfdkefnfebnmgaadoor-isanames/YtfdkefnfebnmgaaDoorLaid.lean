/-
  Where the listed variable lies as the program's text lays it, the names are in it; no other condition.
-/
import Derived.Test.YtfdkefnfebnmgaaDoorFrame
import Derived.Test.YtfdkefnfebnmgaaDoorNm
import Derived.MakeChecks
namespace Go.Proofs.YtfdkefnfebnmgaaDoor
open Go.ChangeShapes Go.WideShapes Go.ChangeAt Go.RowKit Go.Joins

/-- A row of texts, as a listed variable has it. -/
def strData {H : Type} (zs : List (List UInt8)) : DataW H := .agg (zs.map fun z => .lit (.string z))

theorem cells_of_strs {H : Type} {enc : TypeId × Value → H} {P : Program} {w : World} {base : Nat} {sp : Nat → Bool} {held : Bool} {fuel : Nat} {t e : TypeId} {n : Nat} {cs : List Value} {zs : List (List UInt8)} {p : List MemPlace}
    (ht : P.underlying t = some (.array n e)) (he : P.underlying e = some .string) (hce : P.cellsOf e = 1) (hct : P.cellsOf t = n)
    (h : DataW.trod enc P w base sp held fuel t cs = some (strData zs, p)) : cs = zs.map fun z => Value.string ⟨z.toArray⟩ := by
  obtain ⟨xs, m, _, hx, hl, hxl, hf⟩ := DataW.trod_array ht h
  have hd : xs.map (·.1) = zs.map fun z => (DataW.lit (.string z) : DataW H) := by
    have := congrArg Prod.fst hx
    simp only [strData, DataW.agg.injEq] at this
    exact this.symm
  have hzl : zs.length = n := by
    have := congrArg List.length hd
    simp at this; omega
  apply List.ext_getElem?
  intro i
  by_cases hi : i < n
  · have hi2 : i < xs.length := by omega
    have hfi := hf i hi
    rw [hce, Nat.mul_one, List.getElem?_eq_getElem hi2] at hfi
    obtain ⟨s, hc, hs, _⟩ := DataW.trod_string he hfi
    have h1 : cs[i]? = some (.string s) := by
      have := congrArg (·[0]?) hc
      simpa [List.getElem?_take, List.getElem?_drop] using this
    have h2 : (xs.map (·.1))[i]? = some (DataW.lit (.string s.data.toList) : DataW H) := by simp [List.getElem?_eq_getElem hi2, hs]
    rw [hd] at h2
    simp only [List.getElem?_map, Option.map_eq_some_iff, DataW.lit.injEq, Lit.string.injEq] at h2
    obtain ⟨z, hz, rfl⟩ := h2
    simp [h1, hz]
  · rw [List.getElem?_eq_none (by omega), List.getElem?_eq_none (by simp; omega)]

theorem nm_same : (Rows.laid_pleat_isa_names : DataW Unit) = strData (ops.map fun k => (nameB k).data.toList) := by kernel_rfl

theorem nm_of_laid {W : World} (h : laidMetH Tryd.prog laidAll W) : Nm W := by
  rw [MakeChecks.laidMetH_plain _ _ _ (by kernel_rfl)] at h
  have h2 : laidMet Tryd.prog [("pleat/isa.names", strData (ops.map fun k => (nameB k).data.toList))] W := by rw [← nm_same]; exact h
  obtain ⟨ps, ⟨g', t', cs, fuel, p, q, hg', ht', hvar, hd, _, _⟩, _⟩ := h2
  obtain rfl := Option.some.inj (gNm.symm.trans hg')
  obtain rfl : 50 = t' := Option.some.inj ((show (Tryd.prog.globals[0]?).map (·.type) = some 50 by kernel_rfl).symm.trans ht')
  have hc := cells_of_strs Tryd.underlying50 Tryd.underlying9 (by kernel_rfl) (by kernel_rfl) hd
  unfold Nm
  rw [hvar, ← Array.toArray_toList (xs := cs), hc]
  simp only [List.map_map]
  rfl
end Go.Proofs.YtfdkefnfebnmgaaDoor
