/-
  For every list of numbers, every two places and every length the law CommonTells returns true: Least and Group answer as the document says; the arguments read afterwards as before; no condition.
-/
import Derived.Test.YtpmaiblgnblpeaaPt01
import Derived.Test.YtpmaiblgnblpeaaPt02
import Derived.Test.YtpmaiblgnblpeaaPt12
import Derived.Test.YtpmaiblgnblpeaaPt14
import Derived.Test.YtpmaiblgnblpeaaPt26
import Derived.Test.YtpmaiblgnblpeaaPt27
import Derived.Test.YtpmaiblgnblpeaaPt28
namespace Go.Proofs.Ytpmaiblgnblpeaa.commonTells
open Go.ChangeShapes Go.WideShapes Go.ChangeAt Go.RowKit Go.Joins

theorem types (t : TypeId) (h : t ∈ Try.f3.params.toList) : Try.prog.readableRec t = true ∧ t < Try.prog.types.size := by
  have hall : (Try.f3.params.toList.all fun u => Try.prog.readableRec u && decide (u < Try.prog.types.size)) = true := by kernel_rfl
  simpa using List.all_eq_true.1 hall t h

set_option maxRecDepth 100000 in
theorem lifted (os : Os) (started : os.Started) (H : Type) (enc : TypeId × Value → H) :
    ReturnsInHanded {} Try.checked os 3 .any (Rows.commonTellsSpec.pre6 enc Try.prog Try.f3 Rows.commonTellsRow.domain false) (Rows.commonTellsSpec.post enc Try.prog Try.f3 false true false false) := by
  refine returnsInHanded_of_change_sized (C := Try.checked) own started (by kernel_rfl) Try.func3
    (ChangeSpec.witness6 (enc := enc) (C := Try.checked) false ⟨#[], #[.slice none 0 0, .int .i64 0, .int .i64 0, .int .i64 0], []⟩ 8 (by kernel_rfl) (by kernel_rfl) (by kernel_rfl) (by kernel_rfl)) ?_
  intro W base args ds gs before hval0 hW _ hZ _
  have hval : ∀ (j : Nat) t v, Try.f3.params[j]? = some t → args[j]? = some v → Value.okWide Try.prog W .any base t v := hval0
  have hW' := hW
  obtain ⟨p, q, hA0, hV, rfl, hfz, hnd⟩ := hW
  have hA : DataW.TrodAll enc Try.prog W 0 (fun _ => true) true Try.f3.params.toList args.toList ds p := hA0
  rw [Try.params3] at hA hval
  obtain ⟨v0, vs0, d0, ds0, p0, q0, hargs, rfl, rfl, h0, r0⟩ := trodAll_cons hA
  obtain ⟨v1, vs1, d1, ds1, p1, q1, rfl, rfl, rfl, h1, r1⟩ := trodAll_cons r0
  obtain ⟨v2, vs2, d2, ds2, p2, q2, rfl, rfl, rfl, h2, r2⟩ := trodAll_cons r1
  obtain ⟨v3, vs3, d3, ds3, p3, q3, rfl, rfl, rfl, h3, r3⟩ := trodAll_cons r2
  obtain ⟨rfl, rfl, rfl⟩ := trodAll_nil r3
  obtain rfl : args = #[v0, v1, v2, v3] := by cases args; simp_all
  obtain ⟨rfl, rfl⟩ := trodVars_none hV
  obtain ⟨A, c, l, rfl, kA, kR, kO⟩ := openNums (hval 0 22 v0 rfl rfl) h0
  obtain ⟨i, rfl, i0, i1⟩ := openNum (hval 1 3 v1 rfl rfl) h1
  obtain ⟨k, rfl, k0, k1⟩ := openNum (hval 2 3 v2 rfl rfl) h2
  obtain ⟨n, rfl, n0, n1⟩ := openNum (hval 3 3 v3 rfl rfl) h3
  clear hA0 hval0
  refine (lawTells leastOK groupOK (lives_any prefixesOK leastOK groupOK) A c l i k n W kA ⟨i0, i1⟩ ⟨k0, k1⟩ ⟨n0, n1⟩).mono fun e W' ⟨he, hb⟩ => ?_
  subst he
  exact ⟨_, rfl, law_post laidOut rfl (by kernel_rfl) Try.underlying4 types hW' rfl hb⟩

theorem said : Rows.CommonTellsSaid :=
  OpenClaim.holds_of_wide 3 Try.f3 rfl rfl rfl rfl rfl rfl rfl ⟨rfl, rfl, rfl, rfl, rfl⟩ rfl rfl rfl rfl rfl (by kernel_rfl) Try.func3 (by kernel_rfl)
    (of_decide_eq_true (by kernel_rfl)) (by unfold Func.isWrapper; first | (rw [if_pos (by decide +kernel)]; kernel_rfl) | (rw [if_neg (by decide +kernel)]; exact ⟨rfl, rfl⟩))
    (fun os started H enc _ => lifted os started H enc)
end Go.Proofs.Ytpmaiblgnblpeaa.commonTells
namespace Go.Proofs.Ytpmaiblgnblpeaa
theorem commonTells_said : Rows.CommonTellsSaid := commonTells.said

end Go.Proofs.Ytpmaiblgnblpeaa
