/-
  For every list and every length the law CommonRows returns true: the least between two places of the program's own array is what their suffixes have in common, the row around a place is just all suffixes that begin alike, both costs together are within the bound; the arguments read afterwards as before; no condition.
-/
import Derived.Test.YtpmaiblgnblpeaaPr01
import Derived.Test.YtpmaiblgnblpeaaPr02
import Derived.Test.YtpmaiblgnblpeaaPr17
import Derived.Test.YtpmaiblgnblpeaaPr19
import Derived.Test.YtpmaiblgnblpeaaPr32
import Derived.Test.YtpmaiblgnblpeaaPr33
import Derived.Test.YtpmaiblgnblpeaaPr34
import Derived.Test.YtpmaiblgnblpeaaPr30
namespace Go.Proofs.Ytpmaiblgnblpeaa.commonRows
open Go.ChangeShapes Go.WideShapes Go.ChangeAt Go.RowKit Go.Joins

theorem types (t : TypeId) (h : t ∈ Try.f4.params.toList) : Try.prog.readableRec t = true ∧ t < Try.prog.types.size := by
  have hall : (Try.f4.params.toList.all fun u => Try.prog.readableRec u && decide (u < Try.prog.types.size)) = true := by kernel_rfl
  simpa using List.all_eq_true.1 hall t h

set_option maxRecDepth 100000 in
theorem lifted (os : Os) (started : os.Started) (H : Type) (enc : TypeId × Value → H) :
    ReturnsInHanded {} Try.checked os 4 .any (Rows.commonRowsSpec.pre6 enc Try.prog Try.f4 Rows.commonRowsRow.domain false) (Rows.commonRowsSpec.post enc Try.prog Try.f4 false true false false) := by
  refine returnsInHanded_of_change_sized (C := Try.checked) own started (by kernel_rfl) Try.func4
    (ChangeSpec.witness6 (enc := enc) (C := Try.checked) false ⟨#[], #[.slice none 0 0, .int .i64 0], []⟩ 8 (by kernel_rfl) (by kernel_rfl) (by kernel_rfl) (by kernel_rfl)) ?_
  intro W base args ds gs before hval0 hW _ hZ _
  have hval : ∀ (j : Nat) t v, Try.f4.params[j]? = some t → args[j]? = some v → Value.okWide Try.prog W .any base t v := hval0
  have hW' := hW
  obtain ⟨p, q, hA0, hV, rfl, hfz, hnd⟩ := hW
  have hA : DataW.TrodAll enc Try.prog W 0 (fun _ => true) true Try.f4.params.toList args.toList ds p := hA0
  rw [Try.params4] at hA hval
  obtain ⟨v0, vs0, d0, ds0, p0, q0, hargs, rfl, rfl, h0, r0⟩ := trodAll_cons hA
  obtain ⟨v1, vs1, d1, ds1, p1, q1, rfl, rfl, rfl, h1, r1⟩ := trodAll_cons r0
  obtain ⟨rfl, rfl, rfl⟩ := trodAll_nil r1
  obtain rfl : args = #[v0, v1] := by cases args; simp_all
  obtain ⟨rfl, rfl⟩ := trodVars_none hV
  obtain ⟨A, c, l, rfl, kA, kR, kO⟩ := openNums (hval 0 22 v0 rfl rfl) h0
  obtain ⟨n, rfl, n0, n1⟩ := openNum (hval 1 3 v1 rfl rfl) h1
  clear hA0 hval0
  refine (lawRows ofOK costOK prefixesOK leastOK groupOK (lives_any prefixesOK leastOK groupOK) A c l n W kA kO kR ⟨n0, n1⟩).mono fun e W' ⟨he, hb⟩ => ?_
  subst he
  exact ⟨_, rfl, law_post laidOut rfl (by kernel_rfl) Try.underlying4 types hW' rfl hb⟩

theorem said : Rows.CommonRowsSaid :=
  OpenClaim.holds_of_wide 4 Try.f4 rfl rfl rfl rfl rfl rfl rfl ⟨rfl, rfl, rfl, rfl, rfl⟩ rfl rfl rfl rfl rfl (by kernel_rfl) Try.func4 (by kernel_rfl)
    (of_decide_eq_true (by kernel_rfl)) (by unfold Func.isWrapper; first | (rw [if_pos (by decide +kernel)]; kernel_rfl) | (rw [if_neg (by decide +kernel)]; exact ⟨rfl, rfl⟩))
    (fun os started H enc _ => lifted os started H enc)
end Go.Proofs.Ytpmaiblgnblpeaa.commonRows
namespace Go.Proofs.Ytpmaiblgnblpeaa
theorem commonRows_said : Rows.CommonRowsSaid := commonRows.said

end Go.Proofs.Ytpmaiblgnblpeaa
