/-
  For every image, tape and number of steps the law EdgeRuns returns true: a machine goes along the edges, and comes to no block that is not reached; the arguments read afterwards as before; no condition.
-/
import Derived.Test.YtgkdagnpefgjcaaGreatPr01
import Derived.Test.YtgkdagnpefgjcaaGreatPr02
import Derived.Test.YtgkdagnpefgjcaaGreatPr39
import Derived.Test.YtgkdagnpefgjcaaGreatPr46
import Derived.Test.YtgkdagnpefgjcaaGreatPr47
namespace Go.Proofs.YtgkdagnpefgjcaaGreat.edgeRuns
open Go.ChangeShapes Go.WideShapes Go.ChangeAt Go.RowKit Go.Joins

theorem types (t : TypeId) (h : t ∈ Tryz.f3.params.toList) : Tryz.prog.readableRec t = true ∧ t < Tryz.prog.types.size := by
  have hall : (Tryz.f3.params.toList.all fun u => Tryz.prog.readableRec u && decide (u < Tryz.prog.types.size)) = true := by kernel_rfl
  simpa using List.all_eq_true.1 hall t h

set_option maxRecDepth 100000 in
theorem lifted (os : Os) (started : os.Started) (H : Type) (enc : TypeId × Value → H) :
    ReturnsInHanded {} Tryz.checked os 3 .any (Rows.edgeRunsSpec.pre6 enc Tryz.prog Tryz.f3 Rows.edgeRunsRow.domain false) (Rows.edgeRunsSpec.post enc Tryz.prog Tryz.f3 false true false false) := by
  refine returnsInHanded_of_change_sized (C := Tryz.checked) own started (by kernel_rfl) Tryz.func3
    (ChangeSpec.witness6 (enc := enc) (C := Tryz.checked) false ⟨#[], #[.agg #[.slice none 0 0, .int .i64 0, .slice none 0 0], .slice none 0 0, .int .i64 0], []⟩ 8 (by kernel_rfl) (by kernel_rfl) (by kernel_rfl) (by kernel_rfl)) ?_
  intro W base args ds gs before hval0 hW _ hZ _
  have hval : ∀ (j : Nat) t v, Tryz.f3.params[j]? = some t → args[j]? = some v → Value.okWide Tryz.prog W .any base t v := hval0
  have hW' := hW
  obtain ⟨p, q, hA0, hV, rfl, hfz, hnd⟩ := hW
  have hA : DataW.TrodAll enc Tryz.prog W 0 (fun _ => true) true Tryz.f3.params.toList args.toList ds p := hA0
  rw [Tryz.params3] at hA hval
  obtain ⟨v0, vs0, d0, ds0, p0, q0, hargs, rfl, rfl, h0, r0⟩ := trodAll_cons hA
  obtain ⟨v1, vs1, d1, ds1, p1, q1, rfl, rfl, rfl, h1, r1⟩ := trodAll_cons r0
  obtain ⟨v2, vs2, d2, ds2, p2, q2, rfl, rfl, rfl, h2, r2⟩ := trodAll_cons r1
  obtain ⟨rfl, rfl, rfl⟩ := trodAll_nil r2
  obtain rfl : args = #[v0, v1, v2] := by cases args; simp_all
  obtain ⟨rfl, rfl⟩ := trodVars_none hV
  obtain ⟨ent, A1, A2, c1, c2, text, mem, rfl, k1, k2, rr1, rr2, u1, u2⟩ := openImg (hval 0 25 v0 rfl rfl) h0
  obtain ⟨A3, c3, tape, rfl, k3, l3, u3⟩ := openLongs (hval 1 23 v1 rfl rfl) h1
  obtain ⟨st, rfl⟩ := openNum (hval 2 3 v2 rfl rfl) h2
  clear hA0 hval0
  refine (lawRuns edgesOK reachedOK A1 A2 A3 c1 c2 c3 ent st text mem tape W k1 k2 k3 rr1 u3 l3).mono fun e W' ⟨he, hb⟩ => ?_
  subst he
  exact ⟨_, rfl, law_post laidOut rfl (by kernel_rfl) Tryz.underlying4 types hW' rfl hb⟩

theorem said : Rows.EdgeRunsSaid :=
  OpenClaim.holds_of_wide 3 Tryz.f3 rfl rfl rfl rfl rfl rfl rfl ⟨rfl, rfl, rfl, rfl, rfl⟩ rfl rfl rfl rfl rfl (by kernel_rfl) Tryz.func3 (by kernel_rfl)
    (of_decide_eq_true (by kernel_rfl)) (by unfold Func.isWrapper; first | (rw [if_pos (by decide +kernel)]; kernel_rfl) | (rw [if_neg (by decide +kernel)]; exact ⟨rfl, rfl⟩))
    (fun os started H enc _ => lifted os started H enc)
end Go.Proofs.YtgkdagnpefgjcaaGreat.edgeRuns
namespace Go.Proofs.YtgkdagnpefgjcaaGreat
theorem edgeRuns_said : Rows.EdgeRunsSaid := edgeRuns.said

end Go.Proofs.YtgkdagnpefgjcaaGreat
