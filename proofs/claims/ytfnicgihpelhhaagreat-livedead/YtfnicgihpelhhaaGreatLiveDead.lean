/-
  For every image, tape, place and register the law LiveDead returns true: a register that is dead behind a place may be set there to another number, and what is told at the ports, taken, left in memory, and how it ends, stays; the arguments read afterwards as before; no condition.
-/
import Derived.Test.YtfnicgihpelhhaaGreatPd01
import Derived.Test.YtfnicgihpelhhaaGreatPd02
import Derived.Test.YtfnicgihpelhhaaGreatPd34
import Derived.Test.YtfnicgihpelhhaaGreatPd49
namespace Go.Proofs.YtfnicgihpelhhaaGreat.liveDead
open Go.ChangeShapes Go.WideShapes Go.ChangeAt Go.RowKit Go.Joins

theorem types (t : TypeId) (h : t ∈ Tryz.f4.params.toList) : Tryz.prog.readableRec t = true ∧ t < Tryz.prog.types.size := by
  have hall : (Tryz.f4.params.toList.all fun u => Tryz.prog.readableRec u && decide (u < Tryz.prog.types.size)) = true := by kernel_rfl
  simpa using List.all_eq_true.1 hall t h

set_option maxRecDepth 100000 in
theorem lifted (os : Os) (started : os.Started) (H : Type) (enc : TypeId × Value → H) :
    ReturnsInHanded {} Tryz.checked os 4 .any (Rows.liveDeadSpec.pre6 enc Tryz.prog Tryz.f4 Rows.liveDeadRow.domain false) (Rows.liveDeadSpec.post enc Tryz.prog Tryz.f4 false true false false) := by
  refine returnsInHanded_of_change_sized (C := Tryz.checked) own started (by kernel_rfl) Tryz.func4
    (ChangeSpec.witness6 (enc := enc) (C := Tryz.checked) false ⟨#[], #[.agg #[.slice none 0 0, .int .i64 0, .slice none 0 0], .slice none 0 0, .agg #[.int .i64 0, .int .i64 0]], []⟩ 8 (by kernel_rfl) (by kernel_rfl) (by kernel_rfl) (by kernel_rfl)) ?_
  intro W base args ds gs before hval0 hW _ hZ _
  have hval : ∀ (j : Nat) t v, Tryz.f4.params[j]? = some t → args[j]? = some v → Value.okWide Tryz.prog W .any base t v := hval0
  have hW' := hW
  obtain ⟨p, q, hA0, hV, rfl, hfz, hnd⟩ := hW
  have hA : DataW.TrodAll enc Tryz.prog W 0 (fun _ => true) true Tryz.f4.params.toList args.toList ds p := hA0
  rw [Tryz.params4] at hA hval
  obtain ⟨v0, vs0, d0, ds0, p0, q0, hargs, rfl, rfl, h0, r0⟩ := trodAll_cons hA
  obtain ⟨v1, vs1, d1, ds1, p1, q1, rfl, rfl, rfl, h1, r1⟩ := trodAll_cons r0
  obtain ⟨v2, vs2, d2, ds2, p2, q2, rfl, rfl, rfl, h2, r2⟩ := trodAll_cons r1
  obtain ⟨rfl, rfl, rfl⟩ := trodAll_nil r2
  obtain rfl : args = #[v0, v1, v2] := by cases args; simp_all
  obtain ⟨rfl, rfl⟩ := trodVars_none hV
  obtain ⟨ent, A1, A2, c1, c2, text, mem, rfl, k1, k2, rr1, rr2, u1, u2⟩ := openImg (hval 0 25 v0 rfl rfl) h0
  have kc := openCap h0
  obtain ⟨A3, c3, tape, rfl, k3, l3, u3⟩ := openLongs (hval 1 23 v1 rfl rfl) h1
  obtain ⟨at0, rg, rfl⟩ := openPut (hval 2 42 v2 rfl rfl) h2
  clear hA0 hval0
  refine (lawDead behindOK A1 A2 A3 c1 c2 c3 ent at0 rg text mem tape W k1 k2 k3 rr1 u1 u2 u3 kc l3).mono fun e W' ⟨he, hb⟩ => ?_
  subst he
  exact ⟨_, rfl, law_post laidOut rfl (by kernel_rfl) Tryz.underlying4 types hW' rfl hb⟩

theorem said : Rows.LiveDeadSaid :=
  OpenClaim.holds_of_wide 4 Tryz.f4 rfl rfl rfl rfl rfl rfl rfl ⟨rfl, rfl, rfl, rfl, rfl⟩ rfl rfl rfl rfl rfl (by kernel_rfl) Tryz.func4 (by kernel_rfl)
    (of_decide_eq_true (by kernel_rfl)) (by unfold Func.isWrapper; first | (rw [if_pos (by decide +kernel)]; kernel_rfl) | (rw [if_neg (by decide +kernel)]; exact ⟨rfl, rfl⟩))
    (fun os started H enc _ => lifted os started H enc)
end Go.Proofs.YtfnicgihpelhhaaGreat.liveDead
namespace Go.Proofs.YtfnicgihpelhhaaGreat
theorem liveDead_said : Rows.LiveDeadSaid := liveDead.said

end Go.Proofs.YtfnicgihpelhhaaGreat
