/-
  Resolve: which place of which object each symbol stands for. The program's Link. EqInts: two lists of ints. The two objects that lives links.
-/
import Derived.Test.YthpkekpojhmaaaaGreatDoorProg
import Derived.WalkKit
import Derived.WalkSpells
import Derived.WalkLawsBesides
import Derived.RowKit3
import Derived.Below
import Derived.Deep.QuietTactic
import Derived.BigQuiet
import Derived.WalkSmall
import Derived.Laws.Rows
import Derived.Test.YthpkekpojhmaaaaGreatDoorP33
import Derived.Test.YthpkekpojhmaaaaGreatDoorP28
import Derived.Test.YthpkekpojhmaaaaGreatDoorP30
import Derived.Deep.DeepCutAuto
import Derived.Deep.RegionHeld3
import Derived.Test.YthpkekpojhmaaaaGreatDoorP25
import Derived.Test.YthpkekpojhmaaaaGreatDoorP22
namespace Go.Proofs.YthpkekpojhmaaaaGreatDoor
open Go.RowKit

open Go.Maps Go.WideMaps
theorem progF : ProgF := fun A ca q l nm w h hs => pfind_any A ca q l nm w h hs
theorem kinds_of {l : List Ob} (h : chkL l = none) (i : Nat) (hi : i < l.length) (j : Nat) (hj : j < (ob l i).ss.length) : 0 ≤ sKind (ob l i).ss j ∧ sKind (ob l i).ss j ≤ 3 := by
  unfold chkL at h
  split at h
  · cases h
  · have a := fst_no h i hi
    unfold badO at a
    split at a
    · next e =>
      have b := sym_parts.1 ((check_may e).2.1 j hj)
      exact ⟨b.2.2.1, b.2.2.2.1⟩
    · cases a
set_option maxHeartbeats 4000000 in
set_option maxRecDepth 100000 in
theorem progR : ProgR := fun A ca q l w hA => by
  have HA : Hid (ObsIn w A q l) := hA
  have C1 := pask_any A ca q l w hA
  clear hA
  unfold ErrP at C1
  obtain ⟨x, hx⟩ : ∃ x, x = chkL l := ⟨_, rfl⟩
  rw [← hx] at C1
  have HX : Hid (x = chkL l) := hx
  have hE : Errs x := by rw [hx]; exact chkL_errs l
  clear hx
  go_enter Tryz.func22, Tryz.ntmps22
  go_wp2_with fail
  refine C1.mono ?_
  rintro e w1 ⟨rfl, hb1⟩
  have HB1 : Hid (Below w.heap.size w w1) := hb1
  clear C1 hb1
  cases x with
  | some y =>
    have he : (y.1 != 0) = true := by simpa using hE y rfl
    have HR : Hid (resE l = some y) := by unfold Hid resE; rw [← HX.out]
    have HL : Hid (resL l = []) := by unfold Hid resL; rw [HR.out]
    have e1 : t1 (some y) = y.1 := rfl
    have e2 : t2 (some y) = y.2.1 := rfl
    have e3 : t3 (some y) = y.2.2 := rfl
    rw [e1, e2, e3]
    clear hE
    go_wp2
    refine bodyPost_ret (v := .tuple #[.slice none 0 0, .int .i64 y.1, .int .i64 y.2.1, .int .i64 y.2.2]) (by simp [results, Tryz.results22, go_sem]) rfl ⟨none, 0, [], ?_, ?_, HB1.out⟩
    · rw [HL.out, HR.out]; rfl
    · rw [HL.out]; exact RowsD.nil _ _ _ _
  | none =>
    have e1 : t1 none = 0 := rfl
    have e2 : t2 none = 0 := rfl
    have e3 : t3 none = 0 := rfl
    rw [e1, e2, e3]
    clear hE
    have C2 := plearn_any A ca q l w1 (HA.out.keep HB1.out)
    go_wp2_with fail
    refine C2.mono ?_
    rintro e w2 (⟨y, hy, rfl, hb2⟩ | ⟨hy, n, rfl, hk2, hb2⟩)
    · have HB2 : Hid (Below w.heap.size w w2) := lb_trans HB1.out hb2
      have HR : Hid (resE l = some y) := by unfold Hid resE namL; rw [← HX.out, hy]
      have HL : Hid (resL l = []) := by unfold Hid resL; rw [HR.out]
      have he : (y.1 != 0) = true := by simpa using fst_errs (twO_errs l) _ y hy
      clear C2 hb2 hy
      go_wp2
      refine bodyPost_ret (v := .tuple #[.slice none 0 0, .int .i64 y.1, .int .i64 y.2.1, .int .i64 y.2.2]) (by simp [results, Tryz.results22, go_sem]) rfl ⟨none, 0, [], ?_, ?_, HB2.out⟩
      · rw [HL.out, HR.out]; rfl
      · rw [HL.out]; exact RowsD.nil _ _ _ _
    · have HB2 : Hid (Below w.heap.size w w2) := lb_trans HB1.out hb2
      have HK2 : Hid (Knows w2 w1.heap.size n (seenA l l.length 0)) := hk2
      have HT : Hid (fstN (twO l) l.length = none) := hy
      clear C2 hb2 hy hk2
      have C3 := finders_any w1.heap.size w2
      go_wp2_with fail
      refine C3.mono ?_
      rintro e w3 ⟨rfl, hc3, hb3⟩
      have HB3 : Hid (Below w.heap.size w w3) := lb_trans HB2.out hb3
      have C4 := pall_any A ca q l w1.heap.size n w2.heap.size w3 (HA.out.keep HB3.out) (HK2.out.keep hb3) hc3 (kinds_of HX.out.symm)
      clear C3 hb3 hc3
      go_wp2_with fail
      refine C4.mono ?_
      rintro e w4 (⟨y, hy, rfl, hb4⟩ | ⟨hy, O, c, vs, rfl, hr4, hb4⟩)
      · have HB4 : Hid (Below w.heap.size w w4) := lb_trans HB3.out hb4
        have HR : Hid (resE l = some y) := by unfold Hid resE namL; rw [← HX.out, HT.out, hy]
        have HL : Hid (resL l = []) := by unfold Hid resL; rw [HR.out]
        clear C4 hb4 hy
        go_wp2
        refine bodyPost_ret (v := .tuple #[.slice none 0 0, .int .i64 y.1, .int .i64 y.2.1, .int .i64 y.2.2]) (by simp [results, Tryz.results22, go_sem]) rfl ⟨none, 0, [], ?_, ?_, HB4.out⟩
        · rw [HL.out, HR.out]; rfl
        · rw [HL.out]; exact RowsD.nil _ _ _ _
      · have HB4 : Hid (Below w.heap.size w w4) := lb_trans HB3.out hb4
        have HR : Hid (resE l = none) := by unfold Hid resE namL; rw [← HX.out, HT.out, hy]
        have HL : Hid (resL l = rowsT l l.length) := by unfold Hid resL; rw [HR.out]
        have HRW : Hid (RowsD w4 w.heap.size 77 69 (.slice O l.length c) vs (rowsT l l.length)) := ⟨own_base hr4.bag HB3.out.size, fun i hi => own_base (hr4.row i hi) HB3.out.size⟩
        clear C4 hb4 hy hr4
        go_wp2
        refine bodyPost_ret (v := .tuple #[.slice O l.length c, .int .i64 0, .int .i64 0, .int .i64 0]) (by simp [results, Tryz.results22, go_sem]) rfl ⟨O, c, vs, ?_, ?_, HB4.out⟩
        · rw [HL.out, HR.out, rowsT_len]; rfl
        · rw [HL.out, rowsT_len]; exact HRW.out


end Go.Proofs.YthpkekpojhmaaaaGreatDoor

namespace Go.Proofs.YthpkekpojhmaaaaGreatDoor
open Go.RowKit

theorem dat_in {l : List Ob} (h : Res l) : DatIn l := fun i hi => by
  obtain ⟨_, _, _, _, h5, h6, h7⟩ := (h.may i hi).1
  exact ⟨h5, h6, by omega⟩
set_option maxHeartbeats 16000000 in
set_option maxRecDepth 100000 in
theorem progL : ProgL := fun A ca q l nm mem w hA hnm => by
  obtain ⟨w0, hw0⟩ : ∃ w0, w0 = w.alloc (.cells #[.slice none 0 0, .int .i64 0, .slice none 0 0] 29) := ⟨_, rfl⟩
  have HB0 : Hid (Below w.heap.size w w0) := by rw [Hid, hw0]; exact lb_alloc (Below.refl _ _) _
  have HZ : Hid (w0.heap[w.heap.size]? = some (.cells #[.slice none 0 0, .int .i64 0, .slice none 0 0] 29 (0, 0))) := by rw [Hid, hw0]; exact heap_alloc_new _ _
  have HA : Hid (ObsIn w A q l) := hA
  have hf := hA.few
  have HCd : Hid (∀ j, j < l.length → (ob l j).code.length ≤ 1048576) := fun j hj => (hA.each j hj).hc
  clear hA
  go_enter Tryz.func8, Tryz.ntmps8
  by_cases ha : mem < 0
  · have HX : Hid (lnkE l nm mem = some (1, 0, 0)) := lnk_arg (Or.inl ha)
    go_upto_region 1 with fail
    rw [← hw0]
    clear hw0
    obtain ⟨z0, z1, z2, f0, f1, f2⟩ := img_keep (w1 := w0) HZ.out (Below.refl _ _)
    go_wp2
    refine bodyPost_ret (v := .tuple #[.agg #[.slice none 0 0, .int .i64 0, .slice none 0 0], .int .i64 1, .int .i64 0, .int .i64 0]) (by simp [results, Tryz.results8, go_sem, z0, z1, z2]) rfl ?_
    exact lnk_err HX.out (((lb_trans HB0.out (Below.refl _ _)).setCell (Nat.le_refl _) _).setCell (Nat.le_refl _) _ |>.setCell (Nat.le_refl _) _)
  by_cases ha2 : 4096 < mem
  · have HX : Hid (lnkE l nm mem = some (1, 0, 0)) := lnk_arg (Or.inr ha2)
    go_upto_region 1 with fail
    rw [← hw0]
    clear hw0
    obtain ⟨z0, z1, z2, f0, f1, f2⟩ := img_keep (w1 := w0) HZ.out (Below.refl _ _)
    go_wp2
    refine bodyPost_ret (v := .tuple #[.agg #[.slice none 0 0, .int .i64 0, .slice none 0 0], .int .i64 1, .int .i64 0, .int .i64 0]) (by simp [results, Tryz.results8, go_sem, z0, z1, z2]) rfl ?_
    exact lnk_err HX.out (((lb_trans HB0.out (Below.refl _ _)).setCell (Nat.le_refl _) _).setCell (Nat.le_refl _) _ |>.setCell (Nat.le_refl _) _)
  have HM : Hid (¬ (mem < 0 ∨ 4096 < mem)) := by rw [Hid]; omega
  obtain ⟨m, rfl⟩ : ∃ m : Nat, mem = (m : Int) := ⟨mem.toNat, by omega⟩
  have hm4 : m ≤ 4096 := by omega
  have C1 := progR A ca q l w0 (HA.out.keep HB0.out)
  go_upto_region 1 with fail
  rw [← hw0]
  clear hw0
  go_wp2_with fail
  refine C1.mono ?_
  rintro e w1 ⟨A1, c1, v1, rfl, r1, hb1⟩
  have HK1 : Hid (Below w0.heap.size w0 w1) := hb1
  clear C1 hb1
  cases hx : resE l with
  | some x =>
    have he : (x.1 != 0) = true := by simpa using res_none hx
    have HX : Hid (lnkE l nm (m : Int) = some x) := lnk_res HM.out hx
    have e1 : t1 (some x) = x.1 := rfl
    have e2 : t2 (some x) = x.2.1 := rfl
    have e3 : t3 (some x) = x.2.2 := rfl
    rw [e1, e2, e3]
    clear r1 hx e1 e2 e3
    obtain ⟨z0, z1, z2, f0, f1, f2⟩ := img_keep (w1 := w1) HZ.out HK1.out
    go_wp2
    refine bodyPost_ret (v := .tuple #[.agg #[.slice none 0 0, .int .i64 0, .slice none 0 0], .int .i64 x.1, .int .i64 x.2.1, .int .i64 x.2.2]) (by simp [results, Tryz.results8, go_sem, z0, z1, z2]) rfl ?_
    exact lnk_err HX.out (((lb_trans HB0.out HK1.out).setCell (Nat.le_refl _) _).setCell (Nat.le_refl _) _ |>.setCell (Nat.le_refl _) _)
  | none =>
    have HS : Hid (Res l) := res_ok hx
    have HRE : Hid (resE l = none) := hx
    have e1 : t1 none = 0 := rfl
    have e2 : t2 none = 0 := rfl
    have e3 : t3 none = 0 := rfl
    rw [e1, e2, e3]
    have hrl : resL l = rowsT l l.length := by unfold resL; rw [hx]
    rw [hrl] at r1
    rw [hrl, rowsT_len]
    rw [rowsT_len] at r1
    have HR1 : Hid (RowsAt w1 A1 (rowsT l l.length)) := rows_at r1
    clear e1 e2 e3 hrl r1 hx
    have C2 := progF A ca q l nm w1 (HA.out.keep (lb_trans HB0.out HK1.out)) (by omega)
    obtain ⟨fx, hfx⟩ : ∃ fx, fx = findF nm l := ⟨_, rfl⟩
    rw [← hfx] at C2
    unfold DefP at C2
    have HFX : Hid (fx = findF nm l) := hfx
    clear hfx
    go_wp2_with fail
    refine C2.mono ?_
    rintro e w2 ⟨rfl, hb2⟩
    have HK2 : Hid (Below w0.heap.size w0 w2) := lb_trans HK1.out hb2
    have HK12 : Hid (Below w1.heap.size w1 w2) := hb2
    clear C2 hb2
    cases fx with
    | none =>
      have HX : Hid (lnkE l nm (m : Int) = some (41, 0, 0)) := lnk_ent HM.out HRE.out HFX.out.symm
      have e1 : dfI none = 0 := rfl
      have e2 : dfA none = 0 := rfl
      have e3 : (none : Option (Nat × Int)).isSome = false := rfl
      rw [e1, e2, e3]
      obtain ⟨z0, z1, z2, f0, f1, f2⟩ := img_keep (w1 := (w2.alloc (.cells #[.int .i64 0, .int .i64 0] 69))) HZ.out (lb_alloc HK2.out _)
      go_wp2
      refine bodyPost_ret (v := .tuple #[.agg #[.slice none 0 0, .int .i64 0, .slice none 0 0], .int .i64 41, .int .i64 0, .int .i64 0]) (by simp [results, Tryz.results8, go_sem, z0, z1, z2]) rfl ?_
      exact lnk_err HX.out (((lb_trans HB0.out (lb_alloc HK2.out _)).setCell (Nat.le_refl _) _).setCell (Nat.le_refl _) _ |>.setCell (Nat.le_refl _) _)
    | some x =>
      obtain ⟨xi, xa⟩ := x
      obtain ⟨hxl, hxa0, hxa1⟩ := HS.out.find HFX.out.symm
      simp only at hxl hxa0 hxa1
      have hxl' : (xi : Int) < (l.length : Int) := by omega
      have e1 : dfI (some (xi, xa)) = xi := rfl
      have e2 : dfA (some (xi, xa)) = xa := rfl
      have e3 : (some (xi, xa)).isSome = true := rfl
      rw [e1, e2, e3]
      clear e1 e2 e3
      obtain ⟨Wd, hWd⟩ : ∃ Wd, Wd = w2.alloc (.cells #[.int .i64 xi, .int .i64 xa] 69) := ⟨_, rfl⟩
      have hbd : Below w2.heap.size w2 Wd := by rw [hWd]; exact lb_alloc (Below.refl _ _) _
      have HKd : Hid (Below w0.heap.size w0 Wd) := lb_trans HK2.out hbd
      have HK1d : Hid (Below w1.heap.size w1 Wd) := lb_trans HK12.out hbd
      have HD0 : Hid (Wd.cell? ⟨w2.heap.size, 0, none⟩ = some (.int .i64 xi)) := by rw [Hid, hWd]; simp [go_sem]
      have HD1 : Hid (Wd.cell? ⟨w2.heap.size, 1, none⟩ = some (.int .i64 xa)) := by rw [Hid, hWd]; simp [go_sem]
      have hsz2 : w.heap.size < w2.heap.size := by have := (Array.getElem?_eq_some_iff.1 HZ.out).1; have := HK2.out.size; omega
      have C3 := basesOf_any A ca q l Wd (HA.out.keep (lb_trans HB0.out HKd.out))
      go_upto_region 9 with fail
      rw [← hWd]
      clear hWd hbd
      go_wp2_with fail
      refine C3.mono ?_
      rintro e w3 (⟨i, hfar, rfl, hb3⟩ | ⟨hfar, B3, c3, rfl, r3, hb3⟩)
      · have HX : Hid (lnkE l nm (m : Int) = some (42, (i : Int), 0)) := lnk_far HM.out HRE.out HFX.out.symm hfar
        have HK3 : Hid (Below w0.heap.size w0 w3) := lb_trans HKd.out hb3
        clear C3 hb3 hfar
        obtain ⟨z0, z1, z2, f0, f1, f2⟩ := img_keep (w1 := w3) HZ.out HK3.out
        go_wp2
        refine bodyPost_ret (v := .tuple #[.agg #[.slice none 0 0, .int .i64 0, .slice none 0 0], .int .i64 42, .int .i64 i, .int .i64 0]) (by simp [results, Tryz.results8, go_sem, z0, z1, z2]) rfl ?_
        exact lnk_err HX.out (((lb_trans HB0.out HK3.out).setCell (Nat.le_refl _) _).setCell (Nat.le_refl _) _ |>.setCell (Nat.le_refl _) _)
      · have HFar : Hid (farL l = none) := hfar
        have HLD : Hid (lnkE l nm (m : Int) = datE l m) := by rw [Hid, lnk_dat HM.out HRE.out HFX.out.symm hfar]; rfl
        have HK3 : Hid (Below w0.heap.size w0 w3) := lb_trans HKd.out hb3
        have HKd3 : Hid (Below Wd.heap.size Wd w3) := hb3
        have HBs : Hid (IntsAt w3 B3 .i64 (basT l l.length)) := own_intsV r3
        clear C3 hb3 hfar r3
        have C4 := fill_any A ca q l m w3 (HA.out.keep (lb_trans HB0.out HK3.out)) hm4 (dat_in HS.out)
        go_wp2_with fail
        refine C4.mono ?_
        rintro e w4 (⟨y, hy, rfl, hb4⟩ | ⟨hy, O4, rfl, r4, hb4⟩)
        · have he : (y.1 != 0) = true := by simpa using dat_err hy
          have HX : Hid (lnkE l nm (m : Int) = some y) := by rw [Hid, HLD.out, hy]
          have HK4 : Hid (Below w0.heap.size w0 w4) := lb_trans HK3.out hb4
          clear C4 hb4 hy
          obtain ⟨z0, z1, z2, f0, f1, f2⟩ := img_keep (w1 := w4) HZ.out HK4.out
          go_wp2
          refine bodyPost_ret (v := .tuple #[.agg #[.slice none 0 0, .int .i64 0, .slice none 0 0], .int .i64 y.1, .int .i64 y.2.1, .int .i64 y.2.2]) (by simp [results, Tryz.results8, go_sem, z0, z1, z2]) rfl ?_
          exact lnk_err HX.out (((lb_trans HB0.out HK4.out).setCell (Nat.le_refl _) _).setCell (Nat.le_refl _) _ |>.setCell (Nat.le_refl _) _)
        · have HX : Hid (lnkE l nm (m : Int) = none) := by rw [Hid, HLD.out, hy]
          have HK4 : Hid (Below w0.heap.size w0 w4) := lb_trans HK3.out hb4
          have HK34 : Hid (Below w3.heap.size w3 w4) := hb4
          have HR4 : Hid (w4.ownsRow w3.heap.size 2 1 (.slice O4 m m) m (vI (datL l m))) := r4
          have hd0 : w4.cell? ⟨w2.heap.size, 0, none⟩ = some (.int .i64 xi) := lkeep (lb_trans HKd3.out hb4) HD0.out
          have hd1 : w4.cell? ⟨w2.heap.size, 1, none⟩ = some (.int .i64 xa) := lkeep (lb_trans HKd3.out hb4) HD1.out
          clear C4 hb4 hy r4
          go_upto_region 15 with fail
          have hyx := HCd.out xi hxl
          have hbx := sum_fits HCd.out hf (Nat.le_of_lt hxl)
          have hbd : Below w4.heap.size w4 w4.drew := ⟨rfl, rfl, rfl, Nat.le_refl _, fun _ _ => rfl⟩
          have CJ := join_any A ca q l B3 c3 A1 c1 w4.drew (HA.out.keep (lb_trans HB0.out (lb_trans HK4.out hbd))) HS.out HFar.out (HBs.out.keep (lb_trans HK34.out hbd)) (HR1.out.keep (lb_trans HK1d.out (lb_trans HKd3.out (lb_trans HK34.out hbd))))
          have HRd : Hid (w4.drew.ownsRow w3.heap.size 2 1 (.slice O4 m m) m (vI (datL l m))) := own_keep HR4.out hbd
          have HKD : Hid (Below w0.heap.size w0 w4.drew) := lb_trans HK4.out hbd
          have HBD : Hid (IntsAt w4.drew B3 .i64 (basT l l.length)) := HBs.out.keep (lb_trans HK34.out hbd)
          refine wp_region_held_drew (S := fun X : World => X.cell? ⟨w2.heap.size, 0, none⟩ = some (.int .i64 xi) ∧ X.cell? ⟨w2.heap.size, 1, none⟩ = some (.int .i64 xa)) (by kernel_rfl) ⟨hd0, hd1⟩ (fun hHeld => ?_)
          refine wpAnyH_take (i := 0) (oi := { dst := some 69, op := Op.move (Operand.tmp 0), type := 22, pos := "link.go:32", after := #[], guard := none }) (v := ?_) rfl (by kernel_rfl) (by kernel_rfl) (by kernel_rfl) (fun _ _ _ h => h) (Or.inl ⟨by rfl, ?_⟩) hHeld ?_
          rotate_left
          · intro X hSX
            go_simp
            first | done | with_reducible rfl
          try simp only [Act.put, List.setIfInBounds_toArray, List.set_cons_zero, List.set_cons_succ]
          refine wpAnyH_take (i := 1) (oi := { dst := some 70, op := Op.move (Operand.tmp 13), type := 33, pos := "link.go:32", after := #[], guard := none }) (v := ?_) rfl (by kernel_rfl) (by kernel_rfl) (by kernel_rfl) (fun _ _ _ h => h) (Or.inl ⟨by rfl, ?_⟩) hHeld ?_
          rotate_left
          · intro X hSX
            go_simp
            first | done | with_reducible rfl
          try simp only [Act.put, List.setIfInBounds_toArray, List.set_cons_zero, List.set_cons_succ]
          refine wpAnyH_take (i := 2) (oi := { dst := some 71, op := Op.move (Operand.tmp 10), type := 65, pos := "link.go:32", after := #[], guard := none }) (v := ?_) rfl (by kernel_rfl) (by kernel_rfl) (by kernel_rfl) (fun _ _ _ h => h) (Or.inl ⟨by rfl, ?_⟩) hHeld ?_
          rotate_left
          · intro X hSX
            go_simp
            first | done | with_reducible rfl
          try simp only [Act.put, List.setIfInBounds_toArray, List.set_cons_zero, List.set_cons_succ]
          refine wpAnyH_take (i := 4) (oi := { dst := some 73, op := Op.load 69 (Operand.tmp 11), type := 69, pos := "link.go:32", after := #[], guard := none }) (v := ?_) rfl (by kernel_rfl) (by kernel_rfl) (by kernel_rfl) (fun _ _ _ h => h) (Or.inl ⟨by rfl, ?_⟩) hHeld ?_
          rotate_left
          · intro X hSX
            go_simp
            first | done | with_reducible rfl
          try simp only [Act.put, List.setIfInBounds_toArray, List.set_cons_zero, List.set_cons_succ]
          refine wpAnyH_take (i := 5) (oi := { dst := some 74, op := Op.move (Operand.tmp 13), type := 33, pos := "link.go:32", after := #[], guard := none }) (v := ?_) rfl (by kernel_rfl) (by kernel_rfl) (by kernel_rfl) (fun _ _ _ h => h) (Or.inl ⟨by rfl, ?_⟩) hHeld ?_
          rotate_left
          · intro X hSX
            go_simp
            first | done | with_reducible rfl
          try simp only [Act.put, List.setIfInBounds_toArray, List.set_cons_zero, List.set_cons_succ]
          refine wpAnyH_take (i := 7) (oi := { dst := some 76, op := Op.move (Operand.tmp 14), type := 27, pos := "link.go:32", after := #[], guard := none }) (v := ?_) rfl (by kernel_rfl) (by kernel_rfl) (by kernel_rfl) (fun _ _ _ h => h) (Or.inl ⟨by rfl, ?_⟩) hHeld ?_
          rotate_left
          · intro X hSX
            go_simp
            first | done | with_reducible rfl
          try simp only [Act.put, List.setIfInBounds_toArray, List.set_cons_zero, List.set_cons_succ]
          generalize w4.drew = X4 at hHeld CJ HRd HKD HBD ⊢
          refine wpAnyH_ready (rs := [3]) (by kernel_rfl) (by simp) (AllReadyH.cons (o := { dst := some 72, op := Op.call { callee := Callee.value (Operand.func 39), args := #[Operand.tmp 69, Operand.tmp 70, Operand.tmp 71], argTypes := #[22, 33, 65] }, type := 26, pos := "link.go:32", after := #[{ on := 0, ground := Ground.data }, { on := 1, ground := Ground.data }, { on := 2, ground := Ground.data }], guard := none }) rfl (fun K hK => ?_) AllReadyH.nil)
          go_simp
          refine CJ.mono ?_
          rintro e X5 ⟨O5, c5, rfl, r5, hb5⟩
          have HR5 : Hid (X5.ownsRow X4.heap.size 78 1 (.slice O5 (bsF l l.length) c5) (bsF l l.length) (vU (textF l l.length))) := r5
          have HB5 : Hid (Below X4.heap.size X4 X5) := hb5
          have C40 := placeOf_any l xi xa B3 c3 X5 (HBD.out.keep hb5) hxl hbx ⟨hxa0, by omega⟩
          try simp only []
          refine hK.out _ _ ⟨lkeep hb5 hHeld.1, lkeep hb5 hHeld.2⟩ (fun hHeld2 => ?_)
          clear hK K CJ r5 hb5
          try simp only [Act.put, List.setIfInBounds_toArray, List.set_cons_zero, List.set_cons_succ]
          refine wpAnyH_ready (rs := [6]) (by kernel_rfl) (by simp) (AllReadyH.cons (o := { dst := some 75, op := Op.call { callee := Callee.value (Operand.func 40), args := #[Operand.tmp 73, Operand.tmp 74], argTypes := #[69, 33] }, type := 3, pos := "link.go:32", after := #[{ on := 4, ground := Ground.data }, { on := 5, ground := Ground.data }, { on := 3, ground := Ground.chain }], guard := none }) rfl (fun K hK => ?_) AllReadyH.nil)
          go_simp
          refine C40.mono ?_
          rintro e X6 ⟨rfl, hb6⟩
          have HB6 : Hid (Below X5.heap.size X5 X6) := hb6
          try simp only []
          refine hK.out _ _ ⟨lkeep hb6 hHeld2.1, lkeep hb6 hHeld2.2⟩ (fun hHeld3 => ?_)
          clear hK K C40 hb6
          try simp only [Act.put, List.setIfInBounds_toArray, List.set_cons_zero, List.set_cons_succ]
          refine wpAnyH_take (i := 8) (oi := { dst := some 77, op := Op.build 29 #[(0, Operand.tmp 72), (1, Operand.tmp 75), (2, Operand.tmp 76)], type := 29, pos := "link.go:32", after := #[{ on := 3, ground := Ground.data }, { on := 6, ground := Ground.data }, { on := 7, ground := Ground.data }], guard := none }) (v := ?_) rfl (by kernel_rfl) (by kernel_rfl) (by kernel_rfl) (fun _ _ _ h => h) (Or.inl ⟨by rfl, ?_⟩) hHeld3 ?_
          rotate_left
          · intro X hSX
            go_simp
            first | done | with_reducible rfl
          try simp only [Act.put, List.setIfInBounds_toArray, List.set_cons_zero, List.set_cons_succ]
          have HK6 : Hid (Below w0.heap.size w0 X6) := lb_trans HKD.out (lb_trans HB5.out HB6.out)
          obtain ⟨z0, z1, z2, f0, f1, f2⟩ := img_keep (w1 := X6) HZ.out HK6.out
          refine wpAnyH_ready (rs := [9]) (by kernel_rfl) (by simp) (AllReadyH.cons (o := { dst := none, op := Op.store 29 (Operand.tmp 6) (Operand.tmp 77), type := 0, pos := "link.go:32", after := #[{ on := 8, ground := Ground.data }, { on := 6, ground := Ground.chain }, { on := 0, ground := Ground.phase }, { on := 1, ground := Ground.phase }, { on := 2, ground := Ground.phase }, { on := 3, ground := Ground.phase }, { on := 4, ground := Ground.phase }, { on := 5, ground := Ground.phase }, { on := 6, ground := Ground.phase }, { on := 7, ground := Ground.phase }, { on := 8, ground := Ground.phase }], guard := none }) rfl (fun K hK => ?_) AllReadyH.nil)
          go_simp
          refine hK.out _ _ ⟨cell_set_ne (cell_set_ne (cell_set_ne hHeld3.1 (Nat.ne_of_gt hsz2)) (Nat.ne_of_gt hsz2)) (Nat.ne_of_gt hsz2), cell_set_ne (cell_set_ne (cell_set_ne hHeld3.2 (Nat.ne_of_gt hsz2)) (Nat.ne_of_gt hsz2)) (Nat.ne_of_gt hsz2)⟩ (fun hHeld4 => ?_)
          clear hK K
          try simp only [Act.put, List.setIfInBounds_toArray, List.set_cons_zero, List.set_cons_succ]
          refine wpAnyH_take (i := 10) (oi := { dst := some 7, op := Op.assign (Operand.const (Value.int IntKind.i64 0)), type := 30, pos := "link.go:32", after := #[{ on := 9, ground := Ground.chain }, { on := 0, ground := Ground.phase }, { on := 1, ground := Ground.phase }, { on := 2, ground := Ground.phase }, { on := 3, ground := Ground.phase }, { on := 4, ground := Ground.phase }, { on := 5, ground := Ground.phase }, { on := 6, ground := Ground.phase }, { on := 7, ground := Ground.phase }, { on := 8, ground := Ground.phase }, { on := 9, ground := Ground.phase }], guard := none }) (v := ?_) rfl (by kernel_rfl) (by kernel_rfl) (by kernel_rfl) (fun _ _ _ h => h) (Or.inl ⟨by rfl, ?_⟩) hHeld4 ?_
          rotate_left
          · intro X hSX
            go_simp
            first | done | with_reducible rfl
          try simp only [Act.put, List.setIfInBounds_toArray, List.set_cons_zero, List.set_cons_succ]
          refine wpAnyH_take (i := 11) (oi := { dst := some 8, op := Op.assign (Operand.const (Value.int IntKind.i64 0)), type := 3, pos := "link.go:32", after := #[{ on := 10, ground := Ground.chain }, { on := 0, ground := Ground.phase }, { on := 1, ground := Ground.phase }, { on := 2, ground := Ground.phase }, { on := 3, ground := Ground.phase }, { on := 4, ground := Ground.phase }, { on := 5, ground := Ground.phase }, { on := 6, ground := Ground.phase }, { on := 7, ground := Ground.phase }, { on := 8, ground := Ground.phase }, { on := 9, ground := Ground.phase }, { on := 10, ground := Ground.phase }], guard := none }) (v := ?_) rfl (by kernel_rfl) (by kernel_rfl) (by kernel_rfl) (fun _ _ _ h => h) (Or.inl ⟨by rfl, ?_⟩) hHeld4 ?_
          rotate_left
          · intro X hSX
            go_simp
            first | done | with_reducible rfl
          try simp only [Act.put, List.setIfInBounds_toArray, List.set_cons_zero, List.set_cons_succ]
          refine wpAnyH_take (i := 12) (oi := { dst := some 9, op := Op.assign (Operand.const (Value.int IntKind.i64 0)), type := 3, pos := "link.go:32", after := #[{ on := 11, ground := Ground.chain }, { on := 0, ground := Ground.phase }, { on := 1, ground := Ground.phase }, { on := 2, ground := Ground.phase }, { on := 3, ground := Ground.phase }, { on := 4, ground := Ground.phase }, { on := 5, ground := Ground.phase }, { on := 6, ground := Ground.phase }, { on := 7, ground := Ground.phase }, { on := 8, ground := Ground.phase }, { on := 9, ground := Ground.phase }, { on := 10, ground := Ground.phase }, { on := 11, ground := Ground.phase }], guard := none }) (v := ?_) rfl (by kernel_rfl) (by kernel_rfl) (by kernel_rfl) (fun _ _ _ h => h) (Or.inl ⟨by rfl, ?_⟩) hHeld4 ?_
          rotate_left
          · intro X hSX
            go_simp
            first | done | with_reducible rfl
          try simp only [Act.put, List.setIfInBounds_toArray, List.set_cons_zero, List.set_cons_succ]
          refine wpAnyH_done (by kernel_rfl) ?_ _
          clear hHeld hHeld2 hHeld3 hHeld4 hd0 hd1
          have HT : Hid (lnkT l nm (m : Int) = textF l l.length) := by unfold Hid lnkT; rw [HX.out]; rfl
          have HN : Hid (lnkN l nm (m : Int) = (bsF l xi : Int) + xa) := by unfold Hid lnkN; rw [HX.out, ← HFX.out]; rfl
          have HMM : Hid (lnkM l nm (m : Int) = datL l m) := by unfold Hid lnkM; rw [HX.out]; rfl
          have HS0 : Hid (w.heap.size < w0.heap.size) := (Array.getElem?_eq_some_iff.1 HZ.out).1
          have HS4 : Hid (w0.heap.size ≤ X4.heap.size) := HKD.out.size
          have HS3 : Hid (w0.heap.size ≤ w3.heap.size) := HK3.out.size
          have HRw : Hid (X6.ownsRow w3.heap.size 2 1 (.slice O4 m m) m (vI (datL l m))) := own_keep HRd.out (lb_trans HB5.out HB6.out)
          have HRt : Hid (X6.ownsRow X4.heap.size 78 1 (.slice O5 (bsF l l.length) c5) (bsF l l.length) (vU (textF l l.length))) := own_keep HR5.out HB6.out
          have HLT : Hid ((textF l l.length).length = bsF l l.length) := textF_len l l.length
          have HLM : Hid ((datL l m).length = m) := by unfold Hid datL; simp
          go_wp2
          refine bodyPost_ret (v := .tuple #[.agg #[.slice O5 (bsF l l.length) c5, .int .i64 ((bsF l xi : Int) + xa), .slice O4 m m], .int .i64 0, .int .i64 0, .int .i64 0]) (by simp [results, Tryz.results8, go_sem, z0, z1, z2]) rfl ⟨O5, O4, c5, m, ?_, ?_, ?_, ?_⟩
          · rw [HT.out, HN.out, HMM.out, HX.out, HLT.out, HLM.out]; rfl
          · rw [HT.out, HLT.out]
            exact own_base (own_set3 HRt.out (by have := HS0.out; have := HS4.out; omega)) (by have := HS0.out; have := HS4.out; omega)
          · rw [HMM.out, HLM.out]
            exact own_base (own_set3 HRw.out (by have := HS0.out; have := HS3.out; omega)) (by have := HS0.out; have := HS3.out; omega)
          · exact (((lb_trans HB0.out HK6.out).setCell (Nat.le_refl _) _).setCell (Nat.le_refl _) _).setCell (Nat.le_refl _) _

end Go.Proofs.YthpkekpojhmaaaaGreatDoor

namespace Go.Proofs.YthpkekpojhmaaaaGreatDoor
open Go.RowKit

set_option maxRecDepth 100000 in
set_option maxHeartbeats 1000000 in
theorem eqints_any (A B : Option Addr) (ca cb : Nat) (zs ys : List Int) (w : World) (hA : IntsAt w A .i64 zs) (hB : IntsAt w B .i64 ys) (hz : zs.length ≤ 1048576) :
    Calls Tryz.prog 12 #[.slice A zs.length ca, .slice B ys.length cb] w fun e w' => e = .returned (.bool (decide (zs = ys))) ∧ Below w.heap.size w w' := by
  by_cases hl : zs.length = ys.length
  · have hl' : ((zs.length : Int) == (ys.length : Int)) = true := by rw [hl]; simp
    have HL : Hid (zs.length = ys.length) := hl
    clear hl
    go_enter Tryz.func12, Tryz.ntmps12
    go_wp2
    go_loopw [5] (fun i wr => ∃ (k m : Nat), i = .int .i64 k ∧ k ≤ zs.length ∧ wr = w.drewN m ∧ Hid (zs.take k = ys.take k)) (fun i _ => zs.length - (intOf i).toNat)
    case atStart => exact ⟨0, 0, rfl, by omega, rfl, by simp [Hid]⟩
    case round =>
      obtain ⟨k, m, rfl, hk, rfl, HT⟩ := hrel
      by_cases hlt : k < zs.length
      · obtain ⟨a, rfl, c1⟩ := hA k hlt
        obtain ⟨b, rfl, c2⟩ := hB k (by have := HL.out; omega)
        have hlt2 : (k : Int) < (ys.length : Int) := by have := HL.out; omega
        by_cases he : nth zs k = nth ys k
        · have HE : Hid (nth zs k = nth ys k) := he
          have he' : (nth zs k == nth ys k) = true := by simpa using he
          clear he
          go_wp2_with fail
          go_quiet (fail)
          go_wp2
          go_roundw
          case rel => exact ⟨k + 1, _, by go_num, by omega, rfl, take_same HT.out hlt (by omega) HE.out⟩
          case measure => simp [intOf]; omega
        · have HE : Hid (¬ nth zs k = nth ys k) := he
          have he' : (nth zs k == nth ys k) = false := by simpa using he
          clear he
          go_wp2_with fail
          go_quiet (fail)
          go_wp2
          go_ret
          exact ⟨retB (decide_eq_false (nth_ne HE.out)).symm, below_drewN (below_drewN (Below.refl _ _) _) _⟩
      · go_wp2
        go_ret
        exact ⟨retB (decide_eq_true (take_all HT.out (by omega) HL.out)).symm, below_drewN (Below.refl _ _) _⟩
  · have hl' : ((zs.length : Int) == (ys.length : Int)) = false := by simp; omega
    have HL : Hid (¬ zs.length = ys.length) := hl
    clear hl
    go_enter Tryz.func12, Tryz.ntmps12
    go_wp2
    go_ret
    exact ⟨retB (decide_eq_false (fun h => HL.out (by rw [h]))).symm, Below.refl _ _⟩


end Go.Proofs.YthpkekpojhmaaaaGreatDoor

namespace Go.Proofs.YthpkekpojhmaaaaGreatDoor
open Go.RowKit

def twoA : Ob := ⟨⟨#[97]⟩, [2281701376, 2818572288], 1, [7, 8], [(⟨#[102]⟩, 3, 0), (⟨#[109, 97, 105, 110]⟩, 1, 0)], [(0, 0)]⟩
def twoB : Ob := ⟨⟨#[98]⟩, [142606341, 2558001152], 0, [], [(⟨#[102]⟩, 1, 0)], []⟩
def twoL : List Ob := [twoA, twoB]
def oneL : List Ob := [twoA]
def nmM : ByteArray := ⟨#[109, 97, 105, 110]⟩
theorem al_sz (w : World) (o : Obj) : (w.alloc o).heap.size = w.heap.size + 1 := by simp
/-- Blocks laid one behind another. -/
def als : World → List Obj → World
  | w, [] => w
  | w, o :: os => als (w.alloc o) os
theorem als_old : ∀ (os : List Obj) (w : World) (i : Nat), i < w.heap.size → (als w os).heap[i]? = w.heap[i]?
  | [], _, _, _ => rfl
  | o :: os, w, i, h => by
    show (als (w.alloc o) os).heap[i]? = _
    rw [als_old os (w.alloc o) i (by rw [al_sz]; omega), Below.heap_alloc w o i h]
theorem als_all : ∀ (os : List Obj) (w : World) (i : Nat) (o : Obj), os[i]? = some o → (als w os).heap[w.heap.size + i]? = some o
  | [], _, _, _, h => by simp at h
  | p :: os, w, 0, o, h => by
    simp at h
    subst h
    show (als (w.alloc p) os).heap[w.heap.size]? = _
    rw [als_old os (w.alloc p) _ (by rw [al_sz]; omega)]
    exact heap_alloc_new _ _
  | p :: os, w, i + 1, o, h => by
    have := als_all os (w.alloc p) i o (by simpa using h)
    rw [al_sz] at this
    show (als (w.alloc p) os).heap[w.heap.size + (i + 1)]? = _
    rw [show w.heap.size + (i + 1) = w.heap.size + 1 + i by omega]
    exact this
theorem als_at (w : World) (os : List Obj) (i : Nat) (o : Obj) (h : os[i]? = some o) : (als w os).heap[w.heap.size + i]? = some o := als_all os w i o h
def twoQ (g : Nat) (i : Nat) : Pl := if i = 0 then ⟨some ⟨g, 0, none⟩, some ⟨g + 1, 0, none⟩, some ⟨g + 1 + 1, 0, none⟩, some ⟨g + 1 + 1 + 1, 0, none⟩, 2, 2, 2, 1⟩ else ⟨some ⟨g + 1 + 1 + 1 + 1 + 1, 0, none⟩, none, some ⟨g + 1 + 1 + 1 + 1 + 1 + 1, 0, none⟩, none, 2, 0, 1, 0⟩
theorem sName_few (l : List Sym) (h : ∀ s ∈ l, s.1.size ≤ 140737488355328) (i : Nat) : (sName l i).size ≤ 140737488355328 := by
  unfold sName
  by_cases hi : i < l.length
  · rw [List.getD_eq_getElem?_getD, List.getElem?_eq_getElem hi]
    exact h _ (List.getElem_mem hi)
  · rw [List.getD_eq_getElem?_getD, List.getElem?_eq_none (by omega)]
    exact (by decide : (⟨#[]⟩ : ByteArray).size ≤ 140737488355328)
theorem two_lt {P : Nat → Prop} (h0 : P 0) (h1 : P 1) (m : Nat) (hm : m < 2) : P m := by
  have hq : m = 0 ∨ m = 1 := by omega
  rcases hq with rfl | rfl
  · exact h0
  · exact h1
theorem one_lt {P : Nat → Prop} (h0 : P 0) (m : Nat) (hm : m < 1) : P m := by
  have hq : m = 0 := by omega
  subst hq
  exact h0


end Go.Proofs.YthpkekpojhmaaaaGreatDoor
