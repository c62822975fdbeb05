/-
  Resolve: which place of which object each symbol stands for.
-/
import Derived.Test.YtiihfkjgdhfmiaaProg
import Derived.WalkKit
import Derived.WalkSpells
import Derived.WalkLawsBesides
import Derived.RowKit3
import Derived.Below
import Derived.Deep.QuietTactic
import Derived.BigQuiet
import Derived.WalkSmall
import Derived.Laws.Rows
import Derived.Test.YtiihfkjgdhfmiaaSR19
import Derived.Test.YtiihfkjgdhfmiaaSR27
import Derived.Test.YtiihfkjgdhfmiaaSR18
import Derived.Test.YtiihfkjgdhfmiaaSR15
namespace Go.Proofs.Ytiihfkjgdhfmiaa
open Go.RowKit

open Go.Maps Go.WideMaps
theorem progF : ProgF := fun A ca q l nm w h hs => pfind_any A ca q l nm w h hs
theorem kinds_of {l : List Ob} (h : chkL l = none) (i : Nat) (hi : i < l.length) (j : Nat) (hj : j < (ob l i).ss.length) : 0 ≤ sKind (ob l i).ss j ∧ sKind (ob l i).ss j ≤ 3 := by
  unfold chkL at h
  split at h
  · cases h
  · have a := fst_no h i hi
    unfold badO at a
    split at a
    · next e =>
      have b := sym_parts.1 ((check_may e).2.1 j hj)
      exact ⟨b.2.2.1, b.2.2.2.1⟩
    · cases a
set_option maxHeartbeats 4000000 in
set_option maxRecDepth 100000 in
theorem progR : ProgR := fun A ca q l w hA => by
  have HA : Hid (ObsIn w A q l) := hA
  have C1 := pask_any A ca q l w hA
  clear hA
  unfold ErrP at C1
  obtain ⟨x, hx⟩ : ∃ x, x = chkL l := ⟨_, rfl⟩
  rw [← hx] at C1
  have HX : Hid (x = chkL l) := hx
  have hE : Errs x := by rw [hx]; exact chkL_errs l
  clear hx
  go_enter Try.func8, Try.ntmps8
  go_wp2_with fail
  refine C1.mono ?_
  rintro e w1 ⟨rfl, hb1⟩
  have HB1 : Hid (Below w.heap.size w w1) := hb1
  clear C1 hb1
  cases x with
  | some y =>
    have he : (y.1 != 0) = true := by simpa using hE y rfl
    have HR : Hid (resE l = some y) := by unfold Hid resE; rw [← HX.out]
    have HL : Hid (resL l = []) := by unfold Hid resL; rw [HR.out]
    have e1 : t1 (some y) = y.1 := rfl
    have e2 : t2 (some y) = y.2.1 := rfl
    have e3 : t3 (some y) = y.2.2 := rfl
    rw [e1, e2, e3]
    clear hE
    go_wp2
    refine bodyPost_ret (v := .tuple #[.slice none 0 0, .int .i64 y.1, .int .i64 y.2.1, .int .i64 y.2.2]) (by simp [results, Try.results8, go_sem]) rfl ⟨none, 0, [], ?_, ?_, HB1.out⟩
    · rw [HL.out, HR.out]; rfl
    · rw [HL.out]; exact RowsD.nil _ _ _ _
  | none =>
    have e1 : t1 none = 0 := rfl
    have e2 : t2 none = 0 := rfl
    have e3 : t3 none = 0 := rfl
    rw [e1, e2, e3]
    clear hE
    have C2 := plearn_any A ca q l w1 (HA.out.keep HB1.out)
    go_wp2_with fail
    refine C2.mono ?_
    rintro e w2 (⟨y, hy, rfl, hb2⟩ | ⟨hy, n, rfl, hk2, hb2⟩)
    · have HB2 : Hid (Below w.heap.size w w2) := lb_trans HB1.out hb2
      have HR : Hid (resE l = some y) := by unfold Hid resE namL; rw [← HX.out, hy]
      have HL : Hid (resL l = []) := by unfold Hid resL; rw [HR.out]
      have he : (y.1 != 0) = true := by simpa using fst_errs (twO_errs l) _ y hy
      clear C2 hb2 hy
      go_wp2
      refine bodyPost_ret (v := .tuple #[.slice none 0 0, .int .i64 y.1, .int .i64 y.2.1, .int .i64 y.2.2]) (by simp [results, Try.results8, go_sem]) rfl ⟨none, 0, [], ?_, ?_, HB2.out⟩
      · rw [HL.out, HR.out]; rfl
      · rw [HL.out]; exact RowsD.nil _ _ _ _
    · have HB2 : Hid (Below w.heap.size w w2) := lb_trans HB1.out hb2
      have HK2 : Hid (Knows w2 w1.heap.size n (seenA l l.length 0)) := hk2
      have HT : Hid (fstN (twO l) l.length = none) := hy
      clear C2 hb2 hy hk2
      have C3 := finders_any w1.heap.size w2
      go_wp2_with fail
      refine C3.mono ?_
      rintro e w3 ⟨rfl, hc3, hb3⟩
      have HB3 : Hid (Below w.heap.size w w3) := lb_trans HB2.out hb3
      have C4 := pall_any A ca q l w1.heap.size n w2.heap.size w3 (HA.out.keep HB3.out) (HK2.out.keep hb3) hc3 (kinds_of HX.out.symm)
      clear C3 hb3 hc3
      go_wp2_with fail
      refine C4.mono ?_
      rintro e w4 (⟨y, hy, rfl, hb4⟩ | ⟨hy, O, c, vs, rfl, hr4, hb4⟩)
      · have HB4 : Hid (Below w.heap.size w w4) := lb_trans HB3.out hb4
        have HR : Hid (resE l = some y) := by unfold Hid resE namL; rw [← HX.out, HT.out, hy]
        have HL : Hid (resL l = []) := by unfold Hid resL; rw [HR.out]
        clear C4 hb4 hy
        go_wp2
        refine bodyPost_ret (v := .tuple #[.slice none 0 0, .int .i64 y.1, .int .i64 y.2.1, .int .i64 y.2.2]) (by simp [results, Try.results8, go_sem]) rfl ⟨none, 0, [], ?_, ?_, HB4.out⟩
        · rw [HL.out, HR.out]; rfl
        · rw [HL.out]; exact RowsD.nil _ _ _ _
      · have HB4 : Hid (Below w.heap.size w w4) := lb_trans HB3.out hb4
        have HR : Hid (resE l = none) := by unfold Hid resE namL; rw [← HX.out, HT.out, hy]
        have HL : Hid (resL l = rowsT l l.length) := by unfold Hid resL; rw [HR.out]
        have HRW : Hid (RowsD w4 w.heap.size 41 34 (.slice O l.length c) vs (rowsT l l.length)) := ⟨own_base hr4.bag HB3.out.size, fun i hi => own_base (hr4.row i hi) HB3.out.size⟩
        clear C4 hb4 hy hr4
        go_wp2
        refine bodyPost_ret (v := .tuple #[.slice O l.length c, .int .i64 0, .int .i64 0, .int .i64 0]) (by simp [results, Try.results8, go_sem]) rfl ⟨O, c, vs, ?_, ?_, HB4.out⟩
        · rw [HL.out, HR.out, rowsT_len]; rfl
        · rw [HL.out, rowsT_len]; exact HRW.out

end Go.Proofs.Ytiihfkjgdhfmiaa
