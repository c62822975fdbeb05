/-
  A bag: do its lists lie apart? Kind by kind. WideInts, SpareInts: a list of ints with room behind it, marked.
-/
import Derived.Test.YtkdafkdogmemcaaDoorProg
import Derived.WalkKit
import Derived.WalkSpells
import Derived.WalkLawsBesides
import Derived.RowKit3
import Derived.Below
import Derived.Deep.QuietTactic
import Derived.BigQuiet
import Derived.WalkSmall
import Derived.Laws.Rows
import Derived.Test.YtkdafkdogmemcaaDoorPs12
import Derived.Test.YtkdafkdogmemcaaDoorPs14
namespace Go.Proofs.YtkdafkdogmemcaaDoor
open Go.RowKit


set_option maxRecDepth 100000 in
set_option maxHeartbeats 2000000 in
theorem apart_any (B : Nat) (I : Nat → World → Prop) (h : ∀ k, k < 17 → ∀ w, I k w → Calls Tryd.prog (23 + k) #[.pointer (some ⟨B, 0, none⟩)] w fun r w' => r = .returned (.bool true) ∧ I (k + 1) w') (w0 : World) (h0 : I 0 w0) :
    Calls Tryd.prog 13 #[.pointer (some ⟨B, 0, none⟩)] w0 fun r w' => r = .returned (.bool true) ∧ I 17 w' := by
  have H : Hid _ := h
  have H0 : Hid _ := h0
  clear h h0
  go_enter Tryd.func13, Tryd.ntmps13
  go_wp2_with fail
  refine (H.out 0 (by omega) _ H0.out).mono ?_
  rintro r w1 ⟨rfl, h1⟩
  have H1 : Hid _ := h1
  clear h1
  go_wp2_with fail
  refine (H.out 1 (by omega) _ H1.out).mono ?_
  rintro r w2 ⟨rfl, h2⟩
  have H2 : Hid _ := h2
  clear h2
  go_wp2_with fail
  refine (H.out 2 (by omega) _ H2.out).mono ?_
  rintro r w3 ⟨rfl, h3⟩
  have H3 : Hid _ := h3
  clear h3
  go_wp2_with fail
  refine (H.out 3 (by omega) _ H3.out).mono ?_
  rintro r w4 ⟨rfl, h4⟩
  have H4 : Hid _ := h4
  clear h4
  go_wp2_with fail
  refine (H.out 4 (by omega) _ H4.out).mono ?_
  rintro r w5 ⟨rfl, h5⟩
  have H5 : Hid _ := h5
  clear h5
  go_wp2_with fail
  refine (H.out 5 (by omega) _ H5.out).mono ?_
  rintro r w6 ⟨rfl, h6⟩
  have H6 : Hid _ := h6
  clear h6
  go_wp2_with fail
  refine (H.out 6 (by omega) _ H6.out).mono ?_
  rintro r w7 ⟨rfl, h7⟩
  have H7 : Hid _ := h7
  clear h7
  go_wp2_with fail
  refine (H.out 7 (by omega) _ H7.out).mono ?_
  rintro r w8 ⟨rfl, h8⟩
  have H8 : Hid _ := h8
  clear h8
  go_wp2_with fail
  refine (H.out 8 (by omega) _ H8.out).mono ?_
  rintro r w9 ⟨rfl, h9⟩
  have H9 : Hid _ := h9
  clear h9
  go_wp2_with fail
  refine (H.out 9 (by omega) _ H9.out).mono ?_
  rintro r w10 ⟨rfl, h10⟩
  have H10 : Hid _ := h10
  clear h10
  go_wp2_with fail
  refine (H.out 10 (by omega) _ H10.out).mono ?_
  rintro r w11 ⟨rfl, h11⟩
  have H11 : Hid _ := h11
  clear h11
  go_wp2_with fail
  refine (H.out 11 (by omega) _ H11.out).mono ?_
  rintro r w12 ⟨rfl, h12⟩
  have H12 : Hid _ := h12
  clear h12
  go_wp2_with fail
  refine (H.out 12 (by omega) _ H12.out).mono ?_
  rintro r w13 ⟨rfl, h13⟩
  have H13 : Hid _ := h13
  clear h13
  go_wp2_with fail
  refine (H.out 13 (by omega) _ H13.out).mono ?_
  rintro r w14 ⟨rfl, h14⟩
  have H14 : Hid _ := h14
  clear h14
  go_wp2_with fail
  refine (H.out 14 (by omega) _ H14.out).mono ?_
  rintro r w15 ⟨rfl, h15⟩
  have H15 : Hid _ := h15
  clear h15
  go_wp2_with fail
  refine (H.out 15 (by omega) _ H15.out).mono ?_
  rintro r w16 ⟨rfl, h16⟩
  have H16 : Hid _ := h16
  clear h16
  go_wp2_with fail
  refine (H.out 16 (by omega) _ H16.out).mono ?_
  rintro r w17 ⟨rfl, h17⟩
  have H17 : Hid _ := h17
  clear h17
  go_wp2
  go_ret
  exact ⟨rfl, H17.out⟩








end Go.Proofs.YtkdafkdogmemcaaDoor

namespace Go.Proofs.YtkdafkdogmemcaaDoor
open Go.RowKit

theorem infoI3 : ∃ i, Tryd.prog.info? 3 = some i ∧ i.zero = some (.int .i64 0) ∧ i.size = 1 ∧ i.bytes = 8 :=
  ⟨(Tryd.prog.info? 3).get (by kernel_rfl), by kernel_rfl, by kernel_rfl, by kernel_rfl, by kernel_rfl⟩
theorem make30 (f : Nat → Value) (n : Nat) (hn : n ≤ 1048576) (w : World) : (Instr.makeSlice 55 (.int .i64 ((n : Int) + 64)) (.int .i64 ((n : Int) + 64))).run Tryd.prog w = .ok (.slice (some ⟨w.heap.size, 0, none⟩) (n + 64) (n + 64)) (w.alloc (.cells (wcur f (fun _ => .int .i64 0) (n + 64) 0) 3)) := by
  obtain ⟨i, hi, hz, hs, hb⟩ := infoI3
  have h := run_makeSlice (P := Tryd.prog) w 55 3 i _ Tryd.underlying55 hi hz .i64 .i64 ((n : Int) + 64) ((n : Int) + 64) (by omega) (by omega) (by rw [hs]; omega) (by rw [hb]; omega) (by omega)
  rw [hs, Nat.mul_one, show ((n : Int) + 64).toNat = n + 64 by omega] at h
  rw [h, ← made_wcur f (.int .i64 0) (n + 64)]
  rfl


end Go.Proofs.YtkdafkdogmemcaaDoor
