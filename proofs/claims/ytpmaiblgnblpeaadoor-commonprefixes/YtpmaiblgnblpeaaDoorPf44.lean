/-
  lives: four numbers.
-/
import Derived.Test.YtpmaiblgnblpeaaDoorProg
import Derived.WalkKit
import Derived.WalkSpells
import Derived.WalkLawsBesides
import Derived.RowKit3
import Derived.Below
import Derived.Deep.QuietTactic
import Derived.BigQuiet
import Derived.WalkSmall
import Derived.Laws.Rows
import Derived.OwnWalk
import Derived.Deep.Cut
import Derived.Deep.RegionHeld3
import Derived.Test.YtpmaiblgnblpeaaDoorPf08
import Derived.Test.YtpmaiblgnblpeaaDoorPf28
namespace Go.Proofs.YtpmaiblgnblpeaaDoor
open Go.RowKit

theorem T4_snth : snth (sufN T4) 0 = 3 ∧ snth (sufN T4) 1 = 1 ∧ snth (sufN T4) 2 = 2 ∧ snth (sufN T4) 3 = 0 := by rw [T4_suf]; decide
theorem T4_cpA : cpA T4 = [0, 1, 0, 2] := by
  have h : ∀ r, cpN T4 r = if r = 0 then 0 else cpS T4 (snth [3, 1, 2, 0] (r - 1)) (snth [3, 1, 2, 0] r) := fun r => by
    unfold cpN
    rw [T4_suf]
  unfold cpA
  simp only [h]
  decide
theorem T4_other : ([0, 1, 2, 3] : List Int) ≠ sufL T4 := by rw [T4_sufL]; decide
theorem cc4 : 3 ≤ ccI T4 := by
  have h := (cc_ok T4).1
  rw [show (T4.length : Int) = 4 from rfl] at h
  omega
theorem le4 : leI [0, 1, 0, 2] 3 1 = 0 ∧ leE [0, 1, 0, 2] 3 1 = 0 := by decide
theorem gp4 : gpF [0, 1, 0, 2] 3 1 = 2 ∧ gpT [0, 1, 0, 2] 3 1 = 4 ∧ gpE [0, 1, 0, 2] 3 1 = 0 := by decide
set_option maxRecDepth 100000 in
set_option maxHeartbeats 8000000 in
theorem lives_any (hp : PrefixesOK) (hle : LeastOK) (hgr : GroupOK) : LivesOK := fun w => by
  have QP := fun (g1 g2 : Nat) (Z : World) (h1 : IntsAt Z (some ⟨g1, 0, none⟩) .i64 T4) (h2 : IntsAt Z (some ⟨g2, 0, none⟩) .i64 (sufL T4)) => hp.ok (some ⟨g1, 0, none⟩) (some ⟨g2, 0, none⟩) 4 4 T4 Z h1 (small_range T4 (by decide)) (by decide) h2
  have QN := fun (g1 g2 : Nat) (Z : World) (h1 : IntsAt Z (some ⟨g1, 0, none⟩) .i64 T4) (h2 : IntsAt Z (some ⟨g2, 0, none⟩) .i64 [0, 1, 2, 3]) => hp.no (some ⟨g1, 0, none⟩) (some ⟨g2, 0, none⟩) 4 4 T4 [0, 1, 2, 3] Z h1 (small_range T4 (by decide)) (by decide) h2 (by decide) T4_other
  have QL := fun (g : Nat) (Z : World) (h : IntsAt Z (some ⟨g, 0, none⟩) .i64 [0, 1, 0, 2]) => hle (some ⟨g, 0, none⟩) 4 [0, 1, 0, 2] 3 1 Z h (by decide) (by decide) (by unfold Rng; omega) (by unfold Rng; omega)
  have QG := fun (g : Nat) (Z : World) (h : IntsAt Z (some ⟨g, 0, none⟩) .i64 [0, 1, 0, 2]) => hgr (some ⟨g, 0, none⟩) 4 [0, 1, 0, 2] 3 1 Z h (by decide) (by unfold Rng; omega) (by unfold Rng; omega)
  unfold PxR at QP
  unfold PxN at QN
  unfold LeR at QL
  unfold GrR at QG
  have hc := cc4
  rw [T4_sufL, T4_cpA] at QP
  rw [le4.1, le4.2] at QL
  rw [gp4.1, gp4.2.1, gp4.2.2] at QG
  generalize ccI T4 = cs at *
  replace QP : ∀ (g1 g2 : Nat) (Z : World), IntsAt Z (some ⟨g1, 0, none⟩) .i64 [3, 1, 3, 1] → IntsAt Z (some ⟨g2, 0, none⟩) .i64 [3, 1, 2, 0] → Calls Tryd.prog 7 #[.slice (some ⟨g1, 0, none⟩) 4 4, .slice (some ⟨g2, 0, none⟩) 4 4] Z fun e w' => ∃ (A : Option Addr) (k : Nat), e = .returned (.tuple #[.slice A 4 k, .int .i64 cs, .int .i64 0]) ∧ w'.ownsRow Z.heap.size 3 1 (.slice A 4 k) 4 (iVals .i64 [0, 1, 0, 2]) ∧ Below Z.heap.size Z w' := QP
  replace QN : ∀ (g1 g2 : Nat) (Z : World), IntsAt Z (some ⟨g1, 0, none⟩) .i64 [3, 1, 3, 1] → IntsAt Z (some ⟨g2, 0, none⟩) .i64 [0, 1, 2, 3] → Calls Tryd.prog 7 #[.slice (some ⟨g1, 0, none⟩) 4 4, .slice (some ⟨g2, 0, none⟩) 4 4] Z fun e w' => e = .returned (.tuple #[.slice none 0 0, .int .i64 0, .int .i64 1]) ∧ Below Z.heap.size Z w' := QN
  replace QL : ∀ (g : Nat) (Z : World), IntsAt Z (some ⟨g, 0, none⟩) .i64 [0, 1, 0, 2] → Calls Tryd.prog 14 #[.slice (some ⟨g, 0, none⟩) 4 4, .int .i64 3, .int .i64 1] Z fun e w' => e = .returned (.tuple #[.int .i64 0, .int .i64 0]) ∧ Below Z.heap.size Z w' := QL
  replace QG : ∀ (g : Nat) (Z : World), IntsAt Z (some ⟨g, 0, none⟩) .i64 [0, 1, 0, 2] → Calls Tryd.prog 15 #[.slice (some ⟨g, 0, none⟩) 4 4, .int .i64 3, .int .i64 1] Z fun e w' => e = .returned (.tuple #[.int .i64 2, .int .i64 4, .int .i64 0]) ∧ Below Z.heap.size Z w' := QG
  have QE := fun (A : Option Addr) (k g : Nat) (Z : World) (h1 : IntsAt Z A .i64 [0, 1, 0, 2]) (h2 : IntsAt Z (some ⟨g, 0, none⟩) .i64 [0, 1, 0, 2]) => eqints_any A (some ⟨g, 0, none⟩) k 4 [0, 1, 0, 2] [0, 1, 0, 2] Z h1 h2 (by decide)
  simp only [decide_true] at QE
  replace QE : ∀ (A : Option Addr) (k g : Nat) (Z : World), IntsAt Z A .i64 [0, 1, 0, 2] → IntsAt Z (some ⟨g, 0, none⟩) .i64 [0, 1, 0, 2] → Calls Tryd.prog 9 #[.slice A 4 k, .slice (some ⟨g, 0, none⟩) 4 4] Z fun e w' => e = .returned (.bool true) ∧ Below Z.heap.size Z w' := QE
  clear hp hle hgr
  go_enter Tryd.func4, Tryd.ntmps4
  go_wp2_with fail
  refine (QP _ _ _ ?_ ?_).mono ?_
  · intro i hi
    have hi : i = 0 ∨ i = 1 ∨ i = 2 ∨ i = 3 := by simp at hi; omega
    rcases hi with rfl | rfl | rfl | rfl <;> exact ⟨_, rfl, by simp [go_sem, nth, Addr.add]⟩
  · intro i hi
    have hi : i = 0 ∨ i = 1 ∨ i = 2 ∨ i = 3 := by simp at hi; omega
    rcases hi with rfl | rfl | rfl | rfl <;> exact ⟨_, rfl, by simp [go_sem, nth, Addr.add]⟩
  rintro e w1 ⟨A1, k1, rfl, ho1, hb1⟩
  have HB1 : Hid (Below w.heap.size w w1) := lb_trans (lb_alloc (lb_alloc (Below.refl _ _) _) _) hb1
  have HI1 : Hid (IntsAt w1 A1 .i64 [0, 1, 0, 2]) := row_ints (l := [0, 1, 0, 2]) ho1
  clear ho1 hb1
  go_wp2_with fail
  refine (QN _ _ _ ?_ ?_).mono ?_
  · intro i hi
    have hi : i = 0 ∨ i = 1 ∨ i = 2 ∨ i = 3 := by simp at hi; omega
    rcases hi with rfl | rfl | rfl | rfl <;> exact ⟨_, rfl, by simp [go_sem, nth, Addr.add]⟩
  · intro i hi
    have hi : i = 0 ∨ i = 1 ∨ i = 2 ∨ i = 3 := by simp at hi; omega
    rcases hi with rfl | rfl | rfl | rfl <;> exact ⟨_, rfl, by simp [go_sem, nth, Addr.add]⟩
  rintro e w2 ⟨rfl, hb2⟩
  have HB2 : Hid (Below w1.heap.size w1 w2) := lb_trans (lb_alloc (lb_alloc (Below.refl _ _) _) _) hb2
  clear hb2
  go_wp2_with fail
  refine (QL _ _ ?_).mono ?_
  · intro i hi
    have hi : i = 0 ∨ i = 1 ∨ i = 2 ∨ i = 3 := by simp at hi; omega
    rcases hi with rfl | rfl | rfl | rfl <;> exact ⟨_, rfl, by simp [go_sem, nth, Addr.add]⟩
  rintro e w3 ⟨rfl, hb3⟩
  have HB3 : Hid (Below w1.heap.size w1 w3) := lb_trans HB2.out (lb_trans (lb_alloc (Below.refl _ _) _) hb3)
  clear hb3
  go_wp2_with fail
  refine (QG _ _ ?_).mono ?_
  · intro i hi
    have hi : i = 0 ∨ i = 1 ∨ i = 2 ∨ i = 3 := by simp at hi; omega
    rcases hi with rfl | rfl | rfl | rfl <;> exact ⟨_, rfl, by simp [go_sem, nth, Addr.add]⟩
  rintro e w4 ⟨rfl, hb4⟩
  have HB4 : Hid (Below w1.heap.size w1 w4) := lb_trans HB3.out (lb_trans (lb_alloc (Below.refl _ _) _) hb4)
  clear hb4
  go_wp2_with fail
  refine (QE A1 k1 _ _ (HI1.out.keep (lb_alloc HB4.out _)) ?_).mono ?_
  · intro i hi
    have hi : i = 0 ∨ i = 1 ∨ i = 2 ∨ i = 3 := by simp at hi; omega
    rcases hi with rfl | rfl | rfl | rfl <;> exact ⟨_, rfl, by simp [go_sem, nth, Addr.add]⟩
  rintro e w5 ⟨rfl, hb5⟩
  have HB5 : Hid (Below w.heap.size w w5) := lb_trans HB1.out (lb_trans (lb_alloc HB4.out _) hb5)
  clear hb5
  go_wp2
  go_ret
  exact ⟨rfl, HB5.out⟩


end Go.Proofs.YtpmaiblgnblpeaaDoor
