/-
  lives: four numbers.
-/
import Derived.Test.YthhfkcmoncgknaaProg
import Derived.WalkKit
import Derived.WalkSpells
import Derived.WalkLawsBesides
import Derived.RowKit3
import Derived.Below
import Derived.Deep.QuietTactic
import Derived.BigQuiet
import Derived.WalkSmall
import Derived.Laws.Rows
import Derived.Test.YthhfkcmoncgknaaPo13
import Derived.Test.YthhfkcmoncgknaaPo17
import Derived.Deep.Cut
import Derived.Deep.RegionWith
import Derived.Deep.RegionHeld3
namespace Go.Proofs.Ythhfkcmoncgknaa
open Go.RowKit

def T4 : List Int := [3, 1, 3, 1]
theorem T4_suf : sufN T4 = [3, 1, 2, 0] := (sufN_uniq ⟨by decide, by decide⟩).symm
theorem T4_sufL : sufL T4 = [3, 1, 2, 0] := by unfold sufL; rw [T4_suf]; rfl
theorem T4_rkL : rkL T4 = [3, 1, 2, 0] := by
  unfold rkL rkN
  rw [T4_suf]
  decide
theorem bits4 : bitsN 4 = 3 := by
  rw [bitsN_pos (by omega), bitsN_pos (by omega), bitsN_pos (by omega), show 4 / 2 / 2 / 2 = 0 from rfl, bitsN_zero]
theorem bits5 : bitsN 5 = 3 := by
  rw [bitsN_pos (by omega), bitsN_pos (by omega), bitsN_pos (by omega), show 5 / 2 / 2 / 2 = 0 from rfl, bitsN_zero]
theorem most4 : mostI 4 = 384 := by
  unfold mostI
  rw [if_neg (by omega), show (4 : Int).toNat = 4 from rfl, bits4]; rfl
theorem most5 : mostI 5 = 480 := by
  unfold mostI
  rw [if_neg (by omega), show (5 : Int).toNat = 5 from rfl, bits5]; rfl
theorem cmp12 : cmpS [1, 2] 0 1 = -1 := by decide
theorem small_range (l : List Int) (h : ∀ x ∈ l, 0 ≤ x ∧ x ≤ 9) : ∀ i, i < l.length → -9223372036854775808 ≤ nth l i ∧ nth l i ≤ 9223372036854775807 := fun i hi => by
  have : nth l i ∈ l := by simp [nth, hi]
  have := h _ this
  omega
theorem four_at (k : IntKind) (T : Nat) (w : World) (a b c d : Int) : IntsAt (w.alloc (.cells #[.int k a, .int k b, .int k c, .int k d] T)) (some ⟨w.heap.size, 0, none⟩) k [a, b, c, d] := fun i hi => by
  have hi : i = 0 ∨ i = 1 ∨ i = 2 ∨ i = 3 := by simp at hi; omega
  rcases hi with rfl | rfl | rfl | rfl <;> exact ⟨_, rfl, by simp [go_sem, nth, Addr.add]⟩
theorem two_at (k : IntKind) (T : Nat) (w : World) (a b : Int) : IntsAt (w.alloc (.cells #[.int k a, .int k b] T)) (some ⟨w.heap.size, 0, none⟩) k [a, b] := fun i hi => by
  have hi : i = 0 ∨ i = 1 := by simp at hi; omega
  rcases hi with rfl | rfl <;> exact ⟨_, rfl, by simp [go_sem, nth, Addr.add]⟩
theorem ints_drew {w : World} {A : Option Addr} {k : IntKind} {l : List Int} (h : IntsAt w A k l) : IntsAt w.drew A k l := h
set_option maxRecDepth 100000 in
set_option maxHeartbeats 4000000 in
theorem lives_any {cst : List Int → Int} (ho : OfOK cst) (hcm : CompareOK) (hms : MostOK) : LivesOK := fun w => by
  have C0 := ho.ok (some ⟨w.heap.size, 0, none⟩) 4 T4 _ (four_at .i64 3 w 3 1 3 1) (small_range _ (by decide)) (by decide)
  have hc := ho.few
  replace hc : 3 ≤ cst T4 ∧ cst T4 ≤ 384 := hc
  unfold OfR at C0
  rw [T4_sufL, T4_rkL] at C0
  generalize cst T4 = cs at hc C0
  obtain ⟨hc1, hc2⟩ := hc
  replace C0 : Calls Try.prog 13 #[.slice (some ⟨w.heap.size, 0, none⟩) 4 4] (w.alloc (.cells #[.int .i64 3, .int .i64 1, .int .i64 3, .int .i64 1] 3)) _ := C0
  have M4 := fun wx => hms 4 wx (by omega) (by omega)
  have M5 := fun wx => hms 5 wx (by omega) (by omega)
  rw [most4] at M4
  rw [most5] at M5
  clear ho hms
  go_enter Try.func5, Try.ntmps5
  go_upto_region 2 with (go_at_call 13; refine C0.mono ?_; rintro e w1 ⟨A1, A2, k1, k2, rfl, ho1, ho2, -, hb1⟩; have HB1 : Hid (Below w.heap.size w w1) := lb_trans (lb_alloc (Below.refl _ _) _) hb1; have HI1 : Hid (IntsAt w1 A1 .i64 [3, 1, 2, 0]) := row_ints (l := [3, 1, 2, 0]) ho1; have HI2 : Hid (IntsAt w1 A2 .i64 [3, 1, 2, 0]) := row_ints (l := [3, 1, 2, 0]) ho2; clear hb1 ho1 ho2 C0)
  obtain ⟨X, HX⟩ : ∃ X, Hid (w1.alloc (.cells #[.slice A1 4 k1, .slice A2 4 k2, .int .i64 cs] 31) = X) := ⟨_, rfl⟩
  have HBX : Hid (Below w.heap.size w X) := by unfold Hid; rw [← HX.out]; exact lb_alloc HB1.out _
  have i0 : X.cell? ⟨w1.heap.size, 0, none⟩ = some (.slice A1 4 k1) := by rw [← HX.out]; simp [go_sem]
  have i1 : X.cell? ⟨w1.heap.size, 1, none⟩ = some (.slice A2 4 k2) := by rw [← HX.out]; simp [go_sem]
  have i2 : X.cell? ⟨w1.heap.size, 2, none⟩ = some (.int .i64 cs) := by rw [← HX.out]; simp [go_sem]
  have HJ1 : Hid (IntsAt X A1 .i64 [3, 1, 2, 0]) := by unfold Hid; rw [← HX.out]; exact HI1.out.keep (lb_alloc (Below.refl _ _) _)
  have HJ2 : Hid (IntsAt X A2 .i64 [3, 1, 2, 0]) := by unfold Hid; rw [← HX.out]; exact HI2.out.keep (lb_alloc (Below.refl _ _) _)
  have HI : Hid (∀ Z, Below X.heap.size X Z → Z.cell? ⟨w1.heap.size, 0, none⟩ = some (.slice A1 4 k1) ∧ Z.cell? ⟨w1.heap.size, 1, none⟩ = some (.slice A2 4 k2) ∧ Z.cell? ⟨w1.heap.size, 2, none⟩ = some (.int .i64 cs)) := fun Z hZ => ⟨lkeep hZ i0, lkeep hZ i1, lkeep hZ i2⟩
  have HT4 : T4.length = 4 := rfl
  have hXl : w1.heap.size < X.heap.size := by rw [← HX.out]; simp
  have hXn : ¬ w1.heap.size = X.heap.size := by omega
  rw [show T4.length = 4 from rfl, HX.out]
  clear HX HI1 HI2 HB1 HT4
  have QE := fun (A : Option Addr) (k g : Nat) (Z : World) (h1 : IntsAt Z A .i64 [3, 1, 2, 0]) (h2 : IntsAt Z (some ⟨g, 0, none⟩) .i64 [3, 1, 2, 0]) => eqints_any A (some ⟨g, 0, none⟩) k 4 [3, 1, 2, 0] [3, 1, 2, 0] Z h1 h2 (by decide)
  simp only [decide_true] at QE
  replace QE : ∀ (A : Option Addr) (k g : Nat) (Z : World), IntsAt Z A .i64 [3, 1, 2, 0] → IntsAt Z (some ⟨g, 0, none⟩) .i64 [3, 1, 2, 0] → Calls Try.prog 11 #[.slice A 4 k, .slice (some ⟨g, 0, none⟩) 4 4] Z fun e w' => e = .returned (.bool true) ∧ Below Z.heap.size Z w' := QE
  have QC := fun (g : Nat) (Z : World) (h : IntsAt Z (some ⟨g, 0, none⟩) .i64 [1, 2]) => hcm (some ⟨g, 0, none⟩) 2 [1, 2] 0 1 Z h (by decide) (by decide) (by omega) (by omega)
  rw [cmp12] at QC
  replace QC : ∀ (g : Nat) (Z : World), IntsAt Z (some ⟨g, 0, none⟩) .i64 [1, 2] → Calls Try.prog 7 #[.slice (some ⟨g, 0, none⟩) 2 2, .int .i64 0, .int .i64 1] Z fun e w' => e = .returned (.int .i64 (-1)) ∧ Below Z.heap.size Z w' := QC
  clear hcm
  have hcs : (3 : Int) ≤ cs := hc1
  have BX : Below X.heap.size X X.drew := (Below.refl _ _).drew
  go_region_held3 (fun W => Below X.heap.size X W ∧ W.cell? ⟨w1.heap.size, 0, none⟩ = some (.slice A1 4 k1) ∧ W.cell? ⟨w1.heap.size, 1, none⟩ = some (.slice A2 4 k2) ∧ W.cell? ⟨w1.heap.size, 2, none⟩ = some (.int .i64 cs)) (first | exact ⟨lb_trans (‹Below _ _ _ ∧ _›).1 hb, HI.out _ (lb_trans (‹Below _ _ _ ∧ _›).1 hb)⟩ | exact ⟨lb_alloc (‹Below _ _ _ ∧ _›).1 _, HI.out _ (lb_alloc (‹Below _ _ _ ∧ _›).1 _)⟩ | exact ⟨BX, HI.out _ BX⟩ | (simp [*]; done))
    (first
      | (go_at_call_of 11 A1; refine (QE A1 k1 _ _ (HJ1.out.keep (by first | assumption | exact (‹Below _ _ _ ∧ _›).1)) ?_).mono ?_; (intro i hi; (have hi : i = 0 ∨ i = 1 ∨ i = 2 ∨ i = 3 := (by simp at hi; omega)); rcases hi with rfl | rfl | rfl | rfl <;> exact ⟨_, rfl, by simp [go_sem, nth, Addr.add]⟩); rintro e x1 ⟨rfl, hb⟩)
      | (go_at_call_of 11 A2; refine (QE A2 k2 _ _ (HJ2.out.keep (by first | assumption | exact (‹Below _ _ _ ∧ _›).1)) ?_).mono ?_; (intro i hi; (have hi : i = 0 ∨ i = 1 ∨ i = 2 ∨ i = 3 := (by simp at hi; omega)); rcases hi with rfl | rfl | rfl | rfl <;> exact ⟨_, rfl, by simp [go_sem, nth, Addr.add]⟩); rintro e x2 ⟨rfl, hb⟩)
      | (go_at_call_of 9 (Value.int IntKind.i64 4); refine (M4 _).mono ?_; rintro e x3 ⟨rfl, hb⟩)
      | (go_at_call_of 9 (Value.int IntKind.i64 5); refine (M5 _).mono ?_; rintro e x4 ⟨rfl, hb⟩)
      | (go_at_call 7; refine (QC _ _ ?_).mono ?_; (intro i hi; (have hi : i = 0 ∨ i = 1 := (by simp at hi; omega)); rcases hi with rfl | rfl <;> exact ⟨_, rfl, by simp [go_sem, nth, Addr.add]⟩); rintro e x5 ⟨rfl, hb⟩))
  rename_i hS'
  obtain ⟨sB, _⟩ := hS'
  have HB7 : Hid (Below w.heap.size w _) := lb_trans HBX.out sB
  clear sB
  go_wp2
  go_ret
  exact ⟨rfl, HB7.out⟩

end Go.Proofs.Ythhfkcmoncgknaa
