/-
  EqInts: two lists of ints. lives: four numbers. Of keeps its contract.
-/
import Derived.Test.YtokhclindfipbaaProg
import Derived.WalkKit
import Derived.WalkSpells
import Derived.WalkLawsBesides
import Derived.RowKit3
import Derived.Below
import Derived.Deep.QuietTactic
import Derived.BigQuiet
import Derived.WalkSmall
import Derived.Laws.Rows
import Derived.Test.YtokhclindfipbaaPr01
import Derived.Deep.Cut
import Derived.Deep.RegionWith
import Derived.Deep.RegionHeld3
import Derived.Test.YtokhclindfipbaaPr10
import Derived.Test.YtokhclindfipbaaPr19
namespace Go.Proofs.Ytokhclindfipbaa
open Go.RowKit

set_option maxRecDepth 100000 in
set_option maxHeartbeats 1000000 in
theorem eqints_any (A B : Option Addr) (ca cb : Nat) (zs ys : List Int) (w : World) (hA : IntsAt w A .i64 zs) (hB : IntsAt w B .i64 ys) (hz : zs.length ≤ 1048576) :
    Calls Try.prog 16 #[.slice A zs.length ca, .slice B ys.length cb] w fun e w' => e = .returned (.bool (decide (zs = ys))) ∧ Below w.heap.size w w' := by
  by_cases hl : zs.length = ys.length
  · have hl' : ((zs.length : Int) == (ys.length : Int)) = true := by rw [hl]; simp
    have HL : Hid (zs.length = ys.length) := hl
    clear hl
    go_enter Try.func16, Try.ntmps16
    go_wp2
    go_loopw [5] (fun i wr => ∃ (k m : Nat), i = .int .i64 k ∧ k ≤ zs.length ∧ wr = w.drewN m ∧ Hid (zs.take k = ys.take k)) (fun i _ => zs.length - (intOf i).toNat)
    case atStart => exact ⟨0, 0, rfl, by omega, rfl, by simp [Hid]⟩
    case round =>
      obtain ⟨k, m, rfl, hk, rfl, HT⟩ := hrel
      by_cases hlt : k < zs.length
      · obtain ⟨a, rfl, c1⟩ := hA k hlt
        obtain ⟨b, rfl, c2⟩ := hB k (by have := HL.out; omega)
        have hlt2 : (k : Int) < (ys.length : Int) := by have := HL.out; omega
        by_cases he : nth zs k = nth ys k
        · have HE : Hid (nth zs k = nth ys k) := he
          have he' : (nth zs k == nth ys k) = true := by simpa using he
          clear he
          go_wp2_with fail
          go_quiet (fail)
          go_wp2
          go_roundw
          case rel => exact ⟨k + 1, _, by go_num, by omega, rfl, take_same HT.out hlt (by omega) HE.out⟩
          case measure => simp [intOf]; omega
        · have HE : Hid (¬ nth zs k = nth ys k) := he
          have he' : (nth zs k == nth ys k) = false := by simpa using he
          clear he
          go_wp2_with fail
          go_quiet (fail)
          go_wp2
          go_ret
          exact ⟨retB (decide_eq_false (nth_ne HE.out)).symm, below_drewN (below_drewN (Below.refl _ _) _) _⟩
      · go_wp2
        go_ret
        exact ⟨retB (decide_eq_true (take_all HT.out (by omega) HL.out)).symm, below_drewN (Below.refl _ _) _⟩
  · have hl' : ((zs.length : Int) == (ys.length : Int)) = false := by simp; omega
    have HL : Hid (¬ zs.length = ys.length) := hl
    clear hl
    go_enter Try.func16, Try.ntmps16
    go_wp2
    go_ret
    exact ⟨retB (decide_eq_false (fun h => HL.out (by rw [h]))).symm, Below.refl _ _⟩











end Go.Proofs.Ytokhclindfipbaa

namespace Go.Proofs.Ytokhclindfipbaa
open Go.RowKit

def T4 : List Int := [3, 1, 3, 1]
theorem T4_suf : sufN T4 = [3, 1, 2, 0] := (sufN_uniq ⟨by decide, by decide⟩).symm
theorem T4_sufL : sufL T4 = [3, 1, 2, 0] := by unfold sufL; rw [T4_suf]; rfl
theorem T4_rkL : rkL T4 = [3, 1, 2, 0] := by
  unfold rkL rkN
  rw [T4_suf]
  decide
theorem bits4 : bitsN 4 = 3 := by
  rw [bitsN_pos (by omega), bitsN_pos (by omega), bitsN_pos (by omega), show 4 / 2 / 2 / 2 = 0 from rfl, bitsN_zero]
theorem bits5 : bitsN 5 = 3 := by
  rw [bitsN_pos (by omega), bitsN_pos (by omega), bitsN_pos (by omega), show 5 / 2 / 2 / 2 = 0 from rfl, bitsN_zero]
theorem most4 : mostI 4 = 384 := by
  unfold mostI
  rw [if_neg (by omega), show (4 : Int).toNat = 4 from rfl, bits4]; rfl
theorem most5 : mostI 5 = 480 := by
  unfold mostI
  rw [if_neg (by omega), show (5 : Int).toNat = 5 from rfl, bits5]; rfl
theorem cmp12 : cmpS [1, 2] 0 1 = -1 := by decide
theorem small_range (l : List Int) (h : ∀ x ∈ l, 0 ≤ x ∧ x ≤ 9) : ∀ i, i < l.length → -9223372036854775808 ≤ nth l i ∧ nth l i ≤ 9223372036854775807 := fun i hi => by
  have : nth l i ∈ l := by simp [nth, hi]
  have := h _ this
  omega
theorem four_at (k : IntKind) (T : Nat) (w : World) (a b c d : Int) : IntsAt (w.alloc (.cells #[.int k a, .int k b, .int k c, .int k d] T)) (some ⟨w.heap.size, 0, none⟩) k [a, b, c, d] := fun i hi => by
  have hi : i = 0 ∨ i = 1 ∨ i = 2 ∨ i = 3 := by simp at hi; omega
  rcases hi with rfl | rfl | rfl | rfl <;> exact ⟨_, rfl, by simp [go_sem, nth, Addr.add]⟩
theorem two_at (k : IntKind) (T : Nat) (w : World) (a b : Int) : IntsAt (w.alloc (.cells #[.int k a, .int k b] T)) (some ⟨w.heap.size, 0, none⟩) k [a, b] := fun i hi => by
  have hi : i = 0 ∨ i = 1 := by simp at hi; omega
  rcases hi with rfl | rfl <;> exact ⟨_, rfl, by simp [go_sem, nth, Addr.add]⟩
theorem ints_drew {w : World} {A : Option Addr} {k : IntKind} {l : List Int} (h : IntsAt w A k l) : IntsAt w.drew A k l := h


end Go.Proofs.Ytokhclindfipbaa

namespace Go.Proofs.Ytokhclindfipbaa
open Go.RowKit

set_option maxRecDepth 100000 in
set_option maxHeartbeats 4000000 in
theorem of_none (A : Option Addr) (c : Nat) (w : World) : Calls Try.prog 40 #[.slice A 0 c] w (OfR [] (cstI []) w) := by
  have h0 : ((0 : Int) == 0) = true := rfl
  have e1 : sufL [] = [] := List.length_eq_zero_iff.1 (by rw [sufL_len]; rfl)
  have e2 : rkL [] = [] := List.length_eq_zero_iff.1 (by rw [rkL_len]; rfl)
  have HE : Hid (OfR [] (cstI []) w (.returned (.agg #[.slice none 0 0, .slice none 0 0, .int .i64 0])) ((w.alloc (.cells #[.slice A 0 c] 34)).alloc (.cells #[.slice none 0 0, .slice none 0 0, .int .i64 0] 96))) := ⟨none, none, 0, 0, rfl, (by rw [e1]; exact World.ownsRow_nil _ _ _ _), (by rw [e2]; exact World.ownsRow_nil _ _ _ _), (by intro k hk; cases hk), lb_alloc (lb_alloc (Below.refl _ _) _) _⟩
  clear e1 e2
  go_enter Try.func40, Try.ntmps40
  go_wp2
  go_step3
  go_wp2
  refine bodyPost_ret (v := .agg #[.slice none 0 0, .slice none 0 0, .int .i64 0]) (by simp [results, Try.results40, go_sem]) rfl ?_
  exact HE.out
theorem ofOK : OfOK cstI where
  ok := fun A c l w hA _ hl => by
    by_cases h : l.length = 0
    · obtain rfl : l = [] := List.length_eq_zero_iff.1 h
      exact of_none A c w
    · obtain ⟨a, rfl, -⟩ := hA 0 (by omega)
      exact of_try a c l w hA (by omega) hl
  few := by
    have h := cstI_ok [3, 1, 3, 1] (by decide)
    rw [show (([3, 1, 3, 1] : List Int).length : Int) = 4 from rfl, most4] at h
    omega
theorem costOK : CostOK cstI := fun l hl => cstI_ok l (by omega)



end Go.Proofs.Ytokhclindfipbaa
