/-
  Plain: an array is right just if its places are in order; the bound of one cost. The document's Less and Compare.
-/
import Derived.Test.YtpmaiblgnblpeaaDoorProg
import Derived.WalkKit
import Derived.WalkSpells
import Derived.WalkLawsBesides
import Derived.RowKit3
import Derived.Below
import Derived.Deep.QuietTactic
import Derived.BigQuiet
import Derived.WalkSmall
import Derived.Laws.Rows
import Derived.Test.YtpmaiblgnblpeaaDoorPf04
import Derived.Deep.Cut
import Derived.Deep.LoopGhost
import Derived.Test.YtpmaiblgnblpeaaDoorPf03
namespace Go.Proofs.YtpmaiblgnblpeaaDoor
open Go.RowKit

theorem right_is {l a : List Int} (hlen : a.length = l.length) (h1 : ∀ j, j < l.length → 0 ≤ nth a j ∧ nth a j < (l.length : Int)) (h2 : ∀ j, j + 1 < l.length → lsS l (nth a j).toNat (nth a (j + 1)).toNat = true) : a = sufL l := by
  have hr : ∀ j, j < l.length → rkN l (nth a j).toNat < l.length := fun j hj => rkN_lt (by have := h1 j hj; omega)
  have hs : ∀ j, j + 1 < l.length → rkN l (nth a j).toNat < rkN l (nth a (j + 1)).toNat := fun j hj => rkN_less (by have := h1 j (by omega); omega) (by have := h1 (j + 1) hj; omega) (h2 j hj)
  have up : ∀ d j, j + d < l.length → rkN l (nth a j).toNat + d ≤ rkN l (nth a (j + d)).toNat := fun d => by
    induction d with
    | zero => intro j _; exact Nat.le_refl _
    | succ d ih =>
      intro j hj
      have e1 := ih j (by omega)
      have e2 := hs (j + d) (by omega)
      rw [show j + (d + 1) = j + d + 1 by omega]
      omega
  have eq : ∀ j, j < l.length → rkN l (nth a j).toNat = j := fun j hj => by
    have e1 := up j 0 (by omega)
    have e2 := up (l.length - 1 - j) j (by omega)
    have e3 := hr (j + (l.length - 1 - j)) (by omega)
    rw [Nat.zero_add] at e1
    omega
  apply List.ext_getElem?
  intro j
  by_cases hj : j < l.length
  · have e1 := rkN_at (l := l) (p := (nth a j).toNat) (by have := h1 j hj; omega)
    rw [eq j hj] at e1
    have e2 : nth a j = nth (sufL l) j := by
      rw [sufL_nth hj, e1]
      have := h1 j hj
      omega
    have g1 : a[j]? = some (nth a j) := by simp [nth, show j < a.length by omega]
    have g2 : (sufL l)[j]? = some (nth (sufL l) j) := by simp [nth, show j < (sufL l).length by rw [sufL_len]; exact hj]
    rw [g1, g2, e2]
  · rw [List.getElem?_eq_none (by omega), List.getElem?_eq_none (by rw [sufL_len]; omega)]
/-- The array under way: k places are seen, F tells which. -/
structure RgI (l a : List Int) (k : Nat) (F : Nat → Bool) : Prop where
  rg : ∀ j, j < k → 0 ≤ nth a j ∧ nth a j < (l.length : Int)
  sn : ∀ p, p < l.length → (F p = true ↔ ∃ j, j < k ∧ nth a j = (p : Int))
  ch : ∀ j, j + 1 < k → lsS l (nth a j).toNat (nth a (j + 1)).toNat = true
theorem RgI.zero (l a : List Int) : RgI l a 0 fun _ => false := ⟨fun j h => by omega, fun p _ => by simp, fun j h => by omega⟩
def updB (F : Nat → Bool) (k : Nat) : Nat → Bool := fun j => if j = k then true else F j
theorem RgI.next {l a : List Int} {k p : Nat} {F : Nat → Bool} (h : RgI l a k F) (hp : p < l.length) (hv : nth a k = (p : Int)) (hc : 0 < k → lsS l (nth a (k - 1)).toNat p = true) : RgI l a (k + 1) (updB F p) where
  rg := fun j hj => by
    by_cases e : j = k
    · rw [e, hv]; omega
    · exact h.rg j (by omega)
  sn := fun q hq => by
    unfold updB
    by_cases e : q = p
    · rw [if_pos e]
      exact ⟨fun _ => ⟨k, by omega, by rw [hv, e]⟩, fun _ => rfl⟩
    · rw [if_neg e, h.sn q hq]
      constructor
      · rintro ⟨j, h1, h2⟩; exact ⟨j, by omega, h2⟩
      · rintro ⟨j, h1, h2⟩
        refine ⟨j, ?_, h2⟩
        by_cases e2 : j = k
        · rw [e2, hv] at h2; omega
        · omega
  ch := fun j hj => by
    by_cases e : j + 1 = k
    · rw [e, hv, show j = k - 1 by omega]
      exact hc (by omega)
    · exact h.ch j (by omega)
theorem RgI.no_low {l a : List Int} {k : Nat} (hk : k < l.length) (hv : nth a k < 0) : a ≠ sufL l := fun e => by rw [e, sufL_nth hk] at hv; omega
theorem RgI.no_high {l a : List Int} {k : Nat} (hk : k < l.length) (hv : (l.length : Int) ≤ nth a k) : a ≠ sufL l := fun e => by
  rw [e, sufL_nth hk] at hv
  have := sufN_lt hk
  omega
theorem RgI.no_twice {l a : List Int} {k p : Nat} {F : Nat → Bool} (h : RgI l a k F) (hk : k < l.length) (hp : p < l.length) (hv : nth a k = (p : Int)) (hF : F p = true) : a ≠ sufL l := fun e => by
  obtain ⟨j, h1, h2⟩ := (h.sn p hp).1 hF
  subst e
  rw [sufL_nth hk] at hv
  rw [sufL_nth (by omega)] at h2
  have := sufN_inj (l := l) (i := j) (k := k) (by omega) hk (by omega)
  omega
theorem RgI.no_order {l a : List Int} {k p : Nat} (hk : k < l.length) (hv : nth a k = (p : Int)) (h0 : 0 < k) (hc : ¬ lsS l (nth a (k - 1)).toNat p = true) : a ≠ sufL l := fun e => by
  subst e
  rw [sufL_nth (by omega)] at hc
  rw [sufL_nth hk] at hv
  have := sufN_less (l := l) (i := k - 1) (k := k) (by omega) hk
  simp only [Int.toNat_natCast] at hc
  rw [show p = snth (sufN l) k by omega] at hc
  exact hc this
theorem RgI.all {l a : List Int} {F : Nat → Bool} (h : RgI l a l.length F) (hlen : a.length = l.length) : a = sufL l := right_is hlen h.rg h.ch
theorem cost_one {n : Nat} (hn : n ≤ 1024) : ∃ B Q1 Q2 : Int, ((bitsN n : Nat) : Int) + 1 = B ∧ 1 ≤ B ∧ B ≤ 12 ∧ 2 * (n : Int) * B = Q1 ∧ Q1 * B = Q2 ∧ 0 ≤ Q1 ∧ Q1 ≤ 24576 ∧ 0 ≤ Q2 ∧ Q2 ≤ 294912 ∧ 2 * (n : Int) ≤ Q2 := by
  have hb : bitsN n ≤ 11 := bitsN_le (by omega)
  generalize bitsN n = b at *
  have hq : b = 0 ∨ b = 1 ∨ b = 2 ∨ b = 3 ∨ b = 4 ∨ b = 5 ∨ b = 6 ∨ b = 7 ∨ b = 8 ∨ b = 9 ∨ b = 10 ∨ b = 11 := by omega
  rcases hq with rfl | rfl | rfl | rfl | rfl | rfl | rfl | rfl | rfl | rfl | rfl | rfl
  all_goals exact ⟨_, _, _, rfl, by omega, by omega, rfl, rfl, by omega, by omega, by omega, by omega, by omega⟩
/-- The prefixes as they fill, one behind the other. -/
def alV (l : List Int) (k r : Nat) : Int := if r < k then ((cpN l r : Nat) : Int) else 0
theorem alV_start (l : List Int) (r : Nat) : alV l 1 r = 0 := by
  unfold alV
  by_cases h : r < 1
  · rw [if_pos h, show r = 0 by omega]; rfl
  · rw [if_neg h]
theorem alV_put (l : List Int) (k r : Nat) : alV l (k + 1) r = if r = k then ((cpN l k : Nat) : Int) else alV l k r := by
  unfold alV
  by_cases e : r = k
  · rw [if_pos e, e, if_pos (by omega)]
  · rw [if_neg e]
    by_cases c : r < k
    · rw [if_pos c, if_pos (by omega)]
    · rw [if_neg c, if_neg (by omega)]
theorem alV_all {l : List Int} {k r : Nat} (hr : r < l.length) (hk : l.length ≤ k) : alV l k r = nth (cpA l) r := by
  unfold alV
  rw [if_pos (by omega), cpA_nth hr]
theorem cpN_at {l : List Int} {k : Nat} (h : 0 < k) : cpN l k = cpS l (snth (sufN l) (k - 1)) (snth (sufN l) k) := by
  unfold cpN
  rw [if_neg (by omega)]

end Go.Proofs.YtpmaiblgnblpeaaDoor

namespace Go.Proofs.YtpmaiblgnblpeaaDoor
open Go.RowKit

set_option maxRecDepth 100000 in
set_option maxHeartbeats 2000000 in
theorem refless_any (A : Option Addr) (c : Nat) (l : List Int) (i k : Nat) (w : World) (hA : IntsAt w A .i64 l) (hl : l.length ≤ 1048576) (hi : i ≤ l.length) (hk : k ≤ l.length) :
    Calls Tryd.prog 43 #[.slice A l.length c, .int .i64 (i : Int), .int .i64 (k : Int)] w fun e w' => e = .returned (.bool (lsS l i k)) ∧ Below w.heap.size w w' := by
  have HA : Hid (IntsAt w A .i64 l) := hA
  clear hA
  go_enter Tryd.func43, Tryd.ntmps43
  go_wp2
  go_loopw [1, 2] (fun x y wr => ∃ p q : Nat, x = .int .i64 (p : Int) ∧ y = .int .i64 (q : Int) ∧ p ≤ l.length ∧ q ≤ l.length ∧ Hid (lsS l p q = lsS l i k) ∧ Hid (Below w.heap.size w wr)) (fun x _ _ => l.length - (intOf x).toNat)
  case atStart => exact ⟨i, k, rfl, rfl, hi, hk, rfl, Below.refl _ _⟩
  case round =>
    obtain ⟨p, q, rfl, rfl, hp, hq, HS, HB⟩ := hrel
    clear hi hk
    by_cases a1 : p < l.length
    · have b1 : (p : Int) < (l.length : Int) := by omega
      by_cases a2 : q < l.length
      · have b2 : (q : Int) < (l.length : Int) := by omega
        obtain ⟨a, ea, q1⟩ := (HA.out.keep HB.out) p a1
        subst ea
        obtain ⟨a', ea', q2⟩ := (HA.out.keep HB.out) q a2
        obtain rfl := Option.some.inj ea'
        by_cases he : nth l p = nth l q
        · have HS2 : Hid (lsS l (p + 1) (q + 1) = lsS l i k) := by
            unfold Hid
            rw [← HS.out, lsS_step a1 a2, if_pos he]
          rw [he] at q1
          generalize nth l q = x at *
          clear he
          go_upto_region 2 with fail
          go_quiet (fail)
          go_wp2
          go_roundw
          case rel => exact ⟨p + 1, q + 1, by go_num, by go_num, by omega, by omega, HS2, below_drewN HB.out _⟩
          case measure => simp [intOf]; omega
        · have HS2 : Hid (lsS l i k = decide (nth l p < nth l q)) := by
            unfold Hid
            rw [← HS.out, lsS_step a1 a2, if_neg he]
          have hx : (nth l p != nth l q) = true := by simpa using he
          clear HS he
          generalize nth l p = x at *
          generalize nth l q = y at *
          go_upto_region 2 with fail
          go_quiet (fail)
          go_upto_region 3 with fail
          go_quiet (fail)
          go_wp2
          go_ret
          exact ⟨by rw [HS2.out]; rfl, below_drewN HB.out _⟩
      · have b2 : ¬ (q : Int) < (l.length : Int) := by omega
        have b3 : ((p : Int) == (l.length : Int)) = false := by rw [beq_eq_false_iff_ne]; omega
        have HS2 : Hid (lsS l i k = false) := by
          unfold Hid
          rw [← HS.out, lsS_endK (by omega)]
        go_wp2
        go_ret
        exact ⟨by rw [HS2.out]; rfl, HB.out⟩
    · obtain rfl : p = l.length := by omega
      have HS2 : Hid (lsS l i k = decide (q < l.length)) := by
        unfold Hid
        rw [← HS.out, lsS_endI (Nat.le_refl _)]
      go_wp2
      go_ret
      exact ⟨by rw [HS2.out]; rfl, HB.out⟩
theorem cmp_none {l : List Int} {i k : Int} (h : i < 0 ∨ k < 0 ∨ (l.length : Int) ≤ i ∨ (l.length : Int) ≤ k ∨ i = k) : cmpS l i k = 0 := if_pos h


end Go.Proofs.YtpmaiblgnblpeaaDoor
