/-
  What gather answers. The document's Less and Compare.
-/
import Derived.Test.YthhfkcmoncgknaaDoorProg
import Derived.WalkKit
import Derived.WalkSpells
import Derived.WalkLawsBesides
import Derived.RowKit3
import Derived.Below
import Derived.Deep.QuietTactic
import Derived.BigQuiet
import Derived.WalkSmall
import Derived.Laws.Rows
import Derived.Deep.AppendLies
import Derived.Deep.DeepCutAuto
import Derived.Deep.RegionHeld3
import Derived.Great.BuildSlice
import Derived.Laws.BitsAllLaws
import Derived.Laws.CopyOwn
import Derived.Laws.Tables
import Derived.Test.YthhfkcmoncgknaaDoorPf21
import Derived.Test.YthhfkcmoncgknaaDoorPf11
import Derived.Deep.Cut
import Derived.Deep.LoopGhost
import Derived.Test.YthhfkcmoncgknaaDoorPf16
namespace Go.Proofs.YthhfkcmoncgknaaDoor
open Go.RowKit

/-- The places that are told: none, if the image may not be. -/
def outL (text : List Int) (ml : Nat) (ent : Int) (f : Int → Bool) : List Int := if (checkI text ml ent).1 = 0 then plcT f text.length else []
theorem outL_ok {text : List Int} {ml : Nat} {ent : Int} {f : Int → Bool} (h : (checkI text ml ent).1 = 0) : outL text ml ent f = plcT f text.length := if_pos h
theorem outL_no {text : List Int} {ml : Nat} {ent : Int} {f : Int → Bool} (h : ¬ (checkI text ml ent).1 = 0) : outL text ml ent f = [] := if_neg h
def GatP (E : Int) (ps : List Int) (w : World) (e : Ending) (w' : World) : Prop :=
  ∃ (A : Option Addr) (c : Nat), e = .returned (.tuple #[.slice A ps.length c, .int .i64 E]) ∧ w'.ownsRow w.heap.size 3 1 (.slice A ps.length c) ps.length (iVals .i64 ps) ∧ Below w.heap.size w w'
theorem gat_no {text : List Int} {ml : Nat} {ent : Int} {f : Int → Bool} (h : ¬ (checkI text ml ent).1 = 0) {w w' : World} (hb : Below w.heap.size w w') : GatP (checkI text ml ent).1 (outL text ml ent f) w (.returned (.tuple #[.slice none 0 0, .int .i64 (checkI text ml ent).1])) w' := by
  rw [outL_no h]
  exact ⟨none, 0, rfl, World.ownsRow_nil _ _ _ _, hb⟩
theorem infoI : ∃ i, Tryd.prog.info? 3 = some i ∧ i.zero = some (.int .i64 0) ∧ i.size = 1 ∧ i.bytes = 8 :=
  ⟨(Tryd.prog.info? 3).get (by kernel_rfl), by kernel_rfl, by kernel_rfl, by kernel_rfl, by kernel_rfl⟩
theorem one_oneI {x : Int} : ∀ u ∈ [Value.int .i64 x], u.oneCell' = true := fun u hu => by
  simp only [List.mem_cons, List.not_mem_nil, or_false] at hu
  rw [hu]; rfl
theorem own_sl {w : World} {b n : Nat} {e : TypeId} {sz : Nat} {v : Value} {xs : List Value} (h : w.ownsRow b e sz v n xs) : ∃ A c, v = .slice A n c := own_form h
/-- A row stays where a map is written. -/
theorem row_map {w w1 : World} {base : Nat} {e : TypeId} {sz : Nat} {v : Value} {n : Nat} {xs : List Value} {b : Nat} (h : w.ownsRow base e sz v n xs) (hg : w.grownBy w1 (some b)) (hb : ∀ cs t, w.heap[b]? ≠ some (.cells cs t (0, 0))) : w1.ownsRow base e sz v n xs := by
  refine h.kept hg ?_
  rcases h.2 with ⟨rfl, _⟩ | ⟨g, cap, cur, rfl, _, hg2, _⟩
  · exact .inl rfl
  · refine .inr fun e => ?_
    cases e
    exact hb _ _ hg2








end Go.Proofs.YthhfkcmoncgknaaDoor

namespace Go.Proofs.YthhfkcmoncgknaaDoor
open Go.RowKit

set_option maxRecDepth 100000 in
set_option maxHeartbeats 2000000 in
theorem refless_any (A : Option Addr) (c : Nat) (l : List Int) (i k : Nat) (w : World) (hA : IntsAt w A .i64 l) (hl : l.length ≤ 1048576) (hi : i ≤ l.length) (hk : k ≤ l.length) :
    Calls Tryd.prog 48 #[.slice A l.length c, .int .i64 (i : Int), .int .i64 (k : Int)] w fun e w' => e = .returned (.bool (lsS l i k)) ∧ Below w.heap.size w w' := by
  have HA : Hid (IntsAt w A .i64 l) := hA
  clear hA
  go_enter Tryd.func48, Tryd.ntmps48
  go_wp2
  go_loopw [1, 2] (fun x y wr => ∃ p q : Nat, x = .int .i64 (p : Int) ∧ y = .int .i64 (q : Int) ∧ p ≤ l.length ∧ q ≤ l.length ∧ Hid (lsS l p q = lsS l i k) ∧ Hid (Below w.heap.size w wr)) (fun x _ _ => l.length - (intOf x).toNat)
  case atStart => exact ⟨i, k, rfl, rfl, hi, hk, rfl, Below.refl _ _⟩
  case round =>
    obtain ⟨p, q, rfl, rfl, hp, hq, HS, HB⟩ := hrel
    clear hi hk
    by_cases a1 : p < l.length
    · have b1 : (p : Int) < (l.length : Int) := by omega
      by_cases a2 : q < l.length
      · have b2 : (q : Int) < (l.length : Int) := by omega
        obtain ⟨a, ea, q1⟩ := (HA.out.keep HB.out) p a1
        subst ea
        obtain ⟨a', ea', q2⟩ := (HA.out.keep HB.out) q a2
        obtain rfl := Option.some.inj ea'
        by_cases he : nth l p = nth l q
        · have HS2 : Hid (lsS l (p + 1) (q + 1) = lsS l i k) := by
            unfold Hid
            rw [← HS.out, lsS_step a1 a2, if_pos he]
          rw [he] at q1
          generalize nth l q = x at *
          clear he
          go_upto_region 2 with fail
          go_quiet (fail)
          go_wp2
          go_roundw
          case rel => exact ⟨p + 1, q + 1, by go_num, by go_num, by omega, by omega, HS2, below_drewN HB.out _⟩
          case measure => simp [intOf]; omega
        · have HS2 : Hid (lsS l i k = decide (nth l p < nth l q)) := by
            unfold Hid
            rw [← HS.out, lsS_step a1 a2, if_neg he]
          have hx : (nth l p != nth l q) = true := by simpa using he
          clear HS he
          generalize nth l p = x at *
          generalize nth l q = y at *
          go_upto_region 2 with fail
          go_quiet (fail)
          go_upto_region 3 with fail
          go_quiet (fail)
          go_wp2
          go_ret
          exact ⟨by rw [HS2.out]; rfl, below_drewN HB.out _⟩
      · have b2 : ¬ (q : Int) < (l.length : Int) := by omega
        have b3 : ((p : Int) == (l.length : Int)) = false := by rw [beq_eq_false_iff_ne]; omega
        have HS2 : Hid (lsS l i k = false) := by
          unfold Hid
          rw [← HS.out, lsS_endK (by omega)]
        go_wp2
        go_ret
        exact ⟨by rw [HS2.out]; rfl, HB.out⟩
    · obtain rfl : p = l.length := by omega
      have HS2 : Hid (lsS l i k = decide (q < l.length)) := by
        unfold Hid
        rw [← HS.out, lsS_endI (Nat.le_refl _)]
      go_wp2
      go_ret
      exact ⟨by rw [HS2.out]; rfl, HB.out⟩
theorem cmp_none {l : List Int} {i k : Int} (h : i < 0 ∨ k < 0 ∨ (l.length : Int) ≤ i ∨ (l.length : Int) ≤ k ∨ i = k) : cmpS l i k = 0 := if_pos h

end Go.Proofs.YthhfkcmoncgknaaDoor
