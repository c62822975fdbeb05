/-
  The program's Group keeps its contract.
-/
import Derived.Test.YtokhclindfipbaaGreatDoorProg
import Derived.WalkKit
import Derived.WalkSpells
import Derived.WalkLawsBesides
import Derived.RowKit3
import Derived.Below
import Derived.Deep.QuietTactic
import Derived.BigQuiet
import Derived.WalkSmall
import Derived.Laws.Rows
import Derived.Lib.MinMax
import Derived.OwnWalk
import Derived.Deep.RegionHeld3
import Derived.Test.YtokhclindfipbaaGreatDoorPa33
namespace Go.Proofs.YtokhclindfipbaaGreatDoor
open Go.RowKit

/-- What the closure reads. -/
structure WdA (w : World) (bp bn : Nat) (X : Addr) (c : Nat) (p : List Int) (n : Int) : Prop where
  fp : w.cell? ⟨bp, 0, none⟩ = some (.slice (some X) p.length c)
  fn : w.cell? ⟨bn, 0, none⟩ = some (.int .i64 n)
  row : ∀ j, j < p.length → w.cell? (X.add j) = some (.int .i64 (nth p j))
theorem WdA.keep {w w' : World} {bp bn : Nat} {X : Addr} {c : Nat} {p : List Int} {n : Int} (h : WdA w bp bn X c p n) (hb : Below w.heap.size w w') : WdA w' bp bn X c p n := ⟨lkeep hb h.fp, lkeep hb h.fn, fun j hj => lkeep hb (h.row j hj)⟩
set_option maxRecDepth 100000 in
set_option maxHeartbeats 4000000 in
/-- Down to where a number is less. -/
theorem down_any (bp bn : Nat) (X : Addr) (c : Nat) (p : List Int) (n : Int) (x : Nat) (w : World) (hw : WdA w bp bn X c p n) (hx : x < p.length) (hl : p.length ≤ 16384) :
    Calls Tryz.prog 90 #[.int .i64 (x : Int), .int .i64 (-1), .pointer (some ⟨bp, 0, none⟩), .pointer (some ⟨bn, 0, none⟩)] w fun e w' => e = .returned (.int .i64 ((grF p n x : Nat) : Int)) ∧ Below w.heap.size w w' := by
  have HA : Hid (WdA w bp bn X c p n) := hw
  clear hw
  go_enter Tryz.func90, Tryz.ntmps90
  go_wp2
  go_loopw [0] (fun v wr => ∃ (f m : Nat), v = .int .i64 (f : Int) ∧ f ≤ x ∧ Hid (grF p n f = grF p n x) ∧ wr = w.drewN m) (fun v _ => (intOf v).toNat)
  case atStart => exact ⟨x, 0, rfl, Nat.le_refl _, rfl, rfl⟩
  case round =>
    obtain ⟨f, m, rfl, hf, HF, rfl⟩ := hrel
    have cp := HA.out.fp
    have cn := HA.out.fn
    by_cases f0 : f = 0
    · subst f0
      have HF0 : Hid (grF p n x = 0) := HF.out.symm
      have g0 : ¬ (0 : Int) < 0 := by omega
      clear HF
      go_wp2_with fail
      go_quiet (fail)
      go_wp2
      go_ret
      exact ⟨by rw [HF0.out]; rfl, below_drewN (below_drewN (Below.refl _ _) _) _⟩
    · have g0 : (0 : Int) < (f : Int) := by omega
      have g00 : 0 < f := by omega
      have g1 : (f : Int) < (p.length : Int) := by omega
      have g11 : f < p.length := by omega
      have cj := HA.out.row f g11
      have e0 : grF p n f = if n ≤ nth p f then grF p n (f - 1) else f := by
        obtain ⟨f', rfl⟩ : ∃ f', f = f' + 1 := ⟨f - 1, by omega⟩
        rfl
      by_cases hv : n ≤ nth p f
      · rw [if_pos hv] at e0
        have HF2 : Hid (grF p n (f - 1) = grF p n x) := e0.symm.trans HF.out
        clear e0 HF
        generalize nth p f = v at *
        go_wp2_with fail
        go_quiet (fail)
        go_wp2
        go_roundw
        case rel => exact ⟨f - 1, _, by go_num, by omega, HF2, rfl⟩
        case measure => simp [intOf]; omega
      · rw [if_neg hv] at e0
        have HF2 : Hid (f = grF p n x) := e0.symm.trans HF.out
        clear e0 HF
        generalize nth p f = v at *
        go_wp2_with fail
        go_quiet (fail)
        go_wp2
        go_ret
        exact ⟨by rw [← HF2.out]; rfl, below_drewN (below_drewN (Below.refl _ _) _) _⟩
set_option maxRecDepth 100000 in
set_option maxHeartbeats 4000000 in
/-- Up to where a number is less, or to the end. -/
theorem up_any (bp bn : Nat) (X : Addr) (c : Nat) (p : List Int) (n : Int) (x : Nat) (w : World) (hw : WdA w bp bn X c p n) (hx : x < p.length) (hl : p.length ≤ 16384) :
    Calls Tryz.prog 90 #[.int .i64 ((x + 1 : Nat) : Int), .int .i64 1, .pointer (some ⟨bp, 0, none⟩), .pointer (some ⟨bn, 0, none⟩)] w fun e w' => e = .returned (.int .i64 ((grT p n (p.length - (x + 1)) (x + 1) : Nat) : Int)) ∧ Below w.heap.size w w' := by
  have HA : Hid (WdA w bp bn X c p n) := hw
  clear hw
  obtain ⟨y, hy⟩ : ∃ y, y = x + 1 := ⟨_, rfl⟩
  rw [← hy]
  go_enter Tryz.func90, Tryz.ntmps90
  go_wp2
  go_loopw [0] (fun v wr => ∃ (t m : Nat), v = .int .i64 (t : Int) ∧ 0 < t ∧ t ≤ p.length ∧ Hid (grT p n (p.length - t) t = grT p n (p.length - y) y) ∧ wr = w.drewN m) (fun v _ => p.length - (intOf v).toNat)
  case atStart => exact ⟨y, 0, rfl, by omega, by omega, rfl, rfl⟩
  case round =>
    obtain ⟨t, m, rfl, t0, ht, HT, rfl⟩ := hrel
    have cp := HA.out.fp
    have cn := HA.out.fn
    have g0 : (0 : Int) < (t : Int) := by omega
    by_cases t1 : t < p.length
    · have t1' : (t : Int) < (p.length : Int) := by omega
      have cj := HA.out.row t t1
      have e0 : grT p n (p.length - t) t = if n ≤ nth p t then grT p n (p.length - (t + 1)) (t + 1) else t := by
        rw [show p.length - t = (p.length - (t + 1)) + 1 by omega]; rfl
      by_cases hv : n ≤ nth p t
      · rw [if_pos hv] at e0
        have HT2 : Hid (grT p n (p.length - (t + 1)) (t + 1) = grT p n (p.length - y) y) := e0.symm.trans HT.out
        clear e0 HT
        generalize nth p t = v at *
        go_wp2_with fail
        go_quiet (fail)
        go_wp2
        go_roundw
        case rel => exact ⟨t + 1, _, by go_num, by omega, by omega, HT2, rfl⟩
        case measure => simp [intOf]; omega
      · rw [if_neg hv] at e0
        have HT2 : Hid (t = grT p n (p.length - y) y) := e0.symm.trans HT.out
        clear e0 HT
        generalize nth p t = v at *
        go_wp2_with fail
        go_quiet (fail)
        go_wp2
        go_ret
        exact ⟨by rw [← HT2.out]; rfl, below_drewN (below_drewN (Below.refl _ _) _) _⟩
    · obtain rfl : t = p.length := by omega
      have t1' : ¬ (p.length : Int) < (p.length : Int) := by omega
      have HT2 : Hid (p.length = grT p n (p.length - y) y) := by
        have := HT.out
        rw [Nat.sub_self] at this
        exact this
      go_wp2_with fail
      go_quiet (fail)
      go_wp2
      go_ret
      exact ⟨by rw [← HT2.out]; rfl, below_drewN (below_drewN (Below.refl _ _) _) _⟩
set_option maxRecDepth 100000 in
set_option maxHeartbeats 4000000 in
theorem groupOK : GroupOK := fun A c p i n w hA hl hi hn => by
  unfold GrR
  unfold Rng at hi hn
  have P1 := fun W => isplace_any A p.length c i W
  obtain ⟨X1, HX1⟩ : ∃ X, Hid (X = (w.alloc (.cells #[.slice A p.length c] 36)).alloc (.cells #[.int .i64 n] 3)) := ⟨_, rfl⟩
  have HB : Hid (Below w.heap.size w X1) := by unfold Hid; rw [HX1.out]; exact lb_alloc (lb_alloc (Below.refl _ _) _) _
  have c1 : X1.cell? ⟨w.heap.size, 0, none⟩ = some (.slice A p.length c) := by rw [HX1.out]; simp [go_sem]
  have c2 : X1.cell? ⟨w.heap.size + 1, 0, none⟩ = some (.int .i64 n) := by rw [HX1.out]; simp [go_sem]
  by_cases h1 : 0 ≤ i ∧ i < (p.length : Int)
  · rw [show decide (0 ≤ i ∧ i < (p.length : Int)) = true from decide_eq_true h1] at P1
    by_cases h2 : n < 0
    · have hb : i < 0 ∨ (p.length : Int) ≤ i ∨ n < 0 := by omega
      rw [show gpF p i n = 0 from if_pos hb, show gpT p i n = 0 from if_pos hb, show gpE p i n = 1 from if_pos hb]
      clear hA hb
      go_enter Tryz.func65, Tryz.ntmps65
      go_upto_region 1 with fail
      rw [← HX1.out]
      go_wp2_with (go_at_call 89; refine (P1 _).mono ?_; rintro e w1 ⟨rfl, rfl⟩)
      go_ret3
      exact ⟨rfl, HB.out⟩
    · obtain ⟨x, rfl⟩ : ∃ x : Nat, i = (x : Int) := ⟨i.toNat, by omega⟩
      have b1 : x < p.length := by omega
      obtain ⟨g1, g2, g3⟩ := gp_ok (p := p) (i := x) (L := n) b1 (by omega)
      rw [g1, g2, g3]
      obtain ⟨X, rfl, -⟩ := hA x b1
      have HW : Hid (WdA X1 w.heap.size (w.heap.size + 1) X c p n) := ⟨c1, c2, fun j hj => by
        obtain ⟨a, ea, q⟩ := hA j hj
        obtain rfl := Option.some.inj ea
        exact lkeep HB.out q⟩
      have C1 := down_any w.heap.size (w.heap.size + 1) X c p n x X1 HW.out b1 hl
      have C2 := fun W (h : Below X1.heap.size X1 W) => up_any w.heap.size (w.heap.size + 1) X c p n x W (HW.out.keep h) b1 hl
      generalize grF p n x = f at *
      generalize grT p n (p.length - (x + 1)) (x + 1) = t at *
      have w1 : IntKind.i64.wrap ((x : Int) + 1) = ((x + 1 : Nat) : Int) := by simp [IntKind.wrap, IntKind.bits, IntKind.signed]; omega
      obtain ⟨y, hy⟩ : ∃ y, y = x + 1 := ⟨_, rfl⟩
      rw [← hy] at C2 w1
      have w3 : (x : Int) + 1 = (y : Int) := by omega
      clear hA HW g1 g2 g3 hi hn h1 hy
      go_enter Tryz.func65, Tryz.ntmps65
      go_upto_region 1 with fail
      rw [← HX1.out]
      clear HX1
      go_upto_region 4 with (go_at_call 89; refine (P1 _).mono ?_; rintro e w1 ⟨rfl, hw⟩; rw [hw]; clear hw)
      go_wp2_with fail
      refine C1.mono ?_
      rintro e w5 ⟨rfl, hb5⟩
      go_wp2_with fail
      refine (C2 _ hb5).mono ?_
      rintro e w6 ⟨rfl, hb6⟩
      have HE : Hid (Below w.heap.size w w6) := lb_trans HB.out (lb_trans hb5 hb6)
      clear hb5 hb6 C1 C2
      go_wp2
      go_ret3
      exact ⟨rfl, HE.out⟩
  · rw [show decide (0 ≤ i ∧ i < (p.length : Int)) = false from decide_eq_false h1] at P1
    have hb : i < 0 ∨ (p.length : Int) ≤ i ∨ n < 0 := by omega
    rw [show gpF p i n = 0 from if_pos hb, show gpT p i n = 0 from if_pos hb, show gpE p i n = 1 from if_pos hb]
    clear hA hb
    go_enter Tryz.func65, Tryz.ntmps65
    go_upto_region 1 with fail
    rw [← HX1.out]
    go_wp2_with (go_at_call 89; refine (P1 _).mono ?_; rintro e w1 ⟨rfl, rfl⟩)
    go_ret3
    exact ⟨rfl, HB.out⟩



end Go.Proofs.YtokhclindfipbaaGreatDoor
