/-
  The places of a row.
-/
import Derived.Test.YtokhclindfipbaaGreatDoorProg
import Derived.WalkKit
import Derived.WalkSpells
import Derived.WalkLawsBesides
import Derived.RowKit3
import Derived.Below
import Derived.Deep.QuietTactic
import Derived.BigQuiet
import Derived.WalkSmall
import Derived.Laws.Rows
import Derived.OwnWalk
import Derived.Deep.RegionHeld3
import Derived.Test.YtokhclindfipbaaGreatDoorPa35
namespace Go.Proofs.YtokhclindfipbaaGreatDoor
open Go.RowKit

theorem GthP.up {T : List Nat} {w w1 w2 : World} {e : Ending} (h : GthP T w1 e w2) (hb : Below w.heap.size w w1) : GthP T w e w2 := by
  obtain ⟨O, c, h1, h2, h3⟩ := h
  exact ⟨O, c, h1, ownsRow_mono h2 hb.size, lb_trans hb h3⟩
set_option maxRecDepth 100000 in
set_option maxHeartbeats 8000000 in
theorem places_any (B : Nat) (A1 A2 A3 A4 : Option Addr) (c1 c2 c3 c4 : Nat) (nm : List Int) (en : Nat → Nat) (f n : Nat) (w : World) (h : RwS w B A1 A2 A3 A4 c1 c2 c3 c4 nm en) (he : EnP nm en) (hl : nm.length ≤ 2048) (hf : f < nm.length) (hn : n ≤ 1048576) :
    Calls Tryz.prog 29 #[.pointer (some ⟨B, 0, none⟩), .int .i64 (f : Int), .int .i64 (n : Int)] w (GthP (plcR nm en (snth (sufN nm) f) n) w) := by
  obtain ⟨X, hX⟩ : ∃ X, (w.alloc (.cells #[.pointer (some ⟨B, 0, none⟩)] 78)).alloc (.cells #[.int .i64 (n : Int)] 3) = X := ⟨_, rfl⟩
  have HB : Hid (Below w.heap.size w X) := by unfold Hid; rw [← hX]; exact lb_alloc (lb_alloc (Below.refl _ _) _) _
  have i0 : X.cell? ⟨w.heap.size, 0, none⟩ = some (.pointer (some ⟨B, 0, none⟩)) := by rw [← hX]; simp [go_sem]
  have i1 : X.cell? ⟨w.heap.size + 1, 0, none⟩ = some (.int .i64 (n : Int)) := by rw [← hX]; simp [go_sem]
  have HX : Hid _ := hX
  have hX1 := h.keep HB.out
  have HI : Hid (∀ W, Below X.heap.size X W → RwS W B A1 A2 A3 A4 c1 c2 c3 c4 nm en ∧ W.cell? ⟨w.heap.size, 0, none⟩ = some (.pointer (some ⟨B, 0, none⟩)) ∧ W.cell? ⟨w.heap.size + 1, 0, none⟩ = some (.int .i64 (n : Int)) ∧ W.cell? ⟨B, 0, none⟩ = some (.slice A1 nm.length c1) ∧ W.cell? ⟨B, 2, none⟩ = some (.slice A3 nm.length c3)) := fun W hb => ⟨hX1.keep hb, lkeep hb i0, lkeep hb i1, lkeep hb hX1.f1, lkeep hb hX1.f3⟩
  obtain ⟨g1, g2, g3⟩ := gp_ok (p := cpA nm) (i := f) (L := (n : Int)) (by rw [cpA_len]; exact hf) (by omega)
  obtain ⟨e1, e2, e3⟩ := frto nm (n := n) hf
  obtain ⟨fr, hfr⟩ : ∃ fr, fr = frN nm f n := ⟨_, rfl⟩
  obtain ⟨tt, hto⟩ : ∃ tt, tt = toN nm f n := ⟨_, rfl⟩
  have HCG : Hid (∀ W, Below X.heap.size X W → Calls Tryz.prog 65 #[.slice A3 nm.length c3, .int .i64 (f : Int), .int .i64 (n : Int)] W (GrR (fr : Int) (tt : Int) 0 W)) := fun W hb => by
    have CG := groupOK A3 c3 (cpA nm) (f : Int) (n : Int) W (hX1.keep hb).r3 (by rw [cpA_len]; omega) (by unfold Rng; omega) (by unfold Rng; omega)
    rw [g1, g2, g3, cpA_len] at CG
    rw [show grF (cpA nm) (n : Int) f = fr from hfr.symm, show grT (cpA nm) (n : Int) (nm.length - (f + 1)) (f + 1) = tt from hto.symm] at CG
    exact CG
  rw [← hto] at e2 e3
  rw [← hfr] at e1
  have hT := gatN_sort he (n := n) hf
  rw [← hfr, ← hto] at hT
  have HT : Hid _ := hT
  obtain ⟨Y, hY, -⟩ := hX1.r1 f (by rw [sufL_len]; exact hf)
  subst hY
  have hcut := fun W => cut_runM Y nm.length c1 fr tt (by omega) e3 h.le W
  have HGA : Hid (∀ W, Below X.heap.size X W → Calls Tryz.prog 66 #[.slice (some (Y.add fr)) (tt - fr) (c1 - fr), .func (.func 67) #[] #[.pointer (some ⟨w.heap.size, 0, none⟩), .pointer (some ⟨w.heap.size + 1, 0, none⟩)]] W (GthP (plcR nm en (snth (sufN nm) f) n) W)) := fun W hb => by
    obtain ⟨q1, q2, q3, -, -⟩ := HI.out W hb
    refine gath_any w.heap.size (w.heap.size + 1) B (some (Y.add fr)) (c1 - fr) (some Y) A2 A3 A4 c1 c2 c3 c4 nm en fr tt n W q1 he (by omega) q2 q3 (by omega) e3 (fun j hj => ⟨_, rfl, ?_⟩) _ HT.out
    obtain ⟨Z, ez, hz⟩ := q1.r1 (fr + j) (by rw [sufL_len]; omega)
    cases ez
    rw [add_addM, hz, sufL_nth (by omega)]
  have b1 : (fr : Int) ≤ (tt : Int) := by omega
  have b2 : (tt : Int) ≤ (nm.length : Int) := by omega
  obtain ⟨-, -, -, j0, j2⟩ := HI.out X (Below.refl _ _)
  clear h he hX hX1 g1 g2 g3 hT HT hfr hto hf hn
  generalize plcR nm en (snth (sufN nm) f) n = T at *
  go_enter Tryz.func29, Tryz.ntmps29
  go_upto_region 1 with fail
  rw [HX.out]
  clear HX
  have BX : Below X.heap.size X X.drew := (Below.refl _ _).drew
  go_region_held3 (fun W => Below X.heap.size X W ∧ W.cell? ⟨w.heap.size, 0, none⟩ = some (.pointer (some ⟨B, 0, none⟩)) ∧ W.cell? ⟨w.heap.size + 1, 0, none⟩ = some (.int .i64 (n : Int)) ∧ W.cell? ⟨B, 2, none⟩ = some (.slice A3 nm.length c3)) (first | exact ⟨Below.refl _ _, i0, i1, j2⟩ | exact ⟨lb_trans BX hb2, (HI.out _ (lb_trans BX hb2)).2.1, (HI.out _ (lb_trans BX hb2)).2.2.1, (HI.out _ (lb_trans BX hb2)).2.2.2.2⟩ | exact ⟨BX, (HI.out _ BX).2.1, (HI.out _ BX).2.2.1, (HI.out _ BX).2.2.2.2⟩) (first | (go_at_call 65; refine (HCG.out _ BX).mono ?_; rintro e w1 ⟨rfl, hb2⟩))
  have HB1 : Hid (Below X.heap.size X w1) := lb_trans BX hb2
  obtain ⟨-, k0, k1, kB, -⟩ := HI.out w1 HB1.out
  have CT := HGA.out w1 HB1.out
  have HBw : Hid (Below w.heap.size w w1) := lb_trans HB.out HB1.out
  clear hb2 i0 i1 j0 j2 BX HI HGA HCG HB
  go_wp2_with (go_at_call 66; refine CT.mono ?_; rintro e w2 ⟨O, c, rfl, hr2, hb2⟩; have HR2 : Hid _ := hr2; have HB2 : Hid (Below w1.heap.size w1 w2) := hb2; clear hr2 hb2)
  go_ret
  exact ⟨O, c, rfl, ownsRow_mono HR2.out HBw.out.size, lb_trans HBw.out HB2.out⟩


end Go.Proofs.YtokhclindfipbaaGreatDoor
