/-
  The program takes the end of an input: the sum, and nothing behind it.
-/
import Derived.Test.YthfcimmfkibmjaaGreatDoorProg
import Derived.WalkKit
import Derived.WalkSpells
import Derived.WalkLawsBesides
import Derived.RowKit3
import Derived.Below
import Derived.Deep.QuietTactic
import Derived.BigQuiet
import Derived.WalkSmall
import Derived.Laws.Rows
import Derived.Test.YthfcimmfkibmjaaGreatDoorP20
namespace Go.Proofs.YthfcimmfkibmjaaGreatDoor
open Go.RowKit


theorem end_a {b : List Int} {p : Nat} (h : ¬ p + 4 ≤ b.length) : tEnd b ⟨p, 0, 0⟩ = ⟨p, 27, b.length⟩ := by
  unfold tEnd
  rw [four_no h, if_neg (by simp)]
theorem end_b {b : List Int} {p : Nat} (h : p + 4 < b.length) : tEnd b ⟨p, 0, 0⟩ = ⟨p + 4, 27, p + 4⟩ := by
  unfold tEnd
  rw [four_yes (by omega), if_pos rfl, if_pos h]
theorem end_c {b : List Int} {p : Nat} (h : p + 4 = b.length) (hs : ¬ v4 (b.drop p) = sumB (b.take p)) : tEnd b ⟨p, 0, 0⟩ = ⟨p + 4, 28, p⟩ := by
  unfold tEnd
  rw [four_yes (by omega), if_pos rfl, if_neg (by simp; omega), if_neg hs]
theorem end_d {b : List Int} {p : Nat} (h : p + 4 = b.length) (hs : v4 (b.drop p) = sumB (b.take p)) : tEnd b ⟨p, 0, 0⟩ = ⟨p + 4, 0, 0⟩ := by
  unfold tEnd
  rw [four_yes (by omega), if_pos rfl, if_neg (by simp; omega), if_pos hs]
theorem HB_drew {g : Nat} {w w1 : World} (h : But g w w1) (n : Nat) : But g w (w1.drewN n) := h
theorem ints_take {w : World} {A : Option Addr} {K : IntKind} {zs : List Int} (h : IntsAt w A K zs) (n : Nat) : IntsAt w A K (zs.take n) := fun i hi => by
  rw [List.length_take] at hi
  obtain ⟨a, e, q⟩ := h i (by omega)
  refine ⟨a, e, ?_⟩
  rw [q]
  simp [nth, List.getD, show i < n by omega]
set_option maxRecDepth 100000 in
set_option maxHeartbeats 1000000 in
theorem rend_any (w0 : World) (g : Nat) (A : Option Addr) (c : Nat) (b : List Int) (p : Nat) (w : World) (h : InBy w0 g A c b p w) :
    Calls Tryz.prog 108 #[.pointer (some ⟨g, 0, none⟩)] w (TakesE w0 g A c b (tEnd b ⟨p, 0, 0⟩) w) := by
  obtain ⟨c0, c1, f1⟩ := h.cells
  have C := take4_any w0 g A c b p w h
  have hl := h.len
  have hcap := h.cap
  by_cases hp : p + 4 ≤ b.length
  · rw [four_yes hp] at C
    by_cases hb : p + 4 < b.length
    · have HN : Hid _ := end_b hb
      have hbd : decide (((p + 4 : Nat) : Int) < (b.length : Int)) = true := decide_eq_true (by omega)
      go_enter Tryz.func108, Tryz.ntmps108
      go_wp2_with fail
      refine C.mono ?_
      intro r w1 hr
      obtain ⟨rfl, hi, hb1⟩ := hr.ok rfl
      clear hr C
      obtain ⟨d0, d1, _⟩ := hi.cells
      simp only at d0 d1
      go_wp2_with fail
      go_quiet (fail)
      go_wp2
      go_ret
      exact takesE_no ((HB_drew hb1 _)) (by rw [HN.out]) (by omega) (hi.drewN _)
    · have hpe : p + 4 = b.length := by omega
      have hbd : decide (((p + 4 : Nat) : Int) < (b.length : Int)) = false := decide_eq_false (by omega)
      have hlt : (b.take p).length = p := by simp; omega
      have CS := fun wx (hb : Below w0.heap.size w0 wx) => sum_any A c (b.take p) wx (ints_take (h.ints.keep hb) p) (h.areB.take p) (by omega)
      rw [hlt] at CS
      by_cases hs : v4 (b.drop p) = sumB (b.take p)
      · have HN : Hid _ := end_d hpe hs
        rw [hs] at C
        clear hs
        generalize sumB (b.take p) = S at *
        go_enter Tryz.func108, Tryz.ntmps108
        go_wp2_with fail
        refine C.mono ?_
        intro r w1 hr
        obtain ⟨rfl, hi, hb1⟩ := hr.ok rfl
        clear hr C
        obtain ⟨d0, d1, _⟩ := hi.cells
        simp only at d0 d1
        go_wp2_with fail
        go_quiet (fail)
        have hi2 := hi.drewN nq
        go_wp2_with (go_at_call 31; refine (CS _ hi2.below).mono ?_; rintro e w2 ⟨rfl, rfl⟩)
        go_ret
        exact takesE_yes ((HB_drew hb1 _)) (by rw [HN.out]) (hi.drewN _)
      · have HN : Hid _ := end_c hpe hs
        have hsb := bne_of hs
        clear hs
        generalize sumB (b.take p) = S at *
        generalize v4 (b.drop p) = V at *
        go_enter Tryz.func108, Tryz.ntmps108
        go_wp2_with fail
        refine C.mono ?_
        intro r w1 hr
        obtain ⟨rfl, hi, hb1⟩ := hr.ok rfl
        clear hr C
        obtain ⟨d0, d1, _⟩ := hi.cells
        simp only at d0 d1
        go_wp2_with fail
        go_quiet (fail)
        have hi2 := hi.drewN nq
        go_wp2_with (go_at_call 31; refine (CS _ hi2.below).mono ?_; rintro e w2 ⟨rfl, rfl⟩)
        go_ret
        exact takesE_no ((HB_drew hb1 _)) (by rw [HN.out]) (by omega) (hi.drewN _)
  · rw [four_no hp] at C
    have HN : Hid _ := end_a hp
    go_enter Tryz.func108, Tryz.ntmps108
    go_wp2_with fail
    refine C.mono ?_
    intro r w1 hr
    obtain ⟨_, q, rfl, rfl, hi, hb1⟩ := hr.err (by simp)
    clear hr C
    go_wp2
    go_ret
    exact takesE_no hb1 HN.out (by omega) hi

end Go.Proofs.YthfcimmfkibmjaaGreatDoor
