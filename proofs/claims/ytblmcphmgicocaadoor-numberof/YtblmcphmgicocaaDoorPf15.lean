/-
  The program: a set of one register, whether an instruction is a call, an instruction of a word; registers are 0 to 15, each word is of 32 bits.
-/
import Derived.Test.YtblmcphmgicocaaDoorProg
import Derived.WalkKit
import Derived.WalkSpells
import Derived.WalkLawsBesides
import Derived.RowKit3
import Derived.Below
import Derived.Deep.QuietTactic
import Derived.BigQuiet
import Derived.WalkSmall
import Derived.Laws.Rows
import Derived.Deep.RegionHeld3
import Derived.Test.YtblmcphmgicocaaDoorPf14
import Derived.Test.YtblmcphmgicocaaDoorPf11
namespace Go.Proofs.YtblmcphmgicocaaDoor
open Go.RowKit

theorem tbcell {W w1 : World} (hb : Below W.heap.size W w1) : (∀ b o, b < W.heap.size → w1.cell? ⟨b, o, none⟩ = W.cell? ⟨b, o, none⟩) ∧ (∀ b o, b < W.heap.size → w1.frozen? ⟨b, o, none⟩ = W.frozen? ⟨b, o, none⟩) :=
  ⟨fun b o h => hb.cell (p := ⟨b, o, none⟩) h, fun b o h => hb.frozen (p := ⟨b, o, none⟩) h⟩
set_option maxHeartbeats 2000000 in
theorem only_any (h : Bool) (r : Int) (h0 : 0 ≤ r) (h1 : r ≤ 15) (w : World) : Calls Tryd.prog 75 #[.bool h, .int .i8 r] w fun e w' => e = .returned (.int .u16 ((bitN h r : Nat) : Int)) ∧ w' = w := by
  cases h with
  | false =>
    go_enter Tryd.func75, Tryd.ntmps75
    go_wp2
    go_ret
    exact ⟨rfl, rfl⟩
  | true =>
    rcases (show r = 0 ∨ r = 1 ∨ r = 2 ∨ r = 3 ∨ r = 4 ∨ r = 5 ∨ r = 6 ∨ r = 7 ∨ r = 8 ∨ r = 9 ∨ r = 10 ∨ r = 11 ∨ r = 12 ∨ r = 13 ∨ r = 14 ∨ r = 15 by omega) with rfl | rfl | rfl | rfl | rfl | rfl | rfl | rfl | rfl | rfl | rfl | rfl | rfl | rfl | rfl | rfl
    all_goals (
      go_enter Tryd.func75, Tryd.ntmps75
      go_wp2
      go_ret
      exact ⟨rfl, rfl⟩)
set_option maxHeartbeats 2000000 in
theorem icalls_any (op dd da db dn : Int) (w : World) : Calls Tryd.prog 76 #[.agg #[.int .i8 op, .int .i8 dd, .int .i8 da, .int .i8 db, .int .i64 dn]] w fun e w' => e = .returned (.bool (cllB op)) ∧ Below w.heap.size w w' := by
  by_cases k1 : op = 17
  · subst k1
    go_enter Tryd.func76, Tryd.ntmps76
    go_wp2
    go_ret
    exact ⟨rfl, lb_alloc (Below.refl _ _) _⟩
  · by_cases k2 : op = 18
    · subst k2
      go_enter Tryd.func76, Tryd.ntmps76
      go_wp2
      go_ret
      exact ⟨rfl, lb_alloc (Below.refl _ _) _⟩
    · have o1 : (op == 17) = false := by rw [beq_eq_false_iff_ne]; exact k1
      have o2 : (op == 18) = false := by rw [beq_eq_false_iff_ne]; exact k2
      have HC : Hid (cllB op = false) := by unfold Hid cllB; rw [o1, o2]; rfl
      clear k1 k2
      go_enter Tryd.func76, Tryd.ntmps76
      go_wp2
      go_ret
      exact ⟨by rw [HC.out]; try rfl, lb_alloc (Below.refl _ _) _⟩
set_option maxHeartbeats 2000000 in
theorem decoded_any (v : Int) (h0 : 0 ≤ v) (h1 : v < 4294967296) (w : World) : Calls Tryd.prog 54 #[.int .u32 v] w fun e w' => e = .returned (.agg #[.int .i8 (dOp v), .int .i8 (dD v), .int .i8 (dA v), .int .i8 (dB v), .int .i64 (dN v)]) ∧ Below w.heap.size w w' := by
  have C := fun wx => isadecode_any v h0 h1 wx
  generalize dOp v = op at *
  generalize dD v = dd at *
  generalize dA v = da at *
  generalize dB v = db at *
  generalize dN v = dn at *
  go_enter Tryd.func54, Tryd.ntmps54
  go_wp2_with (go_at_call 58; refine (C _).mono ?_; rintro e w1 ⟨rfl, hb1⟩; obtain ⟨hc, hf⟩ := tbcell hb1; have hz : w.heap.size < w1.heap.size := by have := hb1.size; simp at this; omega)
  exact bodyPost_ret (v := .agg #[.int .i8 op, .int .i8 dd, .int .i8 da, .int .i8 db, .int .i64 dn]) (by simp [results, Tryd.results54, go_sem, hc]) rfl ⟨rfl, (((((lb_alloc (Below.refl _ _) _).trans (hb1.mono (by simp))).setCell (by simp) _).setCell (by simp) _).setCell (by simp) _ |>.setCell (by simp) _).setCell (by simp) _⟩



end Go.Proofs.YtblmcphmgicocaaDoor
