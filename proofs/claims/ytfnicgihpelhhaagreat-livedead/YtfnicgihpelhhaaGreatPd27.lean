/-
  The program's machine: an instruction done (1).
-/
import Derived.Test.YtfnicgihpelhhaaGreatProg
import Derived.WalkKit
import Derived.WalkSpells
import Derived.WalkLawsBesides
import Derived.RowKit3
import Derived.Below
import Derived.Deep.QuietTactic
import Derived.BigQuiet
import Derived.WalkSmall
import Derived.Laws.Rows
import Derived.Deep.RegionHeld3
import Derived.Laws.Pointers
import Derived.Outline
import Derived.StillTactics
import Derived.Test.YtfnicgihpelhhaaGreatPd26
namespace Go.Proofs.YtfnicgihpelhhaaGreat
open Go.RowKit

section
variable {w : World} {base P : Nat} {s : Loc} {m : Mach}

set_option maxHeartbeats 2000000 in
theorem do_trap (h : PAt w base P s m) {op d a b n : Int} {r : Did} (ho : ¬ op < 0) (hidx : ∀ W : World, (Instr.index 143 (.agg deV) (.int .i8 op)).run Tryz.prog W = .ok (.func (.func 95) #[] #[]) W)
    (C : ∀ W : World, PAt W base P s m → Calls Tryz.prog 95 #[.pointer (some ⟨P, 0, none⟩), .agg #[.int .i8 op, .int .i8 d, .int .i8 a, .int .i8 b, .int .i64 n]] W (DidP W base P s m r)) : Calls Tryz.prog 65 #[.pointer (some ⟨P, 0, none⟩), .agg #[.int .i8 op, .int .i8 d, .int .i8 a, .int .i8 b, .int .i64 n]] w (DidP w base P s m r) := by
  have C1 := deeds_any
  obtain ⟨W0, HW⟩ : ∃ W0, Hid (w.alloc (.cells #[.int .i8 op, .int .i8 d, .int .i8 a, .int .i8 b, .int .i64 n] 50) = W0) := ⟨_, rfl⟩
  have x0 : W0.cell? ⟨w.heap.size, 0, none⟩ = some (.int .i8 op) := by rw [← HW.out]; simp [go_sem]
  have x1 : W0.cell? ⟨w.heap.size, 1, none⟩ = some (.int .i8 d) := by rw [← HW.out]; simp [go_sem]
  have x2 : W0.cell? ⟨w.heap.size, 2, none⟩ = some (.int .i8 a) := by rw [← HW.out]; simp [go_sem]
  have x3 : W0.cell? ⟨w.heap.size, 3, none⟩ = some (.int .i8 b) := by rw [← HW.out]; simp [go_sem]
  have x4 : W0.cell? ⟨w.heap.size, 4, none⟩ = some (.int .i64 n) := by rw [← HW.out]; simp [go_sem]
  have h0 : PAt W0 base P s m := by rw [← HW.out]; exact h.alloc _
  have HB0 : Hid (Below w.heap.size w W0) := by unfold Hid; rw [← HW.out]; exact lb_alloc (Below.refl _ _) _
  have hz0 : w.heap.size < W0.heap.size := by rw [← HW.out]; simp
  have hP := h.lt
  have hWW := Below.refl W0.heap.size W0
  have hFB : ¬ Foot s P w.heap.size := fun hb => Nat.lt_irrefl _ (h.foot hb).2
  clear hWW
  by_cases hr : r.err = 0
  · have C2 : ∀ W : World, PAt W base P s m → Calls Tryz.prog 95 #[.pointer (some ⟨P, 0, none⟩), .agg #[.int .i8 op, .int .i8 d, .int .i8 a, .int .i8 b, .int .i64 n]] W fun e w' => e = .returned (.int .i64 r.to) ∧ DoneP W base P s r w' := fun W hW => (C W hW).mono fun e w' k => k.elim (fun k => absurd hr k.1) (fun k => k.2)
    have HR : Hid _ := hr
    clear C hr
    have hU0 := Upto.refl (Foot s P) W0
    go_enter Tryz.func65, Tryz.ntmps65
    go_upto_region 3 with fail
    rw [HW.out]
    clear HW h
    go_region_held3 (fun W => Upto (Foot s P) W0 W ∧ W.cell? ⟨w.heap.size, 0, none⟩ = some (.int .i8 op) ∧ W.cell? ⟨w.heap.size, 1, none⟩ = some (.int .i8 d) ∧ W.cell? ⟨w.heap.size, 2, none⟩ = some (.int .i8 a) ∧ W.cell? ⟨w.heap.size, 3, none⟩ = some (.int .i8 b) ∧ W.cell? ⟨w.heap.size, 4, none⟩ = some (.int .i64 n))
      (first | exact ⟨hU2, upto_cell hU2 hFB x0, upto_cell hU2 hFB x1, upto_cell hU2 hFB x2, upto_cell hU2 hFB x3, upto_cell hU2 hFB x4⟩ | exact ⟨hU2.drew, upto_cell hU2.drew hFB x0, upto_cell hU2.drew hFB x1, upto_cell hU2.drew hFB x2, upto_cell hU2.drew hFB x3, upto_cell hU2.drew hFB x4⟩ | exact ⟨hU1, upto_cell hU1 hFB x0, upto_cell hU1 hFB x1, upto_cell hU1 hFB x2, upto_cell hU1 hFB x3, upto_cell hU1 hFB x4⟩ | exact ⟨hU1.drew, upto_cell hU1.drew hFB x0, upto_cell hU1.drew hFB x1, upto_cell hU1.drew hFB x2, upto_cell hU1.drew hFB x3, upto_cell hU1.drew hFB x4⟩ | exact ⟨hU0, upto_cell hU0 hFB x0, upto_cell hU0 hFB x1, upto_cell hU0 hFB x2, upto_cell hU0 hFB x3, upto_cell hU0 hFB x4⟩ | exact ⟨hU0.drew, upto_cell hU0.drew hFB x0, upto_cell hU0.drew hFB x1, upto_cell hU0.drew hFB x2, upto_cell hU0.drew hFB x3, upto_cell hU0.drew hFB x4⟩)
      (first
        | (go_at_call 85; refine (C1 _).mono ?_; rintro e w1 ⟨rfl, hb⟩; have h1 : PAt w1 base P s m := PAt.keep (by first | exact h0 | exact h0.drew) hb; have hU1 : Upto (Foot s P) W0 w1 := Upto.trans (by first | exact hU0 | exact hU0.drew) (Upto.of hb); clear hb)
        | (go_at_call 95; refine (C2 _ (by first | exact h1 | exact h1.drew)).mono ?_; rintro e w2 ⟨rfl, HQ⟩; have hU2 : Upto (Foot s P) W0 w2 := Upto.trans (by first | exact hU1 | exact hU1.drew) HQ.up))
    all_goals (
      rename_i hS
      clear hS
      go_wp2_with fail
      go_ret
      exact done_did HR.out HB0.out (DoneP.on (by first | exact hU1 | exact hU1.drew) HQ))
  · have C2 : ∀ W : World, PAt W base P s m → Calls Tryz.prog 95 #[.pointer (some ⟨P, 0, none⟩), .agg #[.int .i8 op, .int .i8 d, .int .i8 a, .int .i8 b, .int .i64 n]] W fun e w' => e = .panicked [{ v := .iface 113 (.int .i8 r.err), recovered := false }] ∧ Below W.heap.size W w' := fun W hW => (C W hW).mono fun e w' k => k.elim (fun k => k.2) (fun k => absurd k.1 hr)
    have HR : Hid _ := hr
    clear C hr
    go_enter Tryz.func65, Tryz.ntmps65
    go_upto_region 3 with fail
    rw [HW.out]
    clear HW h
    go_region_law (first
      | (go_simp; go_at_call 85; refine (C1 _).mono ?_; rintro e w1 ⟨rfl, hb⟩; have h1 : PAt w1 base P s m := PAt.keep (by first | exact h0 | exact h0.drew) hb; have HB1 : Hid (Below W0.heap.size W0 w1) := lb_trans (Below.drew (Below.refl _ _)) hb; have y0 : w1.cell? ⟨w.heap.size, 0, none⟩ = some (.int .i8 op) := lkeep hb x0; have y1 : w1.cell? ⟨w.heap.size, 1, none⟩ = some (.int .i8 d) := lkeep hb x1; have y2 : w1.cell? ⟨w.heap.size, 2, none⟩ = some (.int .i8 a) := lkeep hb x2; have y3 : w1.cell? ⟨w.heap.size, 3, none⟩ = some (.int .i8 b) := lkeep hb x3; have y4 : w1.cell? ⟨w.heap.size, 4, none⟩ = some (.int .i64 n) := lkeep hb x4; clear hb)
      | (go_simp; go_at_call 95; refine (C2 _ h1).mono ?_; rintro e w2 ⟨rfl, hb⟩; refine by_stop ⟨rfl, .inl ⟨HR.out, rfl, lb_trans HB0.out (lb_trans HB1.out hb)⟩⟩ w2 ?_))
    all_goals trivial

set_option maxHeartbeats 2000000 in
theorem do_set (h : PAt w base P s m) {op d a b n : Int} {r : Did} (ho : ¬ op < 0) (hidx : ∀ W : World, (Instr.index 143 (.agg deV) (.int .i8 op)).run Tryz.prog W = .ok (.func (.func 96) #[] #[]) W)
    (C : ∀ W : World, PAt W base P s m → Calls Tryz.prog 96 #[.pointer (some ⟨P, 0, none⟩), .agg #[.int .i8 op, .int .i8 d, .int .i8 a, .int .i8 b, .int .i64 n]] W (DidP W base P s m r)) : Calls Tryz.prog 65 #[.pointer (some ⟨P, 0, none⟩), .agg #[.int .i8 op, .int .i8 d, .int .i8 a, .int .i8 b, .int .i64 n]] w (DidP w base P s m r) := by
  have C1 := deeds_any
  obtain ⟨W0, HW⟩ : ∃ W0, Hid (w.alloc (.cells #[.int .i8 op, .int .i8 d, .int .i8 a, .int .i8 b, .int .i64 n] 50) = W0) := ⟨_, rfl⟩
  have x0 : W0.cell? ⟨w.heap.size, 0, none⟩ = some (.int .i8 op) := by rw [← HW.out]; simp [go_sem]
  have x1 : W0.cell? ⟨w.heap.size, 1, none⟩ = some (.int .i8 d) := by rw [← HW.out]; simp [go_sem]
  have x2 : W0.cell? ⟨w.heap.size, 2, none⟩ = some (.int .i8 a) := by rw [← HW.out]; simp [go_sem]
  have x3 : W0.cell? ⟨w.heap.size, 3, none⟩ = some (.int .i8 b) := by rw [← HW.out]; simp [go_sem]
  have x4 : W0.cell? ⟨w.heap.size, 4, none⟩ = some (.int .i64 n) := by rw [← HW.out]; simp [go_sem]
  have h0 : PAt W0 base P s m := by rw [← HW.out]; exact h.alloc _
  have HB0 : Hid (Below w.heap.size w W0) := by unfold Hid; rw [← HW.out]; exact lb_alloc (Below.refl _ _) _
  have hz0 : w.heap.size < W0.heap.size := by rw [← HW.out]; simp
  have hP := h.lt
  have hWW := Below.refl W0.heap.size W0
  have hFB : ¬ Foot s P w.heap.size := fun hb => Nat.lt_irrefl _ (h.foot hb).2
  clear hWW
  by_cases hr : r.err = 0
  · have C2 : ∀ W : World, PAt W base P s m → Calls Tryz.prog 96 #[.pointer (some ⟨P, 0, none⟩), .agg #[.int .i8 op, .int .i8 d, .int .i8 a, .int .i8 b, .int .i64 n]] W fun e w' => e = .returned (.int .i64 r.to) ∧ DoneP W base P s r w' := fun W hW => (C W hW).mono fun e w' k => k.elim (fun k => absurd hr k.1) (fun k => k.2)
    have HR : Hid _ := hr
    clear C hr
    have hU0 := Upto.refl (Foot s P) W0
    go_enter Tryz.func65, Tryz.ntmps65
    go_upto_region 3 with fail
    rw [HW.out]
    clear HW h
    go_region_held3 (fun W => Upto (Foot s P) W0 W ∧ W.cell? ⟨w.heap.size, 0, none⟩ = some (.int .i8 op) ∧ W.cell? ⟨w.heap.size, 1, none⟩ = some (.int .i8 d) ∧ W.cell? ⟨w.heap.size, 2, none⟩ = some (.int .i8 a) ∧ W.cell? ⟨w.heap.size, 3, none⟩ = some (.int .i8 b) ∧ W.cell? ⟨w.heap.size, 4, none⟩ = some (.int .i64 n))
      (first | exact ⟨hU2, upto_cell hU2 hFB x0, upto_cell hU2 hFB x1, upto_cell hU2 hFB x2, upto_cell hU2 hFB x3, upto_cell hU2 hFB x4⟩ | exact ⟨hU2.drew, upto_cell hU2.drew hFB x0, upto_cell hU2.drew hFB x1, upto_cell hU2.drew hFB x2, upto_cell hU2.drew hFB x3, upto_cell hU2.drew hFB x4⟩ | exact ⟨hU1, upto_cell hU1 hFB x0, upto_cell hU1 hFB x1, upto_cell hU1 hFB x2, upto_cell hU1 hFB x3, upto_cell hU1 hFB x4⟩ | exact ⟨hU1.drew, upto_cell hU1.drew hFB x0, upto_cell hU1.drew hFB x1, upto_cell hU1.drew hFB x2, upto_cell hU1.drew hFB x3, upto_cell hU1.drew hFB x4⟩ | exact ⟨hU0, upto_cell hU0 hFB x0, upto_cell hU0 hFB x1, upto_cell hU0 hFB x2, upto_cell hU0 hFB x3, upto_cell hU0 hFB x4⟩ | exact ⟨hU0.drew, upto_cell hU0.drew hFB x0, upto_cell hU0.drew hFB x1, upto_cell hU0.drew hFB x2, upto_cell hU0.drew hFB x3, upto_cell hU0.drew hFB x4⟩)
      (first
        | (go_at_call 85; refine (C1 _).mono ?_; rintro e w1 ⟨rfl, hb⟩; have h1 : PAt w1 base P s m := PAt.keep (by first | exact h0 | exact h0.drew) hb; have hU1 : Upto (Foot s P) W0 w1 := Upto.trans (by first | exact hU0 | exact hU0.drew) (Upto.of hb); clear hb)
        | (go_at_call 96; refine (C2 _ (by first | exact h1 | exact h1.drew)).mono ?_; rintro e w2 ⟨rfl, HQ⟩; have hU2 : Upto (Foot s P) W0 w2 := Upto.trans (by first | exact hU1 | exact hU1.drew) HQ.up))
    all_goals (
      rename_i hS
      clear hS
      go_wp2_with fail
      go_ret
      exact done_did HR.out HB0.out (DoneP.on (by first | exact hU1 | exact hU1.drew) HQ))
  · have C2 : ∀ W : World, PAt W base P s m → Calls Tryz.prog 96 #[.pointer (some ⟨P, 0, none⟩), .agg #[.int .i8 op, .int .i8 d, .int .i8 a, .int .i8 b, .int .i64 n]] W fun e w' => e = .panicked [{ v := .iface 113 (.int .i8 r.err), recovered := false }] ∧ Below W.heap.size W w' := fun W hW => (C W hW).mono fun e w' k => k.elim (fun k => k.2) (fun k => absurd k.1 hr)
    have HR : Hid _ := hr
    clear C hr
    go_enter Tryz.func65, Tryz.ntmps65
    go_upto_region 3 with fail
    rw [HW.out]
    clear HW h
    go_region_law (first
      | (go_simp; go_at_call 85; refine (C1 _).mono ?_; rintro e w1 ⟨rfl, hb⟩; have h1 : PAt w1 base P s m := PAt.keep (by first | exact h0 | exact h0.drew) hb; have HB1 : Hid (Below W0.heap.size W0 w1) := lb_trans (Below.drew (Below.refl _ _)) hb; have y0 : w1.cell? ⟨w.heap.size, 0, none⟩ = some (.int .i8 op) := lkeep hb x0; have y1 : w1.cell? ⟨w.heap.size, 1, none⟩ = some (.int .i8 d) := lkeep hb x1; have y2 : w1.cell? ⟨w.heap.size, 2, none⟩ = some (.int .i8 a) := lkeep hb x2; have y3 : w1.cell? ⟨w.heap.size, 3, none⟩ = some (.int .i8 b) := lkeep hb x3; have y4 : w1.cell? ⟨w.heap.size, 4, none⟩ = some (.int .i64 n) := lkeep hb x4; clear hb)
      | (go_simp; go_at_call 96; refine (C2 _ h1).mono ?_; rintro e w2 ⟨rfl, hb⟩; refine by_stop ⟨rfl, .inl ⟨HR.out, rfl, lb_trans HB0.out (lb_trans HB1.out hb)⟩⟩ w2 ?_))
    all_goals trivial

set_option maxHeartbeats 2000000 in
theorem do_move (h : PAt w base P s m) {op d a b n : Int} {r : Did} (ho : ¬ op < 0) (hidx : ∀ W : World, (Instr.index 143 (.agg deV) (.int .i8 op)).run Tryz.prog W = .ok (.func (.func 97) #[] #[]) W)
    (C : ∀ W : World, PAt W base P s m → Calls Tryz.prog 97 #[.pointer (some ⟨P, 0, none⟩), .agg #[.int .i8 op, .int .i8 d, .int .i8 a, .int .i8 b, .int .i64 n]] W (DidP W base P s m r)) : Calls Tryz.prog 65 #[.pointer (some ⟨P, 0, none⟩), .agg #[.int .i8 op, .int .i8 d, .int .i8 a, .int .i8 b, .int .i64 n]] w (DidP w base P s m r) := by
  have C1 := deeds_any
  obtain ⟨W0, HW⟩ : ∃ W0, Hid (w.alloc (.cells #[.int .i8 op, .int .i8 d, .int .i8 a, .int .i8 b, .int .i64 n] 50) = W0) := ⟨_, rfl⟩
  have x0 : W0.cell? ⟨w.heap.size, 0, none⟩ = some (.int .i8 op) := by rw [← HW.out]; simp [go_sem]
  have x1 : W0.cell? ⟨w.heap.size, 1, none⟩ = some (.int .i8 d) := by rw [← HW.out]; simp [go_sem]
  have x2 : W0.cell? ⟨w.heap.size, 2, none⟩ = some (.int .i8 a) := by rw [← HW.out]; simp [go_sem]
  have x3 : W0.cell? ⟨w.heap.size, 3, none⟩ = some (.int .i8 b) := by rw [← HW.out]; simp [go_sem]
  have x4 : W0.cell? ⟨w.heap.size, 4, none⟩ = some (.int .i64 n) := by rw [← HW.out]; simp [go_sem]
  have h0 : PAt W0 base P s m := by rw [← HW.out]; exact h.alloc _
  have HB0 : Hid (Below w.heap.size w W0) := by unfold Hid; rw [← HW.out]; exact lb_alloc (Below.refl _ _) _
  have hz0 : w.heap.size < W0.heap.size := by rw [← HW.out]; simp
  have hP := h.lt
  have hWW := Below.refl W0.heap.size W0
  have hFB : ¬ Foot s P w.heap.size := fun hb => Nat.lt_irrefl _ (h.foot hb).2
  clear hWW
  by_cases hr : r.err = 0
  · have C2 : ∀ W : World, PAt W base P s m → Calls Tryz.prog 97 #[.pointer (some ⟨P, 0, none⟩), .agg #[.int .i8 op, .int .i8 d, .int .i8 a, .int .i8 b, .int .i64 n]] W fun e w' => e = .returned (.int .i64 r.to) ∧ DoneP W base P s r w' := fun W hW => (C W hW).mono fun e w' k => k.elim (fun k => absurd hr k.1) (fun k => k.2)
    have HR : Hid _ := hr
    clear C hr
    have hU0 := Upto.refl (Foot s P) W0
    go_enter Tryz.func65, Tryz.ntmps65
    go_upto_region 3 with fail
    rw [HW.out]
    clear HW h
    go_region_held3 (fun W => Upto (Foot s P) W0 W ∧ W.cell? ⟨w.heap.size, 0, none⟩ = some (.int .i8 op) ∧ W.cell? ⟨w.heap.size, 1, none⟩ = some (.int .i8 d) ∧ W.cell? ⟨w.heap.size, 2, none⟩ = some (.int .i8 a) ∧ W.cell? ⟨w.heap.size, 3, none⟩ = some (.int .i8 b) ∧ W.cell? ⟨w.heap.size, 4, none⟩ = some (.int .i64 n))
      (first | exact ⟨hU2, upto_cell hU2 hFB x0, upto_cell hU2 hFB x1, upto_cell hU2 hFB x2, upto_cell hU2 hFB x3, upto_cell hU2 hFB x4⟩ | exact ⟨hU2.drew, upto_cell hU2.drew hFB x0, upto_cell hU2.drew hFB x1, upto_cell hU2.drew hFB x2, upto_cell hU2.drew hFB x3, upto_cell hU2.drew hFB x4⟩ | exact ⟨hU1, upto_cell hU1 hFB x0, upto_cell hU1 hFB x1, upto_cell hU1 hFB x2, upto_cell hU1 hFB x3, upto_cell hU1 hFB x4⟩ | exact ⟨hU1.drew, upto_cell hU1.drew hFB x0, upto_cell hU1.drew hFB x1, upto_cell hU1.drew hFB x2, upto_cell hU1.drew hFB x3, upto_cell hU1.drew hFB x4⟩ | exact ⟨hU0, upto_cell hU0 hFB x0, upto_cell hU0 hFB x1, upto_cell hU0 hFB x2, upto_cell hU0 hFB x3, upto_cell hU0 hFB x4⟩ | exact ⟨hU0.drew, upto_cell hU0.drew hFB x0, upto_cell hU0.drew hFB x1, upto_cell hU0.drew hFB x2, upto_cell hU0.drew hFB x3, upto_cell hU0.drew hFB x4⟩)
      (first
        | (go_at_call 85; refine (C1 _).mono ?_; rintro e w1 ⟨rfl, hb⟩; have h1 : PAt w1 base P s m := PAt.keep (by first | exact h0 | exact h0.drew) hb; have hU1 : Upto (Foot s P) W0 w1 := Upto.trans (by first | exact hU0 | exact hU0.drew) (Upto.of hb); clear hb)
        | (go_at_call 97; refine (C2 _ (by first | exact h1 | exact h1.drew)).mono ?_; rintro e w2 ⟨rfl, HQ⟩; have hU2 : Upto (Foot s P) W0 w2 := Upto.trans (by first | exact hU1 | exact hU1.drew) HQ.up))
    all_goals (
      rename_i hS
      clear hS
      go_wp2_with fail
      go_ret
      exact done_did HR.out HB0.out (DoneP.on (by first | exact hU1 | exact hU1.drew) HQ))
  · have C2 : ∀ W : World, PAt W base P s m → Calls Tryz.prog 97 #[.pointer (some ⟨P, 0, none⟩), .agg #[.int .i8 op, .int .i8 d, .int .i8 a, .int .i8 b, .int .i64 n]] W fun e w' => e = .panicked [{ v := .iface 113 (.int .i8 r.err), recovered := false }] ∧ Below W.heap.size W w' := fun W hW => (C W hW).mono fun e w' k => k.elim (fun k => k.2) (fun k => absurd k.1 hr)
    have HR : Hid _ := hr
    clear C hr
    go_enter Tryz.func65, Tryz.ntmps65
    go_upto_region 3 with fail
    rw [HW.out]
    clear HW h
    go_region_law (first
      | (go_simp; go_at_call 85; refine (C1 _).mono ?_; rintro e w1 ⟨rfl, hb⟩; have h1 : PAt w1 base P s m := PAt.keep (by first | exact h0 | exact h0.drew) hb; have HB1 : Hid (Below W0.heap.size W0 w1) := lb_trans (Below.drew (Below.refl _ _)) hb; have y0 : w1.cell? ⟨w.heap.size, 0, none⟩ = some (.int .i8 op) := lkeep hb x0; have y1 : w1.cell? ⟨w.heap.size, 1, none⟩ = some (.int .i8 d) := lkeep hb x1; have y2 : w1.cell? ⟨w.heap.size, 2, none⟩ = some (.int .i8 a) := lkeep hb x2; have y3 : w1.cell? ⟨w.heap.size, 3, none⟩ = some (.int .i8 b) := lkeep hb x3; have y4 : w1.cell? ⟨w.heap.size, 4, none⟩ = some (.int .i64 n) := lkeep hb x4; clear hb)
      | (go_simp; go_at_call 97; refine (C2 _ h1).mono ?_; rintro e w2 ⟨rfl, hb⟩; refine by_stop ⟨rfl, .inl ⟨HR.out, rfl, lb_trans HB0.out (lb_trans HB1.out hb)⟩⟩ w2 ?_))
    all_goals trivial

set_option maxHeartbeats 2000000 in
theorem do_calc (h : PAt w base P s m) {op d a b n : Int} {r : Did} (ho : ¬ op < 0) (hidx : ∀ W : World, (Instr.index 143 (.agg deV) (.int .i8 op)).run Tryz.prog W = .ok (.func (.func 98) #[] #[]) W)
    (C : ∀ W : World, PAt W base P s m → Calls Tryz.prog 98 #[.pointer (some ⟨P, 0, none⟩), .agg #[.int .i8 op, .int .i8 d, .int .i8 a, .int .i8 b, .int .i64 n]] W (DidP W base P s m r)) : Calls Tryz.prog 65 #[.pointer (some ⟨P, 0, none⟩), .agg #[.int .i8 op, .int .i8 d, .int .i8 a, .int .i8 b, .int .i64 n]] w (DidP w base P s m r) := by
  have C1 := deeds_any
  obtain ⟨W0, HW⟩ : ∃ W0, Hid (w.alloc (.cells #[.int .i8 op, .int .i8 d, .int .i8 a, .int .i8 b, .int .i64 n] 50) = W0) := ⟨_, rfl⟩
  have x0 : W0.cell? ⟨w.heap.size, 0, none⟩ = some (.int .i8 op) := by rw [← HW.out]; simp [go_sem]
  have x1 : W0.cell? ⟨w.heap.size, 1, none⟩ = some (.int .i8 d) := by rw [← HW.out]; simp [go_sem]
  have x2 : W0.cell? ⟨w.heap.size, 2, none⟩ = some (.int .i8 a) := by rw [← HW.out]; simp [go_sem]
  have x3 : W0.cell? ⟨w.heap.size, 3, none⟩ = some (.int .i8 b) := by rw [← HW.out]; simp [go_sem]
  have x4 : W0.cell? ⟨w.heap.size, 4, none⟩ = some (.int .i64 n) := by rw [← HW.out]; simp [go_sem]
  have h0 : PAt W0 base P s m := by rw [← HW.out]; exact h.alloc _
  have HB0 : Hid (Below w.heap.size w W0) := by unfold Hid; rw [← HW.out]; exact lb_alloc (Below.refl _ _) _
  have hz0 : w.heap.size < W0.heap.size := by rw [← HW.out]; simp
  have hP := h.lt
  have hWW := Below.refl W0.heap.size W0
  have hFB : ¬ Foot s P w.heap.size := fun hb => Nat.lt_irrefl _ (h.foot hb).2
  clear hWW
  by_cases hr : r.err = 0
  · have C2 : ∀ W : World, PAt W base P s m → Calls Tryz.prog 98 #[.pointer (some ⟨P, 0, none⟩), .agg #[.int .i8 op, .int .i8 d, .int .i8 a, .int .i8 b, .int .i64 n]] W fun e w' => e = .returned (.int .i64 r.to) ∧ DoneP W base P s r w' := fun W hW => (C W hW).mono fun e w' k => k.elim (fun k => absurd hr k.1) (fun k => k.2)
    have HR : Hid _ := hr
    clear C hr
    have hU0 := Upto.refl (Foot s P) W0
    go_enter Tryz.func65, Tryz.ntmps65
    go_upto_region 3 with fail
    rw [HW.out]
    clear HW h
    go_region_held3 (fun W => Upto (Foot s P) W0 W ∧ W.cell? ⟨w.heap.size, 0, none⟩ = some (.int .i8 op) ∧ W.cell? ⟨w.heap.size, 1, none⟩ = some (.int .i8 d) ∧ W.cell? ⟨w.heap.size, 2, none⟩ = some (.int .i8 a) ∧ W.cell? ⟨w.heap.size, 3, none⟩ = some (.int .i8 b) ∧ W.cell? ⟨w.heap.size, 4, none⟩ = some (.int .i64 n))
      (first | exact ⟨hU2, upto_cell hU2 hFB x0, upto_cell hU2 hFB x1, upto_cell hU2 hFB x2, upto_cell hU2 hFB x3, upto_cell hU2 hFB x4⟩ | exact ⟨hU2.drew, upto_cell hU2.drew hFB x0, upto_cell hU2.drew hFB x1, upto_cell hU2.drew hFB x2, upto_cell hU2.drew hFB x3, upto_cell hU2.drew hFB x4⟩ | exact ⟨hU1, upto_cell hU1 hFB x0, upto_cell hU1 hFB x1, upto_cell hU1 hFB x2, upto_cell hU1 hFB x3, upto_cell hU1 hFB x4⟩ | exact ⟨hU1.drew, upto_cell hU1.drew hFB x0, upto_cell hU1.drew hFB x1, upto_cell hU1.drew hFB x2, upto_cell hU1.drew hFB x3, upto_cell hU1.drew hFB x4⟩ | exact ⟨hU0, upto_cell hU0 hFB x0, upto_cell hU0 hFB x1, upto_cell hU0 hFB x2, upto_cell hU0 hFB x3, upto_cell hU0 hFB x4⟩ | exact ⟨hU0.drew, upto_cell hU0.drew hFB x0, upto_cell hU0.drew hFB x1, upto_cell hU0.drew hFB x2, upto_cell hU0.drew hFB x3, upto_cell hU0.drew hFB x4⟩)
      (first
        | (go_at_call 85; refine (C1 _).mono ?_; rintro e w1 ⟨rfl, hb⟩; have h1 : PAt w1 base P s m := PAt.keep (by first | exact h0 | exact h0.drew) hb; have hU1 : Upto (Foot s P) W0 w1 := Upto.trans (by first | exact hU0 | exact hU0.drew) (Upto.of hb); clear hb)
        | (go_at_call 98; refine (C2 _ (by first | exact h1 | exact h1.drew)).mono ?_; rintro e w2 ⟨rfl, HQ⟩; have hU2 : Upto (Foot s P) W0 w2 := Upto.trans (by first | exact hU1 | exact hU1.drew) HQ.up))
    all_goals (
      rename_i hS
      clear hS
      go_wp2_with fail
      go_ret
      exact done_did HR.out HB0.out (DoneP.on (by first | exact hU1 | exact hU1.drew) HQ))
  · have C2 : ∀ W : World, PAt W base P s m → Calls Tryz.prog 98 #[.pointer (some ⟨P, 0, none⟩), .agg #[.int .i8 op, .int .i8 d, .int .i8 a, .int .i8 b, .int .i64 n]] W fun e w' => e = .panicked [{ v := .iface 113 (.int .i8 r.err), recovered := false }] ∧ Below W.heap.size W w' := fun W hW => (C W hW).mono fun e w' k => k.elim (fun k => k.2) (fun k => absurd k.1 hr)
    have HR : Hid _ := hr
    clear C hr
    go_enter Tryz.func65, Tryz.ntmps65
    go_upto_region 3 with fail
    rw [HW.out]
    clear HW h
    go_region_law (first
      | (go_simp; go_at_call 85; refine (C1 _).mono ?_; rintro e w1 ⟨rfl, hb⟩; have h1 : PAt w1 base P s m := PAt.keep (by first | exact h0 | exact h0.drew) hb; have HB1 : Hid (Below W0.heap.size W0 w1) := lb_trans (Below.drew (Below.refl _ _)) hb; have y0 : w1.cell? ⟨w.heap.size, 0, none⟩ = some (.int .i8 op) := lkeep hb x0; have y1 : w1.cell? ⟨w.heap.size, 1, none⟩ = some (.int .i8 d) := lkeep hb x1; have y2 : w1.cell? ⟨w.heap.size, 2, none⟩ = some (.int .i8 a) := lkeep hb x2; have y3 : w1.cell? ⟨w.heap.size, 3, none⟩ = some (.int .i8 b) := lkeep hb x3; have y4 : w1.cell? ⟨w.heap.size, 4, none⟩ = some (.int .i64 n) := lkeep hb x4; clear hb)
      | (go_simp; go_at_call 98; refine (C2 _ h1).mono ?_; rintro e w2 ⟨rfl, hb⟩; refine by_stop ⟨rfl, .inl ⟨HR.out, rfl, lb_trans HB0.out (lb_trans HB1.out hb)⟩⟩ w2 ?_))
    all_goals trivial
end





end Go.Proofs.YtfnicgihpelhhaaGreat
