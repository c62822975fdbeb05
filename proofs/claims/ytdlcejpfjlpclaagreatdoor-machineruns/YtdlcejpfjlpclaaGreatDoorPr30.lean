/-
  Deeds of the program's machine: trap, set, jump, halt. Deeds of the program's machine: move. Deeds of the program's machine: call, calls, go, zero.
-/
import Derived.Test.YtdlcejpfjlpclaaGreatDoorProg
import Derived.WalkKit
import Derived.WalkSpells
import Derived.WalkLawsBesides
import Derived.RowKit3
import Derived.Below
import Derived.Deep.QuietTactic
import Derived.BigQuiet
import Derived.WalkSmall
import Derived.Laws.Rows
import Derived.Test.YtdlcejpfjlpclaaGreatDoorPr13
namespace Go.Proofs.YtdlcejpfjlpclaaGreatDoor
open Go.RowKit

section
variable {w : World} {base P : Nat} {s : Loc} {m : Mach}
theorem trap_any (_h : PAt w base P s m) (op d a b n : Int) : Calls Tryz.prog 75 #[.pointer (some ⟨P, 0, none⟩), .agg #[.int .i8 op, .int .i8 d, .int .i8 a, .int .i8 b, .int .i64 n]] w (DidP w base P s m (noD m 2)) := by
  go_enter Tryz.func75, Tryz.ntmps75
  go_wp2
  exact ⟨rfl, did_no (by decide) (lb_alloc (Below.refl _ _) _)⟩
theorem jump_any (h : PAt w base P s m) (_hm : Fine m) (_hp : m.pc < 16384) {op d a b n : Int} (hi : InsIn op d a b n) (hq : op = 15) : Calls Tryz.prog 83 #[.pointer (some ⟨P, 0, none⟩), .agg #[.int .i8 op, .int .i8 d, .int .i8 a, .int .i8 b, .int .i64 n]] w (DidP w base P s m (goD m n)) := by
  have hn := (hi.pl (.inl hq)).1
  clear hq
  have h2 := h.alloc (.cells #[.int .i8 op, .int .i8 d, .int .i8 a, .int .i8 b, .int .i64 n] 82)
  go_enter Tryz.func83, Tryz.ntmps83
  go_wp2
  go_ret
  exact did_yes rfl (by simp [goD]; omega) h2 ((Upto.refl _ _).alloc _)
theorem halt_any (h : PAt w base P s m) (hm : Fine m) (_hp : m.pc < 16384) {op d a b n : Int} (_hi : InsIn op d a b n) : Calls Tryz.prog 89 #[.pointer (some ⟨P, 0, none⟩), .agg #[.int .i8 op, .int .i8 d, .int .i8 a, .int .i8 b, .int .i64 n]] w (DidP w base P s m (haltD m)) := by
  have h2 := (h.status hm.sixteen 1).alloc (.cells #[.int .i8 op, .int .i8 d, .int .i8 a, .int .i8 b, .int .i64 n] 82)
  obtain ⟨c0, c1, c34, c35, c36, c37, c38, c39⟩ := h.cells hm.sixteen
  have f9 := h.fro 39
  have hP := h.lt
  clear h
  go_enter Tryz.func89, Tryz.ntmps89
  go_wp2
  go_ret
  exact did_yes rfl rfl h2 (((Upto.refl _ _).set (Or.inl (Or.inl rfl)) _ _).alloc _)
theorem set_any (h : PAt w base P s m) (hm : Fine m) (_hp : m.pc < 16384) {op d a b n : Int} (hi : InsIn op d a b n) : Calls Tryz.prog 76 #[.pointer (some ⟨P, 0, none⟩), .agg #[.int .i8 op, .int .i8 d, .int .i8 a, .int .i8 b, .int .i64 n]] w (DidP w base P s m (putD m d (n, false))) := by
  have C1 := plain_any n
  obtain ⟨k, hk0⟩ := Int.eq_ofNat_of_zero_le hi.d0
  have hk : k < 16 := by have := hi.d1; omega
  subst hk0
  have C2 := fun (W : World) (h : PAt W base P s m) => put_any h hm k hk (n, false)
  have hP := h.lt
  go_enter Tryz.func76, Tryz.ntmps76
  go_wp2_with fail
  go_region_with (first
    | (go_at_call 26; refine (C1 _).mono ?_; rintro e w1 ⟨rfl, rfl⟩)
    | (go_at_call 96; refine (C2 _ (by repeat (first | assumption | apply PAt.drew | apply PAt.alloc))).mono ?_; rintro e w1 ⟨rfl, hq, hu⟩))
  all_goals (
    go_wp2
    go_ret
    exact did_put rfl hq (Upto.trans (by repeat (first | exact Upto.refl _ _ | apply Upto.drew | apply Upto.alloc)) hu))
theorem place_any (h : PAt w base P s m) (hm : Fine m) (_hp : m.pc < 16384) {op d a b n : Int} (hi : InsIn op d a b n) : Calls Tryz.prog 88 #[.pointer (some ⟨P, 0, none⟩), .agg #[.int .i8 op, .int .i8 d, .int .i8 a, .int .i8 b, .int .i64 n]] w (DidP w base P s m (putD m d (n, true))) := by
  have C1 := sealed_any n
  obtain ⟨k, hk0⟩ := Int.eq_ofNat_of_zero_le hi.d0
  have hk : k < 16 := by have := hi.d1; omega
  subst hk0
  have C2 := fun (W : World) (h : PAt W base P s m) => put_any h hm k hk (n, true)
  have hP := h.lt
  go_enter Tryz.func88, Tryz.ntmps88
  go_wp2_with fail
  go_region_with (first
    | (go_at_call 103; refine (C1 _).mono ?_; rintro e w1 ⟨rfl, rfl⟩)
    | (go_at_call 96; refine (C2 _ (by repeat (first | assumption | apply PAt.drew | apply PAt.alloc))).mono ?_; rintro e w1 ⟨rfl, hq, hu⟩))
  all_goals (
    go_wp2
    go_ret
    exact did_put rfl hq (Upto.trans (by repeat (first | exact Upto.refl _ _ | apply Upto.drew | apply Upto.alloc)) hu))
end

end Go.Proofs.YtdlcejpfjlpclaaGreatDoor

namespace Go.Proofs.YtdlcejpfjlpclaaGreatDoor
open Go.RowKit

section
variable {w : World} {base P : Nat} {s : Loc} {m : Mach}
theorem move_any (h : PAt w base P s m) (hm : Fine m) (_hp : m.pc < 16384) {op d a b n : Int} (hi : InsIn op d a b n) : Calls Tryz.prog 77 #[.pointer (some ⟨P, 0, none⟩), .agg #[.int .i8 op, .int .i8 d, .int .i8 a, .int .i8 b, .int .i64 n]] w (DidP w base P s m (putD m d (rV m a, rC m a))) := by
  obtain ⟨k, hk0⟩ := Int.eq_ofNat_of_zero_le hi.d0
  have hk : k < 16 := by have := hi.d1; omega
  obtain ⟨j, hj0⟩ := Int.eq_ofNat_of_zero_le hi.a0
  have hj : j < 16 := by have := hi.a1; omega
  subst hk0 hj0
  have C2 := fun (W : World) (h : PAt W base P s m) => put_any h hm k hk (wV m.regs j, wC m.regs j)
  obtain ⟨d0, d1⟩ := h.reg hm.sixteen hj
  have hP := h.lt
  go_enter Tryz.func77, Tryz.ntmps77
  go_wp2_with fail
  go_region_with (first
    | (go_at_call 96; refine (C2 _ (by repeat (first | assumption | apply PAt.drew | apply PAt.alloc))).mono ?_; rintro e w1 ⟨rfl, hq, hu⟩))
  all_goals (
    go_wp2
    go_ret
    exact did_put rfl hq (Upto.trans (by repeat (first | exact Upto.refl _ _ | apply Upto.drew | apply Upto.alloc)) hu))
end

end Go.Proofs.YtdlcejpfjlpclaaGreatDoor

namespace Go.Proofs.YtdlcejpfjlpclaaGreatDoor
open Go.RowKit

section
variable {w : World} {base P : Nat} {s : Loc} {m : Mach}
theorem link_any (h : PAt w base P s m) (hm : Fine m) : Calls Tryz.prog 101 #[.pointer (some ⟨P, 0, none⟩)] w fun e w' => e = .returned (.tuple #[]) ∧ PAt w' base P s (linkM m) ∧ Upto (Foot s P) w w' := by
  have hq := h.put hm.sixteen (show 15 < 16 by omega) ((m.pc : Int) + 1, true)
  have C1 := sealed_any ((m.pc : Int) + 1)
  obtain ⟨d0, d1⟩ := h.reg hm.sixteen (show 15 < 16 by omega)
  obtain ⟨c0, c1, c34, c35, c36, c37, c38, c39⟩ := h.cells hm.sixteen
  have f0 := h.fro (2 + 15 * 2)
  have f1 := h.fro (2 + 15 * 2 + 1)
  simp only [Nat.reduceMul, Nat.reduceAdd] at d0 d1 f0 f1 hq
  have hP := h.lt
  have hpc := hm.pc
  have hwr : IntKind.i64.wrap ((m.pc : Int) + 1) = (m.pc : Int) + 1 := wrap_pc hpc
  clear h
  go_enter Tryz.func101, Tryz.ntmps101
  go_wp2_with fail
  go_region_with (first
    | (go_at_call 103; refine (C1 _).mono ?_; rintro e w1 ⟨rfl, rfl⟩))
  all_goals (
    try go_wp2
    go_end0
    exact ⟨rfl, (hq.alloc _).drew, ((((Upto.refl _ _).set (Or.inl (Or.inl rfl)) _ _).set (Or.inl (Or.inl rfl)) _ _).alloc _).drew⟩)
theorem call_any (h : PAt w base P s m) (hm : Fine m) (_hp : m.pc < 16384) {op d a b n : Int} (hi : InsIn op d a b n) (hq : op = 17) : Calls Tryz.prog 85 #[.pointer (some ⟨P, 0, none⟩), .agg #[.int .i8 op, .int .i8 d, .int .i8 a, .int .i8 b, .int .i64 n]] w (DidP w base P s m (callD m n)) := by
  have hn := (hi.pl (.inr (.inr (.inl hq)))).1
  clear hq
  have C := link_any (h.alloc (.cells #[.int .i8 op, .int .i8 d, .int .i8 a, .int .i8 b, .int .i64 n] 82)) hm
  have hP := h.lt
  go_enter Tryz.func85, Tryz.ntmps85
  go_wp2_with fail
  refine C.mono ?_
  rintro e w1 ⟨rfl, h1, hu⟩
  have x4 : w1.cell? ⟨w.heap.size, 4, none⟩ = some (.int .i64 n) := by
    rw [World.cell?_of_block (hu.block _ (by simp) (fun hf => by have := (h.foot hf).2; simp at this))]
    simp [go_sem]
  clear C h
  go_wp2
  go_ret
  exact did_yes rfl (by simp [callD]; omega) h1 (up_on (lb_alloc (Below.refl _ _) _) hu)
theorem goto_any (h : PAt w base P s m) (hm : Fine m) (_hp : m.pc < 16384) {op d a b n : Int} (hi : InsIn op d a b n) : Calls Tryz.prog 87 #[.pointer (some ⟨P, 0, none⟩), .agg #[.int .i8 op, .int .i8 d, .int .i8 a, .int .i8 b, .int .i64 n]] w (DidP w base P s m (gotoD m a)) := by
  obtain ⟨j, hj0⟩ := Int.eq_ofNat_of_zero_le hi.a0
  have hj : j < 16 := by have := hi.a1; omega
  subst hj0
  by_cases hc : wC m.regs j = true
  · have C := goal_yes (h.alloc (.cells #[.int .i8 op, .int .i8 d, .int .i8 j, .int .i8 b, .int .i64 n] 82)) hm j hj hc
    have hv := (hm.regs j hc).1
    have e0 : gotoD m j = goD m (wV m.regs j) := by unfold gotoD; rw [if_pos (show rC m j = true from hc)]; rfl
    rw [e0]
    have hP := h.lt
    go_enter Tryz.func87, Tryz.ntmps87
    go_wp2_with fail
    refine C.mono ?_
    rintro e w1 ⟨rfl, hb⟩
    go_wp2
    go_ret
    exact did_yes rfl (by simp [goD]; omega) ((h.alloc _).keep hb) (Upto.of (lb_trans (lb_alloc (Below.refl _ _) _) hb))
  · have hc : wC m.regs j = false := by simpa using hc
    have C := goal_no (h.alloc (.cells #[.int .i8 op, .int .i8 d, .int .i8 j, .int .i8 b, .int .i64 n] 82)) hm j hj hc
    have e0 : gotoD m j = noD m 4 := by unfold gotoD; rw [if_neg (by show ¬ wC m.regs j = true; rw [hc]; decide)]
    rw [e0]
    go_enter Tryz.func87, Tryz.ntmps87
    go_wp2_with fail
    refine C.mono ?_
    rintro e w1 ⟨rfl, hb⟩
    have HB : Hid (Below w.heap.size w w1) := lb_trans (lb_alloc (Below.refl _ _) _) hb
    unfold stopM
    go_wp2
    exact ⟨rfl, did_no (by decide) HB.out⟩
theorem calls_any (h : PAt w base P s m) (hm : Fine m) (_hp : m.pc < 16384) {op d a b n : Int} (hi : InsIn op d a b n) : Calls Tryz.prog 86 #[.pointer (some ⟨P, 0, none⟩), .agg #[.int .i8 op, .int .i8 d, .int .i8 a, .int .i8 b, .int .i64 n]] w (DidP w base P s m (callsD m a)) := by
  obtain ⟨j, hj0⟩ := Int.eq_ofNat_of_zero_le hi.a0
  have hj : j < 16 := by have := hi.a1; omega
  subst hj0
  by_cases hc : wC m.regs j = true
  · have C := goal_yes (h.alloc (.cells #[.int .i8 op, .int .i8 d, .int .i8 j, .int .i8 b, .int .i64 n] 82)) hm j hj hc
    have hv := (hm.regs j hc).1
    have e0 : callsD m j = callD m (wV m.regs j) := by unfold callsD; rw [if_pos (show rC m j = true from hc)]; rfl
    rw [e0]
    have hP := h.lt
    go_enter Tryz.func86, Tryz.ntmps86
    go_wp2_with fail
    refine C.mono ?_
    rintro e w1 ⟨rfl, hb⟩
    have C3 := link_any ((h.alloc _).keep hb) hm
    go_wp2_with fail
    refine C3.mono ?_
    rintro e w2 ⟨rfl, h1, hu⟩
    go_wp2
    go_ret
    exact did_yes rfl (by simp [callD]; omega) h1 (up_on (lb_trans (lb_alloc (Below.refl _ _) _) hb) hu)
  · have hc : wC m.regs j = false := by simpa using hc
    have C := goal_no (h.alloc (.cells #[.int .i8 op, .int .i8 d, .int .i8 j, .int .i8 b, .int .i64 n] 82)) hm j hj hc
    have e0 : callsD m j = noD m 4 := by unfold callsD; rw [if_neg (by show ¬ wC m.regs j = true; rw [hc]; decide)]
    rw [e0]
    go_enter Tryz.func86, Tryz.ntmps86
    go_wp2_with fail
    refine C.mono ?_
    rintro e w1 ⟨rfl, hb⟩
    have HB : Hid (Below w.heap.size w w1) := lb_trans (lb_alloc (Below.refl _ _) _) hb
    unfold stopM
    go_wp2
    exact ⟨rfl, did_no (by decide) HB.out⟩
theorem zero_any (h : PAt w base P s m) (hm : Fine m) (hp : m.pc < 16384) {op d a b n : Int} (hi : InsIn op d a b n) (hq : op = 16) : Calls Tryz.prog 84 #[.pointer (some ⟨P, 0, none⟩), .agg #[.int .i8 op, .int .i8 d, .int .i8 a, .int .i8 b, .int .i64 n]] w (DidP w base P s m (zeroD m a n)) := by
  obtain ⟨j, hj0⟩ := Int.eq_ofNat_of_zero_le hi.a0
  have hj : j < 16 := by have := hi.a1; omega
  subst hj0
  have hn := (hi.pl (.inr (.inl hq))).1
  clear hq
  obtain ⟨c0, c1, c34, c35, c36, c37, c38, c39⟩ := h.cells hm.sixteen
  have hpc := hm.pc
  have hP := h.lt
  by_cases hc : wC m.regs j = true
  · have C := number_no (h.alloc (.cells #[.int .i8 op, .int .i8 d, .int .i8 j, .int .i8 b, .int .i64 n] 82)) hm j hj hc
    have e0 : zeroD m j n = noD m 4 := by unfold zeroD; rw [if_pos (show rC m j = true from hc)]
    rw [e0]
    go_enter Tryz.func84, Tryz.ntmps84
    go_wp2_with fail
    refine C.mono ?_
    rintro e w1 ⟨rfl, hb⟩
    have HB : Hid (Below w.heap.size w w1) := lb_trans (lb_alloc (Below.refl _ _) _) hb
    unfold stopM
    go_wp2
    exact ⟨rfl, did_no (by decide) HB.out⟩
  · have hc : wC m.regs j = false := by simpa using hc
    have C := number_yes (h.alloc (.cells #[.int .i8 op, .int .i8 d, .int .i8 j, .int .i8 b, .int .i64 n] 82)) hm j hj hc
    have e0 : zeroD m j n = if wV m.regs j = 0 then goD m n else ⟨0, m, m.pc + 1⟩ := by unfold zeroD; rw [if_neg (by show ¬ wC m.regs j = true; rw [hc]; decide)]; rfl
    rw [e0]
    by_cases hz : wV m.regs j = 0
    · rw [if_pos hz]
      rw [hz] at C
      go_enter Tryz.func84, Tryz.ntmps84
      go_wp2_with fail
      refine C.mono ?_
      rintro e w1 ⟨rfl, hb⟩
      have x4 : w1.cell? ⟨w.heap.size, 4, none⟩ = some (.int .i64 n) := lkeep hb (by simp [go_sem])
      go_wp2
      go_ret
      exact did_yes rfl (by simp [goD]; omega) ((h.alloc _).keep hb) (Upto.of (lb_trans (lb_alloc (Below.refl _ _) _) hb))
    · rw [if_neg hz]
      have hz2 : (wV m.regs j == 0) = false := by simpa using hz
      go_enter Tryz.func84, Tryz.ntmps84
      go_wp2_with fail
      refine C.mono ?_
      rintro e w1 ⟨rfl, hb⟩
      have k36 : w1.cell? ⟨P, 36, none⟩ = some (.int .i64 m.pc) := ((h.alloc _).keep hb |>.cells hm.sixteen).2.2.2.2.1
      clear c0 c1 c34 c35 c36 c37 c38 c39
      go_wp2
      go_ret
      exact did_yes rfl rfl ((h.alloc _).keep hb) (Upto.of (lb_trans (lb_alloc (Below.refl _ _) _) hb))
end

end Go.Proofs.YtdlcejpfjlpclaaGreatDoor
