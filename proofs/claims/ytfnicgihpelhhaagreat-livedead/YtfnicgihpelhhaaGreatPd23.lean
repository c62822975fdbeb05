/-
  Deeds of the program's machine: move. Deeds of the program's machine: call, calls, go, zero. Deeds of the program's machine: calc. The program's machine: an address.
-/
import Derived.Test.YtfnicgihpelhhaaGreatProg
import Derived.WalkKit
import Derived.WalkSpells
import Derived.WalkLawsBesides
import Derived.RowKit3
import Derived.Below
import Derived.Deep.QuietTactic
import Derived.BigQuiet
import Derived.WalkSmall
import Derived.Laws.Rows
import Derived.Deep.RegionHeld3
import Derived.Laws.Pointers
import Derived.Outline
import Derived.StillTactics
import Derived.Test.YtfnicgihpelhhaaGreatPd22
import Derived.Deep.DeepCutAuto
namespace Go.Proofs.YtfnicgihpelhhaaGreat
open Go.RowKit

section
variable {w : World} {base P : Nat} {s : Loc} {m : Mach}
theorem move_any (h : PAt w base P s m) (hm : Fine m) (_hp : m.pc < 16384) {op d a b n : Int} (hi : InsIn op d a b n) : Calls Tryz.prog 97 #[.pointer (some ⟨P, 0, none⟩), .agg #[.int .i8 op, .int .i8 d, .int .i8 a, .int .i8 b, .int .i64 n]] w (DidP w base P s m (putD m d (rV m a, rC m a))) := by
  obtain ⟨k, hk0⟩ := Int.eq_ofNat_of_zero_le hi.d0
  have hk : k < 16 := by have := hi.d1; omega
  obtain ⟨j, hj0⟩ := Int.eq_ofNat_of_zero_le hi.a0
  have hj : j < 16 := by have := hi.a1; omega
  subst hk0 hj0
  have C2 := fun (W : World) (h : PAt W base P s m) => put_any h hm k hk (wV m.regs j, wC m.regs j)
  obtain ⟨d0, d1⟩ := h.reg hm.sixteen hj
  have hP := h.lt
  go_enter Tryz.func97, Tryz.ntmps97
  go_wp2_with fail
  go_region_with (first
    | (go_at_call 115; refine (C2 _ (by repeat (first | assumption | apply PAt.drew | apply PAt.alloc))).mono ?_; rintro e w1 ⟨rfl, hq, hu⟩))
  all_goals (
    go_wp2
    go_ret
    exact did_put rfl hq (Upto.trans (by repeat (first | exact Upto.refl _ _ | apply Upto.drew | apply Upto.alloc)) hu))
end





end Go.Proofs.YtfnicgihpelhhaaGreat

namespace Go.Proofs.YtfnicgihpelhhaaGreat
open Go.RowKit

section
variable {w : World} {base P : Nat} {s : Loc} {m : Mach}
theorem link_any (h : PAt w base P s m) (hm : Fine m) : Calls Tryz.prog 120 #[.pointer (some ⟨P, 0, none⟩)] w fun e w' => e = .returned (.tuple #[]) ∧ PAt w' base P s (linkM m) ∧ Upto (Foot s P) w w' := by
  have hq := h.put hm.sixteen (show 15 < 16 by omega) ((m.pc : Int) + 1, true)
  have C1 := sealed_any ((m.pc : Int) + 1)
  obtain ⟨d0, d1⟩ := h.reg hm.sixteen (show 15 < 16 by omega)
  obtain ⟨c0, c1, c34, c35, c36, c37, c38, c39⟩ := h.cells hm.sixteen
  have f0 := h.fro (2 + 15 * 2)
  have f1 := h.fro (2 + 15 * 2 + 1)
  simp only [Nat.reduceMul, Nat.reduceAdd] at d0 d1 f0 f1 hq
  have hP := h.lt
  have hpc := hm.pc
  have hwr : IntKind.i64.wrap ((m.pc : Int) + 1) = (m.pc : Int) + 1 := wrap_pc hpc
  clear h
  go_enter Tryz.func120, Tryz.ntmps120
  go_wp2_with fail
  go_region_with (first
    | (go_at_call 122; refine (C1 _).mono ?_; rintro e w1 ⟨rfl, rfl⟩))
  all_goals (
    try go_wp2
    go_end0
    exact ⟨rfl, (hq.alloc _).drew, ((((Upto.refl _ _).set (Or.inl (Or.inl rfl)) _ _).set (Or.inl (Or.inl rfl)) _ _).alloc _).drew⟩)
theorem call_any (h : PAt w base P s m) (hm : Fine m) (_hp : m.pc < 16384) {op d a b n : Int} (hi : InsIn op d a b n) (hq : op = 17) : Calls Tryz.prog 105 #[.pointer (some ⟨P, 0, none⟩), .agg #[.int .i8 op, .int .i8 d, .int .i8 a, .int .i8 b, .int .i64 n]] w (DidP w base P s m (callD m n)) := by
  have hn := (hi.pl (.inr (.inr (.inl hq)))).1
  clear hq
  have C := link_any (h.alloc (.cells #[.int .i8 op, .int .i8 d, .int .i8 a, .int .i8 b, .int .i64 n] 50)) hm
  have hP := h.lt
  go_enter Tryz.func105, Tryz.ntmps105
  go_wp2_with fail
  refine C.mono ?_
  rintro e w1 ⟨rfl, h1, hu⟩
  have x4 : w1.cell? ⟨w.heap.size, 4, none⟩ = some (.int .i64 n) := by
    rw [World.cell?_of_block (hu.block _ (by simp) (fun hf => by have := (h.foot hf).2; simp at this))]
    simp [go_sem]
  clear C h
  go_wp2
  go_ret
  exact did_yes rfl (by simp [callD]; omega) h1 (up_on (lb_alloc (Below.refl _ _) _) hu)
theorem goto_any (h : PAt w base P s m) (hm : Fine m) (_hp : m.pc < 16384) {op d a b n : Int} (hi : InsIn op d a b n) : Calls Tryz.prog 107 #[.pointer (some ⟨P, 0, none⟩), .agg #[.int .i8 op, .int .i8 d, .int .i8 a, .int .i8 b, .int .i64 n]] w (DidP w base P s m (gotoD m a)) := by
  obtain ⟨j, hj0⟩ := Int.eq_ofNat_of_zero_le hi.a0
  have hj : j < 16 := by have := hi.a1; omega
  subst hj0
  by_cases hc : wC m.regs j = true
  · have C := goal_yes (h.alloc (.cells #[.int .i8 op, .int .i8 d, .int .i8 j, .int .i8 b, .int .i64 n] 50)) hm j hj hc
    have hv := (hm.regs j hc).1
    have e0 : gotoD m j = goD m (wV m.regs j) := by unfold gotoD; rw [if_pos (show rC m j = true from hc)]; rfl
    rw [e0]
    have hP := h.lt
    go_enter Tryz.func107, Tryz.ntmps107
    go_wp2_with fail
    refine C.mono ?_
    rintro e w1 ⟨rfl, hb⟩
    go_wp2
    go_ret
    exact did_yes rfl (by simp [goD]; omega) ((h.alloc _).keep hb) (Upto.of (lb_trans (lb_alloc (Below.refl _ _) _) hb))
  · have hc : wC m.regs j = false := by simpa using hc
    have C := goal_no (h.alloc (.cells #[.int .i8 op, .int .i8 d, .int .i8 j, .int .i8 b, .int .i64 n] 50)) hm j hj hc
    have e0 : gotoD m j = noD m 4 := by unfold gotoD; rw [if_neg (by show ¬ wC m.regs j = true; rw [hc]; decide)]
    rw [e0]
    go_enter Tryz.func107, Tryz.ntmps107
    go_wp2_with fail
    refine C.mono ?_
    rintro e w1 ⟨rfl, hb⟩
    have HB : Hid (Below w.heap.size w w1) := lb_trans (lb_alloc (Below.refl _ _) _) hb
    unfold stopM
    go_wp2
    exact ⟨rfl, did_no (by decide) HB.out⟩
theorem calls_any (h : PAt w base P s m) (hm : Fine m) (_hp : m.pc < 16384) {op d a b n : Int} (hi : InsIn op d a b n) : Calls Tryz.prog 106 #[.pointer (some ⟨P, 0, none⟩), .agg #[.int .i8 op, .int .i8 d, .int .i8 a, .int .i8 b, .int .i64 n]] w (DidP w base P s m (callsD m a)) := by
  obtain ⟨j, hj0⟩ := Int.eq_ofNat_of_zero_le hi.a0
  have hj : j < 16 := by have := hi.a1; omega
  subst hj0
  by_cases hc : wC m.regs j = true
  · have C := goal_yes (h.alloc (.cells #[.int .i8 op, .int .i8 d, .int .i8 j, .int .i8 b, .int .i64 n] 50)) hm j hj hc
    have hv := (hm.regs j hc).1
    have e0 : callsD m j = callD m (wV m.regs j) := by unfold callsD; rw [if_pos (show rC m j = true from hc)]; rfl
    rw [e0]
    have hP := h.lt
    go_enter Tryz.func106, Tryz.ntmps106
    go_wp2_with fail
    refine C.mono ?_
    rintro e w1 ⟨rfl, hb⟩
    have C3 := link_any ((h.alloc _).keep hb) hm
    go_wp2_with fail
    refine C3.mono ?_
    rintro e w2 ⟨rfl, h1, hu⟩
    go_wp2
    go_ret
    exact did_yes rfl (by simp [callD]; omega) h1 (up_on (lb_trans (lb_alloc (Below.refl _ _) _) hb) hu)
  · have hc : wC m.regs j = false := by simpa using hc
    have C := goal_no (h.alloc (.cells #[.int .i8 op, .int .i8 d, .int .i8 j, .int .i8 b, .int .i64 n] 50)) hm j hj hc
    have e0 : callsD m j = noD m 4 := by unfold callsD; rw [if_neg (by show ¬ wC m.regs j = true; rw [hc]; decide)]
    rw [e0]
    go_enter Tryz.func106, Tryz.ntmps106
    go_wp2_with fail
    refine C.mono ?_
    rintro e w1 ⟨rfl, hb⟩
    have HB : Hid (Below w.heap.size w w1) := lb_trans (lb_alloc (Below.refl _ _) _) hb
    unfold stopM
    go_wp2
    exact ⟨rfl, did_no (by decide) HB.out⟩
theorem zero_any (h : PAt w base P s m) (hm : Fine m) (hp : m.pc < 16384) {op d a b n : Int} (hi : InsIn op d a b n) (hq : op = 16) : Calls Tryz.prog 104 #[.pointer (some ⟨P, 0, none⟩), .agg #[.int .i8 op, .int .i8 d, .int .i8 a, .int .i8 b, .int .i64 n]] w (DidP w base P s m (zeroD m a n)) := by
  obtain ⟨j, hj0⟩ := Int.eq_ofNat_of_zero_le hi.a0
  have hj : j < 16 := by have := hi.a1; omega
  subst hj0
  have hn := (hi.pl (.inr (.inl hq))).1
  clear hq
  obtain ⟨c0, c1, c34, c35, c36, c37, c38, c39⟩ := h.cells hm.sixteen
  have hpc := hm.pc
  have hP := h.lt
  by_cases hc : wC m.regs j = true
  · have C := number_no (h.alloc (.cells #[.int .i8 op, .int .i8 d, .int .i8 j, .int .i8 b, .int .i64 n] 50)) hm j hj hc
    have e0 : zeroD m j n = noD m 4 := by unfold zeroD; rw [if_pos (show rC m j = true from hc)]
    rw [e0]
    go_enter Tryz.func104, Tryz.ntmps104
    go_wp2_with fail
    refine C.mono ?_
    rintro e w1 ⟨rfl, hb⟩
    have HB : Hid (Below w.heap.size w w1) := lb_trans (lb_alloc (Below.refl _ _) _) hb
    unfold stopM
    go_wp2
    exact ⟨rfl, did_no (by decide) HB.out⟩
  · have hc : wC m.regs j = false := by simpa using hc
    have C := number_yes (h.alloc (.cells #[.int .i8 op, .int .i8 d, .int .i8 j, .int .i8 b, .int .i64 n] 50)) hm j hj hc
    have e0 : zeroD m j n = if wV m.regs j = 0 then goD m n else ⟨0, m, m.pc + 1⟩ := by unfold zeroD; rw [if_neg (by show ¬ wC m.regs j = true; rw [hc]; decide)]; rfl
    rw [e0]
    by_cases hz : wV m.regs j = 0
    · rw [if_pos hz]
      rw [hz] at C
      go_enter Tryz.func104, Tryz.ntmps104
      go_wp2_with fail
      refine C.mono ?_
      rintro e w1 ⟨rfl, hb⟩
      have x4 : w1.cell? ⟨w.heap.size, 4, none⟩ = some (.int .i64 n) := lkeep hb (by simp [go_sem])
      go_wp2
      go_ret
      exact did_yes rfl (by simp [goD]; omega) ((h.alloc _).keep hb) (Upto.of (lb_trans (lb_alloc (Below.refl _ _) _) hb))
    · rw [if_neg hz]
      have hz2 : (wV m.regs j == 0) = false := by simpa using hz
      go_enter Tryz.func104, Tryz.ntmps104
      go_wp2_with fail
      refine C.mono ?_
      rintro e w1 ⟨rfl, hb⟩
      have k36 : w1.cell? ⟨P, 36, none⟩ = some (.int .i64 m.pc) := ((h.alloc _).keep hb |>.cells hm.sixteen).2.2.2.2.1
      clear c0 c1 c34 c35 c36 c37 c38 c39
      go_wp2
      go_ret
      exact did_yes rfl rfl ((h.alloc _).keep hb) (Upto.of (lb_trans (lb_alloc (Below.refl _ _) _) hb))
end





end Go.Proofs.YtfnicgihpelhhaaGreat

namespace Go.Proofs.YtfnicgihpelhhaaGreat
open Go.RowKit

section
variable {w : World} {base P : Nat} {s : Loc} {m : Mach}
set_option maxHeartbeats 1000000 in
theorem calc_did (h : PAt w base P s m) (hm : Fine m) (_hp : m.pc < 16384) {op d a b n : Int} (hi : InsIn op d a b n) : Calls Tryz.prog 98 #[.pointer (some ⟨P, 0, none⟩), .agg #[.int .i8 op, .int .i8 d, .int .i8 a, .int .i8 b, .int .i64 n]] w (DidP w base P s m (calcD m op d a b)) := by
  obtain ⟨k, hk0⟩ := Int.eq_ofNat_of_zero_le hi.d0
  have hk : k < 16 := by have := hi.d1; omega
  subst hk0
  obtain ⟨j, hj0⟩ := Int.eq_ofNat_of_zero_le hi.a0
  have hj : j < 16 := by have := hi.a1; omega
  subst hj0
  obtain ⟨i, hi0⟩ := Int.eq_ofNat_of_zero_le hi.b0
  have hi2 : i < 16 := by have := hi.b1; omega
  subst hi0
  have zk : (0 : Int) ≤ (k : Int) := Int.natCast_nonneg _
  have yk : (k : Int) < 16 := by omega
  have zj : (0 : Int) ≤ (j : Int) := Int.natCast_nonneg _
  have yj : (j : Int) < 16 := by omega
  have zi : (0 : Int) ≤ (i : Int) := Int.natCast_nonneg _
  have yi : (i : Int) < 16 := by omega
  obtain ⟨W0, HW⟩ : ∃ W0, Hid (w.alloc (.cells #[.int .i8 op, .int .i8 k, .int .i8 j, .int .i8 i, .int .i64 n] 50) = W0) := ⟨_, rfl⟩
  have x0 : W0.cell? ⟨w.heap.size, 0, none⟩ = some (.int .i8 op) := by rw [← HW.out]; simp [go_sem]
  have x1 : W0.cell? ⟨w.heap.size, 1, none⟩ = some (.int .i8 k) := by rw [← HW.out]; simp [go_sem]
  have x2 : W0.cell? ⟨w.heap.size, 2, none⟩ = some (.int .i8 j) := by rw [← HW.out]; simp [go_sem]
  have x3 : W0.cell? ⟨w.heap.size, 3, none⟩ = some (.int .i8 i) := by rw [← HW.out]; simp [go_sem]
  have x4 : W0.cell? ⟨w.heap.size, 4, none⟩ = some (.int .i64 n) := by rw [← HW.out]; simp [go_sem]
  have h0 : PAt W0 base P s m := by rw [← HW.out]; exact h.alloc _
  have HB0 : Hid (Below w.heap.size w W0) := by unfold Hid; rw [← HW.out]; exact lb_alloc (Below.refl _ _) _
  have hz0 : w.heap.size < W0.heap.size := by rw [← HW.out]; simp
  have hP := h.lt
  have hWW := Below.refl W0.heap.size W0
  obtain ⟨d0, d1⟩ := h0.reg hm.sixteen hj
  obtain ⟨b0, b1⟩ := h0.reg hm.sixteen hi2
  have C1 := calc_any op (wV m.regs j) (wV m.regs i) (wC m.regs j) (wC m.regs i)
  have HE : Hid (calcE op (wC m.regs j) (wC m.regs i) = cE m op j i) := rfl
  have HV : Hid (calcV op (wV m.regs j) (wV m.regs i) (wC m.regs j) (wC m.regs i) = cV m op j i) := rfl
  rw [HE.out, HV.out] at C1
  have HD : Hid (calcD m op k j i = if cE m op j i = 0 then putD m k (cV m op j i, false) else noD m (cE m op j i)) := rfl
  rw [HD.out]
  clear HE HV HD
  generalize cV m op j i = V at *
  generalize cE m op j i = E at *
  go_enter Tryz.func98, Tryz.ntmps98
  go_upto_region 1 with fail
  rw [HW.out]
  clear HW
  go_cut [5, 6] (fun x y wx => ∃ p, x = .pointer (some ⟨p, 0, none⟩) ∧ y = .int .i8 E ∧ wx.cell? ⟨p, 0, none⟩ = some (.int .i64 V) ∧ wx.cell? ⟨p, 1, none⟩ = some (.bool false) ∧ Hid (Below W0.heap.size W0 wx))
  case first =>
    go_region_held3 (fun W => Below W0.heap.size W0 W ∧ W.cell? ⟨w.heap.size, 0, none⟩ = some (.int .i8 op) ∧ W.cell? ⟨w.heap.size, 2, none⟩ = some (.int .i8 j) ∧ W.cell? ⟨w.heap.size, 3, none⟩ = some (.int .i8 i) ∧ W.cell? ⟨P, 2 + j * 2, none⟩ = some (.int .i64 (wV m.regs j)) ∧ W.cell? ⟨P, 2 + j * 2 + 1, none⟩ = some (.bool (wC m.regs j)) ∧ W.cell? ⟨P, 2 + i * 2, none⟩ = some (.int .i64 (wV m.regs i)) ∧ W.cell? ⟨P, 2 + i * 2 + 1, none⟩ = some (.bool (wC m.regs i)))
      (first | (refine ⟨?_, lkeep ?_ x0, lkeep ?_ x2, lkeep ?_ x3, lkeep ?_ d0, lkeep ?_ d1, lkeep ?_ b0, lkeep ?_ b1⟩ <;> ((repeat (first | assumption | exact (‹Below _ _ _ ∧ _›).1 | apply Below.drew | apply lb_alloc | apply lb_new | refine lb_trans ?_ hb)); done)))
      (first | (go_at_call 116; refine (C1 _).mono ?_; rintro e w1 ⟨rfl, hb⟩; (first | (refine have_wd W0.heap.size hb ?_ ?_; (refine ⟨?_, ?_, ?_, ?_⟩ <;> (simp [go_sem]; done)); intro e0 e1 e2 e3) | skip)))

    all_goals (
      rename_i hS
      have sB : Hid _ := hS.1
      clear hS
      go_wp2_with fail
      go_meet
      exact ⟨_, rfl, rfl, by first | (simp [go_sem]; done) | (simp [go_sem, *]; done), by first | (simp [go_sem]; done) | (simp [go_sem, *]; done), sB⟩)
  case rest =>
    obtain ⟨p, rfl, rfl, p0, p1, HBc⟩ := hcut
    have h9 : Hid (PAt wc base P s m) := h0.keep HBc.out
    have HB9 : Hid (Below w.heap.size w wc) := lb_trans HB0.out HBc.out
    have q1 : wc.cell? ⟨w.heap.size, 1, none⟩ = some (.int .i8 k) := lkeep HBc.out x1
    clear x0 x1 x2 x3 x4 d0 d1 b0 b1 C1
    by_cases he : E = 0
    · subst he
      have C2 := put_any h9.out hm k hk (V, false)
      have C3 := raise_yes wc
      go_wp2_with (first
        | (go_at_call 117; refine C3.mono ?_; rintro e w1 ⟨rfl, rfl⟩)
        | (go_at_call 115; refine C2.mono ?_; rintro e w1 ⟨rfl, hq, hu⟩))
      go_ret
      exact did_put rfl hq (up_on HB9.out hu)
    · have C3 := raise_no E he wc
      go_wp2_with fail
      refine C3.mono ?_
      rintro e w1 ⟨rfl, rfl⟩
      unfold stopM
      go_wp2
      exact ⟨rfl, did_no he HB9.out⟩
end





end Go.Proofs.YtfnicgihpelhhaaGreat

namespace Go.Proofs.YtfnicgihpelhhaaGreat
open Go.RowKit

section
variable {w : World} {base P : Nat} {s : Loc} {m : Mach}
def AddrP (E V : Int) (w : World) (e : Ending) (w' : World) : Prop := ((E = 0 ∧ e = .returned (.int .i64 V)) ∨ (¬ E = 0 ∧ e = stopM E)) ∧ Below w.heap.size w w'
set_option maxHeartbeats 1000000 in
theorem address_any (h : PAt w base P s m) (hm : Fine m) {op d b n : Int} {j : Nat} (hj : j < 16) : Calls Tryz.prog 118 #[.pointer (some ⟨P, 0, none⟩), .agg #[.int .i8 op, .int .i8 d, .int .i8 j, .int .i8 b, .int .i64 n]] w (AddrP (aE m j n) (aV m j n) w) := by
  have zj : (0 : Int) ≤ (j : Int) := Int.natCast_nonneg _
  have yj : (j : Int) < 16 := by omega
  obtain ⟨W0, HW⟩ : ∃ W0, Hid (w.alloc (.cells #[.int .i8 op, .int .i8 d, .int .i8 j, .int .i8 b, .int .i64 n] 50) = W0) := ⟨_, rfl⟩
  have x0 : W0.cell? ⟨w.heap.size, 0, none⟩ = some (.int .i8 op) := by rw [← HW.out]; simp [go_sem]
  have x1 : W0.cell? ⟨w.heap.size, 1, none⟩ = some (.int .i8 d) := by rw [← HW.out]; simp [go_sem]
  have x2 : W0.cell? ⟨w.heap.size, 2, none⟩ = some (.int .i8 j) := by rw [← HW.out]; simp [go_sem]
  have x3 : W0.cell? ⟨w.heap.size, 3, none⟩ = some (.int .i8 b) := by rw [← HW.out]; simp [go_sem]
  have x4 : W0.cell? ⟨w.heap.size, 4, none⟩ = some (.int .i64 n) := by rw [← HW.out]; simp [go_sem]
  have h0 : PAt W0 base P s m := by rw [← HW.out]; exact h.alloc _
  have HB0 : Hid (Below w.heap.size w W0) := by unfold Hid; rw [← HW.out]; exact lb_alloc (Below.refl _ _) _
  have hz0 : w.heap.size < W0.heap.size := by rw [← HW.out]; simp
  have hP := h.lt
  have hWW := Below.refl W0.heap.size W0
  obtain ⟨d0, d1⟩ := h0.reg hm.sixteen hj
  have hml := hm.mlen
  obtain ⟨c0, c1, c34, c35, c36, c37, c38, c39⟩ := h0.cells hm.sixteen
  have C1 := addr_any (wV m.regs j) n m.mem.length (wC m.regs j)
  have HE : Hid (addrE (wV m.regs j) n m.mem.length (wC m.regs j) = aE m j n) := rfl
  have HV : Hid (addrV (wV m.regs j) n m.mem.length (wC m.regs j) = aV m j n) := rfl
  rw [HE.out, HV.out] at C1
  clear HE HV
  generalize aV m j n = V at *
  generalize aE m j n = E at *
  go_enter Tryz.func118, Tryz.ntmps118
  go_upto_region 1 with fail
  rw [HW.out]
  clear HW
  go_cut [5, 6] (fun x y wx => x = .int .i64 V ∧ y = .int .i8 E ∧ Hid (Below W0.heap.size W0 wx))
  case first =>
    go_region_held3 (fun W => Below W0.heap.size W0 W ∧ W.cell? ⟨w.heap.size, 2, none⟩ = some (.int .i8 j) ∧ W.cell? ⟨w.heap.size, 4, none⟩ = some (.int .i64 n) ∧ W.cell? ⟨P, 2 + j * 2, none⟩ = some (.int .i64 (wV m.regs j)) ∧ W.cell? ⟨P, 2 + j * 2 + 1, none⟩ = some (.bool (wC m.regs j)) ∧ W.cell? ⟨P, 34, none⟩ = some (.slice s.M m.mem.length s.mc))
      (first | (refine ⟨?_, lkeep ?_ x2, lkeep ?_ x4, lkeep ?_ d0, lkeep ?_ d1, lkeep ?_ c34⟩ <;> ((repeat (first | assumption | exact (‹Below _ _ _ ∧ _›).1 | apply Below.drew | apply lb_alloc | apply lb_new | refine lb_trans ?_ hb)); done)))
      (first | (go_at_call 129; refine (C1 _).mono ?_; rintro e w1 ⟨rfl, rfl⟩))

    all_goals (
      rename_i hS
      have sB : Hid _ := hS.1
      clear hS
      go_wp2_with fail
      go_meet
      exact ⟨rfl, rfl, sB⟩)
  case rest =>
    obtain ⟨rfl, rfl, HBc⟩ := hcut
    have HB9 : Hid (Below w.heap.size w wc) := lb_trans HB0.out HBc.out
    clear x0 x1 x2 x3 x4 d0 d1 c0 c1 c34 c35 c36 c37 c38 c39 C1
    by_cases he : E = 0
    · subst he
      have C3 := raise_yes wc
      go_wp2_with (first
        | (go_at_call 117; refine C3.mono ?_; rintro e w1 ⟨rfl, rfl⟩))
      go_ret
      exact ⟨.inl ⟨rfl, rfl⟩, HB9.out⟩
    · have C3 := raise_no E he wc
      go_wp2_with fail
      refine C3.mono ?_
      rintro e w1 ⟨rfl, rfl⟩
      unfold stopM
      go_wp2
      exact ⟨rfl, .inr ⟨he, rfl⟩, HB9.out⟩
end





end Go.Proofs.YtfnicgihpelhhaaGreat
