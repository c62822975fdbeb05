/-
  Deeds of the program's machine: call, calls, go, zero. Deeds of the program's machine: calc. Deeds of the program's machine: store.
-/
import Derived.Test.YtgkdagnpefgjcaaGreatProg
import Derived.WalkKit
import Derived.WalkSpells
import Derived.WalkLawsBesides
import Derived.RowKit3
import Derived.Below
import Derived.Deep.QuietTactic
import Derived.BigQuiet
import Derived.WalkSmall
import Derived.Laws.Rows
import Derived.Deep.RegionHeld3
import Derived.Laws.Pointers
import Derived.Outline
import Derived.StillTactics
import Derived.Test.YtgkdagnpefgjcaaGreatPr28
import Derived.Deep.DeepCutAuto
import Derived.Deep.RegionLaw
namespace Go.Proofs.YtgkdagnpefgjcaaGreat
open Go.RowKit

section
variable {w : World} {base P : Nat} {s : Loc} {m : Mach}
theorem link_any (h : PAt w base P s m) (hm : Fine m) : Calls Tryz.prog 75 #[.pointer (some ⟨P, 0, none⟩)] w fun e w' => e = .returned (.tuple #[]) ∧ PAt w' base P s (linkM m) ∧ Upto (Foot s P) w w' := by
  have hq := h.put hm.sixteen (show 15 < 16 by omega) ((m.pc : Int) + 1, true)
  have C1 := sealed_any ((m.pc : Int) + 1)
  obtain ⟨d0, d1⟩ := h.reg hm.sixteen (show 15 < 16 by omega)
  obtain ⟨c0, c1, c34, c35, c36, c37, c38, c39⟩ := h.cells hm.sixteen
  have f0 := h.fro (2 + 15 * 2)
  have f1 := h.fro (2 + 15 * 2 + 1)
  simp only [Nat.reduceMul, Nat.reduceAdd] at d0 d1 f0 f1 hq
  have hP := h.lt
  have hpc := hm.pc
  have hwr : IntKind.i64.wrap ((m.pc : Int) + 1) = (m.pc : Int) + 1 := wrap_pc hpc
  clear h
  go_enter Tryz.func75, Tryz.ntmps75
  go_wp2_with fail
  go_region_with (first
    | (go_at_call 77; refine (C1 _).mono ?_; rintro e w1 ⟨rfl, rfl⟩))
  all_goals (
    try go_wp2
    go_end0
    exact ⟨rfl, (hq.alloc _).drew, ((((Upto.refl _ _).set (Or.inl (Or.inl rfl)) _ _).set (Or.inl (Or.inl rfl)) _ _).alloc _).drew⟩)
theorem call_any (h : PAt w base P s m) (hm : Fine m) (_hp : m.pc < 16384) {op d a b n : Int} (hi : InsIn op d a b n) (hq : op = 17) : Calls Tryz.prog 60 #[.pointer (some ⟨P, 0, none⟩), .agg #[.int .i8 op, .int .i8 d, .int .i8 a, .int .i8 b, .int .i64 n]] w (DidP w base P s m (callD m n)) := by
  have hn := (hi.pl (.inr (.inr (.inl hq)))).1
  clear hq
  have C := link_any (h.alloc (.cells #[.int .i8 op, .int .i8 d, .int .i8 a, .int .i8 b, .int .i64 n] 72)) hm
  have hP := h.lt
  go_enter Tryz.func60, Tryz.ntmps60
  go_wp2_with fail
  refine C.mono ?_
  rintro e w1 ⟨rfl, h1, hu⟩
  have x4 : w1.cell? ⟨w.heap.size, 4, none⟩ = some (.int .i64 n) := by
    rw [World.cell?_of_block (hu.block _ (by simp) (fun hf => by have := (h.foot hf).2; simp at this))]
    simp [go_sem]
  clear C h
  go_wp2
  go_ret
  exact did_yes rfl (by simp [callD]; omega) h1 (up_on (lb_alloc (Below.refl _ _) _) hu)
theorem goto_any (h : PAt w base P s m) (hm : Fine m) (_hp : m.pc < 16384) {op d a b n : Int} (hi : InsIn op d a b n) : Calls Tryz.prog 62 #[.pointer (some ⟨P, 0, none⟩), .agg #[.int .i8 op, .int .i8 d, .int .i8 a, .int .i8 b, .int .i64 n]] w (DidP w base P s m (gotoD m a)) := by
  obtain ⟨j, hj0⟩ := Int.eq_ofNat_of_zero_le hi.a0
  have hj : j < 16 := by have := hi.a1; omega
  subst hj0
  by_cases hc : wC m.regs j = true
  · have C := goal_yes (h.alloc (.cells #[.int .i8 op, .int .i8 d, .int .i8 j, .int .i8 b, .int .i64 n] 72)) hm j hj hc
    have hv := (hm.regs j hc).1
    have e0 : gotoD m j = goD m (wV m.regs j) := by unfold gotoD; rw [if_pos (show rC m j = true from hc)]; rfl
    rw [e0]
    have hP := h.lt
    go_enter Tryz.func62, Tryz.ntmps62
    go_wp2_with fail
    refine C.mono ?_
    rintro e w1 ⟨rfl, hb⟩
    go_wp2
    go_ret
    exact did_yes rfl (by simp [goD]; omega) ((h.alloc _).keep hb) (Upto.of (lb_trans (lb_alloc (Below.refl _ _) _) hb))
  · have hc : wC m.regs j = false := by simpa using hc
    have C := goal_no (h.alloc (.cells #[.int .i8 op, .int .i8 d, .int .i8 j, .int .i8 b, .int .i64 n] 72)) hm j hj hc
    have e0 : gotoD m j = noD m 4 := by unfold gotoD; rw [if_neg (by show ¬ wC m.regs j = true; rw [hc]; decide)]
    rw [e0]
    go_enter Tryz.func62, Tryz.ntmps62
    go_wp2_with fail
    refine C.mono ?_
    rintro e w1 ⟨rfl, hb⟩
    have HB : Hid (Below w.heap.size w w1) := lb_trans (lb_alloc (Below.refl _ _) _) hb
    unfold stopM
    go_wp2
    exact ⟨rfl, did_no (by decide) HB.out⟩
theorem calls_any (h : PAt w base P s m) (hm : Fine m) (_hp : m.pc < 16384) {op d a b n : Int} (hi : InsIn op d a b n) : Calls Tryz.prog 61 #[.pointer (some ⟨P, 0, none⟩), .agg #[.int .i8 op, .int .i8 d, .int .i8 a, .int .i8 b, .int .i64 n]] w (DidP w base P s m (callsD m a)) := by
  obtain ⟨j, hj0⟩ := Int.eq_ofNat_of_zero_le hi.a0
  have hj : j < 16 := by have := hi.a1; omega
  subst hj0
  by_cases hc : wC m.regs j = true
  · have C := goal_yes (h.alloc (.cells #[.int .i8 op, .int .i8 d, .int .i8 j, .int .i8 b, .int .i64 n] 72)) hm j hj hc
    have hv := (hm.regs j hc).1
    have e0 : callsD m j = callD m (wV m.regs j) := by unfold callsD; rw [if_pos (show rC m j = true from hc)]; rfl
    rw [e0]
    have hP := h.lt
    go_enter Tryz.func61, Tryz.ntmps61
    go_wp2_with fail
    refine C.mono ?_
    rintro e w1 ⟨rfl, hb⟩
    have C3 := link_any ((h.alloc _).keep hb) hm
    go_wp2_with fail
    refine C3.mono ?_
    rintro e w2 ⟨rfl, h1, hu⟩
    go_wp2
    go_ret
    exact did_yes rfl (by simp [callD]; omega) h1 (up_on (lb_trans (lb_alloc (Below.refl _ _) _) hb) hu)
  · have hc : wC m.regs j = false := by simpa using hc
    have C := goal_no (h.alloc (.cells #[.int .i8 op, .int .i8 d, .int .i8 j, .int .i8 b, .int .i64 n] 72)) hm j hj hc
    have e0 : callsD m j = noD m 4 := by unfold callsD; rw [if_neg (by show ¬ wC m.regs j = true; rw [hc]; decide)]
    rw [e0]
    go_enter Tryz.func61, Tryz.ntmps61
    go_wp2_with fail
    refine C.mono ?_
    rintro e w1 ⟨rfl, hb⟩
    have HB : Hid (Below w.heap.size w w1) := lb_trans (lb_alloc (Below.refl _ _) _) hb
    unfold stopM
    go_wp2
    exact ⟨rfl, did_no (by decide) HB.out⟩
theorem zero_any (h : PAt w base P s m) (hm : Fine m) (hp : m.pc < 16384) {op d a b n : Int} (hi : InsIn op d a b n) (hq : op = 16) : Calls Tryz.prog 59 #[.pointer (some ⟨P, 0, none⟩), .agg #[.int .i8 op, .int .i8 d, .int .i8 a, .int .i8 b, .int .i64 n]] w (DidP w base P s m (zeroD m a n)) := by
  obtain ⟨j, hj0⟩ := Int.eq_ofNat_of_zero_le hi.a0
  have hj : j < 16 := by have := hi.a1; omega
  subst hj0
  have hn := (hi.pl (.inr (.inl hq))).1
  clear hq
  obtain ⟨c0, c1, c34, c35, c36, c37, c38, c39⟩ := h.cells hm.sixteen
  have hpc := hm.pc
  have hP := h.lt
  by_cases hc : wC m.regs j = true
  · have C := number_no (h.alloc (.cells #[.int .i8 op, .int .i8 d, .int .i8 j, .int .i8 b, .int .i64 n] 72)) hm j hj hc
    have e0 : zeroD m j n = noD m 4 := by unfold zeroD; rw [if_pos (show rC m j = true from hc)]
    rw [e0]
    go_enter Tryz.func59, Tryz.ntmps59
    go_wp2_with fail
    refine C.mono ?_
    rintro e w1 ⟨rfl, hb⟩
    have HB : Hid (Below w.heap.size w w1) := lb_trans (lb_alloc (Below.refl _ _) _) hb
    unfold stopM
    go_wp2
    exact ⟨rfl, did_no (by decide) HB.out⟩
  · have hc : wC m.regs j = false := by simpa using hc
    have C := number_yes (h.alloc (.cells #[.int .i8 op, .int .i8 d, .int .i8 j, .int .i8 b, .int .i64 n] 72)) hm j hj hc
    have e0 : zeroD m j n = if wV m.regs j = 0 then goD m n else ⟨0, m, m.pc + 1⟩ := by unfold zeroD; rw [if_neg (by show ¬ wC m.regs j = true; rw [hc]; decide)]; rfl
    rw [e0]
    by_cases hz : wV m.regs j = 0
    · rw [if_pos hz]
      rw [hz] at C
      go_enter Tryz.func59, Tryz.ntmps59
      go_wp2_with fail
      refine C.mono ?_
      rintro e w1 ⟨rfl, hb⟩
      have x4 : w1.cell? ⟨w.heap.size, 4, none⟩ = some (.int .i64 n) := lkeep hb (by simp [go_sem])
      go_wp2
      go_ret
      exact did_yes rfl (by simp [goD]; omega) ((h.alloc _).keep hb) (Upto.of (lb_trans (lb_alloc (Below.refl _ _) _) hb))
    · rw [if_neg hz]
      have hz2 : (wV m.regs j == 0) = false := by simpa using hz
      go_enter Tryz.func59, Tryz.ntmps59
      go_wp2_with fail
      refine C.mono ?_
      rintro e w1 ⟨rfl, hb⟩
      have k36 : w1.cell? ⟨P, 36, none⟩ = some (.int .i64 m.pc) := ((h.alloc _).keep hb |>.cells hm.sixteen).2.2.2.2.1
      clear c0 c1 c34 c35 c36 c37 c38 c39
      go_wp2
      go_ret
      exact did_yes rfl rfl ((h.alloc _).keep hb) (Upto.of (lb_trans (lb_alloc (Below.refl _ _) _) hb))
end



end Go.Proofs.YtgkdagnpefgjcaaGreat

namespace Go.Proofs.YtgkdagnpefgjcaaGreat
open Go.RowKit

section
variable {w : World} {base P : Nat} {s : Loc} {m : Mach}
set_option maxHeartbeats 1000000 in
theorem calc_did (h : PAt w base P s m) (hm : Fine m) (_hp : m.pc < 16384) {op d a b n : Int} (hi : InsIn op d a b n) : Calls Tryz.prog 53 #[.pointer (some ⟨P, 0, none⟩), .agg #[.int .i8 op, .int .i8 d, .int .i8 a, .int .i8 b, .int .i64 n]] w (DidP w base P s m (calcD m op d a b)) := by
  obtain ⟨k, hk0⟩ := Int.eq_ofNat_of_zero_le hi.d0
  have hk : k < 16 := by have := hi.d1; omega
  subst hk0
  obtain ⟨j, hj0⟩ := Int.eq_ofNat_of_zero_le hi.a0
  have hj : j < 16 := by have := hi.a1; omega
  subst hj0
  obtain ⟨i, hi0⟩ := Int.eq_ofNat_of_zero_le hi.b0
  have hi2 : i < 16 := by have := hi.b1; omega
  subst hi0
  have zk : (0 : Int) ≤ (k : Int) := Int.natCast_nonneg _
  have yk : (k : Int) < 16 := by omega
  have zj : (0 : Int) ≤ (j : Int) := Int.natCast_nonneg _
  have yj : (j : Int) < 16 := by omega
  have zi : (0 : Int) ≤ (i : Int) := Int.natCast_nonneg _
  have yi : (i : Int) < 16 := by omega
  obtain ⟨W0, HW⟩ : ∃ W0, Hid (w.alloc (.cells #[.int .i8 op, .int .i8 k, .int .i8 j, .int .i8 i, .int .i64 n] 72) = W0) := ⟨_, rfl⟩
  have x0 : W0.cell? ⟨w.heap.size, 0, none⟩ = some (.int .i8 op) := by rw [← HW.out]; simp [go_sem]
  have x1 : W0.cell? ⟨w.heap.size, 1, none⟩ = some (.int .i8 k) := by rw [← HW.out]; simp [go_sem]
  have x2 : W0.cell? ⟨w.heap.size, 2, none⟩ = some (.int .i8 j) := by rw [← HW.out]; simp [go_sem]
  have x3 : W0.cell? ⟨w.heap.size, 3, none⟩ = some (.int .i8 i) := by rw [← HW.out]; simp [go_sem]
  have x4 : W0.cell? ⟨w.heap.size, 4, none⟩ = some (.int .i64 n) := by rw [← HW.out]; simp [go_sem]
  have h0 : PAt W0 base P s m := by rw [← HW.out]; exact h.alloc _
  have HB0 : Hid (Below w.heap.size w W0) := by unfold Hid; rw [← HW.out]; exact lb_alloc (Below.refl _ _) _
  have hz0 : w.heap.size < W0.heap.size := by rw [← HW.out]; simp
  have hP := h.lt
  have hWW := Below.refl W0.heap.size W0
  obtain ⟨d0, d1⟩ := h0.reg hm.sixteen hj
  obtain ⟨b0, b1⟩ := h0.reg hm.sixteen hi2
  have C1 := calc_any op (wV m.regs j) (wV m.regs i) (wC m.regs j) (wC m.regs i)
  have HE : Hid (calcE op (wC m.regs j) (wC m.regs i) = cE m op j i) := rfl
  have HV : Hid (calcV op (wV m.regs j) (wV m.regs i) (wC m.regs j) (wC m.regs i) = cV m op j i) := rfl
  rw [HE.out, HV.out] at C1
  have HD : Hid (calcD m op k j i = if cE m op j i = 0 then putD m k (cV m op j i, false) else noD m (cE m op j i)) := rfl
  rw [HD.out]
  clear HE HV HD
  generalize cV m op j i = V at *
  generalize cE m op j i = E at *
  go_enter Tryz.func53, Tryz.ntmps53
  go_upto_region 1 with fail
  rw [HW.out]
  clear HW
  go_cut [5, 6] (fun x y wx => ∃ p, x = .pointer (some ⟨p, 0, none⟩) ∧ y = .int .i8 E ∧ wx.cell? ⟨p, 0, none⟩ = some (.int .i64 V) ∧ wx.cell? ⟨p, 1, none⟩ = some (.bool false) ∧ Hid (Below W0.heap.size W0 wx))
  case first =>
    go_region_held3 (fun W => Below W0.heap.size W0 W ∧ W.cell? ⟨w.heap.size, 0, none⟩ = some (.int .i8 op) ∧ W.cell? ⟨w.heap.size, 2, none⟩ = some (.int .i8 j) ∧ W.cell? ⟨w.heap.size, 3, none⟩ = some (.int .i8 i) ∧ W.cell? ⟨P, 2 + j * 2, none⟩ = some (.int .i64 (wV m.regs j)) ∧ W.cell? ⟨P, 2 + j * 2 + 1, none⟩ = some (.bool (wC m.regs j)) ∧ W.cell? ⟨P, 2 + i * 2, none⟩ = some (.int .i64 (wV m.regs i)) ∧ W.cell? ⟨P, 2 + i * 2 + 1, none⟩ = some (.bool (wC m.regs i)))
      (first | (refine ⟨?_, lkeep ?_ x0, lkeep ?_ x2, lkeep ?_ x3, lkeep ?_ d0, lkeep ?_ d1, lkeep ?_ b0, lkeep ?_ b1⟩ <;> ((repeat (first | assumption | exact (‹Below _ _ _ ∧ _›).1 | apply Below.drew | apply lb_alloc | apply lb_new | refine lb_trans ?_ hb)); done)))
      (first | (go_at_call 71; refine (C1 _).mono ?_; rintro e w1 ⟨rfl, hb⟩; (first | (refine have_wd W0.heap.size hb ?_ ?_; (refine ⟨?_, ?_, ?_, ?_⟩ <;> (simp [go_sem]; done)); intro e0 e1 e2 e3) | skip)))

    all_goals (
      rename_i hS
      have sB : Hid _ := hS.1
      clear hS
      go_wp2_with fail
      go_meet
      exact ⟨_, rfl, rfl, by first | (simp [go_sem]; done) | (simp [go_sem, *]; done), by first | (simp [go_sem]; done) | (simp [go_sem, *]; done), sB⟩)
  case rest =>
    obtain ⟨p, rfl, rfl, p0, p1, HBc⟩ := hcut
    have h9 : Hid (PAt wc base P s m) := h0.keep HBc.out
    have HB9 : Hid (Below w.heap.size w wc) := lb_trans HB0.out HBc.out
    have q1 : wc.cell? ⟨w.heap.size, 1, none⟩ = some (.int .i8 k) := lkeep HBc.out x1
    clear x0 x1 x2 x3 x4 d0 d1 b0 b1 C1
    by_cases he : E = 0
    · subst he
      have C2 := put_any h9.out hm k hk (V, false)
      have C3 := raise_yes wc
      go_wp2_with (first
        | (go_at_call 72; refine C3.mono ?_; rintro e w1 ⟨rfl, rfl⟩)
        | (go_at_call 70; refine C2.mono ?_; rintro e w1 ⟨rfl, hq, hu⟩))
      go_ret
      exact did_put rfl hq (up_on HB9.out hu)
    · have C3 := raise_no E he wc
      go_wp2_with fail
      refine C3.mono ?_
      rintro e w1 ⟨rfl, rfl⟩
      unfold stopM
      go_wp2
      exact ⟨rfl, did_no he HB9.out⟩
end



end Go.Proofs.YtgkdagnpefgjcaaGreat

namespace Go.Proofs.YtgkdagnpefgjcaaGreat
open Go.RowKit

section
variable {w : World} {base P : Nat} {s : Loc} {m : Mach}
theorem PAt.store (h : PAt w base P s m) {g q : Nat} (hM : s.M = some ⟨g, 0, none⟩) (hq : q < m.mem.length) (x : Wd) : PAt ((w.setCell ⟨g, q * 2, none⟩ (.int .i64 x.1)).setCell ⟨g, q * 2 + 1, none⟩ (.bool x.2)) base P s (storeM m q x) := by
  have hl := wVals_len m.mem
  have hgb : (Value.slice s.M m.mem.length s.mc).ownBlock = some g := by rw [own_aB, hM]; rfl
  have ho : ∀ b, b ≠ g → ((w.setCell ⟨g, q * 2, none⟩ (.int .i64 x.1)).setCell ⟨g, q * 2 + 1, none⟩ (.bool x.2)).heap[b]? = w.heap[b]? := fun b hb => (Below.heap_setCell _ _ _ _ hb).trans (Below.heap_setCell _ _ _ _ hb)
  rcases h.mem.2 with ⟨e, e0⟩ | ⟨g2, cap, cur, e, hb, hg, hc, hx, hs, ht⟩
  · omega
  · simp only [Value.slice.injEq] at e
    obtain ⟨e3, -, e4⟩ := e
    rw [hM] at e3
    simp only [Option.some.injEq, Addr.mk.injEq, and_true] at e3
    subst e3 e4
    have hne : ∀ {e : TypeId} {z n b : Nat} {v : Value} {xs : List Value}, w.ownsRow base e z v n xs → v.ownBlock = some b → e ≠ 65 → b ≠ g := fun ho hv ne => own_ne ho hv hg ne
    have hgP : g ≠ P := own_ne h.mem hgb h.box (by decide)
    refine ⟨?_, h.bP, own_stay h.text fun b e => ho b (hne h.text e (by decide)), own_stay h.tape fun b e => ho b (hne h.tape e (by decide)), ?_, own_stay h.ports fun b e => ho b (hne h.ports e (by decide))⟩
    · rw [ho P (fun e => hgP e.symm), h.box]
      simp [boxM, hdM, tlM, storeM]
    · have hlen : (storeM m q x).mem.length = m.mem.length := by simp [storeM]
      rw [hlen]
      refine ⟨by rw [wVals_len, hlen], .inr ⟨g, s.mc, _, by rw [hM], hb, box_set (box_set hg _ _) _ _, hc, hx, by simpa using hs, ?_⟩⟩
      simp only [Array.toList_setIfInBounds, List.take_set]
      rw [ht]
      exact wVals_set x
theorem but_up {W0 W : World} {g : Nat} (h : But g W0 W) (hf : Foot s P g) : Upto (Foot s P) W0 W := ⟨h.1, h.2.1, h.2.2.1, h.2.2.2.1, fun b hb hn => h.2.2.2.2 b hb (fun e => hn (by rw [e]; exact hf))⟩
set_option maxHeartbeats 2000000 in
theorem store_did (h : PAt w base P s m) (hm : Fine m) (hp : m.pc < 16384) {op d a b n : Int} (hi : InsIn op d a b n) : Calls Tryz.prog 55 #[.pointer (some ⟨P, 0, none⟩), .agg #[.int .i8 op, .int .i8 d, .int .i8 a, .int .i8 b, .int .i64 n]] w (DidP w base P s m (storeD m a b n)) := by
  obtain ⟨j, hj0⟩ := Int.eq_ofNat_of_zero_le hi.a0
  have hj : j < 16 := by have := hi.a1; omega
  subst hj0
  obtain ⟨i, hi0⟩ := Int.eq_ofNat_of_zero_le hi.b0
  have hi2 : i < 16 := by have := hi.b1; omega
  subst hi0
  have zj : (0 : Int) ≤ (j : Int) := Int.natCast_nonneg _
  have yj : (j : Int) < 16 := by omega
  have zi : (0 : Int) ≤ (i : Int) := Int.natCast_nonneg _
  have yi : (i : Int) < 16 := by omega
  by_cases he : aE m j n = 0
  · obtain ⟨r0, r1⟩ := aV_range he
    obtain ⟨q, hq0⟩ := Int.eq_ofNat_of_zero_le r0
    have hq : q < m.mem.length := by omega
    have e0 : storeD m j i n = ⟨0, storeM m q (wV m.regs i, wC m.regs i), m.pc + 1⟩ := by unfold storeD; rw [if_pos he, hq0]; rfl
    rw [e0]
    have C1 := fun (W : World) (h : PAt W base P s m) => address_yes (op := op) (d := d) (b := i) (n := n) h hm hj he
    rw [hq0] at C1
    clear he hq0 e0 r0 r1
    have zq : (0 : Int) ≤ (q : Int) := Int.natCast_nonneg _
    have yq : (q : Int) < (m.mem.length : Int) := by omega
    obtain ⟨W0, HW⟩ : ∃ W0, Hid (w.alloc (.cells #[.int .i8 op, .int .i8 d, .int .i8 j, .int .i8 i, .int .i64 n] 72) = W0) := ⟨_, rfl⟩
    have x0 : W0.cell? ⟨w.heap.size, 0, none⟩ = some (.int .i8 op) := by rw [← HW.out]; simp [go_sem]
    have x1 : W0.cell? ⟨w.heap.size, 1, none⟩ = some (.int .i8 d) := by rw [← HW.out]; simp [go_sem]
    have x2 : W0.cell? ⟨w.heap.size, 2, none⟩ = some (.int .i8 j) := by rw [← HW.out]; simp [go_sem]
    have x3 : W0.cell? ⟨w.heap.size, 3, none⟩ = some (.int .i8 i) := by rw [← HW.out]; simp [go_sem]
    have x4 : W0.cell? ⟨w.heap.size, 4, none⟩ = some (.int .i64 n) := by rw [← HW.out]; simp [go_sem]
    have h0 : PAt W0 base P s m := by rw [← HW.out]; exact h.alloc _
    have HB0 : Hid (Below w.heap.size w W0) := by unfold Hid; rw [← HW.out]; exact lb_alloc (Below.refl _ _) _
    have hz0 : w.heap.size < W0.heap.size := by rw [← HW.out]; simp
    have hP := h.lt
    have hWW := Below.refl W0.heap.size W0
    obtain ⟨g, hM, hcap, m0, m1, m2, m3⟩ := h0.word hq
    have hgP : P ≠ g := fun e => own_ne h0.mem (by rw [own_aB, hM]; rfl) h0.box (by decide) e.symm
    have hml := hm.mlen
    have hpc := hm.pc
    obtain ⟨-, -, c34, -, -⟩ := h0.cells hm.sixteen
    obtain ⟨d0, d1⟩ := h0.reg hm.sixteen hi2
    have HM : Hid (s.M = some ⟨g, 0, none⟩) := hM
    have HF : Hid (Foot s P g) := .inr (.inr (.inr (.inl (by rw [hM]; rfl))))
    rw [hM] at c34
    have hN0 := But.refl g W0
    have hne : w.heap.size ≠ g := by
      have := (h.foot (b := g) (.inr (.inr (.inr (.inl (by rw [hM]; rfl)))))).2
      omega
    clear hM hWW
    go_enter Tryz.func55, Tryz.ntmps55
    go_upto_region 1 with fail
    rw [HW.out]
    clear HW h
    go_region_held3 (fun W => But g W0 W ∧ W.cell? ⟨w.heap.size, 0, none⟩ = some (.int .i8 op) ∧ W.cell? ⟨w.heap.size, 1, none⟩ = some (.int .i8 d) ∧ W.cell? ⟨w.heap.size, 2, none⟩ = some (.int .i8 j) ∧ W.cell? ⟨w.heap.size, 3, none⟩ = some (.int .i8 i) ∧ W.cell? ⟨w.heap.size, 4, none⟩ = some (.int .i64 n) ∧ W.cell? ⟨P, 34, none⟩ = some (.slice (some ⟨g, 0, none⟩) m.mem.length s.mc) ∧ W.cell? ⟨P, 2 + i * 2, none⟩ = some (.int .i64 (wV m.regs i)) ∧ W.cell? ⟨P, 2 + i * 2 + 1, none⟩ = some (.bool (wC m.regs i)))
      (first | exact ⟨((hN.set _ _).set _ _), But.cell ((hN.set _ _).set _ _) (p := ⟨w.heap.size, 0, none⟩) hne x0, But.cell ((hN.set _ _).set _ _) (p := ⟨w.heap.size, 1, none⟩) hne x1, But.cell ((hN.set _ _).set _ _) (p := ⟨w.heap.size, 2, none⟩) hne x2, But.cell ((hN.set _ _).set _ _) (p := ⟨w.heap.size, 3, none⟩) hne x3, But.cell ((hN.set _ _).set _ _) (p := ⟨w.heap.size, 4, none⟩) hne x4, But.cell ((hN.set _ _).set _ _) (p := ⟨P, 34, none⟩) hgP c34, But.cell ((hN.set _ _).set _ _) (p := ⟨P, 2 + i * 2, none⟩) hgP d0, But.cell ((hN.set _ _).set _ _) (p := ⟨P, 2 + i * 2 + 1, none⟩) hgP d1⟩ | exact ⟨hN, But.cell hN (p := ⟨w.heap.size, 0, none⟩) hne x0, But.cell hN (p := ⟨w.heap.size, 1, none⟩) hne x1, But.cell hN (p := ⟨w.heap.size, 2, none⟩) hne x2, But.cell hN (p := ⟨w.heap.size, 3, none⟩) hne x3, But.cell hN (p := ⟨w.heap.size, 4, none⟩) hne x4, But.cell hN (p := ⟨P, 34, none⟩) hgP c34, But.cell hN (p := ⟨P, 2 + i * 2, none⟩) hgP d0, But.cell hN (p := ⟨P, 2 + i * 2 + 1, none⟩) hgP d1⟩ | exact ⟨hN0, But.cell hN0 (p := ⟨w.heap.size, 0, none⟩) hne x0, But.cell hN0 (p := ⟨w.heap.size, 1, none⟩) hne x1, But.cell hN0 (p := ⟨w.heap.size, 2, none⟩) hne x2, But.cell hN0 (p := ⟨w.heap.size, 3, none⟩) hne x3, But.cell hN0 (p := ⟨w.heap.size, 4, none⟩) hne x4, But.cell hN0 (p := ⟨P, 34, none⟩) hgP c34, But.cell hN0 (p := ⟨P, 2 + i * 2, none⟩) hgP d0, But.cell hN0 (p := ⟨P, 2 + i * 2 + 1, none⟩) hgP d1⟩)
      (first
        | (go_at_call 73; refine (C1 _ (by first | exact h1 | exact h1.drew | exact h0 | exact h0.drew)).mono ?_; rintro e w1 ⟨rfl, hb⟩; have h1 : PAt w1 base P s m := PAt.keep (by first | exact h1 | exact h1.drew | exact h0 | exact h0.drew) hb; have hN : But g W0 w1 := But.on hN0 (lb_trans (Below.drew (Below.refl _ _)) hb); have m4 : w1.cell? ⟨g, q * 2, none⟩ = some (.int .i64 (wV m.mem q)) := lkeep hb m0; have m5 : w1.cell? ⟨g, q * 2 + 1, none⟩ = some (.bool (wC m.mem q)) := lkeep hb m1; have m6 : w1.frozen? ⟨g, q * 2, none⟩ = false := (hb.frozen (p := ⟨g, q * 2, none⟩) (World.block_lt_of_cell? W0 _ m0)).trans m2; have m7 : w1.frozen? ⟨g, q * 2 + 1, none⟩ = false := (hb.frozen (p := ⟨g, q * 2 + 1, none⟩) (World.block_lt_of_cell? W0 _ m1)).trans m3))
    all_goals (
      rename_i hS
      clear hS
      have h8 : Hid _ := PAt.store h1 HM.out hq (wV m.regs i, wC m.regs i)
      have k36 : ((w1.setCell ⟨g, q * 2, none⟩ (.int .i64 (wV m.regs i))).setCell ⟨g, q * 2 + 1, none⟩ (.bool (wC m.regs i))).cell? ⟨P, 36, none⟩ = some (.int .i64 m.pc) := (h8.out.cells hm.sixteen).2.2.2.2.1
      go_wp2
      go_ret
      exact did_yes rfl rfl h8.out (up_on HB0.out (but_up ((hN.set _ _).set _ _) HF.out)))
  · have e0 : storeD m j i n = noD m (aE m j n) := by unfold storeD; rw [if_neg he]
    rw [e0]
    have C1 := fun (W : World) (h : PAt W base P s m) => address_no (op := op) (d := d) (b := i) (n := n) h hm hj he
    have HE : Hid (¬ aE m j n = 0) := he
    clear he e0
    generalize aE m j n = E at *
    obtain ⟨W0, HW⟩ : ∃ W0, Hid (w.alloc (.cells #[.int .i8 op, .int .i8 d, .int .i8 j, .int .i8 i, .int .i64 n] 72) = W0) := ⟨_, rfl⟩
    have x0 : W0.cell? ⟨w.heap.size, 0, none⟩ = some (.int .i8 op) := by rw [← HW.out]; simp [go_sem]
    have x1 : W0.cell? ⟨w.heap.size, 1, none⟩ = some (.int .i8 d) := by rw [← HW.out]; simp [go_sem]
    have x2 : W0.cell? ⟨w.heap.size, 2, none⟩ = some (.int .i8 j) := by rw [← HW.out]; simp [go_sem]
    have x3 : W0.cell? ⟨w.heap.size, 3, none⟩ = some (.int .i8 i) := by rw [← HW.out]; simp [go_sem]
    have x4 : W0.cell? ⟨w.heap.size, 4, none⟩ = some (.int .i64 n) := by rw [← HW.out]; simp [go_sem]
    have h0 : PAt W0 base P s m := by rw [← HW.out]; exact h.alloc _
    have HB0 : Hid (Below w.heap.size w W0) := by unfold Hid; rw [← HW.out]; exact lb_alloc (Below.refl _ _) _
    have hz0 : w.heap.size < W0.heap.size := by rw [← HW.out]; simp
    have hP := h.lt
    have hWW := Below.refl W0.heap.size W0
    have hml := hm.mlen
    obtain ⟨-, -, c34, -⟩ := h0.cells hm.sixteen
    obtain ⟨d0, d1⟩ := h0.reg hm.sixteen hi2
    clear hWW
    go_enter Tryz.func55, Tryz.ntmps55
    go_upto_region 1 with fail
    rw [HW.out]
    clear HW h
    go_region_law (go_simp; go_at_call 73; refine (C1 _ (by first | exact h1 | exact h1.drew | exact h0 | exact h0.drew)).mono ?_; rintro e w1 ⟨rfl, hb⟩; refine by_stop ⟨rfl, did_no HE.out (lb_trans HB0.out (lb_trans (Below.drew (Below.refl _ _)) hb))⟩ w1 ?_)
    all_goals trivial
end



end Go.Proofs.YtgkdagnpefgjcaaGreat
