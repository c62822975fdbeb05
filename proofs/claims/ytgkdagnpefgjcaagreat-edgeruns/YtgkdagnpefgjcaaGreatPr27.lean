/-
  Deeds of the program's machine: store. Deeds of the program's machine: in. The program's machine: the instruction at which it stands; the table of deeds.
-/
import Derived.Test.YtgkdagnpefgjcaaGreatProg
import Derived.WalkKit
import Derived.WalkSpells
import Derived.WalkLawsBesides
import Derived.RowKit3
import Derived.Below
import Derived.Deep.QuietTactic
import Derived.BigQuiet
import Derived.WalkSmall
import Derived.Laws.Rows
import Derived.Deep.DeepCutAuto
import Derived.Deep.RegionLaw
import Derived.Deep.RegionHeld3
import Derived.Laws.Pointers
import Derived.Outline
import Derived.StillTactics
import Derived.Test.YtgkdagnpefgjcaaGreatPr24
import Derived.Test.YtgkdagnpefgjcaaGreatPr23
namespace Go.Proofs.YtgkdagnpefgjcaaGreat
open Go.RowKit

section
variable {w : World} {base P : Nat} {s : Loc} {m : Mach}
theorem PAt.store (h : PAt w base P s m) {g q : Nat} (hM : s.M = some ⟨g, 0, none⟩) (hq : q < m.mem.length) (x : Wd) : PAt ((w.setCell ⟨g, q * 2, none⟩ (.int .i64 x.1)).setCell ⟨g, q * 2 + 1, none⟩ (.bool x.2)) base P s (storeM m q x) := by
  have hl := wVals_len m.mem
  have hgb : (Value.slice s.M m.mem.length s.mc).ownBlock = some g := by rw [own_aB, hM]; rfl
  have ho : ∀ b, b ≠ g → ((w.setCell ⟨g, q * 2, none⟩ (.int .i64 x.1)).setCell ⟨g, q * 2 + 1, none⟩ (.bool x.2)).heap[b]? = w.heap[b]? := fun b hb => (Below.heap_setCell _ _ _ _ hb).trans (Below.heap_setCell _ _ _ _ hb)
  rcases h.mem.2 with ⟨e, e0⟩ | ⟨g2, cap, cur, e, hb, hg, hc, hx, hs, ht⟩
  · omega
  · simp only [Value.slice.injEq] at e
    obtain ⟨e3, -, e4⟩ := e
    rw [hM] at e3
    simp only [Option.some.injEq, Addr.mk.injEq, and_true] at e3
    subst e3 e4
    have hne : ∀ {e : TypeId} {z n b : Nat} {v : Value} {xs : List Value}, w.ownsRow base e z v n xs → v.ownBlock = some b → e ≠ 65 → b ≠ g := fun ho hv ne => own_ne ho hv hg ne
    have hgP : g ≠ P := own_ne h.mem hgb h.box (by decide)
    refine ⟨?_, h.bP, own_stay h.text fun b e => ho b (hne h.text e (by decide)), own_stay h.tape fun b e => ho b (hne h.tape e (by decide)), ?_, own_stay h.ports fun b e => ho b (hne h.ports e (by decide))⟩
    · rw [ho P (fun e => hgP e.symm), h.box]
      simp [boxM, hdM, tlM, storeM]
    · have hlen : (storeM m q x).mem.length = m.mem.length := by simp [storeM]
      rw [hlen]
      refine ⟨by rw [wVals_len, hlen], .inr ⟨g, s.mc, _, by rw [hM], hb, box_set (box_set hg _ _) _ _, hc, hx, by simpa using hs, ?_⟩⟩
      simp only [Array.toList_setIfInBounds, List.take_set]
      rw [ht]
      exact wVals_set x
theorem but_up {W0 W : World} {g : Nat} (h : But g W0 W) (hf : Foot s P g) : Upto (Foot s P) W0 W := ⟨h.1, h.2.1, h.2.2.1, h.2.2.2.1, fun b hb hn => h.2.2.2.2 b hb (fun e => hn (by rw [e]; exact hf))⟩
set_option maxHeartbeats 2000000 in
theorem store_did (h : PAt w base P s m) (hm : Fine m) (hp : m.pc < 16384) {op d a b n : Int} (hi : InsIn op d a b n) : Calls Tryz.prog 55 #[.pointer (some ⟨P, 0, none⟩), .agg #[.int .i8 op, .int .i8 d, .int .i8 a, .int .i8 b, .int .i64 n]] w (DidP w base P s m (storeD m a b n)) := by
  obtain ⟨j, hj0⟩ := Int.eq_ofNat_of_zero_le hi.a0
  have hj : j < 16 := by have := hi.a1; omega
  subst hj0
  obtain ⟨i, hi0⟩ := Int.eq_ofNat_of_zero_le hi.b0
  have hi2 : i < 16 := by have := hi.b1; omega
  subst hi0
  have zj : (0 : Int) ≤ (j : Int) := Int.natCast_nonneg _
  have yj : (j : Int) < 16 := by omega
  have zi : (0 : Int) ≤ (i : Int) := Int.natCast_nonneg _
  have yi : (i : Int) < 16 := by omega
  by_cases he : aE m j n = 0
  · obtain ⟨r0, r1⟩ := aV_range he
    obtain ⟨q, hq0⟩ := Int.eq_ofNat_of_zero_le r0
    have hq : q < m.mem.length := by omega
    have e0 : storeD m j i n = ⟨0, storeM m q (wV m.regs i, wC m.regs i), m.pc + 1⟩ := by unfold storeD; rw [if_pos he, hq0]; rfl
    rw [e0]
    have C1 := fun (W : World) (h : PAt W base P s m) => address_yes (op := op) (d := d) (b := i) (n := n) h hm hj he
    rw [hq0] at C1
    clear he hq0 e0 r0 r1
    have zq : (0 : Int) ≤ (q : Int) := Int.natCast_nonneg _
    have yq : (q : Int) < (m.mem.length : Int) := by omega
    obtain ⟨W0, HW⟩ : ∃ W0, Hid (w.alloc (.cells #[.int .i8 op, .int .i8 d, .int .i8 j, .int .i8 i, .int .i64 n] 72) = W0) := ⟨_, rfl⟩
    have x0 : W0.cell? ⟨w.heap.size, 0, none⟩ = some (.int .i8 op) := by rw [← HW.out]; simp [go_sem]
    have x1 : W0.cell? ⟨w.heap.size, 1, none⟩ = some (.int .i8 d) := by rw [← HW.out]; simp [go_sem]
    have x2 : W0.cell? ⟨w.heap.size, 2, none⟩ = some (.int .i8 j) := by rw [← HW.out]; simp [go_sem]
    have x3 : W0.cell? ⟨w.heap.size, 3, none⟩ = some (.int .i8 i) := by rw [← HW.out]; simp [go_sem]
    have x4 : W0.cell? ⟨w.heap.size, 4, none⟩ = some (.int .i64 n) := by rw [← HW.out]; simp [go_sem]
    have h0 : PAt W0 base P s m := by rw [← HW.out]; exact h.alloc _
    have HB0 : Hid (Below w.heap.size w W0) := by unfold Hid; rw [← HW.out]; exact lb_alloc (Below.refl _ _) _
    have hz0 : w.heap.size < W0.heap.size := by rw [← HW.out]; simp
    have hP := h.lt
    have hWW := Below.refl W0.heap.size W0
    obtain ⟨g, hM, hcap, m0, m1, m2, m3⟩ := h0.word hq
    have hgP : P ≠ g := fun e => own_ne h0.mem (by rw [own_aB, hM]; rfl) h0.box (by decide) e.symm
    have hml := hm.mlen
    have hpc := hm.pc
    obtain ⟨-, -, c34, -, -⟩ := h0.cells hm.sixteen
    obtain ⟨d0, d1⟩ := h0.reg hm.sixteen hi2
    have HM : Hid (s.M = some ⟨g, 0, none⟩) := hM
    have HF : Hid (Foot s P g) := .inr (.inr (.inr (.inl (by rw [hM]; rfl))))
    rw [hM] at c34
    have hN0 := But.refl g W0
    have hne : w.heap.size ≠ g := by
      have := (h.foot (b := g) (.inr (.inr (.inr (.inl (by rw [hM]; rfl)))))).2
      omega
    clear hM hWW
    go_enter Tryz.func55, Tryz.ntmps55
    go_upto_region 1 with fail
    rw [HW.out]
    clear HW h
    go_region_held3 (fun W => But g W0 W ∧ W.cell? ⟨w.heap.size, 0, none⟩ = some (.int .i8 op) ∧ W.cell? ⟨w.heap.size, 1, none⟩ = some (.int .i8 d) ∧ W.cell? ⟨w.heap.size, 2, none⟩ = some (.int .i8 j) ∧ W.cell? ⟨w.heap.size, 3, none⟩ = some (.int .i8 i) ∧ W.cell? ⟨w.heap.size, 4, none⟩ = some (.int .i64 n) ∧ W.cell? ⟨P, 34, none⟩ = some (.slice (some ⟨g, 0, none⟩) m.mem.length s.mc) ∧ W.cell? ⟨P, 2 + i * 2, none⟩ = some (.int .i64 (wV m.regs i)) ∧ W.cell? ⟨P, 2 + i * 2 + 1, none⟩ = some (.bool (wC m.regs i)))
      (first | exact ⟨((hN.set _ _).set _ _), But.cell ((hN.set _ _).set _ _) (p := ⟨w.heap.size, 0, none⟩) hne x0, But.cell ((hN.set _ _).set _ _) (p := ⟨w.heap.size, 1, none⟩) hne x1, But.cell ((hN.set _ _).set _ _) (p := ⟨w.heap.size, 2, none⟩) hne x2, But.cell ((hN.set _ _).set _ _) (p := ⟨w.heap.size, 3, none⟩) hne x3, But.cell ((hN.set _ _).set _ _) (p := ⟨w.heap.size, 4, none⟩) hne x4, But.cell ((hN.set _ _).set _ _) (p := ⟨P, 34, none⟩) hgP c34, But.cell ((hN.set _ _).set _ _) (p := ⟨P, 2 + i * 2, none⟩) hgP d0, But.cell ((hN.set _ _).set _ _) (p := ⟨P, 2 + i * 2 + 1, none⟩) hgP d1⟩ | exact ⟨hN, But.cell hN (p := ⟨w.heap.size, 0, none⟩) hne x0, But.cell hN (p := ⟨w.heap.size, 1, none⟩) hne x1, But.cell hN (p := ⟨w.heap.size, 2, none⟩) hne x2, But.cell hN (p := ⟨w.heap.size, 3, none⟩) hne x3, But.cell hN (p := ⟨w.heap.size, 4, none⟩) hne x4, But.cell hN (p := ⟨P, 34, none⟩) hgP c34, But.cell hN (p := ⟨P, 2 + i * 2, none⟩) hgP d0, But.cell hN (p := ⟨P, 2 + i * 2 + 1, none⟩) hgP d1⟩ | exact ⟨hN0, But.cell hN0 (p := ⟨w.heap.size, 0, none⟩) hne x0, But.cell hN0 (p := ⟨w.heap.size, 1, none⟩) hne x1, But.cell hN0 (p := ⟨w.heap.size, 2, none⟩) hne x2, But.cell hN0 (p := ⟨w.heap.size, 3, none⟩) hne x3, But.cell hN0 (p := ⟨w.heap.size, 4, none⟩) hne x4, But.cell hN0 (p := ⟨P, 34, none⟩) hgP c34, But.cell hN0 (p := ⟨P, 2 + i * 2, none⟩) hgP d0, But.cell hN0 (p := ⟨P, 2 + i * 2 + 1, none⟩) hgP d1⟩)
      (first
        | (go_at_call 73; refine (C1 _ (by first | exact h1 | exact h1.drew | exact h0 | exact h0.drew)).mono ?_; rintro e w1 ⟨rfl, hb⟩; have h1 : PAt w1 base P s m := PAt.keep (by first | exact h1 | exact h1.drew | exact h0 | exact h0.drew) hb; have hN : But g W0 w1 := But.on hN0 (lb_trans (Below.drew (Below.refl _ _)) hb); have m4 : w1.cell? ⟨g, q * 2, none⟩ = some (.int .i64 (wV m.mem q)) := lkeep hb m0; have m5 : w1.cell? ⟨g, q * 2 + 1, none⟩ = some (.bool (wC m.mem q)) := lkeep hb m1; have m6 : w1.frozen? ⟨g, q * 2, none⟩ = false := (hb.frozen (p := ⟨g, q * 2, none⟩) (World.block_lt_of_cell? W0 _ m0)).trans m2; have m7 : w1.frozen? ⟨g, q * 2 + 1, none⟩ = false := (hb.frozen (p := ⟨g, q * 2 + 1, none⟩) (World.block_lt_of_cell? W0 _ m1)).trans m3))
    all_goals (
      rename_i hS
      clear hS
      have h8 : Hid _ := PAt.store h1 HM.out hq (wV m.regs i, wC m.regs i)
      have k36 : ((w1.setCell ⟨g, q * 2, none⟩ (.int .i64 (wV m.regs i))).setCell ⟨g, q * 2 + 1, none⟩ (.bool (wC m.regs i))).cell? ⟨P, 36, none⟩ = some (.int .i64 m.pc) := (h8.out.cells hm.sixteen).2.2.2.2.1
      go_wp2
      go_ret
      exact did_yes rfl rfl h8.out (up_on HB0.out (but_up ((hN.set _ _).set _ _) HF.out)))
  · have e0 : storeD m j i n = noD m (aE m j n) := by unfold storeD; rw [if_neg he]
    rw [e0]
    have C1 := fun (W : World) (h : PAt W base P s m) => address_no (op := op) (d := d) (b := i) (n := n) h hm hj he
    have HE : Hid (¬ aE m j n = 0) := he
    clear he e0
    generalize aE m j n = E at *
    obtain ⟨W0, HW⟩ : ∃ W0, Hid (w.alloc (.cells #[.int .i8 op, .int .i8 d, .int .i8 j, .int .i8 i, .int .i64 n] 72) = W0) := ⟨_, rfl⟩
    have x0 : W0.cell? ⟨w.heap.size, 0, none⟩ = some (.int .i8 op) := by rw [← HW.out]; simp [go_sem]
    have x1 : W0.cell? ⟨w.heap.size, 1, none⟩ = some (.int .i8 d) := by rw [← HW.out]; simp [go_sem]
    have x2 : W0.cell? ⟨w.heap.size, 2, none⟩ = some (.int .i8 j) := by rw [← HW.out]; simp [go_sem]
    have x3 : W0.cell? ⟨w.heap.size, 3, none⟩ = some (.int .i8 i) := by rw [← HW.out]; simp [go_sem]
    have x4 : W0.cell? ⟨w.heap.size, 4, none⟩ = some (.int .i64 n) := by rw [← HW.out]; simp [go_sem]
    have h0 : PAt W0 base P s m := by rw [← HW.out]; exact h.alloc _
    have HB0 : Hid (Below w.heap.size w W0) := by unfold Hid; rw [← HW.out]; exact lb_alloc (Below.refl _ _) _
    have hz0 : w.heap.size < W0.heap.size := by rw [← HW.out]; simp
    have hP := h.lt
    have hWW := Below.refl W0.heap.size W0
    have hml := hm.mlen
    obtain ⟨-, -, c34, -⟩ := h0.cells hm.sixteen
    obtain ⟨d0, d1⟩ := h0.reg hm.sixteen hi2
    clear hWW
    go_enter Tryz.func55, Tryz.ntmps55
    go_upto_region 1 with fail
    rw [HW.out]
    clear HW h
    go_region_law (go_simp; go_at_call 73; refine (C1 _ (by first | exact h1 | exact h1.drew | exact h0 | exact h0.drew)).mono ?_; rintro e w1 ⟨rfl, hb⟩; refine by_stop ⟨rfl, did_no HE.out (lb_trans HB0.out (lb_trans (Below.drew (Below.refl _ _)) hb))⟩ w1 ?_)
    all_goals trivial
end



end Go.Proofs.YtgkdagnpefgjcaaGreat

namespace Go.Proofs.YtgkdagnpefgjcaaGreat
open Go.RowKit

section
variable {w : World} {base P : Nat} {s : Loc} {m : Mach}
theorem PAt.num (h : PAt w base P s m) {k : Nat} (hk : k < m.tape.length) : ∃ g, s.X = some ⟨g, 0, none⟩ ∧ m.tape.length ≤ s.xc ∧ w.cell? ⟨g, k, none⟩ = some (.int .i64 (nth m.tape k)) := by
  have e1 := iVals_get (K := .i64) hk
  rcases h.tape.2 with ⟨e, e0⟩ | ⟨g, cap, cur, e, hb, hg, hc, _, hs, ht⟩
  · omega
  · simp only [Value.slice.injEq] at e
    obtain ⟨e3, -, e4⟩ := e
    subst e4
    refine ⟨g, e3, hc, box_at hg ?_⟩
    rw [← ht, List.getElem?_take_of_lt (by omega)] at e1
    simpa using e1
set_option maxHeartbeats 2000000 in
theorem in_did (h : PAt w base P s m) (hm : Fine m) (_hp : m.pc < 16384) {op d a b n : Int} (hi : InsIn op d a b n) : Calls Tryz.prog 56 #[.pointer (some ⟨P, 0, none⟩), .agg #[.int .i8 op, .int .i8 d, .int .i8 a, .int .i8 b, .int .i64 n]] w (DidP w base P s m (inD m d)) := by
  obtain ⟨k, hk0⟩ := Int.eq_ofNat_of_zero_le hi.d0
  have hk : k < 16 := by have := hi.d1; omega
  subst hk0
  have zk : (0 : Int) ≤ (k : Int) := Int.natCast_nonneg _
  have yk : (k : Int) < 16 := by omega
  obtain ⟨c0, c1, c34, c35, c36, c37, c38, c39⟩ := h.cells hm.sixteen
  have htk := hm.taken
  have htl := hm.tape
  have hP := h.lt
  by_cases he : m.taken = m.tape.length
  · have e0 : inD m k = putD m k (0, false) := by unfold inD; rw [if_pos he]
    rw [e0]
    rw [he] at c38
    clear e0 he htk
    have C1 := plain_any 0
    have C2 := fun (W : World) (h : PAt W base P s m) => put_any h hm k hk (0, false)
    have hq0 : ((m.tape.length : Int) == (m.tape.length : Int)) = true := by simp
    go_enter Tryz.func56, Tryz.ntmps56
    go_wp2_with fail
    go_quiet (fail)
    go_wp2_with fail
    go_region_with (first
      | (go_at_call 21; refine (C1 _).mono ?_; rintro e w1 ⟨rfl, rfl⟩)
      | (go_at_call 70; refine (C2 _ (by repeat (first | assumption | apply PAt.drew | apply PAt.drewN | apply PAt.alloc))).mono ?_; rintro e w1 ⟨rfl, hq, hu⟩))
    all_goals (
      go_wp2
      go_ret
      exact did_put rfl hq (Upto.trans (by repeat (first | exact Upto.refl _ _ | apply Upto.drew | apply Upto.drewN | apply Upto.alloc)) hu))
  · have hlt : m.taken < m.tape.length := by omega
    have e0 : inD m k = ⟨0, putM (takeM m) k (nth m.tape m.taken, false), m.pc + 1⟩ := by unfold inD; rw [if_neg he]
    rw [e0]
    have hne0 : ((m.taken : Int) == (m.tape.length : Int)) = false := by simp; omega
    clear e0 he
    have f38 := h.fro 38
    go_enter Tryz.func56, Tryz.ntmps56
    go_wp2_with fail
    go_quiet (fail)
    go_upto_region 4 with fail
    obtain ⟨W0, HW⟩ : ∃ W0, Hid ((((w.alloc (.cells #[.int .i8 op, .int .i8 k, .int .i8 a, .int .i8 b, .int .i64 n] 72)).drewN nq).setCell ⟨P, 38, none⟩ (.int .i64 ((m.taken : Int) + 1))) = W0) := ⟨_, rfl⟩
    have h0 : PAt W0 base P s (takeM m) := by rw [← HW.out]; exact ((h.alloc _).drewN nq).taken hm.sixteen (m.taken + 1)
    have HU : Hid (Upto (Foot s P) w W0) := by unfold Hid; rw [← HW.out]; exact (((Upto.refl _ _).alloc _).drewN nq).set (Or.inl (Or.inl rfl)) _ _
    have hne : w.heap.size ≠ P := by omega
    have HN9 : Hid (But P ((w.alloc (.cells #[.int .i8 op, .int .i8 k, .int .i8 a, .int .i8 b, .int .i64 n] 72)).drewN nq) W0) := by unfold Hid; rw [← HW.out]; exact (But.refl P _).set _ _
    have x1 : W0.cell? ⟨w.heap.size, 1, none⟩ = some (.int .i8 k) := HN9.out.cell (p := ⟨w.heap.size, 1, none⟩) hne (by simp [go_sem])
    rw [HW.out]
    clear HW HN9
    have hm2 : Fine (takeM m) := ⟨hm.sixteen, hm.regs, hm.mem, hm.words, hm.text, hm.some, hm.tape, hm.mlen, hm.pc, hlt, hm.ports⟩
    obtain ⟨g, hX, hcap, t0⟩ := h0.num (k := m.taken) hlt
    have hgP : g ≠ P := own_ne h0.tape (by rw [own_aB, hX]; rfl) h0.box (by decide)
    have C1 := plain_any (nth m.tape m.taken)
    have C2 := fun (W : World) (h : PAt W base P s (takeM m)) => put_near h hm2 k hk (nth m.tape m.taken, false)
    clear c0 c1 c34 c35 c36 c37 c38 c39 f38
    have c1 : W0.cell? ⟨P, 1, none⟩ = some (.slice (some ⟨g, 0, none⟩) m.tape.length s.xc) := by rw [← hX]; exact (h0.cells hm.sixteen).2.1
    have c38 : W0.cell? ⟨P, 38, none⟩ = some (.int .i64 ((m.taken : Int) + 1)) := (h0.cells hm.sixteen).2.2.2.2.2.2.1
    have hN0 := Near.refl P W0
    have hP0 := h0.lt
    have t0 : W0.cell? ⟨g, m.taken, none⟩ = some (.int .i64 (nth m.tape m.taken)) := t0
    have yt : (m.taken : Int) < (m.tape.length : Int) := by omega
    have zt : (0 : Int) ≤ (m.taken : Int) := Int.natCast_nonneg _
    have hcap : m.tape.length ≤ s.xc := hcap
    have wt : IntKind.i64.wrap (m.taken : Int) = (m.taken : Int) := by simp [IntKind.wrap, IntKind.signed, IntKind.bits]; omega
    clear hX h
    go_region_held3 (fun W => Near P W0 W ∧ W.cell? ⟨w.heap.size, 1, none⟩ = some (.int .i8 k) ∧ W.cell? ⟨P, 1, none⟩ = some (.slice (some ⟨g, 0, none⟩) m.tape.length s.xc) ∧ W.cell? ⟨P, 38, none⟩ = some (.int .i64 ((m.taken : Int) + 1)) ∧ W.cell? ⟨g, m.taken, none⟩ = some (.int .i64 (nth m.tape m.taken)))
      (first | exact ⟨hN2, hN2.box hne x1, hN2.tap.trans c1, hN2.tak.trans c38, hN2.box hgP t0⟩ | exact ⟨hN2.drew, hN2.drew.box hne x1, hN2.drew.tap.trans c1, hN2.drew.tak.trans c38, hN2.drew.box hgP t0⟩ | exact ⟨hN, hN.box hne x1, hN.tap.trans c1, hN.tak.trans c38, hN.box hgP t0⟩ | exact ⟨hN.drew, hN.drew.box hne x1, hN.drew.tap.trans c1, hN.drew.tak.trans c38, hN.drew.box hgP t0⟩ | exact ⟨hN0, hN0.box hne x1, hN0.tap.trans c1, hN0.tak.trans c38, hN0.box hgP t0⟩ | exact ⟨hN0.drew, hN0.drew.box hne x1, hN0.drew.tap.trans c1, hN0.drew.tak.trans c38, hN0.drew.box hgP t0⟩)
      (first
        | (go_at_call 21; refine (C1 _).mono ?_; rintro e w1 ⟨rfl, hw1⟩; have hb : Below W0.heap.size W0 w1 := (by rw [hw1]; repeat (first | exact Below.refl _ _ | apply Below.drew | apply lb_alloc)); clear hw1; have h1 : PAt w1 base P s (takeM m) := PAt.keep h0 hb; have hN : Near P W0 w1 := Near.below hN0 hb hP0)
        | (go_at_call 70; refine (C2 _ (by first | exact h1 | exact h1.drew)).mono ?_; rintro e w2 ⟨rfl, hq, hn⟩; have hN2 : Near P W0 w2 := Near.trans (by first | exact hN | exact hN.drew) hn))

    all_goals (
      rename_i hS
      clear hS
      go_wp2_with fail
      go_ret
      exact did_yes rfl rfl hq (HU.out.trans hN2.up))
end



end Go.Proofs.YtgkdagnpefgjcaaGreat

namespace Go.Proofs.YtgkdagnpefgjcaaGreat
open Go.RowKit

section
variable {w : World} {base P : Nat} {s : Loc} {m : Mach}
theorem PAt.ins (h : PAt w base P s m) {k : Nat} (hk : k < m.text.length) : ∃ g, s.T = some ⟨g, 0, none⟩ ∧ m.text.length ≤ s.tc ∧ w.cell? ⟨g, k * 5, none⟩ = some (.int .i8 (dOp (nth m.text k))) ∧ w.cell? ⟨g, k * 5 + 1, none⟩ = some (.int .i8 (dD (nth m.text k))) ∧ w.cell? ⟨g, k * 5 + 2, none⟩ = some (.int .i8 (dA (nth m.text k))) ∧ w.cell? ⟨g, k * 5 + 3, none⟩ = some (.int .i8 (dB (nth m.text k))) ∧ w.cell? ⟨g, k * 5 + 4, none⟩ = some (.int .i64 (dN (nth m.text k))) := by
  obtain ⟨e0, e1, e2, e3, e4⟩ := nVals_get hk
  rcases h.text.2 with ⟨e, e0⟩ | ⟨g, cap, cur, e, hb, hg, hc, _, hs, ht⟩
  · omega
  · simp only [Value.slice.injEq] at e
    obtain ⟨eT, -, eC⟩ := e
    subst eC
    have q : ∀ {i : Nat} {v : Value}, i < m.text.length * 5 → (nVals m.text)[i]? = some v → cur[i]? = some v := by
      intro i v hi hv
      rw [← ht, List.getElem?_take_of_lt hi] at hv
      simpa using hv
    exact ⟨g, eT, hc, box_at hg (q (by omega) e0), box_at hg (q (by omega) e1), box_at hg (q (by omega) e2), box_at hg (q (by omega) e3), box_at hg (q (by omega) e4)⟩
set_option maxHeartbeats 1000000 in
theorem here_end (h : PAt w base P s m) (hm : Fine m) (hp : m.text.length ≤ m.pc) : Calls Tryz.prog 26 #[.pointer (some ⟨P, 0, none⟩)] w fun e w' => e = .returned (.agg #[.int .i8 0, .int .i8 0, .int .i8 0, .int .i8 0, .int .i64 0]) ∧ Below w.heap.size w w' := by
  obtain ⟨c0, c1, c34, c35, c36, c37, c38, c39⟩ := h.cells hm.sixteen
  have hP := h.lt
  have hp2 : (m.text.length : Int) ≤ (m.pc : Int) := by omega
  clear h
  go_enter Tryz.func26, Tryz.ntmps26
  go_wp2_with fail
  go_quiet (fail)
  go_wp2
  refine bodyPost_ret (v := .agg #[.int .i8 0, .int .i8 0, .int .i8 0, .int .i8 0, .int .i64 0]) (by simp [results, Tryz.results26, go_sem]) rfl ⟨rfl, ?_⟩
  repeat (first | exact Below.refl _ _ | apply lb_new | apply below_drewN | apply lb_alloc)
set_option maxHeartbeats 1000000 in
theorem here_ins (h : PAt w base P s m) (hm : Fine m) (hp : m.pc < m.text.length) : Calls Tryz.prog 26 #[.pointer (some ⟨P, 0, none⟩)] w fun e w' => e = .returned (.agg #[.int .i8 (dOp (nth m.text m.pc)), .int .i8 (dD (nth m.text m.pc)), .int .i8 (dA (nth m.text m.pc)), .int .i8 (dB (nth m.text m.pc)), .int .i64 (dN (nth m.text m.pc))]) ∧ Below w.heap.size w w' := by
  obtain ⟨g, hT, hcap, t0, t1, t2, t3, t4⟩ := h.ins hp
  obtain ⟨c0, c1, c34, c35, c36, c37, c38, c39⟩ := h.cells hm.sixteen
  rw [hT] at c0
  have hP := h.lt
  have hg : g < w.heap.size := World.block_lt_of_cell? w _ t0
  have hp2 : (m.pc : Int) < (m.text.length : Int) := by omega
  have hp3 : (0 : Int) ≤ (m.pc : Int) := Int.natCast_nonneg _
  clear h hT
  generalize dOp (nth m.text m.pc) = op at *
  generalize dD (nth m.text m.pc) = d at *
  generalize dA (nth m.text m.pc) = a at *
  generalize dB (nth m.text m.pc) = b at *
  generalize dN (nth m.text m.pc) = n at *
  go_enter Tryz.func26, Tryz.ntmps26
  go_wp2_with fail
  go_quiet (fail)
  go_wp2_with fail
  go_region
  all_goals (
    go_wp2
    refine bodyPost_ret (v := .agg #[.int .i8 op, .int .i8 d, .int .i8 a, .int .i8 b, .int .i64 n]) (by simp [results, Tryz.results26, go_sem]) rfl ⟨rfl, ?_⟩
    repeat (first | exact Below.refl _ _ | apply lb_new | apply below_drewN | apply lb_alloc))
end

def deV : Array Value := #[.func (.func 50) #[] #[], .func (.func 51) #[] #[], .func (.func 52) #[] #[], .func (.func 53) #[] #[], .func (.func 53) #[] #[], .func (.func 53) #[] #[], .func (.func 53) #[] #[], .func (.func 53) #[] #[], .func (.func 53) #[] #[], .func (.func 53) #[] #[], .func (.func 53) #[] #[], .func (.func 54) #[] #[], .func (.func 55) #[] #[], .func (.func 56) #[] #[], .func (.func 57) #[] #[], .func (.func 58) #[] #[], .func (.func 59) #[] #[], .func (.func 60) #[] #[], .func (.func 61) #[] #[], .func (.func 62) #[] #[], .func (.func 63) #[] #[], .func (.func 64) #[] #[]]
def z22 : Array Value := #[.nilFunc, .nilFunc, .nilFunc, .nilFunc, .nilFunc, .nilFunc, .nilFunc, .nilFunc, .nilFunc, .nilFunc, .nilFunc, .nilFunc, .nilFunc, .nilFunc, .nilFunc, .nilFunc, .nilFunc, .nilFunc, .nilFunc, .nilFunc, .nilFunc, .nilFunc]
theorem deeds_new (w : World) (o : Obj) : (w.alloc o).heap[w.heap.size]? = some o := heap_alloc_new w o
theorem deeds_res (w1 : World) (g : Nat) (h : w1.heap[g]? = some (.cells deV 97 (0, 0))) : (results Tryz.f39 #[.pointer (some ⟨g, 0, none⟩), .agg deV]).run Tryz.prog w1 = .ok (.agg deV) w1 := by
  have hl := run_loadVar_row (P := Tryz.prog) w1 g 97 97 deV (0, 0) _ h Tryz.underlying97 rfl (by kernel_rfl)
  have ha : (asAddr (Value.pointer (some ⟨g, 0, none⟩))).run Tryz.prog w1 = .ok ⟨g, 0, none⟩ w1 := rfl
  have hm : (results Tryz.f39 #[.pointer (some ⟨g, 0, none⟩), .agg deV]) = (do
      let vs ← (Tryz.f39.results.mapM fun
        | .tmp t => pure ((#[Value.pointer (some ⟨g, 0, none⟩), .agg deV] : Array Value).getD t undef)
        | .cell a t => do loadVar t (← asAddr ((#[Value.pointer (some ⟨g, 0, none⟩), .agg deV] : Array Value).getD a undef)) : Sem (Array Value))
      pure (if h : vs.size = 1 then vs[0] else .tuple vs)) := rfl
  rw [hm, Tryz.results39]
  have hg0 : (#[Value.pointer (some ⟨g, 0, none⟩), Value.agg deV] : Array Value).getD 0 undef = .pointer (some ⟨g, 0, none⟩) := rfl
  simp only [List.mapM_toArray, List.mapM_cons, List.mapM_nil, map_eq_pure_bind, bind_assoc, pure_bind, Sem.run_bind, Sem.run_pure, Result.andThen_ok, hg0, ha, hl]
  rfl
set_option maxRecDepth 100000 in
theorem deeds_any (w : World) : Calls Tryz.prog 39 #[] w fun e w' => e = .returned (.agg deV) ∧ Below w.heap.size w w' := by
  go_enter Tryz.func39, Tryz.ntmps39
  go_upto_region 1 with fail
  rename_i hK
  apply wp_region_lit
  refine wpList_buildTo rfl 97 _ rfl (some 1) rfl deV (by kernel_rfl) ?_
  refine wpList_store_row rfl 97 _ _ rfl w.heap.size deV rfl rfl 97 z22 (deeds_new _ _) (by kernel_rfl) (by kernel_rfl) (by kernel_rfl) ?_
  apply wpList_nil
  refine hK _ _ (wp_ret ?_)
  exact bodyPost_ret (v := .agg deV) (deeds_res _ _ (setRow_heap _ _ z22 _ _ _ (deeds_new _ _))) rfl ⟨rfl, below_setRow (lb_alloc (Below.refl _ _) _) (Nat.le_refl _) _⟩
theorem index_de0 (w : World) : (Instr.index 97 (.agg deV) (.int .i8 0)).run Tryz.prog w = .ok (.func (.func 50) #[] #[]) w := by kernel_rfl
theorem index_de1 (w : World) : (Instr.index 97 (.agg deV) (.int .i8 1)).run Tryz.prog w = .ok (.func (.func 51) #[] #[]) w := by kernel_rfl
theorem index_de2 (w : World) : (Instr.index 97 (.agg deV) (.int .i8 2)).run Tryz.prog w = .ok (.func (.func 52) #[] #[]) w := by kernel_rfl
theorem index_de3 (w : World) : (Instr.index 97 (.agg deV) (.int .i8 3)).run Tryz.prog w = .ok (.func (.func 53) #[] #[]) w := by kernel_rfl
theorem index_de4 (w : World) : (Instr.index 97 (.agg deV) (.int .i8 4)).run Tryz.prog w = .ok (.func (.func 53) #[] #[]) w := by kernel_rfl
theorem index_de5 (w : World) : (Instr.index 97 (.agg deV) (.int .i8 5)).run Tryz.prog w = .ok (.func (.func 53) #[] #[]) w := by kernel_rfl
theorem index_de6 (w : World) : (Instr.index 97 (.agg deV) (.int .i8 6)).run Tryz.prog w = .ok (.func (.func 53) #[] #[]) w := by kernel_rfl
theorem index_de7 (w : World) : (Instr.index 97 (.agg deV) (.int .i8 7)).run Tryz.prog w = .ok (.func (.func 53) #[] #[]) w := by kernel_rfl
theorem index_de8 (w : World) : (Instr.index 97 (.agg deV) (.int .i8 8)).run Tryz.prog w = .ok (.func (.func 53) #[] #[]) w := by kernel_rfl
theorem index_de9 (w : World) : (Instr.index 97 (.agg deV) (.int .i8 9)).run Tryz.prog w = .ok (.func (.func 53) #[] #[]) w := by kernel_rfl
theorem index_de10 (w : World) : (Instr.index 97 (.agg deV) (.int .i8 10)).run Tryz.prog w = .ok (.func (.func 53) #[] #[]) w := by kernel_rfl
theorem index_de11 (w : World) : (Instr.index 97 (.agg deV) (.int .i8 11)).run Tryz.prog w = .ok (.func (.func 54) #[] #[]) w := by kernel_rfl
theorem index_de12 (w : World) : (Instr.index 97 (.agg deV) (.int .i8 12)).run Tryz.prog w = .ok (.func (.func 55) #[] #[]) w := by kernel_rfl
theorem index_de13 (w : World) : (Instr.index 97 (.agg deV) (.int .i8 13)).run Tryz.prog w = .ok (.func (.func 56) #[] #[]) w := by kernel_rfl
theorem index_de14 (w : World) : (Instr.index 97 (.agg deV) (.int .i8 14)).run Tryz.prog w = .ok (.func (.func 57) #[] #[]) w := by kernel_rfl
theorem index_de15 (w : World) : (Instr.index 97 (.agg deV) (.int .i8 15)).run Tryz.prog w = .ok (.func (.func 58) #[] #[]) w := by kernel_rfl
theorem index_de16 (w : World) : (Instr.index 97 (.agg deV) (.int .i8 16)).run Tryz.prog w = .ok (.func (.func 59) #[] #[]) w := by kernel_rfl
theorem index_de17 (w : World) : (Instr.index 97 (.agg deV) (.int .i8 17)).run Tryz.prog w = .ok (.func (.func 60) #[] #[]) w := by kernel_rfl
theorem index_de18 (w : World) : (Instr.index 97 (.agg deV) (.int .i8 18)).run Tryz.prog w = .ok (.func (.func 61) #[] #[]) w := by kernel_rfl
theorem index_de19 (w : World) : (Instr.index 97 (.agg deV) (.int .i8 19)).run Tryz.prog w = .ok (.func (.func 62) #[] #[]) w := by kernel_rfl
theorem index_de20 (w : World) : (Instr.index 97 (.agg deV) (.int .i8 20)).run Tryz.prog w = .ok (.func (.func 63) #[] #[]) w := by kernel_rfl
theorem index_de21 (w : World) : (Instr.index 97 (.agg deV) (.int .i8 21)).run Tryz.prog w = .ok (.func (.func 64) #[] #[]) w := by kernel_rfl



end Go.Proofs.YtgkdagnpefgjcaaGreat
