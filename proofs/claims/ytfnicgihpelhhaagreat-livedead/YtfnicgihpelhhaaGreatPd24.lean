/-
  Deeds of the program's machine: load. Deeds of the program's machine: store. Deeds of the program's machine: in. Deeds of the program's machine: out.
-/
import Derived.Test.YtfnicgihpelhhaaGreatProg
import Derived.WalkKit
import Derived.WalkSpells
import Derived.WalkLawsBesides
import Derived.RowKit3
import Derived.Below
import Derived.Deep.QuietTactic
import Derived.BigQuiet
import Derived.WalkSmall
import Derived.Laws.Rows
import Derived.Deep.DeepCutAuto
import Derived.Deep.RegionLaw
import Derived.Deep.RegionHeld3
import Derived.Laws.Pointers
import Derived.Outline
import Derived.StillTactics
import Derived.Test.YtfnicgihpelhhaaGreatPd23
import Derived.Test.YtfnicgihpelhhaaGreatPd22
import Derived.Deep.AppendLies
namespace Go.Proofs.YtfnicgihpelhhaaGreat
open Go.RowKit

section
variable {w : World} {base P : Nat} {s : Loc} {m : Mach}
theorem address_yes (h : PAt w base P s m) (hm : Fine m) {op d b n : Int} {j : Nat} (hj : j < 16) (he : aE m j n = 0) : Calls Tryz.prog 118 #[.pointer (some ⟨P, 0, none⟩), .agg #[.int .i8 op, .int .i8 d, .int .i8 j, .int .i8 b, .int .i64 n]] w fun e w' => e = .returned (.int .i64 (aV m j n)) ∧ Below w.heap.size w w' :=
  (address_any h hm hj).mono fun _e _w' k => ⟨k.1.elim (fun x => x.2) (fun x => absurd he x.1), k.2⟩
theorem address_no (h : PAt w base P s m) (hm : Fine m) {op d b n : Int} {j : Nat} (hj : j < 16) (he : ¬ aE m j n = 0) : Calls Tryz.prog 118 #[.pointer (some ⟨P, 0, none⟩), .agg #[.int .i8 op, .int .i8 d, .int .i8 j, .int .i8 b, .int .i64 n]] w fun e w' => e = .panicked [{ v := .iface 113 (.int .i8 (aE m j n)), recovered := false }] ∧ Below w.heap.size w w' :=
  (address_any h hm hj).mono fun _e _w' k => ⟨k.1.elim (fun x => absurd x.1 he) (fun x => x.2), k.2⟩
/-- Where a region ends by a panic, nothing is left of it to be walked. -/
theorem by_stop {G : Prop} (g : G) (w : World) : wpAny Tryz.prog .any #[] (fun _ _ _ => True) 0 #[] ⟨#[], []⟩ w → G := fun _ => g
theorem PAt.word (h : PAt w base P s m) {k : Nat} (hk : k < m.mem.length) : ∃ g, s.M = some ⟨g, 0, none⟩ ∧ m.mem.length ≤ s.mc ∧ w.cell? ⟨g, k * 2, none⟩ = some (.int .i64 (wV m.mem k)) ∧ w.cell? ⟨g, k * 2 + 1, none⟩ = some (.bool (wC m.mem k)) ∧ w.frozen? ⟨g, k * 2, none⟩ = false ∧ w.frozen? ⟨g, k * 2 + 1, none⟩ = false := by
  obtain ⟨e1, e2⟩ := wVals_get hk
  have hl := wVals_len m.mem
  rcases h.mem.2 with ⟨e, e0⟩ | ⟨g, cap, cur, e, hb, hg, hc, _, hs, ht⟩
  · omega
  · simp only [Value.slice.injEq] at e
    obtain ⟨e3, -, e4⟩ := e
    subst e4
    have q : ∀ {i : Nat} {v : Value}, i < m.mem.length * 2 → (wVals m.mem)[i]? = some v → cur[i]? = some v := by
      intro i v hi hv
      rw [← ht, List.getElem?_take_of_lt hi] at hv
      simpa using hv
    exact ⟨g, e3, hc, box_at hg (q (by omega) e1), box_at hg (q (by omega) e2), box_fro hg _, box_fro hg _⟩
set_option maxHeartbeats 2000000 in
theorem load_did (h : PAt w base P s m) (hm : Fine m) (_hp : m.pc < 16384) {op d a b n : Int} (hi : InsIn op d a b n) : Calls Tryz.prog 99 #[.pointer (some ⟨P, 0, none⟩), .agg #[.int .i8 op, .int .i8 d, .int .i8 a, .int .i8 b, .int .i64 n]] w (DidP w base P s m (loadD m d a n)) := by
  obtain ⟨k, hk0⟩ := Int.eq_ofNat_of_zero_le hi.d0
  have hk : k < 16 := by have := hi.d1; omega
  subst hk0
  obtain ⟨j, hj0⟩ := Int.eq_ofNat_of_zero_le hi.a0
  have hj : j < 16 := by have := hi.a1; omega
  subst hj0
  have zk : (0 : Int) ≤ (k : Int) := Int.natCast_nonneg _
  have yk : (k : Int) < 16 := by omega
  have zj : (0 : Int) ≤ (j : Int) := Int.natCast_nonneg _
  have yj : (j : Int) < 16 := by omega
  by_cases he : aE m j n = 0
  · obtain ⟨r0, r1⟩ := aV_range he
    obtain ⟨q, hq0⟩ := Int.eq_ofNat_of_zero_le r0
    have hq : q < m.mem.length := by omega
    have e0 : loadD m k j n = putD m k (wV m.mem q, wC m.mem q) := by unfold loadD; rw [if_pos he, hq0]; rfl
    rw [e0]
    have C1 := fun (W : World) (h : PAt W base P s m) => address_yes (op := op) (d := k) (b := b) (n := n) h hm hj he
    rw [hq0] at C1
    have C2 := fun (W : World) (h : PAt W base P s m) => put_near h hm k hk (wV m.mem q, wC m.mem q)
    clear he hq0 e0 r0 r1
    have zq : (0 : Int) ≤ (q : Int) := Int.natCast_nonneg _
    have yq : (q : Int) < (m.mem.length : Int) := by omega
    obtain ⟨W0, HW⟩ : ∃ W0, Hid (w.alloc (.cells #[.int .i8 op, .int .i8 k, .int .i8 j, .int .i8 b, .int .i64 n] 50) = W0) := ⟨_, rfl⟩
    have x0 : W0.cell? ⟨w.heap.size, 0, none⟩ = some (.int .i8 op) := by rw [← HW.out]; simp [go_sem]
    have x1 : W0.cell? ⟨w.heap.size, 1, none⟩ = some (.int .i8 k) := by rw [← HW.out]; simp [go_sem]
    have x2 : W0.cell? ⟨w.heap.size, 2, none⟩ = some (.int .i8 j) := by rw [← HW.out]; simp [go_sem]
    have x3 : W0.cell? ⟨w.heap.size, 3, none⟩ = some (.int .i8 b) := by rw [← HW.out]; simp [go_sem]
    have x4 : W0.cell? ⟨w.heap.size, 4, none⟩ = some (.int .i64 n) := by rw [← HW.out]; simp [go_sem]
    have h0 : PAt W0 base P s m := by rw [← HW.out]; exact h.alloc _
    have HB0 : Hid (Below w.heap.size w W0) := by unfold Hid; rw [← HW.out]; exact lb_alloc (Below.refl _ _) _
    have hz0 : w.heap.size < W0.heap.size := by rw [← HW.out]; simp
    have hP := h.lt
    have hWW := Below.refl W0.heap.size W0
    obtain ⟨g, hM, hcap, m0, m1, -, -⟩ := h0.word hq
    have hgP : g ≠ P := own_ne h0.mem (by rw [own_aB, hM]; rfl) h0.box (by decide)
    have hml := hm.mlen
    obtain ⟨-, -, c34, -⟩ := h0.cells hm.sixteen
    rw [hM] at c34
    have hN0 := Near.refl P W0
    have hne : w.heap.size ≠ P := by omega
    clear hM hWW
    go_enter Tryz.func99, Tryz.ntmps99
    go_upto_region 1 with fail
    rw [HW.out]
    clear HW h
    go_region_held3 (fun W => Near P W0 W ∧ W.cell? ⟨w.heap.size, 0, none⟩ = some (.int .i8 op) ∧ W.cell? ⟨w.heap.size, 1, none⟩ = some (.int .i8 k) ∧ W.cell? ⟨w.heap.size, 2, none⟩ = some (.int .i8 j) ∧ W.cell? ⟨w.heap.size, 3, none⟩ = some (.int .i8 b) ∧ W.cell? ⟨w.heap.size, 4, none⟩ = some (.int .i64 n) ∧ W.cell? ⟨P, 34, none⟩ = some (.slice (some ⟨g, 0, none⟩) m.mem.length s.mc) ∧ W.cell? ⟨g, q * 2, none⟩ = some (.int .i64 (wV m.mem q)) ∧ W.cell? ⟨g, q * 2 + 1, none⟩ = some (.bool (wC m.mem q)))
      (first | exact ⟨hN2, hN2.box hne x0, hN2.box hne x1, hN2.box hne x2, hN2.box hne x3, hN2.box hne x4, hN2.hdr.trans c34, hN2.box hgP m0, hN2.box hgP m1⟩ | exact ⟨hN2.drew, hN2.drew.box hne x0, hN2.drew.box hne x1, hN2.drew.box hne x2, hN2.drew.box hne x3, hN2.drew.box hne x4, hN2.drew.hdr.trans c34, hN2.drew.box hgP m0, hN2.drew.box hgP m1⟩ | exact ⟨hN, hN.box hne x0, hN.box hne x1, hN.box hne x2, hN.box hne x3, hN.box hne x4, hN.hdr.trans c34, hN.box hgP m0, hN.box hgP m1⟩ | exact ⟨hN.drew, hN.drew.box hne x0, hN.drew.box hne x1, hN.drew.box hne x2, hN.drew.box hne x3, hN.drew.box hne x4, hN.drew.hdr.trans c34, hN.drew.box hgP m0, hN.drew.box hgP m1⟩ | exact ⟨hN0, hN0.box hne x0, hN0.box hne x1, hN0.box hne x2, hN0.box hne x3, hN0.box hne x4, hN0.hdr.trans c34, hN0.box hgP m0, hN0.box hgP m1⟩ | exact ⟨hN0.drew, hN0.drew.box hne x0, hN0.drew.box hne x1, hN0.drew.box hne x2, hN0.drew.box hne x3, hN0.drew.box hne x4, hN0.drew.hdr.trans c34, hN0.drew.box hgP m0, hN0.drew.box hgP m1⟩)
      (first
        | (go_at_call 118; refine (C1 _ (by first | exact h1 | exact h1.drew | exact h0 | exact h0.drew)).mono ?_; rintro e w1 ⟨rfl, hb⟩; have h1 : PAt w1 base P s m := PAt.keep (by first | exact h1 | exact h1.drew | exact h0 | exact h0.drew) hb; have hN : Near P W0 w1 := Near.below (by first | exact hN0 | exact hN0.drew) hb h0.lt)
        | (go_at_call 115; refine (C2 _ (by first | exact h1 | exact h1.drew | exact h0 | exact h0.drew)).mono ?_; rintro e w2 ⟨rfl, hq, hn⟩; have hN2 : Near P W0 w2 := Near.trans (by first | exact hN | exact hN.drew) hn))

    all_goals (
      rename_i hS
      clear hS
      go_wp2_with fail
      go_ret
      exact did_put rfl hq (up_on HB0.out hN2.up))
  · have e0 : loadD m k j n = noD m (aE m j n) := by unfold loadD; rw [if_neg he]
    rw [e0]
    have C1 := fun (W : World) (h : PAt W base P s m) => address_no (op := op) (d := k) (b := b) (n := n) h hm hj he
    have HE : Hid (¬ aE m j n = 0) := he
    clear he e0
    generalize aE m j n = E at *
    obtain ⟨W0, HW⟩ : ∃ W0, Hid (w.alloc (.cells #[.int .i8 op, .int .i8 k, .int .i8 j, .int .i8 b, .int .i64 n] 50) = W0) := ⟨_, rfl⟩
    have x0 : W0.cell? ⟨w.heap.size, 0, none⟩ = some (.int .i8 op) := by rw [← HW.out]; simp [go_sem]
    have x1 : W0.cell? ⟨w.heap.size, 1, none⟩ = some (.int .i8 k) := by rw [← HW.out]; simp [go_sem]
    have x2 : W0.cell? ⟨w.heap.size, 2, none⟩ = some (.int .i8 j) := by rw [← HW.out]; simp [go_sem]
    have x3 : W0.cell? ⟨w.heap.size, 3, none⟩ = some (.int .i8 b) := by rw [← HW.out]; simp [go_sem]
    have x4 : W0.cell? ⟨w.heap.size, 4, none⟩ = some (.int .i64 n) := by rw [← HW.out]; simp [go_sem]
    have h0 : PAt W0 base P s m := by rw [← HW.out]; exact h.alloc _
    have HB0 : Hid (Below w.heap.size w W0) := by unfold Hid; rw [← HW.out]; exact lb_alloc (Below.refl _ _) _
    have hz0 : w.heap.size < W0.heap.size := by rw [← HW.out]; simp
    have hP := h.lt
    have hWW := Below.refl W0.heap.size W0
    have hml := hm.mlen
    obtain ⟨-, -, c34, -⟩ := h0.cells hm.sixteen
    clear hWW
    go_enter Tryz.func99, Tryz.ntmps99
    go_upto_region 1 with fail
    rw [HW.out]
    clear HW h
    go_region_law (go_simp; go_at_call 118; refine (C1 _ (by first | exact h1 | exact h1.drew | exact h0 | exact h0.drew)).mono ?_; rintro e w1 ⟨rfl, hb⟩; refine by_stop ⟨rfl, did_no HE.out (lb_trans HB0.out (lb_trans (Below.drew (Below.refl _ _)) hb))⟩ w1 ?_)
    all_goals trivial
end





end Go.Proofs.YtfnicgihpelhhaaGreat

namespace Go.Proofs.YtfnicgihpelhhaaGreat
open Go.RowKit

section
variable {w : World} {base P : Nat} {s : Loc} {m : Mach}
theorem PAt.store (h : PAt w base P s m) {g q : Nat} (hM : s.M = some ⟨g, 0, none⟩) (hq : q < m.mem.length) (x : Wd) : PAt ((w.setCell ⟨g, q * 2, none⟩ (.int .i64 x.1)).setCell ⟨g, q * 2 + 1, none⟩ (.bool x.2)) base P s (storeM m q x) := by
  have hl := wVals_len m.mem
  have hgb : (Value.slice s.M m.mem.length s.mc).ownBlock = some g := by rw [own_aB, hM]; rfl
  have ho : ∀ b, b ≠ g → ((w.setCell ⟨g, q * 2, none⟩ (.int .i64 x.1)).setCell ⟨g, q * 2 + 1, none⟩ (.bool x.2)).heap[b]? = w.heap[b]? := fun b hb => (Below.heap_setCell _ _ _ _ hb).trans (Below.heap_setCell _ _ _ _ hb)
  rcases h.mem.2 with ⟨e, e0⟩ | ⟨g2, cap, cur, e, hb, hg, hc, hx, hs, ht⟩
  · omega
  · simp only [Value.slice.injEq] at e
    obtain ⟨e3, -, e4⟩ := e
    rw [hM] at e3
    simp only [Option.some.injEq, Addr.mk.injEq, and_true] at e3
    subst e3 e4
    have hne : ∀ {e : TypeId} {z n b : Nat} {v : Value} {xs : List Value}, w.ownsRow base e z v n xs → v.ownBlock = some b → e ≠ 82 → b ≠ g := fun ho hv ne => own_ne ho hv hg ne
    have hgP : g ≠ P := own_ne h.mem hgb h.box (by decide)
    refine ⟨?_, h.bP, own_stay h.text fun b e => ho b (hne h.text e (by decide)), own_stay h.tape fun b e => ho b (hne h.tape e (by decide)), ?_, own_stay h.ports fun b e => ho b (hne h.ports e (by decide))⟩
    · rw [ho P (fun e => hgP e.symm), h.box]
      simp [boxM, hdM, tlM, storeM]
    · have hlen : (storeM m q x).mem.length = m.mem.length := by simp [storeM]
      rw [hlen]
      refine ⟨by rw [wVals_len, hlen], .inr ⟨g, s.mc, _, by rw [hM], hb, box_set (box_set hg _ _) _ _, hc, hx, by simpa using hs, ?_⟩⟩
      simp only [Array.toList_setIfInBounds, List.take_set]
      rw [ht]
      exact wVals_set x
theorem but_up {W0 W : World} {g : Nat} (h : But g W0 W) (hf : Foot s P g) : Upto (Foot s P) W0 W := ⟨h.1, h.2.1, h.2.2.1, h.2.2.2.1, fun b hb hn => h.2.2.2.2 b hb (fun e => hn (by rw [e]; exact hf))⟩
set_option maxHeartbeats 2000000 in
theorem store_did (h : PAt w base P s m) (hm : Fine m) (hp : m.pc < 16384) {op d a b n : Int} (hi : InsIn op d a b n) : Calls Tryz.prog 100 #[.pointer (some ⟨P, 0, none⟩), .agg #[.int .i8 op, .int .i8 d, .int .i8 a, .int .i8 b, .int .i64 n]] w (DidP w base P s m (storeD m a b n)) := by
  obtain ⟨j, hj0⟩ := Int.eq_ofNat_of_zero_le hi.a0
  have hj : j < 16 := by have := hi.a1; omega
  subst hj0
  obtain ⟨i, hi0⟩ := Int.eq_ofNat_of_zero_le hi.b0
  have hi2 : i < 16 := by have := hi.b1; omega
  subst hi0
  have zj : (0 : Int) ≤ (j : Int) := Int.natCast_nonneg _
  have yj : (j : Int) < 16 := by omega
  have zi : (0 : Int) ≤ (i : Int) := Int.natCast_nonneg _
  have yi : (i : Int) < 16 := by omega
  by_cases he : aE m j n = 0
  · obtain ⟨r0, r1⟩ := aV_range he
    obtain ⟨q, hq0⟩ := Int.eq_ofNat_of_zero_le r0
    have hq : q < m.mem.length := by omega
    have e0 : storeD m j i n = ⟨0, storeM m q (wV m.regs i, wC m.regs i), m.pc + 1⟩ := by unfold storeD; rw [if_pos he, hq0]; rfl
    rw [e0]
    have C1 := fun (W : World) (h : PAt W base P s m) => address_yes (op := op) (d := d) (b := i) (n := n) h hm hj he
    rw [hq0] at C1
    clear he hq0 e0 r0 r1
    have zq : (0 : Int) ≤ (q : Int) := Int.natCast_nonneg _
    have yq : (q : Int) < (m.mem.length : Int) := by omega
    obtain ⟨W0, HW⟩ : ∃ W0, Hid (w.alloc (.cells #[.int .i8 op, .int .i8 d, .int .i8 j, .int .i8 i, .int .i64 n] 50) = W0) := ⟨_, rfl⟩
    have x0 : W0.cell? ⟨w.heap.size, 0, none⟩ = some (.int .i8 op) := by rw [← HW.out]; simp [go_sem]
    have x1 : W0.cell? ⟨w.heap.size, 1, none⟩ = some (.int .i8 d) := by rw [← HW.out]; simp [go_sem]
    have x2 : W0.cell? ⟨w.heap.size, 2, none⟩ = some (.int .i8 j) := by rw [← HW.out]; simp [go_sem]
    have x3 : W0.cell? ⟨w.heap.size, 3, none⟩ = some (.int .i8 i) := by rw [← HW.out]; simp [go_sem]
    have x4 : W0.cell? ⟨w.heap.size, 4, none⟩ = some (.int .i64 n) := by rw [← HW.out]; simp [go_sem]
    have h0 : PAt W0 base P s m := by rw [← HW.out]; exact h.alloc _
    have HB0 : Hid (Below w.heap.size w W0) := by unfold Hid; rw [← HW.out]; exact lb_alloc (Below.refl _ _) _
    have hz0 : w.heap.size < W0.heap.size := by rw [← HW.out]; simp
    have hP := h.lt
    have hWW := Below.refl W0.heap.size W0
    obtain ⟨g, hM, hcap, m0, m1, m2, m3⟩ := h0.word hq
    have hgP : P ≠ g := fun e => own_ne h0.mem (by rw [own_aB, hM]; rfl) h0.box (by decide) e.symm
    have hml := hm.mlen
    have hpc := hm.pc
    obtain ⟨-, -, c34, -, -⟩ := h0.cells hm.sixteen
    obtain ⟨d0, d1⟩ := h0.reg hm.sixteen hi2
    have HM : Hid (s.M = some ⟨g, 0, none⟩) := hM
    have HF : Hid (Foot s P g) := .inr (.inr (.inr (.inl (by rw [hM]; rfl))))
    rw [hM] at c34
    have hN0 := But.refl g W0
    have hne : w.heap.size ≠ g := by
      have := (h.foot (b := g) (.inr (.inr (.inr (.inl (by rw [hM]; rfl)))))).2
      omega
    clear hM hWW
    go_enter Tryz.func100, Tryz.ntmps100
    go_upto_region 1 with fail
    rw [HW.out]
    clear HW h
    go_region_held3 (fun W => But g W0 W ∧ W.cell? ⟨w.heap.size, 0, none⟩ = some (.int .i8 op) ∧ W.cell? ⟨w.heap.size, 1, none⟩ = some (.int .i8 d) ∧ W.cell? ⟨w.heap.size, 2, none⟩ = some (.int .i8 j) ∧ W.cell? ⟨w.heap.size, 3, none⟩ = some (.int .i8 i) ∧ W.cell? ⟨w.heap.size, 4, none⟩ = some (.int .i64 n) ∧ W.cell? ⟨P, 34, none⟩ = some (.slice (some ⟨g, 0, none⟩) m.mem.length s.mc) ∧ W.cell? ⟨P, 2 + i * 2, none⟩ = some (.int .i64 (wV m.regs i)) ∧ W.cell? ⟨P, 2 + i * 2 + 1, none⟩ = some (.bool (wC m.regs i)))
      (first | exact ⟨((hN.set _ _).set _ _), But.cell ((hN.set _ _).set _ _) (p := ⟨w.heap.size, 0, none⟩) hne x0, But.cell ((hN.set _ _).set _ _) (p := ⟨w.heap.size, 1, none⟩) hne x1, But.cell ((hN.set _ _).set _ _) (p := ⟨w.heap.size, 2, none⟩) hne x2, But.cell ((hN.set _ _).set _ _) (p := ⟨w.heap.size, 3, none⟩) hne x3, But.cell ((hN.set _ _).set _ _) (p := ⟨w.heap.size, 4, none⟩) hne x4, But.cell ((hN.set _ _).set _ _) (p := ⟨P, 34, none⟩) hgP c34, But.cell ((hN.set _ _).set _ _) (p := ⟨P, 2 + i * 2, none⟩) hgP d0, But.cell ((hN.set _ _).set _ _) (p := ⟨P, 2 + i * 2 + 1, none⟩) hgP d1⟩ | exact ⟨hN, But.cell hN (p := ⟨w.heap.size, 0, none⟩) hne x0, But.cell hN (p := ⟨w.heap.size, 1, none⟩) hne x1, But.cell hN (p := ⟨w.heap.size, 2, none⟩) hne x2, But.cell hN (p := ⟨w.heap.size, 3, none⟩) hne x3, But.cell hN (p := ⟨w.heap.size, 4, none⟩) hne x4, But.cell hN (p := ⟨P, 34, none⟩) hgP c34, But.cell hN (p := ⟨P, 2 + i * 2, none⟩) hgP d0, But.cell hN (p := ⟨P, 2 + i * 2 + 1, none⟩) hgP d1⟩ | exact ⟨hN0, But.cell hN0 (p := ⟨w.heap.size, 0, none⟩) hne x0, But.cell hN0 (p := ⟨w.heap.size, 1, none⟩) hne x1, But.cell hN0 (p := ⟨w.heap.size, 2, none⟩) hne x2, But.cell hN0 (p := ⟨w.heap.size, 3, none⟩) hne x3, But.cell hN0 (p := ⟨w.heap.size, 4, none⟩) hne x4, But.cell hN0 (p := ⟨P, 34, none⟩) hgP c34, But.cell hN0 (p := ⟨P, 2 + i * 2, none⟩) hgP d0, But.cell hN0 (p := ⟨P, 2 + i * 2 + 1, none⟩) hgP d1⟩)
      (first
        | (go_at_call 118; refine (C1 _ (by first | exact h1 | exact h1.drew | exact h0 | exact h0.drew)).mono ?_; rintro e w1 ⟨rfl, hb⟩; have h1 : PAt w1 base P s m := PAt.keep (by first | exact h1 | exact h1.drew | exact h0 | exact h0.drew) hb; have hN : But g W0 w1 := But.on hN0 (lb_trans (Below.drew (Below.refl _ _)) hb); have m4 : w1.cell? ⟨g, q * 2, none⟩ = some (.int .i64 (wV m.mem q)) := lkeep hb m0; have m5 : w1.cell? ⟨g, q * 2 + 1, none⟩ = some (.bool (wC m.mem q)) := lkeep hb m1; have m6 : w1.frozen? ⟨g, q * 2, none⟩ = false := (hb.frozen (p := ⟨g, q * 2, none⟩) (World.block_lt_of_cell? W0 _ m0)).trans m2; have m7 : w1.frozen? ⟨g, q * 2 + 1, none⟩ = false := (hb.frozen (p := ⟨g, q * 2 + 1, none⟩) (World.block_lt_of_cell? W0 _ m1)).trans m3))
    all_goals (
      rename_i hS
      clear hS
      have h8 : Hid _ := PAt.store h1 HM.out hq (wV m.regs i, wC m.regs i)
      have k36 : ((w1.setCell ⟨g, q * 2, none⟩ (.int .i64 (wV m.regs i))).setCell ⟨g, q * 2 + 1, none⟩ (.bool (wC m.regs i))).cell? ⟨P, 36, none⟩ = some (.int .i64 m.pc) := (h8.out.cells hm.sixteen).2.2.2.2.1
      go_wp2
      go_ret
      exact did_yes rfl rfl h8.out (up_on HB0.out (but_up ((hN.set _ _).set _ _) HF.out)))
  · have e0 : storeD m j i n = noD m (aE m j n) := by unfold storeD; rw [if_neg he]
    rw [e0]
    have C1 := fun (W : World) (h : PAt W base P s m) => address_no (op := op) (d := d) (b := i) (n := n) h hm hj he
    have HE : Hid (¬ aE m j n = 0) := he
    clear he e0
    generalize aE m j n = E at *
    obtain ⟨W0, HW⟩ : ∃ W0, Hid (w.alloc (.cells #[.int .i8 op, .int .i8 d, .int .i8 j, .int .i8 i, .int .i64 n] 50) = W0) := ⟨_, rfl⟩
    have x0 : W0.cell? ⟨w.heap.size, 0, none⟩ = some (.int .i8 op) := by rw [← HW.out]; simp [go_sem]
    have x1 : W0.cell? ⟨w.heap.size, 1, none⟩ = some (.int .i8 d) := by rw [← HW.out]; simp [go_sem]
    have x2 : W0.cell? ⟨w.heap.size, 2, none⟩ = some (.int .i8 j) := by rw [← HW.out]; simp [go_sem]
    have x3 : W0.cell? ⟨w.heap.size, 3, none⟩ = some (.int .i8 i) := by rw [← HW.out]; simp [go_sem]
    have x4 : W0.cell? ⟨w.heap.size, 4, none⟩ = some (.int .i64 n) := by rw [← HW.out]; simp [go_sem]
    have h0 : PAt W0 base P s m := by rw [← HW.out]; exact h.alloc _
    have HB0 : Hid (Below w.heap.size w W0) := by unfold Hid; rw [← HW.out]; exact lb_alloc (Below.refl _ _) _
    have hz0 : w.heap.size < W0.heap.size := by rw [← HW.out]; simp
    have hP := h.lt
    have hWW := Below.refl W0.heap.size W0
    have hml := hm.mlen
    obtain ⟨-, -, c34, -⟩ := h0.cells hm.sixteen
    obtain ⟨d0, d1⟩ := h0.reg hm.sixteen hi2
    clear hWW
    go_enter Tryz.func100, Tryz.ntmps100
    go_upto_region 1 with fail
    rw [HW.out]
    clear HW h
    go_region_law (go_simp; go_at_call 118; refine (C1 _ (by first | exact h1 | exact h1.drew | exact h0 | exact h0.drew)).mono ?_; rintro e w1 ⟨rfl, hb⟩; refine by_stop ⟨rfl, did_no HE.out (lb_trans HB0.out (lb_trans (Below.drew (Below.refl _ _)) hb))⟩ w1 ?_)
    all_goals trivial
end





end Go.Proofs.YtfnicgihpelhhaaGreat

namespace Go.Proofs.YtfnicgihpelhhaaGreat
open Go.RowKit

section
variable {w : World} {base P : Nat} {s : Loc} {m : Mach}
theorem PAt.num (h : PAt w base P s m) {k : Nat} (hk : k < m.tape.length) : ∃ g, s.X = some ⟨g, 0, none⟩ ∧ m.tape.length ≤ s.xc ∧ w.cell? ⟨g, k, none⟩ = some (.int .i64 (nth m.tape k)) := by
  have e1 := iVals_get (K := .i64) hk
  rcases h.tape.2 with ⟨e, e0⟩ | ⟨g, cap, cur, e, hb, hg, hc, _, hs, ht⟩
  · omega
  · simp only [Value.slice.injEq] at e
    obtain ⟨e3, -, e4⟩ := e
    subst e4
    refine ⟨g, e3, hc, box_at hg ?_⟩
    rw [← ht, List.getElem?_take_of_lt (by omega)] at e1
    simpa using e1
set_option maxHeartbeats 2000000 in
theorem in_did (h : PAt w base P s m) (hm : Fine m) (_hp : m.pc < 16384) {op d a b n : Int} (hi : InsIn op d a b n) : Calls Tryz.prog 101 #[.pointer (some ⟨P, 0, none⟩), .agg #[.int .i8 op, .int .i8 d, .int .i8 a, .int .i8 b, .int .i64 n]] w (DidP w base P s m (inD m d)) := by
  obtain ⟨k, hk0⟩ := Int.eq_ofNat_of_zero_le hi.d0
  have hk : k < 16 := by have := hi.d1; omega
  subst hk0
  have zk : (0 : Int) ≤ (k : Int) := Int.natCast_nonneg _
  have yk : (k : Int) < 16 := by omega
  obtain ⟨c0, c1, c34, c35, c36, c37, c38, c39⟩ := h.cells hm.sixteen
  have htk := hm.taken
  have htl := hm.tape
  have hP := h.lt
  by_cases he : m.taken = m.tape.length
  · have e0 : inD m k = putD m k (0, false) := by unfold inD; rw [if_pos he]
    rw [e0]
    rw [he] at c38
    clear e0 he htk
    have C1 := plain_any 0
    have C2 := fun (W : World) (h : PAt W base P s m) => put_any h hm k hk (0, false)
    have hq0 : ((m.tape.length : Int) == (m.tape.length : Int)) = true := by simp
    go_enter Tryz.func101, Tryz.ntmps101
    go_wp2_with fail
    go_quiet (fail)
    go_wp2_with fail
    go_region_with (first
      | (go_at_call 37; refine (C1 _).mono ?_; rintro e w1 ⟨rfl, rfl⟩)
      | (go_at_call 115; refine (C2 _ (by repeat (first | assumption | apply PAt.drew | apply PAt.drewN | apply PAt.alloc))).mono ?_; rintro e w1 ⟨rfl, hq, hu⟩))
    all_goals (
      go_wp2
      go_ret
      exact did_put rfl hq (Upto.trans (by repeat (first | exact Upto.refl _ _ | apply Upto.drew | apply Upto.drewN | apply Upto.alloc)) hu))
  · have hlt : m.taken < m.tape.length := by omega
    have e0 : inD m k = ⟨0, putM (takeM m) k (nth m.tape m.taken, false), m.pc + 1⟩ := by unfold inD; rw [if_neg he]
    rw [e0]
    have hne0 : ((m.taken : Int) == (m.tape.length : Int)) = false := by simp; omega
    clear e0 he
    have f38 := h.fro 38
    go_enter Tryz.func101, Tryz.ntmps101
    go_wp2_with fail
    go_quiet (fail)
    go_upto_region 4 with fail
    obtain ⟨W0, HW⟩ : ∃ W0, Hid ((((w.alloc (.cells #[.int .i8 op, .int .i8 k, .int .i8 a, .int .i8 b, .int .i64 n] 50)).drewN nq).setCell ⟨P, 38, none⟩ (.int .i64 ((m.taken : Int) + 1))) = W0) := ⟨_, rfl⟩
    have h0 : PAt W0 base P s (takeM m) := by rw [← HW.out]; exact ((h.alloc _).drewN nq).taken hm.sixteen (m.taken + 1)
    have HU : Hid (Upto (Foot s P) w W0) := by unfold Hid; rw [← HW.out]; exact (((Upto.refl _ _).alloc _).drewN nq).set (Or.inl (Or.inl rfl)) _ _
    have hne : w.heap.size ≠ P := by omega
    have HN9 : Hid (But P ((w.alloc (.cells #[.int .i8 op, .int .i8 k, .int .i8 a, .int .i8 b, .int .i64 n] 50)).drewN nq) W0) := by unfold Hid; rw [← HW.out]; exact (But.refl P _).set _ _
    have x1 : W0.cell? ⟨w.heap.size, 1, none⟩ = some (.int .i8 k) := HN9.out.cell (p := ⟨w.heap.size, 1, none⟩) hne (by simp [go_sem])
    rw [HW.out]
    clear HW HN9
    have hm2 : Fine (takeM m) := ⟨hm.sixteen, hm.regs, hm.mem, hm.words, hm.text, hm.some, hm.tape, hm.mlen, hm.pc, hlt, hm.ports⟩
    obtain ⟨g, hX, hcap, t0⟩ := h0.num (k := m.taken) hlt
    have hgP : g ≠ P := own_ne h0.tape (by rw [own_aB, hX]; rfl) h0.box (by decide)
    have C1 := plain_any (nth m.tape m.taken)
    have C2 := fun (W : World) (h : PAt W base P s (takeM m)) => put_near h hm2 k hk (nth m.tape m.taken, false)
    clear c0 c1 c34 c35 c36 c37 c38 c39 f38
    have c1 : W0.cell? ⟨P, 1, none⟩ = some (.slice (some ⟨g, 0, none⟩) m.tape.length s.xc) := by rw [← hX]; exact (h0.cells hm.sixteen).2.1
    have c38 : W0.cell? ⟨P, 38, none⟩ = some (.int .i64 ((m.taken : Int) + 1)) := (h0.cells hm.sixteen).2.2.2.2.2.2.1
    have hN0 := Near.refl P W0
    have hP0 := h0.lt
    have t0 : W0.cell? ⟨g, m.taken, none⟩ = some (.int .i64 (nth m.tape m.taken)) := t0
    have yt : (m.taken : Int) < (m.tape.length : Int) := by omega
    have zt : (0 : Int) ≤ (m.taken : Int) := Int.natCast_nonneg _
    have hcap : m.tape.length ≤ s.xc := hcap
    have wt : IntKind.i64.wrap (m.taken : Int) = (m.taken : Int) := by simp [IntKind.wrap, IntKind.signed, IntKind.bits]; omega
    clear hX h
    go_region_held3 (fun W => Near P W0 W ∧ W.cell? ⟨w.heap.size, 1, none⟩ = some (.int .i8 k) ∧ W.cell? ⟨P, 1, none⟩ = some (.slice (some ⟨g, 0, none⟩) m.tape.length s.xc) ∧ W.cell? ⟨P, 38, none⟩ = some (.int .i64 ((m.taken : Int) + 1)) ∧ W.cell? ⟨g, m.taken, none⟩ = some (.int .i64 (nth m.tape m.taken)))
      (first | exact ⟨hN2, hN2.box hne x1, hN2.tap.trans c1, hN2.tak.trans c38, hN2.box hgP t0⟩ | exact ⟨hN2.drew, hN2.drew.box hne x1, hN2.drew.tap.trans c1, hN2.drew.tak.trans c38, hN2.drew.box hgP t0⟩ | exact ⟨hN, hN.box hne x1, hN.tap.trans c1, hN.tak.trans c38, hN.box hgP t0⟩ | exact ⟨hN.drew, hN.drew.box hne x1, hN.drew.tap.trans c1, hN.drew.tak.trans c38, hN.drew.box hgP t0⟩ | exact ⟨hN0, hN0.box hne x1, hN0.tap.trans c1, hN0.tak.trans c38, hN0.box hgP t0⟩ | exact ⟨hN0.drew, hN0.drew.box hne x1, hN0.drew.tap.trans c1, hN0.drew.tak.trans c38, hN0.drew.box hgP t0⟩)
      (first
        | (go_at_call 37; refine (C1 _).mono ?_; rintro e w1 ⟨rfl, hw1⟩; have hb : Below W0.heap.size W0 w1 := (by rw [hw1]; repeat (first | exact Below.refl _ _ | apply Below.drew | apply lb_alloc)); clear hw1; have h1 : PAt w1 base P s (takeM m) := PAt.keep h0 hb; have hN : Near P W0 w1 := Near.below hN0 hb hP0)
        | (go_at_call 115; refine (C2 _ (by first | exact h1 | exact h1.drew)).mono ?_; rintro e w2 ⟨rfl, hq, hn⟩; have hN2 : Near P W0 w2 := Near.trans (by first | exact hN | exact hN.drew) hn))

    all_goals (
      rename_i hS
      clear hS
      go_wp2_with fail
      go_ret
      exact did_yes rfl rfl hq (HU.out.trans hN2.up))
end





end Go.Proofs.YtfnicgihpelhhaaGreat

namespace Go.Proofs.YtfnicgihpelhhaaGreat
open Go.RowKit

section
variable {w : World} {base P : Nat} {s : Loc} {m : Mach}
theorem infoPort : ∃ i, Tryz.prog.info? 118 = some i ∧ i.zero = some (.agg #[.int .i64 0, .int .i64 0]) ∧ i.size = 2 ∧ i.bytes = 16 :=
  ⟨(Tryz.prog.info? 118).get (by kernel_rfl), by kernel_rfl, by kernel_rfl, by kernel_rfl, by kernel_rfl⟩
/-- Where the ports lie now. -/
def Loc.at (s : Loc) (v : Value) : Loc := { s with V := v }
theorem boxM_out (s : Loc) (m : Mach) (h : m.regs.length = 16) (v : Value) (x y : Int) : (boxM s m).setIfInBounds 35 v = boxM (s.at v) (outM m x y) := by
  rw [show 35 = 34 + 1 from rfl, boxM_at s m h]
  rfl
/-- One more port: the list grew. -/
theorem PAt.out (h : PAt w base P s m) (hm : m.regs.length = 16) {w' : World} {v : Value} {x y : Int} (hg : w.grownBy w' s.V.ownBlock) (ho : w'.ownsRow base 118 2 v (m.ports.length + 1) (pVals m.ports ++ [.int .i64 x, .int .i64 y])) : PAt (w'.setCell ⟨P, 35, none⟩ v) base P (s.at v) (outM m x y) := by
  have hk : ∀ b, b < w.heap.size → some b ≠ s.V.ownBlock → w'.heap[b]? = w.heap[b]? := fun b hb hn => hg.block b hb hn
  have hPV : some P ≠ s.V.ownBlock := fun e => own_ne h.ports e.symm h.box (by decide) rfl
  have hb : w'.heap[P]? = some (.cells (boxM s m) 87 (0, 0)) := (hk P h.lt hPV).trans h.box
  have row : ∀ {e : TypeId} {z n : Nat} {u : Value} {xs : List Value}, w.ownsRow base e z u n xs → e ≠ 118 → e ≠ 87 → (w'.setCell ⟨P, 35, none⟩ v).ownsRow base e z u n xs := by
    intro e z n u xs hr n1 n2
    refine own_stay hr fun b e => ?_
    have hbP := own_ne hr e h.box n2
    rw [Below.heap_setCell _ _ _ _ hbP]
    refine hk b (own_in hr e).2 fun ev => ?_
    obtain ⟨cur, hc⟩ := own_block h.ports ev.symm
    exact own_ne hr e hc n1 rfl
  refine ⟨?_, h.bP, row h.text (by decide) (by decide), row h.tape (by decide) (by decide), row h.mem (by decide) (by decide), ?_⟩
  · rw [← boxM_out s m hm v x y]
    exact box_set hb _ _
  · have hl : (outM m x y).ports.length = m.ports.length + 1 := by simp [outM]
    rw [hl]
    have e : pVals (outM m x y).ports = pVals m.ports ++ [.int .i64 x, .int .i64 y] := pVals_snoc m.ports (x, y)
    rw [e]
    exact own_stay ho fun b e => Below.heap_setCell _ _ _ _ (own_ne ho e hb (by decide))
theorem out_up {w' : World} {v : Value} {g H : Nat} (hg : w.grownBy w' s.V.ownBlock) (hv : v.ownBlock = some g) (hl : s.V.ownBlock = some g ∨ g = H) (hH : w.heap.size = H) : Upto (Foot s P) w (w'.setCell ⟨P, 35, none⟩ v) ∧ ∀ b, Foot (s.at v) P b → Foot s P b ∨ w.heap.size ≤ b := by
  refine ⟨?_, ?_⟩
  · refine Upto.set (a := w) (b := w') ⟨hg.os, hg.tape, hg.output, hg.size, fun b hb hn => hg.block b hb fun e => hn (.inr (.inr (.inr (.inr e.symm))))⟩ (Or.inl (Or.inl rfl)) _ _
  · intro b hb
    rcases hb with e | e | e | e | e
    · exact .inl (.inl e)
    · exact .inl (.inr (.inl e))
    · exact .inl (.inr (.inr (.inl e)))
    · exact .inl (.inr (.inr (.inr (.inl e))))
    · have e : v.ownBlock = some b := e
      rw [hv] at e
      cases e
      rcases hl with e | e
      · exact .inl (.inr (.inr (.inr (.inr e))))
      · exact .inr (by omega)
set_option maxHeartbeats 4000000 in
theorem out_did (h : PAt w base P s m) (hm : Fine m) (hp : m.pc < 16384) {op d a b n : Int} (hi : InsIn op d a b n) (hst : m.steps < 1048576) : Calls Tryz.prog 102 #[.pointer (some ⟨P, 0, none⟩), .agg #[.int .i8 op, .int .i8 d, .int .i8 a, .int .i8 b, .int .i64 n]] w (DidP w base P s m (outD m a n)) := by
  obtain ⟨j, hj0⟩ := Int.eq_ofNat_of_zero_le hi.a0
  have hj : j < 16 := by have := hi.a1; omega
  subst hj0
  have zj : (0 : Int) ≤ (j : Int) := Int.natCast_nonneg _
  have yj : (j : Int) < 16 := by omega
  by_cases hc : wC m.regs j = true
  · have e0 : outD m j n = noD m 4 := by unfold outD; rw [if_pos (show rC m j = true from hc)]
    rw [e0]
    have C1 := fun (W : World) (h : PAt W base P s m) => number_no h hm j hj hc
    clear e0
    obtain ⟨W0, HW⟩ : ∃ W0, Hid (w.alloc (.cells #[.int .i8 op, .int .i8 d, .int .i8 j, .int .i8 b, .int .i64 n] 50) = W0) := ⟨_, rfl⟩
    have x0 : W0.cell? ⟨w.heap.size, 0, none⟩ = some (.int .i8 op) := by rw [← HW.out]; simp [go_sem]
    have x1 : W0.cell? ⟨w.heap.size, 1, none⟩ = some (.int .i8 d) := by rw [← HW.out]; simp [go_sem]
    have x2 : W0.cell? ⟨w.heap.size, 2, none⟩ = some (.int .i8 j) := by rw [← HW.out]; simp [go_sem]
    have x3 : W0.cell? ⟨w.heap.size, 3, none⟩ = some (.int .i8 b) := by rw [← HW.out]; simp [go_sem]
    have x4 : W0.cell? ⟨w.heap.size, 4, none⟩ = some (.int .i64 n) := by rw [← HW.out]; simp [go_sem]
    have h0 : PAt W0 base P s m := by rw [← HW.out]; exact h.alloc _
    have HB0 : Hid (Below w.heap.size w W0) := by unfold Hid; rw [← HW.out]; exact lb_alloc (Below.refl _ _) _
    have hz0 : w.heap.size < W0.heap.size := by rw [← HW.out]; simp
    have hP := h.lt
    have hWW := Below.refl W0.heap.size W0
    obtain ⟨-, -, -, c35, -⟩ := h0.cells hm.sixteen
    clear hWW
    go_enter Tryz.func102, Tryz.ntmps102
    go_upto_region 1 with fail
    rw [HW.out]
    clear HW h
    go_region_law (go_simp; go_at_call 119; refine (C1 _ (by first | exact h0 | exact h0.drew)).mono ?_; rintro e w1 ⟨rfl, hb⟩; refine by_stop ⟨rfl, did_no (by decide) (lb_trans HB0.out (lb_trans (Below.drew (Below.refl _ _)) hb))⟩ w1 ?_)
    all_goals trivial
  · have hc : wC m.regs j = false := by simpa using hc
    have e0 : outD m j n = ⟨0, outM m n (wV m.regs j), m.pc + 1⟩ := by unfold outD; rw [if_neg (by show ¬ wC m.regs j = true; rw [hc]; decide)]; rfl
    rw [e0]
    have C1 := fun (W : World) (h : PAt W base P s m) => number_yes h hm j hj hc
    clear e0 hc
    obtain ⟨ip, hp0, hp1, hp2, hp3⟩ := infoPort
    obtain ⟨W0, HW⟩ : ∃ W0, Hid (w.alloc (.cells #[.int .i8 op, .int .i8 d, .int .i8 j, .int .i8 b, .int .i64 n] 50) = W0) := ⟨_, rfl⟩
    have x0 : W0.cell? ⟨w.heap.size, 0, none⟩ = some (.int .i8 op) := by rw [← HW.out]; simp [go_sem]
    have x1 : W0.cell? ⟨w.heap.size, 1, none⟩ = some (.int .i8 d) := by rw [← HW.out]; simp [go_sem]
    have x2 : W0.cell? ⟨w.heap.size, 2, none⟩ = some (.int .i8 j) := by rw [← HW.out]; simp [go_sem]
    have x3 : W0.cell? ⟨w.heap.size, 3, none⟩ = some (.int .i8 b) := by rw [← HW.out]; simp [go_sem]
    have x4 : W0.cell? ⟨w.heap.size, 4, none⟩ = some (.int .i64 n) := by rw [← HW.out]; simp [go_sem]
    have h0 : PAt W0 base P s m := by rw [← HW.out]; exact h.alloc _
    have HB0 : Hid (Below w.heap.size w W0) := by unfold Hid; rw [← HW.out]; exact lb_alloc (Below.refl _ _) _
    have hz0 : w.heap.size < W0.heap.size := by rw [← HW.out]; simp
    have hP := h.lt
    have hWW := Below.refl W0.heap.size W0
    obtain ⟨-, -, -, c35, c36, -⟩ := h0.cells hm.sixteen
    have hpl := hm.ports
    have hpc := hm.pc
    have hbase : base ≤ W0.heap.size := Nat.le_of_lt (Nat.lt_of_le_of_lt h0.bP h0.lt)
    have hP0 := h0.lt
    generalize wV m.regs j = V at *
    clear hWW
    go_enter Tryz.func102, Tryz.ntmps102
    go_upto_region 1 with fail
    rw [HW.out]
    clear HW h
    go_region_law
      (first
        | (revert HO2; intro HO2; refine step_append_lies _ rfl (.tmp 9) (.tmp 17) 85 rfl base 118 ip (.agg #[.int .i64 0, .int .i64 0]) 2 16 Tryz.underlying85 hp0 hp1 hp2 hp3 rfl (by decide) s.V m.ports.length (pVals m.ports) rfl HO2.out ⟨wd.heap.size, 0, none⟩ 1 1 [.int .i64 n, .int .i64 V] rfl rfl (fun j u hu => World.news_of_block HNw.out j u hu) (by simp [Value.oneCell']) (by omega) (by unfold maxLen; omega) (by omega) (by have := HSz2.out; simp; omega) (wd.heap.size + 1) (by simp) ?_; intro g3 cap3 we hown hgrow hlie hlt3; have HG3 : Hid _ := hgrow; have HO3 : Hid _ := hown; have HL3 : Hid _ := hlie; have yD : we.cell? ⟨P, 35, none⟩ = some s.V := (World.grownBy.cell hgrow (a := ⟨P, 35, none⟩) cE (fun e => own_ne HO2.out e.symm (PAt.box HT3.out) (by decide) rfl)); have fD : we.frozen? ⟨P, 35, none⟩ = false := box_fro ((hgrow.block P (PAt.lt HT3.out) (fun e => own_ne HO2.out e.symm (PAt.box HT3.out) (by decide) rfl)).trans (PAt.box HT3.out)) 35; clear hown hgrow hlie)
        | (go_simp; go_at_call 119; refine (C1 _ (by first | exact h0 | exact h0.drew)).mono ?_; rintro e wd ⟨rfl, hb1⟩; have HT2 : Hid (PAt wd base P s m) := PAt.keep (by first | exact h0 | exact h0.drew) hb1; have HT3 : Hid (PAt (wd.alloc (.cells #[.int .i64 n, .int .i64 V] 118)) base P s m) := PAt.alloc HT2.out _; have HO2 : Hid _ := PAt.ports HT3.out; have HBd : Hid (Below W0.heap.size W0 wd) := lb_trans (Below.drew (Below.refl _ _)) hb1; have HSz2 : Hid (base ≤ wd.heap.size) := Nat.le_trans hbase hb1.size; have HNw : Hid ((wd.alloc (.cells #[.int .i64 n, .int .i64 V] 118)).heap[wd.heap.size]? = some (.cells #[.int .i64 n, .int .i64 V] 118 (0, 0))) := heap_alloc_new _ _; have cD : wd.cell? ⟨P, 35, none⟩ = some s.V := lkeep hb1 c35; have cE : (wd.alloc (.cells #[.int .i64 n, .int .i64 V] 118)).cell? ⟨P, 35, none⟩ = some s.V := lkeep (lb_alloc (Below.refl _ _) _) cD; have xn : wd.cell? ⟨w.heap.size, 4, none⟩ = some (.int .i64 n) := lkeep hb1 x4; clear hb1))
    all_goals (
      have HG4 : Hid ((wd.alloc (.cells #[.int .i64 n, .int .i64 V] 118)).grownBy we s.V.ownBlock) := ⟨HG3.out.os, HG3.out.tape, HG3.out.output, HG3.out.size, HG3.out.block⟩
      have h8 : Hid _ := PAt.out HT3.out hm.sixteen HG4.out HO3.out
      have k36 : (we.setCell ⟨P, 35, none⟩ (.slice (some ⟨g3, 0, none⟩) (m.ports.length + 1) cap3)).cell? ⟨P, 36, none⟩ = some (.int .i64 m.pc) := (h8.out.cells hm.sixteen).2.2.2.2.1
      have HU : Hid _ := out_up (P := P) HG4.out (v := .slice (some ⟨g3, 0, none⟩) (m.ports.length + 1) cap3) rfl HL3.out (by simp)
      have HB9 : Hid (Below w.heap.size w (wd.alloc (.cells #[.int .i64 n, .int .i64 V] 118))) := lb_alloc (lb_trans HB0.out HBd.out) _
      clear HG3 HG4 HO3 HL3 HT2 HT3 HO2 HSz2 HNw cD cE xn yD fD C1 x0 x1 x2 x3 x4 c35 c36
      go_wp2
      go_ret
      exact .inr ⟨rfl, rfl, _, h8.out, up_on HB9.out HU.out.1, fun b hb => (HU.out.2 b hb).imp id fun hb => Nat.le_trans HB9.out.size hb⟩)
end





end Go.Proofs.YtfnicgihpelhhaaGreat
