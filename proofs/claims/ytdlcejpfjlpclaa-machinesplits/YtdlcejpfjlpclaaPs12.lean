/-
  Deeds of the program's machine: load.
-/
import Derived.Test.YtdlcejpfjlpclaaProg
import Derived.WalkKit
import Derived.WalkSpells
import Derived.WalkLawsBesides
import Derived.RowKit3
import Derived.Below
import Derived.Deep.QuietTactic
import Derived.BigQuiet
import Derived.WalkSmall
import Derived.Laws.Rows
import Derived.Test.YtdlcejpfjlpclaaPs11
import Derived.Deep.DeepCutAuto
import Derived.Deep.RegionLaw
namespace Go.Proofs.Ytdlcejpfjlpclaa
open Go.RowKit

section
variable {w : World} {base P : Nat} {s : Loc} {m : Mach}
theorem address_yes (h : PAt w base P s m) (hm : Fine m) {op d b n : Int} {j : Nat} (hj : j < 16) (he : aE m j n = 0) : Calls Try.prog 58 #[.pointer (some ⟨P, 0, none⟩), .agg #[.int .i8 op, .int .i8 d, .int .i8 j, .int .i8 b, .int .i64 n]] w fun e w' => e = .returned (.int .i64 (aV m j n)) ∧ Below w.heap.size w w' :=
  (address_any h hm hj).mono fun _e _w' k => ⟨k.1.elim (fun x => x.2) (fun x => absurd he x.1), k.2⟩
theorem address_no (h : PAt w base P s m) (hm : Fine m) {op d b n : Int} {j : Nat} (hj : j < 16) (he : ¬ aE m j n = 0) : Calls Try.prog 58 #[.pointer (some ⟨P, 0, none⟩), .agg #[.int .i8 op, .int .i8 d, .int .i8 j, .int .i8 b, .int .i64 n]] w fun e w' => e = .panicked [{ v := .iface 65 (.int .i8 (aE m j n)), recovered := false }] ∧ Below w.heap.size w w' :=
  (address_any h hm hj).mono fun _e _w' k => ⟨k.1.elim (fun x => absurd x.1 he) (fun x => x.2), k.2⟩
/-- Where a region ends by a panic, nothing is left of it to be walked. -/
theorem by_stop {G : Prop} (g : G) (w : World) : wpAny Try.prog .any #[] (fun _ _ _ => True) 0 #[] ⟨#[], []⟩ w → G := fun _ => g
theorem PAt.word (h : PAt w base P s m) {k : Nat} (hk : k < m.mem.length) : ∃ g, s.M = some ⟨g, 0, none⟩ ∧ m.mem.length ≤ s.mc ∧ w.cell? ⟨g, k * 2, none⟩ = some (.int .i64 (wV m.mem k)) ∧ w.cell? ⟨g, k * 2 + 1, none⟩ = some (.bool (wC m.mem k)) ∧ w.frozen? ⟨g, k * 2, none⟩ = false ∧ w.frozen? ⟨g, k * 2 + 1, none⟩ = false := by
  obtain ⟨e1, e2⟩ := wVals_get hk
  have hl := wVals_len m.mem
  rcases h.mem.2 with ⟨e, e0⟩ | ⟨g, cap, cur, e, hb, hg, hc, _, hs, ht⟩
  · omega
  · simp only [Value.slice.injEq] at e
    obtain ⟨e3, -, e4⟩ := e
    subst e4
    have q : ∀ {i : Nat} {v : Value}, i < m.mem.length * 2 → (wVals m.mem)[i]? = some v → cur[i]? = some v := by
      intro i v hi hv
      rw [← ht, List.getElem?_take_of_lt hi] at hv
      simpa using hv
    exact ⟨g, e3, hc, box_at hg (q (by omega) e1), box_at hg (q (by omega) e2), box_fro hg _, box_fro hg _⟩
set_option maxHeartbeats 2000000 in
theorem load_did (h : PAt w base P s m) (hm : Fine m) (_hp : m.pc < 16384) {op d a b n : Int} (hi : InsIn op d a b n) : Calls Try.prog 41 #[.pointer (some ⟨P, 0, none⟩), .agg #[.int .i8 op, .int .i8 d, .int .i8 a, .int .i8 b, .int .i64 n]] w (DidP w base P s m (loadD m d a n)) := by
  obtain ⟨k, hk0⟩ := Int.eq_ofNat_of_zero_le hi.d0
  have hk : k < 16 := by have := hi.d1; omega
  subst hk0
  obtain ⟨j, hj0⟩ := Int.eq_ofNat_of_zero_le hi.a0
  have hj : j < 16 := by have := hi.a1; omega
  subst hj0
  have zk : (0 : Int) ≤ (k : Int) := Int.natCast_nonneg _
  have yk : (k : Int) < 16 := by omega
  have zj : (0 : Int) ≤ (j : Int) := Int.natCast_nonneg _
  have yj : (j : Int) < 16 := by omega
  by_cases he : aE m j n = 0
  · obtain ⟨r0, r1⟩ := aV_range he
    obtain ⟨q, hq0⟩ := Int.eq_ofNat_of_zero_le r0
    have hq : q < m.mem.length := by omega
    have e0 : loadD m k j n = putD m k (wV m.mem q, wC m.mem q) := by unfold loadD; rw [if_pos he, hq0]; rfl
    rw [e0]
    have C1 := fun (W : World) (h : PAt W base P s m) => address_yes (op := op) (d := k) (b := b) (n := n) h hm hj he
    rw [hq0] at C1
    have C2 := fun (W : World) (h : PAt W base P s m) => put_near h hm k hk (wV m.mem q, wC m.mem q)
    clear he hq0 e0 r0 r1
    have zq : (0 : Int) ≤ (q : Int) := Int.natCast_nonneg _
    have yq : (q : Int) < (m.mem.length : Int) := by omega
    obtain ⟨W0, HW⟩ : ∃ W0, Hid (w.alloc (.cells #[.int .i8 op, .int .i8 k, .int .i8 j, .int .i8 b, .int .i64 n] 58) = W0) := ⟨_, rfl⟩
    have x0 : W0.cell? ⟨w.heap.size, 0, none⟩ = some (.int .i8 op) := by rw [← HW.out]; simp [go_sem]
    have x1 : W0.cell? ⟨w.heap.size, 1, none⟩ = some (.int .i8 k) := by rw [← HW.out]; simp [go_sem]
    have x2 : W0.cell? ⟨w.heap.size, 2, none⟩ = some (.int .i8 j) := by rw [← HW.out]; simp [go_sem]
    have x3 : W0.cell? ⟨w.heap.size, 3, none⟩ = some (.int .i8 b) := by rw [← HW.out]; simp [go_sem]
    have x4 : W0.cell? ⟨w.heap.size, 4, none⟩ = some (.int .i64 n) := by rw [← HW.out]; simp [go_sem]
    have h0 : PAt W0 base P s m := by rw [← HW.out]; exact h.alloc _
    have HB0 : Hid (Below w.heap.size w W0) := by unfold Hid; rw [← HW.out]; exact lb_alloc (Below.refl _ _) _
    have hz0 : w.heap.size < W0.heap.size := by rw [← HW.out]; simp
    have hP := h.lt
    have hWW := Below.refl W0.heap.size W0
    obtain ⟨g, hM, hcap, m0, m1, -, -⟩ := h0.word hq
    have hgP : g ≠ P := own_ne h0.mem (by rw [own_aB, hM]; rfl) h0.box (by decide)
    have hml := hm.mlen
    obtain ⟨-, -, c34, -⟩ := h0.cells hm.sixteen
    rw [hM] at c34
    have hN0 := Near.refl P W0
    have hne : w.heap.size ≠ P := by omega
    clear hM hWW
    go_enter Try.func41, Try.ntmps41
    go_upto_region 1 with fail
    rw [HW.out]
    clear HW h
    go_region_held3 (fun W => Near P W0 W ∧ W.cell? ⟨w.heap.size, 0, none⟩ = some (.int .i8 op) ∧ W.cell? ⟨w.heap.size, 1, none⟩ = some (.int .i8 k) ∧ W.cell? ⟨w.heap.size, 2, none⟩ = some (.int .i8 j) ∧ W.cell? ⟨w.heap.size, 3, none⟩ = some (.int .i8 b) ∧ W.cell? ⟨w.heap.size, 4, none⟩ = some (.int .i64 n) ∧ W.cell? ⟨P, 34, none⟩ = some (.slice (some ⟨g, 0, none⟩) m.mem.length s.mc) ∧ W.cell? ⟨g, q * 2, none⟩ = some (.int .i64 (wV m.mem q)) ∧ W.cell? ⟨g, q * 2 + 1, none⟩ = some (.bool (wC m.mem q)))
      (first | exact ⟨hN2, hN2.box hne x0, hN2.box hne x1, hN2.box hne x2, hN2.box hne x3, hN2.box hne x4, hN2.hdr.trans c34, hN2.box hgP m0, hN2.box hgP m1⟩ | exact ⟨hN2.drew, hN2.drew.box hne x0, hN2.drew.box hne x1, hN2.drew.box hne x2, hN2.drew.box hne x3, hN2.drew.box hne x4, hN2.drew.hdr.trans c34, hN2.drew.box hgP m0, hN2.drew.box hgP m1⟩ | exact ⟨hN, hN.box hne x0, hN.box hne x1, hN.box hne x2, hN.box hne x3, hN.box hne x4, hN.hdr.trans c34, hN.box hgP m0, hN.box hgP m1⟩ | exact ⟨hN.drew, hN.drew.box hne x0, hN.drew.box hne x1, hN.drew.box hne x2, hN.drew.box hne x3, hN.drew.box hne x4, hN.drew.hdr.trans c34, hN.drew.box hgP m0, hN.drew.box hgP m1⟩ | exact ⟨hN0, hN0.box hne x0, hN0.box hne x1, hN0.box hne x2, hN0.box hne x3, hN0.box hne x4, hN0.hdr.trans c34, hN0.box hgP m0, hN0.box hgP m1⟩ | exact ⟨hN0.drew, hN0.drew.box hne x0, hN0.drew.box hne x1, hN0.drew.box hne x2, hN0.drew.box hne x3, hN0.drew.box hne x4, hN0.drew.hdr.trans c34, hN0.drew.box hgP m0, hN0.drew.box hgP m1⟩)
      (first
        | (go_at_call 58; refine (C1 _ (by first | exact h1 | exact h1.drew | exact h0 | exact h0.drew)).mono ?_; rintro e w1 ⟨rfl, hb⟩; have h1 : PAt w1 base P s m := PAt.keep (by first | exact h1 | exact h1.drew | exact h0 | exact h0.drew) hb; have hN : Near P W0 w1 := Near.below (by first | exact hN0 | exact hN0.drew) hb h0.lt)
        | (go_at_call 55; refine (C2 _ (by first | exact h1 | exact h1.drew | exact h0 | exact h0.drew)).mono ?_; rintro e w2 ⟨rfl, hq, hn⟩; have hN2 : Near P W0 w2 := Near.trans (by first | exact hN | exact hN.drew) hn))

    all_goals (
      rename_i hS
      clear hS
      go_wp2_with fail
      go_ret
      exact did_put rfl hq (up_on HB0.out hN2.up))
  · have e0 : loadD m k j n = noD m (aE m j n) := by unfold loadD; rw [if_neg he]
    rw [e0]
    have C1 := fun (W : World) (h : PAt W base P s m) => address_no (op := op) (d := k) (b := b) (n := n) h hm hj he
    have HE : Hid (¬ aE m j n = 0) := he
    clear he e0
    generalize aE m j n = E at *
    obtain ⟨W0, HW⟩ : ∃ W0, Hid (w.alloc (.cells #[.int .i8 op, .int .i8 k, .int .i8 j, .int .i8 b, .int .i64 n] 58) = W0) := ⟨_, rfl⟩
    have x0 : W0.cell? ⟨w.heap.size, 0, none⟩ = some (.int .i8 op) := by rw [← HW.out]; simp [go_sem]
    have x1 : W0.cell? ⟨w.heap.size, 1, none⟩ = some (.int .i8 k) := by rw [← HW.out]; simp [go_sem]
    have x2 : W0.cell? ⟨w.heap.size, 2, none⟩ = some (.int .i8 j) := by rw [← HW.out]; simp [go_sem]
    have x3 : W0.cell? ⟨w.heap.size, 3, none⟩ = some (.int .i8 b) := by rw [← HW.out]; simp [go_sem]
    have x4 : W0.cell? ⟨w.heap.size, 4, none⟩ = some (.int .i64 n) := by rw [← HW.out]; simp [go_sem]
    have h0 : PAt W0 base P s m := by rw [← HW.out]; exact h.alloc _
    have HB0 : Hid (Below w.heap.size w W0) := by unfold Hid; rw [← HW.out]; exact lb_alloc (Below.refl _ _) _
    have hz0 : w.heap.size < W0.heap.size := by rw [← HW.out]; simp
    have hP := h.lt
    have hWW := Below.refl W0.heap.size W0
    have hml := hm.mlen
    obtain ⟨-, -, c34, -⟩ := h0.cells hm.sixteen
    clear hWW
    go_enter Try.func41, Try.ntmps41
    go_upto_region 1 with fail
    rw [HW.out]
    clear HW h
    go_region_law (go_simp; go_at_call 58; refine (C1 _ (by first | exact h1 | exact h1.drew | exact h0 | exact h0.drew)).mono ?_; rintro e w1 ⟨rfl, hb⟩; refine by_stop ⟨rfl, did_no HE.out (lb_trans HB0.out (lb_trans (Below.drew (Below.refl _ _)) hb))⟩ w1 ?_)
    all_goals trivial
end

end Go.Proofs.Ytdlcejpfjlpclaa
