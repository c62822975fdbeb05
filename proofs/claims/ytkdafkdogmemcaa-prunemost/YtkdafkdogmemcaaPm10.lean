/-
  The law's works. Plain: rising spots, a choice of them, what is kept.
-/
import Derived.Test.YtkdafkdogmemcaaProg
import Derived.WalkKit
import Derived.WalkSpells
import Derived.WalkLawsBesides
import Derived.RowKit3
import Derived.Below
import Derived.Deep.QuietTactic
import Derived.BigQuiet
import Derived.WalkSmall
import Derived.Laws.Rows
import Derived.Test.YtkdafkdogmemcaaPm09
import Derived.Test.YtkdafkdogmemcaaPm03
namespace Go.Proofs.Ytkdafkdogmemcaa
open Go.RowKit

def L5 : List Spt := [(0, 0, 0), (1, 0, 0), (2, 0, 0), (3, 0, 0), (4, 0, 0)]
theorem L5_ap : apR 2 L5 = [(0, 0, 0), (2, 0, 0), (4, 0, 0)] := by decide
theorem L5_ov : ovR 2 L5 = 4 := by decide
def WkP (w : World) (e : Ending) (w' : World) : Prop := e = .returned (.bool true) ∧ Below w.heap.size w w'
set_option maxRecDepth 100000 in
set_option maxHeartbeats 4000000 in
theorem works_any (w : World) : Calls Try.prog 4 #[] w (WkP w) := by
  obtain ⟨W, HW⟩ : ∃ W, Hid (w.alloc (.cells #[.int .i64 0, .int .i8 0, .int .i8 0, .int .i64 1, .int .i8 0, .int .i8 0, .int .i64 2, .int .i8 0, .int .i8 0, .int .i64 3, .int .i8 0, .int .i8 0, .int .i64 4, .int .i8 0, .int .i8 0] 27) = W) := ⟨_, rfl⟩
  have HB : Hid (Below w.heap.size w W) := by unfold Hid; rw [← HW.out]; exact lb_alloc (Below.refl _ _) _
  have HA : Hid (SpAt W (some ⟨w.heap.size, 0, none⟩) L5) := fun j hj => by
    rw [← HW.out]
    have hq : j = 0 ∨ j = 1 ∨ j = 2 ∨ j = 3 ∨ j = 4 := by
      have : L5.length = 5 := rfl
      omega
    rcases hq with rfl | rfl | rfl | rfl | rfl <;> exact ⟨_, rfl, by simp [go_sem, L5, spt, Addr.add], by simp [go_sem, L5, spt, Addr.add], by simp [go_sem, L5, spt, Addr.add]⟩
  have C1 := papart_any 2 (some ⟨w.heap.size, 0, none⟩) 5 L5 W HA.out (by decide)
  rw [L5_ap] at C1
  have C2 := fun Z (hZ : Below W.heap.size W Z) => poverlaps_any 2 (some ⟨w.heap.size, 0, none⟩) 5 L5 Z (HA.out.keep hZ) (by decide)
  rw [L5_ov] at C2
  have e5 : L5.length = 5 := rfl
  rw [e5] at C1 C2
  clear e5 HA
  go_enter Try.func4, Try.ntmps4
  go_upto_region 2 with fail
  rw [HW.out]
  clear HW
  go_wp2_with fail
  refine C1.mono ?_
  rintro e w1 ⟨X, k, rfl, h1, h2⟩
  obtain ⟨a, ea, c0, -, -⟩ := (row_sps (R := [(0, 0, 0), (2, 0, 0), (4, 0, 0)]) h1) 1 (by decide)
  subst ea
  have c1 : w1.cell? (a.add 3) = some (.int .i64 2) := c0
  have c2 : w1.cell? ⟨a.block, a.off + 3, none⟩ = some (.int .i64 2) := c0
  have HB1 : Hid (Below W.heap.size W w1) := h2
  clear h1 h2 C1 c0
  go_wp2_with fail
  refine (C2 _ HB1.out).mono ?_
  rintro e w2 ⟨rfl, hb2⟩
  have HB2 : Hid (Below w.heap.size w w2) := lb_trans HB.out (lb_trans HB1.out hb2)
  clear hb2 C2
  go_wp2
  go_ret
  exact ⟨rfl, HB2.out⟩

end Go.Proofs.Ytkdafkdogmemcaa

namespace Go.Proofs.Ytkdafkdogmemcaa
open Go.RowKit

/-- So many are looked at: within, rising. -/
def RiB (l : List Spt) (i : Nat) : Prop := (∀ j, j < i → 0 ≤ (spt l j).1 ∧ (spt l j).1 ≤ 16384) ∧ ∀ j, j + 1 < i → (spt l j).1 < (spt l (j + 1)).1
theorem RiB.zero (l : List Spt) : RiB l 0 := ⟨fun _ h => absurd h (Nat.not_lt_zero _), fun _ h => absurd h (Nat.not_lt_zero _)⟩
theorem RiB.succ {l : List Spt} {i : Nat} (h : RiB l i) (h0 : 0 ≤ (spt l i).1) (h1 : (spt l i).1 ≤ 16384) (h2 : ∀ p, i = p + 1 → (spt l p).1 < (spt l i).1) : RiB l (i + 1) := by
  refine ⟨fun j hj => ?_, fun j hj => ?_⟩
  · by_cases c : j = i
    · subst c; exact ⟨h0, h1⟩
    · exact h.1 j (by omega)
  · by_cases c : j + 1 = i
    · have := h2 j c.symm
      rw [c]
      exact this
    · exact h.2 j (by omega)
theorem spt_cons (s : Spt) (l : List Spt) (j : Nat) : spt (s :: l) (j + 1) = spt l j := by simp [spt]
theorem ris_of : ∀ {l : List Spt}, (∀ j, j + 1 < l.length → (spt l j).1 < (spt l (j + 1)).1) → Ris l
  | [], _ => trivial
  | x :: l, h => by
    have ih : Ris l := ris_of fun j hj => by
      have := h (j + 1) (by rw [List.length_cons]; omega)
      rw [spt_cons, spt_cons] at this
      exact this
    refine ⟨?_, ih⟩
    match l, ih, h with
    | [], _, _ => intro r hr; cases hr
    | y :: l, ih, h =>
      have h1 : x.1 < y.1 := h 0 (by simp)
      intro r hr
      rcases List.mem_cons.1 hr with rfl | hr
      · exact h1
      · have := ih.1 r hr
        omega
theorem ris_sub : ∀ {l c : List Spt}, c.Sublist l → Ris l → Ris c
  | _, _, .slnil, _ => trivial
  | _, _, .cons _ h, r => ris_sub h r.2
  | _, _, .cons_cons _ h, r => ⟨fun s hs => r.1 s (h.subset hs), ris_sub h r.2⟩
theorem spt_some {l : List Spt} {i : Nat} {a : Spt} (h : l[i]? = some a) : i < l.length ∧ spt l i = a := by
  obtain ⟨h1, h2⟩ := List.getElem?_eq_some_iff.1 h
  refine ⟨h1, ?_⟩
  unfold spt
  rw [List.getD_eq_getElem?_getD, h]
  rfl
theorem get_spt {l : List Spt} {i : Nat} (h : i < l.length) : l[i]? = some (spt l i) := by
  unfold spt
  rw [List.getD_eq_getElem?_getD, List.getElem?_eq_getElem h]
  rfl
theorem ovP_zero {n : Int} {l : List Spt} (h : ∀ i k, k < i → i < l.length → ovl n (spt l k) (spt l i) = false) : ∀ i, i ≤ l.length → ovP n l i = 0
  | 0, _ => rfl
  | i + 1, hi => by
    have hk : ∀ k, k ≤ i → ovK n l i k = 0 := fun k => by
      induction k with
      | zero => intro _; rfl
      | succ k ih =>
        intro hk
        rw [ovK_no (h i k (by omega) (by omega)), ih (by omega)]
    rw [ovP, ovP_zero h i (by omega), hk i (Nat.le_refl _)]
/-- What is kept of rising spots. -/
structure Kept20 (n : Int) (l K : List Spt) : Prop where
  gap : ∀ i, i + 1 < K.length → (spt K i).1 + n ≤ (spt K (i + 1)).1
  ov : ovR n K = 0
  some : 0 < l.length → 0 < K.length
  most : ∀ S, S.Sublist l → (∀ i, i + 1 < S.length → (spt S i).1 + n ≤ (spt S (i + 1)).1) → S.length ≤ K.length
  mem : ∀ s ∈ K, 0 ≤ s.1 ∧ s.1 ≤ 16384
  few : K.length ≤ l.length
theorem kept20 {n : Int} {l : List Spt} (hn : 1 ≤ n) (hn2 : n ≤ 16384) (h : RiB l l.length) : Kept20 n l (apR n l) := by
  have hr : Ris l := ris_of h.2
  have hm : ∀ s ∈ l, 0 ≤ s.1 ∧ s.1 ≤ 16384 := fun s hs => by
    obtain ⟨i, hi, rfl⟩ := List.getElem_of_mem hs
    have := h.1 i hi
    unfold spt at this
    rw [List.getD_eq_getElem?_getD, List.getElem?_eq_getElem hi] at this
    exact this
  have hw : ∀ L : List Spt, (∀ s ∈ L, 0 ≤ s.1 ∧ s.1 ≤ 16384) → wiB n L = true := fun L hL => by
    unfold wiB
    rw [Bool.and_eq_true, List.all_eq_true, Bool.and_eq_true, decide_eq_true_eq, decide_eq_true_eq]
    refine ⟨fun s hs => ?_, hn, hn2⟩
    unfold okS1
    rw [decide_eq_true (hL s hs).1, decide_eq_true (hL s hs).2]
    rfl
  have e : apR n l = gr n 0 l := by
    unfold apR
    rw [hw l hm, if_pos rfl, ap_gr hr fun s hs => (hm s hs).1]
  have hs := gr_sub (n := n) 0 l
  have hg := gr_gap (n := n) 0 l
  have hmem : ∀ s ∈ gr n 0 l, 0 ≤ s.1 ∧ s.1 ≤ 16384 := fun s h => hm s (hs.subset h)
  rw [e]
  refine ⟨fun i hi => gap_go i hg (get_spt (by omega)) (get_spt hi), ?_, ?_, ?_, hmem, hs.length_le⟩
  · unfold ovR
    rw [hw _ hmem, if_pos rfl]
    refine ovP_zero (fun i k hk hi => ovl_apart hn ?_) _ (Nat.le_refl _)
    have hp := List.pairwise_iff_getElem.1 (gap_pair (by omega) hg) k i (by omega) hi hk
    have e1 := get_spt (l := gr n 0 l) (i := k) (by omega)
    have e2 := get_spt (l := gr n 0 l) hi
    rw [List.getElem?_eq_getElem (by omega)] at e1
    rw [List.getElem?_eq_getElem hi] at e2
    rw [Option.some.inj e1, Option.some.inj e2] at hp
    exact hp
  · intro hl
    match l, hm, hl with
    | x :: l, hm, _ =>
      unfold gr
      rw [if_pos (hm x List.mem_cons_self).1]
      simp
  · intro S hS hg2
    refine gr_most (by omega) l 0 S hr hS (gap_of (fun s h => (hm s (hS.subset h)).1) (fun i a b h1 h2 => ?_) (by omega) (ris_sub hS hr))
    obtain ⟨q1, rfl⟩ := spt_some h1
    obtain ⟨q2, rfl⟩ := spt_some h2
    exact hg2 i q2
theorem ri_mem {l : List Spt} (h : RiB l l.length) : ∀ s ∈ l, 0 ≤ s.1 ∧ s.1 ≤ 16384 := fun s hs => by
  obtain ⟨i, hi, rfl⟩ := List.getElem_of_mem hs
  have := h.1 i hi
  unfold spt at this
  rw [List.getD_eq_getElem?_getD, List.getElem?_eq_getElem hi] at this
  exact this
theorem sub_snoc {S l : List Spt} {i : Nat} (h : S.Sublist (l.take i)) (hi : i < l.length) : (S ++ [spt l i]).Sublist (l.take (i + 1)) := by
  rw [List.take_add_one, get_spt hi]
  exact h.append (List.Sublist.refl _)
theorem sub_skip {S l : List Spt} {i : Nat} (h : S.Sublist (l.take i)) : S.Sublist (l.take (i + 1)) := by
  rw [List.take_add_one]
  exact h.trans (List.sublist_append_left _ _)

end Go.Proofs.Ytkdafkdogmemcaa
