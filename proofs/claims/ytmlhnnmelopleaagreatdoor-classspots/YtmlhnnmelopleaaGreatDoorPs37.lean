/-
  The document marks taken labels. The document marks return sites. Back of the document, by what it answers. goes of the document, by what it returns; the word is of 32 bits.
-/
import Derived.Test.YtmlhnnmelopleaaGreatDoorProg
import Derived.WalkKit
import Derived.WalkSpells
import Derived.WalkLawsBesides
import Derived.RowKit3
import Derived.Below
import Derived.Deep.QuietTactic
import Derived.BigQuiet
import Derived.WalkSmall
import Derived.Laws.Rows
import Derived.Test.YtmlhnnmelopleaaGreatDoorPs36
import Derived.Test.YtmlhnnmelopleaaGreatDoorPs20
import Derived.Test.YtmlhnnmelopleaaGreatDoorPs10
namespace Go.Proofs.YtmlhnnmelopleaaGreatDoor
open Go.RowKit

set_option maxRecDepth 100000 in
set_option maxHeartbeats 4000000 in
theorem refmark1_any (A1 A2 : Option Addr) (c1 ml c2 : Nat) (ent : Int) (text : List Int) (w : World) (hT : IntsAt w A1 .u32 text) (hR : ∀ i, i < text.length → 0 ≤ nth text i ∧ nth text i < 4294967296) (hM : MayI text ml ent) :
    Calls Tryz.prog 59 #[.agg #[.slice A1 text.length c1, .int .i64 ent, .slice A2 ml c2], .int .i64 1] w (MarkP text.length (takF text) w) := by
  have hfl := fieldIns0R
  have hl : text.length ≤ 16384 := hM.past.len
  have he0 := hM.past.ent0
  have he1 := hM.past.ent1
  have hmk := make_bls text.length (by omega)
  obtain ⟨W, HW⟩ : ∃ W, Hid ((w.alloc (.cells #[.slice A1 text.length c1, .int .i64 ent, .slice A2 ml c2] 31)).alloc (.cells (madeCells #[.bool false] text.length) 4) = W) := ⟨_, rfl⟩
  have HB : Hid (Below w.heap.size w W) := by unfold Hid; rw [← HW.out]; exact lb_alloc (lb_alloc (Below.refl _ _) _) _
  have HS : Hid (BlsAt W (w.heap.size + 1) text.length noF) := by
    have := BlsAt.made (w.alloc (.cells #[.slice A1 text.length c1, .int .i64 ent, .slice A2 ml c2] 31)) text.length
    rw [HW.out] at this
    simpa [Hid] using this
  have i0 : W.cell? ⟨w.heap.size, 0, none⟩ = some (.slice A1 text.length c1) := by rw [← HW.out]; simp [go_sem]
  have i1 : W.cell? ⟨w.heap.size, 1, none⟩ = some (.int .i64 ent) := by rw [← HW.out]; simp [go_sem]
  have hZ : w.heap.size + 1 < W.heap.size := by rw [← HW.out]; simp
  have HT : Hid (IntsAt w A1 .u32 text) := hT
  have HM : Hid (MayI text ml ent) := hM
  have HR : Hid _ := hR
  clear hT hR hM
  go_enter Tryz.func59, Tryz.ntmps59
  go_upto_region 2 with fail
  rw [HW.out]
  clear HW hmk
  go_wp2
  go_loopw [6] (fun i wr => ∃ k : Nat, i = .int .i64 k ∧ k ≤ text.length ∧ Hid (BlsAt wr (w.heap.size + 1) text.length (addK noF (gTak text) k)) ∧ Hid (W.grownBy wr (some (w.heap.size + 1)))) (fun i _ => text.length - (intOf i).toNat)
  case atStart => exact ⟨0, rfl, Nat.zero_le _, HS.out.fit fun y => (addK_zero _ _ y).symm, World.grownBy.refl _ _⟩
  case round =>
    clear HS
    obtain ⟨k, rfl, hk, HS, HG⟩ := hrel
    have j0 := cell_other HG.out i0 (show w.heap.size ≠ w.heap.size + 1 by omega)
    have j1 := cell_other HG.out i1 (show w.heap.size ≠ w.heap.size + 1 by omega)
    have HBr : Hid (Below w.heap.size w wr) := grown_belowR HB.out HG.out (by omega) HB.out.size
    by_cases hlt : k < text.length
    · obtain ⟨a, rfl, q⟩ := (HT.out.keep HBr.out) k hlt
      obtain ⟨hv0, hv1⟩ := HR.out k hlt
      have C1 := refdecode_any (nth text k) hv0 hv1 wr
      have C2 := fun wx => reftarget_any (nth text k) hv0 hv1 wx

      have HY : Hid ((dOp (nth text k) == 20) = true → gTak text k = some (tgV (nth text k)) ∧ isT (nth text k) = true ∧ 0 ≤ tgV (nth text k) ∧ tgV (nth text k) < (text.length : Int)) := fun h => by
        have hp := place_tg (v := nth text k) (by simpa using h)
        exact ⟨by rw [hp.2]; exact gTak_yes h, hp.1, (tg_pos hp.1).1, far_in (HM.out.far k hlt) hp.1⟩
      have HN : Hid ((dOp (nth text k) == 20) = false → gTak text k = none) := gTak_no
      generalize nth text k = v at *
      generalize isT v = t at *
      generalize tgV v = z at *
      generalize dOp v = x at *
      generalize dD v = x1 at *
      generalize dA v = x2 at *
      generalize dB v = x3 at *
      generalize dN v = x4 at *
      cases hx : (x == 20) with
      | false =>
        have HG0 : Hid (gTak text k = none) := HN.out hx
        clear HY HN
        cases t with
        | false =>
          go_wp2_with (first
            | (go_at_call 31; refine C1.mono ?_; rintro e w2 ⟨rfl, hb2⟩; have m0 := lkeep hb2 j0; have m1 := lkeep hb2 q)
            | (go_at_call 32; refine (C2 _).mono ?_; rintro e w3 ⟨rfl, hb3⟩))
          go_roundw
          case rel => exact ⟨k + 1, by go_num, by omega, ((HS.out.keep hb2).keep hb3).fit (addK_none HG0.out), grown_on (grown_on HG.out hb2) hb3⟩
          case measure => simp [intOf]; omega
        | true =>
          go_wp2_with (first
            | (go_at_call 31; refine C1.mono ?_; rintro e w2 ⟨rfl, hb2⟩; have m0 := lkeep hb2 j0; have m1 := lkeep hb2 q)
            | (go_at_call 32; refine (C2 _).mono ?_; rintro e w3 ⟨rfl, hb3⟩))
          go_roundw
          case rel => exact ⟨k + 1, by go_num, by omega, ((HS.out.keep hb2).keep hb3).fit (addK_none HG0.out), grown_on (grown_on HG.out hb2) hb3⟩
          case measure => simp [intOf]; omega
      | true =>
        obtain ⟨hg, ht, hz0, hz1⟩ := HY.out hx
        subst ht
        have HG0 : Hid (gTak text k = some z) := hg
        clear HY HN hg
        go_wp2_with (first
          | (go_at_call 31; refine C1.mono ?_; rintro e w2 ⟨rfl, hb2⟩; have m0 := lkeep hb2 j0; have m1 := lkeep hb2 q)
          | (go_at_call 32; refine (C2 _).mono ?_; rintro e w3 ⟨rfl, hb3⟩; have HS3 : Hid (BlsAt w3 (w.heap.size + 1) text.length (addK noF (gTak text) k)) := (HS.out.keep hb2).keep hb3; have s0 := HS3.out.cell hz0 hz1; have s1 := HS3.out.fro z.toNat))
        go_roundw
        case rel => exact ⟨k + 1, by go_num, by omega, (HS3.out.set hz0 hz1).fit (addK_some HG0.out), (grown_on (grown_on HG.out hb2) hb3).trans (gset11 _ _ _ _)⟩
        case measure => simp [intOf]; omega
    · obtain rfl : k = text.length := by omega
      go_wp2
      go_ret
      exact ⟨w.heap.size + 1, rfl, HS.out, HBr.out⟩




end Go.Proofs.YtmlhnnmelopleaaGreatDoor

namespace Go.Proofs.YtmlhnnmelopleaaGreatDoor
open Go.RowKit

set_option maxRecDepth 100000 in
set_option maxHeartbeats 4000000 in
theorem refmark2_any (A1 A2 : Option Addr) (c1 ml c2 : Nat) (ent : Int) (text : List Int) (w : World) (hT : IntsAt w A1 .u32 text) (hR : ∀ i, i < text.length → 0 ≤ nth text i ∧ nth text i < 4294967296) (hM : MayI text ml ent) :
    Calls Tryz.prog 59 #[.agg #[.slice A1 text.length c1, .int .i64 ent, .slice A2 ml c2], .int .i64 2] w (MarkP text.length (sitF text) w) := by
  have hfl := fieldIns0R
  have hl : text.length ≤ 16384 := hM.past.len
  have he0 := hM.past.ent0
  have he1 := hM.past.ent1
  have hmk := make_bls text.length (by omega)
  obtain ⟨W, HW⟩ : ∃ W, Hid ((w.alloc (.cells #[.slice A1 text.length c1, .int .i64 ent, .slice A2 ml c2] 31)).alloc (.cells (madeCells #[.bool false] text.length) 4) = W) := ⟨_, rfl⟩
  have HB : Hid (Below w.heap.size w W) := by unfold Hid; rw [← HW.out]; exact lb_alloc (lb_alloc (Below.refl _ _) _) _
  have HS : Hid (BlsAt W (w.heap.size + 1) text.length noF) := by
    have := BlsAt.made (w.alloc (.cells #[.slice A1 text.length c1, .int .i64 ent, .slice A2 ml c2] 31)) text.length
    rw [HW.out] at this
    simpa [Hid] using this
  have i0 : W.cell? ⟨w.heap.size, 0, none⟩ = some (.slice A1 text.length c1) := by rw [← HW.out]; simp [go_sem]
  have i1 : W.cell? ⟨w.heap.size, 1, none⟩ = some (.int .i64 ent) := by rw [← HW.out]; simp [go_sem]
  have hZ : w.heap.size + 1 < W.heap.size := by rw [← HW.out]; simp
  have HT : Hid (IntsAt w A1 .u32 text) := hT
  have HM : Hid (MayI text ml ent) := hM
  have HR : Hid _ := hR
  clear hT hR hM
  go_enter Tryz.func59, Tryz.ntmps59
  go_upto_region 2 with fail
  rw [HW.out]
  clear HW hmk
  go_wp2
  go_loopw [6] (fun i wr => ∃ k : Nat, i = .int .i64 k ∧ k ≤ text.length ∧ Hid (BlsAt wr (w.heap.size + 1) text.length (addK noF (gSit text) k)) ∧ Hid (W.grownBy wr (some (w.heap.size + 1)))) (fun i _ => text.length - (intOf i).toNat)
  case atStart => exact ⟨0, rfl, Nat.zero_le _, HS.out.fit fun y => (addK_zero _ _ y).symm, World.grownBy.refl _ _⟩
  case round =>
    clear HS
    obtain ⟨k, rfl, hk, HS, HG⟩ := hrel
    have j0 := cell_other HG.out i0 (show w.heap.size ≠ w.heap.size + 1 by omega)
    have j1 := cell_other HG.out i1 (show w.heap.size ≠ w.heap.size + 1 by omega)
    have HBr : Hid (Below w.heap.size w wr) := grown_belowR HB.out HG.out (by omega) HB.out.size
    by_cases hlt : k < text.length
    · obtain ⟨a, rfl, q⟩ := (HT.out.keep HBr.out) k hlt
      obtain ⟨hv0, hv1⟩ := HR.out k hlt
      have C1 := refdecode_any (nth text k) hv0 hv1 wr
      have C2 := fun wx => reftarget_any (nth text k) hv0 hv1 wx

      have HY : Hid ((dOp (nth text k) == 17) = true ∨ (dOp (nth text k) == 18) = true → gSit text k = some ((k : Int) + 1) ∧ k + 1 < text.length) := fun h => ⟨gSit_yes h, sit_in HM.out hlt h⟩
      have HN : Hid ((dOp (nth text k) == 17) = false → (dOp (nth text k) == 18) = false → gSit text k = none) := gSit_no
      generalize nth text k = v at *
      generalize isT v = t at *
      generalize tgV v = z at *
      generalize dOp v = x at *
      generalize dD v = x1 at *
      generalize dA v = x2 at *
      generalize dB v = x3 at *
      generalize dN v = x4 at *
      cases ht : (x == 17) with
      | true =>
        obtain ⟨hg, hz⟩ := HY.out (.inl ht)
        have HG0 : Hid (gSit text k = some ((k : Int) + 1)) := hg
        have hz' : (k : Int) + 1 < (text.length : Int) := by omega
        clear HY HN hg
        cases t
        all_goals (
          go_wp2_with (first
            | (go_at_call 31; refine C1.mono ?_; rintro e w2 ⟨rfl, hb2⟩; have m0 := lkeep hb2 j0; have m1 := lkeep hb2 q)
            | (go_at_call 32; refine (C2 _).mono ?_; rintro e w3 ⟨rfl, hb3⟩; have HS3 : Hid (BlsAt w3 (w.heap.size + 1) text.length (addK noF (gSit text) k)) := (HS.out.keep hb2).keep hb3; have s0 := HS3.out.cellN hz; have s1 := HS3.out.fro (k + 1)))
          go_roundw
          case rel => exact ⟨k + 1, by go_num, by omega, (HS3.out.setN hz).fit (addK_some (by rw [HG0.out]; rfl)), (grown_on (grown_on HG.out hb2) hb3).trans (gset11 _ _ _ _)⟩
          case measure => simp [intOf]; omega)
      | false =>
      cases hu : (x == 18) with
      | true =>
        obtain ⟨hg, hz⟩ := HY.out (.inr hu)
        have HG0 : Hid (gSit text k = some ((k : Int) + 1)) := hg
        have hz' : (k : Int) + 1 < (text.length : Int) := by omega
        clear HY HN hg
        cases t
        all_goals (
          go_wp2_with (first
            | (go_at_call 31; refine C1.mono ?_; rintro e w2 ⟨rfl, hb2⟩; have m0 := lkeep hb2 j0; have m1 := lkeep hb2 q)
            | (go_at_call 32; refine (C2 _).mono ?_; rintro e w3 ⟨rfl, hb3⟩; have HS3 : Hid (BlsAt w3 (w.heap.size + 1) text.length (addK noF (gSit text) k)) := (HS.out.keep hb2).keep hb3; have s0 := HS3.out.cellN hz; have s1 := HS3.out.fro (k + 1)))
          go_roundw
          case rel => exact ⟨k + 1, by go_num, by omega, (HS3.out.setN hz).fit (addK_some (by rw [HG0.out]; rfl)), (grown_on (grown_on HG.out hb2) hb3).trans (gset11 _ _ _ _)⟩
          case measure => simp [intOf]; omega)
      | false =>
        have HG0 : Hid (gSit text k = none) := HN.out ht hu
        clear HY HN
        cases t
        all_goals (
          go_wp2_with (first
            | (go_at_call 31; refine C1.mono ?_; rintro e w2 ⟨rfl, hb2⟩; have m0 := lkeep hb2 j0; have m1 := lkeep hb2 q)
            | (go_at_call 32; refine (C2 _).mono ?_; rintro e w3 ⟨rfl, hb3⟩))
          go_roundw
          case rel => exact ⟨k + 1, by go_num, by omega, ((HS.out.keep hb2).keep hb3).fit (addK_none HG0.out), grown_on (grown_on HG.out hb2) hb3⟩
          case measure => simp [intOf]; omega)
    · obtain rfl : k = text.length := by omega
      go_wp2
      go_ret
      exact ⟨w.heap.size + 1, rfl, HS.out, HBr.out⟩




end Go.Proofs.YtmlhnnmelopleaaGreatDoor

namespace Go.Proofs.YtmlhnnmelopleaaGreatDoor
open Go.RowKit

theorem offs_at {vs : List Value} {n m : Nat} {v : Value} (h : Offs vs n v) (e : n = m) : Offs vs m v := by subst e; exact h


end Go.Proofs.YtmlhnnmelopleaaGreatDoor

namespace Go.Proofs.YtmlhnnmelopleaaGreatDoor
open Go.RowKit

set_option maxRecDepth 100000 in
set_option maxHeartbeats 4000000 in
theorem goes_any (v place : Int) (next known : Bool) (h0 : 0 ≤ v) (h1 : v < 4294967296) (w : World) :
    Calls Tryz.prog 95 #[.int .u32 v, .bool next, .int .i64 place, .bool known] w fun e w' => e = .returned (.bool (goesF (dOp v) (dN v) next place known)) ∧ Below w.heap.size w w' := by
  have C := refdecode_any v h0 h1 w
  unfold goesF
  generalize dOp v = x at *
  generalize dD v = x1 at *
  generalize dA v = x2 at *
  generalize dB v = x3 at *
  generalize dN v = n at *
  by_cases g1 : x = -1 ∨ x = 0 ∨ x = 21
  · rw [if_pos g1]
    rcases g1 with rfl | rfl | rfl
    all_goals (
      go_enter Tryz.func95, Tryz.ntmps95
      go_wp2_with (go_at_call 31; refine C.mono ?_; rintro e w1 ⟨rfl, hb⟩)
      go_ret
      exact ⟨rfl, lb_alloc hb _⟩)
  rw [if_neg g1]
  have e1 : (x == -1) = false := by simpa using fun h => g1 (.inl h)
  have e2 : (x == 0) = false := by simpa using fun h => g1 (.inr (.inl h))
  have e3 : (x == 21) = false := by simpa using fun h => g1 (.inr (.inr h))
  by_cases g2 : x = 15 ∨ x = 17
  · rw [if_pos g2]
    clear g1
    rcases g2 with rfl | rfl
    all_goals (
      go_enter Tryz.func95, Tryz.ntmps95
      go_wp2_with (go_at_call 31; refine C.mono ?_; rintro e w1 ⟨rfl, hb⟩)
      go_ret
      exact ⟨rfl, lb_alloc hb _⟩)
  rw [if_neg g2]
  have e4 : (x == 15) = false := by simpa using fun h => g2 (.inl h)
  have e5 : (x == 17) = false := by simpa using fun h => g2 (.inr h)
  by_cases g3 : x = 16
  · rw [if_pos g3]
    clear g1 g2
    subst g3
    cases hp : (n == place)
    all_goals (
      go_enter Tryz.func95, Tryz.ntmps95
      go_wp2_with (go_at_call 31; refine C.mono ?_; rintro e w1 ⟨rfl, hb⟩)
      go_ret
      exact ⟨by first | rfl | simp, lb_alloc hb _⟩)
  rw [if_neg g3]
  have e6 : (x == 16) = false := by simpa using g3
  by_cases g4 : x = 18 ∨ x = 19
  · rw [if_pos g4]
    clear g1 g2 g3
    rcases g4 with rfl | rfl
    all_goals (
      go_enter Tryz.func95, Tryz.ntmps95
      go_wp2_with (go_at_call 31; refine C.mono ?_; rintro e w1 ⟨rfl, hb⟩)
      go_ret
      exact ⟨rfl, lb_alloc hb _⟩)
  rw [if_neg g4]
  have e7 : (x == 18) = false := by simpa using fun h => g4 (.inl h)
  have e8 : (x == 19) = false := by simpa using fun h => g4 (.inr h)
  clear g1 g2 g3 g4
  go_enter Tryz.func95, Tryz.ntmps95
  go_wp2_with (go_at_call 31; refine C.mono ?_; rintro e w1 ⟨rfl, hb⟩)
  go_ret
  exact ⟨rfl, lb_alloc hb _⟩




end Go.Proofs.YtmlhnnmelopleaaGreatDoor
