/-
  What a map of marks leaves alone; targets; no Go in sight. markLabels, by what it marks; each word is of 32 bits. markBegins, by what it marks; each word is of 32 bits.
-/
import Derived.Test.YtokhclindfipbaaProg
import Derived.WalkKit
import Derived.WalkSpells
import Derived.WalkLawsBesides
import Derived.RowKit3
import Derived.Below
import Derived.Deep.QuietTactic
import Derived.BigQuiet
import Derived.WalkSmall
import Derived.Laws.Rows
import Derived.Test.YtokhclindfipbaaPr32
import Derived.Test.YtokhclindfipbaaPr28
import Derived.Test.YtokhclindfipbaaPr03
namespace Go.Proofs.Ytokhclindfipbaa
open Go.RowKit

theorem hP_hN11 {op : Int} (h : hP op = true) : hN op = true := by
  unfold hP at h
  unfold hN
  rw [decide_eq_true_eq] at h ⊢
  omega
theorem isT_ins11 {v : Int} (h : isT v = true) : isIns v = true ∧ hP (dOp v) = true ∧ 0 ≤ dOp v := by
  unfold isT at h
  rw [Bool.and_eq_true, decide_eq_true_eq] at h
  refine ⟨?_, h.2, h.1⟩
  cases hi : isIns v
  · have : dOp v = -1 := by unfold dOp; rw [hi]; simp
    omega
  · rfl
theorem tg_pos {v : Int} (hT : isT v = true) : 0 ≤ tgV v ∧ tgV v < 16384 := by
  obtain ⟨hi, hP', h0⟩ := isT_ins11 hT
  have hd : dOp v = wOp v := by unfold dOp; rw [hi]; simp
  have hi2 := hi
  unfold isIns at hi2
  rw [Bool.and_eq_true] at hi2
  have hok := hi2.2
  unfold insOK numOK at hok
  rw [hd] at hP'
  simp only [Bool.and_eq_true, hP_hN11 hP', hP', if_true, decide_eq_true_iff] at hok
  have e : tgV v = wN v := by unfold tgV dN; rw [hT, hi]; simp
  rw [e]
  exact hok.2
/-- A Place has a target. -/
theorem place_tg {v : Int} (h : dOp v = 20) : isT v = true ∧ tgV v = dN v := by
  have hT : isT v = true := by
    unfold isT hP
    rw [h]
    rfl
  exact ⟨hT, by unfold tgV; rw [if_pos hT]⟩
theorem Mks.apart {w : World} {b n : Nat} {f : Int → Bool} (h : Mks w b n f) {p : Addr} {v : Value} (hc : w.cell? p = some v) : some p.block ≠ some b := by
  obtain ⟨D, ⟨es, clock, h1, h2⟩, h3⟩ := h
  intro e
  injection e with e
  rw [World.cell?] at hc
  rw [e, h1] at hc
  simp at hc
theorem Mks.cell {w w1 : World} {b n : Nat} {f : Int → Bool} (h : Mks w b n f) (hg : w.grownBy w1 (some b)) {p : Addr} {v : Value} (hc : w.cell? p = some v) : w1.cell? p = some v := hg.cell hc (h.apart hc)
theorem Mks.ints {w w1 : World} {b n : Nat} {f : Int → Bool} (h : Mks w b n f) (hg : w.grownBy w1 (some b)) {A : Option Addr} {K : IntKind} {zs : List Int} (hc : IntsAt w A K zs) : IntsAt w1 A K zs := fun i hi => by
  obtain ⟨a, e, c⟩ := hc i hi
  exact ⟨a, e, h.cell hg c⟩
theorem grown_of {w w1 : World} {row : Option Nat} (hb : Below w.heap.size w w1) : w.grownBy w1 row := ⟨hb.os, hb.tape, hb.output, hb.size, fun k hk _ => hb.block k hk⟩
theorem grown_on {w w1 w2 : World} {row : Option Nat} (h : w.grownBy w1 row) (hb : Below w1.heap.size w1 w2) : w.grownBy w2 row := h.trans (grown_of hb)
/-- An answer of what marks. -/
def MkP (b m : Nat) (F : Int → Bool) (w : World) (e : Ending) (w' : World) : Prop := e = .returned (.tuple #[]) ∧ Mks w' b m F ∧ w.grownBy w' (some b)
theorem gLab_yes {text : List Int} {k : Nat} (h : isT (nth text k) = true) : gLab text k = some (tgV (nth text k)) := by unfold gLab; rw [if_pos h]
theorem gLab_no {text : List Int} {k : Nat} (h : isT (nth text k) = false) : gLab text k = none := by unfold gLab; rw [if_neg (by simp [h])]
theorem gTak_yes {text : List Int} {k : Nat} (h : (dOp (nth text k) == 20) = true) : gTak text k = some (dN (nth text k)) := by unfold gTak; rw [if_pos h]
theorem gTak_no {text : List Int} {k : Nat} (h : (dOp (nth text k) == 20) = false) : gTak text k = none := by unfold gTak; rw [if_neg (by simp [h])]
theorem gSit_yes {text : List Int} {k : Nat} (h : (dOp (nth text k) == 17) = true ∨ (dOp (nth text k) == 18) = true) : gSit text k = some ((k : Int) + 1) := by unfold gSit; rw [if_pos h]
theorem gSit_no {text : List Int} {k : Nat} (h : (dOp (nth text k) == 17) = false) (h2 : (dOp (nth text k) == 18) = false) : gSit text k = none := by unfold gSit; rw [if_neg (by simp [h, h2])]
theorem gEnd_yes {text : List Int} {k : Nat} (h : endsB (dOp (nth text k)) = true) : gEnd text k = some ((k : Int) + 1) := by unfold gEnd; rw [if_pos h]
theorem gEnd_no {text : List Int} {k : Nat} (h : endsB (dOp (nth text k)) = false) : gEnd text k = none := by unfold gEnd; rw [if_neg (by simp [h])]


end Go.Proofs.Ytokhclindfipbaa

namespace Go.Proofs.Ytokhclindfipbaa
open Go.RowKit

set_option maxRecDepth 100000 in
set_option maxHeartbeats 2000000 in
theorem marklabels_any (A1 A2 : Option Addr) (c1 ml c2 : Nat) (ent : Int) (text : List Int) (b n : Nat) (f : Int → Bool) (w : World) (hT : IntsAt w A1 .u32 text) (hR : ∀ i, i < text.length → 0 ≤ nth text i ∧ nth text i < 4294967296) (hl : text.length ≤ 1048576) (he0 : 0 ≤ ent) (he1 : ent ≤ 1048576) (hk : Mks w b n f) (hn : n ≤ 1000000000) :
    Calls Try.prog 36 #[.agg #[.slice A1 text.length c1, .int .i64 ent, .slice A2 ml c2], .map (some b)] w (MkP b (n + 1 + text.length) (addK (setF f ent) (gLab text) text.length) w) := by
  obtain ⟨W, HW⟩ : ∃ W, Hid (w.alloc (.cells #[.slice A1 text.length c1, .int .i64 ent, .slice A2 ml c2] 25) = W) := ⟨_, rfl⟩
  have HB : Hid (Below w.heap.size w W) := by unfold Hid; rw [← HW.out]; exact lb_alloc (Below.refl _ _) _
  have i0 : W.cell? ⟨w.heap.size, 0, none⟩ = some (.slice A1 text.length c1) := by rw [← HW.out]; simp [go_sem]
  have i1 : W.cell? ⟨w.heap.size, 1, none⟩ = some (.int .i64 ent) := by rw [← HW.out]; simp [go_sem]
  have HT : Hid (IntsAt w A1 .u32 text) := hT
  have HK0 : Hid (Mks w b n f) := hk
  have HKW : Hid (Mks W b n f) := hk.keep HB.out
  have HR : Hid _ := hR
  clear hT hk hR
  go_enter Try.func36, Try.ntmps36
  go_upto_region 1 with fail
  rw [HW.out]
  clear HW
  go_wp2_with fail
  refine (mark_any b n f ent W HKW.out (by omega) (by omega) (by omega)).mono ?_
  rintro e w1 ⟨rfl, hk1, hg1⟩
  have j0 := HKW.out.cell hg1 i0
  have HK1 : Hid (Mks w1 b (n + 1) (addK (setF f ent) (gLab text) 0)) := hk1.fit fun y => (addK_zero _ _ y).symm
  have HG1 : Hid (w.grownBy w1 (some b)) := (grown_of HB.out).trans hg1
  clear i0 i1 hk1 hg1
  go_wp2
  go_loopw [15] (fun i wr => ∃ (k m : Nat), i = .int .i64 k ∧ k ≤ text.length ∧ m ≤ n + 1 + k ∧ Hid (Mks wr b m (addK (setF f ent) (gLab text) k)) ∧ Hid (w.grownBy wr (some b))) (fun i _ => text.length - (intOf i).toNat)
  case atStart => exact ⟨0, n + 1, rfl, Nat.zero_le _, Nat.le_refl _, HK1, HG1⟩
  case round =>
    clear HK1 HG1 j0
    obtain ⟨k, m, rfl, hk, hm, HK, HG⟩ := hrel
    by_cases hlt : k < text.length
    · obtain ⟨a, rfl, q⟩ := (HK0.out.ints HG.out HT.out) k hlt
      obtain ⟨hv0, hv1⟩ := HR.out k hlt
      have C := isatarget_any (nth text k) hv0 hv1 wr
      have HY : Hid (isT (nth text k) = true → gLab text k = some (tgV (nth text k)) ∧ 0 ≤ tgV (nth text k) ∧ tgV (nth text k) < 16384) := fun h => ⟨gLab_yes h, tg_pos h⟩
      have HN : Hid (isT (nth text k) = false → gLab text k = none) := gLab_no
      generalize nth text k = v at *
      generalize isT v = t at *
      generalize tgV v = z at *
      cases t with
      | false =>
        have HG0 : Hid (gLab text k = none) := HN.out rfl
        clear HY HN
        go_wp2_with (go_at_call 32; refine C.mono ?_; rintro e w2 ⟨rfl, hb2⟩)
        go_roundw
        case rel => exact ⟨k + 1, m, by go_num, by omega, by omega, (HK.out.keep hb2).fit (addK_none HG0.out), grown_on HG.out hb2⟩
        case measure => simp [intOf]; omega
      | true =>
        obtain ⟨hg, hz0, hz1⟩ := HY.out rfl
        have HG0 : Hid (gLab text k = some z) := hg
        clear HY HN hg
        go_wp2_with (first
          | (go_at_call 32; refine C.mono ?_; rintro e w2 ⟨rfl, hb2⟩)
          | (go_at_call 35; refine (mark_any b m _ z _ (HK.out.keep hb2) (by omega) (by omega) (by omega)).mono ?_; rintro e w3 ⟨rfl, hk3, hg3⟩))
        go_roundw
        case rel => exact ⟨k + 1, m + 1, by go_num, by omega, by omega, hk3.fit (addK_some HG0.out), (grown_on HG.out hb2).trans hg3⟩
        case measure => simp [intOf]; omega
    · obtain rfl : k = text.length := by omega
      go_wp2
      refine bodyPost_end (v := .tuple #[]) (by simp [results, Try.results36, go_sem]) rfl ?_
      exact ⟨rfl, HK.out.more hm, HG.out⟩


end Go.Proofs.Ytokhclindfipbaa

namespace Go.Proofs.Ytokhclindfipbaa
open Go.RowKit

set_option maxRecDepth 100000 in
set_option maxHeartbeats 2000000 in
theorem markbegins_any (A1 A2 : Option Addr) (c1 ml c2 : Nat) (ent : Int) (text : List Int) (b n : Nat) (f : Int → Bool) (w : World) (hT : IntsAt w A1 .u32 text) (hR : ∀ i, i < text.length → 0 ≤ nth text i ∧ nth text i < 4294967296) (hl : text.length ≤ 1048576) (he0 : 0 ≤ ent) (he1 : ent ≤ 1048576) (hk : Mks w b n f) (hn : n ≤ 1000000) :
    Calls Try.prog 24 #[.agg #[.slice A1 text.length c1, .int .i64 ent, .slice A2 ml c2], .map (some b)] w (MkP b (n + 2 + text.length + text.length) (addK (addK (setF (setF f 0) ent) (gLab text) text.length) (gEnd text) text.length) w) := by
  obtain ⟨W, HW⟩ : ∃ W, Hid (w.alloc (.cells #[.slice A1 text.length c1, .int .i64 ent, .slice A2 ml c2] 25) = W) := ⟨_, rfl⟩
  have HB : Hid (Below w.heap.size w W) := by unfold Hid; rw [← HW.out]; exact lb_alloc (Below.refl _ _) _
  have i0 : W.cell? ⟨w.heap.size, 0, none⟩ = some (.slice A1 text.length c1) := by rw [← HW.out]; simp [go_sem]
  have i1 : W.cell? ⟨w.heap.size, 1, none⟩ = some (.int .i64 ent) := by rw [← HW.out]; simp [go_sem]
  have i2 : W.cell? ⟨w.heap.size, 2, none⟩ = some (.slice A2 ml c2) := by rw [← HW.out]; simp [go_sem]
  have HT : Hid (IntsAt w A1 .u32 text) := hT
  have HK0 : Hid (Mks w b n f) := hk
  have HKW : Hid (Mks W b n f) := hk.keep HB.out
  have HR : Hid _ := hR
  clear hT hk hR
  go_enter Try.func24, Try.ntmps24
  go_upto_region 1 with fail
  rw [HW.out]
  clear HW
  go_wp2_with fail
  refine (mark_any b n f 0 W HKW.out (by omega) (by omega) (by omega)).mono ?_
  rintro e w1 ⟨rfl, hk1, hg1⟩
  have j0 := HKW.out.cell hg1 i0
  have j1 := HKW.out.cell hg1 i1
  have j2 := HKW.out.cell hg1 i2
  have HK1 : Hid (Mks w1 b (n + 1) (setF f 0)) := hk1
  have HG1 : Hid (w.grownBy w1 (some b)) := (grown_of HB.out).trans hg1
  clear i0 i1 i2 hk1 hg1
  go_wp2_with fail
  refine (marklabels_any A1 A2 c1 ml c2 ent text b (n + 1) (setF f 0) w1 (HK0.out.ints HG1.out HT.out) HR.out hl he0 he1 HK1.out (by omega)).mono ?_
  rintro e w2 ⟨rfl, hk2, hg2⟩
  have k0 := HK1.out.cell hg2 j0
  have HK2 : Hid (Mks w2 b (n + 1 + 1 + text.length) (addK (addK (setF (setF f 0) ent) (gLab text) text.length) (gEnd text) 0)) := hk2.fit fun y => (addK_zero _ _ y).symm
  have HG2 : Hid (w.grownBy w2 (some b)) := HG1.out.trans hg2
  clear j0 j1 j2 hk2 hg2 HK1 HG1
  go_wp2
  go_loopw [14] (fun i wr => ∃ (k m : Nat), i = .int .i64 k ∧ k ≤ text.length ∧ m ≤ n + 2 + text.length + k ∧ Hid (Mks wr b m (addK (addK (setF (setF f 0) ent) (gLab text) text.length) (gEnd text) k)) ∧ Hid (w.grownBy wr (some b))) (fun i _ => text.length - (intOf i).toNat)
  case atStart => exact ⟨0, n + 1 + 1 + text.length, rfl, Nat.zero_le _, by omega, HK2, HG2⟩
  case round =>
    clear HK2 HG2 k0
    obtain ⟨k, m, rfl, hk, hm, HK, HG⟩ := hrel
    by_cases hlt : k < text.length
    · obtain ⟨a, rfl, q⟩ := (HK0.out.ints HG.out HT.out) k hlt
      obtain ⟨hv0, hv1⟩ := HR.out k hlt
      have C := isaends_any (nth text k) hv0 hv1 wr
      have HY : Hid (endsB (dOp (nth text k)) = true → gEnd text k = some ((k : Int) + 1)) := gEnd_yes
      have HN : Hid (endsB (dOp (nth text k)) = false → gEnd text k = none) := gEnd_no
      generalize nth text k = v at *
      generalize endsB (dOp v) = t at *
      cases t with
      | false =>
        have HG0 : Hid (gEnd text k = none) := HN.out rfl
        clear HY HN
        go_wp2_with (go_at_call 37; refine C.mono ?_; rintro e w2 ⟨rfl, hb2⟩)
        go_roundw
        case rel => exact ⟨k + 1, m, by go_num, by omega, by omega, (HK.out.keep hb2).fit (addK_none HG0.out), grown_on HG.out hb2⟩
        case measure => simp [intOf]; omega
      | true =>
        have HG0 : Hid (gEnd text k = some ((k : Int) + 1)) := HY.out rfl
        clear HY HN
        go_wp2_with (first
          | (go_at_call 37; refine C.mono ?_; rintro e w2 ⟨rfl, hb2⟩)
          | (go_at_call 35; refine (mark_any b m _ ((k : Int) + 1) _ (HK.out.keep hb2) (by omega) (by omega) (by omega)).mono ?_; rintro e w3 ⟨rfl, hk3, hg3⟩))
        go_roundw
        case rel => exact ⟨k + 1, m + 1, by go_num, by omega, by omega, hk3.fit (addK_some HG0.out), (grown_on HG.out hb2).trans hg3⟩
        case measure => simp [intOf]; omega
    · obtain rfl : k = text.length := by omega
      go_wp2
      refine bodyPost_end (v := .tuple #[]) (by simp [results, Try.results24, go_sem]) rfl ?_
      exact ⟨rfl, HK.out.more hm, HG.out⟩


end Go.Proofs.Ytokhclindfipbaa
