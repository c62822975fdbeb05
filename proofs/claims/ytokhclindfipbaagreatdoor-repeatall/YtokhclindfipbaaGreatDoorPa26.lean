/-
  What a map of marks leaves alone; targets; no Go in sight. A row of bools in memory; what the document marks. The document marks labels. What Places and Blocks of the document answer.
-/
import Derived.Test.YtokhclindfipbaaGreatDoorProg
import Derived.WalkKit
import Derived.WalkSpells
import Derived.WalkLawsBesides
import Derived.RowKit3
import Derived.Below
import Derived.Deep.QuietTactic
import Derived.BigQuiet
import Derived.WalkSmall
import Derived.Laws.Rows
import Derived.Test.YtokhclindfipbaaGreatDoorPa25
import Derived.Test.YtokhclindfipbaaGreatDoorPa18
import Derived.Test.YtokhclindfipbaaGreatDoorPa06
import Derived.Test.YtokhclindfipbaaGreatDoorPa19
namespace Go.Proofs.YtokhclindfipbaaGreatDoor
open Go.RowKit

theorem hP_hN11 {op : Int} (h : hP op = true) : hN op = true := by
  unfold hP at h
  unfold hN
  rw [decide_eq_true_eq] at h ⊢
  omega
theorem isT_ins11 {v : Int} (h : isT v = true) : isIns v = true ∧ hP (dOp v) = true ∧ 0 ≤ dOp v := by
  unfold isT at h
  rw [Bool.and_eq_true, decide_eq_true_eq] at h
  refine ⟨?_, h.2, h.1⟩
  cases hi : isIns v
  · have : dOp v = -1 := by unfold dOp; rw [hi]; simp
    omega
  · rfl
theorem tg_pos {v : Int} (hT : isT v = true) : 0 ≤ tgV v ∧ tgV v < 16384 := by
  obtain ⟨hi, hP', h0⟩ := isT_ins11 hT
  have hd : dOp v = wOp v := by unfold dOp; rw [hi]; simp
  have hi2 := hi
  unfold isIns at hi2
  rw [Bool.and_eq_true] at hi2
  have hok := hi2.2
  unfold insOK numOK at hok
  rw [hd] at hP'
  simp only [Bool.and_eq_true, hP_hN11 hP', hP', if_true, decide_eq_true_iff] at hok
  have e : tgV v = wN v := by unfold tgV dN; rw [hT, hi]; simp
  rw [e]
  exact hok.2
/-- A Place has a target. -/
theorem place_tg {v : Int} (h : dOp v = 20) : isT v = true ∧ tgV v = dN v := by
  have hT : isT v = true := by
    unfold isT hP
    rw [h]
    rfl
  exact ⟨hT, by unfold tgV; rw [if_pos hT]⟩
theorem Mks.apart {w : World} {b n : Nat} {f : Int → Bool} (h : Mks w b n f) {p : Addr} {v : Value} (hc : w.cell? p = some v) : some p.block ≠ some b := by
  obtain ⟨D, ⟨es, clock, h1, h2⟩, h3⟩ := h
  intro e
  injection e with e
  rw [World.cell?] at hc
  rw [e, h1] at hc
  simp at hc
theorem Mks.cell {w w1 : World} {b n : Nat} {f : Int → Bool} (h : Mks w b n f) (hg : w.grownBy w1 (some b)) {p : Addr} {v : Value} (hc : w.cell? p = some v) : w1.cell? p = some v := hg.cell hc (h.apart hc)
theorem Mks.ints {w w1 : World} {b n : Nat} {f : Int → Bool} (h : Mks w b n f) (hg : w.grownBy w1 (some b)) {A : Option Addr} {K : IntKind} {zs : List Int} (hc : IntsAt w A K zs) : IntsAt w1 A K zs := fun i hi => by
  obtain ⟨a, e, c⟩ := hc i hi
  exact ⟨a, e, h.cell hg c⟩
theorem grown_of {w w1 : World} {row : Option Nat} (hb : Below w.heap.size w w1) : w.grownBy w1 row := ⟨hb.os, hb.tape, hb.output, hb.size, fun k hk _ => hb.block k hk⟩
theorem grown_on {w w1 w2 : World} {row : Option Nat} (h : w.grownBy w1 row) (hb : Below w1.heap.size w1 w2) : w.grownBy w2 row := h.trans (grown_of hb)
/-- An answer of what marks. -/
def MkP (b m : Nat) (F : Int → Bool) (w : World) (e : Ending) (w' : World) : Prop := e = .returned (.tuple #[]) ∧ Mks w' b m F ∧ w.grownBy w' (some b)
theorem gLab_yes {text : List Int} {k : Nat} (h : isT (nth text k) = true) : gLab text k = some (tgV (nth text k)) := by unfold gLab; rw [if_pos h]
theorem gLab_no {text : List Int} {k : Nat} (h : isT (nth text k) = false) : gLab text k = none := by unfold gLab; rw [if_neg (by simp [h])]
theorem gTak_yes {text : List Int} {k : Nat} (h : (dOp (nth text k) == 20) = true) : gTak text k = some (dN (nth text k)) := by unfold gTak; rw [if_pos h]
theorem gTak_no {text : List Int} {k : Nat} (h : (dOp (nth text k) == 20) = false) : gTak text k = none := by unfold gTak; rw [if_neg (by simp [h])]
theorem gSit_yes {text : List Int} {k : Nat} (h : (dOp (nth text k) == 17) = true ∨ (dOp (nth text k) == 18) = true) : gSit text k = some ((k : Int) + 1) := by unfold gSit; rw [if_pos h]
theorem gSit_no {text : List Int} {k : Nat} (h : (dOp (nth text k) == 17) = false) (h2 : (dOp (nth text k) == 18) = false) : gSit text k = none := by unfold gSit; rw [if_neg (by simp [h, h2])]
theorem gEnd_yes {text : List Int} {k : Nat} (h : endsB (dOp (nth text k)) = true) : gEnd text k = some ((k : Int) + 1) := by unfold gEnd; rw [if_pos h]
theorem gEnd_no {text : List Int} {k : Nat} (h : endsB (dOp (nth text k)) = false) : gEnd text k = none := by unfold gEnd; rw [if_neg (by simp [h])]



end Go.Proofs.YtokhclindfipbaaGreatDoor

namespace Go.Proofs.YtokhclindfipbaaGreatDoor
open Go.RowKit

/-- A row of bools, each as a function tells. -/
def BlsAt (w : World) (g n : Nat) (F : Int → Bool) : Prop := ∃ cs : Array Value, w.heap[g]? = some (.cells cs 4 (0, 0)) ∧ cs.size = n ∧ ∀ i : Nat, i < n → cs[i]? = some (.bool (F (i : Int)))
theorem BlsAt.lt {w : World} {g n : Nat} {F : Int → Bool} (h : BlsAt w g n F) : g < w.heap.size := by
  obtain ⟨cs, h1, _⟩ := h
  exact (Array.getElem?_eq_some_iff.1 h1).1
theorem BlsAt.keep {w w1 : World} {g n : Nat} {F : Int → Bool} (h : BlsAt w g n F) (hb : Below w.heap.size w w1) : BlsAt w1 g n F := by
  obtain ⟨cs, h1, h2⟩ := h
  exact ⟨cs, by rw [hb.block g (Array.getElem?_eq_some_iff.1 h1).1]; exact h1, h2⟩
theorem BlsAt.cell {w : World} {g n : Nat} {F : Int → Bool} (h : BlsAt w g n F) {x : Int} (h0 : 0 ≤ x) (h1 : x < n) : w.cell? ⟨g, x.toNat, none⟩ = some (.bool (F x)) := by
  obtain ⟨cs, hb, hs, hc⟩ := h
  have := hc x.toNat (by omega)
  rw [show ((x.toNat : Nat) : Int) = x by omega] at this
  simp [World.cell?, hb, this]
theorem BlsAt.cellN {w : World} {g n : Nat} {F : Int → Bool} (h : BlsAt w g n F) {x : Nat} (h1 : x < n) : w.cell? ⟨g, x, none⟩ = some (.bool (F (x : Int))) := by
  obtain ⟨cs, hb, hs, hc⟩ := h
  simp [World.cell?, hb, hc x h1]
theorem BlsAt.fro {w : World} {g n : Nat} {F : Int → Bool} (h : BlsAt w g n F) (x : Nat) : w.frozen? ⟨g, x, none⟩ = false := by
  obtain ⟨cs, hb, _⟩ := h
  simp [World.frozen?, hb]
theorem BlsAt.set {w : World} {g n : Nat} {F : Int → Bool} (h : BlsAt w g n F) {x : Int} (h0 : 0 ≤ x) (_h1 : x < n) : BlsAt (w.setCell ⟨g, x.toNat, none⟩ (.bool true)) g n (setF F x) := by
  obtain ⟨cs, hb, hs, hc⟩ := h
  refine ⟨cs.setIfInBounds x.toNat (.bool true), box_set hb _ _, by simpa using hs, fun i hi => ?_⟩
  rw [Array.getElem?_setIfInBounds]
  by_cases e : x.toNat = i
  · rw [if_pos e, if_pos (by omega)]
    unfold setF
    rw [show ((i : Int) == x) = true by rw [beq_iff_eq]; omega]
    rfl
  · rw [if_neg e, hc i hi]
    unfold setF
    rw [show ((i : Int) == x) = false by rw [beq_eq_false_iff_ne]; omega]
    rfl
theorem BlsAt.setN {w : World} {g n : Nat} {F : Int → Bool} (h : BlsAt w g n F) {k : Nat} (h1 : k < n) : BlsAt (w.setCell ⟨g, k, none⟩ (.bool true)) g n (setF F (k : Int)) := by
  have := h.set (x := (k : Int)) (by omega) (by omega)
  rwa [show ((k : Int)).toNat = k by omega] at this
theorem BlsAt.fit {w : World} {g n : Nat} {F G : Int → Bool} (h : BlsAt w g n F) (e : ∀ x, F x = G x) : BlsAt w g n G := by
  obtain ⟨cs, hb, hs, hc⟩ := h
  exact ⟨cs, hb, hs, fun i hi => by rw [← e]; exact hc i hi⟩
theorem gset11 (w : World) (g i : Nat) (v : Value) : w.grownBy (w.setCell ⟨g, i, none⟩ v) (some g) :=
  ⟨rfl, rfl, rfl, Nat.le_of_eq (by simp [go_sem]), fun k _ hn => Below.heap_setCell _ _ _ _ (fun e => hn (by rw [e]))⟩
theorem infoL : ∃ i, Tryz.prog.info? 4 = some i ∧ i.zero = some (.bool false) ∧ i.size = 1 ∧ i.bytes = 1 :=
  ⟨(Tryz.prog.info? 4).get (by kernel_rfl), by kernel_rfl, by kernel_rfl, by kernel_rfl, by kernel_rfl⟩
theorem make_bls (n : Nat) (hn : n ≤ 1048576) (w : World) : (Instr.makeSlice 122 (.int .i64 (n : Int)) (.int .i64 (n : Int))).run Tryz.prog w = .ok (.slice (some ⟨w.heap.size, 0, none⟩) n n) (w.alloc (.cells (madeCells #[.bool false] n) 4)) := by
  obtain ⟨i, hi, hz, hs, hb⟩ := infoL
  have h := run_makeSlice (P := Tryz.prog) w 122 4 i _ Tryz.underlying122 hi hz .i64 .i64 (n : Int) (n : Int) (by omega) (by omega) (by rw [hs]; omega) (by rw [hb]; omega) (by omega)
  rw [hs, show ((n : Int)).toNat = n by omega, Nat.mul_one] at h
  exact h
theorem BlsAt.made (w : World) (n : Nat) : BlsAt (w.alloc (.cells (madeCells #[.bool false] n) 4)) w.heap.size n noF :=
  ⟨_, heap_alloc_new _ _, by simp [madeCells], fun i hi => by simp [madeCells, hi, noF, Nat.mod_one]⟩
theorem far_in {text : List Int} {i : Nat} (h : farT text i = false) (ht : isT (nth text i) = true) : tgV (nth text i) < text.length := by
  unfold farT at h
  rw [ht, Bool.true_and, decide_eq_false_iff_not] at h
  omega
theorem sit_in {text : List Int} {ml : Nat} {ent : Int} (h : MayI text ml ent) {i : Nat} (hi : i < text.length) (ho : (dOp (nth text i) == 17) = true ∨ (dOp (nth text i) == 18) = true) : i + 1 < text.length := by
  by_cases e : i + 1 = text.length
  · have hl := h.last
    rw [show text.length - 1 = i by omega] at hl
    unfold lastOK at hl
    rw [decide_eq_true_eq] at hl
    simp at ho
    omega
  · omega
/-- What Marks answers. -/
def MarkP (n : Nat) (F : Int → Bool) (w : World) (e : Ending) (w' : World) : Prop := ∃ g : Nat, e = .returned (.slice (some ⟨g, 0, none⟩) n n) ∧ BlsAt w' g n F ∧ Below w.heap.size w w'
theorem lab_set (text : List Int) (ent : Int) (y : Int) : setF (addK noF (gLab text) text.length) ent y = labF text ent y := by
  show ((y == ent) || (false || anyF (gLab text) text.length y)) = (((y == ent) || false) || anyF (gLab text) text.length y)
  rw [Bool.or_false, Bool.false_or]
theorem grown_belowR {w w1 w2 : World} {B b : Nat} (h : Below B w w1) (hg : w1.grownBy w2 (some b)) (hb : B ≤ b) (hB : B ≤ w1.heap.size) : Below B w w2 := h.grown hg hB (fun j hj => by cases hj; exact hb)
theorem cell_other {w w1 : World} {g : Nat} (hg : w.grownBy w1 (some g)) {p : Addr} {v : Value} (hc : w.cell? p = some v) (hp : p.block ≠ g) : w1.cell? p = some v := hg.cell hc (fun e => hp (by injection e))



end Go.Proofs.YtokhclindfipbaaGreatDoor

namespace Go.Proofs.YtokhclindfipbaaGreatDoor
open Go.RowKit

theorem fieldIns0R (a b c d e : Value) (w : World) : (Instr.field 99 (.agg #[a, b, c, d, e]) 0).run Tryz.prog w = .ok a w := by kernel_rfl

set_option maxRecDepth 100000 in
set_option maxHeartbeats 4000000 in
theorem refmark0_any (A1 A2 : Option Addr) (c1 ml c2 : Nat) (ent : Int) (text : List Int) (w : World) (hT : IntsAt w A1 .u32 text) (hR : ∀ i, i < text.length → 0 ≤ nth text i ∧ nth text i < 4294967296) (hM : MayI text ml ent) :
    Calls Tryz.prog 92 #[.agg #[.slice A1 text.length c1, .int .i64 ent, .slice A2 ml c2], .int .i64 0] w (MarkP text.length (labF text ent) w) := by
  have hfl := fieldIns0R
  have hl : text.length ≤ 16384 := hM.past.len
  have he0 := hM.past.ent0
  have he1 := hM.past.ent1
  have hmk := make_bls text.length (by omega)
  obtain ⟨W, HW⟩ : ∃ W, Hid ((w.alloc (.cells #[.slice A1 text.length c1, .int .i64 ent, .slice A2 ml c2] 25)).alloc (.cells (madeCells #[.bool false] text.length) 4) = W) := ⟨_, rfl⟩
  have HB : Hid (Below w.heap.size w W) := by unfold Hid; rw [← HW.out]; exact lb_alloc (lb_alloc (Below.refl _ _) _) _
  have HS : Hid (BlsAt W (w.heap.size + 1) text.length noF) := by
    have := BlsAt.made (w.alloc (.cells #[.slice A1 text.length c1, .int .i64 ent, .slice A2 ml c2] 25)) text.length
    rw [HW.out] at this
    simpa [Hid] using this
  have i0 : W.cell? ⟨w.heap.size, 0, none⟩ = some (.slice A1 text.length c1) := by rw [← HW.out]; simp [go_sem]
  have i1 : W.cell? ⟨w.heap.size, 1, none⟩ = some (.int .i64 ent) := by rw [← HW.out]; simp [go_sem]
  have hZ : w.heap.size + 1 < W.heap.size := by rw [← HW.out]; simp
  have HT : Hid (IntsAt w A1 .u32 text) := hT
  have HM : Hid (MayI text ml ent) := hM
  have HR : Hid _ := hR
  clear hT hR hM
  go_enter Tryz.func92, Tryz.ntmps92
  go_upto_region 2 with fail
  rw [HW.out]
  clear HW hmk
  go_wp2
  go_loopw [6] (fun i wr => ∃ k : Nat, i = .int .i64 k ∧ k ≤ text.length ∧ Hid (BlsAt wr (w.heap.size + 1) text.length (addK noF (gLab text) k)) ∧ Hid (W.grownBy wr (some (w.heap.size + 1)))) (fun i _ => text.length - (intOf i).toNat)
  case atStart => exact ⟨0, rfl, Nat.zero_le _, HS.out.fit fun y => (addK_zero _ _ y).symm, World.grownBy.refl _ _⟩
  case round =>
    clear HS
    obtain ⟨k, rfl, hk, HS, HG⟩ := hrel
    have j0 := cell_other HG.out i0 (show w.heap.size ≠ w.heap.size + 1 by omega)
    have j1 := cell_other HG.out i1 (show w.heap.size ≠ w.heap.size + 1 by omega)
    have HBr : Hid (Below w.heap.size w wr) := grown_belowR HB.out HG.out (by omega) HB.out.size
    by_cases hlt : k < text.length
    · obtain ⟨a, rfl, q⟩ := (HT.out.keep HBr.out) k hlt
      obtain ⟨hv0, hv1⟩ := HR.out k hlt
      have C1 := refdecode_any (nth text k) hv0 hv1 wr
      have C2 := fun wx => reftarget_any (nth text k) hv0 hv1 wx

      have HY : Hid (isT (nth text k) = true → gLab text k = some (tgV (nth text k)) ∧ 0 ≤ tgV (nth text k) ∧ tgV (nth text k) < (text.length : Int)) := fun h => ⟨gLab_yes h, (tg_pos h).1, far_in (HM.out.far k hlt) h⟩
      have HN : Hid (isT (nth text k) = false → gLab text k = none) := gLab_no
      generalize nth text k = v at *
      generalize isT v = t at *
      generalize tgV v = z at *
      generalize dOp v = x at *
      generalize dD v = x1 at *
      generalize dA v = x2 at *
      generalize dB v = x3 at *
      generalize dN v = x4 at *
      cases t with
      | false =>
        have HG0 : Hid (gLab text k = none) := HN.out rfl
        clear HY HN
        go_wp2_with (first
          | (go_at_call 58; refine C1.mono ?_; rintro e w2 ⟨rfl, hb2⟩; have m0 := lkeep hb2 j0; have m1 := lkeep hb2 q)
          | (go_at_call 57; refine (C2 _).mono ?_; rintro e w3 ⟨rfl, hb3⟩))
        go_roundw
        case rel => exact ⟨k + 1, by go_num, by omega, ((HS.out.keep hb2).keep hb3).fit (addK_none HG0.out), grown_on (grown_on HG.out hb2) hb3⟩
        case measure => simp [intOf]; omega
      | true =>
        obtain ⟨hg, hz0, hz1⟩ := HY.out rfl
        have HG0 : Hid (gLab text k = some z) := hg
        clear HY HN hg
        go_wp2_with (first
          | (go_at_call 58; refine C1.mono ?_; rintro e w2 ⟨rfl, hb2⟩; have m0 := lkeep hb2 j0; have m1 := lkeep hb2 q)
          | (go_at_call 57; refine (C2 _).mono ?_; rintro e w3 ⟨rfl, hb3⟩; have HS3 : Hid (BlsAt w3 (w.heap.size + 1) text.length (addK noF (gLab text) k)) := (HS.out.keep hb2).keep hb3; have s0 := HS3.out.cell hz0 hz1; have s1 := HS3.out.fro z.toNat))
        go_roundw
        case rel => exact ⟨k + 1, by go_num, by omega, (HS3.out.set hz0 hz1).fit (addK_some HG0.out), (grown_on (grown_on HG.out hb2) hb3).trans (gset11 _ _ _ _)⟩
        case measure => simp [intOf]; omega
    · obtain rfl : k = text.length := by omega
      have s0 := HS.out.cell he0 he1
      have s1 := HS.out.fro ent.toNat
      go_wp2
      go_ret
      exact ⟨w.heap.size + 1, rfl, (HS.out.set he0 he1).fit (lab_set text ent), HBr.out.setCell (by simp) _⟩



end Go.Proofs.YtokhclindfipbaaGreatDoor

namespace Go.Proofs.YtokhclindfipbaaGreatDoor
open Go.RowKit

def PlcP (ps : List Int) (w : World) (e : Ending) (w' : World) : Prop := ∃ (A : Option Addr) (c : Nat), e = .returned (.slice A ps.length c) ∧ IntsAt w' A .i64 ps ∧ Below w.heap.size w w'
def RelP (l : List Rel) (w : World) (e : Ending) (w' : World) : Prop := ∃ (A : Option Addr) (c : Nat), e = .returned (.slice A l.length c) ∧ RelsAt w' A l ∧ Below w.heap.size w w'
theorem BlsAt.kept {w w1 : World} {g n : Nat} {F : Int → Bool} {base : Nat} {e : TypeId} {sz : Nat} {v : Value} {m : Nat} {xs : List Value} (h : BlsAt w g n F) (hr : w.ownsRow base e sz v m xs) (he : e ≠ 4) (hg : w.grownBy w1 v.ownBlock) : BlsAt w1 g n F := by
  obtain ⟨cs, h1, h2⟩ := h
  refine ⟨cs, ?_, h2⟩
  rw [hg.block g (Array.getElem?_eq_some_iff.1 h1).1 ?_]
  · exact h1
  · rcases hr.2 with ⟨rfl, _⟩ | ⟨g2, cap, cur, rfl, _, hg2, _⟩
    · intro e; cases e
    · intro e
      cases e
      rw [h1] at hg2
      injection hg2 with hg2
      injection hg2 with a b
      exact he b.symm



end Go.Proofs.YtokhclindfipbaaGreatDoor
