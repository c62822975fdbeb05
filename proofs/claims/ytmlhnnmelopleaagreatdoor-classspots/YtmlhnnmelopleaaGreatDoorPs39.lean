/-
  leastSets of package live: the least sets of an image that may be.
-/
import Derived.Test.YtmlhnnmelopleaaGreatDoorProg
import Derived.WalkKit
import Derived.WalkSpells
import Derived.WalkLawsBesides
import Derived.RowKit3
import Derived.Below
import Derived.Deep.QuietTactic
import Derived.BigQuiet
import Derived.WalkSmall
import Derived.Laws.Rows
import Derived.Test.YtmlhnnmelopleaaGreatDoorPs21
import Derived.Test.YtmlhnnmelopleaaGreatDoorPs32
import Derived.Test.YtmlhnnmelopleaaGreatDoorPs36
import Derived.Test.YtmlhnnmelopleaaGreatDoorPs15
import Derived.Test.YtmlhnnmelopleaaGreatDoorPs38
namespace Go.Proofs.YtmlhnnmelopleaaGreatDoor
open Go.RowKit

theorem cell_setN {X : World} {g p : Nat} {u v : Value} {a : Addr} (h : X.cell? a = some v) (hne : a.block ≠ g) : (X.setCell ⟨g, p, none⟩ u).cell? a = some v := by
  rw [World.cell?_of_block (Below.heap_setCell _ _ _ _ hne)]; exact h
/-- What leastSets answers. -/
def LsP (text : List Int) (ent : Int) (w : World) (e : Ending) (w' : World) : Prop := ∃ (gi go : Nat) (F G : Int → Nat), e = .returned (.tuple #[.slice (some ⟨gi, 0, none⟩) (blkL text ent).length (blkL text ent).length, .slice (some ⟨go, 0, none⟩) (blkL text ent).length (blkL text ent).length]) ∧ IntsAt w' (some ⟨gi, 0, none⟩) .u16 (setL F (blkL text ent).length) ∧ IntsAt w' (some ⟨go, 0, none⟩) .u16 (setL G (blkL text ent).length) ∧ LstI text ent F G ∧ (∀ x, G x < 65536) ∧ Below w.heap.size w w'
theorem setL_less {w : World} {g n : Nat} {F : Int → Nat} (h : UsAt w g (n + 1) F) : IntsAt w (some ⟨g, 0, none⟩) .u16 (setL F n) := fun i hi => by
  rw [setL_len] at hi
  exact ⟨_, rfl, by rw [add0, setL_nth hi]; exact h.cellN (by omega)⟩
/-- What the first k blocks read, as it is filled in. -/
def filN (R : Nat → Nat) (k : Nat) (x : Int) : Nat := if 0 ≤ x ∧ x < (k : Int) then R x.toNat else 0
theorem filN_zero (R : Nat → Nat) : filN R 0 = zeroS := funext fun x => if_neg (by omega)
theorem filN_step (R : Nat → Nat) (k : Nat) : putS (filN R k) (k : Int) (R k) = filN R (k + 1) := funext fun x => by
  by_cases e : x = (k : Int)
  · subst e
    rw [putS_here]
    unfold filN
    rw [if_pos (by omega), show ((k : Int)).toNat = k by omega]
  · rw [putS_else _ _ e]
    unfold filN
    by_cases h : 0 ≤ x ∧ x < (k : Int)
    · rw [if_pos h, if_pos (by omega)]
    · rw [if_neg h, if_neg (by omega)]
theorem filN_lt {R : Nat → Nat} (k : Nat) (h : ∀ j, R j < 65536) (x : Int) : filN R k x < 65536 := by
  unfold filN
  split
  · exact h _
  · omega
theorem filN_hub (R : Nat → Nat) (n : Nat) : (fun j : Nat => filN R n (j : Int)) = hubN R n := funext fun j => by
  unfold filN hubN
  by_cases h : j < n
  · rw [if_pos (by omega), if_pos h, show ((j : Int)).toNat = j by omega]
  · rw [if_neg (by omega), if_neg h]
theorem blk_pos {text : List Int} {ent : Int} (hn : 0 < text.length) : 0 < (blkL text ent).length := by
  obtain ⟨i, hi, _⟩ := blk_all (ent := ent) hn hn
  omega
set_option maxRecDepth 100000 in
set_option maxHeartbeats 8000000 in
theorem least_any (a1 : Addr) (A2 B : Option Addr) (c1 ml c2 cB : Nat) (ent : Int) (text : List Int) (w : World) (hT : IntsAt w (some a1) .u32 text) (hR : ∀ i, i < text.length → 0 ≤ nth text i ∧ nth text i < 4294967296) (hM : MayI text ml ent) (hc : text.length ≤ c1) (hB : RelsAt w B (blkL text ent)) :
    Calls Tryz.prog 91 #[.agg #[.slice (some a1) text.length c1, .int .i64 ent, .slice A2 ml c2], .slice B (blkL text ent).length cB] w (LsP text ent w) := by
  have hl4 : text.length ≤ 16384 := hM.past.len
  have hLt := blk_len_le text ent
  have hn0 := blk_pos (ent := ent) hM.past.pos
  have HBi : Hid (∀ i, i < (blkL text ent).length → 0 ≤ rAt (blkL text ent) i ∧ rAt (blkL text ent) i < rSym (blkL text ent) i ∧ rSym (blkL text ent) i ≤ (text.length : Int)) := fun i hi => blk_in hi
  have HRl : Hid (∀ j, blR text ent j < 65536) := fun j => blR_lt text ent j
  have HWl : Hid (∀ j, blW text ent j < 65536) := fun j => blW_lt text ent j
  obtain ⟨W, HW⟩ : ∃ W, Hid (w.alloc (.cells #[.slice (some a1) text.length c1, .int .i64 ent, .slice A2 ml c2] 31) = W) := ⟨_, rfl⟩
  have HB : Hid (Below w.heap.size w W) := by unfold Hid; rw [← HW.out]; exact lb_alloc (Below.refl _ _) _
  have i0 : W.cell? ⟨w.heap.size, 0, none⟩ = some (.slice (some a1) text.length c1) := by rw [← HW.out]; simp [go_sem]
  have i1 : W.cell? ⟨w.heap.size, 1, none⟩ = some (.int .i64 ent) := by rw [← HW.out]; simp [go_sem]
  have i2 : W.cell? ⟨w.heap.size, 2, none⟩ = some (.slice A2 ml c2) := by rw [← HW.out]; simp [go_sem]
  have C1 := lflow_any a1 A2 B c1 ml c2 cB ent text W (hT.keep HB.out) hR hM (hB.keep HB.out)
  have C3 : ∀ (i : Nat), i < (blkL text ent).length → ∀ (c : Nat) (wx : World), Below w.heap.size w wx → Calls Tryz.prog 73 #[.slice (some (a1.add (rAt (blkL text ent) i).toNat)) (rSym (blkL text ent) i - rAt (blkL text ent) i).toNat c] wx fun e w' => e = .returned (.tuple #[.int .u16 ((blR text ent i : Nat) : Int), .int .u16 ((blW text ent i : Nat) : Int)]) ∧ Below wx.heap.size wx w' := fun i hi c wx hx => by
    obtain ⟨f0, f1, f2⟩ := blk_in hi
    have hln := cutL_len f0 (by omega) f2
    have h := allOK (some (a1.add (rAt (blkL text ent) i).toNat)) c (cutL text (rAt (blkL text ent) i) (rSym (blkL text ent) i)) wx (cutL_ints (hT.keep hx) f0 (by omega) f2) (fun j hj => by
      rw [cutL_nth f0 (by omega) f2 hj]
      rw [hln] at hj
      exact hR _ (by omega)) (by omega)
    rw [hln] at h
    exact h
  have HEn : Hid (Inn (edgT text ent (blkL text ent).length) (blkL text ent).length) := edgT_inn text ent
  have HRel : Hid (RelsAt w B (blkL text ent)) := hB
  have HFin : Hid (∀ M F G, Hub (edgT text ent (blkL text ent).length) M (blkL text ent).length (lpB text ent) → Lst M (hubN (blR text ent) (blkL text ent).length) (hubN (blW text ent) (blkL text ent).length) ((blkL text ent).length + 1) F G → LstI text ent F G) := fun M F G h1 h2 => h1.lst (fun j => blR_lt text ent j) (edgT_inn text ent) h2
  clear hT hR hM hB
  go_enter Tryz.func91, Tryz.ntmps91
  go_upto_region 1 with fail
  rw [HW.out]
  clear HW
  go_upto_region 2 with (first
    | (go_at_call 101; refine C1.mono ?_; rintro e w1 ⟨A, c, M, rfl, hz1, hh1, hr1, hb1⟩; have HZ1 : Hid (IntsZ w1 A M) := hz1; have HH1 : Hid (Hub (edgT text ent (blkL text ent).length) M (blkL text ent).length (lpB text ent)) := hh1; have HR1 : Hid (∀ k, k < M.length → (rowZ M k).length ≤ 65536) := hr1; have HB1 : Hid (Below w.heap.size w w1) := lb_trans HB.out hb1; have HX1 : Hid (w1.cell? ⟨w.heap.size, 0, none⟩ = some (.slice (some a1) text.length c1)) := lkeep hb1 i0; clear hz1 hh1 hr1 hb1 i0 i1 i2)
    | (go_at_call 100; refine (back_any A c M w1 HZ1.out (by rw [HH1.out.len]; omega) HR1.out).mono ?_; rintro e w2 ⟨A2', c2', rfl, hz2, hb2⟩; rw [backT_len, HH1.out.len] at *; have HZ2 : Hid (IntsZ w2 A2' (backT M ((blkL text ent).length + 1))) := hz2; have HB2 : Hid (Below w.heap.size w w2) := lb_trans HB1.out hb2; have HX2 : Hid (w2.cell? ⟨w.heap.size, 0, none⟩ = some (.slice (some a1) text.length c1)) := lkeep hb2 HX1.out; clear hz2 hb2)
    | (go_at_call 99; refine (empties_any A2' ((blkL text ent).length + 1) c2' (by omega) w2).mono ?_; rintro e w3 ⟨P, gr, gw, gi, go, rfl, hs3, l1, l2, l3, l4, hb3⟩; have HS3 : Hid (SetsAt w3 P A2' c2' ((blkL text ent).length + 1) gr gw gi go zeroS zeroS zeroS zeroS) := hs3; have HL3 : Hid (w2.heap.size ≤ gr ∧ w2.heap.size ≤ gw ∧ w2.heap.size ≤ gi ∧ w2.heap.size ≤ go) := ⟨l1, l2, l3, l4⟩; have HB3 : Hid (Below w2.heap.size w2 w3) := hb3; clear hs3 l1 l2 l3 l4 hb3))
  clear C1
  have HMl : Hid (M.length = (blkL text ent).length + 1) := HH1.out.len
  have HIM : Hid (Inn M ((blkL text ent).length + 1)) := HH1.out.innM HEn.out
  have HS0 : Hid (SetsAt w3 P A2' c2' ((blkL text ent).length + 1) gr gw gi go (filN (blR text ent) 0) (filN (blW text ent) 0) zeroS zeroS) := by
    unfold Hid
    rw [filN_zero, filN_zero]
    exact HS3.out
  have CG := fun wx hs hb => grow_any w2 M P A2' c2' ((blkL text ent).length + 1) gr gw gi go (filN (blR text ent) (blkL text ent).length) (filN (blW text ent) (blkL text ent).length) wx HZ2.out HMl.out HIM.out (by omega) hs hb (filN_lt _ HRl.out) (filN_lt _ HWl.out) HL3.out.2.2
  unfold GrP at CG
  rw [filN_hub, filN_hub] at CG
  have HFin : Hid (∀ F G, Lst M (hubN (blR text ent) (blkL text ent).length) (hubN (blW text ent) (blkL text ent).length) ((blkL text ent).length + 1) F G → LstI text ent F G) := fun F G h => HFin.out M F G HH1.out h
  clear HS3 HEn HH1 HZ1 HR1 HX1 HMl HIM HZ2
  go_wp2
  go_loopw [17] (fun i wr => ∃ k : Nat, i = .int .i64 k ∧ k ≤ (blkL text ent).length ∧ Hid (SetsAt wr P A2' c2' ((blkL text ent).length + 1) gr gw gi go (filN (blR text ent) k) (filN (blW text ent) k) zeroS zeroS) ∧ Hid (Below w2.heap.size w2 wr)) (fun i _ => (blkL text ent).length - (intOf i).toNat)
  case atStart => exact ⟨0, rfl, Nat.zero_le _, HS0, HB3⟩
  case round =>
    clear HS0 HB3
    obtain ⟨k, rfl, hk, HS, HBr⟩ := hrel
    by_cases hlt : k < (blkL text ent).length
    · have hlt' : (k : Int) < ((blkL text ent).length : Int) := by omega
      have hltN : (k : Int) < ((blkL text ent).length : Int) + 1 := by omega
      obtain ⟨b, eb, q0, q1⟩ := HRel.out k hlt
      subst eb
      have HBw : Hid (Below w.heap.size w wr) := lb_trans HB2.out HBr.out
      have t0 := lkeep HBw.out q0
      have t1 : wr.cell? ⟨(b.add (k * 2)).block, (b.add (k * 2)).off + 1, none⟩ = some (.int .i64 (rSym (blkL text ent) k)) := lkeep HBw.out q1
      clear q0 q1
      obtain ⟨f0, f1, f2⟩ := HBi.out k hlt
      have C := C3 k hlt
      obtain ⟨V, HV⟩ : ∃ V, Hid (wr.alloc (.cells #[.int .i64 (rAt (blkL text ent) k), .int .i64 (rSym (blkL text ent) k)] 84) = V) := ⟨_, rfl⟩
      have HBV : Hid (Below wr.heap.size wr V) := by unfold Hid; rw [← HV.out]; exact lb_alloc (Below.refl _ _) _
      have b0 : V.cell? ⟨wr.heap.size, 0, none⟩ = some (.int .i64 (rAt (blkL text ent) k)) := by rw [← HV.out]; simp [go_sem]
      have b1 : V.cell? ⟨wr.heap.size, 1, none⟩ = some (.int .i64 (rSym (blkL text ent) k)) := by rw [← HV.out]; simp [go_sem]
      have x0 := lkeep (lb_trans HBr.out HBV.out) HX2.out
      have HSV : Hid (SetsAt V P A2' c2' ((blkL text ent).length + 1) gr gw gi go (filN (blR text ent) k) (filN (blW text ent) k) zeroS zeroS) := HS.out.keep HBV.out
      have HBx : Hid (Below w2.heap.size w2 V) := lb_trans HBr.out HBV.out
      have HBwV : Hid (Below w.heap.size w V) := lb_trans HBw.out HBV.out
      obtain ⟨p0, p1, -, -, -⟩ := HSV.out.cells
      have hcut := cut_run a1 text.length c1 f0 f1 f2 hc
      have HSt : Hid (∀ wx, Below V.heap.size V wx → SetsAt ((wx.setCell ⟨gr, k, none⟩ (.int .u16 ((blR text ent k : Nat) : Int))).setCell ⟨gw, k, none⟩ (.int .u16 ((blW text ent k : Nat) : Int))) P A2' c2' ((blkL text ent).length + 1) gr gw gi go (filN (blR text ent) (k + 1)) (filN (blW text ent) (k + 1)) zeroS zeroS) := fun wx hx => by
        have h := ((HSV.out.keep hx).putR (k := k) (by omega) (blR text ent k)).putW (k := k) (by omega) (blW text ent k)
        rw [filN_step, filN_step] at h
        exact h
      have HCl : Hid (∀ wx, Below V.heap.size V wx → (wx.frozen? ⟨gr, k, none⟩ = false ∧ wx.cell? ⟨gr, k, none⟩ = some (.int .u16 ((filN (blR text ent) k (k : Int) : Nat) : Int))) ∧ ((wx.setCell ⟨gr, k, none⟩ (.int .u16 ((blR text ent k : Nat) : Int))).frozen? ⟨gw, k, none⟩ = false ∧ (wx.setCell ⟨gr, k, none⟩ (.int .u16 ((blR text ent k : Nat) : Int))).cell? ⟨gw, k, none⟩ = some (.int .u16 ((filN (blW text ent) k (k : Int) : Nat) : Int)))) := fun wx hx => by
        have h := HSV.out.keep hx
        have h2 := h.putR (k := k) (by omega) (blR text ent k)
        exact ⟨⟨h.rd.fro k, h.rd.cellN (by omega)⟩, ⟨h2.wt.fro k, h2.wt.cellN (by omega)⟩⟩
      have HBs : Hid (∀ wx (v1 v2 : Value), Below V.heap.size V wx → Below w2.heap.size w2 ((wx.setCell ⟨gr, k, none⟩ v1).setCell ⟨gw, k, none⟩ v2)) := fun wx v1 v2 hx => by
        have h := lb_trans HBx.out hx
        exact (h.setCell (p := ⟨gr, k, none⟩) HL3.out.1 v1).setCell (p := ⟨gw, k, none⟩) HL3.out.2.1 v2
      have n0 : P ≠ gr := HSV.out.rd.neP HSV.out.box
      have n1 : P ≠ gw := HSV.out.wt.neP HSV.out.box
      have nx : w.heap.size ≠ gr := by have := HL3.out.1; have := World.block_lt_of_cell? _ _ HX2.out; simp at this; omega
      have ny : w.heap.size ≠ gw := by have := HL3.out.2.1; have := World.block_lt_of_cell? _ _ HX2.out; simp at this; omega
      have nb : wr.heap.size ≠ gr := by have := HS.out.rd.lt; omega
      have nc : wr.heap.size ≠ gw := by have := HS.out.wt.lt; omega
      clear HSV HS
      generalize blR text ent k = rk at *
      generalize blW text ent k = wk at *
      generalize filN (blR text ent) k (k : Int) = r9 at *
      generalize filN (blW text ent) k (k : Int) = w9 at *
      generalize rAt (blkL text ent) k = fr at *
      generalize rSym (blkL text ent) k = tt at *
      go_upto_region 5 with fail
      rw [HV.out]
      clear HV t0 t1
      have hXX := Below.refl V.heap.size V
      go_region_held3 (fun Y => Y.cell? ⟨P, 0, none⟩ = some (.slice (some ⟨gr, 0, none⟩) ((blkL text ent).length + 1) ((blkL text ent).length + 1)) ∧ Y.cell? ⟨P, 1, none⟩ = some (.slice (some ⟨gw, 0, none⟩) ((blkL text ent).length + 1) ((blkL text ent).length + 1)) ∧ Y.cell? ⟨w.heap.size, 0, none⟩ = some (.slice (some a1) text.length c1) ∧ Y.cell? ⟨wr.heap.size, 0, none⟩ = some (.int .i64 fr) ∧ Y.cell? ⟨wr.heap.size, 1, none⟩ = some (.int .i64 tt)) (first
          | exact ⟨p0, p1, x0, b0, b1⟩
          | exact ⟨lkeep hY p0, lkeep hY p1, lkeep hY x0, lkeep hY b0, lkeep hY b1⟩
          | exact ⟨cell_setN (lkeep hY p0) n0, cell_setN (lkeep hY p1) n0, cell_setN (lkeep hY x0) nx, cell_setN (lkeep hY b0) nb, cell_setN (lkeep hY b1) nb⟩
          | exact ⟨cell_setN (cell_setN (lkeep hY p0) n0) n1, cell_setN (cell_setN (lkeep hY p1) n0) n1, cell_setN (cell_setN (lkeep hY x0) nx) ny, cell_setN (cell_setN (lkeep hY b0) nb) nc, cell_setN (cell_setN (lkeep hY b1) nb) nc⟩)
        (first | (go_at_call 73; refine (C _ _ (by first | exact HBwV.out | exact Below.drew HBwV.out)).mono ?_; rintro e w5 ⟨rfl, hb5⟩; have hY : Below V.heap.size V w5 := (by first | exact hb5 | exact lb_trans hXX.drew hb5); clear hb5; have z0 := (HCl.out w5 hY).1.1; have z1 := (HCl.out w5 hY).1.2; have z2 := (HCl.out w5 hY).2.1; have z3 := (HCl.out w5 hY).2.2))
      all_goals (rename_i hS; clear hS; go_wp2_with fail)
      exact ⟨⟨k + 1, by go_num, by omega, HSt.out w5 hY, HBs.out w5 _ _ hY⟩, by simp [intOf]; omega⟩
    · obtain rfl : k = (blkL text ent).length := by omega
      have C := CG wr HS.out HBr.out
      clear C3 CG
      go_upto_region 9 with (go_at_call 102; refine C.mono ?_; rintro e w6 ⟨F, G, rfl, hs6, hl6, hg6, hb6⟩; have HS6 : Hid (SetsAt w6 P A2' c2' ((blkL text ent).length + 1) gr gw gi go (filN (blR text ent) (blkL text ent).length) (filN (blW text ent) (blkL text ent).length) F G) := hs6; have HL6 : Hid (LstI text ent F G) := HFin.out F G hl6; have HG6 : Hid (∀ x, G x < 65536) := hg6; have HB6 : Hid (Below w2.heap.size w2 w6) := hb6; clear hs6 hl6 hg6 hb6)
      clear C
      obtain ⟨-, -, p2, p3, -⟩ := HS6.out.cells
      have HE : Hid (∀ wx, Below w6.heap.size w6 wx → LsP text ent w (.returned (.tuple #[.slice (some ⟨gi, 0, none⟩) (blkL text ent).length (blkL text ent).length, .slice (some ⟨go, 0, none⟩) (blkL text ent).length (blkL text ent).length])) wx) := fun wx hx => ⟨gi, go, F, G, rfl, setL_less (HS6.out.keep hx).inn, setL_less (HS6.out.keep hx).out, HL6.out, HG6.out, lb_trans HB2.out (lb_trans HB6.out hx)⟩
      have hn1 : ¬ (blkL text ent).length = 0 := by omega
      clear HS6 HL6 HG6 HFin
      go_quiet (fail)
      all_goals (
        go_wp2
        go_ret2
        exact HE.out _ (by first | exact Below.refl _ _ | exact below_drewN (Below.refl _ _) _ | exact Below.drew (Below.refl _ _)))


end Go.Proofs.YtmlhnnmelopleaaGreatDoor
