/-
  The program: a set of one register, whether an instruction is a call, an instruction of a word; registers are 0 to 15, each word is of 32 bits. The program: what an instruction reads and writes; registers are 0 to 15. The program: Reads, Writes, Links, Alone, All, each by what it answers; each word is of 32 bits. The document marks labels.
-/
import Derived.Test.YtfnicgihpelhhaaGreatProg
import Derived.WalkKit
import Derived.WalkSpells
import Derived.WalkLawsBesides
import Derived.RowKit3
import Derived.Below
import Derived.Deep.QuietTactic
import Derived.BigQuiet
import Derived.WalkSmall
import Derived.Laws.Rows
import Derived.Deep.RegionHeld3
import Derived.Test.YtfnicgihpelhhaaGreatPd09
import Derived.Test.YtfnicgihpelhhaaGreatPd46
import Derived.Test.YtfnicgihpelhhaaGreatPd12
namespace Go.Proofs.YtfnicgihpelhhaaGreat
open Go.RowKit

theorem tbcell {W w1 : World} (hb : Below W.heap.size W w1) : (∀ b o, b < W.heap.size → w1.cell? ⟨b, o, none⟩ = W.cell? ⟨b, o, none⟩) ∧ (∀ b o, b < W.heap.size → w1.frozen? ⟨b, o, none⟩ = W.frozen? ⟨b, o, none⟩) :=
  ⟨fun b o h => hb.cell (p := ⟨b, o, none⟩) h, fun b o h => hb.frozen (p := ⟨b, o, none⟩) h⟩
set_option maxHeartbeats 2000000 in
theorem only_any (h : Bool) (r : Int) (h0 : 0 ≤ r) (h1 : r ≤ 15) (w : World) : Calls Tryz.prog 80 #[.bool h, .int .i8 r] w fun e w' => e = .returned (.int .u16 ((bitN h r : Nat) : Int)) ∧ w' = w := by
  cases h with
  | false =>
    go_enter Tryz.func80, Tryz.ntmps80
    go_wp2
    go_ret
    exact ⟨rfl, rfl⟩
  | true =>
    rcases (show r = 0 ∨ r = 1 ∨ r = 2 ∨ r = 3 ∨ r = 4 ∨ r = 5 ∨ r = 6 ∨ r = 7 ∨ r = 8 ∨ r = 9 ∨ r = 10 ∨ r = 11 ∨ r = 12 ∨ r = 13 ∨ r = 14 ∨ r = 15 by omega) with rfl | rfl | rfl | rfl | rfl | rfl | rfl | rfl | rfl | rfl | rfl | rfl | rfl | rfl | rfl | rfl
    all_goals (
      go_enter Tryz.func80, Tryz.ntmps80
      go_wp2
      go_ret
      exact ⟨rfl, rfl⟩)
set_option maxHeartbeats 2000000 in
theorem icalls_any (op dd da db dn : Int) (w : World) : Calls Tryz.prog 81 #[.agg #[.int .i8 op, .int .i8 dd, .int .i8 da, .int .i8 db, .int .i64 dn]] w fun e w' => e = .returned (.bool (cllB op)) ∧ Below w.heap.size w w' := by
  by_cases k1 : op = 17
  · subst k1
    go_enter Tryz.func81, Tryz.ntmps81
    go_wp2
    go_ret
    exact ⟨rfl, lb_alloc (Below.refl _ _) _⟩
  · by_cases k2 : op = 18
    · subst k2
      go_enter Tryz.func81, Tryz.ntmps81
      go_wp2
      go_ret
      exact ⟨rfl, lb_alloc (Below.refl _ _) _⟩
    · have o1 : (op == 17) = false := by rw [beq_eq_false_iff_ne]; exact k1
      have o2 : (op == 18) = false := by rw [beq_eq_false_iff_ne]; exact k2
      have HC : Hid (cllB op = false) := by unfold Hid cllB; rw [o1, o2]; rfl
      clear k1 k2
      go_enter Tryz.func81, Tryz.ntmps81
      go_wp2
      go_ret
      exact ⟨by rw [HC.out]; try rfl, lb_alloc (Below.refl _ _) _⟩
set_option maxHeartbeats 2000000 in
theorem decoded_any (v : Int) (h0 : 0 ≤ v) (h1 : v < 4294967296) (w : World) : Calls Tryz.prog 52 #[.int .u32 v] w fun e w' => e = .returned (.agg #[.int .i8 (dOp v), .int .i8 (dD v), .int .i8 (dA v), .int .i8 (dB v), .int .i64 (dN v)]) ∧ Below w.heap.size w w' := by
  have C := fun wx => isadecode_any v h0 h1 wx
  generalize dOp v = op at *
  generalize dD v = dd at *
  generalize dA v = da at *
  generalize dB v = db at *
  generalize dN v = dn at *
  go_enter Tryz.func52, Tryz.ntmps52
  go_wp2_with (go_at_call 36; refine (C _).mono ?_; rintro e w1 ⟨rfl, hb1⟩; obtain ⟨hc, hf⟩ := tbcell hb1; have hz : w.heap.size < w1.heap.size := by have := hb1.size; simp at this; omega)
  exact bodyPost_ret (v := .agg #[.int .i8 op, .int .i8 dd, .int .i8 da, .int .i8 db, .int .i64 dn]) (by simp [results, Tryz.results52, go_sem, hc]) rfl ⟨rfl, (((((lb_alloc (Below.refl _ _) _).trans (hb1.mono (by simp))).setCell (by simp) _).setCell (by simp) _).setCell (by simp) _ |>.setCell (by simp) _).setCell (by simp) _⟩


end Go.Proofs.YtfnicgihpelhhaaGreat

namespace Go.Proofs.YtfnicgihpelhhaaGreat
open Go.RowKit

set_option maxRecDepth 100000 in
set_option maxHeartbeats 2000000 in
theorem ireads_any (op dd da db dn : Int) (h8 : op ≤ 127) (ha : 0 ≤ da ∧ da ≤ 15) (hb : 0 ≤ db ∧ db ≤ 15) (w : World) : Calls Tryz.prog 53 #[.agg #[.int .i8 op, .int .i8 dd, .int .i8 da, .int .i8 db, .int .i64 dn]] w fun e w' => e = .returned (.int .u16 ((irdN op da db : Nat) : Int)) ∧ Below w.heap.size w w' := by
  have B1 := fun wx => only_any (hA op) da ha.1 ha.2 wx
  have B2 := fun wx => only_any (hB op) db hb.1 hb.2 wx
  have CH := fun wx => isahas_any op h8 wx
  have hor := orI (bitN_lt (hA op) ha.2) (bitN_lt (hB op) hb.2)
  have HR : Hid (irdN op da db = bitN (hA op) da ||| bitN (hB op) db) := rfl
  rw [HR.out]
  clear HR ha hb h8
  generalize bitN (hA op) da = x at *
  generalize bitN (hB op) db = y at *
  generalize hD op = p1 at *
  generalize hA op = p2 at *
  generalize hB op = p3 at *
  generalize hN op = p4 at *
  generalize hP op = p5 at *
  go_enter Tryz.func53, Tryz.ntmps53
  go_upto_region 2 with (go_at_call 79; refine (CH _).mono ?_; rintro e w1 ⟨rfl, hb1⟩; have HB1 : Hid (Below w.heap.size w w1) := (lb_alloc (Below.refl _ _) _).trans (hb1.mono (by simp)); have c2 : w1.cell? ⟨w.heap.size, 2, none⟩ = some (.int .i8 da) := (lkeep hb1 (by simp [go_sem])); have c3 : w1.cell? ⟨w.heap.size, 3, none⟩ = some (.int .i8 db) := (lkeep hb1 (by simp [go_sem])); clear hb1)
  go_region_held3 (fun Y => Below w.heap.size w Y ∧ Y.cell? ⟨w.heap.size, 2, none⟩ = some (.int .i8 da) ∧ Y.cell? ⟨w.heap.size, 3, none⟩ = some (.int .i8 db)) (first | exact ⟨HB1.out, c2, c3⟩ | exact ⟨HB1.out.drew, c2, c3⟩ | (simp [*]; done))
    ((go_at_call 80; first | (refine (B1 _).mono ?_; rintro e w5 ⟨rfl, hw5⟩; have hw5 := hw5.symm; subst hw5) | (refine (B2 _).mono ?_; rintro e w5 ⟨rfl, hw5⟩; have hw5 := hw5.symm; subst hw5)))
  all_goals (
    rename_i hS
    clear hS
    go_wp2_with fail
    go_ret
    exact ⟨by first | rfl | (rw [← hor]), by first | exact HB1.out | exact HB1.out.drew⟩)
set_option maxRecDepth 100000 in
set_option maxHeartbeats 2000000 in
theorem iwrites_any (op dd da db dn : Int) (h8 : op ≤ 127) (hd : 0 ≤ dd ∧ dd ≤ 15) (w : World) : Calls Tryz.prog 54 #[.agg #[.int .i8 op, .int .i8 dd, .int .i8 da, .int .i8 db, .int .i64 dn]] w fun e w' => e = .returned (.int .u16 ((iwrN op dd : Nat) : Int)) ∧ Below w.heap.size w w' := by
  have B1 := fun wx => only_any (hD op) dd hd.1 hd.2 wx
  have B2 := fun wx => only_any (cllB op) 15 (by omega) (by omega) wx
  have CC := fun wx => icalls_any op dd da db dn wx
  have CH := fun wx => isahas_any op h8 wx
  have hor := orI (bitN_lt (hD op) hd.2) (bitN_lt (cllB op) (r := 15) (by omega))
  have HR : Hid (iwrN op dd = bitN (hD op) dd ||| bitN (cllB op) 15) := rfl
  rw [HR.out]
  clear HR hd h8
  generalize bitN (hD op) dd = x at *
  generalize bitN (cllB op) 15 = y at *
  generalize cllB op = cb at *
  generalize hD op = p1 at *
  generalize hA op = p2 at *
  generalize hB op = p3 at *
  generalize hN op = p4 at *
  generalize hP op = p5 at *
  go_enter Tryz.func54, Tryz.ntmps54
  go_upto_region 2 with (go_at_call 79; refine (CH _).mono ?_; rintro e w1 ⟨rfl, hb1⟩; have HB1 : Hid (Below w.heap.size w w1) := (lb_alloc (Below.refl _ _) _).trans (hb1.mono (by simp)); have c0 : w1.cell? ⟨w.heap.size, 0, none⟩ = some (.int .i8 op) := (lkeep hb1 (by simp [go_sem])); have c1 : w1.cell? ⟨w.heap.size, 1, none⟩ = some (.int .i8 dd) := (lkeep hb1 (by simp [go_sem])); have c2 : w1.cell? ⟨w.heap.size, 2, none⟩ = some (.int .i8 da) := (lkeep hb1 (by simp [go_sem])); have c3 : w1.cell? ⟨w.heap.size, 3, none⟩ = some (.int .i8 db) := (lkeep hb1 (by simp [go_sem])); have c4 : w1.cell? ⟨w.heap.size, 4, none⟩ = some (.int .i64 dn) := (lkeep hb1 (by simp [go_sem])); clear hb1)
  have hXX := Below.refl w1.heap.size w1
  go_region_held3 (fun Y => Below w1.heap.size w1 Y ∧ Y.cell? ⟨w.heap.size, 0, none⟩ = some (.int .i8 op) ∧ Y.cell? ⟨w.heap.size, 1, none⟩ = some (.int .i8 dd) ∧ Y.cell? ⟨w.heap.size, 2, none⟩ = some (.int .i8 da) ∧ Y.cell? ⟨w.heap.size, 3, none⟩ = some (.int .i8 db) ∧ Y.cell? ⟨w.heap.size, 4, none⟩ = some (.int .i64 dn)) (first | exact ⟨hXX, c0, c1, c2, c3, c4⟩ | exact ⟨hXX.drew, c0, c1, c2, c3, c4⟩ | exact ⟨hY, lkeep hY c0, lkeep hY c1, lkeep hY c2, lkeep hY c3, lkeep hY c4⟩ | exact ⟨hY.drew, lkeep hY.drew c0, lkeep hY.drew c1, lkeep hY.drew c2, lkeep hY.drew c3, lkeep hY.drew c4⟩)
    (first
      | (go_at_call 81; refine (CC _).mono ?_; rintro e w2 ⟨rfl, hw2⟩; have hY : Below w1.heap.size w1 w2 := (by first | exact hw2 | exact lb_trans hXX.drew hw2 | exact lb_trans hXX hw2); clear hw2)
      | (go_at_call 80; first | (refine (B1 _).mono ?_; rintro e w5 ⟨rfl, hw5⟩; have hw5 := hw5.symm; subst hw5) | (refine (B2 _).mono ?_; rintro e w5 ⟨rfl, hw5⟩; have hw5 := hw5.symm; subst hw5)))
  all_goals (
    rename_i hS
    clear hS
    go_wp2_with fail
    go_ret
    exact ⟨by first | rfl | (rw [← hor]), by first | exact lb_trans HB1.out hY | exact lb_trans HB1.out hY.drew⟩)


end Go.Proofs.YtfnicgihpelhhaaGreat

namespace Go.Proofs.YtfnicgihpelhhaaGreat
open Go.RowKit

theorem mkFnT : ∀ (fn : Fn) (first cap : Array Value) (w : World), (Instr.makeFunc fn first cap).run Tryz.prog w = .ok (.func fn first cap) w := fun _ _ _ _ => rfl
theorem dOp_le7 (v : Int) (h0 : 0 ≤ v) (h1 : v < 4294967296) : dOp v ≤ 127 := by
  unfold dOp
  split
  · unfold wOp; omega
  · omega
set_option maxHeartbeats 2000000 in
theorem readsOK : ReadsOK := fun v w h0 h1 => by
  have C := fun wx => decoded_any v h0 h1 wx
  have C1 := fun wx => ireads_any (dOp v) (dD v) (dA v) (dB v) (dN v) (dOp_le7 v h0 h1) (dA_reg v) (dB_reg v) wx
  rw [rdN_is]
  generalize irdN (dOp v) (dA v) (dB v) = x at *
  generalize dOp v = op at *
  generalize dD v = dd at *
  generalize dA v = da at *
  generalize dB v = db at *
  generalize dN v = dn at *
  go_enter Tryz.func25, Tryz.ntmps25
  go_wp2_with (first
    | (go_at_call 52; refine (C _).mono ?_; rintro e w1 ⟨rfl, hb1⟩)
    | (go_at_call 53; refine (C1 _).mono ?_; rintro e w2 ⟨rfl, hb2⟩))
  go_ret
  exact ⟨rfl, lb_trans hb1 hb2⟩
set_option maxHeartbeats 2000000 in
theorem writesOK : WritesOK := fun v w h0 h1 => by
  have C := fun wx => decoded_any v h0 h1 wx
  have C1 := fun wx => iwrites_any (dOp v) (dD v) (dA v) (dB v) (dN v) (dOp_le7 v h0 h1) (dD_reg v) wx
  rw [wrN_is]
  generalize iwrN (dOp v) (dD v) = x at *
  generalize dOp v = op at *
  generalize dD v = dd at *
  generalize dA v = da at *
  generalize dB v = db at *
  generalize dN v = dn at *
  go_enter Tryz.func26, Tryz.ntmps26
  go_wp2_with (first
    | (go_at_call 52; refine (C _).mono ?_; rintro e w1 ⟨rfl, hb1⟩)
    | (go_at_call 54; refine (C1 _).mono ?_; rintro e w2 ⟨rfl, hb2⟩))
  go_ret
  exact ⟨rfl, lb_trans hb1 hb2⟩
theorem lnB_is (v : Int) : lnB v = decide ((irdN (dOp v) (dA v) (dB v) ||| iwrN (dOp v) (dD v)) / 32768 = 1) := by
  unfold lnB
  rw [rdN_is, wrN_is]
set_option maxHeartbeats 2000000 in
theorem allOK : AllOK := fun A c l w hA hR hl => by
  have HA : Hid (IntsAt w A .u32 l) := hA
  have HR : Hid (∀ i, i < l.length → 0 ≤ nth l i ∧ nth l i < 4294967296) := hR
  clear hA hR
  go_enter Tryz.func50, Tryz.ntmps50
  go_wp2
  go_loopw [2, 3, 9] (fun r x i wr => ∃ k : Nat, i = .int .i64 k ∧ r = .int .u16 ((allR l k : Nat) : Int) ∧ x = .int .u16 ((allW l k : Nat) : Int) ∧ k ≤ l.length ∧ Hid (Below w.heap.size w wr)) (fun _ _ i _ => l.length - (intOf i).toNat)
  case atStart => exact ⟨0, rfl, rfl, rfl, Nat.zero_le _, Below.refl _ _⟩
  case round =>
    obtain ⟨k, rfl, rfl, rfl, hk, HB⟩ := hrel
    by_cases hlt : k < l.length
    · have hlt' : (k : Int) < (l.length : Int) := by omega
      obtain ⟨a, ea, q⟩ := HA.out k hlt
      subst ea
      replace q := lkeep HB.out q
      obtain ⟨v0, v1⟩ := HR.out k hlt
      have C := fun wx => decoded_any (nth l k) v0 v1 wx
      have C1 := fun wx => ireads_any (dOp (nth l k)) (dD (nth l k)) (dA (nth l k)) (dB (nth l k)) (dN (nth l k)) (dOp_le7 _ v0 v1) (dA_reg _) (dB_reg _) wx
      have C2 := fun wx => iwrites_any (dOp (nth l k)) (dD (nth l k)) (dA (nth l k)) (dB (nth l k)) (dN (nth l k)) (dOp_le7 _ v0 v1) (dD_reg _) wx
      have hless := lessI (rdN_lt (nth l k)) (allW_lt l k)
      have hor := orI (allR_lt l k) (lessN_lt (b := allW l k) (rdN_lt (nth l k)))
      have hor2 := orI (allW_lt l k) (wrN_lt (nth l k))
      have HS1 : Hid (allR l (k + 1) = allR l k ||| lessN (rdN (nth l k)) (allW l k)) := rfl
      have HS2 : Hid (allW l (k + 1) = allW l k ||| wrN (nth l k)) := rfl
      rw [← rdN_is] at C1
      rw [← wrN_is] at C2
      generalize rdN (nth l k) = x at *
      generalize wrN (nth l k) = y at *
      generalize nth l k = v at *
      generalize lessN x (allW l k) = z at *
      generalize dOp v = op at *
      generalize dD v = dd at *
      generalize dA v = da at *
      generalize dB v = db at *
      generalize dN v = dn at *
      go_upto_region 5 with (go_at_call 52; refine (C _).mono ?_; rintro e w1 ⟨rfl, hb1⟩; have HB1 : Hid (Below w.heap.size w w1) := lb_trans HB.out hb1; clear hb1)
      obtain ⟨X, HX⟩ : ∃ X, Hid (w1.alloc (.cells #[.int .i8 op, .int .i8 dd, .int .i8 da, .int .i8 db, .int .i64 dn] 105) = X) := ⟨_, rfl⟩
      have HBX : Hid (Below w.heap.size w X) := by unfold Hid; rw [← HX.out]; exact lb_alloc HB1.out _
      have c0 : X.cell? ⟨w1.heap.size, 0, none⟩ = some (.int .i8 op) := by rw [← HX.out]; simp [go_sem]
      have c1 : X.cell? ⟨w1.heap.size, 1, none⟩ = some (.int .i8 dd) := by rw [← HX.out]; simp [go_sem]
      have c2 : X.cell? ⟨w1.heap.size, 2, none⟩ = some (.int .i8 da) := by rw [← HX.out]; simp [go_sem]
      have c3 : X.cell? ⟨w1.heap.size, 3, none⟩ = some (.int .i8 db) := by rw [← HX.out]; simp [go_sem]
      have c4 : X.cell? ⟨w1.heap.size, 4, none⟩ = some (.int .i64 dn) := by rw [← HX.out]; simp [go_sem]
      rw [HX.out]
      clear HX
      go_upto_region 6 with (go_at_call 53; refine (C1 _).mono ?_; rintro e w2 ⟨rfl, hb2⟩; have HB2 : Hid (Below w.heap.size w w2) := lb_trans HBX.out hb2; have d0 := lkeep hb2 c0; have d1 := lkeep hb2 c1; have d2 := lkeep hb2 c2; have d3 := lkeep hb2 c3; have d4 := lkeep hb2 c4; clear hb2)
      go_wp2_with (go_at_call 54; refine (C2 _).mono ?_; rintro e w3 ⟨rfl, hb3⟩; have HB3 : Hid (Below w.heap.size w w3) := lb_trans HB2.out hb3; clear hb3)
      go_roundw
      case rel => exact ⟨k + 1, by go_num, by rw [HS1.out], by rw [HS2.out], by omega, HB3⟩
      case measure => simp [intOf]; omega
    · obtain rfl : k = l.length := by omega
      go_wp2
      go_ret2
      exact ⟨rfl, HB.out⟩


end Go.Proofs.YtfnicgihpelhhaaGreat

namespace Go.Proofs.YtfnicgihpelhhaaGreat
open Go.RowKit

theorem fieldIns0R (a b c d e : Value) (w : World) : (Instr.field 50 (.agg #[a, b, c, d, e]) 0).run Tryz.prog w = .ok a w := by kernel_rfl

set_option maxRecDepth 100000 in
set_option maxHeartbeats 4000000 in
theorem refmark0_any (A1 A2 : Option Addr) (c1 ml c2 : Nat) (ent : Int) (text : List Int) (w : World) (hT : IntsAt w A1 .u32 text) (hR : ∀ i, i < text.length → 0 ≤ nth text i ∧ nth text i < 4294967296) (hM : MayI text ml ent) :
    Calls Tryz.prog 55 #[.agg #[.slice A1 text.length c1, .int .i64 ent, .slice A2 ml c2], .int .i64 0] w (MarkP text.length (labF text ent) w) := by
  have hfl := fieldIns0R
  have hl : text.length ≤ 16384 := hM.past.len
  have he0 := hM.past.ent0
  have he1 := hM.past.ent1
  have hmk := make_bls text.length (by omega)
  obtain ⟨W, HW⟩ : ∃ W, Hid ((w.alloc (.cells #[.slice A1 text.length c1, .int .i64 ent, .slice A2 ml c2] 25)).alloc (.cells (madeCells #[.bool false] text.length) 4) = W) := ⟨_, rfl⟩
  have HB : Hid (Below w.heap.size w W) := by unfold Hid; rw [← HW.out]; exact lb_alloc (lb_alloc (Below.refl _ _) _) _
  have HS : Hid (BlsAt W (w.heap.size + 1) text.length noF) := by
    have := BlsAt.made (w.alloc (.cells #[.slice A1 text.length c1, .int .i64 ent, .slice A2 ml c2] 25)) text.length
    rw [HW.out] at this
    simpa [Hid] using this
  have i0 : W.cell? ⟨w.heap.size, 0, none⟩ = some (.slice A1 text.length c1) := by rw [← HW.out]; simp [go_sem]
  have i1 : W.cell? ⟨w.heap.size, 1, none⟩ = some (.int .i64 ent) := by rw [← HW.out]; simp [go_sem]
  have hZ : w.heap.size + 1 < W.heap.size := by rw [← HW.out]; simp
  have HT : Hid (IntsAt w A1 .u32 text) := hT
  have HM : Hid (MayI text ml ent) := hM
  have HR : Hid _ := hR
  clear hT hR hM
  go_enter Tryz.func55, Tryz.ntmps55
  go_upto_region 2 with fail
  rw [HW.out]
  clear HW hmk
  go_wp2
  go_loopw [6] (fun i wr => ∃ k : Nat, i = .int .i64 k ∧ k ≤ text.length ∧ Hid (BlsAt wr (w.heap.size + 1) text.length (addK noF (gLab text) k)) ∧ Hid (W.grownBy wr (some (w.heap.size + 1)))) (fun i _ => text.length - (intOf i).toNat)
  case atStart => exact ⟨0, rfl, Nat.zero_le _, HS.out.fit fun y => (addK_zero _ _ y).symm, World.grownBy.refl _ _⟩
  case round =>
    clear HS
    obtain ⟨k, rfl, hk, HS, HG⟩ := hrel
    have j0 := cell_other HG.out i0 (show w.heap.size ≠ w.heap.size + 1 by omega)
    have j1 := cell_other HG.out i1 (show w.heap.size ≠ w.heap.size + 1 by omega)
    have HBr : Hid (Below w.heap.size w wr) := grown_belowR HB.out HG.out (by omega) HB.out.size
    by_cases hlt : k < text.length
    · obtain ⟨a, rfl, q⟩ := (HT.out.keep HBr.out) k hlt
      obtain ⟨hv0, hv1⟩ := HR.out k hlt
      have C1 := refdecode_any (nth text k) hv0 hv1 wr
      have C2 := fun wx => reftarget_any (nth text k) hv0 hv1 wx

      have HY : Hid (isT (nth text k) = true → gLab text k = some (tgV (nth text k)) ∧ 0 ≤ tgV (nth text k) ∧ tgV (nth text k) < (text.length : Int)) := fun h => ⟨gLab_yes h, (tg_pos h).1, far_in (HM.out.far k hlt) h⟩
      have HN : Hid (isT (nth text k) = false → gLab text k = none) := gLab_no
      generalize nth text k = v at *
      generalize isT v = t at *
      generalize tgV v = z at *
      generalize dOp v = x at *
      generalize dD v = x1 at *
      generalize dA v = x2 at *
      generalize dB v = x3 at *
      generalize dN v = x4 at *
      cases t with
      | false =>
        have HG0 : Hid (gLab text k = none) := HN.out rfl
        clear HY HN
        go_wp2_with (first
          | (go_at_call 20; refine C1.mono ?_; rintro e w2 ⟨rfl, hb2⟩; have m0 := lkeep hb2 j0; have m1 := lkeep hb2 q)
          | (go_at_call 16; refine (C2 _).mono ?_; rintro e w3 ⟨rfl, hb3⟩))
        go_roundw
        case rel => exact ⟨k + 1, by go_num, by omega, ((HS.out.keep hb2).keep hb3).fit (addK_none HG0.out), grown_on (grown_on HG.out hb2) hb3⟩
        case measure => simp [intOf]; omega
      | true =>
        obtain ⟨hg, hz0, hz1⟩ := HY.out rfl
        have HG0 : Hid (gLab text k = some z) := hg
        clear HY HN hg
        go_wp2_with (first
          | (go_at_call 20; refine C1.mono ?_; rintro e w2 ⟨rfl, hb2⟩; have m0 := lkeep hb2 j0; have m1 := lkeep hb2 q)
          | (go_at_call 16; refine (C2 _).mono ?_; rintro e w3 ⟨rfl, hb3⟩; have HS3 : Hid (BlsAt w3 (w.heap.size + 1) text.length (addK noF (gLab text) k)) := (HS.out.keep hb2).keep hb3; have s0 := HS3.out.cell hz0 hz1; have s1 := HS3.out.fro z.toNat))
        go_roundw
        case rel => exact ⟨k + 1, by go_num, by omega, (HS3.out.set hz0 hz1).fit (addK_some HG0.out), (grown_on (grown_on HG.out hb2) hb3).trans (gset11 _ _ _ _)⟩
        case measure => simp [intOf]; omega
    · obtain rfl : k = text.length := by omega
      have s0 := HS.out.cell he0 he1
      have s1 := HS.out.fro ent.toNat
      go_wp2
      go_ret
      exact ⟨w.heap.size + 1, rfl, (HS.out.set he0 he1).fit (lab_set text ent), HBr.out.setCell (by simp) _⟩



end Go.Proofs.YtfnicgihpelhhaaGreat
