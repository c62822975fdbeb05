/-
  The document on what a word writes, on links, on what stands alone, on rows; each word is of 32 bits. What the statements need of the program: Reads, Writes, Links, Alone, All, each by what it answers. The program: a set of one register, whether an instruction is a call, an instruction of a word; registers are 0 to 15, each word is of 32 bits. The program: what an instruction reads and writes; registers are 0 to 15.
-/
import Derived.Test.YtfnicgihpelhhaaGreatProg
import Derived.WalkKit
import Derived.WalkSpells
import Derived.WalkLawsBesides
import Derived.RowKit3
import Derived.Below
import Derived.Deep.QuietTactic
import Derived.BigQuiet
import Derived.WalkSmall
import Derived.Laws.Rows
import Derived.Test.YtfnicgihpelhhaaGreatPd45
import Derived.Deep.RegionHeld3
import Derived.Test.YtfnicgihpelhhaaGreatPd16
import Derived.Test.YtfnicgihpelhhaaGreatPd17
import Derived.Test.YtfnicgihpelhhaaGreatPd14
namespace Go.Proofs.YtfnicgihpelhhaaGreat
open Go.RowKit

@[go_sem] theorem field_has0 (x d a b n : Bool) (w : World) : (Instr.field 76 (.agg #[.bool x, .bool d, .bool a, .bool b, .bool n]) 0).run Tryz.prog w = .ok (.bool x) w := by kernel_rfl
set_option maxRecDepth 100000 in
set_option maxHeartbeats 2000000 in
theorem refwrites_any (v : Int) (h0 : 0 ≤ v) (h1 : v < 4294967296) (w : World) : Calls Tryz.prog 31 #[.int .u32 v] w fun e w' => e = .returned (.int .u16 ((wrN v : Nat) : Int)) ∧ Below w.heap.size w w' := by
  have C := refdecode_any v h0 h1 w
  by_cases hc : dOp v = 17 ∨ dOp v = 18
  · have HR : Hid (wrN v = 32768) := if_pos hc
    rw [HR.out]
    clear HR
    generalize dOp v = op at *
    generalize dD v = dd at *
    generalize dA v = da at *
    generalize dB v = db at *
    generalize dN v = dn at *
    rcases hc with rfl | rfl
    all_goals (
      go_enter Tryz.func31, Tryz.ntmps31
      go_wp2_with (go_at_call 20; refine C.mono ?_; rintro e w1 ⟨rfl, hb1⟩)
      go_ret
      exact ⟨rfl, lb_alloc hb1 _⟩)
  · have HR : Hid (wrN v = bitN (hD (dOp v)) (dD v)) := if_neg hc
    have hd := dD_reg v
    have B1 := fun wx => bit_any (hD (dOp v)) (dD v) hd.1 hd.2 wx
    have CH := fun wx => refhas_any (dOp v) wx
    rw [HR.out]
    clear HR hd
    have o1 : (dOp v == 17) = false := by rw [beq_eq_false_iff_ne]; exact fun e => hc (.inl e)
    have o2 : (dOp v == 18) = false := by rw [beq_eq_false_iff_ne]; exact fun e => hc (.inr e)
    clear hc
    generalize bitN (hD (dOp v)) (dD v) = x at *
    generalize dOp v = op at *
    generalize dD v = dd at *
    generalize dA v = da at *
    generalize dB v = db at *
    generalize dN v = dn at *
    generalize hD op = p1 at *
    generalize hA op = p2 at *
    generalize hB op = p3 at *
    generalize hN op = p4 at *
    generalize hP op = p5 at *
    go_enter Tryz.func31, Tryz.ntmps31
    go_upto_region 4 with (go_at_call 20; refine C.mono ?_; rintro e w1 ⟨rfl, hb1⟩; have HB1 : Hid (Below w.heap.size w w1) := hb1; clear hb1)
    obtain ⟨X, HX⟩ : ∃ X, Hid (w1.alloc (.cells #[.int .i8 op, .int .i8 dd, .int .i8 da, .int .i8 db, .int .i64 dn] 50) = X) := ⟨_, rfl⟩
    have HBX : Hid (Below w.heap.size w X) := by unfold Hid; rw [← HX.out]; exact lb_alloc HB1.out _
    have c0 : X.cell? ⟨w1.heap.size, 0, none⟩ = some (.int .i8 op) := by rw [← HX.out]; simp [go_sem]
    have c1 : X.cell? ⟨w1.heap.size, 1, none⟩ = some (.int .i8 dd) := by rw [← HX.out]; simp [go_sem]
    rw [HX.out]
    clear HX
    have hXX := Below.refl X.heap.size X
    go_region_held3 (fun Y => Below X.heap.size X Y ∧ Y.cell? ⟨w1.heap.size, 0, none⟩ = some (.int .i8 op) ∧ Y.cell? ⟨w1.heap.size, 1, none⟩ = some (.int .i8 dd)) (first | exact ⟨hXX, c0, c1⟩ | exact ⟨hXX.drew, c0, c1⟩ | exact ⟨hY, lkeep hY c0, lkeep hY c1⟩ | exact ⟨hY.drew, lkeep hY.drew c0, lkeep hY.drew c1⟩)
      (first
        | (go_at_call 32; refine (CH _).mono ?_; rintro e w2 ⟨rfl, hw2⟩; have hY : Below X.heap.size X w2 := (by rw [hw2]; first | exact lb_alloc hXX _ | exact lb_alloc hXX.drew _); clear hw2)
        | (go_at_call 57; refine (B1 _).mono ?_; rintro e w5 ⟨rfl, hw5⟩; have hw5 := hw5.symm; subst hw5))
    all_goals (
      rename_i hS
      clear hS
      go_wp2_with fail
      go_ret
      exact ⟨rfl, by first | exact lb_trans HBX.out hY | exact lb_trans HBX.out hY.drew⟩)
/-- An answer of All. -/
def AllP (l : List Int) (w : World) (e : Ending) (w' : World) : Prop := e = .returned (.tuple #[.int .u16 ((allR l l.length : Nat) : Int), .int .u16 ((allW l l.length : Nat) : Int)]) ∧ Below w.heap.size w w'
set_option maxHeartbeats 2000000 in
theorem refall_any (A : Option Addr) (c : Nat) (l : List Int) (w : World) (hA : IntsAt w A .u32 l) (hR : ∀ i, i < l.length → 0 ≤ nth l i ∧ nth l i < 4294967296) (hl : l.length ≤ 1048576) : Calls Tryz.prog 29 #[.slice A l.length c] w (AllP l w) := by
  have HA : Hid (IntsAt w A .u32 l) := hA
  have HR : Hid (∀ i, i < l.length → 0 ≤ nth l i ∧ nth l i < 4294967296) := hR
  clear hA hR
  go_enter Tryz.func29, Tryz.ntmps29
  go_wp2
  go_loopw [4, 5, 6] (fun r x i wr => ∃ k : Nat, i = .int .i64 k ∧ r = .int .u16 ((allR l k : Nat) : Int) ∧ x = .int .u16 ((allW l k : Nat) : Int) ∧ k ≤ l.length ∧ Hid (Below w.heap.size w wr)) (fun _ _ i _ => l.length - (intOf i).toNat)
  case atStart => exact ⟨0, rfl, rfl, rfl, Nat.zero_le _, Below.refl _ _⟩
  case round =>
    obtain ⟨k, rfl, rfl, rfl, hk, HB⟩ := hrel
    by_cases hlt : k < l.length
    · have hlt' : (k : Int) < (l.length : Int) := by omega
      obtain ⟨a, ea, q⟩ := HA.out k hlt
      subst ea
      have HQ : Hid (w.cell? (a.add k) = some (.int .u32 (nth l k))) := q
      replace q := lkeep HB.out q
      obtain ⟨v0, v1⟩ := HR.out k hlt
      have C1 := fun wx => refreads_any (nth l k) v0 v1 wx
      have C2 := fun wx => refwrites_any (nth l k) v0 v1 wx
      have hless := lessI (rdN_lt (nth l k)) (allW_lt l k)
      have hor := orI (allR_lt l k) (lessN_lt (b := allW l k) (rdN_lt (nth l k)))
      have hor2 := orI (allW_lt l k) (wrN_lt (nth l k))
      have HS1 : Hid (allR l (k + 1) = allR l k ||| lessN (rdN (nth l k)) (allW l k)) := rfl
      have HS2 : Hid (allW l (k + 1) = allW l k ||| wrN (nth l k)) := rfl
      generalize rdN (nth l k) = x at *
      generalize wrN (nth l k) = y at *
      generalize nth l k = v at *
      generalize lessN x (allW l k) = z at *
      go_upto_region 7 with (go_at_call 30; refine (C1 _).mono ?_; rintro e w1 ⟨rfl, hb1⟩; have HB1 : Hid (Below w.heap.size w w1) := lb_trans HB.out hb1; have q1 := lkeep hb1 q; clear hb1)
      go_wp2_with (go_at_call 31; refine (C2 _).mono ?_; rintro e w2 ⟨rfl, hb2⟩; have HB2 : Hid (Below w.heap.size w w2) := lb_trans HB1.out hb2; clear hb2)
      go_roundw
      case rel => exact ⟨k + 1, by go_num, by rw [HS1.out], by rw [HS2.out], by omega, HB2⟩
      case measure => simp [intOf]; omega
    · obtain rfl : k = l.length := by omega
      go_wp2
      go_ret2
      exact ⟨rfl, HB.out⟩


end Go.Proofs.YtfnicgihpelhhaaGreat

namespace Go.Proofs.YtfnicgihpelhhaaGreat
open Go.RowKit

def ReadsOK : Prop := ∀ (v : Int) (w : World), 0 ≤ v → v < 4294967296 → Calls Tryz.prog 25 #[.int .u32 v] w fun e w' => e = .returned (.int .u16 ((rdN v : Nat) : Int)) ∧ Below w.heap.size w w'
def WritesOK : Prop := ∀ (v : Int) (w : World), 0 ≤ v → v < 4294967296 → Calls Tryz.prog 26 #[.int .u32 v] w fun e w' => e = .returned (.int .u16 ((wrN v : Nat) : Int)) ∧ Below w.heap.size w w'
def AllOK : Prop := ∀ (A : Option Addr) (c : Nat) (l : List Int) (w : World), IntsAt w A .u32 l → (∀ i, i < l.length → 0 ≤ nth l i ∧ nth l i < 4294967296) → l.length ≤ 1048576 → Calls Tryz.prog 50 #[.slice A l.length c] w (AllP l w)


end Go.Proofs.YtfnicgihpelhhaaGreat

namespace Go.Proofs.YtfnicgihpelhhaaGreat
open Go.RowKit

theorem tbcell {W w1 : World} (hb : Below W.heap.size W w1) : (∀ b o, b < W.heap.size → w1.cell? ⟨b, o, none⟩ = W.cell? ⟨b, o, none⟩) ∧ (∀ b o, b < W.heap.size → w1.frozen? ⟨b, o, none⟩ = W.frozen? ⟨b, o, none⟩) :=
  ⟨fun b o h => hb.cell (p := ⟨b, o, none⟩) h, fun b o h => hb.frozen (p := ⟨b, o, none⟩) h⟩
set_option maxHeartbeats 2000000 in
theorem only_any (h : Bool) (r : Int) (h0 : 0 ≤ r) (h1 : r ≤ 15) (w : World) : Calls Tryz.prog 80 #[.bool h, .int .i8 r] w fun e w' => e = .returned (.int .u16 ((bitN h r : Nat) : Int)) ∧ w' = w := by
  cases h with
  | false =>
    go_enter Tryz.func80, Tryz.ntmps80
    go_wp2
    go_ret
    exact ⟨rfl, rfl⟩
  | true =>
    rcases (show r = 0 ∨ r = 1 ∨ r = 2 ∨ r = 3 ∨ r = 4 ∨ r = 5 ∨ r = 6 ∨ r = 7 ∨ r = 8 ∨ r = 9 ∨ r = 10 ∨ r = 11 ∨ r = 12 ∨ r = 13 ∨ r = 14 ∨ r = 15 by omega) with rfl | rfl | rfl | rfl | rfl | rfl | rfl | rfl | rfl | rfl | rfl | rfl | rfl | rfl | rfl | rfl
    all_goals (
      go_enter Tryz.func80, Tryz.ntmps80
      go_wp2
      go_ret
      exact ⟨rfl, rfl⟩)
set_option maxHeartbeats 2000000 in
theorem icalls_any (op dd da db dn : Int) (w : World) : Calls Tryz.prog 81 #[.agg #[.int .i8 op, .int .i8 dd, .int .i8 da, .int .i8 db, .int .i64 dn]] w fun e w' => e = .returned (.bool (cllB op)) ∧ Below w.heap.size w w' := by
  by_cases k1 : op = 17
  · subst k1
    go_enter Tryz.func81, Tryz.ntmps81
    go_wp2
    go_ret
    exact ⟨rfl, lb_alloc (Below.refl _ _) _⟩
  · by_cases k2 : op = 18
    · subst k2
      go_enter Tryz.func81, Tryz.ntmps81
      go_wp2
      go_ret
      exact ⟨rfl, lb_alloc (Below.refl _ _) _⟩
    · have o1 : (op == 17) = false := by rw [beq_eq_false_iff_ne]; exact k1
      have o2 : (op == 18) = false := by rw [beq_eq_false_iff_ne]; exact k2
      have HC : Hid (cllB op = false) := by unfold Hid cllB; rw [o1, o2]; rfl
      clear k1 k2
      go_enter Tryz.func81, Tryz.ntmps81
      go_wp2
      go_ret
      exact ⟨by rw [HC.out]; try rfl, lb_alloc (Below.refl _ _) _⟩
set_option maxHeartbeats 2000000 in
theorem decoded_any (v : Int) (h0 : 0 ≤ v) (h1 : v < 4294967296) (w : World) : Calls Tryz.prog 52 #[.int .u32 v] w fun e w' => e = .returned (.agg #[.int .i8 (dOp v), .int .i8 (dD v), .int .i8 (dA v), .int .i8 (dB v), .int .i64 (dN v)]) ∧ Below w.heap.size w w' := by
  have C := fun wx => isadecode_any v h0 h1 wx
  generalize dOp v = op at *
  generalize dD v = dd at *
  generalize dA v = da at *
  generalize dB v = db at *
  generalize dN v = dn at *
  go_enter Tryz.func52, Tryz.ntmps52
  go_wp2_with (go_at_call 36; refine (C _).mono ?_; rintro e w1 ⟨rfl, hb1⟩; obtain ⟨hc, hf⟩ := tbcell hb1; have hz : w.heap.size < w1.heap.size := by have := hb1.size; simp at this; omega)
  exact bodyPost_ret (v := .agg #[.int .i8 op, .int .i8 dd, .int .i8 da, .int .i8 db, .int .i64 dn]) (by simp [results, Tryz.results52, go_sem, hc]) rfl ⟨rfl, (((((lb_alloc (Below.refl _ _) _).trans (hb1.mono (by simp))).setCell (by simp) _).setCell (by simp) _).setCell (by simp) _ |>.setCell (by simp) _).setCell (by simp) _⟩


end Go.Proofs.YtfnicgihpelhhaaGreat

namespace Go.Proofs.YtfnicgihpelhhaaGreat
open Go.RowKit

set_option maxRecDepth 100000 in
set_option maxHeartbeats 2000000 in
theorem ireads_any (op dd da db dn : Int) (h8 : op ≤ 127) (ha : 0 ≤ da ∧ da ≤ 15) (hb : 0 ≤ db ∧ db ≤ 15) (w : World) : Calls Tryz.prog 53 #[.agg #[.int .i8 op, .int .i8 dd, .int .i8 da, .int .i8 db, .int .i64 dn]] w fun e w' => e = .returned (.int .u16 ((irdN op da db : Nat) : Int)) ∧ Below w.heap.size w w' := by
  have B1 := fun wx => only_any (hA op) da ha.1 ha.2 wx
  have B2 := fun wx => only_any (hB op) db hb.1 hb.2 wx
  have CH := fun wx => isahas_any op h8 wx
  have hor := orI (bitN_lt (hA op) ha.2) (bitN_lt (hB op) hb.2)
  have HR : Hid (irdN op da db = bitN (hA op) da ||| bitN (hB op) db) := rfl
  rw [HR.out]
  clear HR ha hb h8
  generalize bitN (hA op) da = x at *
  generalize bitN (hB op) db = y at *
  generalize hD op = p1 at *
  generalize hA op = p2 at *
  generalize hB op = p3 at *
  generalize hN op = p4 at *
  generalize hP op = p5 at *
  go_enter Tryz.func53, Tryz.ntmps53
  go_upto_region 2 with (go_at_call 79; refine (CH _).mono ?_; rintro e w1 ⟨rfl, hb1⟩; have HB1 : Hid (Below w.heap.size w w1) := (lb_alloc (Below.refl _ _) _).trans (hb1.mono (by simp)); have c2 : w1.cell? ⟨w.heap.size, 2, none⟩ = some (.int .i8 da) := (lkeep hb1 (by simp [go_sem])); have c3 : w1.cell? ⟨w.heap.size, 3, none⟩ = some (.int .i8 db) := (lkeep hb1 (by simp [go_sem])); clear hb1)
  go_region_held3 (fun Y => Below w.heap.size w Y ∧ Y.cell? ⟨w.heap.size, 2, none⟩ = some (.int .i8 da) ∧ Y.cell? ⟨w.heap.size, 3, none⟩ = some (.int .i8 db)) (first | exact ⟨HB1.out, c2, c3⟩ | exact ⟨HB1.out.drew, c2, c3⟩ | (simp [*]; done))
    ((go_at_call 80; first | (refine (B1 _).mono ?_; rintro e w5 ⟨rfl, hw5⟩; have hw5 := hw5.symm; subst hw5) | (refine (B2 _).mono ?_; rintro e w5 ⟨rfl, hw5⟩; have hw5 := hw5.symm; subst hw5)))
  all_goals (
    rename_i hS
    clear hS
    go_wp2_with fail
    go_ret
    exact ⟨by first | rfl | (rw [← hor]), by first | exact HB1.out | exact HB1.out.drew⟩)
set_option maxRecDepth 100000 in
set_option maxHeartbeats 2000000 in
theorem iwrites_any (op dd da db dn : Int) (h8 : op ≤ 127) (hd : 0 ≤ dd ∧ dd ≤ 15) (w : World) : Calls Tryz.prog 54 #[.agg #[.int .i8 op, .int .i8 dd, .int .i8 da, .int .i8 db, .int .i64 dn]] w fun e w' => e = .returned (.int .u16 ((iwrN op dd : Nat) : Int)) ∧ Below w.heap.size w w' := by
  have B1 := fun wx => only_any (hD op) dd hd.1 hd.2 wx
  have B2 := fun wx => only_any (cllB op) 15 (by omega) (by omega) wx
  have CC := fun wx => icalls_any op dd da db dn wx
  have CH := fun wx => isahas_any op h8 wx
  have hor := orI (bitN_lt (hD op) hd.2) (bitN_lt (cllB op) (r := 15) (by omega))
  have HR : Hid (iwrN op dd = bitN (hD op) dd ||| bitN (cllB op) 15) := rfl
  rw [HR.out]
  clear HR hd h8
  generalize bitN (hD op) dd = x at *
  generalize bitN (cllB op) 15 = y at *
  generalize cllB op = cb at *
  generalize hD op = p1 at *
  generalize hA op = p2 at *
  generalize hB op = p3 at *
  generalize hN op = p4 at *
  generalize hP op = p5 at *
  go_enter Tryz.func54, Tryz.ntmps54
  go_upto_region 2 with (go_at_call 79; refine (CH _).mono ?_; rintro e w1 ⟨rfl, hb1⟩; have HB1 : Hid (Below w.heap.size w w1) := (lb_alloc (Below.refl _ _) _).trans (hb1.mono (by simp)); have c0 : w1.cell? ⟨w.heap.size, 0, none⟩ = some (.int .i8 op) := (lkeep hb1 (by simp [go_sem])); have c1 : w1.cell? ⟨w.heap.size, 1, none⟩ = some (.int .i8 dd) := (lkeep hb1 (by simp [go_sem])); have c2 : w1.cell? ⟨w.heap.size, 2, none⟩ = some (.int .i8 da) := (lkeep hb1 (by simp [go_sem])); have c3 : w1.cell? ⟨w.heap.size, 3, none⟩ = some (.int .i8 db) := (lkeep hb1 (by simp [go_sem])); have c4 : w1.cell? ⟨w.heap.size, 4, none⟩ = some (.int .i64 dn) := (lkeep hb1 (by simp [go_sem])); clear hb1)
  have hXX := Below.refl w1.heap.size w1
  go_region_held3 (fun Y => Below w1.heap.size w1 Y ∧ Y.cell? ⟨w.heap.size, 0, none⟩ = some (.int .i8 op) ∧ Y.cell? ⟨w.heap.size, 1, none⟩ = some (.int .i8 dd) ∧ Y.cell? ⟨w.heap.size, 2, none⟩ = some (.int .i8 da) ∧ Y.cell? ⟨w.heap.size, 3, none⟩ = some (.int .i8 db) ∧ Y.cell? ⟨w.heap.size, 4, none⟩ = some (.int .i64 dn)) (first | exact ⟨hXX, c0, c1, c2, c3, c4⟩ | exact ⟨hXX.drew, c0, c1, c2, c3, c4⟩ | exact ⟨hY, lkeep hY c0, lkeep hY c1, lkeep hY c2, lkeep hY c3, lkeep hY c4⟩ | exact ⟨hY.drew, lkeep hY.drew c0, lkeep hY.drew c1, lkeep hY.drew c2, lkeep hY.drew c3, lkeep hY.drew c4⟩)
    (first
      | (go_at_call 81; refine (CC _).mono ?_; rintro e w2 ⟨rfl, hw2⟩; have hY : Below w1.heap.size w1 w2 := (by first | exact hw2 | exact lb_trans hXX.drew hw2 | exact lb_trans hXX hw2); clear hw2)
      | (go_at_call 80; first | (refine (B1 _).mono ?_; rintro e w5 ⟨rfl, hw5⟩; have hw5 := hw5.symm; subst hw5) | (refine (B2 _).mono ?_; rintro e w5 ⟨rfl, hw5⟩; have hw5 := hw5.symm; subst hw5)))
  all_goals (
    rename_i hS
    clear hS
    go_wp2_with fail
    go_ret
    exact ⟨by first | rfl | (rw [← hor]), by first | exact lb_trans HB1.out hY | exact lb_trans HB1.out hY.drew⟩)


end Go.Proofs.YtfnicgihpelhhaaGreat
