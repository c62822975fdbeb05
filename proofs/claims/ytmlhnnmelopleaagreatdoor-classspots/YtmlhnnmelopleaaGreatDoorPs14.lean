/-
  The document on what a word reads and writes; each word is of 32 bits. The document on what a word writes, on links, on what stands alone, on rows; each word is of 32 bits. What the statements need of the program: Reads, Writes, Links, Alone, All, each by what it answers. What the program asks of sets of registers; no Go in sight.
-/
import Derived.Test.YtmlhnnmelopleaaGreatDoorProg
import Derived.WalkKit
import Derived.WalkSpells
import Derived.WalkLawsBesides
import Derived.RowKit3
import Derived.Below
import Derived.Deep.QuietTactic
import Derived.BigQuiet
import Derived.WalkSmall
import Derived.Laws.Rows
import Derived.Deep.RegionHeld3
import Derived.Test.YtmlhnnmelopleaaGreatDoorPs08
import Derived.Test.YtmlhnnmelopleaaGreatDoorPs09
import Derived.Test.YtmlhnnmelopleaaGreatDoorPs02
namespace Go.Proofs.YtmlhnnmelopleaaGreatDoor
open Go.RowKit

set_option maxHeartbeats 2000000 in
theorem bit_any (h : Bool) (r : Int) (h0 : 0 ≤ r) (h1 : r ≤ 15) (w : World) : Calls Tryz.prog 82 #[.bool h, .int .i8 r] w fun e w' => e = .returned (.int .u16 ((bitN h r : Nat) : Int)) ∧ w' = w := by
  cases h with
  | false =>
    go_enter Tryz.func82, Tryz.ntmps82
    go_wp2
    go_ret
    exact ⟨rfl, rfl⟩
  | true =>
    rcases (show r = 0 ∨ r = 1 ∨ r = 2 ∨ r = 3 ∨ r = 4 ∨ r = 5 ∨ r = 6 ∨ r = 7 ∨ r = 8 ∨ r = 9 ∨ r = 10 ∨ r = 11 ∨ r = 12 ∨ r = 13 ∨ r = 14 ∨ r = 15 by omega) with rfl | rfl | rfl | rfl | rfl | rfl | rfl | rfl | rfl | rfl | rfl | rfl | rfl | rfl | rfl | rfl
    all_goals (
      go_enter Tryz.func82, Tryz.ntmps82
      go_wp2
      go_ret
      exact ⟨rfl, rfl⟩)
set_option maxRecDepth 100000 in
set_option maxHeartbeats 2000000 in
theorem refreads_any (v : Int) (h0 : 0 ≤ v) (h1 : v < 4294967296) (w : World) : Calls Tryz.prog 61 #[.int .u32 v] w fun e w' => e = .returned (.int .u16 ((rdN v : Nat) : Int)) ∧ Below w.heap.size w w' := by
  have C := refdecode_any v h0 h1 w
  have ha := dA_reg v
  have hb := dB_reg v
  have B1 := fun wx => bit_any (hA (dOp v)) (dA v) ha.1 ha.2 wx
  have B2 := fun wx => bit_any (hB (dOp v)) (dB v) hb.1 hb.2 wx
  have CH := fun wx => refhas_any (dOp v) wx
  have hor := orI (bitN_lt (hA (dOp v)) ha.2) (bitN_lt (hB (dOp v)) hb.2)
  have HR : Hid (rdN v = bitN (hA (dOp v)) (dA v) ||| bitN (hB (dOp v)) (dB v)) := rfl
  rw [HR.out]
  clear HR ha hb
  generalize bitN (hA (dOp v)) (dA v) = x at *
  generalize bitN (hB (dOp v)) (dB v) = y at *
  generalize dOp v = op at *
  generalize dD v = dd at *
  generalize dA v = da at *
  generalize dB v = db at *
  generalize dN v = dn at *
  generalize hD op = p1 at *
  generalize hA op = p2 at *
  generalize hB op = p3 at *
  generalize hN op = p4 at *
  generalize hP op = p5 at *
  go_enter Tryz.func61, Tryz.ntmps61
  go_upto_region 3 with (first
    | (go_at_call 31; refine C.mono ?_; rintro e w1 ⟨rfl, hb1⟩; have HB1 : Hid (Below w.heap.size w w1) := hb1; clear hb1)
    | (go_at_call 52; refine (CH _).mono ?_; rintro e w2 ⟨rfl, rfl⟩))
  obtain ⟨X, HX⟩ : ∃ X, Hid ((((w1.alloc (.cells #[.int .i8 op, .int .i8 dd, .int .i8 da, .int .i8 db, .int .i64 dn] 67)).alloc (.cells #[.bool p1, .bool p2, .bool p3, .bool p4, .bool p5] 97)).alloc (.cells #[.bool p1, .bool p2, .bool p3, .bool p4, .bool p5] 97)) = X) := ⟨_, rfl⟩
  have HBX : Hid (Below w.heap.size w X) := by unfold Hid; rw [← HX.out]; exact lb_alloc (lb_alloc (lb_alloc HB1.out _) _) _
  have c2 : X.cell? ⟨w1.heap.size, 2, none⟩ = some (.int .i8 da) := by rw [← HX.out]; simp [go_sem]
  have c3 : X.cell? ⟨w1.heap.size, 3, none⟩ = some (.int .i8 db) := by rw [← HX.out]; simp [go_sem]
  have f1 : X.cell? ⟨w1.heap.size + 1 + 1, 1, none⟩ = some (.bool p2) := by rw [← HX.out]; simp [go_sem]
  have f2 : X.cell? ⟨w1.heap.size + 1 + 1, 2, none⟩ = some (.bool p3) := by rw [← HX.out]; simp [go_sem]
  rw [HX.out]
  clear HX
  go_region_held3 (fun Y => Below w.heap.size w Y ∧ Y.cell? ⟨w1.heap.size, 2, none⟩ = some (.int .i8 da) ∧ Y.cell? ⟨w1.heap.size, 3, none⟩ = some (.int .i8 db) ∧ Y.cell? ⟨w1.heap.size + 1 + 1, 1, none⟩ = some (.bool p2) ∧ Y.cell? ⟨w1.heap.size + 1 + 1, 2, none⟩ = some (.bool p3)) (first | exact ⟨HBX.out, c2, c3, f1, f2⟩ | exact ⟨HBX.out.drew, c2, c3, f1, f2⟩ | (simp [*]; done))
    ((go_at_call 82; first | (refine (B1 _).mono ?_; rintro e w5 ⟨rfl, hw5⟩; have hw5 := hw5.symm; subst hw5) | (refine (B2 _).mono ?_; rintro e w5 ⟨rfl, hw5⟩; have hw5 := hw5.symm; subst hw5)))
  all_goals (
    rename_i hS
    clear hS
    go_wp2_with fail
    go_ret
    exact ⟨by first | rfl | (rw [← hor]), by first | exact HBX.out | exact HBX.out.drew⟩)


end Go.Proofs.YtmlhnnmelopleaaGreatDoor

namespace Go.Proofs.YtmlhnnmelopleaaGreatDoor
open Go.RowKit

@[go_sem] theorem field_has0 (x d a b n : Bool) (w : World) : (Instr.field 97 (.agg #[.bool x, .bool d, .bool a, .bool b, .bool n]) 0).run Tryz.prog w = .ok (.bool x) w := by kernel_rfl
set_option maxRecDepth 100000 in
set_option maxHeartbeats 2000000 in
theorem refwrites_any (v : Int) (h0 : 0 ≤ v) (h1 : v < 4294967296) (w : World) : Calls Tryz.prog 62 #[.int .u32 v] w fun e w' => e = .returned (.int .u16 ((wrN v : Nat) : Int)) ∧ Below w.heap.size w w' := by
  have C := refdecode_any v h0 h1 w
  by_cases hc : dOp v = 17 ∨ dOp v = 18
  · have HR : Hid (wrN v = 32768) := if_pos hc
    rw [HR.out]
    clear HR
    generalize dOp v = op at *
    generalize dD v = dd at *
    generalize dA v = da at *
    generalize dB v = db at *
    generalize dN v = dn at *
    rcases hc with rfl | rfl
    all_goals (
      go_enter Tryz.func62, Tryz.ntmps62
      go_wp2_with (go_at_call 31; refine C.mono ?_; rintro e w1 ⟨rfl, hb1⟩)
      go_ret
      exact ⟨rfl, lb_alloc hb1 _⟩)
  · have HR : Hid (wrN v = bitN (hD (dOp v)) (dD v)) := if_neg hc
    have hd := dD_reg v
    have B1 := fun wx => bit_any (hD (dOp v)) (dD v) hd.1 hd.2 wx
    have CH := fun wx => refhas_any (dOp v) wx
    rw [HR.out]
    clear HR hd
    have o1 : (dOp v == 17) = false := by rw [beq_eq_false_iff_ne]; exact fun e => hc (.inl e)
    have o2 : (dOp v == 18) = false := by rw [beq_eq_false_iff_ne]; exact fun e => hc (.inr e)
    clear hc
    generalize bitN (hD (dOp v)) (dD v) = x at *
    generalize dOp v = op at *
    generalize dD v = dd at *
    generalize dA v = da at *
    generalize dB v = db at *
    generalize dN v = dn at *
    generalize hD op = p1 at *
    generalize hA op = p2 at *
    generalize hB op = p3 at *
    generalize hN op = p4 at *
    generalize hP op = p5 at *
    go_enter Tryz.func62, Tryz.ntmps62
    go_upto_region 4 with (go_at_call 31; refine C.mono ?_; rintro e w1 ⟨rfl, hb1⟩; have HB1 : Hid (Below w.heap.size w w1) := hb1; clear hb1)
    obtain ⟨X, HX⟩ : ∃ X, Hid (w1.alloc (.cells #[.int .i8 op, .int .i8 dd, .int .i8 da, .int .i8 db, .int .i64 dn] 67) = X) := ⟨_, rfl⟩
    have HBX : Hid (Below w.heap.size w X) := by unfold Hid; rw [← HX.out]; exact lb_alloc HB1.out _
    have c0 : X.cell? ⟨w1.heap.size, 0, none⟩ = some (.int .i8 op) := by rw [← HX.out]; simp [go_sem]
    have c1 : X.cell? ⟨w1.heap.size, 1, none⟩ = some (.int .i8 dd) := by rw [← HX.out]; simp [go_sem]
    rw [HX.out]
    clear HX
    have hXX := Below.refl X.heap.size X
    go_region_held3 (fun Y => Below X.heap.size X Y ∧ Y.cell? ⟨w1.heap.size, 0, none⟩ = some (.int .i8 op) ∧ Y.cell? ⟨w1.heap.size, 1, none⟩ = some (.int .i8 dd)) (first | exact ⟨hXX, c0, c1⟩ | exact ⟨hXX.drew, c0, c1⟩ | exact ⟨hY, lkeep hY c0, lkeep hY c1⟩ | exact ⟨hY.drew, lkeep hY.drew c0, lkeep hY.drew c1⟩)
      (first
        | (go_at_call 52; refine (CH _).mono ?_; rintro e w2 ⟨rfl, hw2⟩; have hY : Below X.heap.size X w2 := (by rw [hw2]; first | exact lb_alloc hXX _ | exact lb_alloc hXX.drew _); clear hw2)
        | (go_at_call 82; refine (B1 _).mono ?_; rintro e w5 ⟨rfl, hw5⟩; have hw5 := hw5.symm; subst hw5))
    all_goals (
      rename_i hS
      clear hS
      go_wp2_with fail
      go_ret
      exact ⟨rfl, by first | exact lb_trans HBX.out hY | exact lb_trans HBX.out hY.drew⟩)
set_option maxHeartbeats 2000000 in
theorem reflinks_any (v : Int) (h0 : 0 ≤ v) (h1 : v < 4294967296) (w : World) : Calls Tryz.prog 51 #[.int .u32 v] w fun e w' => e = .returned (.bool (lnB v)) ∧ Below w.heap.size w w' := by
  have C1 := fun wx => refreads_any v h0 h1 wx
  have C2 := fun wx => refwrites_any v h0 h1 wx
  have hor := orI (rdN_lt v) (wrN_lt v)
  have hlk := linkI (orN_lt (rdN_lt v) (wrN_lt v))
  have HL : Hid (lnB v = decide ((rdN v ||| wrN v) / 32768 = 1)) := rfl
  rw [← hlk] at HL
  rw [HL.out]
  clear hlk HL
  generalize rdN v = x at *
  generalize wrN v = y at *
  generalize x ||| y = z at *
  go_enter Tryz.func51, Tryz.ntmps51
  go_wp2_with (first
    | (go_at_call 61; refine (C1 _).mono ?_; rintro e w1 ⟨rfl, hb1⟩)
    | (go_at_call 62; refine (C2 _).mono ?_; rintro e w2 ⟨rfl, hb2⟩))
  go_ret
  exact ⟨rfl, lb_trans hb1 hb2⟩
set_option maxHeartbeats 2000000 in
theorem refalone_any (v : Int) (h0 : 0 ≤ v) (h1 : v < 4294967296) (w : World) : Calls Tryz.prog 29 #[.int .u32 v] w fun e w' => e = .returned (.bool (alB v)) ∧ Below w.heap.size w w' := by
  have C := refdecode_any v h0 h1 w
  have CL := fun wx => reflinks_any v h0 h1 wx
  have HA : Hid (alB v = if dOp v = -1 ∨ dOp v = 16 then true else if dOp v = 19 ∨ dOp v = 17 then false else if dOp v = 18 then dA v == 15 else lnB v) := rfl
  generalize alB v = r at *
  generalize lnB v = lk at *
  generalize dOp v = op at *
  generalize dD v = dd at *
  generalize dA v = da at *
  generalize dB v = db at *
  generalize dN v = dn at *
  by_cases k1 : op = -1 ∨ op = 16
  · rw [if_pos k1] at HA
    rcases k1 with rfl | rfl
    all_goals (
      go_enter Tryz.func29, Tryz.ntmps29
      go_wp2_with (go_at_call 31; refine C.mono ?_; rintro e w1 ⟨rfl, hb1⟩)
      go_ret
      exact ⟨by rw [HA.out]; rfl, lb_alloc hb1 _⟩)
  · rw [if_neg k1] at HA
    by_cases k2 : op = 19 ∨ op = 17
    · rw [if_pos k2] at HA
      rcases k2 with rfl | rfl
      all_goals (
        go_enter Tryz.func29, Tryz.ntmps29
        go_wp2_with (go_at_call 31; refine C.mono ?_; rintro e w1 ⟨rfl, hb1⟩)
        go_ret
        exact ⟨by rw [HA.out]; rfl, lb_alloc hb1 _⟩)
    · rw [if_neg k2] at HA
      by_cases k3 : op = 18
      · rw [if_pos k3] at HA
        subst k3
        go_enter Tryz.func29, Tryz.ntmps29
        go_wp2_with (go_at_call 31; refine C.mono ?_; rintro e w1 ⟨rfl, hb1⟩)
        go_ret
        exact ⟨by rw [HA.out]; rfl, lb_alloc hb1 _⟩
      · rw [if_neg k3] at HA
        have o1 : (op == -1) = false := by rw [beq_eq_false_iff_ne]; omega
        have o2 : (op == 16) = false := by rw [beq_eq_false_iff_ne]; omega
        have o3 : (op == 19) = false := by rw [beq_eq_false_iff_ne]; omega
        have o4 : (op == 17) = false := by rw [beq_eq_false_iff_ne]; omega
        have o5 : (op == 18) = false := by rw [beq_eq_false_iff_ne]; omega
        clear k1 k2 k3
        go_enter Tryz.func29, Tryz.ntmps29
        go_wp2_with (first
          | (go_at_call 31; refine C.mono ?_; rintro e w1 ⟨rfl, hb1⟩)
          | (go_at_call 51; refine (CL _).mono ?_; rintro e w2 ⟨rfl, hb2⟩))
        go_ret
        exact ⟨by rw [HA.out]; rfl, lb_trans (lb_alloc hb1 _) hb2⟩
/-- An answer of All. -/
def AllP (l : List Int) (w : World) (e : Ending) (w' : World) : Prop := e = .returned (.tuple #[.int .u16 ((allR l l.length : Nat) : Int), .int .u16 ((allW l l.length : Nat) : Int)]) ∧ Below w.heap.size w w'
set_option maxHeartbeats 2000000 in
theorem refall_any (A : Option Addr) (c : Nat) (l : List Int) (w : World) (hA : IntsAt w A .u32 l) (hR : ∀ i, i < l.length → 0 ≤ nth l i ∧ nth l i < 4294967296) (hl : l.length ≤ 1048576) : Calls Tryz.prog 43 #[.slice A l.length c] w (AllP l w) := by
  have HA : Hid (IntsAt w A .u32 l) := hA
  have HR : Hid (∀ i, i < l.length → 0 ≤ nth l i ∧ nth l i < 4294967296) := hR
  clear hA hR
  go_enter Tryz.func43, Tryz.ntmps43
  go_wp2
  go_loopw [4, 5, 6] (fun r x i wr => ∃ k : Nat, i = .int .i64 k ∧ r = .int .u16 ((allR l k : Nat) : Int) ∧ x = .int .u16 ((allW l k : Nat) : Int) ∧ k ≤ l.length ∧ Hid (Below w.heap.size w wr)) (fun _ _ i _ => l.length - (intOf i).toNat)
  case atStart => exact ⟨0, rfl, rfl, rfl, Nat.zero_le _, Below.refl _ _⟩
  case round =>
    obtain ⟨k, rfl, rfl, rfl, hk, HB⟩ := hrel
    by_cases hlt : k < l.length
    · have hlt' : (k : Int) < (l.length : Int) := by omega
      obtain ⟨a, ea, q⟩ := HA.out k hlt
      subst ea
      have HQ : Hid (w.cell? (a.add k) = some (.int .u32 (nth l k))) := q
      replace q := lkeep HB.out q
      obtain ⟨v0, v1⟩ := HR.out k hlt
      have C1 := fun wx => refreads_any (nth l k) v0 v1 wx
      have C2 := fun wx => refwrites_any (nth l k) v0 v1 wx
      have hless := lessI (rdN_lt (nth l k)) (allW_lt l k)
      have hor := orI (allR_lt l k) (lessN_lt (b := allW l k) (rdN_lt (nth l k)))
      have hor2 := orI (allW_lt l k) (wrN_lt (nth l k))
      have HS1 : Hid (allR l (k + 1) = allR l k ||| lessN (rdN (nth l k)) (allW l k)) := rfl
      have HS2 : Hid (allW l (k + 1) = allW l k ||| wrN (nth l k)) := rfl
      generalize rdN (nth l k) = x at *
      generalize wrN (nth l k) = y at *
      generalize nth l k = v at *
      generalize lessN x (allW l k) = z at *
      go_upto_region 7 with (go_at_call 61; refine (C1 _).mono ?_; rintro e w1 ⟨rfl, hb1⟩; have HB1 : Hid (Below w.heap.size w w1) := lb_trans HB.out hb1; have q1 := lkeep hb1 q; clear hb1)
      go_wp2_with (go_at_call 62; refine (C2 _).mono ?_; rintro e w2 ⟨rfl, hb2⟩; have HB2 : Hid (Below w.heap.size w w2) := lb_trans HB1.out hb2; clear hb2)
      go_roundw
      case rel => exact ⟨k + 1, by go_num, by rw [HS1.out], by rw [HS2.out], by omega, HB2⟩
      case measure => simp [intOf]; omega
    · obtain rfl : k = l.length := by omega
      go_wp2
      go_ret2
      exact ⟨rfl, HB.out⟩


end Go.Proofs.YtmlhnnmelopleaaGreatDoor

namespace Go.Proofs.YtmlhnnmelopleaaGreatDoor
open Go.RowKit

def ReadsOK : Prop := ∀ (v : Int) (w : World), 0 ≤ v → v < 4294967296 → Calls Tryz.prog 92 #[.int .u32 v] w fun e w' => e = .returned (.int .u16 ((rdN v : Nat) : Int)) ∧ Below w.heap.size w w'
def WritesOK : Prop := ∀ (v : Int) (w : World), 0 ≤ v → v < 4294967296 → Calls Tryz.prog 93 #[.int .u32 v] w fun e w' => e = .returned (.int .u16 ((wrN v : Nat) : Int)) ∧ Below w.heap.size w w'
def AloneOK : Prop := ∀ (v : Int) (w : World), 0 ≤ v → v < 4294967296 → Calls Tryz.prog 26 #[.int .u32 v] w fun e w' => e = .returned (.bool (alB v)) ∧ Below w.heap.size w w'
def AllOK : Prop := ∀ (A : Option Addr) (c : Nat) (l : List Int) (w : World), IntsAt w A .u32 l → (∀ i, i < l.length → 0 ≤ nth l i ∧ nth l i < 4294967296) → l.length ≤ 1048576 → Calls Tryz.prog 73 #[.slice A l.length c] w (AllP l w)


end Go.Proofs.YtmlhnnmelopleaaGreatDoor

namespace Go.Proofs.YtmlhnnmelopleaaGreatDoor
open Go.RowKit

/-- Is it a call? -/
def cllB (op : Int) : Bool := op == 17 || op == 18
/-- What an instruction reads and writes, by its fields. -/
def irdN (op da db : Int) : Nat := bitN (hA op) da ||| bitN (hB op) db
def iwrN (op dd : Int) : Nat := bitN (hD op) dd ||| bitN (cllB op) 15
theorem rdN_is (v : Int) : rdN v = irdN (dOp v) (dA v) (dB v) := rfl
theorem wrN_is (v : Int) : wrN v = iwrN (dOp v) (dD v) := by
  unfold wrN iwrN
  generalize dOp v = op
  by_cases h : op = 17 ∨ op = 18
  · rw [if_pos h]
    rcases h with rfl | rfl
    · rw [show hD 17 = false by decide, show cllB 17 = true by decide, show bitN false (dD v) = 0 from rfl, Nat.zero_or]; decide
    · rw [show hD 18 = false by decide, show cllB 18 = true by decide, show bitN false (dD v) = 0 from rfl, Nat.zero_or]; decide
  · rw [if_neg h]
    have : cllB op = false := by
      unfold cllB
      rw [Bool.or_eq_false_iff, beq_eq_false_iff_ne, beq_eq_false_iff_ne]
      exact ⟨fun e => h (.inl e), fun e => h (.inr e)⟩
    rw [this, show bitN false 15 = 0 from rfl, Nat.or_zero]
theorem irdN_lt {op da db : Int} (h : da ≤ 15) (k : db ≤ 15) : irdN op da db < 65536 := orN_lt (bitN_lt _ h) (bitN_lt _ k)
theorem iwrN_lt {op dd : Int} (h : dd ≤ 15) : iwrN op dd < 65536 := orN_lt (bitN_lt _ h) (bitN_lt _ (by omega))
theorem linkA {n : Nat} (h : n < 65536) : ((bits .and .u16 (n : Int) 32768) != 0) = decide (n / 32768 = 1) := by
  rw [u16_and _ _ (by omega) (by omega) (by omega) (by omega)]
  have e : ((n : Int).toNat &&& (32768 : Int).toNat : Nat) = if n / 32768 = 1 then 32768 else 0 := by
    show n &&& 32768 = _
    apply Nat.eq_of_testBit_eq
    intro i
    rw [Nat.testBit_and, show (32768 : Nat) = 2 ^ 15 from rfl, Nat.testBit_two_pow]
    by_cases hi : 15 = i
    · subst hi
      rw [Nat.testBit_eq_decide_div_mod_eq]
      by_cases e : n / 2 ^ 15 = 1
      · rw [if_pos e, e, Nat.testBit_two_pow]; rfl
      · rw [if_neg e]
        have : n / 2 ^ 15 = 0 := by omega
        rw [this]; rfl
    · by_cases e : n / 2 ^ 15 = 1
      · rw [if_pos e, Nat.testBit_two_pow]; simp [hi]
      · rw [if_neg e]; simp [hi]
  rw [e]
  by_cases k : n / 32768 = 1
  · rw [if_pos k, decide_eq_true k]; rfl
  · rw [if_neg k, decide_eq_false k]; rfl


end Go.Proofs.YtmlhnnmelopleaaGreatDoor
