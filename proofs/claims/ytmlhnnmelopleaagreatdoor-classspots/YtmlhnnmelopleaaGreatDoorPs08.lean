/-
  Decode of package isa, for every word of 32 bits; no other condition. Ends, Falls, Target and Aim of the document's answer, for every word of 32 bits; no other condition. Ends, Falls, Target and Aim of package isa, over what Decode, Has and Encode return; no other condition. Has of package isa, for every op that is an int8's number.
-/
import Derived.Test.YtmlhnnmelopleaaGreatDoorProg
import Derived.Test.YtmlhnnmelopleaaGreatDoorPs07
import Derived.Test.YtmlhnnmelopleaaGreatDoorPs03
import Derived.Test.YtmlhnnmelopleaaGreatDoorPs06
namespace Go.Proofs.YtmlhnnmelopleaaGreatDoor
open Go.RowKit

/-- N as the program reads it: by its highest bit. -/
def sN (v : Int) : Int := if 16383 < v % 32768 then v % 32768 - 32768 else v % 32768
theorem sN_num0 (n p : Bool) (r : Int) (h0 : 0 ≤ r) (h1 : r < 32768) : numOK n p (if 16383 < r then r - 32768 else r) = numOK n p (if n && !p && decide (16384 ≤ r) then r - 32768 else r) := by
  by_cases h : 16383 < r
  · have h' : 16384 ≤ r := by omega
    cases n <;> cases p <;> (rw [Bool.eq_iff_iff]; simp [numOK, h, h']; try omega)
  · have h' : ¬ 16384 ≤ r := by omega
    cases n <;> cases p <;> simp [numOK, h, h']
theorem sN_eq0 (n p : Bool) (r : Int) (h0 : 0 ≤ r) (h1 : r < 32768) (hn : numOK n p (if n && !p && decide (16384 ≤ r) then r - 32768 else r) = true) : (if 16383 < r then r - 32768 else r) = (if n && !p && decide (16384 ≤ r) then r - 32768 else r) := by
  by_cases h : 16383 < r
  · have h' : 16384 ≤ r := by omega
    cases n <;> cases p <;> simp [numOK, h, h'] at hn ⊢ <;> omega
  · have h' : ¬ 16384 ≤ r := by omega
    cases n <;> cases p <;> simp [h, h']
theorem ins_sN (v : Int) : insOK (wOp v) (wD v) (wA v) (wB v) (sN v) = insOK (wOp v) (wD v) (wA v) (wB v) (wN v) := by
  unfold insOK
  rw [show numOK (hN (wOp v)) (hP (wOp v)) (sN v) = numOK (hN (wOp v)) (hP (wOp v)) (wN v) from sN_num0 _ _ (v % 32768) (by omega) (by omega)]
theorem isIns_sN {v : Int} (h : isIns v = true) : sN v = wN v := by
  unfold isIns insOK at h
  simp only [Bool.and_eq_true] at h
  exact sN_eq0 _ _ (v % 32768) (by omega) (by omega) h.2.2
theorem encS_no {v : Int} (h0 : 0 ≤ v) (h : isIns v = false) : encV (wOp v) (wD v) (wA v) (wB v) (sN v) = 0 ∧ (encE (wOp v) (wD v) (wA v) (wB v) (sN v) = 10 ∨ encE (wOp v) (wD v) (wA v) (wB v) (sN v) = 11) := by
  unfold isIns at h
  have hop : 0 ≤ wOp v := by unfold wOp; omega
  unfold encV encE
  by_cases hb : wOp v < 0 ∨ 21 < wOp v
  · rw [if_pos hb, if_pos hb]; exact ⟨rfl, Or.inl rfl⟩
  · rw [if_neg hb, if_neg hb]
    have hle : wOp v ≤ 21 := by omega
    rw [decide_eq_true hle, Bool.true_and] at h
    rw [ins_sN, h]; exact ⟨rfl, Or.inr rfl⟩

set_option maxRecDepth 100000 in
set_option maxHeartbeats 1000000 in
theorem decYes (v : Int) (h0 : 0 ≤ v) (h1 : v < 4294967296) (hI : isIns v = true) (w : World) : Calls Tryz.prog 28 #[.int .u32 v] w fun e w' => e = .returned (.agg #[.int .i8 (dOp v), .int .i8 (dD v), .int .i8 (dA v), .int .i8 (dB v), .int .i64 (dN v)]) ∧ Below w.heap.size w w' := by
    have m1 : bits .and .u32 v 125829120 = v / 8388608 % 16 * 8388608 := mask_mid v 23 125829120 (by decide) (by decide) h0 h1
    have m2 : bits .and .u32 v 7864320 = v / 524288 % 16 * 524288 := mask_mid v 19 7864320 (by decide) (by decide) h0 h1
    have m3 : bits .and .u32 v 491520 = v / 32768 % 16 * 32768 := mask_mid v 15 491520 (by decide) (by decide) h0 h1
    have m4 := and32767 v h0 h1
    have CS : ∀ wx : World, Calls Tryz.prog 49 #[.int .u32 (v % 32768)] wx fun e w' => e = .returned (.int .i64 (wN v)) ∧ w' = wx := fun wx => by
      have h := signed_any (v % 32768) (by omega) (by omega) wx
      rw [← isIns_sN hI]; exact h
    have CE : ∀ wx : World, Calls Tryz.prog 50 #[.agg #[.int .i8 (v / 134217728), .int .i8 (v / 8388608 % 16), .int .i8 (v / 524288 % 16), .int .i8 (v / 32768 % 16), .int .i64 (wN v)]] wx fun e w' => e = .returned (.tuple #[.int .u32 v, .int .i64 0]) ∧ Below wx.heap.size wx w' := fun wx => by
      have h := isaencode_any (wOp v) (wD v) (wA v) (wB v) (wN v) (by unfold wOp; omega) wx
      rw [(enc_yes h0 h1 hI).1, (enc_yes h0 h1 hI).2] at h
      exact h
    have HI : Hid (isIns v = true) := hI
    clear hI
    go_enter Tryz.func28, Tryz.ntmps28
    go_wp2_with fail
    refine (CS _).mono ?_
    rintro e w1 ⟨rfl, rfl⟩
    clear m1 m2 m3 m4 CS
    go_wp2_with fail
    refine (CE _).mono ?_
    rintro e w2 ⟨rfl, hb2⟩
    clear CE
    have z0 : w2.cell? ⟨w.heap.size, 0, none⟩ = some (.int .i8 0) := cell_keep hb2 (by simp [go_sem])
    have y0 : w2.frozen? ⟨w.heap.size, 0, none⟩ = false := frozen_keep hb2 (v := .int .i8 0) (by simp [go_sem]) (by simp [go_sem])
    have x0 : w2.cell? ⟨w.heap.size + 1, 0, none⟩ = some (.int .i8 (v / 134217728)) := cell_keep hb2 (by simp [go_sem])
    have z1 : w2.cell? ⟨w.heap.size, 1, none⟩ = some (.int .i8 0) := cell_keep hb2 (by simp [go_sem])
    have y1 : w2.frozen? ⟨w.heap.size, 1, none⟩ = false := frozen_keep hb2 (v := .int .i8 0) (by simp [go_sem]) (by simp [go_sem])
    have x1 : w2.cell? ⟨w.heap.size + 1, 1, none⟩ = some (.int .i8 (v / 8388608 % 16)) := cell_keep hb2 (by simp [go_sem])
    have z2 : w2.cell? ⟨w.heap.size, 2, none⟩ = some (.int .i8 0) := cell_keep hb2 (by simp [go_sem])
    have y2 : w2.frozen? ⟨w.heap.size, 2, none⟩ = false := frozen_keep hb2 (v := .int .i8 0) (by simp [go_sem]) (by simp [go_sem])
    have x2 : w2.cell? ⟨w.heap.size + 1, 2, none⟩ = some (.int .i8 (v / 524288 % 16)) := cell_keep hb2 (by simp [go_sem])
    have z3 : w2.cell? ⟨w.heap.size, 3, none⟩ = some (.int .i8 0) := cell_keep hb2 (by simp [go_sem])
    have y3 : w2.frozen? ⟨w.heap.size, 3, none⟩ = false := frozen_keep hb2 (v := .int .i8 0) (by simp [go_sem]) (by simp [go_sem])
    have x3 : w2.cell? ⟨w.heap.size + 1, 3, none⟩ = some (.int .i8 (v / 32768 % 16)) := cell_keep hb2 (by simp [go_sem])
    have z4 : w2.cell? ⟨w.heap.size, 4, none⟩ = some (.int .i64 0) := cell_keep hb2 (by simp [go_sem])
    have y4 : w2.frozen? ⟨w.heap.size, 4, none⟩ = false := frozen_keep hb2 (v := .int .i64 0) (by simp [go_sem]) (by simp [go_sem])
    have x4 : w2.cell? ⟨w.heap.size + 1, 4, none⟩ = some (.int .i64 (wN v)) := cell_keep hb2 (by simp [go_sem])
    have HB2 : Hid (Below w.heap.size w w2) := bel_trans (bel_alloc (bel_alloc (Below.refl _ _) _) _) hb2
    clear hb2
    go_wp2
    exact bodyPost_ret (v := .agg #[.int .i8 (v / 134217728), .int .i8 (v / 8388608 % 16), .int .i8 (v / 524288 % 16), .int .i8 (v / 32768 % 16), .int .i64 (wN v)]) (by simp [results, Tryz.results28, go_sem, z0, z1, z2, z3, z4]) rfl ⟨dec_yes HI.out, ((((HB2.out.setCell (Nat.le_refl _) _).setCell (Nat.le_refl _) _).setCell (Nat.le_refl _) _).setCell (Nat.le_refl _) _).setCell (Nat.le_refl _) _⟩

set_option maxRecDepth 100000 in
set_option maxHeartbeats 1000000 in
theorem decNo (v : Int) (h0 : 0 ≤ v) (h1 : v < 4294967296) (hI : isIns v = false) (w : World) : Calls Tryz.prog 28 #[.int .u32 v] w fun e w' => e = .returned (.agg #[.int .i8 (dOp v), .int .i8 (dD v), .int .i8 (dA v), .int .i8 (dB v), .int .i64 (dN v)]) ∧ Below w.heap.size w w' := by
    have m1 : bits .and .u32 v 125829120 = v / 8388608 % 16 * 8388608 := mask_mid v 23 125829120 (by decide) (by decide) h0 h1
    have m2 : bits .and .u32 v 7864320 = v / 524288 % 16 * 524288 := mask_mid v 19 7864320 (by decide) (by decide) h0 h1
    have m3 : bits .and .u32 v 491520 = v / 32768 % 16 * 32768 := mask_mid v 15 491520 (by decide) (by decide) h0 h1
    have m4 := and32767 v h0 h1
    have CS : ∀ wx : World, Calls Tryz.prog 49 #[.int .u32 (v % 32768)] wx fun e w' => e = .returned (.int .i64 (sN v)) ∧ w' = wx := fun wx => signed_any (v % 32768) (by omega) (by omega) wx
    obtain ⟨E, hE, CE⟩ : ∃ E : Int, (E == 0) = false ∧ ∀ wx : World, Calls Tryz.prog 50 #[.agg #[.int .i8 (v / 134217728), .int .i8 (v / 8388608 % 16), .int .i8 (v / 524288 % 16), .int .i8 (v / 32768 % 16), .int .i64 (sN v)]] wx fun e w' => e = .returned (.tuple #[.int .u32 0, .int .i64 E]) ∧ Below wx.heap.size wx w' := by
      obtain ⟨e1, e2⟩ := encS_no h0 hI
      refine ⟨encE (wOp v) (wD v) (wA v) (wB v) (sN v), by rcases e2 with e2 | e2 <;> (rw [e2]; rfl), fun wx => ?_⟩
      have h := isaencode_any (wOp v) (wD v) (wA v) (wB v) (sN v) (by unfold wOp; omega) wx
      rw [e1] at h
      exact h
    have HI : Hid (isIns v = false) := hI
    clear hI
    go_enter Tryz.func28, Tryz.ntmps28
    go_wp2_with fail
    refine (CS _).mono ?_
    rintro e w1 ⟨rfl, rfl⟩
    clear m1 m2 m3 m4 CS
    go_wp2_with fail
    refine (CE _).mono ?_
    rintro e w2 ⟨rfl, hb2⟩
    clear CE
    have z0 : w2.cell? ⟨w.heap.size, 0, none⟩ = some (.int .i8 0) := cell_keep hb2 (by simp [go_sem])
    have y0 : w2.frozen? ⟨w.heap.size, 0, none⟩ = false := frozen_keep hb2 (v := .int .i8 0) (by simp [go_sem]) (by simp [go_sem])
    have x0 : w2.cell? ⟨w.heap.size + 1, 0, none⟩ = some (.int .i8 (v / 134217728)) := cell_keep hb2 (by simp [go_sem])
    have z1 : w2.cell? ⟨w.heap.size, 1, none⟩ = some (.int .i8 0) := cell_keep hb2 (by simp [go_sem])
    have y1 : w2.frozen? ⟨w.heap.size, 1, none⟩ = false := frozen_keep hb2 (v := .int .i8 0) (by simp [go_sem]) (by simp [go_sem])
    have x1 : w2.cell? ⟨w.heap.size + 1, 1, none⟩ = some (.int .i8 (v / 8388608 % 16)) := cell_keep hb2 (by simp [go_sem])
    have z2 : w2.cell? ⟨w.heap.size, 2, none⟩ = some (.int .i8 0) := cell_keep hb2 (by simp [go_sem])
    have y2 : w2.frozen? ⟨w.heap.size, 2, none⟩ = false := frozen_keep hb2 (v := .int .i8 0) (by simp [go_sem]) (by simp [go_sem])
    have x2 : w2.cell? ⟨w.heap.size + 1, 2, none⟩ = some (.int .i8 (v / 524288 % 16)) := cell_keep hb2 (by simp [go_sem])
    have z3 : w2.cell? ⟨w.heap.size, 3, none⟩ = some (.int .i8 0) := cell_keep hb2 (by simp [go_sem])
    have y3 : w2.frozen? ⟨w.heap.size, 3, none⟩ = false := frozen_keep hb2 (v := .int .i8 0) (by simp [go_sem]) (by simp [go_sem])
    have x3 : w2.cell? ⟨w.heap.size + 1, 3, none⟩ = some (.int .i8 (v / 32768 % 16)) := cell_keep hb2 (by simp [go_sem])
    have z4 : w2.cell? ⟨w.heap.size, 4, none⟩ = some (.int .i64 0) := cell_keep hb2 (by simp [go_sem])
    have y4 : w2.frozen? ⟨w.heap.size, 4, none⟩ = false := frozen_keep hb2 (v := .int .i64 0) (by simp [go_sem]) (by simp [go_sem])
    have x4 : w2.cell? ⟨w.heap.size + 1, 4, none⟩ = some (.int .i64 (sN v)) := cell_keep hb2 (by simp [go_sem])
    have HB2 : Hid (Below w.heap.size w w2) := bel_trans (bel_alloc (bel_alloc (Below.refl _ _) _) _) hb2
    clear hb2
    go_wp2
    exact bodyPost_ret (v := .agg #[.int .i8 (-1), .int .i8 0, .int .i8 0, .int .i8 0, .int .i64 v]) (by simp [results, Tryz.results28, go_sem, z0, z1, z2, z3, z4]) rfl ⟨dec_no HI.out, ((((HB2.out.setCell (Nat.le_refl _) _).setCell (Nat.le_refl _) _).setCell (Nat.le_refl _) _).setCell (Nat.le_refl _) _).setCell (Nat.le_refl _) _⟩

theorem isadecode_any (v : Int) (h0 : 0 ≤ v) (h1 : v < 4294967296) (w : World) : Calls Tryz.prog 28 #[.int .u32 v] w fun e w' => e = .returned (.agg #[.int .i8 (dOp v), .int .i8 (dD v), .int .i8 (dA v), .int .i8 (dB v), .int .i64 (dN v)]) ∧ Below w.heap.size w w' := by
  cases hI : isIns v
  · exact decNo v h0 h1 hI w
  · exact decYes v h0 h1 hI w






end Go.Proofs.YtmlhnnmelopleaaGreatDoor

namespace Go.Proofs.YtmlhnnmelopleaaGreatDoor
open Go.RowKit

@[go_sem] theorem field_ins0 (x d a b n : Int) (w : World) : (Instr.field 67 (.agg #[.int .i8 x, .int .i8 d, .int .i8 a, .int .i8 b, .int .i64 n]) 0).run Tryz.prog w = .ok (.int .i8 x) w := by kernel_rfl
@[go_sem] theorem field_has4 (x d a b n : Bool) (w : World) : (Instr.field 97 (.agg #[.bool x, .bool d, .bool a, .bool b, .bool n]) 4).run Tryz.prog w = .ok (.bool n) w := by kernel_rfl
theorem endsm1 (v : Int) (w : World) (CE : ∀ wx : World, Calls Tryz.prog 31 #[.int .u32 v] wx fun e w' => e = .returned (.agg #[.int .i8 (-1), .int .i8 (dD v), .int .i8 (dA v), .int .i8 (dB v), .int .i64 (dN v)]) ∧ Below wx.heap.size wx w') : Calls Tryz.prog 30 #[.int .u32 v] w fun e w' => e = .returned (.bool true) ∧ Below w.heap.size w w' := by
  go_enter Tryz.func30, Tryz.ntmps30
  go_wp2_with (go_at_call 31; refine (CE _).mono ?_; rintro e w1 ⟨rfl, hb⟩)
  go_ret
  exact ⟨rfl, hb⟩
theorem ends0 (v : Int) (w : World) (CE : ∀ wx : World, Calls Tryz.prog 31 #[.int .u32 v] wx fun e w' => e = .returned (.agg #[.int .i8 (0), .int .i8 (dD v), .int .i8 (dA v), .int .i8 (dB v), .int .i64 (dN v)]) ∧ Below wx.heap.size wx w') : Calls Tryz.prog 30 #[.int .u32 v] w fun e w' => e = .returned (.bool true) ∧ Below w.heap.size w w' := by
  go_enter Tryz.func30, Tryz.ntmps30
  go_wp2_with (go_at_call 31; refine (CE _).mono ?_; rintro e w1 ⟨rfl, hb⟩)
  go_ret
  exact ⟨rfl, hb⟩
theorem ends15 (v : Int) (w : World) (CE : ∀ wx : World, Calls Tryz.prog 31 #[.int .u32 v] wx fun e w' => e = .returned (.agg #[.int .i8 (15), .int .i8 (dD v), .int .i8 (dA v), .int .i8 (dB v), .int .i64 (dN v)]) ∧ Below wx.heap.size wx w') : Calls Tryz.prog 30 #[.int .u32 v] w fun e w' => e = .returned (.bool true) ∧ Below w.heap.size w w' := by
  go_enter Tryz.func30, Tryz.ntmps30
  go_wp2_with (go_at_call 31; refine (CE _).mono ?_; rintro e w1 ⟨rfl, hb⟩)
  go_ret
  exact ⟨rfl, hb⟩
theorem ends16 (v : Int) (w : World) (CE : ∀ wx : World, Calls Tryz.prog 31 #[.int .u32 v] wx fun e w' => e = .returned (.agg #[.int .i8 (16), .int .i8 (dD v), .int .i8 (dA v), .int .i8 (dB v), .int .i64 (dN v)]) ∧ Below wx.heap.size wx w') : Calls Tryz.prog 30 #[.int .u32 v] w fun e w' => e = .returned (.bool true) ∧ Below w.heap.size w w' := by
  go_enter Tryz.func30, Tryz.ntmps30
  go_wp2_with (go_at_call 31; refine (CE _).mono ?_; rintro e w1 ⟨rfl, hb⟩)
  go_ret
  exact ⟨rfl, hb⟩
theorem ends17 (v : Int) (w : World) (CE : ∀ wx : World, Calls Tryz.prog 31 #[.int .u32 v] wx fun e w' => e = .returned (.agg #[.int .i8 (17), .int .i8 (dD v), .int .i8 (dA v), .int .i8 (dB v), .int .i64 (dN v)]) ∧ Below wx.heap.size wx w') : Calls Tryz.prog 30 #[.int .u32 v] w fun e w' => e = .returned (.bool true) ∧ Below w.heap.size w w' := by
  go_enter Tryz.func30, Tryz.ntmps30
  go_wp2_with (go_at_call 31; refine (CE _).mono ?_; rintro e w1 ⟨rfl, hb⟩)
  go_ret
  exact ⟨rfl, hb⟩
theorem ends18 (v : Int) (w : World) (CE : ∀ wx : World, Calls Tryz.prog 31 #[.int .u32 v] wx fun e w' => e = .returned (.agg #[.int .i8 (18), .int .i8 (dD v), .int .i8 (dA v), .int .i8 (dB v), .int .i64 (dN v)]) ∧ Below wx.heap.size wx w') : Calls Tryz.prog 30 #[.int .u32 v] w fun e w' => e = .returned (.bool true) ∧ Below w.heap.size w w' := by
  go_enter Tryz.func30, Tryz.ntmps30
  go_wp2_with (go_at_call 31; refine (CE _).mono ?_; rintro e w1 ⟨rfl, hb⟩)
  go_ret
  exact ⟨rfl, hb⟩
theorem ends19 (v : Int) (w : World) (CE : ∀ wx : World, Calls Tryz.prog 31 #[.int .u32 v] wx fun e w' => e = .returned (.agg #[.int .i8 (19), .int .i8 (dD v), .int .i8 (dA v), .int .i8 (dB v), .int .i64 (dN v)]) ∧ Below wx.heap.size wx w') : Calls Tryz.prog 30 #[.int .u32 v] w fun e w' => e = .returned (.bool true) ∧ Below w.heap.size w w' := by
  go_enter Tryz.func30, Tryz.ntmps30
  go_wp2_with (go_at_call 31; refine (CE _).mono ?_; rintro e w1 ⟨rfl, hb⟩)
  go_ret
  exact ⟨rfl, hb⟩
theorem ends21 (v : Int) (w : World) (CE : ∀ wx : World, Calls Tryz.prog 31 #[.int .u32 v] wx fun e w' => e = .returned (.agg #[.int .i8 (21), .int .i8 (dD v), .int .i8 (dA v), .int .i8 (dB v), .int .i64 (dN v)]) ∧ Below wx.heap.size wx w') : Calls Tryz.prog 30 #[.int .u32 v] w fun e w' => e = .returned (.bool true) ∧ Below w.heap.size w w' := by
  go_enter Tryz.func30, Tryz.ntmps30
  go_wp2_with (go_at_call 31; refine (CE _).mono ?_; rintro e w1 ⟨rfl, hb⟩)
  go_ret
  exact ⟨rfl, hb⟩
theorem endsno (v x : Int) (w : World) (CE : ∀ wx : World, Calls Tryz.prog 31 #[.int .u32 v] wx fun e w' => e = .returned (.agg #[.int .i8 x, .int .i8 (dD v), .int .i8 (dA v), .int .i8 (dB v), .int .i64 (dN v)]) ∧ Below wx.heap.size wx w') (hm1 : (x == -1) = false) (h0 : (x == 0) = false) (h15 : (x == 15) = false) (h16 : (x == 16) = false) (h17 : (x == 17) = false) (h18 : (x == 18) = false) (h19 : (x == 19) = false) (h21 : (x == 21) = false) : Calls Tryz.prog 30 #[.int .u32 v] w fun e w' => e = .returned (.bool false) ∧ Below w.heap.size w w' := by
  go_enter Tryz.func30, Tryz.ntmps30
  go_wp2_with (go_at_call 31; refine (CE _).mono ?_; rintro e w1 ⟨rfl, hb⟩)
  go_ret
  exact ⟨rfl, hb⟩
theorem refends_any (v : Int) (h0 : 0 ≤ v) (h1 : v < 4294967296) (w : World) : Calls Tryz.prog 30 #[.int .u32 v] w fun e w' => e = .returned (.bool (endsB (dOp v))) ∧ Below w.heap.size w w' := by
  have CE : ∀ wx : World, Calls Tryz.prog 31 #[.int .u32 v] wx fun e w' => e = .returned (.agg #[.int .i8 (dOp v), .int .i8 (dD v), .int .i8 (dA v), .int .i8 (dB v), .int .i64 (dN v)]) ∧ Below wx.heap.size wx w' := fun wx => refdecode_any v h0 h1 wx
  generalize dOp v = x at CE ⊢
  by_cases hm1 : x = -1
  · subst hm1; exact endsm1 v w CE
  by_cases h0 : x = 0
  · subst h0; exact ends0 v w CE
  by_cases h15 : x = 15
  · subst h15; exact ends15 v w CE
  by_cases h16 : x = 16
  · subst h16; exact ends16 v w CE
  by_cases h17 : x = 17
  · subst h17; exact ends17 v w CE
  by_cases h18 : x = 18
  · subst h18; exact ends18 v w CE
  by_cases h19 : x = 19
  · subst h19; exact ends19 v w CE
  by_cases h21 : x = 21
  · subst h21; exact ends21 v w CE
  have e : endsB x = false := by unfold endsB; exact decide_eq_false (by omega)
  rw [e]
  exact endsno v x w CE (by simpa using hm1) (by simpa using h0) (by simpa using h15) (by simpa using h16) (by simpa using h17) (by simpa using h18) (by simpa using h19) (by simpa using h21)

theorem reftarget_any (v : Int) (h0 : 0 ≤ v) (h1 : v < 4294967296) (w : World) : Calls Tryz.prog 32 #[.int .u32 v] w fun e w' => e = .returned (.tuple #[.int .i64 (tgV v), .bool (isT v)]) ∧ Below w.heap.size w w' := by
  have CE : ∀ wx : World, Calls Tryz.prog 31 #[.int .u32 v] wx fun e w' => e = .returned (.agg #[.int .i8 (dOp v), .int .i8 (dD v), .int .i8 (dA v), .int .i8 (dB v), .int .i64 (dN v)]) ∧ Below wx.heap.size wx w' := fun wx => refdecode_any v h0 h1 wx
  unfold tgV isT
  generalize dOp v = x at CE ⊢
  generalize dN v = n at CE ⊢
  by_cases hx : x < 0
  · have e : decide (0 ≤ x) = false := decide_eq_false (by omega)
    rw [e]
    go_enter Tryz.func32, Tryz.ntmps32
    go_wp2_with (go_at_call 31; refine (CE _).mono ?_; rintro e w1 ⟨rfl, hb⟩)
    go_ret2
    exact ⟨rfl, bel_alloc hb _⟩
  · have e : decide (0 ≤ x) = true := decide_eq_true (by omega)
    rw [e]
    clear e
    cases hp : hP x
    · go_enter Tryz.func32, Tryz.ntmps32
      go_wp2_with (first | (go_at_call 31; refine (CE _).mono ?_; rintro e w1 ⟨rfl, hb⟩) | (go_at_call 52; refine (refhas_any _ _).mono ?_; rintro e w2 ⟨rfl, rfl⟩))
      go_ret2
      exact ⟨rfl, bel_alloc (bel_alloc hb _) _⟩
    · go_enter Tryz.func32, Tryz.ntmps32
      go_wp2_with (first | (go_at_call 31; refine (CE _).mono ?_; rintro e w1 ⟨rfl, hb⟩) | (go_at_call 52; refine (refhas_any _ _).mono ?_; rintro e w2 ⟨rfl, rfl⟩))
      go_ret2
      exact ⟨rfl, bel_alloc (bel_alloc hb _) _⟩






end Go.Proofs.YtmlhnnmelopleaaGreatDoor

namespace Go.Proofs.YtmlhnnmelopleaaGreatDoor
open Go.RowKit

theorem fallsm1 (v d a b n : Int) (w : World) (CE : ∀ wx : World, Calls Tryz.prog 28 #[.int .u32 v] wx fun e w' => e = .returned (.agg #[.int .i8 (-1), .int .i8 d, .int .i8 a, .int .i8 b, .int .i64 n]) ∧ Below wx.heap.size wx w') : Calls Tryz.prog 48 #[.int .u32 v] w fun e w' => e = .returned (.bool false) ∧ Below w.heap.size w w' := by
  go_enter Tryz.func48, Tryz.ntmps48
  go_wp2_with (go_at_call 28; refine (CE _).mono ?_; rintro e w1 ⟨rfl, hb⟩)
  go_ret
  exact ⟨rfl, hb⟩
theorem falls0 (v d a b n : Int) (w : World) (CE : ∀ wx : World, Calls Tryz.prog 28 #[.int .u32 v] wx fun e w' => e = .returned (.agg #[.int .i8 (0), .int .i8 d, .int .i8 a, .int .i8 b, .int .i64 n]) ∧ Below wx.heap.size wx w') : Calls Tryz.prog 48 #[.int .u32 v] w fun e w' => e = .returned (.bool false) ∧ Below w.heap.size w w' := by
  go_enter Tryz.func48, Tryz.ntmps48
  go_wp2_with (go_at_call 28; refine (CE _).mono ?_; rintro e w1 ⟨rfl, hb⟩)
  go_ret
  exact ⟨rfl, hb⟩
theorem falls15 (v d a b n : Int) (w : World) (CE : ∀ wx : World, Calls Tryz.prog 28 #[.int .u32 v] wx fun e w' => e = .returned (.agg #[.int .i8 (15), .int .i8 d, .int .i8 a, .int .i8 b, .int .i64 n]) ∧ Below wx.heap.size wx w') : Calls Tryz.prog 48 #[.int .u32 v] w fun e w' => e = .returned (.bool false) ∧ Below w.heap.size w w' := by
  go_enter Tryz.func48, Tryz.ntmps48
  go_wp2_with (go_at_call 28; refine (CE _).mono ?_; rintro e w1 ⟨rfl, hb⟩)
  go_ret
  exact ⟨rfl, hb⟩
theorem falls17 (v d a b n : Int) (w : World) (CE : ∀ wx : World, Calls Tryz.prog 28 #[.int .u32 v] wx fun e w' => e = .returned (.agg #[.int .i8 (17), .int .i8 d, .int .i8 a, .int .i8 b, .int .i64 n]) ∧ Below wx.heap.size wx w') : Calls Tryz.prog 48 #[.int .u32 v] w fun e w' => e = .returned (.bool false) ∧ Below w.heap.size w w' := by
  go_enter Tryz.func48, Tryz.ntmps48
  go_wp2_with (go_at_call 28; refine (CE _).mono ?_; rintro e w1 ⟨rfl, hb⟩)
  go_ret
  exact ⟨rfl, hb⟩
theorem falls18 (v d a b n : Int) (w : World) (CE : ∀ wx : World, Calls Tryz.prog 28 #[.int .u32 v] wx fun e w' => e = .returned (.agg #[.int .i8 (18), .int .i8 d, .int .i8 a, .int .i8 b, .int .i64 n]) ∧ Below wx.heap.size wx w') : Calls Tryz.prog 48 #[.int .u32 v] w fun e w' => e = .returned (.bool false) ∧ Below w.heap.size w w' := by
  go_enter Tryz.func48, Tryz.ntmps48
  go_wp2_with (go_at_call 28; refine (CE _).mono ?_; rintro e w1 ⟨rfl, hb⟩)
  go_ret
  exact ⟨rfl, hb⟩
theorem falls19 (v d a b n : Int) (w : World) (CE : ∀ wx : World, Calls Tryz.prog 28 #[.int .u32 v] wx fun e w' => e = .returned (.agg #[.int .i8 (19), .int .i8 d, .int .i8 a, .int .i8 b, .int .i64 n]) ∧ Below wx.heap.size wx w') : Calls Tryz.prog 48 #[.int .u32 v] w fun e w' => e = .returned (.bool false) ∧ Below w.heap.size w w' := by
  go_enter Tryz.func48, Tryz.ntmps48
  go_wp2_with (go_at_call 28; refine (CE _).mono ?_; rintro e w1 ⟨rfl, hb⟩)
  go_ret
  exact ⟨rfl, hb⟩
theorem falls21 (v d a b n : Int) (w : World) (CE : ∀ wx : World, Calls Tryz.prog 28 #[.int .u32 v] wx fun e w' => e = .returned (.agg #[.int .i8 (21), .int .i8 d, .int .i8 a, .int .i8 b, .int .i64 n]) ∧ Below wx.heap.size wx w') : Calls Tryz.prog 48 #[.int .u32 v] w fun e w' => e = .returned (.bool false) ∧ Below w.heap.size w w' := by
  go_enter Tryz.func48, Tryz.ntmps48
  go_wp2_with (go_at_call 28; refine (CE _).mono ?_; rintro e w1 ⟨rfl, hb⟩)
  go_ret
  exact ⟨rfl, hb⟩
theorem fallsno (v x d a b n : Int) (w : World) (CE : ∀ wx : World, Calls Tryz.prog 28 #[.int .u32 v] wx fun e w' => e = .returned (.agg #[.int .i8 x, .int .i8 d, .int .i8 a, .int .i8 b, .int .i64 n]) ∧ Below wx.heap.size wx w') (hm1 : (x == -1) = false) (h0 : (x == 0) = false) (h15 : (x == 15) = false) (h17 : (x == 17) = false) (h18 : (x == 18) = false) (h19 : (x == 19) = false) (h21 : (x == 21) = false) : Calls Tryz.prog 48 #[.int .u32 v] w fun e w' => e = .returned (.bool true) ∧ Below w.heap.size w w' := by
  go_enter Tryz.func48, Tryz.ntmps48
  go_wp2_with (go_at_call 28; refine (CE _).mono ?_; rintro e w1 ⟨rfl, hb⟩)
  go_ret
  exact ⟨rfl, hb⟩
theorem falls_of (v x d a b n : Int) (w : World) (CE : ∀ wx : World, Calls Tryz.prog 28 #[.int .u32 v] wx fun e w' => e = .returned (.agg #[.int .i8 x, .int .i8 d, .int .i8 a, .int .i8 b, .int .i64 n]) ∧ Below wx.heap.size wx w') : Calls Tryz.prog 48 #[.int .u32 v] w fun e w' => e = .returned (.bool (!endsB x || x == 16)) ∧ Below w.heap.size w w' := by
  by_cases hm1 : x = -1
  · subst hm1; exact fallsm1 v d a b n w CE
  by_cases h0 : x = 0
  · subst h0; exact falls0 v d a b n w CE
  by_cases h15 : x = 15
  · subst h15; exact falls15 v d a b n w CE
  by_cases h17 : x = 17
  · subst h17; exact falls17 v d a b n w CE
  by_cases h18 : x = 18
  · subst h18; exact falls18 v d a b n w CE
  by_cases h19 : x = 19
  · subst h19; exact falls19 v d a b n w CE
  by_cases h21 : x = 21
  · subst h21; exact falls21 v d a b n w CE
  have e : (!endsB x || x == 16) = true := by
    by_cases h16 : x = 16
    · subst h16; rfl
    · have : endsB x = false := by unfold endsB; exact decide_eq_false (by omega)
      rw [this]; rfl
  rw [e]
  exact fallsno v x d a b n w CE (by simpa using hm1) (by simpa using h0) (by simpa using h15) (by simpa using h17) (by simpa using h18) (by simpa using h19) (by simpa using h21)

theorem ends_of (v x d a b n : Int) (F : Bool) (w : World) (CE : ∀ wx : World, Calls Tryz.prog 28 #[.int .u32 v] wx fun e w' => e = .returned (.agg #[.int .i8 x, .int .i8 d, .int .i8 a, .int .i8 b, .int .i64 n]) ∧ Below wx.heap.size wx w') (CF : ∀ wx : World, Calls Tryz.prog 48 #[.int .u32 v] wx fun e w' => e = .returned (.bool F) ∧ Below wx.heap.size wx w') : Calls Tryz.prog 27 #[.int .u32 v] w fun e w' => e = .returned (.bool (!F || x == 16)) ∧ Below w.heap.size w w' := by
  cases F
  · go_enter Tryz.func27, Tryz.ntmps27
    go_wp2_with fail
    refine (CF _).mono ?_
    rintro e w1 ⟨rfl, hb⟩
    go_wp2
    go_ret
    exact ⟨rfl, hb⟩
  · go_enter Tryz.func27, Tryz.ntmps27
    go_wp2_with fail
    refine (CF _).mono ?_
    rintro e w1 ⟨rfl, hb⟩
    go_wp2_with fail
    refine (CE _).mono ?_
    rintro e w2 ⟨rfl, hb2⟩
    go_wp2
    go_ret
    exact ⟨by simp, bel_trans hb hb2⟩
theorem ends_falls (x : Int) : (!(!endsB x || x == 16) || x == 16) = endsB x := by
  by_cases h16 : x = 16
  · subst h16; rfl
  · have : (x == 16) = false := by simpa using h16
    rw [this]; simp

theorem target_of (v x d a b n : Int) (p1 p2 p3 p4 p : Bool) (w : World) (CE : ∀ wx : World, Calls Tryz.prog 28 #[.int .u32 v] wx fun e w' => e = .returned (.agg #[.int .i8 x, .int .i8 d, .int .i8 a, .int .i8 b, .int .i64 n]) ∧ Below wx.heap.size wx w') (CH : ∀ wx : World, Calls Tryz.prog 83 #[.int .i8 x] wx fun e w' => e = .returned (.tuple #[.bool p1, .bool p2, .bool p3, .bool p4, .bool p]) ∧ Below wx.heap.size wx w') : Calls Tryz.prog 97 #[.int .u32 v] w fun e w' => e = .returned (.tuple #[.int .i64 (if p then n else 0), .bool p]) ∧ Below w.heap.size w w' := by
  cases p
  · go_enter Tryz.func97, Tryz.ntmps97
    go_wp2_with fail
    refine (CE _).mono ?_
    rintro e w1 ⟨rfl, hb⟩
    go_wp2_with fail
    refine (CH _).mono ?_
    rintro e w2 ⟨rfl, hb2⟩
    go_wp2
    go_ret2
    exact ⟨rfl, bel_trans (bel_alloc hb _) hb2⟩
  · go_enter Tryz.func97, Tryz.ntmps97
    go_wp2_with fail
    refine (CE _).mono ?_
    rintro e w1 ⟨rfl, hb⟩
    go_wp2_with fail
    refine (CH _).mono ?_
    rintro e w2 ⟨rfl, hb2⟩
    have c4 : w2.cell? ⟨w1.heap.size, 4, none⟩ = some (.int .i64 n) := cell_keep hb2 (by simp [go_sem])
    have HB : Hid (Below w.heap.size w w2) := bel_trans (bel_alloc hb _) hb2
    clear hb hb2
    go_wp2
    go_ret2
    exact ⟨rfl, HB.out⟩






end Go.Proofs.YtmlhnnmelopleaaGreatDoor

namespace Go.Proofs.YtmlhnnmelopleaaGreatDoor
open Go.RowKit


set_option maxRecDepth 100000 in
theorem isahas_any (op : Int) (h8 : op ≤ 127) (w : World) : Calls Tryz.prog 83 #[.int .i8 op] w fun e w' => e = .returned (.tuple #[.bool (hD op), .bool (hA op), .bool (hB op), .bool (hN op), .bool (hP op)]) ∧ Below w.heap.size w w' := by
  have CK := known_any op h8
  by_cases hr : 0 ≤ op ∧ op ≤ 21
  · rw [decide_eq_true hr] at CK
    obtain ⟨b1, b2, b4, b8, b16⟩ := sh_bits op hr.1 hr.2
    have hI := index_sh op hr.1 hr.2
    have C1 := fun wx => fhas_any (sh op) 1 wx
    have C2 := fun wx => fhas_any (sh op) 2 wx
    have C4 := fun wx => fhas_any (sh op) 4 wx
    have C8 := fun wx => fhas_any (sh op) 8 wx
    have C16 := fun wx => fhas_any (sh op) 16 wx
    rw [b1] at C1; rw [b2] at C2; rw [b4] at C4; rw [b8] at C8; rw [b16] at C16
    clear b1 b2 b4 b8 b16
    go_enter Tryz.func83, Tryz.ntmps83
    go_wp2_with fail
    refine (CK _).mono ?_
    rintro e w1 ⟨rfl, rfl⟩
    go_wp2_with fail
    refine (shapes_any _).mono ?_
    rintro e w2 ⟨rfl, hb⟩
    have HB : Hid (Below w1.heap.size w1 w2) := hb
    clear hb CK
    go_wp2_with fail
    refine (C1 _).mono ?_
    rintro e w3 ⟨rfl, rfl⟩
    go_wp2_with fail
    refine (C2 _).mono ?_
    rintro e w3 ⟨rfl, rfl⟩
    go_wp2_with fail
    refine (C4 _).mono ?_
    rintro e w3 ⟨rfl, rfl⟩
    go_wp2_with fail
    refine (C8 _).mono ?_
    rintro e w3 ⟨rfl, rfl⟩
    go_wp2_with fail
    refine (C16 _).mono ?_
    rintro e w3 ⟨rfl, rfl⟩
    go_wp2
    exact bodyPost_ret (v := .tuple #[.bool (hD op), .bool (hA op), .bool (hB op), .bool (hN op), .bool (hP op)]) (by simp [results, Tryz.results83, go_sem]) rfl ⟨rfl, HB.out⟩
  · rw [decide_eq_false hr] at CK
    have e1 : hD op = false := by unfold hD; exact decide_eq_false (by omega)
    have e2 : hA op = false := by unfold hA; exact decide_eq_false (by omega)
    have e3 : hB op = false := by unfold hB; exact decide_eq_false (by omega)
    have e4 : hN op = false := by unfold hN; exact decide_eq_false (by omega)
    have e5 : hP op = false := by unfold hP; exact decide_eq_false (by omega)
    rw [e1, e2, e3, e4, e5]
    clear e1 e2 e3 e4 e5
    go_enter Tryz.func83, Tryz.ntmps83
    go_wp2_with fail
    refine (CK _).mono ?_
    rintro e w1 ⟨rfl, rfl⟩
    go_wp2
    exact bodyPost_ret (v := .tuple #[.bool false, .bool false, .bool false, .bool false, .bool false]) (by simp [results, Tryz.results83, go_sem]) rfl ⟨rfl, Below.refl _ _⟩






end Go.Proofs.YtmlhnnmelopleaaGreatDoor
