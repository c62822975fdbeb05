/-
  Encode of package isa, for every instruction whose op is an int8's number. Decode of package isa, for every word of 32 bits; no other condition. What is asked of a machine of the program's: made, Status, At, Steps, Taken, Register, the numbers and places of registers. What a deed of the program's machine answers. The program's machine: an address.
-/
import Derived.Test.YtdlcejpfjlpclaaProg
import Derived.Deep.RegionHeld3
import Derived.Test.YtdlcejpfjlpclaaPs10
import Derived.WalkKit
import Derived.WalkSpells
import Derived.WalkLawsBesides
import Derived.RowKit3
import Derived.Below
import Derived.Deep.QuietTactic
import Derived.BigQuiet
import Derived.WalkSmall
import Derived.Laws.Rows
import Derived.Test.YtdlcejpfjlpclaaPs06
import Derived.Test.YtdlcejpfjlpclaaPs09
import Derived.Test.YtdlcejpfjlpclaaPs04
import Derived.Deep.DeepCutAuto
namespace Go.Proofs.Ytdlcejpfjlpclaa
open Go.RowKit

set_option maxRecDepth 100000 in
set_option maxHeartbeats 1000000 in
theorem encOut (op d a b n : Int) (h8 : op ≤ 127) (hr : ¬ (0 ≤ op ∧ op ≤ 21)) (w : World) : Calls Try.prog 31 #[.agg #[.int .i8 op, .int .i8 d, .int .i8 a, .int .i8 b, .int .i64 n]] w fun e w' => e = .returned (.tuple #[.int .u32 (encV op d a b n), .int .i64 (encE op d a b n)]) ∧ Below w.heap.size w w' := by
  have CK := known_any op h8
  rw [decide_eq_false hr] at CK
  have hq : op < 0 ∨ 21 < op := by omega
  have HE : Hid (encV op d a b n = 0 ∧ encE op d a b n = 10) := by unfold Hid encV encE; rw [if_pos hq, if_pos hq]; exact ⟨rfl, rfl⟩
  go_enter Try.func31, Try.ntmps31
  go_wp2_with fail
  refine (CK _).mono ?_
  rintro e w1 ⟨rfl, rfl⟩
  go_wp2
  go_ret2
  exact ⟨ret2 HE.out.1.symm HE.out.2.symm, bel_alloc (Below.refl _ _) _⟩

set_option maxRecDepth 100000 in
set_option maxHeartbeats 1000000 in
theorem encNo (op d a b n : Int) (h0 : 0 ≤ op) (h1 : op ≤ 21) (hi : insOK op d a b n = false) (w : World) : Calls Try.prog 31 #[.agg #[.int .i8 op, .int .i8 d, .int .i8 a, .int .i8 b, .int .i64 n]] w fun e w' => e = .returned (.tuple #[.int .u32 (encV op d a b n), .int .i64 (encE op d a b n)]) ∧ Below w.heap.size w w' := by
    have CK := known_any op (by omega)
    rw [decide_eq_true ⟨h0, h1⟩] at CK
    have HE : Hid (encV op d a b n = 0 ∧ encE op d a b n = 11) := encE_no (by omega) hi
    have CA : ∀ wx : World, Calls Try.prog 36 #[.int .u8 (sh op), .agg #[.int .i8 op, .int .i8 d, .int .i8 a, .int .i8 b, .int .i64 n]] wx fun e w' => e = .returned (.bool false) ∧ Below wx.heap.size wx w' := fun wx => (allow_any op op d a b n h0 h1 wx).mono fun e w' ⟨h, k⟩ => ⟨by rw [h, hi], by rw [k]; exact bel_alloc (Below.refl _ _) _⟩
    have hX := index_sh op h0 h1
    clear hi
    go_enter Try.func31, Try.ntmps31
    go_wp2_with fail
    refine (CK _).mono ?_
    rintro e w1 ⟨rfl, hw⟩
    have c0 : w1.cell? ⟨w.heap.size, 0, none⟩ = some (.int .i8 op) := by rw [hw]; simp [go_sem]
    have c1 : w1.cell? ⟨w.heap.size, 1, none⟩ = some (.int .i8 d) := by rw [hw]; simp [go_sem]
    have c2 : w1.cell? ⟨w.heap.size, 2, none⟩ = some (.int .i8 a) := by rw [hw]; simp [go_sem]
    have c3 : w1.cell? ⟨w.heap.size, 3, none⟩ = some (.int .i8 b) := by rw [hw]; simp [go_sem]
    have c4 : w1.cell? ⟨w.heap.size, 4, none⟩ = some (.int .i64 n) := by rw [hw]; simp [go_sem]
    have B1 : Below w.heap.size w w1.drew := by rw [hw]; exact (bel_alloc (Below.refl _ _) _).drew
    clear hw CK
    go_wp2_with fail
    go_region_held3 (fun W => W.cell? ⟨w.heap.size, 0, none⟩ = some (.int .i8 op) ∧ W.cell? ⟨w.heap.size, 1, none⟩ = some (.int .i8 d) ∧ W.cell? ⟨w.heap.size, 2, none⟩ = some (.int .i8 a) ∧ W.cell? ⟨w.heap.size, 3, none⟩ = some (.int .i8 b) ∧ W.cell? ⟨w.heap.size, 4, none⟩ = some (.int .i64 n) ∧ Below w.heap.size w W) (first | (refine ⟨cell_keep hb ?_, cell_keep hb ?_, cell_keep hb ?_, cell_keep hb ?_, cell_keep hb ?_, bel_trans ?_ hb⟩ <;> (simp [*]; done)) | (simp [*]; done))
      (first
        | (go_at_call 35; refine (shapes_any _).mono ?_; rintro e w4 ⟨rfl, hb⟩)
        | (go_at_call 36; refine (CA _).mono ?_; rintro e w4 ⟨rfl, hb⟩))
    rename_i hS
    obtain ⟨s0, s1, s2, s3, s4, sB⟩ := hS
    have HB : Hid (Below w.heap.size w _) := sB
    clear sB CA hX c0 c1 c2 c3 c4 B1
    go_wp2
    go_ret2
    exact ⟨ret2 HE.out.1.symm HE.out.2.symm, HB.out⟩

set_option maxRecDepth 100000 in
set_option maxHeartbeats 1000000 in
theorem encYes (op d a b n : Int) (h0 : 0 ≤ op) (h1 : op ≤ 21) (hi : insOK op d a b n = true) (w : World) : Calls Try.prog 31 #[.agg #[.int .i8 op, .int .i8 d, .int .i8 a, .int .i8 b, .int .i64 n]] w fun e w' => e = .returned (.tuple #[.int .u32 (encV op d a b n), .int .i64 (encE op d a b n)]) ∧ Below w.heap.size w w' := by
    have CK := known_any op (by omega)
    rw [decide_eq_true ⟨h0, h1⟩] at CK
    have HE : Hid (encV op d a b n = encW op d a b n ∧ encE op d a b n = 0) := encE_yes (by omega) hi
    have CA : ∀ wx : World, Calls Try.prog 36 #[.int .u8 (sh op), .agg #[.int .i8 op, .int .i8 d, .int .i8 a, .int .i8 b, .int .i64 n]] wx fun e w' => e = .returned (.bool true) ∧ Below wx.heap.size wx w' := fun wx => (allow_any op op d a b n h0 h1 wx).mono fun e w' ⟨h, k⟩ => ⟨by rw [h, hi], by rw [k]; exact bel_alloc (Below.refl _ _) _⟩
    have hX := index_sh op h0 h1
    unfold insOK at hi
    simp only [Bool.and_eq_true] at hi
    obtain ⟨d1, d2⟩ := reg_range hi.1.1.1
    obtain ⟨a1, a2⟩ := reg_range hi.1.1.2
    obtain ⟨b1, b2⟩ := reg_range hi.1.2
    obtain ⟨n1, n2⟩ := num_range hi.2
    clear hi
    have o1 := or_add (op * 134217728) (d * 8388608) op 27 (by omega) (by omega) (by omega) (by omega) (by omega)
    have o2 := or_add (op * 134217728 + d * 8388608) (a * 524288) (op * 16 + d) 23 (by omega) (by omega) (by omega) (by omega) (by omega)
    have o3 := or_add (op * 134217728 + d * 8388608 + a * 524288) (b * 32768) ((op * 16 + d) * 16 + a) 19 (by omega) (by omega) (by omega) (by omega) (by omega)
    have o5 : bits .and .u32 (n % 4294967296) 32767 = n % 32768 := by rw [and32767 _ (by omega) (by omega)]; omega
    have o4 := or_add (op * 134217728 + d * 8388608 + a * 524288 + b * 32768) (n % 32768) (((op * 16 + d) * 16 + a) * 16 + b) 15 (by omega) (by omega) (by omega) (by omega) (by omega)
    go_enter Try.func31, Try.ntmps31
    go_wp2_with fail
    refine (CK _).mono ?_
    rintro e w1 ⟨rfl, hw⟩
    have c0 : w1.cell? ⟨w.heap.size, 0, none⟩ = some (.int .i8 op) := by rw [hw]; simp [go_sem]
    have c1 : w1.cell? ⟨w.heap.size, 1, none⟩ = some (.int .i8 d) := by rw [hw]; simp [go_sem]
    have c2 : w1.cell? ⟨w.heap.size, 2, none⟩ = some (.int .i8 a) := by rw [hw]; simp [go_sem]
    have c3 : w1.cell? ⟨w.heap.size, 3, none⟩ = some (.int .i8 b) := by rw [hw]; simp [go_sem]
    have c4 : w1.cell? ⟨w.heap.size, 4, none⟩ = some (.int .i64 n) := by rw [hw]; simp [go_sem]
    have B1 : Below w.heap.size w w1.drew := by rw [hw]; exact (bel_alloc (Below.refl _ _) _).drew
    clear hw CK
    go_wp2_with fail
    go_region_held3 (fun W => W.cell? ⟨w.heap.size, 0, none⟩ = some (.int .i8 op) ∧ W.cell? ⟨w.heap.size, 1, none⟩ = some (.int .i8 d) ∧ W.cell? ⟨w.heap.size, 2, none⟩ = some (.int .i8 a) ∧ W.cell? ⟨w.heap.size, 3, none⟩ = some (.int .i8 b) ∧ W.cell? ⟨w.heap.size, 4, none⟩ = some (.int .i64 n) ∧ Below w.heap.size w W) (first | (refine ⟨cell_keep hb ?_, cell_keep hb ?_, cell_keep hb ?_, cell_keep hb ?_, cell_keep hb ?_, bel_trans ?_ hb⟩ <;> (simp [*]; done)) | (simp [*]; done))
      (first
        | (go_at_call 35; refine (shapes_any _).mono ?_; rintro e w4 ⟨rfl, hb⟩)
        | (go_at_call 36; refine (CA _).mono ?_; rintro e w4 ⟨rfl, hb⟩))
    rename_i hS
    obtain ⟨s0, s1, s2, s3, s4, sB⟩ := hS
    have HB : Hid (Below w.heap.size w _) := sB
    clear sB CA hX c0 c1 c2 c3 c4 B1
    go_wp2
    go_ret2
    exact ⟨ret2 (by rw [HE.out.1]; rfl) HE.out.2.symm, HB.out⟩

theorem isaencode_any (op d a b n : Int) (h8 : op ≤ 127) (w : World) : Calls Try.prog 31 #[.agg #[.int .i8 op, .int .i8 d, .int .i8 a, .int .i8 b, .int .i64 n]] w fun e w' => e = .returned (.tuple #[.int .u32 (encV op d a b n), .int .i64 (encE op d a b n)]) ∧ Below w.heap.size w w' := by
  by_cases hr : 0 ≤ op ∧ op ≤ 21
  · cases hi : insOK op d a b n
    · exact encNo op d a b n hr.1 hr.2 hi w
    · exact encYes op d a b n hr.1 hr.2 hi w
  · exact encOut op d a b n h8 hr w



end Go.Proofs.Ytdlcejpfjlpclaa

namespace Go.Proofs.Ytdlcejpfjlpclaa
open Go.RowKit

/-- N as the program reads it: by its highest bit. -/
def sN (v : Int) : Int := if 16383 < v % 32768 then v % 32768 - 32768 else v % 32768
theorem sN_num0 (n p : Bool) (r : Int) (h0 : 0 ≤ r) (h1 : r < 32768) : numOK n p (if 16383 < r then r - 32768 else r) = numOK n p (if n && !p && decide (16384 ≤ r) then r - 32768 else r) := by
  by_cases h : 16383 < r
  · have h' : 16384 ≤ r := by omega
    cases n <;> cases p <;> (rw [Bool.eq_iff_iff]; simp [numOK, h, h']; try omega)
  · have h' : ¬ 16384 ≤ r := by omega
    cases n <;> cases p <;> simp [numOK, h, h']
theorem sN_eq0 (n p : Bool) (r : Int) (h0 : 0 ≤ r) (h1 : r < 32768) (hn : numOK n p (if n && !p && decide (16384 ≤ r) then r - 32768 else r) = true) : (if 16383 < r then r - 32768 else r) = (if n && !p && decide (16384 ≤ r) then r - 32768 else r) := by
  by_cases h : 16383 < r
  · have h' : 16384 ≤ r := by omega
    cases n <;> cases p <;> simp [numOK, h, h'] at hn ⊢ <;> omega
  · have h' : ¬ 16384 ≤ r := by omega
    cases n <;> cases p <;> simp [h, h']
theorem ins_sN (v : Int) : insOK (wOp v) (wD v) (wA v) (wB v) (sN v) = insOK (wOp v) (wD v) (wA v) (wB v) (wN v) := by
  unfold insOK
  rw [show numOK (hN (wOp v)) (hP (wOp v)) (sN v) = numOK (hN (wOp v)) (hP (wOp v)) (wN v) from sN_num0 _ _ (v % 32768) (by omega) (by omega)]
theorem isIns_sN {v : Int} (h : isIns v = true) : sN v = wN v := by
  unfold isIns insOK at h
  simp only [Bool.and_eq_true] at h
  exact sN_eq0 _ _ (v % 32768) (by omega) (by omega) h.2.2
theorem encS_no {v : Int} (h0 : 0 ≤ v) (h : isIns v = false) : encV (wOp v) (wD v) (wA v) (wB v) (sN v) = 0 ∧ (encE (wOp v) (wD v) (wA v) (wB v) (sN v) = 10 ∨ encE (wOp v) (wD v) (wA v) (wB v) (sN v) = 11) := by
  unfold isIns at h
  have hop : 0 ≤ wOp v := by unfold wOp; omega
  unfold encV encE
  by_cases hb : wOp v < 0 ∨ 21 < wOp v
  · rw [if_pos hb, if_pos hb]; exact ⟨rfl, Or.inl rfl⟩
  · rw [if_neg hb, if_neg hb]
    have hle : wOp v ≤ 21 := by omega
    rw [decide_eq_true hle, Bool.true_and] at h
    rw [ins_sN, h]; exact ⟨rfl, Or.inr rfl⟩

set_option maxRecDepth 100000 in
set_option maxHeartbeats 1000000 in
theorem decYes (v : Int) (h0 : 0 ≤ v) (h1 : v < 4294967296) (hI : isIns v = true) (w : World) : Calls Try.prog 20 #[.int .u32 v] w fun e w' => e = .returned (.agg #[.int .i8 (dOp v), .int .i8 (dD v), .int .i8 (dA v), .int .i8 (dB v), .int .i64 (dN v)]) ∧ Below w.heap.size w w' := by
    have m1 : bits .and .u32 v 125829120 = v / 8388608 % 16 * 8388608 := mask_mid v 23 125829120 (by decide) (by decide) h0 h1
    have m2 : bits .and .u32 v 7864320 = v / 524288 % 16 * 524288 := mask_mid v 19 7864320 (by decide) (by decide) h0 h1
    have m3 : bits .and .u32 v 491520 = v / 32768 % 16 * 32768 := mask_mid v 15 491520 (by decide) (by decide) h0 h1
    have m4 := and32767 v h0 h1
    have CS : ∀ wx : World, Calls Try.prog 30 #[.int .u32 (v % 32768)] wx fun e w' => e = .returned (.int .i64 (wN v)) ∧ w' = wx := fun wx => by
      have h := signed_any (v % 32768) (by omega) (by omega) wx
      rw [← isIns_sN hI]; exact h
    have CE : ∀ wx : World, Calls Try.prog 31 #[.agg #[.int .i8 (v / 134217728), .int .i8 (v / 8388608 % 16), .int .i8 (v / 524288 % 16), .int .i8 (v / 32768 % 16), .int .i64 (wN v)]] wx fun e w' => e = .returned (.tuple #[.int .u32 v, .int .i64 0]) ∧ Below wx.heap.size wx w' := fun wx => by
      have h := isaencode_any (wOp v) (wD v) (wA v) (wB v) (wN v) (by unfold wOp; omega) wx
      rw [(enc_yes h0 h1 hI).1, (enc_yes h0 h1 hI).2] at h
      exact h
    have HI : Hid (isIns v = true) := hI
    clear hI
    go_enter Try.func20, Try.ntmps20
    go_wp2_with fail
    refine (CS _).mono ?_
    rintro e w1 ⟨rfl, rfl⟩
    clear m1 m2 m3 m4 CS
    go_wp2_with fail
    refine (CE _).mono ?_
    rintro e w2 ⟨rfl, hb2⟩
    clear CE
    have z0 : w2.cell? ⟨w.heap.size, 0, none⟩ = some (.int .i8 0) := cell_keep hb2 (by simp [go_sem])
    have y0 : w2.frozen? ⟨w.heap.size, 0, none⟩ = false := frozen_keep hb2 (v := .int .i8 0) (by simp [go_sem]) (by simp [go_sem])
    have x0 : w2.cell? ⟨w.heap.size + 1, 0, none⟩ = some (.int .i8 (v / 134217728)) := cell_keep hb2 (by simp [go_sem])
    have z1 : w2.cell? ⟨w.heap.size, 1, none⟩ = some (.int .i8 0) := cell_keep hb2 (by simp [go_sem])
    have y1 : w2.frozen? ⟨w.heap.size, 1, none⟩ = false := frozen_keep hb2 (v := .int .i8 0) (by simp [go_sem]) (by simp [go_sem])
    have x1 : w2.cell? ⟨w.heap.size + 1, 1, none⟩ = some (.int .i8 (v / 8388608 % 16)) := cell_keep hb2 (by simp [go_sem])
    have z2 : w2.cell? ⟨w.heap.size, 2, none⟩ = some (.int .i8 0) := cell_keep hb2 (by simp [go_sem])
    have y2 : w2.frozen? ⟨w.heap.size, 2, none⟩ = false := frozen_keep hb2 (v := .int .i8 0) (by simp [go_sem]) (by simp [go_sem])
    have x2 : w2.cell? ⟨w.heap.size + 1, 2, none⟩ = some (.int .i8 (v / 524288 % 16)) := cell_keep hb2 (by simp [go_sem])
    have z3 : w2.cell? ⟨w.heap.size, 3, none⟩ = some (.int .i8 0) := cell_keep hb2 (by simp [go_sem])
    have y3 : w2.frozen? ⟨w.heap.size, 3, none⟩ = false := frozen_keep hb2 (v := .int .i8 0) (by simp [go_sem]) (by simp [go_sem])
    have x3 : w2.cell? ⟨w.heap.size + 1, 3, none⟩ = some (.int .i8 (v / 32768 % 16)) := cell_keep hb2 (by simp [go_sem])
    have z4 : w2.cell? ⟨w.heap.size, 4, none⟩ = some (.int .i64 0) := cell_keep hb2 (by simp [go_sem])
    have y4 : w2.frozen? ⟨w.heap.size, 4, none⟩ = false := frozen_keep hb2 (v := .int .i64 0) (by simp [go_sem]) (by simp [go_sem])
    have x4 : w2.cell? ⟨w.heap.size + 1, 4, none⟩ = some (.int .i64 (wN v)) := cell_keep hb2 (by simp [go_sem])
    have HB2 : Hid (Below w.heap.size w w2) := bel_trans (bel_alloc (bel_alloc (Below.refl _ _) _) _) hb2
    clear hb2
    go_wp2
    exact bodyPost_ret (v := .agg #[.int .i8 (v / 134217728), .int .i8 (v / 8388608 % 16), .int .i8 (v / 524288 % 16), .int .i8 (v / 32768 % 16), .int .i64 (wN v)]) (by simp [results, Try.results20, go_sem, z0, z1, z2, z3, z4]) rfl ⟨dec_yes HI.out, ((((HB2.out.setCell (Nat.le_refl _) _).setCell (Nat.le_refl _) _).setCell (Nat.le_refl _) _).setCell (Nat.le_refl _) _).setCell (Nat.le_refl _) _⟩

set_option maxRecDepth 100000 in
set_option maxHeartbeats 1000000 in
theorem decNo (v : Int) (h0 : 0 ≤ v) (h1 : v < 4294967296) (hI : isIns v = false) (w : World) : Calls Try.prog 20 #[.int .u32 v] w fun e w' => e = .returned (.agg #[.int .i8 (dOp v), .int .i8 (dD v), .int .i8 (dA v), .int .i8 (dB v), .int .i64 (dN v)]) ∧ Below w.heap.size w w' := by
    have m1 : bits .and .u32 v 125829120 = v / 8388608 % 16 * 8388608 := mask_mid v 23 125829120 (by decide) (by decide) h0 h1
    have m2 : bits .and .u32 v 7864320 = v / 524288 % 16 * 524288 := mask_mid v 19 7864320 (by decide) (by decide) h0 h1
    have m3 : bits .and .u32 v 491520 = v / 32768 % 16 * 32768 := mask_mid v 15 491520 (by decide) (by decide) h0 h1
    have m4 := and32767 v h0 h1
    have CS : ∀ wx : World, Calls Try.prog 30 #[.int .u32 (v % 32768)] wx fun e w' => e = .returned (.int .i64 (sN v)) ∧ w' = wx := fun wx => signed_any (v % 32768) (by omega) (by omega) wx
    obtain ⟨E, hE, CE⟩ : ∃ E : Int, (E == 0) = false ∧ ∀ wx : World, Calls Try.prog 31 #[.agg #[.int .i8 (v / 134217728), .int .i8 (v / 8388608 % 16), .int .i8 (v / 524288 % 16), .int .i8 (v / 32768 % 16), .int .i64 (sN v)]] wx fun e w' => e = .returned (.tuple #[.int .u32 0, .int .i64 E]) ∧ Below wx.heap.size wx w' := by
      obtain ⟨e1, e2⟩ := encS_no h0 hI
      refine ⟨encE (wOp v) (wD v) (wA v) (wB v) (sN v), by rcases e2 with e2 | e2 <;> (rw [e2]; rfl), fun wx => ?_⟩
      have h := isaencode_any (wOp v) (wD v) (wA v) (wB v) (sN v) (by unfold wOp; omega) wx
      rw [e1] at h
      exact h
    have HI : Hid (isIns v = false) := hI
    clear hI
    go_enter Try.func20, Try.ntmps20
    go_wp2_with fail
    refine (CS _).mono ?_
    rintro e w1 ⟨rfl, rfl⟩
    clear m1 m2 m3 m4 CS
    go_wp2_with fail
    refine (CE _).mono ?_
    rintro e w2 ⟨rfl, hb2⟩
    clear CE
    have z0 : w2.cell? ⟨w.heap.size, 0, none⟩ = some (.int .i8 0) := cell_keep hb2 (by simp [go_sem])
    have y0 : w2.frozen? ⟨w.heap.size, 0, none⟩ = false := frozen_keep hb2 (v := .int .i8 0) (by simp [go_sem]) (by simp [go_sem])
    have x0 : w2.cell? ⟨w.heap.size + 1, 0, none⟩ = some (.int .i8 (v / 134217728)) := cell_keep hb2 (by simp [go_sem])
    have z1 : w2.cell? ⟨w.heap.size, 1, none⟩ = some (.int .i8 0) := cell_keep hb2 (by simp [go_sem])
    have y1 : w2.frozen? ⟨w.heap.size, 1, none⟩ = false := frozen_keep hb2 (v := .int .i8 0) (by simp [go_sem]) (by simp [go_sem])
    have x1 : w2.cell? ⟨w.heap.size + 1, 1, none⟩ = some (.int .i8 (v / 8388608 % 16)) := cell_keep hb2 (by simp [go_sem])
    have z2 : w2.cell? ⟨w.heap.size, 2, none⟩ = some (.int .i8 0) := cell_keep hb2 (by simp [go_sem])
    have y2 : w2.frozen? ⟨w.heap.size, 2, none⟩ = false := frozen_keep hb2 (v := .int .i8 0) (by simp [go_sem]) (by simp [go_sem])
    have x2 : w2.cell? ⟨w.heap.size + 1, 2, none⟩ = some (.int .i8 (v / 524288 % 16)) := cell_keep hb2 (by simp [go_sem])
    have z3 : w2.cell? ⟨w.heap.size, 3, none⟩ = some (.int .i8 0) := cell_keep hb2 (by simp [go_sem])
    have y3 : w2.frozen? ⟨w.heap.size, 3, none⟩ = false := frozen_keep hb2 (v := .int .i8 0) (by simp [go_sem]) (by simp [go_sem])
    have x3 : w2.cell? ⟨w.heap.size + 1, 3, none⟩ = some (.int .i8 (v / 32768 % 16)) := cell_keep hb2 (by simp [go_sem])
    have z4 : w2.cell? ⟨w.heap.size, 4, none⟩ = some (.int .i64 0) := cell_keep hb2 (by simp [go_sem])
    have y4 : w2.frozen? ⟨w.heap.size, 4, none⟩ = false := frozen_keep hb2 (v := .int .i64 0) (by simp [go_sem]) (by simp [go_sem])
    have x4 : w2.cell? ⟨w.heap.size + 1, 4, none⟩ = some (.int .i64 (sN v)) := cell_keep hb2 (by simp [go_sem])
    have HB2 : Hid (Below w.heap.size w w2) := bel_trans (bel_alloc (bel_alloc (Below.refl _ _) _) _) hb2
    clear hb2
    go_wp2
    exact bodyPost_ret (v := .agg #[.int .i8 (-1), .int .i8 0, .int .i8 0, .int .i8 0, .int .i64 v]) (by simp [results, Try.results20, go_sem, z0, z1, z2, z3, z4]) rfl ⟨dec_no HI.out, ((((HB2.out.setCell (Nat.le_refl _) _).setCell (Nat.le_refl _) _).setCell (Nat.le_refl _) _).setCell (Nat.le_refl _) _).setCell (Nat.le_refl _) _⟩

theorem isadecode_any (v : Int) (h0 : 0 ≤ v) (h1 : v < 4294967296) (w : World) : Calls Try.prog 20 #[.int .u32 v] w fun e w' => e = .returned (.agg #[.int .i8 (dOp v), .int .i8 (dD v), .int .i8 (dA v), .int .i8 (dB v), .int .i64 (dN v)]) ∧ Below w.heap.size w w' := by
  cases hI : isIns v
  · exact decNo v h0 h1 hI w
  · exact decYes v h0 h1 hI w



end Go.Proofs.Ytdlcejpfjlpclaa

namespace Go.Proofs.Ytdlcejpfjlpclaa
open Go.RowKit

/-- What a step gives up with. -/
def stopM (f : Int) : Ending := .panicked [{ v := .iface 65 (.int .i8 f), recovered := false }]
section
variable {w : World} {base P : Nat} {s : Loc} {m : Mach}
theorem made_yes (h : PAt w base P s m) (hm : Fine m) : Calls Try.prog 22 #[.pointer (some ⟨P, 0, none⟩)] w fun e w' => e = .returned (.bool true) ∧ w' = w := by
  obtain ⟨c0, -⟩ := h.cells hm.sixteen
  have hl := hm.some
  go_enter Try.func22, Try.ntmps22
  go_wp2
  go_ret
  exact ⟨rfl, rfl⟩
theorem status_yes (h : PAt w base P s m) (hm : Fine m) : Calls Try.prog 18 #[.pointer (some ⟨P, 0, none⟩)] w fun e w' => e = .returned (.int .i8 m.status) ∧ w' = w := by
  have C := made_yes h hm
  obtain ⟨c0, c1, c34, c35, c36, c37, c38, c39⟩ := h.cells hm.sixteen
  clear h
  go_enter Try.func18, Try.ntmps18
  go_wp2_with fail
  refine C.mono ?_
  rintro e w1 ⟨rfl, rfl⟩
  go_wp2
  go_ret
  exact ⟨rfl, rfl⟩
theorem at_yes (h : PAt w base P s m) (hm : Fine m) : Calls Try.prog 9 #[.pointer (some ⟨P, 0, none⟩)] w fun e w' => e = .returned (.int .i64 m.pc) ∧ w' = w := by
  have C := made_yes h hm
  obtain ⟨c0, c1, c34, c35, c36, c37, c38, c39⟩ := h.cells hm.sixteen
  clear h
  go_enter Try.func9, Try.ntmps9
  go_wp2_with fail
  refine C.mono ?_
  rintro e w1 ⟨rfl, rfl⟩
  go_wp2
  go_ret
  exact ⟨rfl, rfl⟩
theorem steps_yes (h : PAt w base P s m) (hm : Fine m) : Calls Try.prog 10 #[.pointer (some ⟨P, 0, none⟩)] w fun e w' => e = .returned (.int .i64 m.steps) ∧ w' = w := by
  have C := made_yes h hm
  obtain ⟨c0, c1, c34, c35, c36, c37, c38, c39⟩ := h.cells hm.sixteen
  clear h
  go_enter Try.func10, Try.ntmps10
  go_wp2_with fail
  refine C.mono ?_
  rintro e w1 ⟨rfl, rfl⟩
  go_wp2
  go_ret
  exact ⟨rfl, rfl⟩
theorem taken_yes (h : PAt w base P s m) (hm : Fine m) : Calls Try.prog 11 #[.pointer (some ⟨P, 0, none⟩)] w fun e w' => e = .returned (.int .i64 m.taken) ∧ w' = w := by
  have C := made_yes h hm
  obtain ⟨c0, c1, c34, c35, c36, c37, c38, c39⟩ := h.cells hm.sixteen
  clear h
  go_enter Try.func11, Try.ntmps11
  go_wp2_with fail
  refine C.mono ?_
  rintro e w1 ⟨rfl, rfl⟩
  go_wp2
  go_ret
  exact ⟨rfl, rfl⟩
theorem register_yes (h : PAt w base P s m) (hm : Fine m) (r : Nat) (hr : r < 16) : Calls Try.prog 17 #[.pointer (some ⟨P, 0, none⟩), .int .i64 r] w fun e w' => e = .returned (.tuple #[.agg #[.int .i64 (wV m.regs r), .bool (wC m.regs r)], .int .i64 0]) ∧ Below w.heap.size w w' := by
  have C := made_yes (h.alloc (.cells #[.int .i64 0, .bool false] 47)) hm
  obtain ⟨d0, d1⟩ := h.reg hm.sixteen hr
  have hP := h.lt
  clear h
  go_enter Try.func17, Try.ntmps17
  go_wp2_with fail
  refine C.mono ?_
  rintro e w1 ⟨rfl, rfl⟩
  go_wp2
  refine bodyPost_ret (v := .tuple #[.agg #[.int .i64 (wV m.regs r), .bool (wC m.regs r)], .int .i64 0]) (by simp [results, Try.results17, go_sem]) rfl ⟨rfl, ?_⟩
  exact lb_alloc (Below.refl _ _) _
theorem register_no (h : PAt w base P s m) (hm : Fine m) (r : Int) (hr : r < 0 ∨ 16 ≤ r) : Calls Try.prog 17 #[.pointer (some ⟨P, 0, none⟩), .int .i64 r] w fun e w' => e = .returned (.tuple #[.agg #[.int .i64 0, .bool false], .int .i64 1]) ∧ Below w.heap.size w w' := by
  have C := made_yes (h.alloc (.cells #[.int .i64 0, .bool false] 47)) hm
  clear h
  rcases hr with hr | hr
  · go_enter Try.func17, Try.ntmps17
    go_wp2_with fail
    refine C.mono ?_
    rintro e w1 ⟨rfl, rfl⟩
    go_wp2
    refine bodyPost_ret (v := .tuple #[.agg #[.int .i64 0, .bool false], .int .i64 1]) (by simp [results, Try.results17, go_sem]) rfl ⟨rfl, ?_⟩
    exact lb_alloc (Below.refl _ _) _
  · have hr2 : ¬ r < 0 := by omega
    go_enter Try.func17, Try.ntmps17
    go_wp2_with fail
    refine C.mono ?_
    rintro e w1 ⟨rfl, rfl⟩
    go_wp2
    refine bodyPost_ret (v := .tuple #[.agg #[.int .i64 0, .bool false], .int .i64 1]) (by simp [results, Try.results17, go_sem]) rfl ⟨rfl, ?_⟩
    exact lb_alloc (Below.refl _ _) _
theorem number_no (h : PAt w base P s m) (hm : Fine m) (r : Nat) (hr : r < 16) (hc : wC m.regs r = true) : Calls Try.prog 59 #[.pointer (some ⟨P, 0, none⟩), .int .i8 r] w fun e w' => e = stopM 4 ∧ Below w.heap.size w w' := by
  obtain ⟨d0, d1⟩ := h.reg hm.sixteen hr
  rw [hc] at d1
  clear h
  go_enter Try.func59, Try.ntmps59
  go_wp2
  exact ⟨rfl, rfl, lb_alloc (Below.refl _ _) _⟩
theorem number_yes (h : PAt w base P s m) (hm : Fine m) (r : Nat) (hr : r < 16) (hc : wC m.regs r = false) : Calls Try.prog 59 #[.pointer (some ⟨P, 0, none⟩), .int .i8 r] w fun e w' => e = .returned (.int .i64 (wV m.regs r)) ∧ Below w.heap.size w w' := by
  obtain ⟨d0, d1⟩ := h.reg hm.sixteen hr
  rw [hc] at d1
  clear h
  go_enter Try.func59, Try.ntmps59
  go_wp2
  go_ret
  exact ⟨rfl, lb_alloc (Below.refl _ _) _⟩
theorem goal_no (h : PAt w base P s m) (hm : Fine m) (r : Nat) (hr : r < 16) (hc : wC m.regs r = false) : Calls Try.prog 61 #[.pointer (some ⟨P, 0, none⟩), .int .i8 r] w fun e w' => e = stopM 4 ∧ Below w.heap.size w w' := by
  obtain ⟨d0, d1⟩ := h.reg hm.sixteen hr
  rw [hc] at d1
  clear h
  go_enter Try.func61, Try.ntmps61
  go_wp2
  exact ⟨rfl, rfl, lb_alloc (Below.refl _ _) _⟩
theorem goal_yes (h : PAt w base P s m) (hm : Fine m) (r : Nat) (hr : r < 16) (hc : wC m.regs r = true) : Calls Try.prog 61 #[.pointer (some ⟨P, 0, none⟩), .int .i8 r] w fun e w' => e = .returned (.int .i64 (wV m.regs r)) ∧ Below w.heap.size w w' := by
  obtain ⟨d0, d1⟩ := h.reg hm.sixteen hr
  rw [hc] at d1
  clear h
  go_enter Try.func61, Try.ntmps61
  go_wp2
  go_ret
  exact ⟨rfl, lb_alloc (Below.refl _ _) _⟩
end
theorem raise_yes (w : World) : Calls Try.prog 57 #[.int .i8 0] w fun e w' => e = .returned (.tuple #[]) ∧ w' = w := by
  go_enter Try.func57, Try.ntmps57
  go_wp2
  go_end0
  exact ⟨rfl, rfl⟩
theorem raise_no (f : Int) (hf : ¬ f = 0) (w : World) : Calls Try.prog 57 #[.int .i8 f] w fun e w' => e = stopM f ∧ w' = w := by
  have hf' : (f == 0) = false := by simpa using hf
  go_enter Try.func57, Try.ntmps57
  go_wp2
  exact ⟨rfl, rfl, rfl⟩
section
variable {w : World} {base P : Nat} {s : Loc} {m : Mach}
theorem set_mid {hd W tl : List Value} {n i : Nat} (v : Value) (hn : n = hd.length + i) (hi : i < W.length) : (hd ++ (W ++ tl)).set n v = hd ++ (W.set i v ++ tl) := by
  subst hn
  rw [List.set_append_right _ _ (by omega), show hd.length + i - hd.length = i by omega, List.set_append_left _ _ hi]
theorem set_tail {hd W tl : List Value} {n i : Nat} (v : Value) (hn : n = hd.length + W.length + i) : (hd ++ (W ++ tl)).set n v = hd ++ (W ++ tl.set i v) := by
  subst hn
  rw [List.set_append_right _ _ (by omega), List.set_append_right _ _ (by omega), show hd.length + W.length + i - hd.length - W.length = i by omega]
theorem boxM_put (s : Loc) (m : Mach) (h : m.regs.length = 16) {k : Nat} (hk : k < 16) (x : Wd) : ((boxM s m).setIfInBounds (2 + k * 2) (.int .i64 x.1)).setIfInBounds (2 + k * 2 + 1) (.bool x.2) = boxM s (putM m k x) := by
  have hl := wVals_len m.regs
  have e := wVals_set (l := m.regs) (k := k) x
  simp only [boxM, List.setIfInBounds_toArray]
  rw [set_mid (i := k * 2) _ (by simp [hdM]) (by omega), set_mid (i := k * 2 + 1) _ (by simp [hdM]; omega) (by simp; omega), e]
  simp [putM, hdM, tlM]
theorem boxM_at (s : Loc) (m : Mach) (h : m.regs.length = 16) (k : Nat) (v : Value) : (boxM s m).setIfInBounds (34 + k) v = (hdM s m ++ (wVals m.regs ++ (tlM s m).set k v)).toArray := by
  have hl := wVals_len m.regs
  simp only [boxM, List.setIfInBounds_toArray]
  rw [set_tail (i := k) _ (by simp [hdM]; omega)]
theorem own_ne {e t : TypeId} {size n b : Nat} {v : Value} {xs : List Value} {cs : Array Value} (h : w.ownsRow base e size v n xs) (hv : v.ownBlock = some b) (hp : w.heap[P]? = some (.cells cs t (0, 0))) (ne : e ≠ t) : b ≠ P := by
  rintro rfl
  rcases h.2 with ⟨rfl, -⟩ | ⟨g, cap, cur, rfl, -, hg, -⟩
  · cases hv
  · simp only [Value.ownBlock, Option.some.injEq] at hv
    subst hv
    rw [hg] at hp
    cases hp
    exact ne rfl
/-- The box alone is other. -/
theorem PAt.rebox {w' : World} {m' : Mach} (h : PAt w base P s m) (hb : w'.heap[P]? = some (.cells (boxM s m') 50 (0, 0))) (ho : ∀ b, b ≠ P → w'.heap[b]? = w.heap[b]?) (e1 : m'.text = m.text) (e2 : m'.tape = m.tape) (e3 : m'.mem = m.mem) (e4 : m'.ports = m.ports) : PAt w' base P s m' :=
  ⟨hb, h.bP, by rw [e1]; exact own_stay h.text fun b e => ho b (own_ne h.text e h.box (by decide)), by rw [e2]; exact own_stay h.tape fun b e => ho b (own_ne h.tape e h.box (by decide)), by rw [e3]; exact own_stay h.mem fun b e => ho b (own_ne h.mem e h.box (by decide)), by rw [e4]; exact own_stay h.ports fun b e => ho b (own_ne h.ports e h.box (by decide))⟩
theorem PAt.put (h : PAt w base P s m) (hm : m.regs.length = 16) {k : Nat} (hk : k < 16) (x : Wd) : PAt ((w.setCell ⟨P, 2 + k * 2, none⟩ (.int .i64 x.1)).setCell ⟨P, 2 + k * 2 + 1, none⟩ (.bool x.2)) base P s (putM m k x) := by
  refine h.rebox ?_ (fun b hb => (Below.heap_setCell _ _ _ _ hb).trans (Below.heap_setCell _ _ _ _ hb)) rfl rfl rfl rfl
  rw [← boxM_put s m hm hk x]
  exact box_set (box_set h.box _ _) _ _
theorem Upto.set {F : Nat → Prop} {a b : World} (h : Upto F a b) {B : Nat} (hB : F B ∨ a.heap.size ≤ B) (i : Nat) (v : Value) : Upto F a (b.setCell ⟨B, i, none⟩ v) :=
  ⟨h.os, h.tape, h.output, by simpa [go_sem] using h.size, fun x hx hn => (Below.heap_setCell _ _ _ _ (fun e => by subst e; rcases hB with f | f; exact hn f; omega)).trans (h.block x hx hn)⟩
theorem put_any (h : PAt w base P s m) (hm : Fine m) (r : Nat) (hr : r < 16) (x : Wd) : Calls Try.prog 55 #[.pointer (some ⟨P, 0, none⟩), .int .i8 r, .agg #[.int .i64 x.1, .bool x.2]] w fun e w' => e = .returned (.int .i64 ((m.pc : Int) + 1)) ∧ PAt w' base P s (putM m r x) ∧ Upto (Foot s P) w w' := by
  have hq := ((h.put hm.sixteen hr x).alloc (.cells #[.int .i64 x.1, .bool x.2] 47)).drew
  obtain ⟨d0, d1⟩ := h.reg hm.sixteen hr
  obtain ⟨c0, c1, c34, c35, c36, c37, c38, c39⟩ := h.cells hm.sixteen
  have f0 := h.fro (2 + r * 2)
  have f1 := h.fro (2 + r * 2 + 1)
  have hP := h.lt
  have hpc := hm.pc
  clear h
  go_enter Try.func55, Try.ntmps55
  go_wp2_with fail
  go_region
  all_goals (
    go_wp2
    go_ret
    exact ⟨rfl, hq, ((((Upto.refl _ _).set (Or.inl (Or.inl rfl)) _ _).set (Or.inl (Or.inl rfl)) _ _).alloc _).drew⟩)
/-- Single cells behind the registers. -/
theorem PAt.pc (h : PAt w base P s m) (hm : m.regs.length = 16) (k : Nat) : PAt (w.setCell ⟨P, 36, none⟩ (.int .i64 k)) base P s { m with pc := k } := by
  refine h.rebox ?_ (fun b hb => Below.heap_setCell _ _ _ _ hb) rfl rfl rfl rfl
  rw [box_set h.box, show 36 = 34 + 2 from rfl, boxM_at s m hm]
  rfl
theorem PAt.steps (h : PAt w base P s m) (hm : m.regs.length = 16) (k : Nat) : PAt (w.setCell ⟨P, 37, none⟩ (.int .i64 k)) base P s { m with steps := k } := by
  refine h.rebox ?_ (fun b hb => Below.heap_setCell _ _ _ _ hb) rfl rfl rfl rfl
  rw [box_set h.box, show 37 = 34 + 3 from rfl, boxM_at s m hm]
  rfl
theorem PAt.taken (h : PAt w base P s m) (hm : m.regs.length = 16) (k : Nat) : PAt (w.setCell ⟨P, 38, none⟩ (.int .i64 k)) base P s { m with taken := k } := by
  refine h.rebox ?_ (fun b hb => Below.heap_setCell _ _ _ _ hb) rfl rfl rfl rfl
  rw [box_set h.box, show 38 = 34 + 4 from rfl, boxM_at s m hm]
  rfl
theorem PAt.status (h : PAt w base P s m) (hm : m.regs.length = 16) (k : Int) : PAt (w.setCell ⟨P, 39, none⟩ (.int .i8 k)) base P s { m with status := k } := by
  refine h.rebox ?_ (fun b hb => Below.heap_setCell _ _ _ _ hb) rfl rfl rfl rfl
  rw [box_set h.box, show 39 = 34 + 5 from rfl, boxM_at s m hm]
  rfl
end

end Go.Proofs.Ytdlcejpfjlpclaa

namespace Go.Proofs.Ytdlcejpfjlpclaa
open Go.RowKit

/-- A deed: it gives up, and nothing is other; or it tells the next place, and the machine is as r says. -/
def DidP (w : World) (base P : Nat) (s : Loc) (_m : Mach) (r : Did) (e : Ending) (w' : World) : Prop :=
  (¬ r.err = 0 ∧ e = stopM r.err ∧ Below w.heap.size w w') ∨ (r.err = 0 ∧ e = .returned (.int .i64 r.to) ∧ ∃ s', PAt w' base P s' r.m ∧ Upto (Foot s P) w w' ∧ ∀ b, Foot s' P b → Foot s P b ∨ w.heap.size ≤ b)
section
variable {w w' : World} {base P : Nat} {s : Loc} {m : Mach}
theorem did_no {f : Int} (hf : ¬ f = 0) (hb : Below w.heap.size w w') : DidP w base P s m (noD m f) (stopM f) w' := .inl ⟨hf, rfl, hb⟩
theorem did_yes {r : Did} {k : Int} (he : r.err = 0) (hk : k = r.to) (h : PAt w' base P s r.m) (hu : Upto (Foot s P) w w') : DidP w base P s m r (.returned (.int .i64 k)) w' := .inr ⟨he, by rw [hk], s, h, hu, fun _ hb => .inl hb⟩
theorem did_put {r : Nat} {x : Wd} {k : Int} (hk : k = (m.pc : Int) + 1) (h : PAt w' base P s (putM m r x)) (hu : Upto (Foot s P) w w') : DidP w base P s m (putD m r x) (.returned (.int .i64 k)) w' := did_yes rfl hk h hu
theorem wrap_pc {k : Nat} (h : k ≤ 16384) : IntKind.i64.wrap ((k : Int) + 1) = (k : Int) + 1 := by
  simp [IntKind.wrap, IntKind.signed, IntKind.bits]; omega
theorem have_wd {G : Prop} {w w1 : World} (p : Nat) (hb : Below w.heap.size w w1) (h : w.cell? ⟨p, 0, none⟩ = some (.int .i64 0) ∧ w.cell? ⟨p, 1, none⟩ = some (.bool false) ∧ w.frozen? ⟨p, 0, none⟩ = false ∧ w.frozen? ⟨p, 1, none⟩ = false) (k : w1.cell? ⟨p, 0, none⟩ = some (.int .i64 0) → w1.cell? ⟨p, 1, none⟩ = some (.bool false) → w1.frozen? ⟨p, 0, none⟩ = false → w1.frozen? ⟨p, 1, none⟩ = false → G) : G :=
  k (lkeep hb h.1) (lkeep hb h.2.1) ((hb.frozen (p := ⟨p, 0, none⟩) (World.block_lt_of_cell? w _ h.1)).trans h.2.2.1) ((hb.frozen (p := ⟨p, 1, none⟩) (World.block_lt_of_cell? w _ h.2.1)).trans h.2.2.2)
theorem lb_new {w w1 : World} {i : Nat} {v : Value} (h : Below w.heap.size w w1) : Below w.heap.size w (w1.setCell ⟨w.heap.size, i, none⟩ v) := h.setCell (p := ⟨w.heap.size, i, none⟩) (Nat.le_refl _) v
/-- The machine's box alone may be other, and of it the lists stand. -/
structure Near (P : Nat) (W0 W : World) : Prop where
  but : But P W0 W
  hdr : W.cell? ⟨P, 34, none⟩ = W0.cell? ⟨P, 34, none⟩
  tap : W.cell? ⟨P, 1, none⟩ = W0.cell? ⟨P, 1, none⟩
  tak : W.cell? ⟨P, 38, none⟩ = W0.cell? ⟨P, 38, none⟩
theorem Near.refl (P : Nat) (W : World) : Near P W W := ⟨But.refl _ _, rfl, rfl, rfl⟩
theorem Near.drew {P : Nat} {W0 W : World} (h : Near P W0 W) : Near P W0 W.drew := ⟨h.but, h.hdr, h.tap, h.tak⟩
theorem Near.trans {P : Nat} {a b c : World} (h : Near P a b) (k : Near P b c) : Near P a c := ⟨h.but.trans k.but, k.hdr.trans h.hdr, k.tap.trans h.tap, k.tak.trans h.tak⟩
theorem Near.below {P : Nat} {a b c : World} (h : Near P a b) (hb : Below b.heap.size b c) (hP : P < b.heap.size) : Near P a c := ⟨h.but.on hb, (hb.cell (p := ⟨P, 34, none⟩) hP).trans h.hdr, (hb.cell (p := ⟨P, 1, none⟩) hP).trans h.tap, (hb.cell (p := ⟨P, 38, none⟩) hP).trans h.tak⟩
theorem Near.box {P B i : Nat} {W0 W : World} {v : Value} (h : Near P W0 W) (hB : B ≠ P) (hc : W0.cell? ⟨B, i, none⟩ = some v) : W.cell? ⟨B, i, none⟩ = some v := h.but.cell (p := ⟨B, i, none⟩) hB hc
theorem Near.up {P : Nat} {W0 W : World} {s : Loc} (h : Near P W0 W) : Upto (Foot s P) W0 W := ⟨h.but.1, h.but.2.1, h.but.2.2.1, h.but.2.2.2.1, fun b hb hn => h.but.2.2.2.2 b hb (fun e => hn (.inl e))⟩
theorem put_near {base P : Nat} {s : Loc} {m : Mach} {w : World} (h : PAt w base P s m) (hm : Fine m) (r : Nat) (hr : r < 16) (x : Wd) : Calls Try.prog 55 #[.pointer (some ⟨P, 0, none⟩), .int .i8 r, .agg #[.int .i64 x.1, .bool x.2]] w fun e w' => e = .returned (.int .i64 ((m.pc : Int) + 1)) ∧ PAt w' base P s (putM m r x) ∧ Near P w w' := by
  have hq := ((h.put hm.sixteen hr x).alloc (.cells #[.int .i64 x.1, .bool x.2] 47)).drew
  obtain ⟨d0, d1⟩ := h.reg hm.sixteen hr
  obtain ⟨c0, c1, c34, c35, c36, c37, c38, c39⟩ := h.cells hm.sixteen
  have f0 := h.fro (2 + r * 2)
  have f1 := h.fro (2 + r * 2 + 1)
  have hP := h.lt
  have hpc := hm.pc
  have HC : Hid (w.cell? ⟨P, 34, none⟩ = some (.slice s.M m.mem.length s.mc) ∧ w.cell? ⟨P, 1, none⟩ = some (.slice s.X m.tape.length s.xc) ∧ w.cell? ⟨P, 38, none⟩ = some (.int .i64 m.taken)) := ⟨c34, c1, c38⟩
  have HN : Hid (But P w ((((w.setCell ⟨P, 2 + r * 2, none⟩ (.int .i64 x.1)).setCell ⟨P, 2 + r * 2 + 1, none⟩ (.bool x.2)).alloc (.cells #[.int .i64 x.1, .bool x.2] 47)).drew)) := (((But.refl P w).set _ _).set _ _).on (Below.drew (lb_alloc (Below.refl _ _) _))
  clear h
  go_enter Try.func55, Try.ntmps55
  go_wp2_with fail
  go_region
  all_goals (
    go_wp2
    go_ret
    obtain ⟨-, k1, k34, -, -, -, k38, -⟩ := hq.cells (m := putM m r x) (by simp [putM, hm.sixteen])
    exact ⟨rfl, hq, ⟨HN.out, k34.trans HC.out.1.symm, k1.trans HC.out.2.1.symm, k38.trans HC.out.2.2.symm⟩⟩)
theorem up_on {F : Nat → Prop} {w1 : World} (hb : Below w.heap.size w w1) (hu : Upto F w1 w') : Upto F w w' := (Upto.of hb).trans hu
end

end Go.Proofs.Ytdlcejpfjlpclaa

namespace Go.Proofs.Ytdlcejpfjlpclaa
open Go.RowKit

section
variable {w : World} {base P : Nat} {s : Loc} {m : Mach}
def AddrP (E V : Int) (w : World) (e : Ending) (w' : World) : Prop := ((E = 0 ∧ e = .returned (.int .i64 V)) ∨ (¬ E = 0 ∧ e = stopM E)) ∧ Below w.heap.size w w'
set_option maxHeartbeats 1000000 in
theorem address_any (h : PAt w base P s m) (hm : Fine m) {op d b n : Int} {j : Nat} (hj : j < 16) : Calls Try.prog 58 #[.pointer (some ⟨P, 0, none⟩), .agg #[.int .i8 op, .int .i8 d, .int .i8 j, .int .i8 b, .int .i64 n]] w (AddrP (aE m j n) (aV m j n) w) := by
  have zj : (0 : Int) ≤ (j : Int) := Int.natCast_nonneg _
  have yj : (j : Int) < 16 := by omega
  obtain ⟨W0, HW⟩ : ∃ W0, Hid (w.alloc (.cells #[.int .i8 op, .int .i8 d, .int .i8 j, .int .i8 b, .int .i64 n] 58) = W0) := ⟨_, rfl⟩
  have x0 : W0.cell? ⟨w.heap.size, 0, none⟩ = some (.int .i8 op) := by rw [← HW.out]; simp [go_sem]
  have x1 : W0.cell? ⟨w.heap.size, 1, none⟩ = some (.int .i8 d) := by rw [← HW.out]; simp [go_sem]
  have x2 : W0.cell? ⟨w.heap.size, 2, none⟩ = some (.int .i8 j) := by rw [← HW.out]; simp [go_sem]
  have x3 : W0.cell? ⟨w.heap.size, 3, none⟩ = some (.int .i8 b) := by rw [← HW.out]; simp [go_sem]
  have x4 : W0.cell? ⟨w.heap.size, 4, none⟩ = some (.int .i64 n) := by rw [← HW.out]; simp [go_sem]
  have h0 : PAt W0 base P s m := by rw [← HW.out]; exact h.alloc _
  have HB0 : Hid (Below w.heap.size w W0) := by unfold Hid; rw [← HW.out]; exact lb_alloc (Below.refl _ _) _
  have hz0 : w.heap.size < W0.heap.size := by rw [← HW.out]; simp
  have hP := h.lt
  have hWW := Below.refl W0.heap.size W0
  obtain ⟨d0, d1⟩ := h0.reg hm.sixteen hj
  have hml := hm.mlen
  obtain ⟨c0, c1, c34, c35, c36, c37, c38, c39⟩ := h0.cells hm.sixteen
  have C1 := addr_any (wV m.regs j) n m.mem.length (wC m.regs j)
  have HE : Hid (addrE (wV m.regs j) n m.mem.length (wC m.regs j) = aE m j n) := rfl
  have HV : Hid (addrV (wV m.regs j) n m.mem.length (wC m.regs j) = aV m j n) := rfl
  rw [HE.out, HV.out] at C1
  clear HE HV
  generalize aV m j n = V at *
  generalize aE m j n = E at *
  go_enter Try.func58, Try.ntmps58
  go_upto_region 1 with fail
  rw [HW.out]
  clear HW
  go_cut [5, 6] (fun x y wx => x = .int .i64 V ∧ y = .int .i8 E ∧ Hid (Below W0.heap.size W0 wx))
  case first =>
    go_region_held3 (fun W => Below W0.heap.size W0 W ∧ W.cell? ⟨w.heap.size, 2, none⟩ = some (.int .i8 j) ∧ W.cell? ⟨w.heap.size, 4, none⟩ = some (.int .i64 n) ∧ W.cell? ⟨P, 2 + j * 2, none⟩ = some (.int .i64 (wV m.regs j)) ∧ W.cell? ⟨P, 2 + j * 2 + 1, none⟩ = some (.bool (wC m.regs j)) ∧ W.cell? ⟨P, 34, none⟩ = some (.slice s.M m.mem.length s.mc))
      (first | (refine ⟨?_, lkeep ?_ x2, lkeep ?_ x4, lkeep ?_ d0, lkeep ?_ d1, lkeep ?_ c34⟩ <;> ((repeat (first | assumption | exact (‹Below _ _ _ ∧ _›).1 | apply Below.drew | apply lb_alloc | apply lb_new | refine lb_trans ?_ hb)); done)))
      (first | (go_at_call 64; refine (C1 _).mono ?_; rintro e w1 ⟨rfl, rfl⟩))

    all_goals (
      rename_i hS
      have sB : Hid _ := hS.1
      clear hS
      go_wp2_with fail
      go_meet
      exact ⟨rfl, rfl, sB⟩)
  case rest =>
    obtain ⟨rfl, rfl, HBc⟩ := hcut
    have HB9 : Hid (Below w.heap.size w wc) := lb_trans HB0.out HBc.out
    clear x0 x1 x2 x3 x4 d0 d1 c0 c1 c34 c35 c36 c37 c38 c39 C1
    by_cases he : E = 0
    · subst he
      have C3 := raise_yes wc
      go_wp2_with (first
        | (go_at_call 57; refine C3.mono ?_; rintro e w1 ⟨rfl, rfl⟩))
      go_ret
      exact ⟨.inl ⟨rfl, rfl⟩, HB9.out⟩
    · have C3 := raise_no E he wc
      go_wp2_with fail
      refine C3.mono ?_
      rintro e w1 ⟨rfl, rfl⟩
      unfold stopM
      go_wp2
      exact ⟨rfl, .inr ⟨he, rfl⟩, HB9.out⟩
end

end Go.Proofs.Ytdlcejpfjlpclaa
