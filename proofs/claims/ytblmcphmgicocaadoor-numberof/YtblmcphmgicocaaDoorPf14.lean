/-
  Decode of package isa, for every word of 32 bits; no other condition. Has of package isa, for every op that is an int8's number. What the program asks of sets of registers; no Go in sight.
-/
import Derived.Test.YtblmcphmgicocaaDoorProg
import Derived.Test.YtblmcphmgicocaaDoorPf13
import Derived.WalkKit
import Derived.WalkSpells
import Derived.WalkLawsBesides
import Derived.RowKit3
import Derived.Below
import Derived.Deep.QuietTactic
import Derived.BigQuiet
import Derived.WalkSmall
import Derived.Laws.Rows
import Derived.Test.YtblmcphmgicocaaDoorPf03
namespace Go.Proofs.YtblmcphmgicocaaDoor
open Go.RowKit

/-- N as the program reads it: by its highest bit. -/
def sN (v : Int) : Int := if 16383 < v % 32768 then v % 32768 - 32768 else v % 32768
theorem sN_num0 (n p : Bool) (r : Int) (h0 : 0 ≤ r) (h1 : r < 32768) : numOK n p (if 16383 < r then r - 32768 else r) = numOK n p (if n && !p && decide (16384 ≤ r) then r - 32768 else r) := by
  by_cases h : 16383 < r
  · have h' : 16384 ≤ r := by omega
    cases n <;> cases p <;> (rw [Bool.eq_iff_iff]; simp [numOK, h, h']; try omega)
  · have h' : ¬ 16384 ≤ r := by omega
    cases n <;> cases p <;> simp [numOK, h, h']
theorem sN_eq0 (n p : Bool) (r : Int) (h0 : 0 ≤ r) (h1 : r < 32768) (hn : numOK n p (if n && !p && decide (16384 ≤ r) then r - 32768 else r) = true) : (if 16383 < r then r - 32768 else r) = (if n && !p && decide (16384 ≤ r) then r - 32768 else r) := by
  by_cases h : 16383 < r
  · have h' : 16384 ≤ r := by omega
    cases n <;> cases p <;> simp [numOK, h, h'] at hn ⊢ <;> omega
  · have h' : ¬ 16384 ≤ r := by omega
    cases n <;> cases p <;> simp [h, h']
theorem ins_sN (v : Int) : insOK (wOp v) (wD v) (wA v) (wB v) (sN v) = insOK (wOp v) (wD v) (wA v) (wB v) (wN v) := by
  unfold insOK
  rw [show numOK (hN (wOp v)) (hP (wOp v)) (sN v) = numOK (hN (wOp v)) (hP (wOp v)) (wN v) from sN_num0 _ _ (v % 32768) (by omega) (by omega)]
theorem isIns_sN {v : Int} (h : isIns v = true) : sN v = wN v := by
  unfold isIns insOK at h
  simp only [Bool.and_eq_true] at h
  exact sN_eq0 _ _ (v % 32768) (by omega) (by omega) h.2.2
theorem encS_no {v : Int} (h0 : 0 ≤ v) (h : isIns v = false) : encV (wOp v) (wD v) (wA v) (wB v) (sN v) = 0 ∧ (encE (wOp v) (wD v) (wA v) (wB v) (sN v) = 10 ∨ encE (wOp v) (wD v) (wA v) (wB v) (sN v) = 11) := by
  unfold isIns at h
  have hop : 0 ≤ wOp v := by unfold wOp; omega
  unfold encV encE
  by_cases hb : wOp v < 0 ∨ 21 < wOp v
  · rw [if_pos hb, if_pos hb]; exact ⟨rfl, Or.inl rfl⟩
  · rw [if_neg hb, if_neg hb]
    have hle : wOp v ≤ 21 := by omega
    rw [decide_eq_true hle, Bool.true_and] at h
    rw [ins_sN, h]; exact ⟨rfl, Or.inr rfl⟩

set_option maxRecDepth 100000 in
set_option maxHeartbeats 1000000 in
theorem decYes (v : Int) (h0 : 0 ≤ v) (h1 : v < 4294967296) (hI : isIns v = true) (w : World) : Calls Tryd.prog 58 #[.int .u32 v] w fun e w' => e = .returned (.agg #[.int .i8 (dOp v), .int .i8 (dD v), .int .i8 (dA v), .int .i8 (dB v), .int .i64 (dN v)]) ∧ Below w.heap.size w w' := by
    have m1 : bits .and .u32 v 125829120 = v / 8388608 % 16 * 8388608 := mask_mid v 23 125829120 (by decide) (by decide) h0 h1
    have m2 : bits .and .u32 v 7864320 = v / 524288 % 16 * 524288 := mask_mid v 19 7864320 (by decide) (by decide) h0 h1
    have m3 : bits .and .u32 v 491520 = v / 32768 % 16 * 32768 := mask_mid v 15 491520 (by decide) (by decide) h0 h1
    have m4 := and32767 v h0 h1
    have CS : ∀ wx : World, Calls Tryd.prog 68 #[.int .u32 (v % 32768)] wx fun e w' => e = .returned (.int .i64 (wN v)) ∧ w' = wx := fun wx => by
      have h := signed_any (v % 32768) (by omega) (by omega) wx
      rw [← isIns_sN hI]; exact h
    have CE : ∀ wx : World, Calls Tryd.prog 69 #[.agg #[.int .i8 (v / 134217728), .int .i8 (v / 8388608 % 16), .int .i8 (v / 524288 % 16), .int .i8 (v / 32768 % 16), .int .i64 (wN v)]] wx fun e w' => e = .returned (.tuple #[.int .u32 v, .int .i64 0]) ∧ Below wx.heap.size wx w' := fun wx => by
      have h := isaencode_any (wOp v) (wD v) (wA v) (wB v) (wN v) (by unfold wOp; omega) wx
      rw [(enc_yes h0 h1 hI).1, (enc_yes h0 h1 hI).2] at h
      exact h
    have HI : Hid (isIns v = true) := hI
    clear hI
    go_enter Tryd.func58, Tryd.ntmps58
    go_wp2_with fail
    refine (CS _).mono ?_
    rintro e w1 ⟨rfl, rfl⟩
    clear m1 m2 m3 m4 CS
    go_wp2_with fail
    refine (CE _).mono ?_
    rintro e w2 ⟨rfl, hb2⟩
    clear CE
    have z0 : w2.cell? ⟨w.heap.size, 0, none⟩ = some (.int .i8 0) := cell_keep hb2 (by simp [go_sem])
    have y0 : w2.frozen? ⟨w.heap.size, 0, none⟩ = false := frozen_keep hb2 (v := .int .i8 0) (by simp [go_sem]) (by simp [go_sem])
    have x0 : w2.cell? ⟨w.heap.size + 1, 0, none⟩ = some (.int .i8 (v / 134217728)) := cell_keep hb2 (by simp [go_sem])
    have z1 : w2.cell? ⟨w.heap.size, 1, none⟩ = some (.int .i8 0) := cell_keep hb2 (by simp [go_sem])
    have y1 : w2.frozen? ⟨w.heap.size, 1, none⟩ = false := frozen_keep hb2 (v := .int .i8 0) (by simp [go_sem]) (by simp [go_sem])
    have x1 : w2.cell? ⟨w.heap.size + 1, 1, none⟩ = some (.int .i8 (v / 8388608 % 16)) := cell_keep hb2 (by simp [go_sem])
    have z2 : w2.cell? ⟨w.heap.size, 2, none⟩ = some (.int .i8 0) := cell_keep hb2 (by simp [go_sem])
    have y2 : w2.frozen? ⟨w.heap.size, 2, none⟩ = false := frozen_keep hb2 (v := .int .i8 0) (by simp [go_sem]) (by simp [go_sem])
    have x2 : w2.cell? ⟨w.heap.size + 1, 2, none⟩ = some (.int .i8 (v / 524288 % 16)) := cell_keep hb2 (by simp [go_sem])
    have z3 : w2.cell? ⟨w.heap.size, 3, none⟩ = some (.int .i8 0) := cell_keep hb2 (by simp [go_sem])
    have y3 : w2.frozen? ⟨w.heap.size, 3, none⟩ = false := frozen_keep hb2 (v := .int .i8 0) (by simp [go_sem]) (by simp [go_sem])
    have x3 : w2.cell? ⟨w.heap.size + 1, 3, none⟩ = some (.int .i8 (v / 32768 % 16)) := cell_keep hb2 (by simp [go_sem])
    have z4 : w2.cell? ⟨w.heap.size, 4, none⟩ = some (.int .i64 0) := cell_keep hb2 (by simp [go_sem])
    have y4 : w2.frozen? ⟨w.heap.size, 4, none⟩ = false := frozen_keep hb2 (v := .int .i64 0) (by simp [go_sem]) (by simp [go_sem])
    have x4 : w2.cell? ⟨w.heap.size + 1, 4, none⟩ = some (.int .i64 (wN v)) := cell_keep hb2 (by simp [go_sem])
    have HB2 : Hid (Below w.heap.size w w2) := bel_trans (bel_alloc (bel_alloc (Below.refl _ _) _) _) hb2
    clear hb2
    go_wp2
    exact bodyPost_ret (v := .agg #[.int .i8 (v / 134217728), .int .i8 (v / 8388608 % 16), .int .i8 (v / 524288 % 16), .int .i8 (v / 32768 % 16), .int .i64 (wN v)]) (by simp [results, Tryd.results58, go_sem, z0, z1, z2, z3, z4]) rfl ⟨dec_yes HI.out, ((((HB2.out.setCell (Nat.le_refl _) _).setCell (Nat.le_refl _) _).setCell (Nat.le_refl _) _).setCell (Nat.le_refl _) _).setCell (Nat.le_refl _) _⟩

set_option maxRecDepth 100000 in
set_option maxHeartbeats 1000000 in
theorem decNo (v : Int) (h0 : 0 ≤ v) (h1 : v < 4294967296) (hI : isIns v = false) (w : World) : Calls Tryd.prog 58 #[.int .u32 v] w fun e w' => e = .returned (.agg #[.int .i8 (dOp v), .int .i8 (dD v), .int .i8 (dA v), .int .i8 (dB v), .int .i64 (dN v)]) ∧ Below w.heap.size w w' := by
    have m1 : bits .and .u32 v 125829120 = v / 8388608 % 16 * 8388608 := mask_mid v 23 125829120 (by decide) (by decide) h0 h1
    have m2 : bits .and .u32 v 7864320 = v / 524288 % 16 * 524288 := mask_mid v 19 7864320 (by decide) (by decide) h0 h1
    have m3 : bits .and .u32 v 491520 = v / 32768 % 16 * 32768 := mask_mid v 15 491520 (by decide) (by decide) h0 h1
    have m4 := and32767 v h0 h1
    have CS : ∀ wx : World, Calls Tryd.prog 68 #[.int .u32 (v % 32768)] wx fun e w' => e = .returned (.int .i64 (sN v)) ∧ w' = wx := fun wx => signed_any (v % 32768) (by omega) (by omega) wx
    obtain ⟨E, hE, CE⟩ : ∃ E : Int, (E == 0) = false ∧ ∀ wx : World, Calls Tryd.prog 69 #[.agg #[.int .i8 (v / 134217728), .int .i8 (v / 8388608 % 16), .int .i8 (v / 524288 % 16), .int .i8 (v / 32768 % 16), .int .i64 (sN v)]] wx fun e w' => e = .returned (.tuple #[.int .u32 0, .int .i64 E]) ∧ Below wx.heap.size wx w' := by
      obtain ⟨e1, e2⟩ := encS_no h0 hI
      refine ⟨encE (wOp v) (wD v) (wA v) (wB v) (sN v), by rcases e2 with e2 | e2 <;> (rw [e2]; rfl), fun wx => ?_⟩
      have h := isaencode_any (wOp v) (wD v) (wA v) (wB v) (sN v) (by unfold wOp; omega) wx
      rw [e1] at h
      exact h
    have HI : Hid (isIns v = false) := hI
    clear hI
    go_enter Tryd.func58, Tryd.ntmps58
    go_wp2_with fail
    refine (CS _).mono ?_
    rintro e w1 ⟨rfl, rfl⟩
    clear m1 m2 m3 m4 CS
    go_wp2_with fail
    refine (CE _).mono ?_
    rintro e w2 ⟨rfl, hb2⟩
    clear CE
    have z0 : w2.cell? ⟨w.heap.size, 0, none⟩ = some (.int .i8 0) := cell_keep hb2 (by simp [go_sem])
    have y0 : w2.frozen? ⟨w.heap.size, 0, none⟩ = false := frozen_keep hb2 (v := .int .i8 0) (by simp [go_sem]) (by simp [go_sem])
    have x0 : w2.cell? ⟨w.heap.size + 1, 0, none⟩ = some (.int .i8 (v / 134217728)) := cell_keep hb2 (by simp [go_sem])
    have z1 : w2.cell? ⟨w.heap.size, 1, none⟩ = some (.int .i8 0) := cell_keep hb2 (by simp [go_sem])
    have y1 : w2.frozen? ⟨w.heap.size, 1, none⟩ = false := frozen_keep hb2 (v := .int .i8 0) (by simp [go_sem]) (by simp [go_sem])
    have x1 : w2.cell? ⟨w.heap.size + 1, 1, none⟩ = some (.int .i8 (v / 8388608 % 16)) := cell_keep hb2 (by simp [go_sem])
    have z2 : w2.cell? ⟨w.heap.size, 2, none⟩ = some (.int .i8 0) := cell_keep hb2 (by simp [go_sem])
    have y2 : w2.frozen? ⟨w.heap.size, 2, none⟩ = false := frozen_keep hb2 (v := .int .i8 0) (by simp [go_sem]) (by simp [go_sem])
    have x2 : w2.cell? ⟨w.heap.size + 1, 2, none⟩ = some (.int .i8 (v / 524288 % 16)) := cell_keep hb2 (by simp [go_sem])
    have z3 : w2.cell? ⟨w.heap.size, 3, none⟩ = some (.int .i8 0) := cell_keep hb2 (by simp [go_sem])
    have y3 : w2.frozen? ⟨w.heap.size, 3, none⟩ = false := frozen_keep hb2 (v := .int .i8 0) (by simp [go_sem]) (by simp [go_sem])
    have x3 : w2.cell? ⟨w.heap.size + 1, 3, none⟩ = some (.int .i8 (v / 32768 % 16)) := cell_keep hb2 (by simp [go_sem])
    have z4 : w2.cell? ⟨w.heap.size, 4, none⟩ = some (.int .i64 0) := cell_keep hb2 (by simp [go_sem])
    have y4 : w2.frozen? ⟨w.heap.size, 4, none⟩ = false := frozen_keep hb2 (v := .int .i64 0) (by simp [go_sem]) (by simp [go_sem])
    have x4 : w2.cell? ⟨w.heap.size + 1, 4, none⟩ = some (.int .i64 (sN v)) := cell_keep hb2 (by simp [go_sem])
    have HB2 : Hid (Below w.heap.size w w2) := bel_trans (bel_alloc (bel_alloc (Below.refl _ _) _) _) hb2
    clear hb2
    go_wp2
    exact bodyPost_ret (v := .agg #[.int .i8 (-1), .int .i8 0, .int .i8 0, .int .i8 0, .int .i64 v]) (by simp [results, Tryd.results58, go_sem, z0, z1, z2, z3, z4]) rfl ⟨dec_no HI.out, ((((HB2.out.setCell (Nat.le_refl _) _).setCell (Nat.le_refl _) _).setCell (Nat.le_refl _) _).setCell (Nat.le_refl _) _).setCell (Nat.le_refl _) _⟩

theorem isadecode_any (v : Int) (h0 : 0 ≤ v) (h1 : v < 4294967296) (w : World) : Calls Tryd.prog 58 #[.int .u32 v] w fun e w' => e = .returned (.agg #[.int .i8 (dOp v), .int .i8 (dD v), .int .i8 (dA v), .int .i8 (dB v), .int .i64 (dN v)]) ∧ Below w.heap.size w w' := by
  cases hI : isIns v
  · exact decNo v h0 h1 hI w
  · exact decYes v h0 h1 hI w








end Go.Proofs.YtblmcphmgicocaaDoor

namespace Go.Proofs.YtblmcphmgicocaaDoor
open Go.RowKit


set_option maxRecDepth 100000 in
theorem isahas_any (op : Int) (h8 : op ≤ 127) (w : World) : Calls Tryd.prog 59 #[.int .i8 op] w fun e w' => e = .returned (.tuple #[.bool (hD op), .bool (hA op), .bool (hB op), .bool (hN op), .bool (hP op)]) ∧ Below w.heap.size w w' := by
  have CK := known_any op h8
  by_cases hr : 0 ≤ op ∧ op ≤ 21
  · rw [decide_eq_true hr] at CK
    obtain ⟨b1, b2, b4, b8, b16⟩ := sh_bits op hr.1 hr.2
    have hI := index_sh op hr.1 hr.2
    have C1 := fun wx => fhas_any (sh op) 1 wx
    have C2 := fun wx => fhas_any (sh op) 2 wx
    have C4 := fun wx => fhas_any (sh op) 4 wx
    have C8 := fun wx => fhas_any (sh op) 8 wx
    have C16 := fun wx => fhas_any (sh op) 16 wx
    rw [b1] at C1; rw [b2] at C2; rw [b4] at C4; rw [b8] at C8; rw [b16] at C16
    clear b1 b2 b4 b8 b16
    go_enter Tryd.func59, Tryd.ntmps59
    go_wp2_with fail
    refine (CK _).mono ?_
    rintro e w1 ⟨rfl, rfl⟩
    go_wp2_with fail
    refine (shapes_any _).mono ?_
    rintro e w2 ⟨rfl, hb⟩
    have HB : Hid (Below w1.heap.size w1 w2) := hb
    clear hb CK
    go_wp2_with fail
    refine (C1 _).mono ?_
    rintro e w3 ⟨rfl, rfl⟩
    go_wp2_with fail
    refine (C2 _).mono ?_
    rintro e w3 ⟨rfl, rfl⟩
    go_wp2_with fail
    refine (C4 _).mono ?_
    rintro e w3 ⟨rfl, rfl⟩
    go_wp2_with fail
    refine (C8 _).mono ?_
    rintro e w3 ⟨rfl, rfl⟩
    go_wp2_with fail
    refine (C16 _).mono ?_
    rintro e w3 ⟨rfl, rfl⟩
    go_wp2
    exact bodyPost_ret (v := .tuple #[.bool (hD op), .bool (hA op), .bool (hB op), .bool (hN op), .bool (hP op)]) (by simp [results, Tryd.results59, go_sem]) rfl ⟨rfl, HB.out⟩
  · rw [decide_eq_false hr] at CK
    have e1 : hD op = false := by unfold hD; exact decide_eq_false (by omega)
    have e2 : hA op = false := by unfold hA; exact decide_eq_false (by omega)
    have e3 : hB op = false := by unfold hB; exact decide_eq_false (by omega)
    have e4 : hN op = false := by unfold hN; exact decide_eq_false (by omega)
    have e5 : hP op = false := by unfold hP; exact decide_eq_false (by omega)
    rw [e1, e2, e3, e4, e5]
    clear e1 e2 e3 e4 e5
    go_enter Tryd.func59, Tryd.ntmps59
    go_wp2_with fail
    refine (CK _).mono ?_
    rintro e w1 ⟨rfl, rfl⟩
    go_wp2
    exact bodyPost_ret (v := .tuple #[.bool false, .bool false, .bool false, .bool false, .bool false]) (by simp [results, Tryd.results59, go_sem]) rfl ⟨rfl, Below.refl _ _⟩








end Go.Proofs.YtblmcphmgicocaaDoor

namespace Go.Proofs.YtblmcphmgicocaaDoor
open Go.RowKit

/-- Is it a call? -/
def cllB (op : Int) : Bool := op == 17 || op == 18
/-- What an instruction reads and writes, by its fields. -/
def irdN (op da db : Int) : Nat := bitN (hA op) da ||| bitN (hB op) db
def iwrN (op dd : Int) : Nat := bitN (hD op) dd ||| bitN (cllB op) 15
theorem rdN_is (v : Int) : rdN v = irdN (dOp v) (dA v) (dB v) := rfl
theorem wrN_is (v : Int) : wrN v = iwrN (dOp v) (dD v) := by
  unfold wrN iwrN
  generalize dOp v = op
  by_cases h : op = 17 ∨ op = 18
  · rw [if_pos h]
    rcases h with rfl | rfl
    · rw [show hD 17 = false by decide, show cllB 17 = true by decide, show bitN false (dD v) = 0 from rfl, Nat.zero_or]; decide
    · rw [show hD 18 = false by decide, show cllB 18 = true by decide, show bitN false (dD v) = 0 from rfl, Nat.zero_or]; decide
  · rw [if_neg h]
    have : cllB op = false := by
      unfold cllB
      rw [Bool.or_eq_false_iff, beq_eq_false_iff_ne, beq_eq_false_iff_ne]
      exact ⟨fun e => h (.inl e), fun e => h (.inr e)⟩
    rw [this, show bitN false 15 = 0 from rfl, Nat.or_zero]
theorem irdN_lt {op da db : Int} (h : da ≤ 15) (k : db ≤ 15) : irdN op da db < 65536 := orN_lt (bitN_lt _ h) (bitN_lt _ k)
theorem iwrN_lt {op dd : Int} (h : dd ≤ 15) : iwrN op dd < 65536 := orN_lt (bitN_lt _ h) (bitN_lt _ (by omega))
theorem linkA {n : Nat} (h : n < 65536) : ((bits .and .u16 (n : Int) 32768) != 0) = decide (n / 32768 = 1) := by
  rw [u16_and _ _ (by omega) (by omega) (by omega) (by omega)]
  have e : ((n : Int).toNat &&& (32768 : Int).toNat : Nat) = if n / 32768 = 1 then 32768 else 0 := by
    show n &&& 32768 = _
    apply Nat.eq_of_testBit_eq
    intro i
    rw [Nat.testBit_and, show (32768 : Nat) = 2 ^ 15 from rfl, Nat.testBit_two_pow]
    by_cases hi : 15 = i
    · subst hi
      rw [Nat.testBit_eq_decide_div_mod_eq]
      by_cases e : n / 2 ^ 15 = 1
      · rw [if_pos e, e, Nat.testBit_two_pow]; rfl
      · rw [if_neg e]
        have : n / 2 ^ 15 = 0 := by omega
        rw [this]; rfl
    · by_cases e : n / 2 ^ 15 = 1
      · rw [if_pos e, Nat.testBit_two_pow]; simp [hi]
      · rw [if_neg e]; simp [hi]
  rw [e]
  by_cases k : n / 32768 = 1
  · rw [if_pos k, decide_eq_true k]; rfl
  · rw [if_neg k, decide_eq_false k]; rfl



end Go.Proofs.YtblmcphmgicocaaDoor
