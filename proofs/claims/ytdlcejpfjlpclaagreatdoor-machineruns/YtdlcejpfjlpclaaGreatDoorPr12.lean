/-
  Decode of package isa, for every word of 32 bits; no other condition. What is asked of a machine of the program's: made, Status, At, Steps, Taken, Register, the numbers and places of registers. Rows of words and ports, cloned; Memory and Ports of the program's machine.
-/
import Derived.Test.YtdlcejpfjlpclaaGreatDoorProg
import Derived.Test.YtdlcejpfjlpclaaGreatDoorPr11
import Derived.WalkKit
import Derived.WalkSpells
import Derived.WalkLawsBesides
import Derived.RowKit3
import Derived.Below
import Derived.Deep.QuietTactic
import Derived.BigQuiet
import Derived.WalkSmall
import Derived.Laws.Rows
import Derived.Test.YtdlcejpfjlpclaaGreatDoorPr07
import Derived.Test.YtdlcejpfjlpclaaGreatDoorPr08
import Derived.Test.YtdlcejpfjlpclaaGreatDoorPr03
import Derived.Deep.RegionHeld3
namespace Go.Proofs.YtdlcejpfjlpclaaGreatDoor
open Go.RowKit

/-- N as the program reads it: by its highest bit. -/
def sN (v : Int) : Int := if 16383 < v % 32768 then v % 32768 - 32768 else v % 32768
theorem sN_num0 (n p : Bool) (r : Int) (h0 : 0 ≤ r) (h1 : r < 32768) : numOK n p (if 16383 < r then r - 32768 else r) = numOK n p (if n && !p && decide (16384 ≤ r) then r - 32768 else r) := by
  by_cases h : 16383 < r
  · have h' : 16384 ≤ r := by omega
    cases n <;> cases p <;> (rw [Bool.eq_iff_iff]; simp [numOK, h, h']; try omega)
  · have h' : ¬ 16384 ≤ r := by omega
    cases n <;> cases p <;> simp [numOK, h, h']
theorem sN_eq0 (n p : Bool) (r : Int) (h0 : 0 ≤ r) (h1 : r < 32768) (hn : numOK n p (if n && !p && decide (16384 ≤ r) then r - 32768 else r) = true) : (if 16383 < r then r - 32768 else r) = (if n && !p && decide (16384 ≤ r) then r - 32768 else r) := by
  by_cases h : 16383 < r
  · have h' : 16384 ≤ r := by omega
    cases n <;> cases p <;> simp [numOK, h, h'] at hn ⊢ <;> omega
  · have h' : ¬ 16384 ≤ r := by omega
    cases n <;> cases p <;> simp [h, h']
theorem ins_sN (v : Int) : insOK (wOp v) (wD v) (wA v) (wB v) (sN v) = insOK (wOp v) (wD v) (wA v) (wB v) (wN v) := by
  unfold insOK
  rw [show numOK (hN (wOp v)) (hP (wOp v)) (sN v) = numOK (hN (wOp v)) (hP (wOp v)) (wN v) from sN_num0 _ _ (v % 32768) (by omega) (by omega)]
theorem isIns_sN {v : Int} (h : isIns v = true) : sN v = wN v := by
  unfold isIns insOK at h
  simp only [Bool.and_eq_true] at h
  exact sN_eq0 _ _ (v % 32768) (by omega) (by omega) h.2.2
theorem encS_no {v : Int} (h0 : 0 ≤ v) (h : isIns v = false) : encV (wOp v) (wD v) (wA v) (wB v) (sN v) = 0 ∧ (encE (wOp v) (wD v) (wA v) (wB v) (sN v) = 10 ∨ encE (wOp v) (wD v) (wA v) (wB v) (sN v) = 11) := by
  unfold isIns at h
  have hop : 0 ≤ wOp v := by unfold wOp; omega
  unfold encV encE
  by_cases hb : wOp v < 0 ∨ 21 < wOp v
  · rw [if_pos hb, if_pos hb]; exact ⟨rfl, Or.inl rfl⟩
  · rw [if_neg hb, if_neg hb]
    have hle : wOp v ≤ 21 := by omega
    rw [decide_eq_true hle, Bool.true_and] at h
    rw [ins_sN, h]; exact ⟨rfl, Or.inr rfl⟩

set_option maxRecDepth 100000 in
set_option maxHeartbeats 1000000 in
theorem decYes (v : Int) (h0 : 0 ≤ v) (h1 : v < 4294967296) (hI : isIns v = true) (w : World) : Calls Tryz.prog 25 #[.int .u32 v] w fun e w' => e = .returned (.agg #[.int .i8 (dOp v), .int .i8 (dD v), .int .i8 (dA v), .int .i8 (dB v), .int .i64 (dN v)]) ∧ Below w.heap.size w w' := by
    have m1 : bits .and .u32 v 125829120 = v / 8388608 % 16 * 8388608 := mask_mid v 23 125829120 (by decide) (by decide) h0 h1
    have m2 : bits .and .u32 v 7864320 = v / 524288 % 16 * 524288 := mask_mid v 19 7864320 (by decide) (by decide) h0 h1
    have m3 : bits .and .u32 v 491520 = v / 32768 % 16 * 32768 := mask_mid v 15 491520 (by decide) (by decide) h0 h1
    have m4 := and32767 v h0 h1
    have CS : ∀ wx : World, Calls Tryz.prog 60 #[.int .u32 (v % 32768)] wx fun e w' => e = .returned (.int .i64 (wN v)) ∧ w' = wx := fun wx => by
      have h := signed_any (v % 32768) (by omega) (by omega) wx
      rw [← isIns_sN hI]; exact h
    have CE : ∀ wx : World, Calls Tryz.prog 61 #[.agg #[.int .i8 (v / 134217728), .int .i8 (v / 8388608 % 16), .int .i8 (v / 524288 % 16), .int .i8 (v / 32768 % 16), .int .i64 (wN v)]] wx fun e w' => e = .returned (.tuple #[.int .u32 v, .int .i64 0]) ∧ Below wx.heap.size wx w' := fun wx => by
      have h := isaencode_any (wOp v) (wD v) (wA v) (wB v) (wN v) (by unfold wOp; omega) wx
      rw [(enc_yes h0 h1 hI).1, (enc_yes h0 h1 hI).2] at h
      exact h
    have HI : Hid (isIns v = true) := hI
    clear hI
    go_enter Tryz.func25, Tryz.ntmps25
    go_wp2_with fail
    refine (CS _).mono ?_
    rintro e w1 ⟨rfl, rfl⟩
    clear m1 m2 m3 m4 CS
    go_wp2_with fail
    refine (CE _).mono ?_
    rintro e w2 ⟨rfl, hb2⟩
    clear CE
    have z0 : w2.cell? ⟨w.heap.size, 0, none⟩ = some (.int .i8 0) := cell_keep hb2 (by simp [go_sem])
    have y0 : w2.frozen? ⟨w.heap.size, 0, none⟩ = false := frozen_keep hb2 (v := .int .i8 0) (by simp [go_sem]) (by simp [go_sem])
    have x0 : w2.cell? ⟨w.heap.size + 1, 0, none⟩ = some (.int .i8 (v / 134217728)) := cell_keep hb2 (by simp [go_sem])
    have z1 : w2.cell? ⟨w.heap.size, 1, none⟩ = some (.int .i8 0) := cell_keep hb2 (by simp [go_sem])
    have y1 : w2.frozen? ⟨w.heap.size, 1, none⟩ = false := frozen_keep hb2 (v := .int .i8 0) (by simp [go_sem]) (by simp [go_sem])
    have x1 : w2.cell? ⟨w.heap.size + 1, 1, none⟩ = some (.int .i8 (v / 8388608 % 16)) := cell_keep hb2 (by simp [go_sem])
    have z2 : w2.cell? ⟨w.heap.size, 2, none⟩ = some (.int .i8 0) := cell_keep hb2 (by simp [go_sem])
    have y2 : w2.frozen? ⟨w.heap.size, 2, none⟩ = false := frozen_keep hb2 (v := .int .i8 0) (by simp [go_sem]) (by simp [go_sem])
    have x2 : w2.cell? ⟨w.heap.size + 1, 2, none⟩ = some (.int .i8 (v / 524288 % 16)) := cell_keep hb2 (by simp [go_sem])
    have z3 : w2.cell? ⟨w.heap.size, 3, none⟩ = some (.int .i8 0) := cell_keep hb2 (by simp [go_sem])
    have y3 : w2.frozen? ⟨w.heap.size, 3, none⟩ = false := frozen_keep hb2 (v := .int .i8 0) (by simp [go_sem]) (by simp [go_sem])
    have x3 : w2.cell? ⟨w.heap.size + 1, 3, none⟩ = some (.int .i8 (v / 32768 % 16)) := cell_keep hb2 (by simp [go_sem])
    have z4 : w2.cell? ⟨w.heap.size, 4, none⟩ = some (.int .i64 0) := cell_keep hb2 (by simp [go_sem])
    have y4 : w2.frozen? ⟨w.heap.size, 4, none⟩ = false := frozen_keep hb2 (v := .int .i64 0) (by simp [go_sem]) (by simp [go_sem])
    have x4 : w2.cell? ⟨w.heap.size + 1, 4, none⟩ = some (.int .i64 (wN v)) := cell_keep hb2 (by simp [go_sem])
    have HB2 : Hid (Below w.heap.size w w2) := bel_trans (bel_alloc (bel_alloc (Below.refl _ _) _) _) hb2
    clear hb2
    go_wp2
    exact bodyPost_ret (v := .agg #[.int .i8 (v / 134217728), .int .i8 (v / 8388608 % 16), .int .i8 (v / 524288 % 16), .int .i8 (v / 32768 % 16), .int .i64 (wN v)]) (by simp [results, Tryz.results25, go_sem, z0, z1, z2, z3, z4]) rfl ⟨dec_yes HI.out, ((((HB2.out.setCell (Nat.le_refl _) _).setCell (Nat.le_refl _) _).setCell (Nat.le_refl _) _).setCell (Nat.le_refl _) _).setCell (Nat.le_refl _) _⟩

set_option maxRecDepth 100000 in
set_option maxHeartbeats 1000000 in
theorem decNo (v : Int) (h0 : 0 ≤ v) (h1 : v < 4294967296) (hI : isIns v = false) (w : World) : Calls Tryz.prog 25 #[.int .u32 v] w fun e w' => e = .returned (.agg #[.int .i8 (dOp v), .int .i8 (dD v), .int .i8 (dA v), .int .i8 (dB v), .int .i64 (dN v)]) ∧ Below w.heap.size w w' := by
    have m1 : bits .and .u32 v 125829120 = v / 8388608 % 16 * 8388608 := mask_mid v 23 125829120 (by decide) (by decide) h0 h1
    have m2 : bits .and .u32 v 7864320 = v / 524288 % 16 * 524288 := mask_mid v 19 7864320 (by decide) (by decide) h0 h1
    have m3 : bits .and .u32 v 491520 = v / 32768 % 16 * 32768 := mask_mid v 15 491520 (by decide) (by decide) h0 h1
    have m4 := and32767 v h0 h1
    have CS : ∀ wx : World, Calls Tryz.prog 60 #[.int .u32 (v % 32768)] wx fun e w' => e = .returned (.int .i64 (sN v)) ∧ w' = wx := fun wx => signed_any (v % 32768) (by omega) (by omega) wx
    obtain ⟨E, hE, CE⟩ : ∃ E : Int, (E == 0) = false ∧ ∀ wx : World, Calls Tryz.prog 61 #[.agg #[.int .i8 (v / 134217728), .int .i8 (v / 8388608 % 16), .int .i8 (v / 524288 % 16), .int .i8 (v / 32768 % 16), .int .i64 (sN v)]] wx fun e w' => e = .returned (.tuple #[.int .u32 0, .int .i64 E]) ∧ Below wx.heap.size wx w' := by
      obtain ⟨e1, e2⟩ := encS_no h0 hI
      refine ⟨encE (wOp v) (wD v) (wA v) (wB v) (sN v), by rcases e2 with e2 | e2 <;> (rw [e2]; rfl), fun wx => ?_⟩
      have h := isaencode_any (wOp v) (wD v) (wA v) (wB v) (sN v) (by unfold wOp; omega) wx
      rw [e1] at h
      exact h
    have HI : Hid (isIns v = false) := hI
    clear hI
    go_enter Tryz.func25, Tryz.ntmps25
    go_wp2_with fail
    refine (CS _).mono ?_
    rintro e w1 ⟨rfl, rfl⟩
    clear m1 m2 m3 m4 CS
    go_wp2_with fail
    refine (CE _).mono ?_
    rintro e w2 ⟨rfl, hb2⟩
    clear CE
    have z0 : w2.cell? ⟨w.heap.size, 0, none⟩ = some (.int .i8 0) := cell_keep hb2 (by simp [go_sem])
    have y0 : w2.frozen? ⟨w.heap.size, 0, none⟩ = false := frozen_keep hb2 (v := .int .i8 0) (by simp [go_sem]) (by simp [go_sem])
    have x0 : w2.cell? ⟨w.heap.size + 1, 0, none⟩ = some (.int .i8 (v / 134217728)) := cell_keep hb2 (by simp [go_sem])
    have z1 : w2.cell? ⟨w.heap.size, 1, none⟩ = some (.int .i8 0) := cell_keep hb2 (by simp [go_sem])
    have y1 : w2.frozen? ⟨w.heap.size, 1, none⟩ = false := frozen_keep hb2 (v := .int .i8 0) (by simp [go_sem]) (by simp [go_sem])
    have x1 : w2.cell? ⟨w.heap.size + 1, 1, none⟩ = some (.int .i8 (v / 8388608 % 16)) := cell_keep hb2 (by simp [go_sem])
    have z2 : w2.cell? ⟨w.heap.size, 2, none⟩ = some (.int .i8 0) := cell_keep hb2 (by simp [go_sem])
    have y2 : w2.frozen? ⟨w.heap.size, 2, none⟩ = false := frozen_keep hb2 (v := .int .i8 0) (by simp [go_sem]) (by simp [go_sem])
    have x2 : w2.cell? ⟨w.heap.size + 1, 2, none⟩ = some (.int .i8 (v / 524288 % 16)) := cell_keep hb2 (by simp [go_sem])
    have z3 : w2.cell? ⟨w.heap.size, 3, none⟩ = some (.int .i8 0) := cell_keep hb2 (by simp [go_sem])
    have y3 : w2.frozen? ⟨w.heap.size, 3, none⟩ = false := frozen_keep hb2 (v := .int .i8 0) (by simp [go_sem]) (by simp [go_sem])
    have x3 : w2.cell? ⟨w.heap.size + 1, 3, none⟩ = some (.int .i8 (v / 32768 % 16)) := cell_keep hb2 (by simp [go_sem])
    have z4 : w2.cell? ⟨w.heap.size, 4, none⟩ = some (.int .i64 0) := cell_keep hb2 (by simp [go_sem])
    have y4 : w2.frozen? ⟨w.heap.size, 4, none⟩ = false := frozen_keep hb2 (v := .int .i64 0) (by simp [go_sem]) (by simp [go_sem])
    have x4 : w2.cell? ⟨w.heap.size + 1, 4, none⟩ = some (.int .i64 (sN v)) := cell_keep hb2 (by simp [go_sem])
    have HB2 : Hid (Below w.heap.size w w2) := bel_trans (bel_alloc (bel_alloc (Below.refl _ _) _) _) hb2
    clear hb2
    go_wp2
    exact bodyPost_ret (v := .agg #[.int .i8 (-1), .int .i8 0, .int .i8 0, .int .i8 0, .int .i64 v]) (by simp [results, Tryz.results25, go_sem, z0, z1, z2, z3, z4]) rfl ⟨dec_no HI.out, ((((HB2.out.setCell (Nat.le_refl _) _).setCell (Nat.le_refl _) _).setCell (Nat.le_refl _) _).setCell (Nat.le_refl _) _).setCell (Nat.le_refl _) _⟩

theorem isadecode_any (v : Int) (h0 : 0 ≤ v) (h1 : v < 4294967296) (w : World) : Calls Tryz.prog 25 #[.int .u32 v] w fun e w' => e = .returned (.agg #[.int .i8 (dOp v), .int .i8 (dD v), .int .i8 (dA v), .int .i8 (dB v), .int .i64 (dN v)]) ∧ Below w.heap.size w w' := by
  cases hI : isIns v
  · exact decNo v h0 h1 hI w
  · exact decYes v h0 h1 hI w



end Go.Proofs.YtdlcejpfjlpclaaGreatDoor

namespace Go.Proofs.YtdlcejpfjlpclaaGreatDoor
open Go.RowKit

/-- What a step gives up with. -/
def stopM (f : Int) : Ending := .panicked [{ v := .iface 89 (.int .i8 f), recovered := false }]
section
variable {w : World} {base P : Nat} {s : Loc} {m : Mach}
theorem made_yes (h : PAt w base P s m) (hm : Fine m) : Calls Tryz.prog 29 #[.pointer (some ⟨P, 0, none⟩)] w fun e w' => e = .returned (.bool true) ∧ w' = w := by
  obtain ⟨c0, -⟩ := h.cells hm.sixteen
  have hl := hm.some
  go_enter Tryz.func29, Tryz.ntmps29
  go_wp2
  go_ret
  exact ⟨rfl, rfl⟩
theorem status_yes (h : PAt w base P s m) (hm : Fine m) : Calls Tryz.prog 30 #[.pointer (some ⟨P, 0, none⟩)] w fun e w' => e = .returned (.int .i8 m.status) ∧ w' = w := by
  have C := made_yes h hm
  obtain ⟨c0, c1, c34, c35, c36, c37, c38, c39⟩ := h.cells hm.sixteen
  clear h
  go_enter Tryz.func30, Tryz.ntmps30
  go_wp2_with fail
  refine C.mono ?_
  rintro e w1 ⟨rfl, rfl⟩
  go_wp2
  go_ret
  exact ⟨rfl, rfl⟩
theorem at_yes (h : PAt w base P s m) (hm : Fine m) : Calls Tryz.prog 22 #[.pointer (some ⟨P, 0, none⟩)] w fun e w' => e = .returned (.int .i64 m.pc) ∧ w' = w := by
  have C := made_yes h hm
  obtain ⟨c0, c1, c34, c35, c36, c37, c38, c39⟩ := h.cells hm.sixteen
  clear h
  go_enter Tryz.func22, Tryz.ntmps22
  go_wp2_with fail
  refine C.mono ?_
  rintro e w1 ⟨rfl, rfl⟩
  go_wp2
  go_ret
  exact ⟨rfl, rfl⟩
theorem steps_yes (h : PAt w base P s m) (hm : Fine m) : Calls Tryz.prog 35 #[.pointer (some ⟨P, 0, none⟩)] w fun e w' => e = .returned (.int .i64 m.steps) ∧ w' = w := by
  have C := made_yes h hm
  obtain ⟨c0, c1, c34, c35, c36, c37, c38, c39⟩ := h.cells hm.sixteen
  clear h
  go_enter Tryz.func35, Tryz.ntmps35
  go_wp2_with fail
  refine C.mono ?_
  rintro e w1 ⟨rfl, rfl⟩
  go_wp2
  go_ret
  exact ⟨rfl, rfl⟩
theorem taken_yes (h : PAt w base P s m) (hm : Fine m) : Calls Tryz.prog 36 #[.pointer (some ⟨P, 0, none⟩)] w fun e w' => e = .returned (.int .i64 m.taken) ∧ w' = w := by
  have C := made_yes h hm
  obtain ⟨c0, c1, c34, c35, c36, c37, c38, c39⟩ := h.cells hm.sixteen
  clear h
  go_enter Tryz.func36, Tryz.ntmps36
  go_wp2_with fail
  refine C.mono ?_
  rintro e w1 ⟨rfl, rfl⟩
  go_wp2
  go_ret
  exact ⟨rfl, rfl⟩
theorem register_yes (h : PAt w base P s m) (hm : Fine m) (r : Nat) (hr : r < 16) : Calls Tryz.prog 20 #[.pointer (some ⟨P, 0, none⟩), .int .i64 r] w fun e w' => e = .returned (.tuple #[.agg #[.int .i64 (wV m.regs r), .bool (wC m.regs r)], .int .i64 0]) ∧ Below w.heap.size w w' := by
  have C := made_yes (h.alloc (.cells #[.int .i64 0, .bool false] 71)) hm
  obtain ⟨d0, d1⟩ := h.reg hm.sixteen hr
  have hP := h.lt
  clear h
  go_enter Tryz.func20, Tryz.ntmps20
  go_wp2_with fail
  refine C.mono ?_
  rintro e w1 ⟨rfl, rfl⟩
  go_wp2
  refine bodyPost_ret (v := .tuple #[.agg #[.int .i64 (wV m.regs r), .bool (wC m.regs r)], .int .i64 0]) (by simp [results, Tryz.results20, go_sem]) rfl ⟨rfl, ?_⟩
  exact lb_alloc (Below.refl _ _) _
theorem register_no (h : PAt w base P s m) (hm : Fine m) (r : Int) (hr : r < 0 ∨ 16 ≤ r) : Calls Tryz.prog 20 #[.pointer (some ⟨P, 0, none⟩), .int .i64 r] w fun e w' => e = .returned (.tuple #[.agg #[.int .i64 0, .bool false], .int .i64 1]) ∧ Below w.heap.size w w' := by
  have C := made_yes (h.alloc (.cells #[.int .i64 0, .bool false] 71)) hm
  clear h
  rcases hr with hr | hr
  · go_enter Tryz.func20, Tryz.ntmps20
    go_wp2_with fail
    refine C.mono ?_
    rintro e w1 ⟨rfl, rfl⟩
    go_wp2
    refine bodyPost_ret (v := .tuple #[.agg #[.int .i64 0, .bool false], .int .i64 1]) (by simp [results, Tryz.results20, go_sem]) rfl ⟨rfl, ?_⟩
    exact lb_alloc (Below.refl _ _) _
  · have hr2 : ¬ r < 0 := by omega
    go_enter Tryz.func20, Tryz.ntmps20
    go_wp2_with fail
    refine C.mono ?_
    rintro e w1 ⟨rfl, rfl⟩
    go_wp2
    refine bodyPost_ret (v := .tuple #[.agg #[.int .i64 0, .bool false], .int .i64 1]) (by simp [results, Tryz.results20, go_sem]) rfl ⟨rfl, ?_⟩
    exact lb_alloc (Below.refl _ _) _
theorem number_no (h : PAt w base P s m) (hm : Fine m) (r : Nat) (hr : r < 16) (hc : wC m.regs r = true) : Calls Tryz.prog 100 #[.pointer (some ⟨P, 0, none⟩), .int .i8 r] w fun e w' => e = stopM 4 ∧ Below w.heap.size w w' := by
  obtain ⟨d0, d1⟩ := h.reg hm.sixteen hr
  rw [hc] at d1
  clear h
  go_enter Tryz.func100, Tryz.ntmps100
  go_wp2
  exact ⟨rfl, rfl, lb_alloc (Below.refl _ _) _⟩
theorem number_yes (h : PAt w base P s m) (hm : Fine m) (r : Nat) (hr : r < 16) (hc : wC m.regs r = false) : Calls Tryz.prog 100 #[.pointer (some ⟨P, 0, none⟩), .int .i8 r] w fun e w' => e = .returned (.int .i64 (wV m.regs r)) ∧ Below w.heap.size w w' := by
  obtain ⟨d0, d1⟩ := h.reg hm.sixteen hr
  rw [hc] at d1
  clear h
  go_enter Tryz.func100, Tryz.ntmps100
  go_wp2
  go_ret
  exact ⟨rfl, lb_alloc (Below.refl _ _) _⟩
theorem goal_no (h : PAt w base P s m) (hm : Fine m) (r : Nat) (hr : r < 16) (hc : wC m.regs r = false) : Calls Tryz.prog 102 #[.pointer (some ⟨P, 0, none⟩), .int .i8 r] w fun e w' => e = stopM 4 ∧ Below w.heap.size w w' := by
  obtain ⟨d0, d1⟩ := h.reg hm.sixteen hr
  rw [hc] at d1
  clear h
  go_enter Tryz.func102, Tryz.ntmps102
  go_wp2
  exact ⟨rfl, rfl, lb_alloc (Below.refl _ _) _⟩
theorem goal_yes (h : PAt w base P s m) (hm : Fine m) (r : Nat) (hr : r < 16) (hc : wC m.regs r = true) : Calls Tryz.prog 102 #[.pointer (some ⟨P, 0, none⟩), .int .i8 r] w fun e w' => e = .returned (.int .i64 (wV m.regs r)) ∧ Below w.heap.size w w' := by
  obtain ⟨d0, d1⟩ := h.reg hm.sixteen hr
  rw [hc] at d1
  clear h
  go_enter Tryz.func102, Tryz.ntmps102
  go_wp2
  go_ret
  exact ⟨rfl, lb_alloc (Below.refl _ _) _⟩
end
theorem raise_yes (w : World) : Calls Tryz.prog 98 #[.int .i8 0] w fun e w' => e = .returned (.tuple #[]) ∧ w' = w := by
  go_enter Tryz.func98, Tryz.ntmps98
  go_wp2
  go_end0
  exact ⟨rfl, rfl⟩
theorem raise_no (f : Int) (hf : ¬ f = 0) (w : World) : Calls Tryz.prog 98 #[.int .i8 f] w fun e w' => e = stopM f ∧ w' = w := by
  have hf' : (f == 0) = false := by simpa using hf
  go_enter Tryz.func98, Tryz.ntmps98
  go_wp2
  exact ⟨rfl, rfl, rfl⟩
section
variable {w : World} {base P : Nat} {s : Loc} {m : Mach}
theorem set_mid {hd W tl : List Value} {n i : Nat} (v : Value) (hn : n = hd.length + i) (hi : i < W.length) : (hd ++ (W ++ tl)).set n v = hd ++ (W.set i v ++ tl) := by
  subst hn
  rw [List.set_append_right _ _ (by omega), show hd.length + i - hd.length = i by omega, List.set_append_left _ _ hi]
theorem set_tail {hd W tl : List Value} {n i : Nat} (v : Value) (hn : n = hd.length + W.length + i) : (hd ++ (W ++ tl)).set n v = hd ++ (W ++ tl.set i v) := by
  subst hn
  rw [List.set_append_right _ _ (by omega), List.set_append_right _ _ (by omega), show hd.length + W.length + i - hd.length - W.length = i by omega]
theorem boxM_put (s : Loc) (m : Mach) (h : m.regs.length = 16) {k : Nat} (hk : k < 16) (x : Wd) : ((boxM s m).setIfInBounds (2 + k * 2) (.int .i64 x.1)).setIfInBounds (2 + k * 2 + 1) (.bool x.2) = boxM s (putM m k x) := by
  have hl := wVals_len m.regs
  have e := wVals_set (l := m.regs) (k := k) x
  simp only [boxM, List.setIfInBounds_toArray]
  rw [set_mid (i := k * 2) _ (by simp [hdM]) (by omega), set_mid (i := k * 2 + 1) _ (by simp [hdM]; omega) (by simp; omega), e]
  simp [putM, hdM, tlM]
theorem boxM_at (s : Loc) (m : Mach) (h : m.regs.length = 16) (k : Nat) (v : Value) : (boxM s m).setIfInBounds (34 + k) v = (hdM s m ++ (wVals m.regs ++ (tlM s m).set k v)).toArray := by
  have hl := wVals_len m.regs
  simp only [boxM, List.setIfInBounds_toArray]
  rw [set_tail (i := k) _ (by simp [hdM]; omega)]
theorem own_ne {e t : TypeId} {size n b : Nat} {v : Value} {xs : List Value} {cs : Array Value} (h : w.ownsRow base e size v n xs) (hv : v.ownBlock = some b) (hp : w.heap[P]? = some (.cells cs t (0, 0))) (ne : e ≠ t) : b ≠ P := by
  rintro rfl
  rcases h.2 with ⟨rfl, -⟩ | ⟨g, cap, cur, rfl, -, hg, -⟩
  · cases hv
  · simp only [Value.ownBlock, Option.some.injEq] at hv
    subst hv
    rw [hg] at hp
    cases hp
    exact ne rfl
/-- The box alone is other. -/
theorem PAt.rebox {w' : World} {m' : Mach} (h : PAt w base P s m) (hb : w'.heap[P]? = some (.cells (boxM s m') 80 (0, 0))) (ho : ∀ b, b ≠ P → w'.heap[b]? = w.heap[b]?) (e1 : m'.text = m.text) (e2 : m'.tape = m.tape) (e3 : m'.mem = m.mem) (e4 : m'.ports = m.ports) : PAt w' base P s m' :=
  ⟨hb, h.bP, by rw [e1]; exact own_stay h.text fun b e => ho b (own_ne h.text e h.box (by decide)), by rw [e2]; exact own_stay h.tape fun b e => ho b (own_ne h.tape e h.box (by decide)), by rw [e3]; exact own_stay h.mem fun b e => ho b (own_ne h.mem e h.box (by decide)), by rw [e4]; exact own_stay h.ports fun b e => ho b (own_ne h.ports e h.box (by decide))⟩
theorem PAt.put (h : PAt w base P s m) (hm : m.regs.length = 16) {k : Nat} (hk : k < 16) (x : Wd) : PAt ((w.setCell ⟨P, 2 + k * 2, none⟩ (.int .i64 x.1)).setCell ⟨P, 2 + k * 2 + 1, none⟩ (.bool x.2)) base P s (putM m k x) := by
  refine h.rebox ?_ (fun b hb => (Below.heap_setCell _ _ _ _ hb).trans (Below.heap_setCell _ _ _ _ hb)) rfl rfl rfl rfl
  rw [← boxM_put s m hm hk x]
  exact box_set (box_set h.box _ _) _ _
theorem Upto.set {F : Nat → Prop} {a b : World} (h : Upto F a b) {B : Nat} (hB : F B ∨ a.heap.size ≤ B) (i : Nat) (v : Value) : Upto F a (b.setCell ⟨B, i, none⟩ v) :=
  ⟨h.os, h.tape, h.output, by simpa [go_sem] using h.size, fun x hx hn => (Below.heap_setCell _ _ _ _ (fun e => by subst e; rcases hB with f | f; exact hn f; omega)).trans (h.block x hx hn)⟩
theorem put_any (h : PAt w base P s m) (hm : Fine m) (r : Nat) (hr : r < 16) (x : Wd) : Calls Tryz.prog 96 #[.pointer (some ⟨P, 0, none⟩), .int .i8 r, .agg #[.int .i64 x.1, .bool x.2]] w fun e w' => e = .returned (.int .i64 ((m.pc : Int) + 1)) ∧ PAt w' base P s (putM m r x) ∧ Upto (Foot s P) w w' := by
  have hq := ((h.put hm.sixteen hr x).alloc (.cells #[.int .i64 x.1, .bool x.2] 71)).drew
  obtain ⟨d0, d1⟩ := h.reg hm.sixteen hr
  obtain ⟨c0, c1, c34, c35, c36, c37, c38, c39⟩ := h.cells hm.sixteen
  have f0 := h.fro (2 + r * 2)
  have f1 := h.fro (2 + r * 2 + 1)
  have hP := h.lt
  have hpc := hm.pc
  clear h
  go_enter Tryz.func96, Tryz.ntmps96
  go_wp2_with fail
  go_region
  all_goals (
    go_wp2
    go_ret
    exact ⟨rfl, hq, ((((Upto.refl _ _).set (Or.inl (Or.inl rfl)) _ _).set (Or.inl (Or.inl rfl)) _ _).alloc _).drew⟩)
/-- Single cells behind the registers. -/
theorem PAt.pc (h : PAt w base P s m) (hm : m.regs.length = 16) (k : Nat) : PAt (w.setCell ⟨P, 36, none⟩ (.int .i64 k)) base P s { m with pc := k } := by
  refine h.rebox ?_ (fun b hb => Below.heap_setCell _ _ _ _ hb) rfl rfl rfl rfl
  rw [box_set h.box, show 36 = 34 + 2 from rfl, boxM_at s m hm]
  rfl
theorem PAt.steps (h : PAt w base P s m) (hm : m.regs.length = 16) (k : Nat) : PAt (w.setCell ⟨P, 37, none⟩ (.int .i64 k)) base P s { m with steps := k } := by
  refine h.rebox ?_ (fun b hb => Below.heap_setCell _ _ _ _ hb) rfl rfl rfl rfl
  rw [box_set h.box, show 37 = 34 + 3 from rfl, boxM_at s m hm]
  rfl
theorem PAt.taken (h : PAt w base P s m) (hm : m.regs.length = 16) (k : Nat) : PAt (w.setCell ⟨P, 38, none⟩ (.int .i64 k)) base P s { m with taken := k } := by
  refine h.rebox ?_ (fun b hb => Below.heap_setCell _ _ _ _ hb) rfl rfl rfl rfl
  rw [box_set h.box, show 38 = 34 + 4 from rfl, boxM_at s m hm]
  rfl
theorem PAt.status (h : PAt w base P s m) (hm : m.regs.length = 16) (k : Int) : PAt (w.setCell ⟨P, 39, none⟩ (.int .i8 k)) base P s { m with status := k } := by
  refine h.rebox ?_ (fun b hb => Below.heap_setCell _ _ _ _ hb) rfl rfl rfl rfl
  rw [box_set h.box, show 39 = 34 + 5 from rfl, boxM_at s m hm]
  rfl
end

end Go.Proofs.YtdlcejpfjlpclaaGreatDoor

namespace Go.Proofs.YtdlcejpfjlpclaaGreatDoor
open Go.RowKit

theorem bs_w (w : World) : (Instr.buildSlice 65 0 #[]).run Tryz.prog w = .ok (.slice (some ⟨w.heap.size, 0, none⟩) 0 0) (w.alloc (.cells #[] 71)) := by kernel_rfl
theorem nil_w (w : World) : (binOp BinOp.eql 65 (.slice none 0 0) (.slice none 0 0)).run Tryz.prog w = .ok (.bool true) w := by kernel_rfl
theorem some_w (g n c : Nat) (w : World) : (binOp BinOp.eql 65 (.slice (some ⟨g, 0, none⟩) n c) (.slice none 0 0)).run Tryz.prog w = .ok (.bool false) w := by kernel_rfl
theorem info_w : ∃ i, Tryz.prog.info? 71 = some i ∧ i.zero = some (.agg #[.int .i64 0, .bool false]) ∧ i.size = 2 ∧ i.bytes = 16 :=
  ⟨(Tryz.prog.info? 71).get (by kernel_rfl), by kernel_rfl, by kernel_rfl, by kernel_rfl, by kernel_rfl⟩
/-- A row, cloned. -/
def Cl_w (w : World) (n : Nat) (xs : List Value) (e : Ending) (w' : World) : Prop := ∃ v, e = .returned v ∧ w'.ownsRow w.heap.size 71 2 v n xs ∧ Below w.heap.size w w'
set_option maxRecDepth 100000 in
set_option maxHeartbeats 1000000 in
theorem clone_w {w : World} {b n : Nat} {v : Value} {xs : List Value} (h : w.ownsRow b 71 2 v n xs) (h1 : ∀ u ∈ xs, u.oneCell' = true) (hn : n ≤ 1048576) : Calls Tryz.prog 39 #[v] w (Cl_w w n xs) := by
  obtain ⟨i0, hi, hz0, hz1, hz2⟩ := info_w
  have hlen := h.1
  rcases h.2 with ⟨rfl, h0⟩ | ⟨g, cap, cur, rfl, hb, hg, hc, hm, hs, ht⟩
  · subst h0
    have hx : xs = [] := List.eq_nil_of_length_eq_zero (by simpa using hlen)
    subst hx
    have hn0 := nil_w
    go_enter Tryz.func39, Tryz.ntmps39
    go_wp2
    go_ret
    exact ⟨_, rfl, World.ownsRow_nil _ _ _ _, Below.refl _ _⟩
  · have hb0 := bs_w
    have hn0 := some_w g n cap
    have HC : Hid (∀ j u, xs[j]? = some u → (w.alloc (.cells #[] 71)).cell? ((⟨g, 0, none⟩ : Addr).add j) = some u) := fun j u hu => by
      rw [add_at]
      refine lkeep (lb_alloc (Below.refl _ _) _) (box_at hg ?_)
      have hj : j < n * 2 := by rw [← hlen]; exact (List.getElem?_eq_some_iff.1 hu).1
      rw [← ht, List.getElem?_take_of_lt hj] at hu
      simpa using hu
    have H1 : Hid (∀ u ∈ xs, u.oneCell' = true) := h1
    have HL : Hid (xs.length = n * 2) := hlen
    clear h1 hlen ht h hb hc hs
    go_enter Tryz.func39, Tryz.ntmps39
    go_wp2_with (at_builtin; refine wpList_append_own _ rfl (.tmp 5) (.tmp 6) 65 rfl w.heap.size 71 i0 (.agg #[.int .i64 0, .bool false]) 2 16 Tryz.underlying65 hi hz0 hz1 hz2 rfl (by decide) (.slice (some ⟨w.heap.size, 0, none⟩) 0 0) 0 [] rfl (World.ownsRow_made w #[] 0 (Nat.le_refl _) (Nat.zero_le _) rfl) ⟨g, 0, none⟩ n cap xs rfl HL.out HC.out H1.out (by unfold maxLen; omega) (by omega) (by simp) ?_; intro v' w' hown hgrow hnil)
    all_goals (
      have HO : Hid (w'.ownsRow w.heap.size 71 2 v' n xs) := by have e := hown; rw [Nat.zero_add, List.nil_append] at e; exact e
      have HG : Hid _ := hgrow
      clear hown hgrow hnil
      go_wp2
      go_ret
      refine ⟨_, rfl, ?_, ?_⟩
      · exact HO.out
      · exact Below.grown (lb_alloc (Below.refl _ _) _) HG.out (by simp) (fun k e => by simp [Value.ownBlock] at e; omega))

theorem bs_p (w : World) : (Instr.buildSlice 68 0 #[]).run Tryz.prog w = .ok (.slice (some ⟨w.heap.size, 0, none⟩) 0 0) (w.alloc (.cells #[] 100)) := by kernel_rfl
theorem nil_p (w : World) : (binOp BinOp.eql 68 (.slice none 0 0) (.slice none 0 0)).run Tryz.prog w = .ok (.bool true) w := by kernel_rfl
theorem some_p (g n c : Nat) (w : World) : (binOp BinOp.eql 68 (.slice (some ⟨g, 0, none⟩) n c) (.slice none 0 0)).run Tryz.prog w = .ok (.bool false) w := by kernel_rfl
theorem info_p : ∃ i, Tryz.prog.info? 100 = some i ∧ i.zero = some (.agg #[.int .i64 0, .int .i64 0]) ∧ i.size = 2 ∧ i.bytes = 16 :=
  ⟨(Tryz.prog.info? 100).get (by kernel_rfl), by kernel_rfl, by kernel_rfl, by kernel_rfl, by kernel_rfl⟩
/-- A row, cloned. -/
def Cl_p (w : World) (n : Nat) (xs : List Value) (e : Ending) (w' : World) : Prop := ∃ v, e = .returned v ∧ w'.ownsRow w.heap.size 100 2 v n xs ∧ Below w.heap.size w w'
set_option maxRecDepth 100000 in
set_option maxHeartbeats 1000000 in
theorem clone_p {w : World} {b n : Nat} {v : Value} {xs : List Value} (h : w.ownsRow b 100 2 v n xs) (h1 : ∀ u ∈ xs, u.oneCell' = true) (hn : n ≤ 1048576) : Calls Tryz.prog 40 #[v] w (Cl_p w n xs) := by
  obtain ⟨i0, hi, hz0, hz1, hz2⟩ := info_p
  have hlen := h.1
  rcases h.2 with ⟨rfl, h0⟩ | ⟨g, cap, cur, rfl, hb, hg, hc, hm, hs, ht⟩
  · subst h0
    have hx : xs = [] := List.eq_nil_of_length_eq_zero (by simpa using hlen)
    subst hx
    have hn0 := nil_p
    go_enter Tryz.func40, Tryz.ntmps40
    go_wp2
    go_ret
    exact ⟨_, rfl, World.ownsRow_nil _ _ _ _, Below.refl _ _⟩
  · have hb0 := bs_p
    have hn0 := some_p g n cap
    have HC : Hid (∀ j u, xs[j]? = some u → (w.alloc (.cells #[] 100)).cell? ((⟨g, 0, none⟩ : Addr).add j) = some u) := fun j u hu => by
      rw [add_at]
      refine lkeep (lb_alloc (Below.refl _ _) _) (box_at hg ?_)
      have hj : j < n * 2 := by rw [← hlen]; exact (List.getElem?_eq_some_iff.1 hu).1
      rw [← ht, List.getElem?_take_of_lt hj] at hu
      simpa using hu
    have H1 : Hid (∀ u ∈ xs, u.oneCell' = true) := h1
    have HL : Hid (xs.length = n * 2) := hlen
    clear h1 hlen ht h hb hc hs
    go_enter Tryz.func40, Tryz.ntmps40
    go_wp2_with (at_builtin; refine wpList_append_own _ rfl (.tmp 5) (.tmp 6) 68 rfl w.heap.size 100 i0 (.agg #[.int .i64 0, .int .i64 0]) 2 16 Tryz.underlying68 hi hz0 hz1 hz2 rfl (by decide) (.slice (some ⟨w.heap.size, 0, none⟩) 0 0) 0 [] rfl (World.ownsRow_made w #[] 0 (Nat.le_refl _) (Nat.zero_le _) rfl) ⟨g, 0, none⟩ n cap xs rfl HL.out HC.out H1.out (by unfold maxLen; omega) (by omega) (by simp) ?_; intro v' w' hown hgrow hnil)
    all_goals (
      have HO : Hid (w'.ownsRow w.heap.size 100 2 v' n xs) := by have e := hown; rw [Nat.zero_add, List.nil_append] at e; exact e
      have HG : Hid _ := hgrow
      clear hown hgrow hnil
      go_wp2
      go_ret
      refine ⟨_, rfl, ?_, ?_⟩
      · exact HO.out
      · exact Below.grown (lb_alloc (Below.refl _ _) _) HG.out (by simp) (fun k e => by simp [Value.ownBlock] at e; omega))

theorem wVals_one (l : List Wd) : ∀ u ∈ wVals l, u.oneCell' = true := fun u hu => by
  simp only [wVals, List.mem_flatMap] at hu
  obtain ⟨x, -, hx⟩ := hu
  simp at hx
  rcases hx with rfl | rfl <;> rfl
theorem pVals_one (l : List (Int × Int)) : ∀ u ∈ pVals l, u.oneCell' = true := fun u hu => by
  simp only [pVals, List.mem_flatMap] at hu
  obtain ⟨x, -, hx⟩ := hu
  simp at hx
  rcases hx with rfl | rfl <;> rfl
section
variable {w : World} {base P : Nat} {s : Loc} {m : Mach}

set_option maxRecDepth 100000 in
set_option maxHeartbeats 1000000 in
theorem memory_yes (h : PAt w base P s m) (hm : Fine m) (_hn : m.steps ≤ 1048576) : Calls Tryz.prog 17 #[.pointer (some ⟨P, 0, none⟩)] w (Cl_w w m.mem.length (wVals m.mem)) := by
  have C1 := made_yes h hm
  have hml := hm.mlen
  have hpl := hm.ports
  obtain ⟨c0, c1, c34, c35, c36, c37, c38, c39⟩ := h.cells hm.sixteen
  have C2 := clone_w h.mem (wVals_one _) (by omega)
  clear h
  go_enter Tryz.func17, Tryz.ntmps17
  go_wp2_with (first
    | (go_at_call 29; refine C1.mono ?_; rintro e w1 ⟨rfl, hw1⟩; have hw1 := hw1.symm; subst hw1)
    | (go_at_call 39; refine C2.mono ?_; rintro e w1 ⟨v, rfl, hv⟩))
  go_ret
  exact ⟨_, rfl, hv⟩

set_option maxRecDepth 100000 in
set_option maxHeartbeats 1000000 in
theorem ports_yes (h : PAt w base P s m) (hm : Fine m) (hn : m.steps ≤ 1048576) : Calls Tryz.prog 19 #[.pointer (some ⟨P, 0, none⟩)] w (Cl_p w m.ports.length (pVals m.ports)) := by
  have C1 := made_yes h hm
  have hml := hm.mlen
  have hpl := hm.ports
  obtain ⟨c0, c1, c34, c35, c36, c37, c38, c39⟩ := h.cells hm.sixteen
  have C2 := clone_p h.ports (pVals_one _) (by omega)
  clear h
  go_enter Tryz.func19, Tryz.ntmps19
  go_wp2_with (first
    | (go_at_call 29; refine C1.mono ?_; rintro e w1 ⟨rfl, hw1⟩; have hw1 := hw1.symm; subst hw1)
    | (go_at_call 40; refine C2.mono ?_; rintro e w1 ⟨v, rfl, hv⟩))
  go_ret
  exact ⟨_, rfl, hv⟩
end

end Go.Proofs.YtdlcejpfjlpclaaGreatDoor
