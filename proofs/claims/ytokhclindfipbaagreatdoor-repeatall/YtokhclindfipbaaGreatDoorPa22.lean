/-
  Encode of the document's answer returns an instruction's word or the error, for every instruction; no condition.
-/
import Derived.Test.YtokhclindfipbaaGreatDoorProg
import Derived.Test.YtokhclindfipbaaGreatDoorPa20
import Derived.Test.YtokhclindfipbaaGreatDoorPa21
namespace Go.Proofs.YtokhclindfipbaaGreatDoor
open Go.RowKit

theorem bel_alloc {w w1 : World} (h : Below w.heap.size w w1) (o : Obj) : Below w.heap.size w (w1.alloc o) := h.alloc h.size o
theorem bel_trans {w w1 w2 : World} (h : Below w.heap.size w w1) (k : Below w1.heap.size w1 w2) : Below w.heap.size w w2 := h.trans (k.mono h.size)
theorem cell_keep {w w1 : World} (h : Below w.heap.size w w1) {b o : Nat} {v : Value} (hc : w.cell? ⟨b, o, none⟩ = some v) : w1.cell? ⟨b, o, none⟩ = some v := by
  rw [h.cell (p := ⟨b, o, none⟩) (World.block_lt_of_cell? w _ hc)]; exact hc
theorem frozen_keep {w w1 : World} (h : Below w.heap.size w w1) {b o : Nat} {v : Value} (hc : w.cell? ⟨b, o, none⟩ = some v) (hf : w.frozen? ⟨b, o, none⟩ = false) : w1.frozen? ⟨b, o, none⟩ = false := by
  rw [h.frozen (p := ⟨b, o, none⟩) (World.block_lt_of_cell? w _ hc)]; exact hf

theorem reg_range {h : Bool} {r : Int} (hr : regOK h r = true) : 0 ≤ r ∧ r < 16 := by
  unfold regOK at hr
  cases h
  · simp at hr; omega
  · simp at hr; omega
theorem num_range {n p : Bool} {x : Int} (hr : numOK n p x = true) : -16384 ≤ x ∧ x ≤ 16383 := by
  unfold numOK at hr
  cases n
  · simp at hr; omega
  · cases p
    · simp at hr; omega
    · simp at hr; omega
theorem encE_no {op d a b n : Int} (h : ¬ (op < 0 ∨ 21 < op)) (hi : insOK op d a b n = false) : encV op d a b n = 0 ∧ encE op d a b n = 11 := by
  unfold encV encE; rw [if_neg h, if_neg h, hi]; exact ⟨rfl, rfl⟩
theorem encE_yes {op d a b n : Int} (h : ¬ (op < 0 ∨ 21 < op)) (hi : insOK op d a b n = true) : encV op d a b n = encW op d a b n ∧ encE op d a b n = 0 := by
  unfold encV encE; rw [if_neg h, if_neg h, hi]; exact ⟨rfl, rfl⟩
theorem ret2 {a b c d : Int} (h : a = b) (k : c = d) : Ending.returned (.tuple #[.int .u32 a, .int .i64 c]) = .returned (.tuple #[.int .u32 b, .int .i64 d]) := by rw [h, k]

set_option maxRecDepth 100000 in
set_option maxHeartbeats 1000000 in
theorem refencode_any (op d a b n : Int) (w : World) : Calls Tryz.prog 73 #[.agg #[.int .i8 op, .int .i8 d, .int .i8 a, .int .i8 b, .int .i64 n]] w fun e w' =>
    e = .returned (.tuple #[.int .u32 (encV op d a b n), .int .i64 (encE op d a b n)]) ∧ Below w.heap.size w w' := by
  by_cases h1 : op < 0
  · have e : encV op d a b n = 0 ∧ encE op d a b n = 10 := by unfold encV encE; rw [if_pos (Or.inl h1), if_pos (Or.inl h1)]; exact ⟨rfl, rfl⟩
    have HE : Hid (encV op d a b n = 0 ∧ encE op d a b n = 10) := e
    clear e
    go_enter Tryz.func73, Tryz.ntmps73
    go_wp2_with (first | (go_at_call 72; refine (refhas_any _ _).mono ?_; rintro e w' ⟨rfl, rfl⟩) | (go_at_call 96; refine (register_any _ _ _).mono ?_; rintro e w' ⟨rfl, rfl⟩) | (go_at_call 97; refine (number_any _ _ _ _ _ _ _).mono ?_; rintro e w' ⟨rfl, rfl⟩))
    go_ret2
    exact ⟨ret2 HE.out.1.symm HE.out.2.symm, by repeat (first | exact Below.refl _ _ | refine bel_alloc ?_ _)⟩
  by_cases h2 : 21 < op
  · have e : encV op d a b n = 0 ∧ encE op d a b n = 10 := by unfold encV encE; rw [if_pos (Or.inr h2), if_pos (Or.inr h2)]; exact ⟨rfl, rfl⟩
    have HE : Hid (encV op d a b n = 0 ∧ encE op d a b n = 10) := e
    clear e
    go_enter Tryz.func73, Tryz.ntmps73
    go_wp2_with (first | (go_at_call 72; refine (refhas_any _ _).mono ?_; rintro e w' ⟨rfl, rfl⟩) | (go_at_call 96; refine (register_any _ _ _).mono ?_; rintro e w' ⟨rfl, rfl⟩) | (go_at_call 97; refine (number_any _ _ _ _ _ _ _).mono ?_; rintro e w' ⟨rfl, rfl⟩))
    go_ret2
    exact ⟨ret2 HE.out.1.symm HE.out.2.symm, by repeat (first | exact Below.refl _ _ | refine bel_alloc ?_ _)⟩
  have h12 : ¬ (op < 0 ∨ 21 < op) := by omega
  cases hd : regOK (hD op) d with
  | false =>
    have HE : Hid (encV op d a b n = 0 ∧ encE op d a b n = 11) := encE_no h12 (by unfold insOK; simp [hd])
    clear h12
    go_enter Tryz.func73, Tryz.ntmps73
    go_wp2_with (first | (go_at_call 72; refine (refhas_any _ _).mono ?_; rintro e w' ⟨rfl, rfl⟩) | (go_at_call 96; refine (register_any _ _ _).mono ?_; rintro e w' ⟨rfl, rfl⟩) | (go_at_call 97; refine (number_any _ _ _ _ _ _ _).mono ?_; rintro e w' ⟨rfl, rfl⟩))
    go_ret2
    exact ⟨ret2 HE.out.1.symm HE.out.2.symm, by repeat (first | exact Below.refl _ _ | refine bel_alloc ?_ _)⟩
  | true =>
  cases ha : regOK (hA op) a with
  | false =>
    have HE : Hid (encV op d a b n = 0 ∧ encE op d a b n = 11) := encE_no h12 (by unfold insOK; simp [hd, ha])
    clear h12
    go_enter Tryz.func73, Tryz.ntmps73
    go_wp2_with (first | (go_at_call 72; refine (refhas_any _ _).mono ?_; rintro e w' ⟨rfl, rfl⟩) | (go_at_call 96; refine (register_any _ _ _).mono ?_; rintro e w' ⟨rfl, rfl⟩) | (go_at_call 97; refine (number_any _ _ _ _ _ _ _).mono ?_; rintro e w' ⟨rfl, rfl⟩))
    go_ret2
    exact ⟨ret2 HE.out.1.symm HE.out.2.symm, by repeat (first | exact Below.refl _ _ | refine bel_alloc ?_ _)⟩
  | true =>
  cases hb : regOK (hB op) b with
  | false =>
    have HE : Hid (encV op d a b n = 0 ∧ encE op d a b n = 11) := encE_no h12 (by unfold insOK; simp [hd, ha, hb])
    clear h12
    go_enter Tryz.func73, Tryz.ntmps73
    go_wp2_with (first | (go_at_call 72; refine (refhas_any _ _).mono ?_; rintro e w' ⟨rfl, rfl⟩) | (go_at_call 96; refine (register_any _ _ _).mono ?_; rintro e w' ⟨rfl, rfl⟩) | (go_at_call 97; refine (number_any _ _ _ _ _ _ _).mono ?_; rintro e w' ⟨rfl, rfl⟩))
    go_ret2
    exact ⟨ret2 HE.out.1.symm HE.out.2.symm, by repeat (first | exact Below.refl _ _ | refine bel_alloc ?_ _)⟩
  | true =>
  cases hn : numOK (hN op) (hP op) n with
  | false =>
    have HE : Hid (encV op d a b n = 0 ∧ encE op d a b n = 11) := encE_no h12 (by unfold insOK; simp [hd, ha, hb, hn])
    clear h12
    go_enter Tryz.func73, Tryz.ntmps73
    go_wp2_with (first | (go_at_call 72; refine (refhas_any _ _).mono ?_; rintro e w' ⟨rfl, rfl⟩) | (go_at_call 96; refine (register_any _ _ _).mono ?_; rintro e w' ⟨rfl, rfl⟩) | (go_at_call 97; refine (number_any _ _ _ _ _ _ _).mono ?_; rintro e w' ⟨rfl, rfl⟩))
    go_ret2
    exact ⟨ret2 HE.out.1.symm HE.out.2.symm, by repeat (first | exact Below.refl _ _ | refine bel_alloc ?_ _)⟩
  | true =>
  have HE : Hid (encV op d a b n = encW op d a b n ∧ encE op d a b n = 0) := encE_yes h12 (by unfold insOK; simp [hd, ha, hb, hn])
  obtain ⟨d1, d2⟩ := reg_range hd
  obtain ⟨a1, a2⟩ := reg_range ha
  obtain ⟨b1, b2⟩ := reg_range hb
  obtain ⟨n1, n2⟩ := num_range hn
  clear h12
  by_cases hs : n < 0
  · have HW : Hid (encW op d a b n = (((op * 16 + d) * 16 + a) * 16 + b) * 32768 + (n + 32768)) := by unfold Hid encW; omega
    go_enter Tryz.func73, Tryz.ntmps73
    go_wp2_with (first | (go_at_call 72; refine (refhas_any _ _).mono ?_; rintro e w' ⟨rfl, rfl⟩) | (go_at_call 96; refine (register_any _ _ _).mono ?_; rintro e w' ⟨rfl, rfl⟩) | (go_at_call 97; refine (number_any _ _ _ _ _ _ _).mono ?_; rintro e w' ⟨rfl, rfl⟩))
    go_ret2
    exact ⟨ret2 (by rw [HE.out.1, HW.out]) HE.out.2.symm, by repeat (first | exact Below.refl _ _ | refine bel_alloc ?_ _)⟩
  · have HW : Hid (encW op d a b n = (((op * 16 + d) * 16 + a) * 16 + b) * 32768 + n) := by unfold Hid encW; omega
    go_enter Tryz.func73, Tryz.ntmps73
    go_wp2_with (first | (go_at_call 72; refine (refhas_any _ _).mono ?_; rintro e w' ⟨rfl, rfl⟩) | (go_at_call 96; refine (register_any _ _ _).mono ?_; rintro e w' ⟨rfl, rfl⟩) | (go_at_call 97; refine (number_any _ _ _ _ _ _ _).mono ?_; rintro e w' ⟨rfl, rfl⟩))
    go_ret2
    exact ⟨ret2 (by rw [HE.out.1, HW.out]) HE.out.2.symm, by repeat (first | exact Below.refl _ _ | refine bel_alloc ?_ _)⟩









end Go.Proofs.YtokhclindfipbaaGreatDoor
