/-
  Encode of the document's answer returns an instruction's word or the error, for every instruction; no condition. Decode of the document's answer returns the instruction that a word is, or none, for every word of 32 bits; no other condition. Ends, Falls, Target and Aim of the document's answer, for every word of 32 bits; no other condition.
-/
import Derived.Test.YtlnclldoodpcgaaProg
import Derived.Test.YtlnclldoodpcgaaPw03
import Derived.Laws.BitsAllLaws
import Derived.Deep.DeepCutAuto
import Derived.Test.YtlnclldoodpcgaaPw02
namespace Go.Proofs.Ytlnclldoodpcgaa
open Go.RowKit

theorem bel_alloc {w w1 : World} (h : Below w.heap.size w w1) (o : Obj) : Below w.heap.size w (w1.alloc o) := h.alloc h.size o
theorem bel_trans {w w1 w2 : World} (h : Below w.heap.size w w1) (k : Below w1.heap.size w1 w2) : Below w.heap.size w w2 := h.trans (k.mono h.size)
theorem cell_keep {w w1 : World} (h : Below w.heap.size w w1) {b o : Nat} {v : Value} (hc : w.cell? ⟨b, o, none⟩ = some v) : w1.cell? ⟨b, o, none⟩ = some v := by
  rw [h.cell (p := ⟨b, o, none⟩) (World.block_lt_of_cell? w _ hc)]; exact hc
theorem frozen_keep {w w1 : World} (h : Below w.heap.size w w1) {b o : Nat} {v : Value} (hc : w.cell? ⟨b, o, none⟩ = some v) (hf : w.frozen? ⟨b, o, none⟩ = false) : w1.frozen? ⟨b, o, none⟩ = false := by
  rw [h.frozen (p := ⟨b, o, none⟩) (World.block_lt_of_cell? w _ hc)]; exact hf

theorem reg_range {h : Bool} {r : Int} (hr : regOK h r = true) : 0 ≤ r ∧ r < 16 := by
  unfold regOK at hr
  cases h
  · simp at hr; omega
  · simp at hr; omega
theorem num_range {n p : Bool} {x : Int} (hr : numOK n p x = true) : -16384 ≤ x ∧ x ≤ 16383 := by
  unfold numOK at hr
  cases n
  · simp at hr; omega
  · cases p
    · simp at hr; omega
    · simp at hr; omega
theorem encE_no {op d a b n : Int} (h : ¬ (op < 0 ∨ 21 < op)) (hi : insOK op d a b n = false) : encV op d a b n = 0 ∧ encE op d a b n = 11 := by
  unfold encV encE; rw [if_neg h, if_neg h, hi]; exact ⟨rfl, rfl⟩
theorem encE_yes {op d a b n : Int} (h : ¬ (op < 0 ∨ 21 < op)) (hi : insOK op d a b n = true) : encV op d a b n = encW op d a b n ∧ encE op d a b n = 0 := by
  unfold encV encE; rw [if_neg h, if_neg h, hi]; exact ⟨rfl, rfl⟩
theorem ret2 {a b c d : Int} (h : a = b) (k : c = d) : Ending.returned (.tuple #[.int .u32 a, .int .i64 c]) = .returned (.tuple #[.int .u32 b, .int .i64 d]) := by rw [h, k]

set_option maxRecDepth 100000 in
set_option maxHeartbeats 1000000 in
theorem refencode_any (op d a b n : Int) (w : World) : Calls Try.prog 28 #[.agg #[.int .i8 op, .int .i8 d, .int .i8 a, .int .i8 b, .int .i64 n]] w fun e w' =>
    e = .returned (.tuple #[.int .u32 (encV op d a b n), .int .i64 (encE op d a b n)]) ∧ Below w.heap.size w w' := by
  by_cases h1 : op < 0
  · have e : encV op d a b n = 0 ∧ encE op d a b n = 10 := by unfold encV encE; rw [if_pos (Or.inl h1), if_pos (Or.inl h1)]; exact ⟨rfl, rfl⟩
    have HE : Hid (encV op d a b n = 0 ∧ encE op d a b n = 10) := e
    clear e
    go_enter Try.func28, Try.ntmps28
    go_wp2_with (first | (go_at_call 21; refine (refhas_any _ _).mono ?_; rintro e w' ⟨rfl, rfl⟩) | (go_at_call 36; refine (register_any _ _ _).mono ?_; rintro e w' ⟨rfl, rfl⟩) | (go_at_call 37; refine (number_any _ _ _ _ _ _ _).mono ?_; rintro e w' ⟨rfl, rfl⟩))
    go_ret2
    exact ⟨ret2 HE.out.1.symm HE.out.2.symm, by repeat (first | exact Below.refl _ _ | refine bel_alloc ?_ _)⟩
  by_cases h2 : 21 < op
  · have e : encV op d a b n = 0 ∧ encE op d a b n = 10 := by unfold encV encE; rw [if_pos (Or.inr h2), if_pos (Or.inr h2)]; exact ⟨rfl, rfl⟩
    have HE : Hid (encV op d a b n = 0 ∧ encE op d a b n = 10) := e
    clear e
    go_enter Try.func28, Try.ntmps28
    go_wp2_with (first | (go_at_call 21; refine (refhas_any _ _).mono ?_; rintro e w' ⟨rfl, rfl⟩) | (go_at_call 36; refine (register_any _ _ _).mono ?_; rintro e w' ⟨rfl, rfl⟩) | (go_at_call 37; refine (number_any _ _ _ _ _ _ _).mono ?_; rintro e w' ⟨rfl, rfl⟩))
    go_ret2
    exact ⟨ret2 HE.out.1.symm HE.out.2.symm, by repeat (first | exact Below.refl _ _ | refine bel_alloc ?_ _)⟩
  have h12 : ¬ (op < 0 ∨ 21 < op) := by omega
  cases hd : regOK (hD op) d with
  | false =>
    have HE : Hid (encV op d a b n = 0 ∧ encE op d a b n = 11) := encE_no h12 (by unfold insOK; simp [hd])
    clear h12
    go_enter Try.func28, Try.ntmps28
    go_wp2_with (first | (go_at_call 21; refine (refhas_any _ _).mono ?_; rintro e w' ⟨rfl, rfl⟩) | (go_at_call 36; refine (register_any _ _ _).mono ?_; rintro e w' ⟨rfl, rfl⟩) | (go_at_call 37; refine (number_any _ _ _ _ _ _ _).mono ?_; rintro e w' ⟨rfl, rfl⟩))
    go_ret2
    exact ⟨ret2 HE.out.1.symm HE.out.2.symm, by repeat (first | exact Below.refl _ _ | refine bel_alloc ?_ _)⟩
  | true =>
  cases ha : regOK (hA op) a with
  | false =>
    have HE : Hid (encV op d a b n = 0 ∧ encE op d a b n = 11) := encE_no h12 (by unfold insOK; simp [hd, ha])
    clear h12
    go_enter Try.func28, Try.ntmps28
    go_wp2_with (first | (go_at_call 21; refine (refhas_any _ _).mono ?_; rintro e w' ⟨rfl, rfl⟩) | (go_at_call 36; refine (register_any _ _ _).mono ?_; rintro e w' ⟨rfl, rfl⟩) | (go_at_call 37; refine (number_any _ _ _ _ _ _ _).mono ?_; rintro e w' ⟨rfl, rfl⟩))
    go_ret2
    exact ⟨ret2 HE.out.1.symm HE.out.2.symm, by repeat (first | exact Below.refl _ _ | refine bel_alloc ?_ _)⟩
  | true =>
  cases hb : regOK (hB op) b with
  | false =>
    have HE : Hid (encV op d a b n = 0 ∧ encE op d a b n = 11) := encE_no h12 (by unfold insOK; simp [hd, ha, hb])
    clear h12
    go_enter Try.func28, Try.ntmps28
    go_wp2_with (first | (go_at_call 21; refine (refhas_any _ _).mono ?_; rintro e w' ⟨rfl, rfl⟩) | (go_at_call 36; refine (register_any _ _ _).mono ?_; rintro e w' ⟨rfl, rfl⟩) | (go_at_call 37; refine (number_any _ _ _ _ _ _ _).mono ?_; rintro e w' ⟨rfl, rfl⟩))
    go_ret2
    exact ⟨ret2 HE.out.1.symm HE.out.2.symm, by repeat (first | exact Below.refl _ _ | refine bel_alloc ?_ _)⟩
  | true =>
  cases hn : numOK (hN op) (hP op) n with
  | false =>
    have HE : Hid (encV op d a b n = 0 ∧ encE op d a b n = 11) := encE_no h12 (by unfold insOK; simp [hd, ha, hb, hn])
    clear h12
    go_enter Try.func28, Try.ntmps28
    go_wp2_with (first | (go_at_call 21; refine (refhas_any _ _).mono ?_; rintro e w' ⟨rfl, rfl⟩) | (go_at_call 36; refine (register_any _ _ _).mono ?_; rintro e w' ⟨rfl, rfl⟩) | (go_at_call 37; refine (number_any _ _ _ _ _ _ _).mono ?_; rintro e w' ⟨rfl, rfl⟩))
    go_ret2
    exact ⟨ret2 HE.out.1.symm HE.out.2.symm, by repeat (first | exact Below.refl _ _ | refine bel_alloc ?_ _)⟩
  | true =>
  have HE : Hid (encV op d a b n = encW op d a b n ∧ encE op d a b n = 0) := encE_yes h12 (by unfold insOK; simp [hd, ha, hb, hn])
  obtain ⟨d1, d2⟩ := reg_range hd
  obtain ⟨a1, a2⟩ := reg_range ha
  obtain ⟨b1, b2⟩ := reg_range hb
  obtain ⟨n1, n2⟩ := num_range hn
  clear h12
  by_cases hs : n < 0
  · have HW : Hid (encW op d a b n = (((op * 16 + d) * 16 + a) * 16 + b) * 32768 + (n + 32768)) := by unfold Hid encW; omega
    go_enter Try.func28, Try.ntmps28
    go_wp2_with (first | (go_at_call 21; refine (refhas_any _ _).mono ?_; rintro e w' ⟨rfl, rfl⟩) | (go_at_call 36; refine (register_any _ _ _).mono ?_; rintro e w' ⟨rfl, rfl⟩) | (go_at_call 37; refine (number_any _ _ _ _ _ _ _).mono ?_; rintro e w' ⟨rfl, rfl⟩))
    go_ret2
    exact ⟨ret2 (by rw [HE.out.1, HW.out]) HE.out.2.symm, by repeat (first | exact Below.refl _ _ | refine bel_alloc ?_ _)⟩
  · have HW : Hid (encW op d a b n = (((op * 16 + d) * 16 + a) * 16 + b) * 32768 + n) := by unfold Hid encW; omega
    go_enter Try.func28, Try.ntmps28
    go_wp2_with (first | (go_at_call 21; refine (refhas_any _ _).mono ?_; rintro e w' ⟨rfl, rfl⟩) | (go_at_call 36; refine (register_any _ _ _).mono ?_; rintro e w' ⟨rfl, rfl⟩) | (go_at_call 37; refine (number_any _ _ _ _ _ _ _).mono ?_; rintro e w' ⟨rfl, rfl⟩))
    go_ret2
    exact ⟨ret2 (by rw [HE.out.1, HW.out]) HE.out.2.symm, by repeat (first | exact Below.refl _ _ | refine bel_alloc ?_ _)⟩






end Go.Proofs.Ytlnclldoodpcgaa

namespace Go.Proofs.Ytlnclldoodpcgaa
open Go.RowKit

theorem and15 (x : Int) (h0 : 0 ≤ x) (h1 : x < 4294967296) : bits .and .u32 x 15 = x % 16 := by
  rw [u32_and x 15 h0 h1 (by omega) (by omega)]
  have e : x.toNat &&& (15 : Int).toNat = x.toNat % 16 := Nat.and_two_pow_sub_one_eq_mod x.toNat 4
  rw [e]; omega
theorem and32767 (x : Int) (h0 : 0 ≤ x) (h1 : x < 4294967296) : bits .and .u32 x 32767 = x % 32768 := by
  rw [u32_and x 32767 h0 h1 (by omega) (by omega)]
  have e : x.toNat &&& (32767 : Int).toNat = x.toNat % 32768 := Nat.and_two_pow_sub_one_eq_mod x.toNat 15
  rw [e]; omega
theorem dec_yes {v : Int} (h : isIns v = true) : Ending.returned (.agg #[.int .i8 (v / 134217728), .int .i8 (v / 8388608 % 16), .int .i8 (v / 524288 % 16), .int .i8 (v / 32768 % 16), .int .i64 (wN v)]) = .returned (.agg #[.int .i8 (dOp v), .int .i8 (dD v), .int .i8 (dA v), .int .i8 (dB v), .int .i64 (dN v)]) := by
  unfold dOp dD dA dB dN; rw [h]; rfl
theorem dec_no {v : Int} (h : isIns v = false) : Ending.returned (.agg #[.int .i8 (-1), .int .i8 0, .int .i8 0, .int .i8 0, .int .i64 v]) = .returned (.agg #[.int .i8 (dOp v), .int .i8 (dD v), .int .i8 (dA v), .int .i8 (dB v), .int .i64 (dN v)]) := by
  unfold dOp dD dA dB dN; rw [h]; rfl

set_option maxRecDepth 100000 in
set_option maxHeartbeats 1000000 in
theorem refdecode_any (v : Int) (h0 : 0 ≤ v) (h1 : v < 4294967296) (w : World) : Calls Try.prog 20 #[.int .u32 v] w fun e w' =>
    e = .returned (.agg #[.int .i8 (dOp v), .int .i8 (dD v), .int .i8 (dA v), .int .i8 (dB v), .int .i64 (dN v)]) ∧ Below w.heap.size w w' := by
  have a1 := and15 (v / 8388608) (by omega) (by omega)
  have a2 := and15 (v / 524288) (by omega) (by omega)
  have a3 := and15 (v / 32768) (by omega) (by omega)
  have a4 := and32767 v h0 h1
  go_enter Try.func20, Try.ntmps20
  go_wp2_with fail
  refine (refhas_any _ _).mono ?_
  rintro e w' ⟨rfl, rfl⟩
  clear a1 a2 a3 a4
  go_upto_region 3 with fail
  go_cut [40] (fun t wx => t = .bool (nNeg v) ∧ wx = ((((w.alloc (.cells #[.int .i8 0, .int .i8 0, .int .i8 0, .int .i8 0, .int .i64 0] 37)).alloc (.cells #[.int .i8 (v / 134217728), .int .i8 (v / 8388608 % 16), .int .i8 (v / 524288 % 16), .int .i8 (v / 32768 % 16), .int .i64 (v % 32768)] 37)).alloc (.cells #[.bool (hD (v / 134217728)), .bool (hA (v / 134217728)), .bool (hB (v / 134217728)), .bool (hN (v / 134217728)), .bool (hP (v / 134217728))] 40)).alloc (.cells #[.bool (hD (v / 134217728)), .bool (hA (v / 134217728)), .bool (hB (v / 134217728)), .bool (hN (v / 134217728)), .bool (hP (v / 134217728))] 40)))
  case first =>
    cases hn : hN (v / 134217728)
    · go_wp2
      go_meet
      case rel => exact ⟨by unfold nNeg; rw [hn]; rfl, by simp only [hn]⟩
    · cases hp : hP (v / 134217728)
      · go_wp2
        go_meet
        case rel => exact ⟨by unfold nNeg; rw [hn, hp]; simp, by simp only [hn, hp]⟩
      · go_wp2
        go_meet
        case rel => exact ⟨by unfold nNeg; rw [hn, hp]; simp, by simp only [hn, hp]⟩
  case rest =>
    obtain ⟨rfl, rfl⟩ := hcut
    go_upto_if 40 with fail
    go_cut [] (fun wx => wx = ((((w.alloc (.cells #[.int .i8 0, .int .i8 0, .int .i8 0, .int .i8 0, .int .i64 0] 37)).alloc (.cells #[.int .i8 (v / 134217728), .int .i8 (v / 8388608 % 16), .int .i8 (v / 524288 % 16), .int .i8 (v / 32768 % 16), .int .i64 (wN v)] 37)).alloc (.cells #[.bool (hD (v / 134217728)), .bool (hA (v / 134217728)), .bool (hB (v / 134217728)), .bool (hN (v / 134217728)), .bool (hP (v / 134217728))] 40)).alloc (.cells #[.bool (hD (v / 134217728)), .bool (hA (v / 134217728)), .bool (hB (v / 134217728)), .bool (hN (v / 134217728)), .bool (hP (v / 134217728))] 40)))
    case first =>
      cases hq : nNeg v
      · have e := wN_pos hq
        have HE : Hid (wN v = v % 32768) := e
        clear e
        go_wp2
        go_meet
        case rel => rw [HE.out]
      · have e := wN_neg hq
        have HE : Hid (wN v = v % 32768 - 32768) := e
        clear e
        go_wp2
        go_meet
        case rel => rw [HE.out]
    case rest =>
      subst hcut
      cases hI : isIns v with
      | true =>
        have CE : ∀ wx : World, Calls Try.prog 28 #[.agg #[.int .i8 (v / 134217728), .int .i8 (v / 8388608 % 16), .int .i8 (v / 524288 % 16), .int .i8 (v / 32768 % 16), .int .i64 (wN v)]] wx fun e w' => e = .returned (.tuple #[.int .u32 v, .int .i64 0]) ∧ Below wx.heap.size wx w' := fun wx => by
          have h := refencode_any (wOp v) (wD v) (wA v) (wB v) (wN v) wx
          rw [(enc_yes h0 h1 hI).1, (enc_yes h0 h1 hI).2] at h
          exact h
        have HI : Hid (isIns v = true) := hI
        clear hI
        go_wp2_with fail
        refine (CE _).mono ?_
        rintro e w2 ⟨rfl, hb2⟩
        clear CE
        have z0 : w2.cell? ⟨w.heap.size, 0, none⟩ = some (.int .i8 0) := cell_keep hb2 (by simp [go_sem])
        have y0 : w2.frozen? ⟨w.heap.size, 0, none⟩ = false := frozen_keep hb2 (v := .int .i8 0) (by simp [go_sem]) (by simp [go_sem])
        have x0 : w2.cell? ⟨w.heap.size + 1, 0, none⟩ = some (.int .i8 (v / 134217728)) := cell_keep hb2 (by simp [go_sem])
        have z1 : w2.cell? ⟨w.heap.size, 1, none⟩ = some (.int .i8 0) := cell_keep hb2 (by simp [go_sem])
        have y1 : w2.frozen? ⟨w.heap.size, 1, none⟩ = false := frozen_keep hb2 (v := .int .i8 0) (by simp [go_sem]) (by simp [go_sem])
        have x1 : w2.cell? ⟨w.heap.size + 1, 1, none⟩ = some (.int .i8 (v / 8388608 % 16)) := cell_keep hb2 (by simp [go_sem])
        have z2 : w2.cell? ⟨w.heap.size, 2, none⟩ = some (.int .i8 0) := cell_keep hb2 (by simp [go_sem])
        have y2 : w2.frozen? ⟨w.heap.size, 2, none⟩ = false := frozen_keep hb2 (v := .int .i8 0) (by simp [go_sem]) (by simp [go_sem])
        have x2 : w2.cell? ⟨w.heap.size + 1, 2, none⟩ = some (.int .i8 (v / 524288 % 16)) := cell_keep hb2 (by simp [go_sem])
        have z3 : w2.cell? ⟨w.heap.size, 3, none⟩ = some (.int .i8 0) := cell_keep hb2 (by simp [go_sem])
        have y3 : w2.frozen? ⟨w.heap.size, 3, none⟩ = false := frozen_keep hb2 (v := .int .i8 0) (by simp [go_sem]) (by simp [go_sem])
        have x3 : w2.cell? ⟨w.heap.size + 1, 3, none⟩ = some (.int .i8 (v / 32768 % 16)) := cell_keep hb2 (by simp [go_sem])
        have z4 : w2.cell? ⟨w.heap.size, 4, none⟩ = some (.int .i64 0) := cell_keep hb2 (by simp [go_sem])
        have y4 : w2.frozen? ⟨w.heap.size, 4, none⟩ = false := frozen_keep hb2 (v := .int .i64 0) (by simp [go_sem]) (by simp [go_sem])
        have x4 : w2.cell? ⟨w.heap.size + 1, 4, none⟩ = some (.int .i64 (wN v)) := cell_keep hb2 (by simp [go_sem])
        have HB2 : Hid (Below w.heap.size w w2) := bel_trans (bel_alloc (bel_alloc (bel_alloc (bel_alloc (Below.refl _ _) _) _) _) _) hb2
        clear hb2
        go_wp2
        exact bodyPost_ret (v := .agg #[.int .i8 (v / 134217728), .int .i8 (v / 8388608 % 16), .int .i8 (v / 524288 % 16), .int .i8 (v / 32768 % 16), .int .i64 (wN v)]) (by simp [results, Try.results20, go_sem, z0, z1, z2, z3, z4]) rfl ⟨dec_yes HI.out, ((((HB2.out.setCell (Nat.le_refl _) _).setCell (Nat.le_refl _) _).setCell (Nat.le_refl _) _).setCell (Nat.le_refl _) _).setCell (Nat.le_refl _) _⟩
      | false =>
        have HI : Hid (isIns v = false) := hI
        obtain ⟨E, hE, CE⟩ : ∃ E : Int, (E == 0) = false ∧ ∀ wx : World, Calls Try.prog 28 #[.agg #[.int .i8 (v / 134217728), .int .i8 (v / 8388608 % 16), .int .i8 (v / 524288 % 16), .int .i8 (v / 32768 % 16), .int .i64 (wN v)]] wx fun e w' => e = .returned (.tuple #[.int .u32 0, .int .i64 E]) ∧ Below wx.heap.size wx w' := by
          obtain ⟨e1, e2⟩ := enc_no h0 hI
          refine ⟨encE (wOp v) (wD v) (wA v) (wB v) (wN v), by rcases e2 with e2 | e2 <;> (rw [e2]; rfl), fun wx => ?_⟩
          have h := refencode_any (wOp v) (wD v) (wA v) (wB v) (wN v) wx
          rw [e1] at h
          exact h
        clear hI
        go_wp2_with fail
        refine (CE _).mono ?_
        rintro e w2 ⟨rfl, hb2⟩
        clear CE
        have z0 : w2.cell? ⟨w.heap.size, 0, none⟩ = some (.int .i8 0) := cell_keep hb2 (by simp [go_sem])
        have y0 : w2.frozen? ⟨w.heap.size, 0, none⟩ = false := frozen_keep hb2 (v := .int .i8 0) (by simp [go_sem]) (by simp [go_sem])
        have x0 : w2.cell? ⟨w.heap.size + 1, 0, none⟩ = some (.int .i8 (v / 134217728)) := cell_keep hb2 (by simp [go_sem])
        have z1 : w2.cell? ⟨w.heap.size, 1, none⟩ = some (.int .i8 0) := cell_keep hb2 (by simp [go_sem])
        have y1 : w2.frozen? ⟨w.heap.size, 1, none⟩ = false := frozen_keep hb2 (v := .int .i8 0) (by simp [go_sem]) (by simp [go_sem])
        have x1 : w2.cell? ⟨w.heap.size + 1, 1, none⟩ = some (.int .i8 (v / 8388608 % 16)) := cell_keep hb2 (by simp [go_sem])
        have z2 : w2.cell? ⟨w.heap.size, 2, none⟩ = some (.int .i8 0) := cell_keep hb2 (by simp [go_sem])
        have y2 : w2.frozen? ⟨w.heap.size, 2, none⟩ = false := frozen_keep hb2 (v := .int .i8 0) (by simp [go_sem]) (by simp [go_sem])
        have x2 : w2.cell? ⟨w.heap.size + 1, 2, none⟩ = some (.int .i8 (v / 524288 % 16)) := cell_keep hb2 (by simp [go_sem])
        have z3 : w2.cell? ⟨w.heap.size, 3, none⟩ = some (.int .i8 0) := cell_keep hb2 (by simp [go_sem])
        have y3 : w2.frozen? ⟨w.heap.size, 3, none⟩ = false := frozen_keep hb2 (v := .int .i8 0) (by simp [go_sem]) (by simp [go_sem])
        have x3 : w2.cell? ⟨w.heap.size + 1, 3, none⟩ = some (.int .i8 (v / 32768 % 16)) := cell_keep hb2 (by simp [go_sem])
        have z4 : w2.cell? ⟨w.heap.size, 4, none⟩ = some (.int .i64 0) := cell_keep hb2 (by simp [go_sem])
        have y4 : w2.frozen? ⟨w.heap.size, 4, none⟩ = false := frozen_keep hb2 (v := .int .i64 0) (by simp [go_sem]) (by simp [go_sem])
        have x4 : w2.cell? ⟨w.heap.size + 1, 4, none⟩ = some (.int .i64 (wN v)) := cell_keep hb2 (by simp [go_sem])
        have HB2 : Hid (Below w.heap.size w w2) := bel_trans (bel_alloc (bel_alloc (bel_alloc (bel_alloc (Below.refl _ _) _) _) _) _) hb2
        clear hb2
        go_wp2
        exact bodyPost_ret (v := .agg #[.int .i8 (-1), .int .i8 0, .int .i8 0, .int .i8 0, .int .i64 v]) (by simp [results, Try.results20, go_sem, z0, z1, z2, z3, z4]) rfl ⟨dec_no HI.out, ((((HB2.out.setCell (Nat.le_refl _) _).setCell (Nat.le_refl _) _).setCell (Nat.le_refl _) _).setCell (Nat.le_refl _) _).setCell (Nat.le_refl _) _⟩






end Go.Proofs.Ytlnclldoodpcgaa

namespace Go.Proofs.Ytlnclldoodpcgaa
open Go.RowKit

@[go_sem] theorem field_ins0 (x d a b n : Int) (w : World) : (Instr.field 37 (.agg #[.int .i8 x, .int .i8 d, .int .i8 a, .int .i8 b, .int .i64 n]) 0).run Try.prog w = .ok (.int .i8 x) w := by kernel_rfl
@[go_sem] theorem field_has4 (x d a b n : Bool) (w : World) : (Instr.field 40 (.agg #[.bool x, .bool d, .bool a, .bool b, .bool n]) 4).run Try.prog w = .ok (.bool n) w := by kernel_rfl


end Go.Proofs.Ytlnclldoodpcgaa
