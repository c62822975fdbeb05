/-
  Decode of the document's answer returns the instruction that a word is, or none, for every word of 32 bits; no other condition. Encode of package isa, for every instruction whose op is an int8's number.
-/
import Derived.Test.YtfaekkbblpfbhaaDoorIt11
import Derived.Test.YtfaekkbblpfbhaaDoorIt13
import Derived.Laws.BitsAllLaws
import Derived.Deep.DeepCutAuto
import Derived.Test.YtfaekkbblpfbhaaDoorIt12
import Derived.Deep.RegionHeld3
namespace Go.Proofs.YtfaekkbblpfbhaaDoor
open Go.RowKit

theorem and15 (x : Int) (h0 : 0 ≤ x) (h1 : x < 4294967296) : bits .and .u32 x 15 = x % 16 := by
  rw [u32_and x 15 h0 h1 (by omega) (by omega)]
  have e : x.toNat &&& (15 : Int).toNat = x.toNat % 16 := Nat.and_two_pow_sub_one_eq_mod x.toNat 4
  rw [e]; omega
theorem and32767 (x : Int) (h0 : 0 ≤ x) (h1 : x < 4294967296) : bits .and .u32 x 32767 = x % 32768 := by
  rw [u32_and x 32767 h0 h1 (by omega) (by omega)]
  have e : x.toNat &&& (32767 : Int).toNat = x.toNat % 32768 := Nat.and_two_pow_sub_one_eq_mod x.toNat 15
  rw [e]; omega
theorem dec_yes {v : Int} (h : isIns v = true) : Ending.returned (.agg #[.int .i8 (v / 134217728), .int .i8 (v / 8388608 % 16), .int .i8 (v / 524288 % 16), .int .i8 (v / 32768 % 16), .int .i64 (wN v)]) = .returned (.agg #[.int .i8 (dOp v), .int .i8 (dD v), .int .i8 (dA v), .int .i8 (dB v), .int .i64 (dN v)]) := by
  unfold dOp dD dA dB dN; rw [h]; rfl
theorem dec_no {v : Int} (h : isIns v = false) : Ending.returned (.agg #[.int .i8 (-1), .int .i8 0, .int .i8 0, .int .i8 0, .int .i64 v]) = .returned (.agg #[.int .i8 (dOp v), .int .i8 (dD v), .int .i8 (dA v), .int .i8 (dB v), .int .i64 (dN v)]) := by
  unfold dOp dD dA dB dN; rw [h]; rfl

set_option maxRecDepth 100000 in
set_option maxHeartbeats 1000000 in
theorem refdecode_any (v : Int) (h0 : 0 ≤ v) (h1 : v < 4294967296) (w : World) : Calls Tryd.prog 34 #[.int .u32 v] w fun e w' =>
    e = .returned (.agg #[.int .i8 (dOp v), .int .i8 (dD v), .int .i8 (dA v), .int .i8 (dB v), .int .i64 (dN v)]) ∧ Below w.heap.size w w' := by
  have a1 := and15 (v / 8388608) (by omega) (by omega)
  have a2 := and15 (v / 524288) (by omega) (by omega)
  have a3 := and15 (v / 32768) (by omega) (by omega)
  have a4 := and32767 v h0 h1
  go_enter Tryd.func34, Tryd.ntmps34
  go_wp2_with fail
  refine (refhas_any _ _).mono ?_
  rintro e w' ⟨rfl, rfl⟩
  clear a1 a2 a3 a4
  go_upto_region 3 with fail
  go_cut [40] (fun t wx => t = .bool (nNeg v) ∧ wx = ((((w.alloc (.cells #[.int .i8 0, .int .i8 0, .int .i8 0, .int .i8 0, .int .i64 0] 70)).alloc (.cells #[.int .i8 (v / 134217728), .int .i8 (v / 8388608 % 16), .int .i8 (v / 524288 % 16), .int .i8 (v / 32768 % 16), .int .i64 (v % 32768)] 70)).alloc (.cells #[.bool (hD (v / 134217728)), .bool (hA (v / 134217728)), .bool (hB (v / 134217728)), .bool (hN (v / 134217728)), .bool (hP (v / 134217728))] 105)).alloc (.cells #[.bool (hD (v / 134217728)), .bool (hA (v / 134217728)), .bool (hB (v / 134217728)), .bool (hN (v / 134217728)), .bool (hP (v / 134217728))] 105)))
  case first =>
    cases hn : hN (v / 134217728)
    · go_wp2
      go_meet
      case rel => exact ⟨by unfold nNeg; rw [hn]; rfl, by simp only [hn]⟩
    · cases hp : hP (v / 134217728)
      · go_wp2
        go_meet
        case rel => exact ⟨by unfold nNeg; rw [hn, hp]; simp, by simp only [hn, hp]⟩
      · go_wp2
        go_meet
        case rel => exact ⟨by unfold nNeg; rw [hn, hp]; simp, by simp only [hn, hp]⟩
  case rest =>
    obtain ⟨rfl, rfl⟩ := hcut
    go_upto_if 40 with fail
    go_cut [] (fun wx => wx = ((((w.alloc (.cells #[.int .i8 0, .int .i8 0, .int .i8 0, .int .i8 0, .int .i64 0] 70)).alloc (.cells #[.int .i8 (v / 134217728), .int .i8 (v / 8388608 % 16), .int .i8 (v / 524288 % 16), .int .i8 (v / 32768 % 16), .int .i64 (wN v)] 70)).alloc (.cells #[.bool (hD (v / 134217728)), .bool (hA (v / 134217728)), .bool (hB (v / 134217728)), .bool (hN (v / 134217728)), .bool (hP (v / 134217728))] 105)).alloc (.cells #[.bool (hD (v / 134217728)), .bool (hA (v / 134217728)), .bool (hB (v / 134217728)), .bool (hN (v / 134217728)), .bool (hP (v / 134217728))] 105)))
    case first =>
      cases hq : nNeg v
      · have e := wN_pos hq
        have HE : Hid (wN v = v % 32768) := e
        clear e
        go_wp2
        go_meet
        case rel => rw [HE.out]
      · have e := wN_neg hq
        have HE : Hid (wN v = v % 32768 - 32768) := e
        clear e
        go_wp2
        go_meet
        case rel => rw [HE.out]
    case rest =>
      subst hcut
      cases hI : isIns v with
      | true =>
        have CE : ∀ wx : World, Calls Tryd.prog 74 #[.agg #[.int .i8 (v / 134217728), .int .i8 (v / 8388608 % 16), .int .i8 (v / 524288 % 16), .int .i8 (v / 32768 % 16), .int .i64 (wN v)]] wx fun e w' => e = .returned (.tuple #[.int .u32 v, .int .i64 0]) ∧ Below wx.heap.size wx w' := fun wx => by
          have h := refencode_any (wOp v) (wD v) (wA v) (wB v) (wN v) wx
          rw [(enc_yes h0 h1 hI).1, (enc_yes h0 h1 hI).2] at h
          exact h
        have HI : Hid (isIns v = true) := hI
        clear hI
        go_wp2_with fail
        refine (CE _).mono ?_
        rintro e w2 ⟨rfl, hb2⟩
        clear CE
        have z0 : w2.cell? ⟨w.heap.size, 0, none⟩ = some (.int .i8 0) := cell_keep hb2 (by simp [go_sem])
        have y0 : w2.frozen? ⟨w.heap.size, 0, none⟩ = false := frozen_keep hb2 (v := .int .i8 0) (by simp [go_sem]) (by simp [go_sem])
        have x0 : w2.cell? ⟨w.heap.size + 1, 0, none⟩ = some (.int .i8 (v / 134217728)) := cell_keep hb2 (by simp [go_sem])
        have z1 : w2.cell? ⟨w.heap.size, 1, none⟩ = some (.int .i8 0) := cell_keep hb2 (by simp [go_sem])
        have y1 : w2.frozen? ⟨w.heap.size, 1, none⟩ = false := frozen_keep hb2 (v := .int .i8 0) (by simp [go_sem]) (by simp [go_sem])
        have x1 : w2.cell? ⟨w.heap.size + 1, 1, none⟩ = some (.int .i8 (v / 8388608 % 16)) := cell_keep hb2 (by simp [go_sem])
        have z2 : w2.cell? ⟨w.heap.size, 2, none⟩ = some (.int .i8 0) := cell_keep hb2 (by simp [go_sem])
        have y2 : w2.frozen? ⟨w.heap.size, 2, none⟩ = false := frozen_keep hb2 (v := .int .i8 0) (by simp [go_sem]) (by simp [go_sem])
        have x2 : w2.cell? ⟨w.heap.size + 1, 2, none⟩ = some (.int .i8 (v / 524288 % 16)) := cell_keep hb2 (by simp [go_sem])
        have z3 : w2.cell? ⟨w.heap.size, 3, none⟩ = some (.int .i8 0) := cell_keep hb2 (by simp [go_sem])
        have y3 : w2.frozen? ⟨w.heap.size, 3, none⟩ = false := frozen_keep hb2 (v := .int .i8 0) (by simp [go_sem]) (by simp [go_sem])
        have x3 : w2.cell? ⟨w.heap.size + 1, 3, none⟩ = some (.int .i8 (v / 32768 % 16)) := cell_keep hb2 (by simp [go_sem])
        have z4 : w2.cell? ⟨w.heap.size, 4, none⟩ = some (.int .i64 0) := cell_keep hb2 (by simp [go_sem])
        have y4 : w2.frozen? ⟨w.heap.size, 4, none⟩ = false := frozen_keep hb2 (v := .int .i64 0) (by simp [go_sem]) (by simp [go_sem])
        have x4 : w2.cell? ⟨w.heap.size + 1, 4, none⟩ = some (.int .i64 (wN v)) := cell_keep hb2 (by simp [go_sem])
        have HB2 : Hid (Below w.heap.size w w2) := bel_trans (bel_alloc (bel_alloc (bel_alloc (bel_alloc (Below.refl _ _) _) _) _) _) hb2
        clear hb2
        go_wp2
        exact bodyPost_ret (v := .agg #[.int .i8 (v / 134217728), .int .i8 (v / 8388608 % 16), .int .i8 (v / 524288 % 16), .int .i8 (v / 32768 % 16), .int .i64 (wN v)]) (by simp [results, Tryd.results34, go_sem, z0, z1, z2, z3, z4]) rfl ⟨dec_yes HI.out, ((((HB2.out.setCell (Nat.le_refl _) _).setCell (Nat.le_refl _) _).setCell (Nat.le_refl _) _).setCell (Nat.le_refl _) _).setCell (Nat.le_refl _) _⟩
      | false =>
        have HI : Hid (isIns v = false) := hI
        obtain ⟨E, hE, CE⟩ : ∃ E : Int, (E == 0) = false ∧ ∀ wx : World, Calls Tryd.prog 74 #[.agg #[.int .i8 (v / 134217728), .int .i8 (v / 8388608 % 16), .int .i8 (v / 524288 % 16), .int .i8 (v / 32768 % 16), .int .i64 (wN v)]] wx fun e w' => e = .returned (.tuple #[.int .u32 0, .int .i64 E]) ∧ Below wx.heap.size wx w' := by
          obtain ⟨e1, e2⟩ := enc_no h0 hI
          refine ⟨encE (wOp v) (wD v) (wA v) (wB v) (wN v), by rcases e2 with e2 | e2 <;> (rw [e2]; rfl), fun wx => ?_⟩
          have h := refencode_any (wOp v) (wD v) (wA v) (wB v) (wN v) wx
          rw [e1] at h
          exact h
        clear hI
        go_wp2_with fail
        refine (CE _).mono ?_
        rintro e w2 ⟨rfl, hb2⟩
        clear CE
        have z0 : w2.cell? ⟨w.heap.size, 0, none⟩ = some (.int .i8 0) := cell_keep hb2 (by simp [go_sem])
        have y0 : w2.frozen? ⟨w.heap.size, 0, none⟩ = false := frozen_keep hb2 (v := .int .i8 0) (by simp [go_sem]) (by simp [go_sem])
        have x0 : w2.cell? ⟨w.heap.size + 1, 0, none⟩ = some (.int .i8 (v / 134217728)) := cell_keep hb2 (by simp [go_sem])
        have z1 : w2.cell? ⟨w.heap.size, 1, none⟩ = some (.int .i8 0) := cell_keep hb2 (by simp [go_sem])
        have y1 : w2.frozen? ⟨w.heap.size, 1, none⟩ = false := frozen_keep hb2 (v := .int .i8 0) (by simp [go_sem]) (by simp [go_sem])
        have x1 : w2.cell? ⟨w.heap.size + 1, 1, none⟩ = some (.int .i8 (v / 8388608 % 16)) := cell_keep hb2 (by simp [go_sem])
        have z2 : w2.cell? ⟨w.heap.size, 2, none⟩ = some (.int .i8 0) := cell_keep hb2 (by simp [go_sem])
        have y2 : w2.frozen? ⟨w.heap.size, 2, none⟩ = false := frozen_keep hb2 (v := .int .i8 0) (by simp [go_sem]) (by simp [go_sem])
        have x2 : w2.cell? ⟨w.heap.size + 1, 2, none⟩ = some (.int .i8 (v / 524288 % 16)) := cell_keep hb2 (by simp [go_sem])
        have z3 : w2.cell? ⟨w.heap.size, 3, none⟩ = some (.int .i8 0) := cell_keep hb2 (by simp [go_sem])
        have y3 : w2.frozen? ⟨w.heap.size, 3, none⟩ = false := frozen_keep hb2 (v := .int .i8 0) (by simp [go_sem]) (by simp [go_sem])
        have x3 : w2.cell? ⟨w.heap.size + 1, 3, none⟩ = some (.int .i8 (v / 32768 % 16)) := cell_keep hb2 (by simp [go_sem])
        have z4 : w2.cell? ⟨w.heap.size, 4, none⟩ = some (.int .i64 0) := cell_keep hb2 (by simp [go_sem])
        have y4 : w2.frozen? ⟨w.heap.size, 4, none⟩ = false := frozen_keep hb2 (v := .int .i64 0) (by simp [go_sem]) (by simp [go_sem])
        have x4 : w2.cell? ⟨w.heap.size + 1, 4, none⟩ = some (.int .i64 (wN v)) := cell_keep hb2 (by simp [go_sem])
        have HB2 : Hid (Below w.heap.size w w2) := bel_trans (bel_alloc (bel_alloc (bel_alloc (bel_alloc (Below.refl _ _) _) _) _) _) hb2
        clear hb2
        go_wp2
        exact bodyPost_ret (v := .agg #[.int .i8 (-1), .int .i8 0, .int .i8 0, .int .i8 0, .int .i64 v]) (by simp [results, Tryd.results34, go_sem, z0, z1, z2, z3, z4]) rfl ⟨dec_no HI.out, ((((HB2.out.setCell (Nat.le_refl _) _).setCell (Nat.le_refl _) _).setCell (Nat.le_refl _) _).setCell (Nat.le_refl _) _).setCell (Nat.le_refl _) _⟩


end Go.Proofs.YtfaekkbblpfbhaaDoor

namespace Go.Proofs.YtfaekkbblpfbhaaDoor
open Go.RowKit

set_option maxRecDepth 100000 in
set_option maxHeartbeats 1000000 in
theorem encOut (op d a b n : Int) (h8 : op ≤ 127) (hr : ¬ (0 ≤ op ∧ op ≤ 21)) (w : World) : Calls Tryd.prog 71 #[.agg #[.int .i8 op, .int .i8 d, .int .i8 a, .int .i8 b, .int .i64 n]] w fun e w' => e = .returned (.tuple #[.int .u32 (encV op d a b n), .int .i64 (encE op d a b n)]) ∧ Below w.heap.size w w' := by
  have CK := known_any op h8
  rw [decide_eq_false hr] at CK
  have hq : op < 0 ∨ 21 < op := by omega
  have HE : Hid (encV op d a b n = 0 ∧ encE op d a b n = 10) := by unfold Hid encV encE; rw [if_pos hq, if_pos hq]; exact ⟨rfl, rfl⟩
  go_enter Tryd.func71, Tryd.ntmps71
  go_wp2_with fail
  refine (CK _).mono ?_
  rintro e w1 ⟨rfl, rfl⟩
  go_wp2
  go_ret2
  exact ⟨ret2 HE.out.1.symm HE.out.2.symm, bel_alloc (Below.refl _ _) _⟩

set_option maxRecDepth 100000 in
set_option maxHeartbeats 1000000 in
theorem encNo (op d a b n : Int) (h0 : 0 ≤ op) (h1 : op ≤ 21) (hi : insOK op d a b n = false) (w : World) : Calls Tryd.prog 71 #[.agg #[.int .i8 op, .int .i8 d, .int .i8 a, .int .i8 b, .int .i64 n]] w fun e w' => e = .returned (.tuple #[.int .u32 (encV op d a b n), .int .i64 (encE op d a b n)]) ∧ Below w.heap.size w w' := by
    have CK := known_any op (by omega)
    rw [decide_eq_true ⟨h0, h1⟩] at CK
    have HE : Hid (encV op d a b n = 0 ∧ encE op d a b n = 11) := encE_no (by omega) hi
    have CA : ∀ wx : World, Calls Tryd.prog 88 #[.int .u8 (sh op), .agg #[.int .i8 op, .int .i8 d, .int .i8 a, .int .i8 b, .int .i64 n]] wx fun e w' => e = .returned (.bool false) ∧ Below wx.heap.size wx w' := fun wx => (allow_any op op d a b n h0 h1 wx).mono fun e w' ⟨h, k⟩ => ⟨by rw [h, hi], by rw [k]; exact bel_alloc (Below.refl _ _) _⟩
    have hX := index_sh op h0 h1
    clear hi
    go_enter Tryd.func71, Tryd.ntmps71
    go_wp2_with fail
    refine (CK _).mono ?_
    rintro e w1 ⟨rfl, hw⟩
    have c0 : w1.cell? ⟨w.heap.size, 0, none⟩ = some (.int .i8 op) := by rw [hw]; simp [go_sem]
    have c1 : w1.cell? ⟨w.heap.size, 1, none⟩ = some (.int .i8 d) := by rw [hw]; simp [go_sem]
    have c2 : w1.cell? ⟨w.heap.size, 2, none⟩ = some (.int .i8 a) := by rw [hw]; simp [go_sem]
    have c3 : w1.cell? ⟨w.heap.size, 3, none⟩ = some (.int .i8 b) := by rw [hw]; simp [go_sem]
    have c4 : w1.cell? ⟨w.heap.size, 4, none⟩ = some (.int .i64 n) := by rw [hw]; simp [go_sem]
    have B1 : Below w.heap.size w w1.drew := by rw [hw]; exact (bel_alloc (Below.refl _ _) _).drew
    clear hw CK
    go_wp2_with fail
    go_region_held3 (fun W => W.cell? ⟨w.heap.size, 0, none⟩ = some (.int .i8 op) ∧ W.cell? ⟨w.heap.size, 1, none⟩ = some (.int .i8 d) ∧ W.cell? ⟨w.heap.size, 2, none⟩ = some (.int .i8 a) ∧ W.cell? ⟨w.heap.size, 3, none⟩ = some (.int .i8 b) ∧ W.cell? ⟨w.heap.size, 4, none⟩ = some (.int .i64 n) ∧ Below w.heap.size w W) (first | (refine ⟨cell_keep hb ?_, cell_keep hb ?_, cell_keep hb ?_, cell_keep hb ?_, cell_keep hb ?_, bel_trans ?_ hb⟩ <;> (simp [*]; done)) | (simp [*]; done))
      (first
        | (go_at_call 86; refine (shapes_any _).mono ?_; rintro e w4 ⟨rfl, hb⟩)
        | (go_at_call 88; refine (CA _).mono ?_; rintro e w4 ⟨rfl, hb⟩))
    rename_i hS
    obtain ⟨s0, s1, s2, s3, s4, sB⟩ := hS
    have HB : Hid (Below w.heap.size w _) := sB
    clear sB CA hX c0 c1 c2 c3 c4 B1
    go_wp2
    go_ret2
    exact ⟨ret2 HE.out.1.symm HE.out.2.symm, HB.out⟩

set_option maxRecDepth 100000 in
set_option maxHeartbeats 1000000 in
theorem encYes (op d a b n : Int) (h0 : 0 ≤ op) (h1 : op ≤ 21) (hi : insOK op d a b n = true) (w : World) : Calls Tryd.prog 71 #[.agg #[.int .i8 op, .int .i8 d, .int .i8 a, .int .i8 b, .int .i64 n]] w fun e w' => e = .returned (.tuple #[.int .u32 (encV op d a b n), .int .i64 (encE op d a b n)]) ∧ Below w.heap.size w w' := by
    have CK := known_any op (by omega)
    rw [decide_eq_true ⟨h0, h1⟩] at CK
    have HE : Hid (encV op d a b n = encW op d a b n ∧ encE op d a b n = 0) := encE_yes (by omega) hi
    have CA : ∀ wx : World, Calls Tryd.prog 88 #[.int .u8 (sh op), .agg #[.int .i8 op, .int .i8 d, .int .i8 a, .int .i8 b, .int .i64 n]] wx fun e w' => e = .returned (.bool true) ∧ Below wx.heap.size wx w' := fun wx => (allow_any op op d a b n h0 h1 wx).mono fun e w' ⟨h, k⟩ => ⟨by rw [h, hi], by rw [k]; exact bel_alloc (Below.refl _ _) _⟩
    have hX := index_sh op h0 h1
    unfold insOK at hi
    simp only [Bool.and_eq_true] at hi
    obtain ⟨d1, d2⟩ := reg_range hi.1.1.1
    obtain ⟨a1, a2⟩ := reg_range hi.1.1.2
    obtain ⟨b1, b2⟩ := reg_range hi.1.2
    obtain ⟨n1, n2⟩ := num_range hi.2
    clear hi
    have o1 := or_add (op * 134217728) (d * 8388608) op 27 (by omega) (by omega) (by omega) (by omega) (by omega)
    have o2 := or_add (op * 134217728 + d * 8388608) (a * 524288) (op * 16 + d) 23 (by omega) (by omega) (by omega) (by omega) (by omega)
    have o3 := or_add (op * 134217728 + d * 8388608 + a * 524288) (b * 32768) ((op * 16 + d) * 16 + a) 19 (by omega) (by omega) (by omega) (by omega) (by omega)
    have o5 : bits .and .u32 (n % 4294967296) 32767 = n % 32768 := by rw [and32767 _ (by omega) (by omega)]; omega
    have o4 := or_add (op * 134217728 + d * 8388608 + a * 524288 + b * 32768) (n % 32768) (((op * 16 + d) * 16 + a) * 16 + b) 15 (by omega) (by omega) (by omega) (by omega) (by omega)
    go_enter Tryd.func71, Tryd.ntmps71
    go_wp2_with fail
    refine (CK _).mono ?_
    rintro e w1 ⟨rfl, hw⟩
    have c0 : w1.cell? ⟨w.heap.size, 0, none⟩ = some (.int .i8 op) := by rw [hw]; simp [go_sem]
    have c1 : w1.cell? ⟨w.heap.size, 1, none⟩ = some (.int .i8 d) := by rw [hw]; simp [go_sem]
    have c2 : w1.cell? ⟨w.heap.size, 2, none⟩ = some (.int .i8 a) := by rw [hw]; simp [go_sem]
    have c3 : w1.cell? ⟨w.heap.size, 3, none⟩ = some (.int .i8 b) := by rw [hw]; simp [go_sem]
    have c4 : w1.cell? ⟨w.heap.size, 4, none⟩ = some (.int .i64 n) := by rw [hw]; simp [go_sem]
    have B1 : Below w.heap.size w w1.drew := by rw [hw]; exact (bel_alloc (Below.refl _ _) _).drew
    clear hw CK
    go_wp2_with fail
    go_region_held3 (fun W => W.cell? ⟨w.heap.size, 0, none⟩ = some (.int .i8 op) ∧ W.cell? ⟨w.heap.size, 1, none⟩ = some (.int .i8 d) ∧ W.cell? ⟨w.heap.size, 2, none⟩ = some (.int .i8 a) ∧ W.cell? ⟨w.heap.size, 3, none⟩ = some (.int .i8 b) ∧ W.cell? ⟨w.heap.size, 4, none⟩ = some (.int .i64 n) ∧ Below w.heap.size w W) (first | (refine ⟨cell_keep hb ?_, cell_keep hb ?_, cell_keep hb ?_, cell_keep hb ?_, cell_keep hb ?_, bel_trans ?_ hb⟩ <;> (simp [*]; done)) | (simp [*]; done))
      (first
        | (go_at_call 86; refine (shapes_any _).mono ?_; rintro e w4 ⟨rfl, hb⟩)
        | (go_at_call 88; refine (CA _).mono ?_; rintro e w4 ⟨rfl, hb⟩))
    rename_i hS
    obtain ⟨s0, s1, s2, s3, s4, sB⟩ := hS
    have HB : Hid (Below w.heap.size w _) := sB
    clear sB CA hX c0 c1 c2 c3 c4 B1
    go_wp2
    go_ret2
    exact ⟨ret2 (by rw [HE.out.1]; rfl) HE.out.2.symm, HB.out⟩

theorem isaencode_any (op d a b n : Int) (h8 : op ≤ 127) (w : World) : Calls Tryd.prog 71 #[.agg #[.int .i8 op, .int .i8 d, .int .i8 a, .int .i8 b, .int .i64 n]] w fun e w' => e = .returned (.tuple #[.int .u32 (encV op d a b n), .int .i64 (encE op d a b n)]) ∧ Below w.heap.size w w' := by
  by_cases hr : 0 ≤ op ∧ op ≤ 21
  · cases hi : insOK op d a b n
    · exact encNo op d a b n hr.1 hr.2 hi w
    · exact encYes op d a b n hr.1 hr.2 hi w
  · exact encOut op d a b n h8 hr w


end Go.Proofs.YtfaekkbblpfbhaaDoor
