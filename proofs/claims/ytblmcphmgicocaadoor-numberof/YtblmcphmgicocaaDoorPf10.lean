/-
  Decode of the document's answer returns the instruction that a word is, or none, for every word of 32 bits; no other condition. Ends, Falls, Target and Aim of the document's answer, for every word of 32 bits; no other condition. Worlds that part in one block alone; no Go in sight.
-/
import Derived.Test.YtblmcphmgicocaaDoorProg
import Derived.Laws.BitsAllLaws
import Derived.Deep.DeepCutAuto
import Derived.Test.YtblmcphmgicocaaDoorPf02
import Derived.Test.YtblmcphmgicocaaDoorPf09
import Derived.Test.YtblmcphmgicocaaDoorPf05
import Derived.Test.YtblmcphmgicocaaDoorPf01
namespace Go.Proofs.YtblmcphmgicocaaDoor
open Go.RowKit

theorem and15 (x : Int) (h0 : 0 ≤ x) (h1 : x < 4294967296) : bits .and .u32 x 15 = x % 16 := by
  rw [u32_and x 15 h0 h1 (by omega) (by omega)]
  have e : x.toNat &&& (15 : Int).toNat = x.toNat % 16 := Nat.and_two_pow_sub_one_eq_mod x.toNat 4
  rw [e]; omega
theorem and32767 (x : Int) (h0 : 0 ≤ x) (h1 : x < 4294967296) : bits .and .u32 x 32767 = x % 32768 := by
  rw [u32_and x 32767 h0 h1 (by omega) (by omega)]
  have e : x.toNat &&& (32767 : Int).toNat = x.toNat % 32768 := Nat.and_two_pow_sub_one_eq_mod x.toNat 15
  rw [e]; omega
theorem dec_yes {v : Int} (h : isIns v = true) : Ending.returned (.agg #[.int .i8 (v / 134217728), .int .i8 (v / 8388608 % 16), .int .i8 (v / 524288 % 16), .int .i8 (v / 32768 % 16), .int .i64 (wN v)]) = .returned (.agg #[.int .i8 (dOp v), .int .i8 (dD v), .int .i8 (dA v), .int .i8 (dB v), .int .i64 (dN v)]) := by
  unfold dOp dD dA dB dN; rw [h]; rfl
theorem dec_no {v : Int} (h : isIns v = false) : Ending.returned (.agg #[.int .i8 (-1), .int .i8 0, .int .i8 0, .int .i8 0, .int .i64 v]) = .returned (.agg #[.int .i8 (dOp v), .int .i8 (dD v), .int .i8 (dA v), .int .i8 (dB v), .int .i64 (dN v)]) := by
  unfold dOp dD dA dB dN; rw [h]; rfl

set_option maxRecDepth 100000 in
set_option maxHeartbeats 1000000 in
theorem refdecode_any (v : Int) (h0 : 0 ≤ v) (h1 : v < 4294967296) (w : World) : Calls Tryd.prog 53 #[.int .u32 v] w fun e w' =>
    e = .returned (.agg #[.int .i8 (dOp v), .int .i8 (dD v), .int .i8 (dA v), .int .i8 (dB v), .int .i64 (dN v)]) ∧ Below w.heap.size w w' := by
  have a1 := and15 (v / 8388608) (by omega) (by omega)
  have a2 := and15 (v / 524288) (by omega) (by omega)
  have a3 := and15 (v / 32768) (by omega) (by omega)
  have a4 := and32767 v h0 h1
  go_enter Tryd.func53, Tryd.ntmps53
  go_wp2_with fail
  refine (refhas_any _ _).mono ?_
  rintro e w' ⟨rfl, rfl⟩
  clear a1 a2 a3 a4
  go_upto_region 3 with fail
  go_cut [40] (fun t wx => t = .bool (nNeg v) ∧ wx = ((((w.alloc (.cells #[.int .i8 0, .int .i8 0, .int .i8 0, .int .i8 0, .int .i64 0] 85)).alloc (.cells #[.int .i8 (v / 134217728), .int .i8 (v / 8388608 % 16), .int .i8 (v / 524288 % 16), .int .i8 (v / 32768 % 16), .int .i64 (v % 32768)] 85)).alloc (.cells #[.bool (hD (v / 134217728)), .bool (hA (v / 134217728)), .bool (hB (v / 134217728)), .bool (hN (v / 134217728)), .bool (hP (v / 134217728))] 124)).alloc (.cells #[.bool (hD (v / 134217728)), .bool (hA (v / 134217728)), .bool (hB (v / 134217728)), .bool (hN (v / 134217728)), .bool (hP (v / 134217728))] 124)))
  case first =>
    cases hn : hN (v / 134217728)
    · go_wp2
      go_meet
      case rel => exact ⟨by unfold nNeg; rw [hn]; rfl, by simp only [hn]⟩
    · cases hp : hP (v / 134217728)
      · go_wp2
        go_meet
        case rel => exact ⟨by unfold nNeg; rw [hn, hp]; simp, by simp only [hn, hp]⟩
      · go_wp2
        go_meet
        case rel => exact ⟨by unfold nNeg; rw [hn, hp]; simp, by simp only [hn, hp]⟩
  case rest =>
    obtain ⟨rfl, rfl⟩ := hcut
    go_upto_if 40 with fail
    go_cut [] (fun wx => wx = ((((w.alloc (.cells #[.int .i8 0, .int .i8 0, .int .i8 0, .int .i8 0, .int .i64 0] 85)).alloc (.cells #[.int .i8 (v / 134217728), .int .i8 (v / 8388608 % 16), .int .i8 (v / 524288 % 16), .int .i8 (v / 32768 % 16), .int .i64 (wN v)] 85)).alloc (.cells #[.bool (hD (v / 134217728)), .bool (hA (v / 134217728)), .bool (hB (v / 134217728)), .bool (hN (v / 134217728)), .bool (hP (v / 134217728))] 124)).alloc (.cells #[.bool (hD (v / 134217728)), .bool (hA (v / 134217728)), .bool (hB (v / 134217728)), .bool (hN (v / 134217728)), .bool (hP (v / 134217728))] 124)))
    case first =>
      cases hq : nNeg v
      · have e := wN_pos hq
        have HE : Hid (wN v = v % 32768) := e
        clear e
        go_wp2
        go_meet
        case rel => rw [HE.out]
      · have e := wN_neg hq
        have HE : Hid (wN v = v % 32768 - 32768) := e
        clear e
        go_wp2
        go_meet
        case rel => rw [HE.out]
    case rest =>
      subst hcut
      cases hI : isIns v with
      | true =>
        have CE : ∀ wx : World, Calls Tryd.prog 61 #[.agg #[.int .i8 (v / 134217728), .int .i8 (v / 8388608 % 16), .int .i8 (v / 524288 % 16), .int .i8 (v / 32768 % 16), .int .i64 (wN v)]] wx fun e w' => e = .returned (.tuple #[.int .u32 v, .int .i64 0]) ∧ Below wx.heap.size wx w' := fun wx => by
          have h := refencode_any (wOp v) (wD v) (wA v) (wB v) (wN v) wx
          rw [(enc_yes h0 h1 hI).1, (enc_yes h0 h1 hI).2] at h
          exact h
        have HI : Hid (isIns v = true) := hI
        clear hI
        go_wp2_with fail
        refine (CE _).mono ?_
        rintro e w2 ⟨rfl, hb2⟩
        clear CE
        have z0 : w2.cell? ⟨w.heap.size, 0, none⟩ = some (.int .i8 0) := cell_keep hb2 (by simp [go_sem])
        have y0 : w2.frozen? ⟨w.heap.size, 0, none⟩ = false := frozen_keep hb2 (v := .int .i8 0) (by simp [go_sem]) (by simp [go_sem])
        have x0 : w2.cell? ⟨w.heap.size + 1, 0, none⟩ = some (.int .i8 (v / 134217728)) := cell_keep hb2 (by simp [go_sem])
        have z1 : w2.cell? ⟨w.heap.size, 1, none⟩ = some (.int .i8 0) := cell_keep hb2 (by simp [go_sem])
        have y1 : w2.frozen? ⟨w.heap.size, 1, none⟩ = false := frozen_keep hb2 (v := .int .i8 0) (by simp [go_sem]) (by simp [go_sem])
        have x1 : w2.cell? ⟨w.heap.size + 1, 1, none⟩ = some (.int .i8 (v / 8388608 % 16)) := cell_keep hb2 (by simp [go_sem])
        have z2 : w2.cell? ⟨w.heap.size, 2, none⟩ = some (.int .i8 0) := cell_keep hb2 (by simp [go_sem])
        have y2 : w2.frozen? ⟨w.heap.size, 2, none⟩ = false := frozen_keep hb2 (v := .int .i8 0) (by simp [go_sem]) (by simp [go_sem])
        have x2 : w2.cell? ⟨w.heap.size + 1, 2, none⟩ = some (.int .i8 (v / 524288 % 16)) := cell_keep hb2 (by simp [go_sem])
        have z3 : w2.cell? ⟨w.heap.size, 3, none⟩ = some (.int .i8 0) := cell_keep hb2 (by simp [go_sem])
        have y3 : w2.frozen? ⟨w.heap.size, 3, none⟩ = false := frozen_keep hb2 (v := .int .i8 0) (by simp [go_sem]) (by simp [go_sem])
        have x3 : w2.cell? ⟨w.heap.size + 1, 3, none⟩ = some (.int .i8 (v / 32768 % 16)) := cell_keep hb2 (by simp [go_sem])
        have z4 : w2.cell? ⟨w.heap.size, 4, none⟩ = some (.int .i64 0) := cell_keep hb2 (by simp [go_sem])
        have y4 : w2.frozen? ⟨w.heap.size, 4, none⟩ = false := frozen_keep hb2 (v := .int .i64 0) (by simp [go_sem]) (by simp [go_sem])
        have x4 : w2.cell? ⟨w.heap.size + 1, 4, none⟩ = some (.int .i64 (wN v)) := cell_keep hb2 (by simp [go_sem])
        have HB2 : Hid (Below w.heap.size w w2) := bel_trans (bel_alloc (bel_alloc (bel_alloc (bel_alloc (Below.refl _ _) _) _) _) _) hb2
        clear hb2
        go_wp2
        exact bodyPost_ret (v := .agg #[.int .i8 (v / 134217728), .int .i8 (v / 8388608 % 16), .int .i8 (v / 524288 % 16), .int .i8 (v / 32768 % 16), .int .i64 (wN v)]) (by simp [results, Tryd.results53, go_sem, z0, z1, z2, z3, z4]) rfl ⟨dec_yes HI.out, ((((HB2.out.setCell (Nat.le_refl _) _).setCell (Nat.le_refl _) _).setCell (Nat.le_refl _) _).setCell (Nat.le_refl _) _).setCell (Nat.le_refl _) _⟩
      | false =>
        have HI : Hid (isIns v = false) := hI
        obtain ⟨E, hE, CE⟩ : ∃ E : Int, (E == 0) = false ∧ ∀ wx : World, Calls Tryd.prog 61 #[.agg #[.int .i8 (v / 134217728), .int .i8 (v / 8388608 % 16), .int .i8 (v / 524288 % 16), .int .i8 (v / 32768 % 16), .int .i64 (wN v)]] wx fun e w' => e = .returned (.tuple #[.int .u32 0, .int .i64 E]) ∧ Below wx.heap.size wx w' := by
          obtain ⟨e1, e2⟩ := enc_no h0 hI
          refine ⟨encE (wOp v) (wD v) (wA v) (wB v) (wN v), by rcases e2 with e2 | e2 <;> (rw [e2]; rfl), fun wx => ?_⟩
          have h := refencode_any (wOp v) (wD v) (wA v) (wB v) (wN v) wx
          rw [e1] at h
          exact h
        clear hI
        go_wp2_with fail
        refine (CE _).mono ?_
        rintro e w2 ⟨rfl, hb2⟩
        clear CE
        have z0 : w2.cell? ⟨w.heap.size, 0, none⟩ = some (.int .i8 0) := cell_keep hb2 (by simp [go_sem])
        have y0 : w2.frozen? ⟨w.heap.size, 0, none⟩ = false := frozen_keep hb2 (v := .int .i8 0) (by simp [go_sem]) (by simp [go_sem])
        have x0 : w2.cell? ⟨w.heap.size + 1, 0, none⟩ = some (.int .i8 (v / 134217728)) := cell_keep hb2 (by simp [go_sem])
        have z1 : w2.cell? ⟨w.heap.size, 1, none⟩ = some (.int .i8 0) := cell_keep hb2 (by simp [go_sem])
        have y1 : w2.frozen? ⟨w.heap.size, 1, none⟩ = false := frozen_keep hb2 (v := .int .i8 0) (by simp [go_sem]) (by simp [go_sem])
        have x1 : w2.cell? ⟨w.heap.size + 1, 1, none⟩ = some (.int .i8 (v / 8388608 % 16)) := cell_keep hb2 (by simp [go_sem])
        have z2 : w2.cell? ⟨w.heap.size, 2, none⟩ = some (.int .i8 0) := cell_keep hb2 (by simp [go_sem])
        have y2 : w2.frozen? ⟨w.heap.size, 2, none⟩ = false := frozen_keep hb2 (v := .int .i8 0) (by simp [go_sem]) (by simp [go_sem])
        have x2 : w2.cell? ⟨w.heap.size + 1, 2, none⟩ = some (.int .i8 (v / 524288 % 16)) := cell_keep hb2 (by simp [go_sem])
        have z3 : w2.cell? ⟨w.heap.size, 3, none⟩ = some (.int .i8 0) := cell_keep hb2 (by simp [go_sem])
        have y3 : w2.frozen? ⟨w.heap.size, 3, none⟩ = false := frozen_keep hb2 (v := .int .i8 0) (by simp [go_sem]) (by simp [go_sem])
        have x3 : w2.cell? ⟨w.heap.size + 1, 3, none⟩ = some (.int .i8 (v / 32768 % 16)) := cell_keep hb2 (by simp [go_sem])
        have z4 : w2.cell? ⟨w.heap.size, 4, none⟩ = some (.int .i64 0) := cell_keep hb2 (by simp [go_sem])
        have y4 : w2.frozen? ⟨w.heap.size, 4, none⟩ = false := frozen_keep hb2 (v := .int .i64 0) (by simp [go_sem]) (by simp [go_sem])
        have x4 : w2.cell? ⟨w.heap.size + 1, 4, none⟩ = some (.int .i64 (wN v)) := cell_keep hb2 (by simp [go_sem])
        have HB2 : Hid (Below w.heap.size w w2) := bel_trans (bel_alloc (bel_alloc (bel_alloc (bel_alloc (Below.refl _ _) _) _) _) _) hb2
        clear hb2
        go_wp2
        exact bodyPost_ret (v := .agg #[.int .i8 (-1), .int .i8 0, .int .i8 0, .int .i8 0, .int .i64 v]) (by simp [results, Tryd.results53, go_sem, z0, z1, z2, z3, z4]) rfl ⟨dec_no HI.out, ((((HB2.out.setCell (Nat.le_refl _) _).setCell (Nat.le_refl _) _).setCell (Nat.le_refl _) _).setCell (Nat.le_refl _) _).setCell (Nat.le_refl _) _⟩








end Go.Proofs.YtblmcphmgicocaaDoor

namespace Go.Proofs.YtblmcphmgicocaaDoor
open Go.RowKit

@[go_sem] theorem field_ins0 (x d a b n : Int) (w : World) : (Instr.field 85 (.agg #[.int .i8 x, .int .i8 d, .int .i8 a, .int .i8 b, .int .i64 n]) 0).run Tryd.prog w = .ok (.int .i8 x) w := by kernel_rfl
@[go_sem] theorem field_has4 (x d a b n : Bool) (w : World) : (Instr.field 124 (.agg #[.bool x, .bool d, .bool a, .bool b, .bool n]) 4).run Tryd.prog w = .ok (.bool n) w := by kernel_rfl
theorem reftarget_any (v : Int) (h0 : 0 ≤ v) (h1 : v < 4294967296) (w : World) : Calls Tryd.prog 52 #[.int .u32 v] w fun e w' => e = .returned (.tuple #[.int .i64 (tgV v), .bool (isT v)]) ∧ Below w.heap.size w w' := by
  have CE : ∀ wx : World, Calls Tryd.prog 53 #[.int .u32 v] wx fun e w' => e = .returned (.agg #[.int .i8 (dOp v), .int .i8 (dD v), .int .i8 (dA v), .int .i8 (dB v), .int .i64 (dN v)]) ∧ Below wx.heap.size wx w' := fun wx => refdecode_any v h0 h1 wx
  unfold tgV isT
  generalize dOp v = x at CE ⊢
  generalize dN v = n at CE ⊢
  by_cases hx : x < 0
  · have e : decide (0 ≤ x) = false := decide_eq_false (by omega)
    rw [e]
    go_enter Tryd.func52, Tryd.ntmps52
    go_wp2_with (go_at_call 53; refine (CE _).mono ?_; rintro e w1 ⟨rfl, hb⟩)
    go_ret2
    exact ⟨rfl, bel_alloc hb _⟩
  · have e : decide (0 ≤ x) = true := decide_eq_true (by omega)
    rw [e]
    clear e
    cases hp : hP x
    · go_enter Tryd.func52, Tryd.ntmps52
      go_wp2_with (first | (go_at_call 53; refine (CE _).mono ?_; rintro e w1 ⟨rfl, hb⟩) | (go_at_call 60; refine (refhas_any _ _).mono ?_; rintro e w2 ⟨rfl, rfl⟩))
      go_ret2
      exact ⟨rfl, bel_alloc (bel_alloc hb _) _⟩
    · go_enter Tryd.func52, Tryd.ntmps52
      go_wp2_with (first | (go_at_call 53; refine (CE _).mono ?_; rintro e w1 ⟨rfl, hb⟩) | (go_at_call 60; refine (refhas_any _ _).mono ?_; rintro e w2 ⟨rfl, rfl⟩))
      go_ret2
      exact ⟨rfl, bel_alloc (bel_alloc hb _) _⟩








end Go.Proofs.YtblmcphmgicocaaDoor

namespace Go.Proofs.YtblmcphmgicocaaDoor
open Go.RowKit

/-- Nothing is other but what lies in block g, and new blocks. -/
def But (g : Nat) (w w' : World) : Prop := w'.os = w.os ∧ w'.tape = w.tape ∧ w'.output = w.output ∧ w.heap.size ≤ w'.heap.size ∧ ∀ k, k < w.heap.size → k ≠ g → w'.heap[k]? = w.heap[k]?
theorem But.refl (g : Nat) (w : World) : But g w w := ⟨rfl, rfl, rfl, Nat.le_refl _, fun _ _ _ => rfl⟩
theorem But.trans {g : Nat} {a b c : World} (h : But g a b) (k : But g b c) : But g a c :=
  ⟨k.1.trans h.1, k.2.1.trans h.2.1, k.2.2.1.trans h.2.2.1, Nat.le_trans h.2.2.2.1 k.2.2.2.1, fun i hi hn => (k.2.2.2.2 i (Nat.lt_of_lt_of_le hi h.2.2.2.1) hn).trans (h.2.2.2.2 i hi hn)⟩
theorem But.of {g : Nat} {w w' : World} (h : Below w.heap.size w w') : But g w w' := ⟨h.os, h.tape, h.output, h.size, fun k hk _ => h.block k hk⟩
theorem But.on {g : Nat} {a b c : World} (h : But g a b) (k : Below b.heap.size b c) : But g a c := h.trans (But.of k)
theorem But.set {g : Nat} {a b : World} (h : But g a b) (i : Nat) (v : Value) : But g a (b.setCell ⟨g, i, none⟩ v) :=
  h.trans ⟨rfl, rfl, rfl, Nat.le_of_eq (by simp [go_sem]), fun k _ hn => Below.heap_setCell _ _ _ _ hn⟩
theorem But.drewN {g : Nat} {a b : World} (h : But g a b) (n : Nat) : But g a (b.drewN n) := h
theorem But.cell {g : Nat} {w w' : World} (h : But g w w') {p : Addr} {v : Value} (hp : p.block ≠ g) (hc : w.cell? p = some v) : w'.cell? p = some v := by
  rw [World.cell?_of_block (w := w) (h.2.2.2.2 p.block (World.block_lt_of_cell? w _ hc) hp)]; exact hc
theorem But.below {g : Nat} {w0 w w' : World} (h : But g w w') (hb : Below w0.heap.size w0 w) (hg : w0.heap.size ≤ g) : Below w0.heap.size w0 w' :=
  ⟨h.1.trans hb.os, h.2.1.trans hb.tape, h.2.2.1.trans hb.output, Nat.le_trans hb.size h.2.2.2.1, fun k hk => (h.2.2.2.2 k (Nat.lt_of_lt_of_le hk hb.size) (by omega)).trans (hb.block k hk)⟩









end Go.Proofs.YtblmcphmgicocaaDoor
