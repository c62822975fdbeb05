/-
  The law LiveDead returns true.
-/
import Derived.Test.YtfnicgihpelhhaaGreatProg
import Derived.WalkKit
import Derived.WalkSpells
import Derived.WalkLawsBesides
import Derived.RowKit3
import Derived.Below
import Derived.Deep.QuietTactic
import Derived.BigQuiet
import Derived.WalkSmall
import Derived.Laws.Rows
import Derived.Test.YtfnicgihpelhhaaGreatPd22
import Derived.Test.YtfnicgihpelhhaaGreatPd32
import Derived.Test.YtfnicgihpelhhaaGreatPd33
import Derived.Test.YtfnicgihpelhhaaGreatPd07
import Derived.Test.YtfnicgihpelhhaaGreatPd17
import Derived.Test.YtfnicgihpelhhaaGreatPd04
namespace Go.Proofs.YtfnicgihpelhhaaGreat
open Go.RowKit

theorem bitI {h : Nat} (hh : h < 65536) (r : Nat) : (bits .and .u16 ((h : Int) / 2 ^ r) 1 == 1) = h.testBit r := by
  have e : ((h : Int) / 2 ^ r) = ((h / 2 ^ r : Nat) : Int) := by push_cast; rfl
  have hb : h / 2 ^ r < 65536 := Nat.lt_of_le_of_lt (Nat.div_le_self _ _) hh
  rw [e, Nat.testBit_eq_decide_div_mod_eq]
  generalize h / 2 ^ r = x at hb
  rw [u16_and _ _ (by omega) (by omega) (by omega) (by omega), Bool.eq_iff_iff, beq_iff_eq, decide_eq_true_eq]
  simp only [Int.toNat_natCast, Int.toNat_one, Nat.and_one_is_mod]
  omega
theorem cell_setN2 {X : World} {g p : Nat} {u v : Value} {a : Addr} (h : X.cell? a = some v) (hne : a.block ≠ g) : (X.setCell ⟨g, p, none⟩ u).cell? a = some v := by
  rw [World.cell?_of_block (Below.heap_setCell _ _ _ _ hne)]; exact h
theorem newE_big {text tape mem : List Int} {ent : Int} (hM : MayI text mem.length ent) (h : 4096 < tape.length) : newE text tape mem ent = 21 := by
  unfold newE
  rw [may_zero hM, if_pos rfl, if_pos h]
theorem newE_ok {text tape mem : List Int} {ent : Int} (hM : MayI text mem.length ent) (h : ¬ 4096 < tape.length) : newE text tape mem ent = 0 := by
  unfold newE
  rw [may_zero hM, if_pos rfl, if_neg h]
theorem new_er {w w' : World} {text tape mem : List Int} {ent E : Int} {e : Ending} (hE : newE text tape mem ent = E) (hne : E ≠ 0) (h : NewP w text tape mem ent e w') : e = .returned (.tuple #[.pointer none, .int .i64 E]) ∧ Below w.heap.size w w' := by
  obtain ⟨hb, h | h⟩ := h
  · exact ⟨by rw [h.2, hE], hb⟩
  · exact absurd (hE.symm.trans h.1) hne
theorem new_ok {w w' : World} {text tape mem : List Int} {ent : Int} {e : Ending} (hE : newE text tape mem ent = 0) (h : NewP w text tape mem ent e w') : ∃ P s, e = .returned (.tuple #[.pointer (some ⟨P, 0, none⟩), .int .i64 0]) ∧ PAt w' w.heap.size P s (newM text tape mem ent) ∧ Below w.heap.size w w' := by
  obtain ⟨hb, h | h⟩ := h
  · exact absurd hE h.1
  · obtain ⟨_, P, s, h1, h2⟩ := h
    exact ⟨P, s, h1, h2, hb⟩
theorem enc77 {r : Nat} (h : r < 16) : encE 1 (r : Int) 0 0 77 = 0 := by
  have : r = 0 ∨ r = 1 ∨ r = 2 ∨ r = 3 ∨ r = 4 ∨ r = 5 ∨ r = 6 ∨ r = 7 ∨ r = 8 ∨ r = 9 ∨ r = 10 ∨ r = 11 ∨ r = 12 ∨ r = 13 ∨ r = 14 ∨ r = 15 := by omega
  rcases this with rfl | rfl | rfl | rfl | rfl | rfl | rfl | rfl | rfl | rfl | rfl | rfl | rfl | rfl | rfl | rfl <;> decide
theorem beh_lt {text : List Int} {ent : Int} {H : Int → Nat} (h : BhI text ent H) (hn : 0 < text.length) {p : Nat} (hp : p < text.length) : H (p : Int) < 65536 := by
  obtain ⟨F, G, h1, h2⟩ := h
  obtain ⟨i, a, b, c⟩ := blk_all (ent := ent) hn hp
  rw [h2 i a p b c]
  exact setB_lt _ _ (lst_lt h1 i a) _
set_option maxRecDepth 100000 in
set_option maxHeartbeats 16000000 in
theorem lawDead (HH : BehindOK) (A1 A2 A3 : Option Addr) (c1 c2 c3 : Nat) (ent at0 rg : Int) (text mem tape : List Int) (w : World) (hT : IntsAt w A1 .u32 text) (hM : IntsAt w A2 .i64 mem) (hX : IntsAt w A3 .i64 tape) (hR : ∀ i, i < text.length → 0 ≤ nth text i ∧ nth text i < 4294967296) (h01 : A1 = none → c1 = 0) (h02 : A2 = none → c2 = 0) (h03 : A3 = none → c3 = 0) (hc1 : text.length ≤ c1) (hxl : tape.length ≤ maxLen) :
    Calls Tryz.prog 4 #[.agg #[.slice A1 text.length c1, .int .i64 ent, .slice A2 mem.length c2], .slice A3 tape.length c3, .agg #[.int .i64 at0, .int .i64 rg]] w fun e w' => e = .returned (.bool true) ∧ Below w.heap.size w w' := by
  have CW := works_any HH
  obtain ⟨W0, HW⟩ : ∃ W0, Hid ((w.alloc (.cells #[.slice A1 text.length c1, .int .i64 ent, .slice A2 mem.length c2] 25)).alloc (.cells #[.int .i64 at0, .int .i64 rg] 42) = W0) := ⟨_, rfl⟩
  have HB0 : Hid (Below w.heap.size w W0) := by unfold Hid; rw [← HW.out]; exact lb_alloc (lb_alloc (Below.refl _ _) _) _
  have hx0 : W0.heap[w.heap.size]? = some (.cells #[.slice A1 text.length c1, .int .i64 ent, .slice A2 mem.length c2] 25 (0, 0)) := by rw [← HW.out]; exact old_at (new_at rfl)
  have hx1 : W0.heap[w.heap.size + 1]? = some (.cells #[.int .i64 at0, .int .i64 rg] 42 (0, 0)) := by rw [← HW.out]; exact new_at (by simp)
  obtain ⟨i0, i1, i2⟩ := zbox3_cell hx0
  have x0 : W0.cell? ⟨w.heap.size + 1, 0, none⟩ = some (.int .i64 at0) := by simp [World.cell?, hx1]
  have x1 : W0.cell? ⟨w.heap.size + 1, 1, none⟩ = some (.int .i64 rg) := by simp [World.cell?, hx1]
  have HI : Hid (∀ Z, Below W0.heap.size W0 Z → Z.cell? ⟨w.heap.size, 0, none⟩ = some (.slice A1 text.length c1) ∧ Z.cell? ⟨w.heap.size, 1, none⟩ = some (.int .i64 ent) ∧ Z.cell? ⟨w.heap.size, 2, none⟩ = some (.slice A2 mem.length c2) ∧ Z.cell? ⟨w.heap.size + 1, 0, none⟩ = some (.int .i64 at0) ∧ Z.cell? ⟨w.heap.size + 1, 1, none⟩ = some (.int .i64 rg)) := fun Z hZ => ⟨lkeep hZ i0, lkeep hZ i1, lkeep hZ i2, lkeep hZ x0, lkeep hZ x1⟩
  have C0 := much_any A1 A2 c1 c2 ent text mem W0
  clear hx0 hx1
  by_cases g0 : muchB text mem = true
  · rw [g0] at C0
    go_enter Tryz.func4, Tryz.ntmps4
    go_upto_region 1 with fail
    rw [HW.out]
    clear HW
    go_wp2_with (first
      | (go_at_call 5; refine C0.mono ?_; rintro e w1 ⟨rfl, hb1⟩; have HB1 : Hid (Below W0.heap.size W0 w1) := hb1; obtain ⟨j0, j1, j2, z0, z1⟩ := HI.out _ hb1; clear hb1)
      | (go_at_call 6; refine (CW _).mono ?_; rintro e w2 ⟨rfl, hb2⟩))
    go_ret
    exact ⟨rfl, lb_trans HB0.out (lb_trans HB1.out hb2)⟩
  have g0 : muchB text mem = false := by simpa using g0
  have l1 : text.length ≤ 600 ∧ mem.length ≤ 16384 := by unfold muchB at g0; simp at g0; omega
  rw [g0] at C0
  obtain ⟨l1, l2⟩ := l1
  clear g0
  have hwl : IntKind.i64.wrap ((text.length : Int) - 1) = (text.length : Int) - 1 := by rw [IntKind.wrap_i64]; omega
  by_cases c1 : 8192 < tape.length
  · have c1i : (8192 : Int) < (tape.length : Int) := by omega
    go_enter Tryz.func4, Tryz.ntmps4
    go_upto_region 1 with fail
    rw [HW.out]
    clear HW
    go_wp2_with (first
      | (go_at_call 5; refine C0.mono ?_; rintro e w1 ⟨rfl, hb1⟩; have HB1 : Hid (Below W0.heap.size W0 w1) := hb1; obtain ⟨j0, j1, j2, z0, z1⟩ := HI.out _ hb1; clear hb1)
      | (go_at_call 6; refine (CW _).mono ?_; rintro e w2 ⟨rfl, hb2⟩))
    go_ret
    exact ⟨rfl, lb_trans HB0.out (lb_trans HB1.out hb2)⟩
  have c1i : ¬ (8192 : Int) < (tape.length : Int) := by omega
  by_cases c2 : rg < 0
  · have c2i := c2
    go_enter Tryz.func4, Tryz.ntmps4
    go_upto_region 1 with fail
    rw [HW.out]
    clear HW
    go_wp2_with (first
      | (go_at_call 5; refine C0.mono ?_; rintro e w1 ⟨rfl, hb1⟩; have HB1 : Hid (Below W0.heap.size W0 w1) := hb1; obtain ⟨j0, j1, j2, z0, z1⟩ := HI.out _ hb1; clear hb1)
      | (go_at_call 6; refine (CW _).mono ?_; rintro e w2 ⟨rfl, hb2⟩))
    go_ret
    exact ⟨rfl, lb_trans HB0.out (lb_trans HB1.out hb2)⟩
  by_cases c3 : 16 ≤ rg
  · have c3i := c3
    go_enter Tryz.func4, Tryz.ntmps4
    go_upto_region 1 with fail
    rw [HW.out]
    clear HW
    go_wp2_with (first
      | (go_at_call 5; refine C0.mono ?_; rintro e w1 ⟨rfl, hb1⟩; have HB1 : Hid (Below W0.heap.size W0 w1) := hb1; obtain ⟨j0, j1, j2, z0, z1⟩ := HI.out _ hb1; clear hb1)
      | (go_at_call 6; refine (CW _).mono ?_; rintro e w2 ⟨rfl, hb2⟩))
    go_ret
    exact ⟨rfl, lb_trans HB0.out (lb_trans HB1.out hb2)⟩
  by_cases c4 : at0 < 0
  · have c4i := c4
    go_enter Tryz.func4, Tryz.ntmps4
    go_upto_region 1 with fail
    rw [HW.out]
    clear HW
    go_wp2_with (first
      | (go_at_call 5; refine C0.mono ?_; rintro e w1 ⟨rfl, hb1⟩; have HB1 : Hid (Below W0.heap.size W0 w1) := hb1; obtain ⟨j0, j1, j2, z0, z1⟩ := HI.out _ hb1; clear hb1)
      | (go_at_call 6; refine (CW _).mono ?_; rintro e w2 ⟨rfl, hb2⟩))
    go_ret
    exact ⟨rfl, lb_trans HB0.out (lb_trans HB1.out hb2)⟩
  by_cases c5 : (text.length : Int) - 1 ≤ at0
  · have c5i := c5
    go_enter Tryz.func4, Tryz.ntmps4
    go_upto_region 1 with fail
    rw [HW.out]
    clear HW
    go_wp2_with (first
      | (go_at_call 5; refine C0.mono ?_; rintro e w1 ⟨rfl, hb1⟩; have HB1 : Hid (Below W0.heap.size W0 w1) := hb1; obtain ⟨j0, j1, j2, z0, z1⟩ := HI.out _ hb1; clear hb1)
      | (go_at_call 6; refine (CW _).mono ?_; rintro e w2 ⟨rfl, hb2⟩))
    go_ret
    exact ⟨rfl, lb_trans HB0.out (lb_trans HB1.out hb2)⟩
  go_enter Tryz.func4, Tryz.ntmps4
  go_upto_region 1 with fail
  rw [HW.out]
  clear HW
  go_upto_region 3 with (go_at_call 5; refine C0.mono ?_; rintro e w1 ⟨rfl, hb1⟩; have HB1 : Hid (Below W0.heap.size W0 w1) := hb1; obtain ⟨j0, j1, j2, z0, z1⟩ := HI.out _ hb1; clear hb1 i0 i1 i2 x0 x1)
  clear C0
  obtain ⟨q, hq⟩ : ∃ q : Nat, at0 = (q : Int) := ⟨at0.toNat, by omega⟩
  obtain ⟨r, hr⟩ : ∃ r : Nat, rg = (r : Int) := ⟨rg.toNat, by omega⟩
  subst hq hr
  have hq1 : q + 1 < text.length := by omega
  have hr1 : r < 16 := by omega
  clear c1i c1 c2 c3 c4 c5
  by_cases hE : (checkI text mem.length ent).1 = 0
  · have CH := HH.ok A1 A2 c1 mem.length c2 ent text w1 (hT.keep (lb_trans HB0.out HB1.out)) hR hc1 (by omega) (by omega) hE
    go_upto_region 4 with (go_at_call 10; refine CH.mono ?_; rintro e w2 ⟨A, c, H, rfl, hl2, hH2, hb2⟩; have HB2 : Hid (Below W0.heap.size W0 w2) := lb_trans HB1.out hb2; have HL2 : Hid (IntsAt w2 A .u16 (setL H text.length)) := hl2; have HH2 : Hid (BhI text ent H) := hH2; clear hb2 hl2 hH2)
    obtain ⟨k0, k1, k2, y0, y1⟩ := HI.out _ HB2.out
    obtain ⟨al, eal, ql⟩ := HL2.out q (by rw [setL_len]; omega)
    subst eal
    rw [setL_nth (by omega)] at ql
    have hqn : (q : Int) < (text.length : Int) := by omega
    have hMay := check_mayI hE
    have hlt : H (q : Int) < 65536 := beh_lt HH2.out hMay.past.pos (by omega)
    have hbit := bitI hlt r
    by_cases hd : (H (q : Int)).testBit r = true
    · rw [hd] at hbit
      clear hd hMay hlt
      generalize H (q : Int) = hq at *
      go_big_quiet (fail)
      go_wp2_with (go_at_call 6; refine (CW _).mono ?_; rintro e w3 ⟨rfl, hb3⟩)
      go_ret
      exact ⟨rfl, lb_trans HB0.out (lb_trans HB2.out (lb_trans (below_drewN (Below.refl _ _) _) hb3))⟩
    have hd : (H (q : Int)).testBit r = false := by simpa using hd
    rw [hd] at hbit
    by_cases h5 : 500 < text.length
    · have h5i : (500 : Int) < (text.length : Int) := by omega
      clear hd hMay hlt
      generalize H (q : Int) = hq at *
      go_big_quiet (fail)
      go_wp2_with (go_at_call 6; refine (CW _).mono ?_; rintro e w3 ⟨rfl, hb3⟩)
      go_ret
      exact ⟨rfl, lb_trans HB0.out (lb_trans HB2.out (lb_trans (below_drewN (Below.refl _ _) _) hb3))⟩
    have h5i : ¬ (500 : Int) < (text.length : Int) := by omega
    have Hd : Hid ((H (q : Int)).testBit ((r : Int)).toNat = false) := by unfold Hid; rw [Int.toNat_natCast]; exact hd
    have HMy : Hid (MayI text mem.length ent) := hMay
    have l5 : text.length ≤ 500 := by omega
    clear hMay hlt hd h5
    generalize hHq : H (q : Int) = hq at *
    go_big_quiet (fail)
    have Hd : Hid ((H (q : Int)).testBit ((r : Int)).toNat = false) := by
      unfold Hid
      rw [hHq]
      exact Hd.out
    clear hbit ql hHq
    obtain ⟨a1, ea1, qa⟩ := hT q (by omega)
    subst ea1
    have HT0 : Hid (IntsAt W0 (some a1) .u32 text) := hT.keep HB0.out
    have HM0 : Hid (IntsAt W0 A2 .i64 mem) := hM.keep HB0.out
    have HX0 : Hid (IntsAt W0 A3 .i64 tape) := hX.keep HB0.out
    have HRg : Hid (∀ i, i < text.length → 0 ≤ nth text i ∧ nth text i < 4294967296) := hR
    have CCp := fun wx (hx : Below W0.heap.size W0 wx) => copyimg_any (some a1) A2 c1 c2 text mem ent wx (HT0.out.keep hx) (HM0.out.keep hx) h01 h02 (by omega) (by omega)
    have CN1 := fun wx (hx : Below W0.heap.size W0 wx) => new_any (some a1) A2 A3 c1 c2 c3 ent text mem tape wx (HT0.out.keep hx) (HM0.out.keep hx) (HX0.out.keep hx) hR (by omega) (by omega) hxl h03
    have CN2 := fun (g c k2 : Nat) (B2 : Option Addr) (text' : List Int) (e2 : Int) wx (hx : Below W0.heap.size W0 wx) (h1 : IntsAt wx (some ⟨g, 0, none⟩) .u32 text') (h2 : IntsAt wx B2 .i64 mem) (h3 : ∀ i, i < text'.length → 0 ≤ nth text' i ∧ nth text' i < 4294967296) (h4 : text'.length ≤ 1048576) => new_any (some ⟨g, 0, none⟩) B2 A3 c k2 c3 e2 text' mem tape wx h1 h2 (HX0.out.keep hx) h3 h4 (by omega) hxl h03
    obtain ⟨v0, v1⟩ := hR q (by omega)
    have CE := fun wx => refends_any (nth text q) v0 v1 wx
    have HMl : Hid (mem.length ≤ 16384) := l2
    have qa := lkeep (lb_trans HB0.out HB2.out) qa
    clear hT hM hX hR h01 h02 h03 hxl qa
    obtain ⟨w3, hw3⟩ : ∃ w3, w2.drewN nq = w3 := ⟨_, rfl⟩
    have HB3 : Hid (Below W0.heap.size W0 w3) := by unfold Hid; rw [← hw3]; exact below_drewN HB2.out _
    rw [hw3]
    clear hw3 k0 k1 k2 y0 y1 j0 j1 j2 z0 z1
    obtain ⟨k0, k1, k2, y0, y1⟩ := HI.out _ HB3.out
    obtain ⟨a9, ea9, qa⟩ := (HT0.out.keep HB3.out) q (by omega)
    obtain rfl := Option.some.inj ea9
    by_cases he : endsB (dOp (nth text q)) = true
    · rw [he] at CE
      generalize nth text q = vq at *
      go_upto_region 7 with (go_at_call 14; refine (CE _).mono ?_; rintro e w4 ⟨rfl, hb4⟩; have HB4 : Hid (Below W0.heap.size W0 w4) := lb_trans HB3.out hb4; clear hb4)
      go_wp2_with (go_at_call 6; refine (CW _).mono ?_; rintro e wz ⟨rfl, hbz⟩)
      go_ret
      exact ⟨rfl, lb_trans HB0.out (lb_trans HB4.out hbz)⟩
    have he : endsB (dOp (nth text q)) = false := by simpa using he
    have Hen : Hid (endsB (dOp (nth text q)) = false) := he
    rw [he] at CE
    have hEn : encE 1 (r : Int) 0 0 77 = 0 := enc77 hr1
    have Hw1 : Hid (dOp (encV 1 (r : Int) 0 0 77) = 1 ∧ dD (encV 1 (r : Int) 0 0 77) = (r : Int)) := ⟨(dec_enc hEn).1, (dec_enc hEn).2.1⟩
    have Hw2 : Hid (0 ≤ encV 1 (r : Int) 0 0 77 ∧ encV 1 (r : Int) 0 0 77 < 4294967296) := enc_range _ _ _ _ _
    have CEn := fun wx => refencode_any 1 (r : Int) 0 0 77 wx
    rw [hEn] at CEn
    clear he hEn
    generalize encV 1 (r : Int) 0 0 77 = wn at *
    generalize hvq : nth text q = vq at *
    have hr8 : IntKind.i8.wrap (r : Int) = (r : Int) := by simp [IntKind.wrap, IntKind.signed, IntKind.bits]; omega
    go_upto_region 8 with (go_at_call 14; refine (CE _).mono ?_; rintro e w4 ⟨rfl, hb4⟩; have HB4 : Hid (Below W0.heap.size W0 w4) := lb_trans HB3.out hb4; clear hb4)
    clear k0 k1 k2 y0 y1 CE qa
    obtain ⟨k0, k1, k2, y0, y1⟩ := HI.out _ HB4.out
    go_upto_region 9 with (go_at_call 15; refine (CEn _).mono ?_; rintro e w5 ⟨rfl, hb5⟩; have HB5 : Hid (Below W0.heap.size W0 w5) := lb_trans HB4.out hb5; clear hb5)
    clear k0 k1 k2 y0 y1 CEn
    obtain ⟨k0, k1, k2, y0, y1⟩ := HI.out _ HB5.out
    subst hvq
    have C := CCp w5 HB5.out
    go_upto_region 10 with (go_at_call 9; refine C.mono ?_; rintro e w6 ⟨B1, B2, m1, m2, rfl, hri, hb6⟩; have HB6 : Hid (Below W0.heap.size W0 w6) := lb_trans HB5.out hb6; have HMm : Hid (IntsAt w6 B2 .i64 mem) := row_ints hri.r2; clear hri hb6)
    have HTg : Hid (∀ i, i < text.length → isT (nth text i) = true → 0 ≤ tgV (nth text i) ∧ tgV (nth text i) < (text.length : Int)) := fun i hi hT => ⟨(tg_pos hT).1, far_in (HMy.out.far i hi) hT⟩
    obtain ⟨iC, hi, hz0, hz1, hz2⟩ := info_c
    obtain ⟨X, HX⟩ : ∃ X, Hid (w6.alloc (.cells #[.slice B1 text.length m1, .int .i64 ent, .slice B2 mem.length m2] 25) = X) := ⟨_, rfl⟩
    have hXb : X.heap[w6.heap.size]? = some (.cells #[.slice B1 text.length m1, .int .i64 ent, .slice B2 mem.length m2] 25 (0, 0)) := by rw [← HX.out]; exact new_at rfl
    have hXz : X.heap.size = w6.heap.size + 1 := by rw [← HX.out]; simp
    have hXB : Below w6.heap.size w6 X := by rw [← HX.out]; exact lb_alloc (Below.refl _ _) _
    rw [HX.out]
    clear HX k0 k1 k2 y0 y1 C CCp
    have x0 := (zbox3_cell hXb).1
    have xf := box_fro hXb 0
    obtain ⟨Y, HY⟩ : ∃ Y, Hid (X.setCell ⟨w6.heap.size, 0, none⟩ (.slice none 0 0) = Y) := ⟨_, rfl⟩
    have HYz : Hid (Y.heap.size = w6.heap.size + 1) := by unfold Hid; rw [← HY.out, ← hXz]; simp [go_sem]
    have HO0 : Hid (Ot Y Y w6.heap.size none 0 ent B2 mem.length m2 (othL text q wn 0)) := by
      refine ⟨?_, World.ownsRow_nil _ _ _ _, But.refl _ _, HYz.out⟩
      rw [← HY.out, box_set hXb]; rfl
    have HBY : Hid (Below W0.heap.size W0 Y) := by unfold Hid; rw [← HY.out]; exact (lb_trans HB6.out hXB).setCell HB6.out.size _
    have HMY : Hid (∀ wx, But w6.heap.size Y wx → IntsAt wx B2 .i64 mem) := fun wx hx i hi => by
      obtain ⟨b, eb, qb⟩ := HMm.out i hi
      have hlt := World.block_lt_of_cell? _ _ qb
      refine ⟨b, eb, hx.cell (by show _ ≠ _; omega) ?_⟩
      rw [← HY.out]
      exact cell_setN2 (lkeep hXB qb) (by show _ ≠ _; omega)
    have HBo : Hid (∀ wx {O : Option Addr} {c : Nat} {e : Int} {l : List Int}, Ot Y wx w6.heap.size O c e B2 mem.length m2 l → Below W0.heap.size W0 wx) := fun wx {O c e l} h => h.but.below HBY.out HB6.out.size
    go_upto_region 11 with fail
    rw [HY.out]
    clear HY hXb hXz hXB x0 xf
    go_wp2
    go_loopw [12] (fun i wr => ∃ (k : Nat) (O : Option Addr) (c : Nat), i = .int .i64 k ∧ k ≤ text.length ∧ Hid (Ot Y wr w6.heap.size O c ent B2 mem.length m2 (othL text q wn k))) (fun i _ => text.length - (intOf i).toNat)
    case atStart => exact ⟨0, none, 0, rfl, Nat.zero_le _, HO0⟩
    case round =>
      clear HO0
      obtain ⟨k, O, c, rfl, hk, HO⟩ := hrel
      have HBr : Hid (Below W0.heap.size W0 wr) := HBo.out _ HO.out
      obtain ⟨k0, k1, k2, y0, y1⟩ := HI.out _ HBr.out
      by_cases hlt : k < text.length
      · have hlt' : (k : Int) < (text.length : Int) := by omega
        obtain ⟨a9, ea9, qa⟩ := (HT0.out.keep HBr.out) k hlt
        obtain rfl := Option.some.inj ea9
        obtain ⟨v0, v1⟩ := HRg.out k hlt
        have CT := fun wx => reftarget_any (nth text k) v0 v1 wx
        have htb := HTg.out k hlt
        have HSt0 : Hid (othL text q wn (k + 1) = othL text q wn k ++ [mvV q (nth text k)] ++ (if k = q then [wn] else [])) := rfl
        cases hT : isT (nth text k) with
        | false =>
          have HXV : Hid (mvV q (nth text k) = nth text k) := by unfold Hid mvV; rw [hT]; rfl
          rw [hT] at CT
          generalize hvk : nth text k = v at *
          clear htb hT hvk
          generalize tgV v = tg at *
          go_upto_region 18 with (go_at_call 16; refine (CT _).mono ?_; rintro e wB ⟨rfl, hbB⟩; have HO2 : Hid (Ot Y wB w6.heap.size O c ent B2 mem.length m2 (othL text q wn k)) := HO.out.keep hbB; clear hbB)
          clear k0 k1 k2 y0 y1 CT
          have HlO : Hid ((othL text q wn k).length ≤ 601) := by unfold Hid; rw [othL_len]; split <;> omega
          have HSt : Hid (othL text q wn (k + 1) = othL text q wn k ++ [v] ++ (if k = q then [wn] else [])) := by rw [Hid, HSt0.out, HXV.out]
          clear HSt0
          generalize othL text q wn k = l at *
          have hlO := HlO.out
          obtain ⟨n0, n1, n2, m0, m3⟩ := HI.out _ (HBo.out _ HO2.out)
          clear qa
          by_cases hkq : k = q
          · rw [if_pos hkq] at HSt
            have hk2 : ((k : Int) == (q : Int)) = true := by rw [beq_iff_eq]; omega
            clear hkq
            have HRa : Hid ((wB.alloc (.cells #[.int .u32 v] 45)).ownsRow (w6.heap.size + 1) 45 1 (.slice O l.length c) l.length (iVals .u32 l)) := row_keep HO2.out.row (lb_alloc (Below.refl _ _) _)
            have HrO : Hid (w6.heap.size + 1 ≤ (wB.alloc (.cells #[.int .u32 v] 45)).heap.size) := by have := HO2.out.room; unfold Hid; simp; omega
            obtain ⟨o0, o1, o2⟩ := HO2.out.cells
            go_upto_region 19 with (at_builtin; go_loud (refine wpList_append_own _ rfl (.tmp 148) (.tmp 150) 22 rfl (w6.heap.size + 1) 45 iC (.int .u32 0) 1 4 Tryz.underlying22 hi hz0 hz1 hz2 rfl (by decide) (.slice O l.length c) l.length (iVals .u32 l) rfl HRa.out ⟨wB.heap.size, 0, none⟩ 1 1 [.int .u32 v] rfl rfl (fun j u hu => World.news_of_block (newAtK (by simp)) j u hu) one_oneW (by unfold maxLen; omega) (by omega) HrO.out ?_; intro v9 w9 hown hgrow hnil; obtain ⟨O9, c9, e9⟩ := own_sl hown; subst e9; have HO3 : Hid (Ot Y (w9.setCell ⟨w6.heap.size, 0, none⟩ (.slice O9 (l.length + 1) c9)) w6.heap.size O9 c9 ent B2 mem.length m2 (l ++ [v])) := HO2.out.app hown hgrow; have p0 := (HO2.out.one hgrow).1; have p1 := (HO2.out.one hgrow).2; clear hown hgrow hnil))
            clear o0 o1 o2 p0 p1 HRa HrO
            obtain ⟨Z1, hZ1⟩ : ∃ Z1, w9.setCell ⟨w6.heap.size, 0, none⟩ (.slice O9 (l.length + 1) c9) = Z1 := ⟨_, rfl⟩
            rw [hZ1] at HO3 ⊢
            clear hZ1
            clear n0 n1 n2 m0 m3
            obtain ⟨n0, n1, n2, m0, m3⟩ := HI.out _ (HBo.out _ HO3.out)
            obtain ⟨l1, hl1⟩ : ∃ l1, l ++ [v] = l1 := ⟨_, rfl⟩
            have hl1n : l1.length = l.length + 1 := by rw [← hl1]; simp
            rw [hl1] at HO3 HSt
            rw [← hl1n]
            have hl2 : l1.length ≤ 700 := by omega
            clear hl1 hl1n HO2 HlO hlO
            have HRa : Hid ((Z1.alloc (.cells #[.int .u32 wn] 45)).ownsRow (w6.heap.size + 1) 45 1 (.slice O9 l1.length c9) l1.length (iVals .u32 l1)) := row_keep HO3.out.row (lb_alloc (Below.refl _ _) _)
            have HrO : Hid (w6.heap.size + 1 ≤ (Z1.alloc (.cells #[.int .u32 wn] 45)).heap.size) := by have := HO3.out.room; unfold Hid; simp; omega
            obtain ⟨o0, o1, o2⟩ := HO3.out.cells
            go_upto_region 13 with (at_builtin; go_loud (refine wpList_append_own _ rfl (.tmp 158) (.tmp 160) 22 rfl (w6.heap.size + 1) 45 iC (.int .u32 0) 1 4 Tryz.underlying22 hi hz0 hz1 hz2 rfl (by decide) (.slice O9 l1.length c9) l1.length (iVals .u32 l1) rfl HRa.out ⟨Z1.heap.size, 0, none⟩ 1 1 [.int .u32 wn] rfl rfl (fun j u hu => World.news_of_block (newAtK (by simp)) j u hu) one_oneW (by unfold maxLen; omega) (by omega) HrO.out ?_; intro v8 w8 hown hgrow hnil; obtain ⟨O8, c8, e8⟩ := own_sl hown; subst e8; have HO4 : Hid (Ot Y (w8.setCell ⟨w6.heap.size, 0, none⟩ (.slice O8 (l1.length + 1) c8)) w6.heap.size O8 c8 ent B2 mem.length m2 (l1 ++ [wn])) := HO3.out.app hown hgrow; have p0 := (HO3.out.one hgrow).1; have p1 := (HO3.out.one hgrow).2; clear hown hgrow hnil))
            clear o0 o1 o2 p0 p1 HRa HrO
            obtain ⟨Z2, hZ2⟩ : ∃ Z2, w8.setCell ⟨w6.heap.size, 0, none⟩ (.slice O8 (l1.length + 1) c8) = Z2 := ⟨_, rfl⟩
            rw [hZ2] at HO4 ⊢
            clear hZ2
            go_wp2
            go_roundw
            case rel => exact ⟨k + 1, _, _, by go_num, by omega, by rw [HSt.out]; exact HO4⟩
            case measure => simp [intOf]; omega
          · rw [if_neg hkq, List.append_nil] at HSt
            have hk2 : ((k : Int) == (q : Int)) = false := by rw [beq_eq_false_iff_ne]; omega
            clear hkq
            have HRa : Hid ((wB.alloc (.cells #[.int .u32 v] 45)).ownsRow (w6.heap.size + 1) 45 1 (.slice O l.length c) l.length (iVals .u32 l)) := row_keep HO2.out.row (lb_alloc (Below.refl _ _) _)
            have HrO : Hid (w6.heap.size + 1 ≤ (wB.alloc (.cells #[.int .u32 v] 45)).heap.size) := by have := HO2.out.room; unfold Hid; simp; omega
            obtain ⟨o0, o1, o2⟩ := HO2.out.cells
            go_upto_region 19 with (at_builtin; go_loud (refine wpList_append_own _ rfl (.tmp 148) (.tmp 150) 22 rfl (w6.heap.size + 1) 45 iC (.int .u32 0) 1 4 Tryz.underlying22 hi hz0 hz1 hz2 rfl (by decide) (.slice O l.length c) l.length (iVals .u32 l) rfl HRa.out ⟨wB.heap.size, 0, none⟩ 1 1 [.int .u32 v] rfl rfl (fun j u hu => World.news_of_block (newAtK (by simp)) j u hu) one_oneW (by unfold maxLen; omega) (by omega) HrO.out ?_; intro v9 w9 hown hgrow hnil; obtain ⟨O9, c9, e9⟩ := own_sl hown; subst e9; have HO3 : Hid (Ot Y (w9.setCell ⟨w6.heap.size, 0, none⟩ (.slice O9 (l.length + 1) c9)) w6.heap.size O9 c9 ent B2 mem.length m2 (l ++ [v])) := HO2.out.app hown hgrow; have p0 := (HO2.out.one hgrow).1; have p1 := (HO2.out.one hgrow).2; clear hown hgrow hnil))
            clear o0 o1 o2 p0 p1 HRa HrO
            obtain ⟨Z1, hZ1⟩ : ∃ Z1, w9.setCell ⟨w6.heap.size, 0, none⟩ (.slice O9 (l.length + 1) c9) = Z1 := ⟨_, rfl⟩
            rw [hZ1] at HO3 ⊢
            clear hZ1
            clear n0 n1 n2 m0 m3
            obtain ⟨n0, n1, n2, m0, m3⟩ := HI.out _ (HBo.out _ HO3.out)
            go_wp2
            go_roundw
            case rel => exact ⟨k + 1, _, _, by go_num, by omega, by rw [HSt.out]; exact HO3⟩
            case measure => simp [intOf]; omega
        | true =>
          have htb := htb hT
          by_cases hgt : (q : Int) < tgV (nth text k)
          · have HXV : Hid (mvV q (nth text k) = aimV (nth text k) (tgV (nth text k) + 1)) := by unfold Hid mvV; rw [hT, decide_eq_true hgt]; rfl
            have CA := fun wx => refaim_any (nth text k) (tgV (nth text k) + 1) v0 v1 wx
            have hwt : IntKind.i64.wrap (tgV (nth text k) + 1) = tgV (nth text k) + 1 := by rw [IntKind.wrap_i64]; omega
            rw [hT] at CT
            generalize aimE (nth text k) (tgV (nth text k) + 1) = ae at *
            generalize aimV (nth text k) (tgV (nth text k) + 1) = av at *
            generalize hvk : nth text k = v at *
            clear hT hvk
            generalize tgV v = tg at *
            go_upto_region 16 with (go_at_call 16; refine (CT _).mono ?_; rintro e wA ⟨rfl, hbA⟩; have HO1 : Hid (Ot Y wA w6.heap.size O c ent B2 mem.length m2 (othL text q wn k)) := HO.out.keep hbA; clear hbA)
            clear k0 k1 k2 y0 y1 CT qa
            obtain ⟨k0, k1, k2, y0, y1⟩ := HI.out _ (HBo.out _ HO1.out)
            go_upto_region 18 with (go_at_call 17; refine (CA _).mono ?_; rintro e wB ⟨rfl, hbB⟩; have HO2 : Hid (Ot Y wB w6.heap.size O c ent B2 mem.length m2 (othL text q wn k)) := HO1.out.keep hbB; clear hbB)
            clear k0 k1 k2 y0 y1 CA
            have qa : True := trivial
            have HlO : Hid ((othL text q wn k).length ≤ 601) := by unfold Hid; rw [othL_len]; split <;> omega
            have HSt : Hid (othL text q wn (k + 1) = othL text q wn k ++ [av] ++ (if k = q then [wn] else [])) := by rw [Hid, HSt0.out, HXV.out]
            clear HSt0
            generalize othL text q wn k = l at *
            have hlO := HlO.out
            obtain ⟨n0, n1, n2, m0, m3⟩ := HI.out _ (HBo.out _ HO2.out)
            clear qa
            by_cases hkq : k = q
            · rw [if_pos hkq] at HSt
              have hk2 : ((k : Int) == (q : Int)) = true := by rw [beq_iff_eq]; omega
              clear hkq
              have HRa : Hid ((wB.alloc (.cells #[.int .u32 av] 45)).ownsRow (w6.heap.size + 1) 45 1 (.slice O l.length c) l.length (iVals .u32 l)) := row_keep HO2.out.row (lb_alloc (Below.refl _ _) _)
              have HrO : Hid (w6.heap.size + 1 ≤ (wB.alloc (.cells #[.int .u32 av] 45)).heap.size) := by have := HO2.out.room; unfold Hid; simp; omega
              obtain ⟨o0, o1, o2⟩ := HO2.out.cells
              go_upto_region 19 with (at_builtin; go_loud (refine wpList_append_own _ rfl (.tmp 148) (.tmp 150) 22 rfl (w6.heap.size + 1) 45 iC (.int .u32 0) 1 4 Tryz.underlying22 hi hz0 hz1 hz2 rfl (by decide) (.slice O l.length c) l.length (iVals .u32 l) rfl HRa.out ⟨wB.heap.size, 0, none⟩ 1 1 [.int .u32 av] rfl rfl (fun j u hu => World.news_of_block (newAtK (by simp)) j u hu) one_oneW (by unfold maxLen; omega) (by omega) HrO.out ?_; intro v9 w9 hown hgrow hnil; obtain ⟨O9, c9, e9⟩ := own_sl hown; subst e9; have HO3 : Hid (Ot Y (w9.setCell ⟨w6.heap.size, 0, none⟩ (.slice O9 (l.length + 1) c9)) w6.heap.size O9 c9 ent B2 mem.length m2 (l ++ [av])) := HO2.out.app hown hgrow; have p0 := (HO2.out.one hgrow).1; have p1 := (HO2.out.one hgrow).2; clear hown hgrow hnil))
              clear o0 o1 o2 p0 p1 HRa HrO
              obtain ⟨Z1, hZ1⟩ : ∃ Z1, w9.setCell ⟨w6.heap.size, 0, none⟩ (.slice O9 (l.length + 1) c9) = Z1 := ⟨_, rfl⟩
              rw [hZ1] at HO3 ⊢
              clear hZ1
              clear n0 n1 n2 m0 m3
              obtain ⟨n0, n1, n2, m0, m3⟩ := HI.out _ (HBo.out _ HO3.out)
              obtain ⟨l1, hl1⟩ : ∃ l1, l ++ [av] = l1 := ⟨_, rfl⟩
              have hl1n : l1.length = l.length + 1 := by rw [← hl1]; simp
              rw [hl1] at HO3 HSt
              rw [← hl1n]
              have hl2 : l1.length ≤ 700 := by omega
              clear hl1 hl1n HO2 HlO hlO
              have HRa : Hid ((Z1.alloc (.cells #[.int .u32 wn] 45)).ownsRow (w6.heap.size + 1) 45 1 (.slice O9 l1.length c9) l1.length (iVals .u32 l1)) := row_keep HO3.out.row (lb_alloc (Below.refl _ _) _)
              have HrO : Hid (w6.heap.size + 1 ≤ (Z1.alloc (.cells #[.int .u32 wn] 45)).heap.size) := by have := HO3.out.room; unfold Hid; simp; omega
              obtain ⟨o0, o1, o2⟩ := HO3.out.cells
              go_upto_region 13 with (at_builtin; go_loud (refine wpList_append_own _ rfl (.tmp 158) (.tmp 160) 22 rfl (w6.heap.size + 1) 45 iC (.int .u32 0) 1 4 Tryz.underlying22 hi hz0 hz1 hz2 rfl (by decide) (.slice O9 l1.length c9) l1.length (iVals .u32 l1) rfl HRa.out ⟨Z1.heap.size, 0, none⟩ 1 1 [.int .u32 wn] rfl rfl (fun j u hu => World.news_of_block (newAtK (by simp)) j u hu) one_oneW (by unfold maxLen; omega) (by omega) HrO.out ?_; intro v8 w8 hown hgrow hnil; obtain ⟨O8, c8, e8⟩ := own_sl hown; subst e8; have HO4 : Hid (Ot Y (w8.setCell ⟨w6.heap.size, 0, none⟩ (.slice O8 (l1.length + 1) c8)) w6.heap.size O8 c8 ent B2 mem.length m2 (l1 ++ [wn])) := HO3.out.app hown hgrow; have p0 := (HO3.out.one hgrow).1; have p1 := (HO3.out.one hgrow).2; clear hown hgrow hnil))
              clear o0 o1 o2 p0 p1 HRa HrO
              obtain ⟨Z2, hZ2⟩ : ∃ Z2, w8.setCell ⟨w6.heap.size, 0, none⟩ (.slice O8 (l1.length + 1) c8) = Z2 := ⟨_, rfl⟩
              rw [hZ2] at HO4 ⊢
              clear hZ2
              go_wp2
              go_roundw
              case rel => exact ⟨k + 1, _, _, by go_num, by omega, by rw [HSt.out]; exact HO4⟩
              case measure => simp [intOf]; omega
            · rw [if_neg hkq, List.append_nil] at HSt
              have hk2 : ((k : Int) == (q : Int)) = false := by rw [beq_eq_false_iff_ne]; omega
              clear hkq
              have HRa : Hid ((wB.alloc (.cells #[.int .u32 av] 45)).ownsRow (w6.heap.size + 1) 45 1 (.slice O l.length c) l.length (iVals .u32 l)) := row_keep HO2.out.row (lb_alloc (Below.refl _ _) _)
              have HrO : Hid (w6.heap.size + 1 ≤ (wB.alloc (.cells #[.int .u32 av] 45)).heap.size) := by have := HO2.out.room; unfold Hid; simp; omega
              obtain ⟨o0, o1, o2⟩ := HO2.out.cells
              go_upto_region 19 with (at_builtin; go_loud (refine wpList_append_own _ rfl (.tmp 148) (.tmp 150) 22 rfl (w6.heap.size + 1) 45 iC (.int .u32 0) 1 4 Tryz.underlying22 hi hz0 hz1 hz2 rfl (by decide) (.slice O l.length c) l.length (iVals .u32 l) rfl HRa.out ⟨wB.heap.size, 0, none⟩ 1 1 [.int .u32 av] rfl rfl (fun j u hu => World.news_of_block (newAtK (by simp)) j u hu) one_oneW (by unfold maxLen; omega) (by omega) HrO.out ?_; intro v9 w9 hown hgrow hnil; obtain ⟨O9, c9, e9⟩ := own_sl hown; subst e9; have HO3 : Hid (Ot Y (w9.setCell ⟨w6.heap.size, 0, none⟩ (.slice O9 (l.length + 1) c9)) w6.heap.size O9 c9 ent B2 mem.length m2 (l ++ [av])) := HO2.out.app hown hgrow; have p0 := (HO2.out.one hgrow).1; have p1 := (HO2.out.one hgrow).2; clear hown hgrow hnil))
              clear o0 o1 o2 p0 p1 HRa HrO
              obtain ⟨Z1, hZ1⟩ : ∃ Z1, w9.setCell ⟨w6.heap.size, 0, none⟩ (.slice O9 (l.length + 1) c9) = Z1 := ⟨_, rfl⟩
              rw [hZ1] at HO3 ⊢
              clear hZ1
              clear n0 n1 n2 m0 m3
              obtain ⟨n0, n1, n2, m0, m3⟩ := HI.out _ (HBo.out _ HO3.out)
              go_wp2
              go_roundw
              case rel => exact ⟨k + 1, _, _, by go_num, by omega, by rw [HSt.out]; exact HO3⟩
              case measure => simp [intOf]; omega
          · have HXV : Hid (mvV q (nth text k) = nth text k) := by unfold Hid mvV; rw [hT, decide_eq_false hgt]; rfl
            rw [hT] at CT
            generalize hvk : nth text k = v at *
            clear hT hvk
            generalize tgV v = tg at *
            go_upto_region 16 with (go_at_call 16; refine (CT _).mono ?_; rintro e wB ⟨rfl, hbB⟩; have HO2 : Hid (Ot Y wB w6.heap.size O c ent B2 mem.length m2 (othL text q wn k)) := HO.out.keep hbB; clear hbB)
            clear k0 k1 k2 y0 y1 CT
            obtain ⟨k0, k1, k2, y0, y1⟩ := HI.out _ (HBo.out _ HO2.out)
            go_upto_region 18 with fail
            clear k0 k1 k2 y0 y1
            have HlO : Hid ((othL text q wn k).length ≤ 601) := by unfold Hid; rw [othL_len]; split <;> omega
            have HSt : Hid (othL text q wn (k + 1) = othL text q wn k ++ [v] ++ (if k = q then [wn] else [])) := by rw [Hid, HSt0.out, HXV.out]
            clear HSt0
            generalize othL text q wn k = l at *
            have hlO := HlO.out
            obtain ⟨n0, n1, n2, m0, m3⟩ := HI.out _ (HBo.out _ HO2.out)
            clear qa
            by_cases hkq : k = q
            · rw [if_pos hkq] at HSt
              have hk2 : ((k : Int) == (q : Int)) = true := by rw [beq_iff_eq]; omega
              clear hkq
              have HRa : Hid ((wB.alloc (.cells #[.int .u32 v] 45)).ownsRow (w6.heap.size + 1) 45 1 (.slice O l.length c) l.length (iVals .u32 l)) := row_keep HO2.out.row (lb_alloc (Below.refl _ _) _)
              have HrO : Hid (w6.heap.size + 1 ≤ (wB.alloc (.cells #[.int .u32 v] 45)).heap.size) := by have := HO2.out.room; unfold Hid; simp; omega
              obtain ⟨o0, o1, o2⟩ := HO2.out.cells
              go_upto_region 19 with (at_builtin; go_loud (refine wpList_append_own _ rfl (.tmp 148) (.tmp 150) 22 rfl (w6.heap.size + 1) 45 iC (.int .u32 0) 1 4 Tryz.underlying22 hi hz0 hz1 hz2 rfl (by decide) (.slice O l.length c) l.length (iVals .u32 l) rfl HRa.out ⟨wB.heap.size, 0, none⟩ 1 1 [.int .u32 v] rfl rfl (fun j u hu => World.news_of_block (newAtK (by simp)) j u hu) one_oneW (by unfold maxLen; omega) (by omega) HrO.out ?_; intro v9 w9 hown hgrow hnil; obtain ⟨O9, c9, e9⟩ := own_sl hown; subst e9; have HO3 : Hid (Ot Y (w9.setCell ⟨w6.heap.size, 0, none⟩ (.slice O9 (l.length + 1) c9)) w6.heap.size O9 c9 ent B2 mem.length m2 (l ++ [v])) := HO2.out.app hown hgrow; have p0 := (HO2.out.one hgrow).1; have p1 := (HO2.out.one hgrow).2; clear hown hgrow hnil))
              clear o0 o1 o2 p0 p1 HRa HrO
              obtain ⟨Z1, hZ1⟩ : ∃ Z1, w9.setCell ⟨w6.heap.size, 0, none⟩ (.slice O9 (l.length + 1) c9) = Z1 := ⟨_, rfl⟩
              rw [hZ1] at HO3 ⊢
              clear hZ1
              clear n0 n1 n2 m0 m3
              obtain ⟨n0, n1, n2, m0, m3⟩ := HI.out _ (HBo.out _ HO3.out)
              obtain ⟨l1, hl1⟩ : ∃ l1, l ++ [v] = l1 := ⟨_, rfl⟩
              have hl1n : l1.length = l.length + 1 := by rw [← hl1]; simp
              rw [hl1] at HO3 HSt
              rw [← hl1n]
              have hl2 : l1.length ≤ 700 := by omega
              clear hl1 hl1n HO2 HlO hlO
              have HRa : Hid ((Z1.alloc (.cells #[.int .u32 wn] 45)).ownsRow (w6.heap.size + 1) 45 1 (.slice O9 l1.length c9) l1.length (iVals .u32 l1)) := row_keep HO3.out.row (lb_alloc (Below.refl _ _) _)
              have HrO : Hid (w6.heap.size + 1 ≤ (Z1.alloc (.cells #[.int .u32 wn] 45)).heap.size) := by have := HO3.out.room; unfold Hid; simp; omega
              obtain ⟨o0, o1, o2⟩ := HO3.out.cells
              go_upto_region 13 with (at_builtin; go_loud (refine wpList_append_own _ rfl (.tmp 158) (.tmp 160) 22 rfl (w6.heap.size + 1) 45 iC (.int .u32 0) 1 4 Tryz.underlying22 hi hz0 hz1 hz2 rfl (by decide) (.slice O9 l1.length c9) l1.length (iVals .u32 l1) rfl HRa.out ⟨Z1.heap.size, 0, none⟩ 1 1 [.int .u32 wn] rfl rfl (fun j u hu => World.news_of_block (newAtK (by simp)) j u hu) one_oneW (by unfold maxLen; omega) (by omega) HrO.out ?_; intro v8 w8 hown hgrow hnil; obtain ⟨O8, c8, e8⟩ := own_sl hown; subst e8; have HO4 : Hid (Ot Y (w8.setCell ⟨w6.heap.size, 0, none⟩ (.slice O8 (l1.length + 1) c8)) w6.heap.size O8 c8 ent B2 mem.length m2 (l1 ++ [wn])) := HO3.out.app hown hgrow; have p0 := (HO3.out.one hgrow).1; have p1 := (HO3.out.one hgrow).2; clear hown hgrow hnil))
              clear o0 o1 o2 p0 p1 HRa HrO
              obtain ⟨Z2, hZ2⟩ : ∃ Z2, w8.setCell ⟨w6.heap.size, 0, none⟩ (.slice O8 (l1.length + 1) c8) = Z2 := ⟨_, rfl⟩
              rw [hZ2] at HO4 ⊢
              clear hZ2
              go_wp2
              go_roundw
              case rel => exact ⟨k + 1, _, _, by go_num, by omega, by rw [HSt.out]; exact HO4⟩
              case measure => simp [intOf]; omega
            · rw [if_neg hkq, List.append_nil] at HSt
              have hk2 : ((k : Int) == (q : Int)) = false := by rw [beq_eq_false_iff_ne]; omega
              clear hkq
              have HRa : Hid ((wB.alloc (.cells #[.int .u32 v] 45)).ownsRow (w6.heap.size + 1) 45 1 (.slice O l.length c) l.length (iVals .u32 l)) := row_keep HO2.out.row (lb_alloc (Below.refl _ _) _)
              have HrO : Hid (w6.heap.size + 1 ≤ (wB.alloc (.cells #[.int .u32 v] 45)).heap.size) := by have := HO2.out.room; unfold Hid; simp; omega
              obtain ⟨o0, o1, o2⟩ := HO2.out.cells
              go_upto_region 19 with (at_builtin; go_loud (refine wpList_append_own _ rfl (.tmp 148) (.tmp 150) 22 rfl (w6.heap.size + 1) 45 iC (.int .u32 0) 1 4 Tryz.underlying22 hi hz0 hz1 hz2 rfl (by decide) (.slice O l.length c) l.length (iVals .u32 l) rfl HRa.out ⟨wB.heap.size, 0, none⟩ 1 1 [.int .u32 v] rfl rfl (fun j u hu => World.news_of_block (newAtK (by simp)) j u hu) one_oneW (by unfold maxLen; omega) (by omega) HrO.out ?_; intro v9 w9 hown hgrow hnil; obtain ⟨O9, c9, e9⟩ := own_sl hown; subst e9; have HO3 : Hid (Ot Y (w9.setCell ⟨w6.heap.size, 0, none⟩ (.slice O9 (l.length + 1) c9)) w6.heap.size O9 c9 ent B2 mem.length m2 (l ++ [v])) := HO2.out.app hown hgrow; have p0 := (HO2.out.one hgrow).1; have p1 := (HO2.out.one hgrow).2; clear hown hgrow hnil))
              clear o0 o1 o2 p0 p1 HRa HrO
              obtain ⟨Z1, hZ1⟩ : ∃ Z1, w9.setCell ⟨w6.heap.size, 0, none⟩ (.slice O9 (l.length + 1) c9) = Z1 := ⟨_, rfl⟩
              rw [hZ1] at HO3 ⊢
              clear hZ1
              clear n0 n1 n2 m0 m3
              obtain ⟨n0, n1, n2, m0, m3⟩ := HI.out _ (HBo.out _ HO3.out)
              go_wp2
              go_roundw
              case rel => exact ⟨k + 1, _, _, by go_num, by omega, by rw [HSt.out]; exact HO3⟩
              case measure => simp [intOf]; omega
      · obtain rfl : k = text.length := by omega
        have HOt : Hid (Oth text (othL text q wn text.length) q (r : Int)) := oth_is HMy.out HRg.out l5 hq1 Hen.out Hw1.out.1 Hw1.out.2
        have HMo : Hid (MayI (othL text q wn text.length) mem.length (shP q ent)) := oth_may HMy.out l5 HOt.out
        have HRo : Hid (∀ j, j < (othL text q wn text.length).length → 0 ≤ nth (othL text q wn text.length) j ∧ nth (othL text q wn text.length) j < 4294967296) := oth_range HRg.out hq1 Hw2.out
        have HLo : Hid ((othL text q wn text.length).length ≤ 1048576) := by
          unfold Hid
          rw [othL_len, if_pos (by omega)]
          omega
        obtain ⟨gx, egx⟩ : ∃ gx, O = some ⟨gx, 0, none⟩ := by
          rcases HO.out.row.2 with ⟨e, h0⟩ | ⟨g, cap, cur, e, _⟩
          · rw [othL_len, if_pos (by omega)] at h0
            omega
          · simp only [Value.slice.injEq] at e
            exact ⟨g, e.1⟩
        subst egx
        have hsp : shP q ent = if (q : Int) < ent then ent + 1 else ent := rfl
        obtain ⟨o0, o1, o2⟩ := HO.out.cells
        have of1 := box_fro HO.out.box 1
        have hent := HMy.out.past.ent1
        have hwe : IntKind.i64.wrap (ent + 1) = ent + 1 := by rw [IntKind.wrap_i64]; have := HMy.out.past.ent0; omega
        by_cases hge : (q : Int) < ent
        · rw [if_pos hge] at hsp
          obtain ⟨Zs, HZs⟩ : ∃ Zs, Hid (wr.setCell ⟨w6.heap.size, 1, none⟩ (.int .i64 (ent + 1)) = Zs) := ⟨_, rfl⟩
          have HO9 : Hid (Ot Y Zs w6.heap.size (some ⟨gx, 0, none⟩) c (shP q ent) B2 mem.length m2 (othL text q wn text.length)) := by
            unfold Hid
            rw [← HZs.out, hsp]
            exact HO.out.entry _
          have HBf : Hid (Below W0.heap.size W0 Zs) := HBo.out _ HO9.out
          clear hsp
          go_upto_region 23 with fail
          rw [HZs.out]
          clear HZs o0 o1 o2 of1 hwe hge hent HO k0 k1 k2 y0 y1
          obtain ⟨o0, o1, o2⟩ := HO9.out.cells
          obtain ⟨k0, k1, k2, y0, y1⟩ := HI.out _ HBf.out
          by_cases h4 : 4096 < tape.length
          · have E1 := newE_big (ent := ent) HMy.out h4
            have E2 := newE_big (ent := shP q ent) HMo.out h4
            have D1 := (CN1 Zs HBf.out).mono (fun e w' h => new_er E1 (by decide) h)
            have D2 := fun wx hx h1 h2 => (CN2 gx c m2 B2 _ (shP q ent) wx hx h1 h2 HRo.out HLo.out).mono (fun e w' h => new_er E2 (by decide) h)
            clear CN1 CN2 E1 E2
            generalize othL text q wn text.length = TT at *
            go_upto_region 24 with (go_at_call 18; refine D1.mono ?_; rintro e w10 ⟨rfl, hb10⟩; have HB10 : Hid (Below W0.heap.size W0 w10) := lb_trans HBf.out hb10; have HO10 : Hid (Ot Y w10 w6.heap.size (some ⟨gx, 0, none⟩) c (shP q ent) B2 mem.length m2 TT) := HO9.out.keep hb10; clear hb10)
            clear D1 k0 k1 k2 y0 y1 o0 o1 o2
            obtain ⟨o0, o1, o2⟩ := HO10.out.cells
            have D3 := D2 w10 HB10.out (row_ints HO10.out.row) (HMY.out _ HO10.out.but)
            clear D2
            generalize shP q ent = e2 at *
            go_upto_region 25 with (go_at_call 18; refine D3.mono ?_; rintro e w11 ⟨rfl, hb11⟩; have HB11 : Hid (Below W0.heap.size W0 w11) := lb_trans HB10.out hb11; clear hb11)
            go_wp2_with (go_at_call 6; refine (CW _).mono ?_; rintro e wz ⟨rfl, hbz⟩)
            go_ret
            exact ⟨rfl, lb_trans HB0.out (lb_trans HB11.out hbz)⟩
          · have E1 := newE_ok (ent := ent) HMy.out h4
            have E2 := newE_ok (ent := shP q ent) HMo.out h4
            have HF1 : Hid _ := (new_facts E1 HRg.out)
            have HF2 : Hid _ := (new_facts E2 HRo.out)
            have HRl : Hid (Rl text (othL text q wn text.length) ent q H (newM text tape mem ent) (newM (othL text q wn text.length) tape mem (shP q ent))) := rl_new HMy.out HF1.out.1 HF2.out.1
            have D1 := (CN1 Zs HBf.out).mono (fun e w' h => new_ok E1 h)
            have D2 := fun wx hx h1 h2 => (CN2 gx c m2 B2 _ (shP q ent) wx hx h1 h2 HRo.out HLo.out).mono (fun e w' h => new_ok E2 h)
            clear CN1 CN2 E1 E2
            go_upto_region 24 with (go_at_call 18; refine D1.mono ?_; rintro e w10 ⟨P1, s1, rfl, hp10, hb10⟩; have HB10 : Hid (Below W0.heap.size W0 w10) := lb_trans HBf.out hb10; have HO10 : Hid (Ot Y w10 w6.heap.size (some ⟨gx, 0, none⟩) c (shP q ent) B2 mem.length m2 (othL text q wn text.length)) := HO9.out.keep hb10; have HP10 : Hid (PAt w10 Zs.heap.size P1 s1 (newM text tape mem ent)) := hp10; have HS10 : Hid (Zs.heap.size ≤ w10.heap.size) := hb10.size; clear hb10 hp10)
            clear D1 k0 k1 k2 y0 y1 o0 o1 o2
            obtain ⟨o0, o1, o2⟩ := HO10.out.cells
            have D3 := D2 w10 HB10.out (row_ints HO10.out.row) (HMY.out _ HO10.out.but)
            clear D2
            go_upto_region 25 with (go_at_call 18; refine D3.mono ?_; rintro e w11 ⟨P2, s2, rfl, hp11, hb11⟩; have HB11 : Hid (Below W0.heap.size W0 w11) := lb_trans HB10.out hb11; have HA : Hid (Al w11 W0 Zs.heap.size P1 P2 s1 s2 (newM text tape mem ent) (newM (othL text q wn text.length) tape mem (shP q ent)) 0) := ⟨Pair.two HP10.out hp11 hb11 HS10.out, HF1.out.1, HF2.out.1, ⟨by rw [HF1.out.2.1]; exact Nat.le_refl _, by rw [HF2.out.2.1]; exact Nat.le_refl _⟩, lb_trans HB10.out hb11⟩; clear hb11 hp11)
            clear D3 o0 o1 o2
            have CA := alike_any W0 Zs.heap.size P1 P2 q text (othL text q wn text.length) mem.length ent (r : Int) H s1 s2 _ _ w11 HA.out HRl.out HMy.out HOt.out HH2.out Hd.out HBf.out.size (by omega)
            obtain ⟨k0, k1, k2, y0, y1⟩ := HI.out _ HB11.out
            go_wp2_with fail
            refine CA.mono ?_
            rintro e w12 ⟨rfl, hb12⟩
            have HB12 : Hid (Below W0.heap.size W0 w12) := hb12
            clear hb12 k0 k1 k2 y0 y1
            go_wp2_with (go_at_call 6; refine (CW _).mono ?_; rintro e wz ⟨rfl, hbz⟩)
            go_ret
            exact ⟨rfl, lb_trans HB0.out (lb_trans HB12.out hbz)⟩
        · rw [if_neg hge] at hsp
          have HO9 : Hid (Ot Y wr w6.heap.size (some ⟨gx, 0, none⟩) c (shP q ent) B2 mem.length m2 (othL text q wn text.length)) := by
            unfold Hid
            rw [hsp]
            exact HO.out
          have HBf : Hid (Below W0.heap.size W0 wr) := HBr
          clear hsp
          go_upto_region 23 with fail
          clear o0 o1 o2 of1 hwe hge hent HO
          obtain ⟨o0, o1, o2⟩ := HO9.out.cells
          by_cases h4 : 4096 < tape.length
          · have E1 := newE_big (ent := ent) HMy.out h4
            have E2 := newE_big (ent := shP q ent) HMo.out h4
            have D1 := (CN1 wr HBf.out).mono (fun e w' h => new_er E1 (by decide) h)
            have D2 := fun wx hx h1 h2 => (CN2 gx c m2 B2 _ (shP q ent) wx hx h1 h2 HRo.out HLo.out).mono (fun e w' h => new_er E2 (by decide) h)
            clear CN1 CN2 E1 E2
            generalize othL text q wn text.length = TT at *
            go_upto_region 24 with (go_at_call 18; refine D1.mono ?_; rintro e w10 ⟨rfl, hb10⟩; have HB10 : Hid (Below W0.heap.size W0 w10) := lb_trans HBf.out hb10; have HO10 : Hid (Ot Y w10 w6.heap.size (some ⟨gx, 0, none⟩) c (shP q ent) B2 mem.length m2 TT) := HO9.out.keep hb10; clear hb10)
            clear D1 k0 k1 k2 y0 y1 o0 o1 o2
            obtain ⟨o0, o1, o2⟩ := HO10.out.cells
            have D3 := D2 w10 HB10.out (row_ints HO10.out.row) (HMY.out _ HO10.out.but)
            clear D2
            generalize shP q ent = e2 at *
            go_upto_region 25 with (go_at_call 18; refine D3.mono ?_; rintro e w11 ⟨rfl, hb11⟩; have HB11 : Hid (Below W0.heap.size W0 w11) := lb_trans HB10.out hb11; clear hb11)
            go_wp2_with (go_at_call 6; refine (CW _).mono ?_; rintro e wz ⟨rfl, hbz⟩)
            go_ret
            exact ⟨rfl, lb_trans HB0.out (lb_trans HB11.out hbz)⟩
          · have E1 := newE_ok (ent := ent) HMy.out h4
            have E2 := newE_ok (ent := shP q ent) HMo.out h4
            have HF1 : Hid _ := (new_facts E1 HRg.out)
            have HF2 : Hid _ := (new_facts E2 HRo.out)
            have HRl : Hid (Rl text (othL text q wn text.length) ent q H (newM text tape mem ent) (newM (othL text q wn text.length) tape mem (shP q ent))) := rl_new HMy.out HF1.out.1 HF2.out.1
            have D1 := (CN1 wr HBf.out).mono (fun e w' h => new_ok E1 h)
            have D2 := fun wx hx h1 h2 => (CN2 gx c m2 B2 _ (shP q ent) wx hx h1 h2 HRo.out HLo.out).mono (fun e w' h => new_ok E2 h)
            clear CN1 CN2 E1 E2
            go_upto_region 24 with (go_at_call 18; refine D1.mono ?_; rintro e w10 ⟨P1, s1, rfl, hp10, hb10⟩; have HB10 : Hid (Below W0.heap.size W0 w10) := lb_trans HBf.out hb10; have HO10 : Hid (Ot Y w10 w6.heap.size (some ⟨gx, 0, none⟩) c (shP q ent) B2 mem.length m2 (othL text q wn text.length)) := HO9.out.keep hb10; have HP10 : Hid (PAt w10 wr.heap.size P1 s1 (newM text tape mem ent)) := hp10; have HS10 : Hid (wr.heap.size ≤ w10.heap.size) := hb10.size; clear hb10 hp10)
            clear D1 k0 k1 k2 y0 y1 o0 o1 o2
            obtain ⟨o0, o1, o2⟩ := HO10.out.cells
            have D3 := D2 w10 HB10.out (row_ints HO10.out.row) (HMY.out _ HO10.out.but)
            clear D2
            go_upto_region 25 with (go_at_call 18; refine D3.mono ?_; rintro e w11 ⟨P2, s2, rfl, hp11, hb11⟩; have HB11 : Hid (Below W0.heap.size W0 w11) := lb_trans HB10.out hb11; have HA : Hid (Al w11 W0 wr.heap.size P1 P2 s1 s2 (newM text tape mem ent) (newM (othL text q wn text.length) tape mem (shP q ent)) 0) := ⟨Pair.two HP10.out hp11 hb11 HS10.out, HF1.out.1, HF2.out.1, ⟨by rw [HF1.out.2.1]; exact Nat.le_refl _, by rw [HF2.out.2.1]; exact Nat.le_refl _⟩, lb_trans HB10.out hb11⟩; clear hb11 hp11)
            clear D3 o0 o1 o2
            have CA := alike_any W0 wr.heap.size P1 P2 q text (othL text q wn text.length) mem.length ent (r : Int) H s1 s2 _ _ w11 HA.out HRl.out HMy.out HOt.out HH2.out Hd.out HBf.out.size (by omega)
            obtain ⟨k0, k1, k2, y0, y1⟩ := HI.out _ HB11.out
            go_wp2_with fail
            refine CA.mono ?_
            rintro e w12 ⟨rfl, hb12⟩
            have HB12 : Hid (Below W0.heap.size W0 w12) := hb12
            clear hb12 k0 k1 k2 y0 y1
            go_wp2_with (go_at_call 6; refine (CW _).mono ?_; rintro e wz ⟨rfl, hbz⟩)
            go_ret
            exact ⟨rfl, lb_trans HB0.out (lb_trans HB12.out hbz)⟩
  · have CH := HH.no A1 A2 c1 mem.length c2 ent text w1 (hT.keep (lb_trans HB0.out HB1.out)) hR hc1 (by omega) (by omega) hE
    have hne : ((checkI text mem.length ent).1 == 0) = false := by simpa using hE
    have hne2 : ((checkI text mem.length ent).1 != 0) = true := by simpa using hE
    clear hE
    generalize (checkI text mem.length ent).1 = E at *
    go_upto_region 4 with (go_at_call 10; refine CH.mono ?_; rintro e w2 ⟨A, c, rfl, hb2⟩; have HB2 : Hid (Below W0.heap.size W0 w2) := lb_trans HB1.out hb2; clear hb2)
    go_big_quiet (fail)
    go_wp2_with (go_at_call 6; refine (CW _).mono ?_; rintro e w3 ⟨rfl, hb3⟩)
    go_ret
    exact ⟨rfl, lb_trans HB0.out (lb_trans HB2.out (lb_trans (below_drewN (Below.refl _ _) _) hb3))⟩

end Go.Proofs.YtfnicgihpelhhaaGreat
