/-
  The document looks at the sum, and that nothing is behind it; the bytes are at most 2^20. The document takes a number of eight bytes; the bytes are at most 2^20.
-/
import Derived.Test.YtfaekkbblpfbhaaDoorProg
import Derived.WalkKit
import Derived.WalkSpells
import Derived.WalkLawsBesides
import Derived.RowKit3
import Derived.Below
import Derived.Deep.QuietTactic
import Derived.BigQuiet
import Derived.WalkSmall
import Derived.Test.YtfaekkbblpfbhaaDoorIr30
import Derived.Test.YtfaekkbblpfbhaaDoorIr08
import Derived.Laws.BitsAllLaws
namespace Go.Proofs.YtfaekkbblpfbhaaDoor
open Go.RowKit

theorem ints_taken {w : World} {A : Option Addr} {K : IntKind} {l : List Int} (h : IntsAt w A K l) (p : Nat) : IntsAt w A K (l.take p) := fun i hi => by
  have hi' : i < p ∧ i < l.length := by rw [List.length_take] at hi; omega
  obtain ⟨a, e, q⟩ := h i hi'.2
  exact ⟨a, e, by rw [show nth (l.take p) i = nth l i by simp [nth, List.getD, hi'.1]]; exact q⟩
set_option maxRecDepth 100000 in
set_option maxHeartbeats 1000000 in
theorem tend_any (g : Nat) (A : Option Addr) (c : Nat) (b : List Int) (t : Tk) (w0 w : World) (hB : IntsAt w0 A .u8 b) (hb0 : Below w0.heap.size w0 w) (hg0 : w0.heap.size ≤ g) (hA : AreB b) (hN : b.length ≤ 1048576) (hp : t.pos ≤ 1048600) (ht : TkAt w g A b.length c t) (hcap : b.length ≤ c) : Calls Tryd.prog 64 #[.pointer (some ⟨g, 0, none⟩)] w fun r w' => r = .returned (.tuple #[]) ∧ But g w w' ∧ TkAt w' g A b.length c (tEnd b t) := by
  have CF := tfour_any g A c b t w0 w hB hb0 hg0 hA hN hp ht
  have c1 := ht.1.2.1
  clear ht
  by_cases hz : (tFour b t).2.bad = 0
  · obtain ⟨ha, _, _⟩ := tFour_ok hA hz
    have hF : (tFour b t).2 = ⟨t.pos + 4, 0, t.place⟩ ∧ t.pos + 4 ≤ b.length := by
      unfold tFour at hz ⊢
      split at hz
      · next hc =>
        rw [if_pos hc]
        obtain ⟨_, h1, _⟩ := tHas_ok hc
        exact ⟨rfl, by omega⟩
      · next hc => exact absurd hz hc
    obtain ⟨hF, hl⟩ := hF
    have HE : Hid (tEnd b t = if t.pos + 4 < b.length then ⟨t.pos + 4, 27, t.pos + 4⟩ else if (tFour b t).1 = sumB (b.take t.pos) then ⟨t.pos + 4, 0, t.place⟩ else ⟨t.pos + 4, 28, t.pos⟩) := by
      unfold Hid tEnd; rw [if_pos hz, hF]
    rw [hF] at CF
    clear ha hz hF
    generalize (tFour b t).1 = x at CF HE
    obtain ⟨a, rfl, _⟩ := hB 0 (by omega)
    have htl : (b.take t.pos).length = t.pos := by rw [List.length_take]; omega
    have CS := fun wx (h : Below w0.heap.size w0 wx) => refsum_any (some a) c (b.take t.pos) wx (ints_taken (hB.keep h) _) (hA.take _) (by omega)
    rw [htl] at CS
    generalize sumB (b.take t.pos) = s at CS HE
    have hc' : (b.length : Int) ≤ (c : Int) := by omega
    by_cases h1 : t.pos + 4 < b.length
    · have HE2 : Hid (tEnd b t = ⟨t.pos + 4, 27, t.pos + 4⟩) := by rw [Hid, HE.out, if_pos h1]
      have CW := fun wx (h : TkAt wx g (some a) b.length c ⟨t.pos + 4, 0, t.place⟩) => wrong_any g (some a) b.length c ⟨t.pos + 4, 0, t.place⟩ 27 (t.pos + 4) wx h
      have CW2 := fun wx (h : TkAt wx g (some a) b.length c ⟨t.pos + 4, 27, t.pos + 4⟩) => wrong_any g (some a) b.length c ⟨t.pos + 4, 27, t.pos + 4⟩ 28 t.pos wx h
      rw [show tWrong ⟨t.pos + 4, 0, t.place⟩ 27 (t.pos + 4) = ⟨t.pos + 4, 27, t.pos + 4⟩ from rfl] at CW
      rw [show tWrong ⟨t.pos + 4, 27, t.pos + 4⟩ 28 t.pos = ⟨t.pos + 4, 27, t.pos + 4⟩ from rfl] at CW2
      clear HE
      go_enter Tryd.func64, Tryd.ntmps64
      go_wp2_with fail
      refine CF.mono ?_
      rintro r w1 ⟨rfl, hb1, ht1⟩
      have HB1 : Hid (But g w w1) := hb1
      have HT1 : Hid (TkAt w1 g (some a) b.length c ⟨t.pos + 4, 0, t.place⟩) := ht1
      obtain ⟨⟨d0, d1, d2, d3⟩, _⟩ := ht1
      simp only at d1 d2 d3
      clear hb1 CF
      go_upto_region 3 with fail
      go_big_quiet (fail)
      go_wp2_with fail
      refine (CW _ (HT1.out.drewN _)).mono ?_
      rintro r w2 ⟨rfl, hb2, ht2⟩
      have HB2 : Hid (But g w w2) := (HB1.out.drewN _).trans hb2
      have HW2 : Hid (Below w0.heap.size w0 w2) := HB2.out.below hb0 hg0
      have HT2 : Hid (TkAt w2 g (some a) b.length c ⟨t.pos + 4, 27, t.pos + 4⟩) := ht2
      obtain ⟨⟨e0, e1, e2, e3⟩, _⟩ := ht2
      clear hb2 CW
      go_wp2_with fail
      refine (CS _ HW2.out).mono ?_
      rintro r w3 ⟨rfl, rfl⟩
      cases hx : (x == s) with
      | true =>
        have hx2 : (x != s) = false := by simpa using hx
        go_wp2
        go_end0
        exact ⟨rfl, HB2.out, by rw [HE2.out]; exact HT2.out⟩
      | false =>
        have hx2 : (x != s) = true := by simpa using hx
        go_wp2_with fail
        refine (CW2 _ HT2.out).mono ?_
        rintro r w4 ⟨rfl, hb4, ht4⟩
        have HB4 : Hid (But g w w4) := HB2.out.trans hb4
        have HT4 : Hid (TkAt w4 g (some a) b.length c ⟨t.pos + 4, 27, t.pos + 4⟩) := ht4
        clear hb4 ht4 CW2
        go_wp2
        go_end0
        exact ⟨rfl, HB4.out, by rw [HE2.out]; exact HT4.out⟩
    · have CW := fun wx (h : TkAt wx g (some a) b.length c ⟨t.pos + 4, 0, t.place⟩) => wrong_any g (some a) b.length c ⟨t.pos + 4, 0, t.place⟩ 28 t.pos wx h
      rw [show tWrong ⟨t.pos + 4, 0, t.place⟩ 28 t.pos = ⟨t.pos + 4, 28, t.pos⟩ from rfl] at CW
      go_enter Tryd.func64, Tryd.ntmps64
      go_wp2_with fail
      refine CF.mono ?_
      rintro r w1 ⟨rfl, hb1, ht1⟩
      have HB1 : Hid (But g w w1) := hb1
      have HW1 : Hid (Below w0.heap.size w0 w1) := hb1.below hb0 hg0
      have HT1 : Hid (TkAt w1 g (some a) b.length c ⟨t.pos + 4, 0, t.place⟩) := ht1
      obtain ⟨⟨d0, d1, d2, d3⟩, _⟩ := ht1
      simp only at d1 d2 d3
      clear hb1 CF
      go_upto_region 3 with fail
      go_big_quiet (fail)
      go_wp2_with fail
      refine (CS _ (below_drewN HW1.out _)).mono ?_
      rintro r w3 ⟨rfl, rfl⟩
      cases hx : (x == s) with
      | true =>
        have HE2 : Hid (tEnd b t = ⟨t.pos + 4, 0, t.place⟩) := by rw [Hid, HE.out, if_neg h1, if_pos (by simpa using hx)]
        have hx2 : (x != s) = false := by simpa using hx
        clear HE
        go_wp2
        go_end0
        exact ⟨rfl, HB1.out.drewN _, by rw [HE2.out]; exact HT1.out.drewN _⟩
      | false =>
        have HE2 : Hid (tEnd b t = ⟨t.pos + 4, 28, t.pos⟩) := by rw [Hid, HE.out, if_neg h1, if_neg (by simpa using hx)]
        have hx2 : (x != s) = true := by simpa using hx
        clear HE
        go_wp2_with fail
        refine (CW _ (HT1.out.drewN _)).mono ?_
        rintro r w4 ⟨rfl, hb4, ht4⟩
        have HB4 : Hid (But g w w4) := (HB1.out.drewN _).trans hb4
        have HT4 : Hid (TkAt w4 g (some a) b.length c ⟨t.pos + 4, 28, t.pos⟩) := ht4
        clear hb4 ht4 CW
        go_wp2
        go_end0
        exact ⟨rfl, HB4.out, by rw [HE2.out]; exact HT4.out⟩
  · have HE2 : Hid (tEnd b t = (tFour b t).2) := by unfold Hid tEnd; rw [if_neg hz]
    generalize tFour b t = R at CF HE2 hz
    obtain ⟨x, t2⟩ := R
    simp only at CF HE2 hz
    have hz2 : (t2.bad != 0) = true := by simpa using hz
    go_enter Tryd.func64, Tryd.ntmps64
    go_wp2_with fail
    refine CF.mono ?_
    rintro r w1 ⟨rfl, hb1, ht1⟩
    have HB1 : Hid (But g w w1) := hb1
    have HT1 : Hid (TkAt w1 g A b.length c t2) := ht1
    obtain ⟨⟨d0, d1, d2, d3⟩, _⟩ := ht1
    clear hb1 CF
    go_wp2
    refine bodyPost_ret (results_none rfl _ _ _) rfl ?_
    exact ⟨rfl, HB1.out, by rw [HE2.out]; exact HT1.out⟩



end Go.Proofs.YtfaekkbblpfbhaaDoor

namespace Go.Proofs.YtfaekkbblpfbhaaDoor
open Go.RowKit

theorem or_add64r (X y q : Int) (hX : X = 4294967296 * q) (h0 : 0 ≤ q) (h1 : 0 ≤ y) (h2 : y < 4294967296) (h3 : X + y < 18446744073709551616) : bits .or .u64 X y = X + y := by
  obtain ⟨Q, rfl⟩ := Int.eq_ofNat_of_zero_le h0
  obtain ⟨Y, rfl⟩ := Int.eq_ofNat_of_zero_le h1
  rw [u64_or X Y (by omega) (by omega) (by omega) (by omega)]
  have e : X.toNat = 2 ^ 32 * Q := by omega
  have hy : Y < 2 ^ 32 := by omega
  rw [Int.toNat_natCast, e, ← Nat.two_pow_add_eq_or_of_lt hy]
  omega
theorem wrap_s64 {x : Int} (h0 : 0 ≤ x) (h1 : x < 18446744073709551616) : wrap64 x = s64 x := by
  unfold wrap64 s64
  split <;> omega
set_option maxRecDepth 100000 in
set_option maxHeartbeats 1000000 in
theorem teight_any (g : Nat) (A : Option Addr) (c : Nat) (b : List Int) (t : Tk) (w0 w : World) (hB : IntsAt w0 A .u8 b) (hb0 : Below w0.heap.size w0 w) (hg0 : w0.heap.size ≤ g) (hA : AreB b) (hN : b.length ≤ 1048576) (hp : t.pos ≤ 1048600) (ht : TkAt w g A b.length c t) : Calls Tryd.prog 63 #[.pointer (some ⟨g, 0, none⟩)] w fun r w' => r = .returned (.int .i64 (tEight b t).1) ∧ But g w w' ∧ TkAt w' g A b.length c (tEight b t).2 := by
  have CH := has_any g A b.length c t 8 w ht hN (by omega) (by omega) (by omega)
  by_cases hh : (tHas b.length t 8).bad = 0
  · obtain ⟨hz, hl, he⟩ := tHas_ok hh
    have e1 : tFour b t = (v4 (b.drop t.pos), ⟨t.pos + 4, 0, t.place⟩) := by
      unfold tFour
      rw [if_pos]
      unfold tHas; rw [if_neg (by omega)]; exact hz
    have e2 : tFour b ⟨t.pos + 4, 0, t.place⟩ = (v4 (b.drop (t.pos + 4)), ⟨t.pos + 8, 0, t.place⟩) := by
      unfold tFour
      rw [if_pos]
      unfold tHas; simp only; rw [if_neg (by omega)]
    have C1 := fun wx (hb : Below w0.heap.size w0 wx) (h : TkAt wx g A b.length c t) => tfour_any g A c b t w0 wx hB hb hg0 hA hN hp h
    have C2 := fun wx (hb : Below w0.heap.size w0 wx) (h : TkAt wx g A b.length c ⟨t.pos + 4, 0, t.place⟩) => tfour_any g A c b ⟨t.pos + 4, 0, t.place⟩ w0 wx hB hb hg0 hA hN (by simp only; omega) h
    rw [e1] at C1
    rw [e2] at C2
    simp only at C1 C2
    have HF : Hid (tEight b t = (v8 (b.drop t.pos), ⟨t.pos + 8, 0, t.place⟩)) := by unfold Hid tEight; rw [if_pos hh]
    have HV : Hid (v8 (b.drop t.pos) = s64 (v4 (b.drop t.pos) * 4294967296 + v4 (b.drop (t.pos + 4)))) := by unfold Hid v8; rw [List.drop_drop]
    obtain ⟨_, x0, x1⟩ := be4_v4 (l := b.drop t.pos) (by simp; omega) (hA.drop _)
    obtain ⟨_, y0, y1⟩ := be4_v4 (l := b.drop (t.pos + 4)) (by simp; omega) (hA.drop _)
    rw [show ((tHas b.length t 8).bad == 0) = true by rw [hh]; rfl, he] at CH
    clear hh he e1 e2
    generalize v4 (b.drop t.pos) = x at C1 HV x0 x1
    generalize v4 (b.drop (t.pos + 4)) = y at C2 HV y0 y1
    have hor := or_add64r (x * 4294967296) y x (by omega) x0 y0 y1 (by omega)
    go_enter Tryd.func63, Tryd.ntmps63
    go_wp2_with fail
    refine CH.mono ?_
    rintro r w1 ⟨rfl, hb1, ht1⟩
    have HB1 : Hid (But g w w1) := hb1
    have HT1 : Hid (TkAt w1 g A b.length c t) := ht1
    have HW1 : Hid (Below w0.heap.size w0 w1) := hb1.below hb0 hg0
    clear hb1 ht1 CH
    go_wp2_with fail
    refine (C1 _ HW1.out HT1.out).mono ?_
    rintro r w2 ⟨rfl, hb2, ht2⟩
    have HB2 : Hid (But g w w2) := HB1.out.trans hb2
    have HT2 : Hid (TkAt w2 g A b.length c ⟨t.pos + 4, 0, t.place⟩) := ht2
    have HW2 : Hid (Below w0.heap.size w0 w2) := HB2.out.below hb0 hg0
    clear hb2 ht2 C1
    go_wp2_with fail
    refine (C2 _ HW2.out HT2.out).mono ?_
    rintro r w3 ⟨rfl, hb3, ht3⟩
    have HB3 : Hid (But g w w3) := HB2.out.trans hb3
    have HT3 : Hid (TkAt w3 g A b.length c ⟨t.pos + 8, 0, t.place⟩) := ht3
    clear hb3 ht3 C2
    go_wp2
    go_ret
    exact ⟨by rw [HF.out]; simp only; rw [HV.out, ← wrap_s64 (by omega) (by omega)]; rfl, HB3.out, by rw [HF.out]; exact HT3.out⟩
  · have HF : Hid (tEight b t = (0, tHas b.length t 8)) := by unfold Hid tEight; rw [if_neg hh]
    rw [show ((tHas b.length t 8).bad == 0) = false by simpa using hh] at CH
    clear hh
    go_enter Tryd.func63, Tryd.ntmps63
    go_wp2_with fail
    refine CH.mono ?_
    rintro r w1 ⟨rfl, hb1, ht1⟩
    have HB1 : Hid (But g w w1) := hb1
    have HT1 : Hid (TkAt w1 g A b.length c (tHas b.length t 8)) := ht1
    clear hb1 ht1 CH
    go_wp2
    go_ret
    exact ⟨by rw [HF.out]; rfl, HB1.out, by rw [HF.out]; exact HT1.out⟩



end Go.Proofs.YtfaekkbblpfbhaaDoor
