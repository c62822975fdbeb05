/-
  The document looks at the sum, and that nothing is behind it; the bytes are at most 2^20. The document takes a number of eight bytes; the bytes are at most 2^20. The document looks at the bytes with which it must begin; the bytes are at most 2^20. The document reads an object; the bytes are at most 2^19.
-/
import Derived.Test.YthfcimmfkibmjaaGreatDoorProg
import Derived.WalkKit
import Derived.WalkSpells
import Derived.WalkLawsBesides
import Derived.RowKit3
import Derived.Below
import Derived.Deep.QuietTactic
import Derived.BigQuiet
import Derived.WalkSmall
import Derived.Test.YthfcimmfkibmjaaGreatDoorWd25
import Derived.Test.YthfcimmfkibmjaaGreatDoorWd08
import Derived.Laws.BitsAllLaws
import Derived.Laws.Rows
import Derived.Test.YthfcimmfkibmjaaGreatDoorWd13
import Derived.Test.YthfcimmfkibmjaaGreatDoorWd18
import Derived.Deep.DeepCutAuto
import Derived.Deep.RegionHeld3
import Derived.Deep.RegionLaw
namespace Go.Proofs.YthfcimmfkibmjaaGreatDoor
open Go.RowKit

theorem ints_taken {w : World} {A : Option Addr} {K : IntKind} {l : List Int} (h : IntsAt w A K l) (p : Nat) : IntsAt w A K (l.take p) := fun i hi => by
  have hi' : i < p ∧ i < l.length := by rw [List.length_take] at hi; omega
  obtain ⟨a, e, q⟩ := h i hi'.2
  exact ⟨a, e, by rw [show nth (l.take p) i = nth l i by simp [nth, List.getD, hi'.1]]; exact q⟩
set_option maxRecDepth 100000 in
set_option maxHeartbeats 1000000 in
theorem tend_any (g : Nat) (A : Option Addr) (c : Nat) (b : List Int) (t : Tk) (w0 w : World) (hB : IntsAt w0 A .u8 b) (hb0 : Below w0.heap.size w0 w) (hg0 : w0.heap.size ≤ g) (hA : AreB b) (hN : b.length ≤ 1048576) (hp : t.pos ≤ 1048600) (ht : TkAt w g A b.length c t) (hcap : b.length ≤ c) : Calls Tryz.prog 67 #[.pointer (some ⟨g, 0, none⟩)] w fun r w' => r = .returned (.tuple #[]) ∧ But g w w' ∧ TkAt w' g A b.length c (tEnd b t) := by
  have CF := tfour_any g A c b t w0 w hB hb0 hg0 hA hN hp ht
  have c1 := ht.1.2.1
  clear ht
  by_cases hz : (tFour b t).2.bad = 0
  · obtain ⟨ha, _, _⟩ := tFour_ok hA hz
    have hF : (tFour b t).2 = ⟨t.pos + 4, 0, t.place⟩ ∧ t.pos + 4 ≤ b.length := by
      unfold tFour at hz ⊢
      split at hz
      · next hc =>
        rw [if_pos hc]
        obtain ⟨_, h1, _⟩ := tHas_ok hc
        exact ⟨rfl, by omega⟩
      · next hc => exact absurd hz hc
    obtain ⟨hF, hl⟩ := hF
    have HE : Hid (tEnd b t = if t.pos + 4 < b.length then ⟨t.pos + 4, 27, t.pos + 4⟩ else if (tFour b t).1 = sumB (b.take t.pos) then ⟨t.pos + 4, 0, t.place⟩ else ⟨t.pos + 4, 28, t.pos⟩) := by
      unfold Hid tEnd; rw [if_pos hz, hF]
    rw [hF] at CF
    clear ha hz hF
    generalize (tFour b t).1 = x at CF HE
    obtain ⟨a, rfl, _⟩ := hB 0 (by omega)
    have htl : (b.take t.pos).length = t.pos := by rw [List.length_take]; omega
    have CS := fun wx (h : Below w0.heap.size w0 wx) => refsum_any (some a) c (b.take t.pos) wx (ints_taken (hB.keep h) _) (hA.take _) (by omega)
    rw [htl] at CS
    generalize sumB (b.take t.pos) = s at CS HE
    have hc' : (b.length : Int) ≤ (c : Int) := by omega
    by_cases h1 : t.pos + 4 < b.length
    · have HE2 : Hid (tEnd b t = ⟨t.pos + 4, 27, t.pos + 4⟩) := by rw [Hid, HE.out, if_pos h1]
      have CW := fun wx (h : TkAt wx g (some a) b.length c ⟨t.pos + 4, 0, t.place⟩) => wrong_any g (some a) b.length c ⟨t.pos + 4, 0, t.place⟩ 27 (t.pos + 4) wx h
      have CW2 := fun wx (h : TkAt wx g (some a) b.length c ⟨t.pos + 4, 27, t.pos + 4⟩) => wrong_any g (some a) b.length c ⟨t.pos + 4, 27, t.pos + 4⟩ 28 t.pos wx h
      rw [show tWrong ⟨t.pos + 4, 0, t.place⟩ 27 (t.pos + 4) = ⟨t.pos + 4, 27, t.pos + 4⟩ from rfl] at CW
      rw [show tWrong ⟨t.pos + 4, 27, t.pos + 4⟩ 28 t.pos = ⟨t.pos + 4, 27, t.pos + 4⟩ from rfl] at CW2
      clear HE
      go_enter Tryz.func67, Tryz.ntmps67
      go_wp2_with fail
      refine CF.mono ?_
      rintro r w1 ⟨rfl, hb1, ht1⟩
      have HB1 : Hid (But g w w1) := hb1
      have HT1 : Hid (TkAt w1 g (some a) b.length c ⟨t.pos + 4, 0, t.place⟩) := ht1
      obtain ⟨⟨d0, d1, d2, d3⟩, _⟩ := ht1
      simp only at d1 d2 d3
      clear hb1 CF
      go_upto_region 3 with fail
      go_big_quiet (fail)
      go_wp2_with fail
      refine (CW _ (HT1.out.drewN _)).mono ?_
      rintro r w2 ⟨rfl, hb2, ht2⟩
      have HB2 : Hid (But g w w2) := (HB1.out.drewN _).trans hb2
      have HW2 : Hid (Below w0.heap.size w0 w2) := HB2.out.below hb0 hg0
      have HT2 : Hid (TkAt w2 g (some a) b.length c ⟨t.pos + 4, 27, t.pos + 4⟩) := ht2
      obtain ⟨⟨e0, e1, e2, e3⟩, _⟩ := ht2
      clear hb2 CW
      go_wp2_with fail
      refine (CS _ HW2.out).mono ?_
      rintro r w3 ⟨rfl, rfl⟩
      cases hx : (x == s) with
      | true =>
        have hx2 : (x != s) = false := by simpa using hx
        go_wp2
        go_end0
        exact ⟨rfl, HB2.out, by rw [HE2.out]; exact HT2.out⟩
      | false =>
        have hx2 : (x != s) = true := by simpa using hx
        go_wp2_with fail
        refine (CW2 _ HT2.out).mono ?_
        rintro r w4 ⟨rfl, hb4, ht4⟩
        have HB4 : Hid (But g w w4) := HB2.out.trans hb4
        have HT4 : Hid (TkAt w4 g (some a) b.length c ⟨t.pos + 4, 27, t.pos + 4⟩) := ht4
        clear hb4 ht4 CW2
        go_wp2
        go_end0
        exact ⟨rfl, HB4.out, by rw [HE2.out]; exact HT4.out⟩
    · have CW := fun wx (h : TkAt wx g (some a) b.length c ⟨t.pos + 4, 0, t.place⟩) => wrong_any g (some a) b.length c ⟨t.pos + 4, 0, t.place⟩ 28 t.pos wx h
      rw [show tWrong ⟨t.pos + 4, 0, t.place⟩ 28 t.pos = ⟨t.pos + 4, 28, t.pos⟩ from rfl] at CW
      go_enter Tryz.func67, Tryz.ntmps67
      go_wp2_with fail
      refine CF.mono ?_
      rintro r w1 ⟨rfl, hb1, ht1⟩
      have HB1 : Hid (But g w w1) := hb1
      have HW1 : Hid (Below w0.heap.size w0 w1) := hb1.below hb0 hg0
      have HT1 : Hid (TkAt w1 g (some a) b.length c ⟨t.pos + 4, 0, t.place⟩) := ht1
      obtain ⟨⟨d0, d1, d2, d3⟩, _⟩ := ht1
      simp only at d1 d2 d3
      clear hb1 CF
      go_upto_region 3 with fail
      go_big_quiet (fail)
      go_wp2_with fail
      refine (CS _ (below_drewN HW1.out _)).mono ?_
      rintro r w3 ⟨rfl, rfl⟩
      cases hx : (x == s) with
      | true =>
        have HE2 : Hid (tEnd b t = ⟨t.pos + 4, 0, t.place⟩) := by rw [Hid, HE.out, if_neg h1, if_pos (by simpa using hx)]
        have hx2 : (x != s) = false := by simpa using hx
        clear HE
        go_wp2
        go_end0
        exact ⟨rfl, HB1.out.drewN _, by rw [HE2.out]; exact HT1.out.drewN _⟩
      | false =>
        have HE2 : Hid (tEnd b t = ⟨t.pos + 4, 28, t.pos⟩) := by rw [Hid, HE.out, if_neg h1, if_neg (by simpa using hx)]
        have hx2 : (x != s) = true := by simpa using hx
        clear HE
        go_wp2_with fail
        refine (CW _ (HT1.out.drewN _)).mono ?_
        rintro r w4 ⟨rfl, hb4, ht4⟩
        have HB4 : Hid (But g w w4) := (HB1.out.drewN _).trans hb4
        have HT4 : Hid (TkAt w4 g (some a) b.length c ⟨t.pos + 4, 28, t.pos⟩) := ht4
        clear hb4 ht4 CW
        go_wp2
        go_end0
        exact ⟨rfl, HB4.out, by rw [HE2.out]; exact HT4.out⟩
  · have HE2 : Hid (tEnd b t = (tFour b t).2) := by unfold Hid tEnd; rw [if_neg hz]
    generalize tFour b t = R at CF HE2 hz
    obtain ⟨x, t2⟩ := R
    simp only at CF HE2 hz
    have hz2 : (t2.bad != 0) = true := by simpa using hz
    go_enter Tryz.func67, Tryz.ntmps67
    go_wp2_with fail
    refine CF.mono ?_
    rintro r w1 ⟨rfl, hb1, ht1⟩
    have HB1 : Hid (But g w w1) := hb1
    have HT1 : Hid (TkAt w1 g A b.length c t2) := ht1
    obtain ⟨⟨d0, d1, d2, d3⟩, _⟩ := ht1
    clear hb1 CF
    go_wp2
    refine bodyPost_ret (results_none rfl _ _ _) rfl ?_
    exact ⟨rfl, HB1.out, by rw [HE2.out]; exact HT1.out⟩


end Go.Proofs.YthfcimmfkibmjaaGreatDoor

namespace Go.Proofs.YthfcimmfkibmjaaGreatDoor
open Go.RowKit

theorem or_add64r (X y q : Int) (hX : X = 4294967296 * q) (h0 : 0 ≤ q) (h1 : 0 ≤ y) (h2 : y < 4294967296) (h3 : X + y < 18446744073709551616) : bits .or .u64 X y = X + y := by
  obtain ⟨Q, rfl⟩ := Int.eq_ofNat_of_zero_le h0
  obtain ⟨Y, rfl⟩ := Int.eq_ofNat_of_zero_le h1
  rw [u64_or X Y (by omega) (by omega) (by omega) (by omega)]
  have e : X.toNat = 2 ^ 32 * Q := by omega
  have hy : Y < 2 ^ 32 := by omega
  rw [Int.toNat_natCast, e, ← Nat.two_pow_add_eq_or_of_lt hy]
  omega
theorem wrap_s64 {x : Int} (h0 : 0 ≤ x) (h1 : x < 18446744073709551616) : wrap64 x = s64 x := by
  unfold wrap64 s64
  split <;> omega
set_option maxRecDepth 100000 in
set_option maxHeartbeats 1000000 in
theorem teight_any (g : Nat) (A : Option Addr) (c : Nat) (b : List Int) (t : Tk) (w0 w : World) (hB : IntsAt w0 A .u8 b) (hb0 : Below w0.heap.size w0 w) (hg0 : w0.heap.size ≤ g) (hA : AreB b) (hN : b.length ≤ 1048576) (hp : t.pos ≤ 1048600) (ht : TkAt w g A b.length c t) : Calls Tryz.prog 65 #[.pointer (some ⟨g, 0, none⟩)] w fun r w' => r = .returned (.int .i64 (tEight b t).1) ∧ But g w w' ∧ TkAt w' g A b.length c (tEight b t).2 := by
  have CH := has_any g A b.length c t 8 w ht hN (by omega) (by omega) (by omega)
  by_cases hh : (tHas b.length t 8).bad = 0
  · obtain ⟨hz, hl, he⟩ := tHas_ok hh
    have e1 : tFour b t = (v4 (b.drop t.pos), ⟨t.pos + 4, 0, t.place⟩) := by
      unfold tFour
      rw [if_pos]
      unfold tHas; rw [if_neg (by omega)]; exact hz
    have e2 : tFour b ⟨t.pos + 4, 0, t.place⟩ = (v4 (b.drop (t.pos + 4)), ⟨t.pos + 8, 0, t.place⟩) := by
      unfold tFour
      rw [if_pos]
      unfold tHas; simp only; rw [if_neg (by omega)]
    have C1 := fun wx (hb : Below w0.heap.size w0 wx) (h : TkAt wx g A b.length c t) => tfour_any g A c b t w0 wx hB hb hg0 hA hN hp h
    have C2 := fun wx (hb : Below w0.heap.size w0 wx) (h : TkAt wx g A b.length c ⟨t.pos + 4, 0, t.place⟩) => tfour_any g A c b ⟨t.pos + 4, 0, t.place⟩ w0 wx hB hb hg0 hA hN (by simp only; omega) h
    rw [e1] at C1
    rw [e2] at C2
    simp only at C1 C2
    have HF : Hid (tEight b t = (v8 (b.drop t.pos), ⟨t.pos + 8, 0, t.place⟩)) := by unfold Hid tEight; rw [if_pos hh]
    have HV : Hid (v8 (b.drop t.pos) = s64 (v4 (b.drop t.pos) * 4294967296 + v4 (b.drop (t.pos + 4)))) := by unfold Hid v8; rw [List.drop_drop]
    obtain ⟨_, x0, x1⟩ := be4_v4 (l := b.drop t.pos) (by simp; omega) (hA.drop _)
    obtain ⟨_, y0, y1⟩ := be4_v4 (l := b.drop (t.pos + 4)) (by simp; omega) (hA.drop _)
    rw [show ((tHas b.length t 8).bad == 0) = true by rw [hh]; rfl, he] at CH
    clear hh he e1 e2
    generalize v4 (b.drop t.pos) = x at C1 HV x0 x1
    generalize v4 (b.drop (t.pos + 4)) = y at C2 HV y0 y1
    have hor := or_add64r (x * 4294967296) y x (by omega) x0 y0 y1 (by omega)
    go_enter Tryz.func65, Tryz.ntmps65
    go_wp2_with fail
    refine CH.mono ?_
    rintro r w1 ⟨rfl, hb1, ht1⟩
    have HB1 : Hid (But g w w1) := hb1
    have HT1 : Hid (TkAt w1 g A b.length c t) := ht1
    have HW1 : Hid (Below w0.heap.size w0 w1) := hb1.below hb0 hg0
    clear hb1 ht1 CH
    go_wp2_with fail
    refine (C1 _ HW1.out HT1.out).mono ?_
    rintro r w2 ⟨rfl, hb2, ht2⟩
    have HB2 : Hid (But g w w2) := HB1.out.trans hb2
    have HT2 : Hid (TkAt w2 g A b.length c ⟨t.pos + 4, 0, t.place⟩) := ht2
    have HW2 : Hid (Below w0.heap.size w0 w2) := HB2.out.below hb0 hg0
    clear hb2 ht2 C1
    go_wp2_with fail
    refine (C2 _ HW2.out HT2.out).mono ?_
    rintro r w3 ⟨rfl, hb3, ht3⟩
    have HB3 : Hid (But g w w3) := HB2.out.trans hb3
    have HT3 : Hid (TkAt w3 g A b.length c ⟨t.pos + 8, 0, t.place⟩) := ht3
    clear hb3 ht3 C2
    go_wp2
    go_ret
    exact ⟨by rw [HF.out]; simp only; rw [HV.out, ← wrap_s64 (by omega) (by omega)]; rfl, HB3.out, by rw [HF.out]; exact HT3.out⟩
  · have HF : Hid (tEight b t = (0, tHas b.length t 8)) := by unfold Hid tEight; rw [if_neg hh]
    rw [show ((tHas b.length t 8).bad == 0) = false by simpa using hh] at CH
    clear hh
    go_enter Tryz.func65, Tryz.ntmps65
    go_wp2_with fail
    refine CH.mono ?_
    rintro r w1 ⟨rfl, hb1, ht1⟩
    have HB1 : Hid (But g w w1) := hb1
    have HT1 : Hid (TkAt w1 g A b.length c (tHas b.length t 8)) := ht1
    clear hb1 ht1 CH
    go_wp2
    go_ret
    exact ⟨by rw [HF.out]; rfl, HB1.out, by rw [HF.out]; exact HT1.out⟩


end Go.Proofs.YthfcimmfkibmjaaGreatDoor

namespace Go.Proofs.YthfcimmfkibmjaaGreatDoor
open Go.RowKit

def mis (b want : List Int) (i : Nat) : Bool := decide (b.length ≤ i) || nth b i != nth want i
theorem begin_no {b want : List Int} {k : Nat} (hk : k < want.length) (h : ∀ j, j < k → mis b want j = false) (e : mis b want k = true) : tBegin b want = ⟨want.length, 27, k⟩ := by
  unfold tBegin
  have : (List.range want.length).find? (fun i => decide (b.length ≤ i) || nth b i != nth want i) = some k := by
    rw [List.find?_range_eq_some]
    exact ⟨e, by simpa using hk, fun j hj => by have := h j hj; unfold mis at this; rw [this]; rfl⟩
  rw [this]
theorem begin_yes {b want : List Int} (h : ∀ j, j < want.length → mis b want j = false) : tBegin b want = ⟨want.length, 0, 0⟩ := by
  unfold tBegin
  have : (List.range want.length).find? (fun i => decide (b.length ≤ i) || nth b i != nth want i) = none := by
    rw [List.find?_eq_none]
    intro j hj
    have := h j (by simpa using hj)
    unfold mis at this
    rw [this]; simp
  rw [this]
def begW : List Int := [80, 76, 79, 49]
def begS : ByteArray := ⟨#[80, 76, 79, 49]⟩
theorem beg_atr (k : Nat) (hk : k < begS.size) : (begS[k].toNat : Int) = nth begW k := by
  have hq : k = 0 ∨ k = 1 ∨ k = 2 ∨ k = 3 := by have : begS.size = 4 := rfl; omega
  rcases hq with rfl | rfl | rfl | rfl <;> rfl
set_option maxRecDepth 100000 in
set_option maxHeartbeats 1000000 in
theorem tbegin_any (g : Nat) (A : Option Addr) (c : Nat) (b : List Int) (w0 w : World) (hB : IntsAt w0 A .u8 b) (hb0 : Below w0.heap.size w0 w) (hg0 : w0.heap.size ≤ g) (_hN : b.length ≤ 1048576) (ht : TkAt w g A b.length c ⟨0, 0, 0⟩) :
    Calls Tryz.prog 61 #[.pointer (some ⟨g, 0, none⟩), .string begS] w fun r w' => r = .returned (.tuple #[]) ∧ But g w w' ∧ TkAt w' g A b.length c (tBegin b begW) := by
  have hs : begS.size = 4 := rfl
  have HA : Hid (∀ k (hk : k < begS.size), (begS[k].toNat : Int) = nth begW k) := beg_atr
  have CW := fun (k : Nat) wx (h : TkAt wx g A b.length c ⟨0, 0, 0⟩) => wrong_any g A b.length c ⟨0, 0, 0⟩ 27 k wx h
  have HN : Hid (∀ k, k < 4 → (∀ j, j < k → mis b begW j = false) → mis b begW k = true → tBegin b begW = ⟨4, 27, k⟩) := fun k hk h e => begin_no hk h e
  have HY : Hid ((∀ j, j < 4 → mis b begW j = false) → tBegin b begW = ⟨4, 0, 0⟩) := fun h => begin_yes h
  generalize begS = S at hs HA ⊢
  go_enter Tryz.func61, Tryz.ntmps61
  go_wp2
  go_loopw [4] (fun i wr => ∃ (k : Nat) (bad place : Int), i = .int .i64 k ∧ k ≤ 4 ∧ But g w wr ∧ TkAt wr g A b.length c ⟨0, bad, place⟩ ∧ Hid ((bad = 0 ∧ place = 0 ∧ ∀ j, j < k → mis b begW j = false) ∨ (bad = 27 ∧ tBegin b begW = ⟨4, 27, place⟩))) (fun i _ => 4 - (intOf i).toNat)
  case atStart => exact ⟨0, 0, 0, rfl, by omega, But.refl _ _, ht, Or.inl ⟨rfl, rfl, fun j hj => by omega⟩⟩
  case round =>
    obtain ⟨k, bad, place, rfl, hk, hb1, ht1, HR⟩ := hrel
    rename_i wr _
    have HB1 : Hid (But g w wr) := hb1
    have HT1 : Hid (TkAt wr g A b.length c ⟨0, bad, place⟩) := ht1
    have HW1 : Hid (Below w0.heap.size w0 wr) := hb1.below hb0 hg0
    obtain ⟨⟨d0, d1, d2, d3⟩, hf⟩ := ht1
    have f1 := hf 1
    simp only at d1 d2 d3
    clear hb1 hf
    by_cases hlt : k < 4
    · have hks : k < S.size := by omega
      rcases HR.out with ⟨rfl, rfl, hj⟩ | ⟨rfl, he⟩
      · have HJ : Hid (∀ j, j < k → mis b begW j = false) := hj
        clear hj HR
        by_cases hbl : b.length ≤ k
        · have HE : Hid (tBegin b begW = ⟨4, 27, k⟩) := HN.out k hlt HJ.out (by unfold mis; rw [decide_eq_true hbl]; rfl)
          go_upto_region 3 with fail
          go_big_quiet (fail)
          go_wp2_with fail
          refine (CW k _ (HT1.out.drewN _)).mono ?_
          rintro r w2 ⟨rfl, hb2, ht2⟩
          have HB2 : Hid (But g w w2) := (HB1.out.drewN _).trans hb2
          have HT2 : Hid (TkAt w2 g A b.length c ⟨0, 27, k⟩) := ht2
          clear hb2 ht2
          go_wp2
          go_roundw
          case rel => exact ⟨k + 1, 27, k, by go_num, by omega, HB2.out, HT2.out, Or.inr ⟨rfl, HE.out⟩⟩
          case measure => simp [intOf]; omega
        · obtain ⟨a, rfl, q⟩ := (hB.keep HW1.out) k (by omega)
          have hm : mis b begW k = (nth b k != nth begW k) := by unfold mis; rw [decide_eq_false hbl]; rfl
          have hy := HA.out k hks
          rw [← hy] at hm
          cases hx : (nth b k == (S[k].toNat : Int)) with
          | true =>
            have hx2 : (nth b k != (S[k].toNat : Int)) = false := by simpa using hx
            have HE : Hid (∀ j, j < k + 1 → mis b begW j = false) := fun j hj => by
              by_cases hjk : j = k
              · rw [hjk, hm, hx2]
              · exact HJ.out j (by omega)
            clear hm hy
            go_upto_region 3 with fail
            go_big_quiet (fail)
            go_wp2
            go_roundw
            case rel => exact ⟨k + 1, 0, 0, by go_num, by omega, HB1.out.drewN _, HT1.out.drewN _, Or.inl ⟨rfl, rfl, HE.out⟩⟩
            case measure => simp [intOf]; omega
          | false =>
            have hx2 : (nth b k != (S[k].toNat : Int)) = true := by simpa using hx
            have HE : Hid (tBegin b begW = ⟨4, 27, k⟩) := HN.out k hlt HJ.out (by rw [hm, hx2])
            clear hm hy
            go_upto_region 3 with fail
            go_big_quiet (fail)
            go_wp2_with fail
            refine (CW k _ (HT1.out.drewN _)).mono ?_
            rintro r w2 ⟨rfl, hb2, ht2⟩
            have HB2 : Hid (But g w w2) := (HB1.out.drewN _).trans hb2
            have HT2 : Hid (TkAt w2 g (some a) b.length c ⟨0, 27, k⟩) := ht2
            clear hb2 ht2
            go_wp2
            go_roundw
            case rel => exact ⟨k + 1, 27, k, by go_num, by omega, HB2.out, HT2.out, Or.inr ⟨rfl, HE.out⟩⟩
            case measure => simp [intOf]; omega
      · have HE : Hid (tBegin b begW = ⟨4, 27, place⟩) := he
        clear he HR
        go_wp2
        go_end0
        exact ⟨rfl, HB1.out.set _ _, by rw [HE.out]; exact HT1.out.posTo 4⟩
    · have HE : Hid (tBegin b begW = ⟨4, bad, place⟩) := by
        rcases HR.out with ⟨rfl, rfl, hj⟩ | ⟨rfl, he⟩
        · exact HY.out fun j hj' => hj j (by omega)
        · exact he
      have hks : ¬ k < S.size := by omega
      go_wp2
      go_end0
      exact ⟨rfl, HB1.out.set _ _, by rw [HE.out]; exact HT1.out.posTo 4⟩


end Go.Proofs.YthfcimmfkibmjaaGreatDoor

namespace Go.Proofs.YthfcimmfkibmjaaGreatDoor
open Go.RowKit


theorem took_eq {b : List Int} {nm : ByteArray} {t1 t2 t3 t4 t5 t6 t7 : Tk} {n dA n2 : Int} {code data : List Int} {ss : List Sym} {rs : List Rel} (h1 : tName b (tBegin b begW) = (nm, t1)) (h2 : tCount b 16384 t1 = (n, t2)) (h3 : tList (tFour b) n.toNat t2 = (code, t3)) (h4 : tCount b great t3 = (dA, t4)) (h5 : tCount b 4096 t4 = (n2, t5)) (h6 : tList (tEight b) n2.toNat t5 = (data, t6)) (h7 : tRest b code.length t6 = ((ss, rs), t7)) : took b = ⟨nm, code, dA, data, ss, rs, tEnd b t7⟩ := by
  have e1 : tName b (tBegin b [80, 76, 79, 49]) = (nm, t1) := h1
  have e2 : tCode b = (code, t3) := by unfold tCode; rw [e1]; simp only; rw [h2]; exact h3
  have e3 : tDat b = (dA, t4) := by unfold tDat; rw [e2]; exact h4
  have e4 : tData b = (data, t6) := by unfold tData; rw [e3]; simp only; rw [h5]; exact h6
  unfold tRest at h7
  have e5 : tSyms b = (ss, (tSyms b).2) := by
    have : (tSyms b).1 = ss := by unfold tSyms; rw [e4]; exact congrArg (fun x => x.1.1) h7
    rw [← this]
  have e6 : (tRels b).1 = rs ∧ (tRels b).2 = t7 := by
    unfold tRels tSyms
    rw [e4, e2]
    exact ⟨congrArg (fun x => x.1.2) h7, congrArg (fun x => x.2) h7⟩
  have e7 : (tSyms b).1 = ss := by rw [e5]
  unfold took
  rw [e1, e2, e3, e4, e7, e6.1, e6.2]
theorem pos_list {α : Type} {b : List Int} {f : Tk → α × Tk} (hf : ∀ t, PosB b t → PosB b (f t).2) : ∀ (n : Nat) (t : Tk), PosB b t → PosB b (tList f n t).2
  | 0, _, h => h
  | n + 1, t, h => by
    rw [tList]
    split
    · exact pos_list hf n _ (hf t h)
    · exact h
theorem pos_rest {b : List Int} {n : Nat} {t : Tk} (hA : AreB b) (h : PosB b t) : PosB b (tRest b n t).2 :=
  pos_list (fun _ h => pos_rel h) _ _ (pos_count (pos_list (fun _ h => pos_sym hA h) _ _ (pos_count h)))
theorem box_put6 {w : World} {P : Nat} {a0 a1 a2 a3 a4 a5 : Value} (h : w.heap[P]? = some (.cells #[a0, a1, a2, a3, a4, a5] 27 (0, 0))) (x0 x1 x2 x3 x4 x5 : Value) : ((((((w.setCell ⟨P, 0, none⟩ x0).setCell ⟨P, 1, none⟩ x1).setCell ⟨P, 2, none⟩ x2).setCell ⟨P, 3, none⟩ x3).setCell ⟨P, 4, none⟩ x4).setCell ⟨P, 5, none⟩ x5).heap[P]? = some (.cells #[x0, x1, x2, x3, x4, x5] 27 (0, 0)) :=
  heap_setCell_same _ P 5 _ 27 x5 (heap_setCell_same _ P 4 _ 27 x4 (heap_setCell_same _ P 3 _ 27 x3 (heap_setCell_same _ P 2 _ 27 x2 (heap_setCell_same _ P 1 _ 27 x1 (heap_setCell_same w P 0 _ 27 x0 h)))))
theorem box_far6 {w : World} {P R : Nat} {o : Option Obj} (h : w.heap[R]? = o) (hR : R ≠ P) (x0 x1 x2 x3 x4 x5 : Value) : ((((((w.setCell ⟨P, 0, none⟩ x0).setCell ⟨P, 1, none⟩ x1).setCell ⟨P, 2, none⟩ x2).setCell ⟨P, 3, none⟩ x3).setCell ⟨P, 4, none⟩ x4).setCell ⟨P, 5, none⟩ x5).heap[R]? = o := by
  rw [heap_setCell_other _ _ _ _ hR, heap_setCell_other _ _ _ _ hR, heap_setCell_other _ _ _ _ hR, heap_setCell_other _ _ _ _ hR, heap_setCell_other _ _ _ _ hR, heap_setCell_other _ _ _ _ hR]
  exact h
theorem RowsO.but {w w1 : World} {g base : Nat} {A1 A2 A3 A4 : Option Addr} {c1 c2 c3 c4 : Nat} {code data : List Int} {ss : List Sym} {rs : List Rel} (h : RowsO w base A1 A2 A3 A4 c1 c2 c3 c4 code data ss rs) (hb : But g w w1) (hg : g < base) : RowsO w1 base A1 A2 A3 A4 c1 c2 c3 c4 code data ss rs :=
  ⟨own_apart h.r1 (but_grew hb) (fun b e1 e2 => by have := (h.r1.lt b e1).1; cases e2; omega), own_apart h.r2 (but_grew hb) (fun b e1 e2 => by have := (h.r2.lt b e1).1; cases e2; omega), own_apart h.r3 (but_grew hb) (fun b e1 e2 => by have := (h.r3.lt b e1).1; cases e2; omega), own_apart h.r4 (but_grew hb) (fun b e1 e2 => by have := (h.r4.lt b e1).1; cases e2; omega)⟩

set_option maxRecDepth 100000 in
set_option maxHeartbeats 8000000 in
theorem refread_any (A : Option Addr) (c : Nat) (b : List Int) (w : World) (hB : IntsAt w A .u8 b) (hA : AreB b) (hN : b.length ≤ 524288) (hcap : b.length ≤ c) : Calls Tryz.prog 18 #[.slice A b.length c] w (ReadP b w) := by
  obtain ⟨iw, hw, hw0, hw1', hw2⟩ := info45
  obtain ⟨il, hl, hl0, hl1, hl2⟩ := info2
  have HN : Hid (∀ t, PosB b t → t.pos ≤ 524292) := fun t h => Nat.le_trans h (by omega)
  have hTb : Hid (TkAt ((w.alloc (.cells #[.string ⟨#[]⟩, .slice none 0 0, .int .i64 0, .slice none 0 0, .slice none 0 0, .slice none 0 0] 27)).alloc (.cells #[.slice A b.length c, .int .i64 0, .int .i64 0, .int .i64 0] 102)) (w.heap.size + 1) A b.length c ⟨0, 0, 0⟩) := by
    have e : ((w.alloc (.cells #[.string ⟨#[]⟩, .slice none 0 0, .int .i64 0, .slice none 0 0, .slice none 0 0, .slice none 0 0] 27)).alloc (.cells #[.slice A b.length c, .int .i64 0, .int .i64 0, .int .i64 0] 102)).heap[w.heap.size + 1]? = some (.cells #[.slice A b.length c, .int .i64 0, .int .i64 0, .int .i64 0] 102 (0, 0)) := by
      have := heap_alloc_new (w.alloc (.cells #[.string ⟨#[]⟩, .slice none 0 0, .int .i64 0, .slice none 0 0, .slice none 0 0, .slice none 0 0] 27)) (.cells #[.slice A b.length c, .int .i64 0, .int .i64 0, .int .i64 0] 102)
      rwa [show (w.alloc (.cells #[.string ⟨#[]⟩, .slice none 0 0, .int .i64 0, .slice none 0 0, .slice none 0 0, .slice none 0 0] 27)).heap.size = w.heap.size + 1 by simp] at this
    refine ⟨⟨?_, ?_, ?_, ?_⟩, fun i => box_fro e i⟩ <;> (rw [cell_of_row _ _ _ _ _ _ e]; rfl)
  have hRb : Hid (((w.alloc (.cells #[.string ⟨#[]⟩, .slice none 0 0, .int .i64 0, .slice none 0 0, .slice none 0 0, .slice none 0 0] 27)).alloc (.cells #[.slice A b.length c, .int .i64 0, .int .i64 0, .int .i64 0] 102)).heap[w.heap.size]? = some (.cells #[.string ⟨#[]⟩, .slice none 0 0, .int .i64 0, .slice none 0 0, .slice none 0 0, .slice none 0 0] 27 (0, 0))) := by
    show _ = _
    rw [(lb_alloc (Below.refl _ (w.alloc (.cells #[.string ⟨#[]⟩, .slice none 0 0, .int .i64 0, .slice none 0 0, .slice none 0 0, .slice none 0 0] 27))) _).block w.heap.size (by simp)]
    exact heap_alloc_new _ _
  have hBb : Hid (Below w.heap.size w ((w.alloc (.cells #[.string ⟨#[]⟩, .slice none 0 0, .int .i64 0, .slice none 0 0, .slice none 0 0, .slice none 0 0] 27)).alloc (.cells #[.slice A b.length c, .int .i64 0, .int .i64 0, .int .i64 0] 102))) := lb_alloc (lb_alloc (Below.refl _ _) _) _
  have C0 := tbegin_any (w.heap.size + 1) A c b w _ hB hBb.out (by omega) (by omega) hTb.out
  have CC := fun (t : Tk) (m : Int) (hm : 0 ≤ m) (hp : PosB b t) wx (hb : Below w.heap.size w wx) (h : TkAt wx (w.heap.size + 1) A b.length c t) => tcount_any (w.heap.size + 1) A c b t w wx hB hb (by omega) hA (by omega) (by have := HN.out t hp; omega) h m hm
  have CN := fun (t : Tk) (hp : PosB b t) wx (hb : Below w.heap.size w wx) (h : TkAt wx (w.heap.size + 1) A b.length c t) => tname_any (w.heap.size + 1) A c b t w wx hB hb (by omega) hA (by omega) (by have := HN.out t hp; omega) h hcap (by have := HN.out t hp; omega)
  have C4 := fun (t : Tk) (hp : PosB b t) wx (hb : Below w.heap.size w wx) (h : TkAt wx (w.heap.size + 1) A b.length c t) => tfour_any (w.heap.size + 1) A c b t w wx hB hb (by omega) hA (by omega) (by have := HN.out t hp; omega) h
  have C8 := fun (t : Tk) (hp : PosB b t) wx (hb : Below w.heap.size w wx) (h : TkAt wx (w.heap.size + 1) A b.length c t) => teight_any (w.heap.size + 1) A c b t w wx hB hb (by omega) hA (by omega) (by have := HN.out t hp; omega) h
  have CR := fun (t : Tk) (hp : PosB b t) wx (hb : Below w.heap.size w wx) (h : TkAt wx (w.heap.size + 1) A b.length c t) nm dA A1 A2 n1 n2 c1 c2 hn1 => refrest_any (w.heap.size + 1) A c b t w wx hB hb (by omega) hA hN hp h hcap nm dA A1 A2 n1 n2 c1 c2 hn1
  have CE := fun (t : Tk) (hp : PosB b t) wx (hb : Below w.heap.size w wx) (h : TkAt wx (w.heap.size + 1) A b.length c t) => tend_any (w.heap.size + 1) A c b t w wx hB hb (by omega) hA (by omega) (by have := HN.out t hp; omega) h hcap
  have HCR : Hid _ := CR
  have HCE : Hid _ := CE
  have HC8 : Hid _ := C8
  have HC4 : Hid _ := C4
  have HCC : Hid _ := CC
  have HPb : Hid (PosB b (tBegin b begW)) := by
    unfold Hid PosB tBegin
    split <;> simp [begW]
  clear CR CE C8 C4 CC
  go_enter Tryz.func18, Tryz.ntmps18
  go_wp2_with fail
  refine C0.mono ?_
  rintro r wa ⟨rfl, hb1, ht1⟩
  have HBa : Hid (Below w.heap.size w wa) := hb1.below hBb.out (by omega)
  have HRa : Hid _ := but_box hb1 hRb.out (by omega)
  have HTa : Hid (TkAt wa (w.heap.size + 1) A b.length c (tBegin b begW)) := ht1
  have C1 := CN (tBegin b begW) HPb.out wa HBa.out HTa.out
  have HPn := pos_name hA HPb.out
  generalize hE1 : tName b (tBegin b begW) = R at C1 HPn
  obtain ⟨nm, t1⟩ := R
  simp only at C1 HPn
  have HE1 : Hid (tName b (tBegin b begW) = (nm, t1)) := hE1
  have HP1 : Hid (PosB b t1) := HPn
  clear hE1 HPn hb1 ht1 C0 CN hTb hRb hBb HPb
  go_wp2_with fail
  refine C1.mono ?_
  rintro r wb ⟨rfl, hb1, ht1⟩
  have HBb : Hid (Below w.heap.size w wb) := hb1.below HBa.out (by omega)
  have HRb : Hid _ := but_box hb1 HRa.out (by omega)
  have HTb : Hid (TkAt wb (w.heap.size + 1) A b.length c t1) := ht1
  clear hb1 ht1 C1 HTa HRa HBa
  obtain ⟨w1, hw1⟩ : ∃ w1, Hid (wb.alloc (.cells #[.string nm, (.slice none 0 0), .int .i64 0, (.slice none 0 0), (.slice none 0 0), (.slice none 0 0)] 27) = w1) := ⟨_, rfl⟩
  have HSz : Hid (w1.heap.size = wb.heap.size + 1) := by rw [Hid, ← hw1.out]; simp
  have hP1 : w.heap.size + 2 ≤ wb.heap.size := by
    have := tk_lt HTb.out
    omega
  have HP1' : Hid _ := hP1
  have hT0 : Hid (Two w1 (w.heap.size + 1) wb.heap.size A b.length c t1 #[.string nm, (.slice none 0 0), .int .i64 0, (.slice none 0 0), (.slice none 0 0), (.slice none 0 0)] 78 1 (.slice none 0 0) 0 (iVals .u32 []) 2 1 (.slice none 0 0) 0 (iVals .i64 []) w1) := by
    refine ⟨?_, ?_, World.ownsRow_nil _ _ _ _, World.ownsRow_nil _ _ _ _, rfl, rfl, rfl, Nat.le_refl _, fun _ _ _ _ => rfl⟩
    · rw [← hw1.out]; exact HTb.out.keep (lb_alloc (Below.refl _ _) _)
    · rw [← hw1.out]; exact heap_alloc_new _ _
  have HBw : Hid (Below w.heap.size w w1) := by rw [Hid, ← hw1.out]; exact lb_alloc HBb.out _
  have HR1 : Hid (w1.heap[w.heap.size]? = some (.cells #[.string ⟨#[]⟩, .slice none 0 0, .int .i64 0, .slice none 0 0, .slice none 0 0, .slice none 0 0] 27 (0, 0))) := by
    rw [Hid, ← hw1.out, (lb_alloc (Below.refl _ wb) _).block w.heap.size (by omega)]
    exact HRb.out
  have HGs : Hid (w.heap.size + 1 < w1.heap.size) := by have := HSz.out; show _ < _; omega
  have HPs : Hid (wb.heap.size < w1.heap.size) := by have := HSz.out; show _ < _; omega
  have HPg : Hid (wb.heap.size ≠ w.heap.size + 1) := by show _ ≠ _; omega
  have HWP : Hid (w.heap.size ≤ wb.heap.size) := by show _ ≤ _; omega
  have HWg : Hid (w.heap.size ≤ w.heap.size + 1) := Nat.le_succ _
  have C2 := HCC.out t1 16384 (by omega) HP1.out (wb.alloc (.cells #[.string nm, (.slice none 0 0), .int .i64 0, (.slice none 0 0), (.slice none 0 0), (.slice none 0 0)] 27)) (by rw [hw1.out]; exact HBw.out) (by rw [hw1.out]; exact hT0.out.tk)
  have hq := count_in hA (m := 16384) (by omega) t1
  have hpt := pos_count (m := 16384) HP1.out
  generalize hE2 : tCount b 16384 t1 = R at C2 hq hpt
  obtain ⟨nn, t2⟩ := R
  simp only at C2 hq hpt
  obtain ⟨m, rfl⟩ := Int.eq_ofNat_of_zero_le hq.1
  have HE2 : Hid (tCount b 16384 t1 = ((m : Int), t2)) := hE2
  have HP2 : Hid (PosB b t2) := hpt
  clear hE2 hpt HBb HRb HTb HP1 hP1
  go_wp2_with fail
  refine C2.mono ?_
  rintro r wc ⟨rfl, hb1, ht1⟩
  rw [hw1.out] at hb1
  have HT : Hid (Two w1 (w.heap.size + 1) wb.heap.size A b.length c t2 #[.string nm, (.slice none 0 0), .int .i64 0, (.slice none 0 0), (.slice none 0 0), (.slice none 0 0)] 78 1 (.slice none 0 0) 0 (iVals .u32 []) 2 1 (.slice none 0 0) 0 (iVals .i64 []) wc) := hT0.out.take HGs.out HPg.out hb1 ht1
  clear hb1 ht1 C2 hT0 hw1
  go_wp2
  go_loopw [8] (fun i wr => ∃ (k : Nat) (code : List Int) (t3 : Tk) (V1 : Value), i = .int .i64 k ∧ k ≤ m ∧ Hid (Fars (tFour b) m t2 k code t3) ∧ Hid (PosB b t3) ∧ Hid (Two w1 (w.heap.size + 1) wb.heap.size A b.length c t3 #[.string nm, V1, .int .i64 0, (.slice none 0 0), (.slice none 0 0), (.slice none 0 0)] 78 1 V1 k (iVals .u32 code) 2 1 (.slice none 0 0) 0 (iVals .i64 []) wr)) (fun i _ => m - (intOf i).toNat)
  case atStart => exact ⟨0, [], t2, (.slice none 0 0), rfl, Nat.zero_le _, fars_start _ _ _, HP2, HT⟩
  case round =>
    clear HT
    obtain ⟨k, code, t3, V1, rfl, hk, HFar, HP3, HT⟩ := hrel
    have cB := HT.out.tk.1.2.2.1
    have c1 := (box6_cell HT.out.box).2.1
    by_cases hgo : k < m ∧ t3.bad = 0
    · obtain ⟨hlt, hz⟩ := hgo
      have hz' : (t3.bad == 0) = true := by simpa using hz
      have HFar2 : Hid _ := fars_next HFar.out hlt hz
      have HPd : Hid (PosB b (tFour b t3).2) := pos_four HP3.out
      have C3 := fun wx (hb : Below w.heap.size w wx) (h : TkAt wx (w.heap.size + 1) A b.length c t3) => HC4.out t3 HP3.out wx hb h
      generalize tFour b t3 = R at HFar2 HPd C3
      obtain ⟨x, t4⟩ := R
      simp only at HFar2 HPd C3
      have HBr : Hid (Below w.heap.size w wr) := HT.out.below HBw.out HWg.out HWP.out
      clear hz HFar HP3
      go_upto_region 8 with fail
      go_region_law
        (first
          | (revert HO2; intro HO2; refine step_append_lies _ rfl (.tmp 35) (.tmp 38) 22 rfl w1.heap.size 78 iw (.int .u32 0) 1 4 Tryz.underlying22 hw hw0 hw1' hw2 rfl (by decide) V1 k (iVals .u32 code) rfl HO2.out ⟨wd.heap.size, 0, none⟩ 1 1 [.int .u32 x] rfl rfl (fun j u hu => World.news_of_block HNw.out j u hu) (by simp [Value.oneCell']) (by omega) (by unfold maxLen; omega) (by omega) (by have := HSz2.out; simp; omega) (wd.heap.size + 1) (by simp) ?_; intro g3 cap3 we hown hgrow hlie hlt3; have HT4 : Hid _ := Two.grow HT3.out (by decide) HGs.out HPs.out ⟨hgrow.os, hgrow.tape, hgrow.output, hgrow.size, hgrow.block⟩ hown; have hXb := Two.box HT4.out; have yD := (box6_cell hXb).2.1; have fD := box_fro hXb 1; clear hXb hown hgrow hlie hlt3)
          | (go_simp; go_at_call 64; refine (C3 wr.drew (Below.drew HBr.out) HT.out.drew.tk).mono ?_; rintro r wd ⟨rfl, hb1, ht1⟩; have HT2 : Hid _ := HT.out.drew.take HGs.out HPg.out hb1 ht1; have HT3 : Hid _ := Two.alloc HT2.out HGs.out HPs.out (.cells #[.int .u32 x] 78); have HO2 : Hid _ := Two.ra HT3.out; have HSz2 : Hid (w1.heap.size ≤ wd.heap.size) := Two.size HT2.out; have HNw : Hid ((wd.alloc (.cells #[.int .u32 x] 78)).heap[wd.heap.size]? = some (.cells #[.int .u32 x] 78 (0, 0))) := heap_alloc_new _ _; have cD := (box6_cell (Two.box HT2.out)).2.1; have cE := (box6_cell (Two.box HT3.out)).2.1; clear hb1 ht1))
      all_goals (
        go_wp2_with fail
        go_roundw
        case rel => exact ⟨k + 1, _, t4, _, by go_num, by omega, HFar2, HPd, by rw [iVals_snoc]; exact Two.set HT4.out HPs.out HPg.out 1 _⟩
        case measure => simp [intOf]; omega)
    · have HL : Hid (tList (tFour b) m t2 = (code, t3)) := fars_end HFar.out hgo
      obtain rfl : k = code.length := HFar.out.1.symm
      have hcase : (code.length < m ∧ (t3.bad == 0) = false) ∨ ¬ code.length < m := by
        by_cases hlt : code.length < m
        · exact Or.inl ⟨hlt, by simpa using fun h => hgo ⟨hlt, h⟩⟩
        · exact Or.inr hlt
      have C3 := HCC.out t3 great (by unfold great; omega) HP3.out wr (HT.out.below HBw.out HWg.out HWP.out) HT.out.tk
      have hpt := pos_count (m := great) HP3.out
      have hE4 : Hid (∃ R, tCount b great t3 = R) := ⟨_, rfl⟩
      generalize hE : tCount b great t3 = R at C3 hpt
      obtain ⟨dA, t4⟩ := R
      have HE4 : Hid (tCount b great t3 = (dA, t4)) := hE
      rw [show great = 2147483647 from rfl] at C3
      simp only at C3 hpt
      have HP4 : Hid (PosB b t4) := hpt
      clear hE hE4 hpt hgo HFar HP3
      rcases hcase with ⟨hlt, hz'⟩ | hlt
      all_goals (
        go_wp2_with fail
        refine C3.mono ?_
        rintro r wd ⟨rfl, hb1, ht1⟩
        have HS : Hid _ := HT.out.take HGs.out HPg.out hb1 ht1
        clear hb1 ht1 C3 HT cB c1
        have hXb := Two.box HS.out
        have y2 := (box6_cell hXb).2.2.1
        have f2 := box_fro hXb 2
        have HS2 : Hid (Two w1 (w.heap.size + 1) wb.heap.size A b.length c t4 #[.string nm, V1, .int .i64 dA, (.slice none 0 0), (.slice none 0 0), (.slice none 0 0)] 78 1 V1 code.length (iVals .u32 code) 2 1 (.slice none 0 0) 0 (iVals .i64 []) (wd.setCell ⟨wb.heap.size, 2, none⟩ (.int .i64 dA))) := Two.set HS.out HPs.out HPg.out 2 (.int .i64 dA)
        have C5 := HCC.out t4 4096 (by omega) HP4.out _ (Two.below HS2.out HBw.out HWg.out HWP.out) (Two.tk HS2.out)
        have hq2 := count_in hA (m := 4096) (by omega) t4
        have hpt := pos_count (m := 4096) HP4.out
        generalize hE : tCount b 4096 t4 = R at C5 hq2 hpt
        obtain ⟨nn, t5⟩ := R
        simp only at C5 hq2 hpt
        obtain ⟨q, rfl⟩ := Int.eq_ofNat_of_zero_le hq2.1
        have HE5 : Hid (tCount b 4096 t4 = ((q : Int), t5)) := hE
        have HP5 : Hid (PosB b t5) := hpt
        clear hE hpt hXb HS HP4
        go_wp2_with fail
        refine C5.mono ?_
        rintro r we ⟨rfl, hb1, ht1⟩
        have HT : Hid (Two w1 (w.heap.size + 1) wb.heap.size A b.length c t5 #[.string nm, V1, .int .i64 dA, (.slice none 0 0), (.slice none 0 0), (.slice none 0 0)] 78 1 V1 code.length (iVals .u32 code) 2 1 (.slice none 0 0) 0 (iVals .i64 []) we) := Two.take HS2.out HGs.out HPg.out hb1 ht1
        clear hb1 ht1 C5 HS2 y2 f2
        go_wp2
        go_loopw [9] (fun i wr => ∃ (k : Nat) (data : List Int) (t6 : Tk) (V2 : Value), i = .int .i64 k ∧ k ≤ q ∧ Hid (Fars (tEight b) q t5 k data t6) ∧ Hid (PosB b t6) ∧ Hid (Two w1 (w.heap.size + 1) wb.heap.size A b.length c t6 #[.string nm, V1, .int .i64 dA, V2, (.slice none 0 0), (.slice none 0 0)] 78 1 V1 code.length (iVals .u32 code) 2 1 V2 k (iVals .i64 data) wr)) (fun i _ => q - (intOf i).toNat)
        case atStart => exact ⟨0, [], t5, (.slice none 0 0), rfl, Nat.zero_le _, fars_start _ _ _, HP5, HT⟩
        case round =>
          clear HT
          obtain ⟨k, data, t6, V2, rfl, hk2, HFar, HP6, HT⟩ := hrel
          have cB := HT.out.tk.1.2.2.1
          have c3 := (box6_cell HT.out.box).2.2.2.1
          by_cases hgo : k < q ∧ t6.bad = 0
          · obtain ⟨hlt, hz⟩ := hgo
            have hz' : (t6.bad == 0) = true := by simpa using hz
            have HFar2 : Hid _ := fars_next HFar.out hlt hz
            have HPd : Hid (PosB b (tEight b t6).2) := pos_eight HP6.out
            have C3 := fun wx (hb : Below w.heap.size w wx) (h : TkAt wx (w.heap.size + 1) A b.length c t6) => HC8.out t6 HP6.out wx hb h
            generalize tEight b t6 = R at HFar2 HPd C3
            obtain ⟨x, t7⟩ := R
            simp only at HFar2 HPd C3
            have HBr : Hid (Below w.heap.size w wr) := HT.out.below HBw.out HWg.out HWP.out
            clear hz HFar HP6
            go_upto_region 14 with fail
            go_region_law
              (first
                | (revert HO2; intro HO2; refine step_append_lies _ rfl (.tmp 59) (.tmp 62) 23 rfl w1.heap.size 2 il (.int .i64 0) 1 8 Tryz.underlying23 hl hl0 hl1 hl2 rfl (by decide) V2 k (iVals .i64 data) rfl HO2.out ⟨wd.heap.size, 0, none⟩ 1 1 [.int .i64 x] rfl rfl (fun j u hu => World.news_of_block HNw.out j u hu) (by simp [Value.oneCell']) (by omega) (by unfold maxLen; omega) (by omega) (by have := HSz2.out; simp; omega) (wd.heap.size + 1) (by simp) ?_; intro g3 cap3 we hown hgrow hlie hlt3; have HT4 : Hid _ := Two.grow (Two.swap HT3.out) (by decide) HGs.out HPs.out ⟨hgrow.os, hgrow.tape, hgrow.output, hgrow.size, hgrow.block⟩ hown; have hXb := Two.box HT4.out; have yD := (box6_cell hXb).2.2.2.1; have fD := box_fro hXb 3; clear hXb hown hgrow hlie hlt3)
                | (go_simp; go_at_call 65; refine (C3 wr.drew (Below.drew HBr.out) HT.out.drew.tk).mono ?_; rintro r wd ⟨rfl, hb1, ht1⟩; have HT2 : Hid _ := HT.out.drew.take HGs.out HPg.out hb1 ht1; have HT3 : Hid _ := Two.alloc HT2.out HGs.out HPs.out (.cells #[.int .i64 x] 2); have HO2 : Hid _ := Two.rb HT3.out; have HSz2 : Hid (w1.heap.size ≤ wd.heap.size) := Two.size HT2.out; have HNw : Hid ((wd.alloc (.cells #[.int .i64 x] 2)).heap[wd.heap.size]? = some (.cells #[.int .i64 x] 2 (0, 0))) := heap_alloc_new _ _; have cD := (box6_cell (Two.box HT2.out)).2.2.2.1; have cE := (box6_cell (Two.box HT3.out)).2.2.2.1; clear hb1 ht1))
            all_goals (
              go_wp2_with fail
              go_roundw
              case rel => exact ⟨k + 1, _, t7, _, by go_num, by omega, HFar2, HPd, by rw [iVals_snoc]; exact Two.swap (Two.set HT4.out HPs.out HPg.out 3 _)⟩
              case measure => simp [intOf]; omega)
          · have HL2 : Hid (tList (tEight b) q t5 = (data, t6)) := fars_end HFar.out hgo
            obtain rfl : k = data.length := HFar.out.1.symm
            have hcase2 : (data.length < q ∧ (t6.bad == 0) = false) ∨ ¬ data.length < q := by
              by_cases hlt : data.length < q
              · exact Or.inl ⟨hlt, by simpa using fun h => hgo ⟨hlt, h⟩⟩
              · exact Or.inr hlt
            obtain ⟨A1, k1, rfl, -⟩ := own_any (Two.ra HT.out)
            obtain ⟨A2, k2, rfl, -⟩ := own_any (Two.rb HT.out)
            have C6 := HCR.out t6 HP6.out wr (HT.out.below HBw.out HWg.out HWP.out) HT.out.tk nm dA A1 A2 code.length data.length k1 k2 (by omega)
            have HP7 : Hid (PosB b (tRest b code.length t6).2) := pos_rest hA HP6.out
            generalize hE : tRest b code.length t6 = R at C6 HP7
            obtain ⟨⟨ss, rs⟩, t7⟩ := R
            simp only at HP7
            have HTk : Hid (took b = ⟨nm, code, dA, data, ss, rs, tEnd b t7⟩) := took_eq HE1.out HE2.out (by rw [Int.toNat_natCast]; exact HL.out) HE4.out HE5.out (by rw [Int.toNat_natCast]; exact HL2.out) hE
            obtain ⟨p0, p1, p2, p3, p4, p5⟩ := box6_cell (Two.box HT.out)
            clear hE hgo HFar HP6 HL2 hk2
            rcases hcase2 with ⟨hlt2, hz2⟩ | hlt2
            all_goals (
              go_wp2_with fail
              refine C6.mono ?_
              rintro r wf ⟨V3, V4, rfl, r3, r4, hb1, ht1⟩
              simp only at r3 r4 ht1
              obtain ⟨A3, k3, rfl, -⟩ := own_any r3
              obtain ⟨A4, k4, rfl, -⟩ := own_any r4
              have hXb := but_box hb1 (Two.box HT.out) HPg.out
              have HBf : Hid (Below w.heap.size w wf) := hb1.below (HT.out.below HBw.out HWg.out HWP.out) HWg.out
              have HRf : Hid (wf.heap[w.heap.size]? = some (.cells #[.string ⟨#[]⟩, .slice none 0 0, .int .i64 0, .slice none 0 0, .slice none 0 0, .slice none 0 0] 27 (0, 0))) := by
                refine but_box hb1 ?_ (by omega)
                rw [HT.out.block w.heap.size (by have := HGs.out; omega) (by omega) (by have := HWP.out; have := HP1'.out; omega)]
                exact HR1.out
              have HXf : Hid _ := hXb
              have hs1 := HT.out.size
              have Q1 : Hid (wf.ownsRow w1.heap.size 78 1 (.slice A1 code.length k1) code.length (iVals .u32 code)) := own_apart (Two.ra HT.out) (but_grew hb1) (fun b e1 e2 => by have := ((Two.ra HT.out).lt b e1).1; have := HGs.out; cases e2; omega)
              have Q2 : Hid (wf.ownsRow w1.heap.size 2 1 (.slice A2 data.length k2) data.length (iVals .i64 data)) := own_apart (Two.rb HT.out) (but_grew hb1) (fun b e1 e2 => by have := ((Two.rb HT.out).lt b e1).1; have := HGs.out; cases e2; omega)
              have Q3 : Hid (wf.ownsRow w1.heap.size 68 3 (.slice A3 ss.length k3) ss.length (sVals ss)) := ownsRow_mono r3 hs1
              have Q4 : Hid (wf.ownsRow w1.heap.size 119 2 (.slice A4 rs.length k4) rs.length (rVals rs)) := ownsRow_mono r4 hs1
              have Hb7 : Hid (w.heap.size + 2 ≤ w1.heap.size) := by have := HSz.out; have := HP1'.out; show _ ≤ _; omega
              have HTf : Hid (TkAt wf (w.heap.size + 1) A b.length c t7) := ht1
              obtain ⟨q0, q1, q2, q3, q4, q5⟩ := box6_cell hXb
              obtain ⟨f0, f1, f2, f3, f4, f5⟩ := box6_fro hXb
              clear hb1 ht1 r3 r4 hXb hs1 C6 HT cB c3 p0 p1 p2 p3 p4 p5
              have HBg : Hid _ := below_set6 HBf.out HWP.out (.string nm) (.slice A1 code.length k1) (.int .i64 dA) (.slice A2 data.length k2) (.slice A3 ss.length k3) (.slice A4 rs.length k4)
              have HRg : Hid _ := box_far6 HRf.out (show w.heap.size ≠ wb.heap.size by have := HP1'.out; omega) (.string nm) (.slice A1 code.length k1) (.int .i64 dA) (.slice A2 data.length k2) (.slice A3 ss.length k3) (.slice A4 rs.length k4)
              have HXg : Hid _ := box_put6 HXf.out (.string nm) (.slice A1 code.length k1) (.int .i64 dA) (.slice A2 data.length k2) (.slice A3 ss.length k3) (.slice A4 rs.length k4)
              have HTg : Hid _ := tk_set6 HTf.out (show w.heap.size + 1 ≠ wb.heap.size by have := HPg.out; omega) (.string nm) (.slice A1 code.length k1) (.int .i64 dA) (.slice A2 data.length k2) (.slice A3 ss.length k3) (.slice A4 rs.length k4)
              have HQg : Hid _ := RowsO.set6 ⟨Q1.out, Q2.out, Q3.out, Q4.out⟩ HPs.out (.string nm) (.slice A1 code.length k1) (.int .i64 dA) (.slice A2 data.length k2) (.slice A3 ss.length k3) (.slice A4 rs.length k4)
              have C7 := HCE.out t7 HP7.out _ HBg.out HTg.out
              clear HBf HRf HXf HTf Q1 Q2 Q3 Q4 HP7
              go_wp2_with fail
              refine C7.mono ?_
              rintro r wg ⟨rfl, hb1, ht1⟩
              have HBh : Hid (Below w.heap.size w wg) := hb1.below HBg.out HWg.out
              have HRh : Hid (wg.heap[w.heap.size]? = some (.cells #[.string ⟨#[]⟩, .slice none 0 0, .int .i64 0, .slice none 0 0, .slice none 0 0, .slice none 0 0] 27 (0, 0))) := but_box hb1 HRg.out (by omega)
              have HXh : Hid (wg.heap[wb.heap.size]? = some (.cells #[.string nm, .slice A1 code.length k1, .int .i64 dA, .slice A2 data.length k2, .slice A3 ss.length k3, .slice A4 rs.length k4] 27 (0, 0))) := but_box hb1 HXg.out HPg.out
              have HQh : Hid (RowsO wg w1.heap.size A1 A2 A3 A4 k1 k2 k3 k4 code data ss rs) := RowsO.but HQg.out hb1 HGs.out
              generalize tEnd b t7 = t8 at ht1 HTk
              have y2 := ht1.1.2.2.1
              have y3 := ht1.1.2.2.2
              clear hb1 ht1 HBg HRg HXg HTg HQg C7 q0 q1 q2 q3 q4 q5 f0 f1 f2 f3 f4 f5
              obtain ⟨e0, e1, e2, e3, e4, e5⟩ := box6_cell HRh.out
              obtain ⟨f0, f1, f2, f3, f4, f5⟩ := box6_fro HRh.out
              by_cases hz8 : t8.bad = 0
              · have hz9 : (t8.bad != 0) = false := by simpa using hz8
                obtain ⟨g0, g1, g2, g3, g4, g5⟩ := box6_cell HXh.out
                have hbad : (took b).t.bad = 0 := by rw [HTk.out]; exact hz8
                obtain ⟨-, j1, j2, j3, j4, j5, j6, j7, j8, j9, j10⟩ := took_write hA hbad
                rw [HTk.out] at j1 j2 j3 j4 j5 j6 j7 j8 j9 j10
                simp only at j1 j2 j3 j4 j5 j6 j7 j8 j9 j10
                have D := refcheck_any nm dA A1 A2 A3 A4 k1 data.length k2 k3 k4 code ss rs wg (row_ints HQh.out.r1) (fun i hi => j3 _ (by simp [nth, List.getD, hi])) (row_syms HQh.out.r3) (row_rels HQh.out.r4) (by omega) (by omega) (by omega) (by omega)
                have HZ8 : Hid _ := hz8
                clear j1 j2 j3 j4 j5 j6 j7 j8 j9 j10 hbad hz8
                by_cases hE : (checkC nm code dA data.length ss rs).1 = 0
                · have HE : Hid _ := hE
                  rw [hE] at D
                  go_wp2_with fail
                  refine D.mono ?_
                  rintro e wh ⟨rfl, h5⟩
                  have HBi : Hid (Below w.heap.size w wh) := lb_trans HBh.out h5
                  have HRi : Hid _ := lb_box HRh.out h5
                  have HXi : Hid _ := lb_box HXh.out h5
                  have HQi : Hid (RowsO wh w1.heap.size A1 A2 A3 A4 k1 k2 k3 k4 code data ss rs) := HQh.out.keep h5
                  clear e0 e1 e2 e3 e4 e5 f0 f1 f2 f3 f4 f5 g0 g1 g2 g3 g4 g5 h5 D hE
                  obtain ⟨e0, e1, e2, e3, e4, e5⟩ := box6_cell HRi.out
                  obtain ⟨f0, f1, f2, f3, f4, f5⟩ := box6_fro HRi.out
                  obtain ⟨g0, g1, g2, g3, g4, g5⟩ := box6_cell HXi.out
                  go_wp2_with fail
                  refine bodyPost_ret (v := .tuple #[.agg #[.string nm, .slice A1 code.length k1, .int .i64 dA, .slice A2 data.length k2, .slice A3 ss.length k3, .slice A4 rs.length k4], .int .i64 0, .int .i64 0]) (by simp [results, Tryz.results18, go_sem, e0, e1, e2, e3, e4, e5]) rfl ?_
                  unfold ReadP
                  rw [HTk.out]
                  exact ⟨below_set6 HBi.out (Nat.le_refl _) _ _ _ _ _ _, Or.inr (Or.inr ⟨HZ8.out, HE.out, A1, A2, A3, A4, k1, k2, k3, k4, rfl, (HQi.out.set6 (by have := Hb7.out; omega) _ _ _ _ _ _).mono (by have := Hb7.out; omega)⟩)⟩
                · have HE : Hid _ := hE
                  have hEb : ((checkC nm code dA data.length ss rs).1 != 0) = true := by simpa using hE
                  generalize hcE : (checkC nm code dA data.length ss rs).1 = E at *
                  generalize hcN : (checkC nm code dA data.length ss rs).2 = Nn at *
                  have hcE : Hid _ := hcE
                  have hcN : Hid _ := hcN
                  go_wp2_with fail
                  refine D.mono ?_
                  rintro e wh ⟨rfl, h5⟩
                  have HBi : Hid (Below w.heap.size w wh) := lb_trans HBh.out h5
                  have HRi : Hid _ := lb_box HRh.out h5
                  clear e0 e1 e2 e3 e4 e5 f0 f1 f2 f3 f4 f5 g0 g1 g2 g3 g4 g5 h5 D hE
                  obtain ⟨e0, e1, e2, e3, e4, e5⟩ := box6_cell HRi.out
                  obtain ⟨f0, f1, f2, f3, f4, f5⟩ := box6_fro HRi.out
                  go_wp2_with fail
                  refine bodyPost_ret (v := .tuple #[.agg #[.string ⟨#[]⟩, .slice none 0 0, .int .i64 0, .slice none 0 0, .slice none 0 0, .slice none 0 0], .int .i64 E, .int .i64 Nn]) (by simp [results, Tryz.results18, go_sem, e0, e1, e2, e3, e4, e5]) rfl ?_
                  unfold ReadP
                  rw [HTk.out]
                  refine ⟨below_set6 HBi.out (Nat.le_refl _) _ _ _ _ _ _, Or.inr (Or.inl ⟨HZ8.out, ?_, ?_⟩)⟩
                  · simp only; rw [hcE.out]; exact HE.out
                  · simp only; rw [hcE.out, hcN.out]
              · have hz9 : (t8.bad != 0) = true := by simpa using hz8
                have HZ8 : Hid _ := hz8
                go_wp2_with fail
                go_region
                all_goals go_wp2_with fail
                all_goals
                  refine bodyPost_ret (v := .tuple #[.agg #[.string ⟨#[]⟩, .slice none 0 0, .int .i64 0, .slice none 0 0, .slice none 0 0, .slice none 0 0], .int .i64 t8.bad, .int .i64 t8.place]) (by simp [results, Tryz.results18, go_sem, e0, e1, e2, e3, e4, e5]) rfl ?_
                  unfold ReadP
                  rw [HTk.out]
                  refine ⟨?_, Or.inl ⟨HZ8.out, rfl⟩⟩
                  have hbz := HBh.out
                  repeat' (first | with_reducible assumption | with_reducible refine Below.setCell ?_ ?_ _ | with_reducible refine Below.drew ?_ | exact Nat.le_refl _)))


end Go.Proofs.YthfcimmfkibmjaaGreatDoor
