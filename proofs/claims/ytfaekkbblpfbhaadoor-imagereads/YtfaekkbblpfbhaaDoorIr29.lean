/-
  The document takes bytes: Wrong, Has, Four; the bytes are at most 2^20. The document takes a number of four bytes; the bytes are at most 2^20.
-/
import Derived.Test.YtfaekkbblpfbhaaDoorProg
import Derived.WalkKit
import Derived.WalkSpells
import Derived.WalkLawsBesides
import Derived.RowKit3
import Derived.Below
import Derived.Deep.QuietTactic
import Derived.BigQuiet
import Derived.WalkSmall
import Derived.Test.YtfaekkbblpfbhaaDoorIr04
import Derived.Test.YtfaekkbblpfbhaaDoorIr06
import Derived.Deep.DeepCutAuto
namespace Go.Proofs.YtfaekkbblpfbhaaDoor
open Go.RowKit

theorem wrong_any (g : Nat) (A : Option Addr) (n c : Nat) (t : Tk) (e p : Int) (w : World) (ht : TkAt w g A n c t) :
    Calls Tryd.prog 83 #[.pointer (some ⟨g, 0, none⟩), .int .i64 e, .int .i64 p] w fun r w' => r = .returned (.tuple #[]) ∧ But g w w' ∧ TkAt w' g A n c (tWrong t e p) := by
  obtain ⟨⟨c0, c1, c2, c3⟩, hf⟩ := ht
  have f2 := hf 2
  have f3 := hf 3
  have HT : Hid (TkAt w g A n c t) := ⟨⟨c0, c1, c2, c3⟩, hf⟩
  clear hf
  cases h : (t.bad == 0) with
  | true =>
    have HW : Hid (tWrong t e p = ⟨t.pos, e, p⟩) := by unfold Hid tWrong; rw [if_pos (by simpa using h)]
    go_enter Tryd.func83, Tryd.ntmps83
    go_wp2
    go_end0
    exact ⟨rfl, ((But.refl _ _).set _ _).set _ _, by rw [HW.out]; exact HT.out.wrongTo e p⟩
  | false =>
    have HW : Hid (tWrong t e p = t) := by unfold Hid tWrong; rw [if_neg (by simpa using h)]
    go_enter Tryd.func83, Tryd.ntmps83
    go_wp2
    go_end0
    exact ⟨rfl, But.refl _ _, by rw [HW.out]; exact HT.out⟩
theorem has_any (g : Nat) (A : Option Addr) (N c : Nat) (t : Tk) (n : Int) (w : World) (ht : TkAt w g A N c t) (hN : N ≤ 1048576) (hp : t.pos ≤ 1048640) (hn0 : 0 ≤ n) (hn : n ≤ 1048576) :
    Calls Tryd.prog 84 #[.pointer (some ⟨g, 0, none⟩), .int .i64 n] w fun r w' => r = .returned (.bool ((tHas N t n).bad == 0)) ∧ But g w w' ∧ TkAt w' g A N c (tHas N t n) := by
  have ht' := ht
  obtain ⟨⟨c0, c1, c2, c3⟩, hf⟩ := ht'
  have HT : Hid (TkAt w g A N c t) := ht
  have CW := fun wx (h : TkAt wx g A N c t) => wrong_any g A N c t 27 N wx h
  clear hf ht
  cases h : (t.bad == 0) with
  | true =>
    by_cases h2 : (N : Int) - t.pos < n
    · have HH : Hid (tHas N t n = ⟨t.pos, 27, N⟩) := by unfold Hid tHas; rw [if_pos ⟨by simpa using h, h2⟩]
      have HW : Hid (tWrong t 27 N = ⟨t.pos, 27, N⟩) := by unfold Hid tWrong; rw [if_pos (by simpa using h)]
      have h2d : decide ((N : Int) - t.pos < n) = true := decide_eq_true h2
      go_enter Tryd.func84, Tryd.ntmps84
      go_wp2_with fail
      go_big_quiet (fail)
      go_wp2_with fail
      refine (CW _ (HT.out.drewN _)).mono ?_
      rintro r w1 ⟨rfl, hb1, ht1⟩
      rw [HW.out] at ht1
      have HB : Hid (But g w w1) := hb1
      have HT1 : Hid (TkAt w1 g A N c ⟨t.pos, 27, N⟩) := ht1
      obtain ⟨⟨_, _, d2, _⟩, _⟩ := ht1
      clear hb1
      go_wp2
      go_ret
      exact ⟨by rw [HH.out]; rfl, HB.out, by rw [HH.out]; exact HT1.out⟩
    · have HH : Hid (tHas N t n = t) := by unfold Hid tHas; rw [if_neg (fun k => h2 k.2)]
      have HZ : Hid ((t.bad == 0) = true) := h
      have h2d : decide ((N : Int) - t.pos < n) = false := decide_eq_false h2
      go_enter Tryd.func84, Tryd.ntmps84
      go_wp2_with fail
      go_big_quiet (fail)
      go_wp2
      go_ret
      exact ⟨by rw [HH.out, HZ.out]; rfl, (But.refl _ _).drewN _, by rw [HH.out]; exact HT.out.drewN _⟩
  | false =>
    have HH : Hid (tHas N t n = t) := by unfold Hid tHas; rw [if_neg (fun k => by have := k.1; simp [this] at h)]
    have HZ : Hid ((t.bad == 0) = false) := h
    go_enter Tryd.func84, Tryd.ntmps84
    go_wp2_with fail
    go_big_quiet (fail)
    go_wp2
    go_ret
    exact ⟨by rw [HH.out, HZ.out]; rfl, (But.refl _ _).drewN _, by rw [HH.out]; exact HT.out.drewN _⟩



end Go.Proofs.YtfaekkbblpfbhaaDoor

namespace Go.Proofs.YtfaekkbblpfbhaaDoor
open Go.RowKit

/-- The number that the first k bytes make. -/
def vk (l : List Int) : Nat → Int
  | 0 => 0
  | k + 1 => 256 * vk l k + nth l k
theorem nth_byte {l : List Int} (h : AreB l) (k : Nat) : 0 ≤ nth l k ∧ nth l k < 256 := by
  unfold nth
  by_cases hk : k < l.length
  · exact h _ (by simp [List.getD, hk])
  · rw [List.getD, List.getElem?_eq_none (by omega)]; simp
theorem vk_small {l : List Int} (h : AreB l) (k : Nat) (hk : k ≤ 3) : 0 ≤ vk l k ∧ vk l k ≤ 16777215 := by
  have h0 := nth_byte h 0
  have h1 := nth_byte h 1
  have h2 := nth_byte h 2
  have hq : k = 0 ∨ k = 1 ∨ k = 2 ∨ k = 3 := by omega
  rcases hq with rfl | rfl | rfl | rfl <;> simp only [vk] <;> omega
theorem v4_vk {l : List Int} (h : 4 ≤ l.length) : v4 l = vk l 4 := by
  obtain ⟨a, b, c, d, r, rfl⟩ := four_parts h
  simp only [v4, vk, nth, List.getD_cons_zero, List.getD_cons_succ]
  omega
theorem nth_dropr (l : List Int) (p k : Nat) : nth (l.drop p) k = nth l (p + k) := by simp [nth, List.getD]
set_option maxRecDepth 100000 in
set_option maxHeartbeats 1000000 in
theorem tfour_any (g : Nat) (A : Option Addr) (c : Nat) (b : List Int) (t : Tk) (w0 w : World) (hB : IntsAt w0 A .u8 b) (hb0 : Below w0.heap.size w0 w) (hg0 : w0.heap.size ≤ g) (hA : AreB b) (hN : b.length ≤ 1048576) (hp : t.pos ≤ 1048600) (ht : TkAt w g A b.length c t) : Calls Tryd.prog 62 #[.pointer (some ⟨g, 0, none⟩)] w fun r w' => r = .returned (.int .u32 (tFour b t).1) ∧ But g w w' ∧ TkAt w' g A b.length c (tFour b t).2 := by
  have CH := has_any g A b.length c t 4 w ht hN (by omega) (by omega) (by omega)
  by_cases hh : (tHas b.length t 4).bad = 0
  · obtain ⟨hz, hl, he⟩ := tHas_ok hh
    have HF : Hid (tFour b t = (v4 (b.drop t.pos), ⟨t.pos + 4, 0, t.place⟩)) := by unfold Hid tFour; rw [if_pos hh]
    have HV : Hid (v4 (b.drop t.pos) = vk (b.drop t.pos) 4) := v4_vk (by simp; omega)
    rw [show ((tHas b.length t 4).bad == 0) = true by rw [hh]; rfl, he] at CH
    clear hh he
    go_enter Tryd.func62, Tryd.ntmps62
    go_wp2_with fail
    refine CH.mono ?_
    rintro r w1 ⟨rfl, hb1, ht1⟩
    have HB1 : Hid (But g w w1) := hb1
    have HT1 : Hid (TkAt w1 g A b.length c t) := ht1
    have HW1 : Hid (Below w0.heap.size w0 w1) := hb1.below hb0 hg0
    obtain ⟨⟨c0, c1, c2, c3⟩, hf⟩ := ht1
    have f1 := hf 1
    clear hb1 hf CH
    go_wp2
    go_loopw [4, 3] (fun i v wr => ∃ k n : Nat, i = .int .i64 k ∧ k ≤ 4 ∧ v = .int .u32 (vk (b.drop t.pos) k) ∧ wr = w1.drewN n) (fun i _ _ => 4 - (intOf i).toNat)
    case atStart => exact ⟨0, 0, rfl, by omega, rfl, rfl⟩
    case round =>
      obtain ⟨k, n, rfl, hk, rfl, rfl⟩ := hrel
      by_cases hlt : k < 4
      · obtain ⟨a, rfl, q⟩ := (hB.keep HW1.out) (t.pos + k) (by omega)
        have hx := nth_byte (hA.drop t.pos) k
        have hv := vk_small (hA.drop t.pos) k (by omega)
        rw [← nth_dropr] at q
        have HS : Hid (vk (b.drop t.pos) (k + 1) = 256 * vk (b.drop t.pos) k + nth (b.drop t.pos) k) := rfl
        generalize nth (b.drop t.pos) k = x at q hx HS
        generalize vk (b.drop t.pos) k = v at hv HS
        go_upto_region 7 with fail
        go_big_quiet (fail)
        go_wp2
        go_roundw
        case rel => exact ⟨k + 1, _, by go_num, by omega, by rw [HS.out], rfl⟩
        case measure => simp [intOf]; omega
      · obtain rfl : k = 4 := by omega
        go_wp2
        go_ret
        exact ⟨by rw [HF.out]; simp only; rw [HV.out]; rfl, (HB1.out.drewN n).set _ _, by rw [HF.out]; simp only; rw [← hz]; exact (HT1.out.drewN n).posTo _⟩
  · have HF : Hid (tFour b t = (0, tHas b.length t 4)) := by unfold Hid tFour; rw [if_neg hh]
    rw [show ((tHas b.length t 4).bad == 0) = false by simpa using hh] at CH
    clear hh
    go_enter Tryd.func62, Tryd.ntmps62
    go_wp2_with fail
    refine CH.mono ?_
    rintro r w1 ⟨rfl, hb1, ht1⟩
    have HB1 : Hid (But g w w1) := hb1
    have HT1 : Hid (TkAt w1 g A b.length c (tHas b.length t 4)) := ht1
    clear hb1 ht1 CH
    go_wp2
    go_ret
    exact ⟨by rw [HF.out]; rfl, HB1.out, by rw [HF.out]; exact HT1.out⟩



end Go.Proofs.YtfaekkbblpfbhaaDoor
