/-
  The bytes with which it must begin, one by one; no Go in sight. The document looks at the bytes with which it must begin; the bytes are at most 2^20.
-/
import Derived.Test.YtfaekkbblpfbhaaDoorIr07
import Derived.Test.YtfaekkbblpfbhaaDoorProg
import Derived.WalkKit
import Derived.WalkSpells
import Derived.WalkLawsBesides
import Derived.RowKit3
import Derived.Below
import Derived.Deep.QuietTactic
import Derived.BigQuiet
import Derived.WalkSmall
import Derived.Test.YtfaekkbblpfbhaaDoorIr30
namespace Go.Proofs.YtfaekkbblpfbhaaDoor
open Go.RowKit

def mis (b want : List Int) (i : Nat) : Bool := decide (b.length ≤ i) || nth b i != nth want i
theorem begin_no {b want : List Int} {k : Nat} (hk : k < want.length) (h : ∀ j, j < k → mis b want j = false) (e : mis b want k = true) : tBegin b want = ⟨want.length, 27, k⟩ := by
  unfold tBegin
  have : (List.range want.length).find? (fun i => decide (b.length ≤ i) || nth b i != nth want i) = some k := by
    rw [List.find?_range_eq_some]
    exact ⟨e, by simpa using hk, fun j hj => by have := h j hj; unfold mis at this; rw [this]; rfl⟩
  rw [this]
theorem begin_yes {b want : List Int} (h : ∀ j, j < want.length → mis b want j = false) : tBegin b want = ⟨want.length, 0, 0⟩ := by
  unfold tBegin
  have : (List.range want.length).find? (fun i => decide (b.length ≤ i) || nth b i != nth want i) = none := by
    rw [List.find?_eq_none]
    intro j hj
    have := h j (by simpa using hj)
    unfold mis at this
    rw [this]; simp
  rw [this]

end Go.Proofs.YtfaekkbblpfbhaaDoor

namespace Go.Proofs.YtfaekkbblpfbhaaDoor
open Go.RowKit

def begS : ByteArray := ⟨#[80, 76, 73, 49]⟩
theorem beg_atr (k : Nat) (hk : k < begS.size) : (begS[k].toNat : Int) = nth begI k := by
  have hq : k = 0 ∨ k = 1 ∨ k = 2 ∨ k = 3 := by have : begS.size = 4 := rfl; omega
  rcases hq with rfl | rfl | rfl | rfl <;> rfl
set_option maxRecDepth 100000 in
set_option maxHeartbeats 1000000 in
theorem tbegin_any (g : Nat) (A : Option Addr) (c : Nat) (b : List Int) (w0 w : World) (hB : IntsAt w0 A .u8 b) (hb0 : Below w0.heap.size w0 w) (hg0 : w0.heap.size ≤ g) (_hN : b.length ≤ 1048576) (ht : TkAt w g A b.length c ⟨0, 0, 0⟩) :
    Calls Tryd.prog 60 #[.pointer (some ⟨g, 0, none⟩), .string begS] w fun r w' => r = .returned (.tuple #[]) ∧ But g w w' ∧ TkAt w' g A b.length c (tBegin b begI) := by
  have hs : begS.size = 4 := rfl
  have HA : Hid (∀ k (hk : k < begS.size), (begS[k].toNat : Int) = nth begI k) := beg_atr
  have CW := fun (k : Nat) wx (h : TkAt wx g A b.length c ⟨0, 0, 0⟩) => wrong_any g A b.length c ⟨0, 0, 0⟩ 27 k wx h
  have HN : Hid (∀ k, k < 4 → (∀ j, j < k → mis b begI j = false) → mis b begI k = true → tBegin b begI = ⟨4, 27, k⟩) := fun k hk h e => begin_no hk h e
  have HY : Hid ((∀ j, j < 4 → mis b begI j = false) → tBegin b begI = ⟨4, 0, 0⟩) := fun h => begin_yes h
  generalize begS = S at hs HA ⊢
  go_enter Tryd.func60, Tryd.ntmps60
  go_wp2
  go_loopw [4] (fun i wr => ∃ (k : Nat) (bad place : Int), i = .int .i64 k ∧ k ≤ 4 ∧ But g w wr ∧ TkAt wr g A b.length c ⟨0, bad, place⟩ ∧ Hid ((bad = 0 ∧ place = 0 ∧ ∀ j, j < k → mis b begI j = false) ∨ (bad = 27 ∧ tBegin b begI = ⟨4, 27, place⟩))) (fun i _ => 4 - (intOf i).toNat)
  case atStart => exact ⟨0, 0, 0, rfl, by omega, But.refl _ _, ht, Or.inl ⟨rfl, rfl, fun j hj => by omega⟩⟩
  case round =>
    obtain ⟨k, bad, place, rfl, hk, hb1, ht1, HR⟩ := hrel
    rename_i wr _
    have HB1 : Hid (But g w wr) := hb1
    have HT1 : Hid (TkAt wr g A b.length c ⟨0, bad, place⟩) := ht1
    have HW1 : Hid (Below w0.heap.size w0 wr) := hb1.below hb0 hg0
    obtain ⟨⟨d0, d1, d2, d3⟩, hf⟩ := ht1
    have f1 := hf 1
    simp only at d1 d2 d3
    clear hb1 hf
    by_cases hlt : k < 4
    · have hks : k < S.size := by omega
      rcases HR.out with ⟨rfl, rfl, hj⟩ | ⟨rfl, he⟩
      · have HJ : Hid (∀ j, j < k → mis b begI j = false) := hj
        clear hj HR
        by_cases hbl : b.length ≤ k
        · have HE : Hid (tBegin b begI = ⟨4, 27, k⟩) := HN.out k hlt HJ.out (by unfold mis; rw [decide_eq_true hbl]; rfl)
          go_upto_region 3 with fail
          go_big_quiet (fail)
          go_wp2_with fail
          refine (CW k _ (HT1.out.drewN _)).mono ?_
          rintro r w2 ⟨rfl, hb2, ht2⟩
          have HB2 : Hid (But g w w2) := (HB1.out.drewN _).trans hb2
          have HT2 : Hid (TkAt w2 g A b.length c ⟨0, 27, k⟩) := ht2
          clear hb2 ht2
          go_wp2
          go_roundw
          case rel => exact ⟨k + 1, 27, k, by go_num, by omega, HB2.out, HT2.out, Or.inr ⟨rfl, HE.out⟩⟩
          case measure => simp [intOf]; omega
        · obtain ⟨a, rfl, q⟩ := (hB.keep HW1.out) k (by omega)
          have hm : mis b begI k = (nth b k != nth begI k) := by unfold mis; rw [decide_eq_false hbl]; rfl
          have hy := HA.out k hks
          rw [← hy] at hm
          cases hx : (nth b k == (S[k].toNat : Int)) with
          | true =>
            have hx2 : (nth b k != (S[k].toNat : Int)) = false := by simpa using hx
            have HE : Hid (∀ j, j < k + 1 → mis b begI j = false) := fun j hj => by
              by_cases hjk : j = k
              · rw [hjk, hm, hx2]
              · exact HJ.out j (by omega)
            clear hm hy
            go_upto_region 3 with fail
            go_big_quiet (fail)
            go_wp2
            go_roundw
            case rel => exact ⟨k + 1, 0, 0, by go_num, by omega, HB1.out.drewN _, HT1.out.drewN _, Or.inl ⟨rfl, rfl, HE.out⟩⟩
            case measure => simp [intOf]; omega
          | false =>
            have hx2 : (nth b k != (S[k].toNat : Int)) = true := by simpa using hx
            have HE : Hid (tBegin b begI = ⟨4, 27, k⟩) := HN.out k hlt HJ.out (by rw [hm, hx2])
            clear hm hy
            go_upto_region 3 with fail
            go_big_quiet (fail)
            go_wp2_with fail
            refine (CW k _ (HT1.out.drewN _)).mono ?_
            rintro r w2 ⟨rfl, hb2, ht2⟩
            have HB2 : Hid (But g w w2) := (HB1.out.drewN _).trans hb2
            have HT2 : Hid (TkAt w2 g (some a) b.length c ⟨0, 27, k⟩) := ht2
            clear hb2 ht2
            go_wp2
            go_roundw
            case rel => exact ⟨k + 1, 27, k, by go_num, by omega, HB2.out, HT2.out, Or.inr ⟨rfl, HE.out⟩⟩
            case measure => simp [intOf]; omega
      · have HE : Hid (tBegin b begI = ⟨4, 27, place⟩) := he
        clear he HR
        go_wp2
        go_end0
        exact ⟨rfl, HB1.out.set _ _, by rw [HE.out]; exact HT1.out.posTo 4⟩
    · have HE : Hid (tBegin b begI = ⟨4, bad, place⟩) := by
        rcases HR.out with ⟨rfl, rfl, hj⟩ | ⟨rfl, he⟩
        · exact HY.out fun j hj' => hj j (by omega)
        · exact he
      have hks : ¬ k < S.size := by omega
      go_wp2
      go_end0
      exact ⟨rfl, HB1.out.set _ _, by rw [HE.out]; exact HT1.out.posTo 4⟩



end Go.Proofs.YtfaekkbblpfbhaaDoor
