/-
  Which bytes a name of package object may hold: no condition. Package object: Name answers as the plain function does; no condition.
-/
import Derived.Test.YtbphfgalgiinnaaProg
import Derived.WalkKit
import Derived.WalkSpells
import Derived.WalkLawsBesides
import Derived.RowKit3
import Derived.Below
import Derived.Deep.QuietTactic
import Derived.BigQuiet
import Derived.WalkSmall
import Derived.Test.YtbphfgalgiinnaaObMath
namespace Go.Proofs.Ytbphfgalgiinnaa
open Go.RowKit

theorem begins_any (b : Int) (h0 : 0 ≤ b) (h1 : b ≤ 255) (w : World) : Calls Try.prog 43 #[.int .u8 b] w fun e w' => e = .returned (.bool (ltrI b)) ∧ w' = w := by
  by_cases h1 : 97 ≤ b
  · by_cases h2 : b ≤ 122
    · rw [show ltrI b = true from decide_eq_true (by omega)]
      go_enter Try.func43, Try.ntmps43
      go_wp2
      go_ret
      exact ⟨by first | rfl | (simp [*]; done), rfl⟩
    · rw [show ltrI b = false from decide_eq_false (by omega)]
      have h3 : 65 ≤ b := by omega
      have h4 : ¬ b ≤ 90 := by omega
      have h5 : (b == 95) = false := by simp; omega
      go_enter Try.func43, Try.ntmps43
      go_wp2
      go_ret
      exact ⟨by first | rfl | (simp [*]; done), rfl⟩
  · by_cases h3 : 65 ≤ b
    · by_cases h4 : b ≤ 90
      · rw [show ltrI b = true from decide_eq_true (by omega)]
        go_enter Try.func43, Try.ntmps43
        go_wp2
        go_ret
        exact ⟨by first | rfl | (simp [*]; done), rfl⟩
      · by_cases h5 : b = 95
        · rw [show ltrI b = true from decide_eq_true (by omega)]
          have h6 : (b == 95) = true := by simpa using h5
          clear h5
          go_enter Try.func43, Try.ntmps43
          go_wp2
          go_ret
          exact ⟨by first | rfl | (simp [*]; done), rfl⟩
        · rw [show ltrI b = false from decide_eq_false (by omega)]
          have h6 : (b == 95) = false := by simpa using h5
          go_enter Try.func43, Try.ntmps43
          go_wp2
          go_ret
          exact ⟨by first | rfl | (simp [*]; done), rfl⟩
    · rw [show ltrI b = false from decide_eq_false (by omega)]
      have h6 : (b == 95) = false := by simp; omega
      go_enter Try.func43, Try.ntmps43
      go_wp2
      go_ret
      exact ⟨by first | rfl | (simp [*]; done), rfl⟩



def conI (b : Int) : Bool := dgtI b || b == 46
theorem continues_any (b : Int) (h0 : 0 ≤ b) (h1 : b ≤ 255) (w : World) : Calls Try.prog 44 #[.int .u8 b] w fun e w' => e = .returned (.bool (conI b)) ∧ w' = w := by
  by_cases h2 : 48 ≤ b
  · by_cases h3 : b ≤ 57
    · rw [show conI b = true by unfold conI; rw [show dgtI b = true from decide_eq_true (by omega)]; rfl]
      go_enter Try.func44, Try.ntmps44
      go_wp2
      go_ret
      exact ⟨by first | rfl | (simp [*]; done), rfl⟩
    · rw [show conI b = false by unfold conI; rw [show dgtI b = false from decide_eq_false (by omega)]; simp; omega]
      have h4 : (b == 46) = false := by simp; omega
      go_enter Try.func44, Try.ntmps44
      go_wp2
      go_ret
      exact ⟨by first | rfl | (simp [*]; done), rfl⟩
  · by_cases h3 : b = 46
    · rw [show conI b = true by unfold conI; simp [h3]]
      have h4 : (b == 46) = true := by simpa using h3
      clear h3
      go_enter Try.func44, Try.ntmps44
      go_wp2
      go_ret
      exact ⟨by first | rfl | (simp [*]; done), rfl⟩
    · rw [show conI b = false by unfold conI; rw [show dgtI b = false from decide_eq_false (by omega)]; simp; omega]
      have h4 : (b == 46) = false := by simpa using h3
      go_enter Try.func44, Try.ntmps44
      go_wp2
      go_ret
      exact ⟨by first | rfl | (simp [*]; done), rfl⟩
theorem beg_at (s : ByteArray) (k : Nat) (h : k < s.size) (x : Bool) (e : ltrI s[k].toNat = x) (w : World) : Calls Try.prog 43 #[.int .u8 s[k].toNat] w fun e w' => e = .returned (.bool x) ∧ w' = w := by
  have := begins_any s[k].toNat (by omega) (by have := s[k].toNat_lt; omega) w
  rw [e] at this; exact this
theorem con_at (s : ByteArray) (k : Nat) (h : k < s.size) (x : Bool) (e : conI s[k].toNat = x) (w : World) : Calls Try.prog 44 #[.int .u8 s[k].toNat] w fun e w' => e = .returned (.bool x) ∧ w' = w := by
  have := continues_any s[k].toNat (by omega) (by have := s[k].toNat_lt; omega) w
  rw [e] at this; exact this
set_option maxRecDepth 100000 in
set_option maxHeartbeats 1000000 in
theorem objname_raw (s : ByteArray) (w : World) : Calls Try.prog 18 #[.string s] w fun e w' => e = .returned (.bool (nameOK s)) ∧ w' = w := by
  by_cases h0 : s.size < 1
  · have HN : Hid (nameOK s = false) := name_nil s (by omega)
    go_enter Try.func18, Try.ntmps18
    go_wp2
    go_ret
    exact ⟨retB HN.out.symm, rfl⟩
  have hp : 0 < s.size := by omega
  have hN := name_cons s hp
  by_cases h1 : 24 < s.size
  · rw [decide_eq_false (by omega)] at hN
    have HN : Hid _ := hN
    clear hN
    go_enter Try.func18, Try.ntmps18
    go_wp2
    go_ret
    exact ⟨retB HN.out.symm, rfl⟩
  rw [decide_eq_true (by omega)] at hN
  have HN : Hid _ := hN
  clear hN
  go_enter Try.func18, Try.ntmps18
  go_wp2
  go_loop [3] (fun i => ∃ k : Nat, i = .int .i64 k ∧ k ≤ s.size ∧ Hid (1 ≤ k → goodL (s.data.toList.drop k) = nameOK s)) (fun i => s.size - (intOf i).toNat)
  case atStart => exact ⟨0, rfl, by omega, fun h => by omega⟩
  case round =>
    obtain ⟨k, rfl, hk, HT⟩ := hrel
    by_cases hlt : k < s.size
    · cases h3 : ltrI s[k].toNat with
      | true =>
        have C := beg_at s k hlt true h3
        have HG : Hid (goodL (s.data.toList.drop (k + 1)) = nameOK s) := by
          by_cases hk0 : k = 0
          · subst hk0
            rw [Hid, HN.out, h3]; simp
          · rw [Hid, ← good_on hlt (show goodI s[k].toNat = true by unfold goodI; rw [h3]; rfl)]; exact HT.out (by omega)
        clear h3
        go_wp2_with fail
        refine (C _).mono ?_
        rintro e w1 ⟨rfl, rfl⟩
        clear C
        go_wp2
        go_round
        case rel => exact ⟨k + 1, by go_num, by omega, fun _ => HG.out⟩
        case measure => simp [intOf]; omega
      | false =>
        have C := beg_at s k hlt false h3
        by_cases hk0 : k = 0
        · subst hk0
          have HF : Hid (nameOK s = false) := by rw [Hid, HN.out, h3]; rfl
          clear h3
          go_wp2_with fail
          refine (C _).mono ?_
          rintro e w1 ⟨rfl, rfl⟩
          clear C
          go_wp2
          go_ret
          exact ⟨retB HF.out.symm, rfl⟩
        have hk1 : ((k : Int) == 0) = false := by simpa using hk0
        cases h4 : conI s[k].toNat with
        | true =>
          have C2 := con_at s k hlt true h4
          have HG : Hid (goodL (s.data.toList.drop (k + 1)) = nameOK s) := by
            rw [Hid, ← good_on hlt (show goodI s[k].toNat = true by unfold goodI; rw [h3, Bool.false_or]; exact h4)]; exact HT.out (by omega)
          clear h3 h4 hk0
          go_wp2_with fail
          refine (C _).mono ?_
          rintro e w1 ⟨rfl, rfl⟩
          clear C
          go_wp2_with fail
          refine (C2 _).mono ?_
          rintro e w1 ⟨rfl, rfl⟩
          clear C2
          go_wp2
          go_round
          case rel => exact ⟨k + 1, by go_num, by omega, fun _ => HG.out⟩
          case measure => simp [intOf]; omega
        | false =>
          have C2 := con_at s k hlt false h4
          have HF : Hid (nameOK s = false) := by
            rw [Hid, ← HT.out (by omega)]; exact good_no hlt (show goodI s[k].toNat = false by unfold goodI; rw [h3, Bool.false_or]; exact h4)
          clear h3 h4 hk0
          go_wp2_with fail
          refine (C _).mono ?_
          rintro e w1 ⟨rfl, rfl⟩
          clear C
          go_wp2_with fail
          refine (C2 _).mono ?_
          rintro e w1 ⟨rfl, rfl⟩
          clear C2
          go_wp2
          go_ret
          exact ⟨retB HF.out.symm, rfl⟩
    · have HG : Hid (nameOK s = true) := by rw [Hid, ← HT.out (by omega)]; exact good_end (by omega)
      go_wp2
      go_ret
      exact ⟨retB HG.out.symm, rfl⟩
theorem objname_any (s : ByteArray) (w : World) : Calls Try.prog 18 #[.string s] w fun e w' => e = .returned (.bool (nameOK s)) ∧ Below w.heap.size w w' := by
  refine (objname_raw s w).mono ?_
  rintro e w1 ⟨rfl, rfl⟩
  exact ⟨rfl, Below.refl _ _⟩

end Go.Proofs.Ytbphfgalgiinnaa
