/-
  Find of the document: what a name stands for. Letters, by the document's answer; no condition but that a byte is one. Name of the document's answer, for every text; no condition. The first three looks at an object, by the document's answer; its data is at most 2^20 long.
-/
import Derived.Test.YtiihfkjgdhfmiaaProg
import Derived.WalkKit
import Derived.WalkSpells
import Derived.WalkLawsBesides
import Derived.RowKit3
import Derived.Below
import Derived.Deep.QuietTactic
import Derived.BigQuiet
import Derived.WalkSmall
import Derived.Laws.Rows
import Derived.Test.YtiihfkjgdhfmiaaSR09
import Derived.Test.YtiihfkjgdhfmiaaSR01
namespace Go.Proofs.Ytiihfkjgdhfmiaa
open Go.RowKit

theorem few_len {w : World} {A : Option Addr} {q : Nat → Pl} {l : List Ob} (h : ObsIn w A q l) : (l.length : Int) ≤ 64 := by have := h.few; omega
set_option maxHeartbeats 4000000 in
set_option maxRecDepth 100000 in
theorem reffind_any (A : Option Addr) (ca : Nat) (q : Nat → Pl) (l : List Ob) (nm : ByteArray) (w : World) (hA : ObsIn w A q l) :
    Calls Try.prog 11 #[.slice A l.length ca, .string nm] w (DefP (findF nm l) w) := by
  obtain ⟨w0, hw0⟩ : ∃ w0, w0 = w.alloc (.cells #[.int .i64 0, .int .i64 0] 37) := ⟨_, rfl⟩
  have hb0 : Below w.heap.size w w0 := by rw [hw0]; exact lb_alloc (Below.refl _ _) _
  have HZ : Hid (w0.heap[w.heap.size]? = some (.cells #[.int .i64 0, .int .i64 0] 37 (0, 0))) := by rw [hw0]; show (w.heap.push _)[w.heap.size]? = _; simp
  have HB0 : Hid (Below w.heap.size w w0) := hb0
  have CF : Hid (∀ kd wx, Below w.heap.size w wx → Calls Try.prog 28 #[.slice A l.length ca, .string nm, .int .i8 kd, .int .i64 l.length, .int .i64 0] wx (DefP (firstF nm kd l l.length 0) wx)) := fun kd wx hx => reffirst_any A ca q l nm kd l.length 0 wx (hA.keep hx) hA.few (by omega)
  have hf := hA.few
  clear hA hb0
  have C1 := CF.out 1 w0 HB0.out
  obtain ⟨x, hx⟩ : ∃ x, x = firstF nm 1 l l.length 0 := ⟨_, rfl⟩
  rw [← hx] at C1
  unfold DefP at C1
  have HX : Hid (x = firstF nm 1 l l.length 0) := hx
  clear hx
  go_enter Try.func11, Try.ntmps11
  go_wp2_with fail
  rw [← hw0]
  refine C1.mono ?_
  rintro e w1 ⟨rfl, hb1⟩
  have HB1 : Hid (Below w0.heap.size w0 w1) := hb1
  clear C1 hb1
  cases x with
  | some x =>
    have HF : Hid (findF nm l = some x) := by unfold Hid findF; rw [← HX.out]
    obtain ⟨z0, z1, y0, y1⟩ := res_keep (w1 := w1.alloc (.cells #[.int .i64 x.1, .int .i64 x.2] 37)) HZ.out (lb_alloc HB1.out _)
    have HBz : Hid (Below w.heap.size w (w1.alloc (.cells #[.int .i64 x.1, .int .i64 x.2] 37))) := lb_trans HB0.out (lb_alloc HB1.out _)
    have e1 : dfI (some x) = x.1 := rfl
    have e2 : dfA (some x) = x.2 := rfl
    have e3 : (some x).isSome = true := rfl
    rw [e1, e2, e3]
    go_wp2
    refine bodyPost_ret (v := .tuple #[.agg #[.int .i64 x.1, .int .i64 x.2], .bool true]) (by simp [results, Try.results11, go_sem, z0, z1]) rfl ⟨?_, (HBz.out.setCell (Nat.le_refl _) _).setCell (Nat.le_refl _) _⟩
    rw [HF.out]; rfl
  | none =>
    have HF : Hid (findF nm l = firstF nm 2 l l.length 0) := by unfold Hid findF; rw [← HX.out]
    have C2 := CF.out 2 (w1.alloc (.cells #[.int .i64 0, .int .i64 0] 37)) (lb_trans HB0.out (lb_alloc HB1.out _))
    rw [← HF.out] at C2
    unfold DefP at C2
    have e1 : dfI none = 0 := rfl
    have e2 : dfA none = 0 := rfl
    have e3 : (none : Option (Nat × Int)).isSome = false := rfl
    rw [e1, e2, e3]
    go_wp2_with fail
    refine C2.mono ?_
    rintro e w2 ⟨rfl, hb2⟩
    obtain ⟨z0, z1, y0, y1⟩ := res_keep (w1 := w2) HZ.out (lb_trans (lb_alloc HB1.out _) hb2)
    have HBz : Hid (Below w.heap.size w w2) := lb_trans HB0.out (lb_trans (lb_alloc HB1.out _) hb2)
    clear C2 hb2
    generalize hX : findF nm l = X
    go_wp2
    exact bodyPost_ret (v := .tuple #[.agg #[.int .i64 (dfI X), .int .i64 (dfA X)], .bool X.isSome]) (by simp [results, Try.results11, go_sem, z0, z1]) rfl ⟨by rw [hX], (HBz.out.setCell (Nat.le_refl _) _).setCell (Nat.le_refl _) _⟩


end Go.Proofs.Ytiihfkjgdhfmiaa

namespace Go.Proofs.Ytiihfkjgdhfmiaa
open Go.RowKit

theorem letter_any (b : Int) (h0 : 0 ≤ b) (h1 : b ≤ 255) (w : World) : Calls Try.prog 79 #[.int .u8 b] w fun e w' => e = .returned (.bool (ltrI b)) ∧ w' = w := by
  by_cases h1 : 97 ≤ b
  · by_cases h2 : b ≤ 122
    · rw [show ltrI b = true from decide_eq_true (by omega)]
      go_enter Try.func79, Try.ntmps79
      go_wp2
      go_ret
      exact ⟨by first | rfl | (simp [*]; done), rfl⟩
    · rw [show ltrI b = false from decide_eq_false (by omega)]
      have h3 : 65 ≤ b := by omega
      have h4 : ¬ b ≤ 90 := by omega
      have h5 : (b == 95) = false := by simp; omega
      go_enter Try.func79, Try.ntmps79
      go_wp2
      go_ret
      exact ⟨by first | rfl | (simp [*]; done), rfl⟩
  · by_cases h3 : 65 ≤ b
    · by_cases h4 : b ≤ 90
      · rw [show ltrI b = true from decide_eq_true (by omega)]
        go_enter Try.func79, Try.ntmps79
        go_wp2
        go_ret
        exact ⟨by first | rfl | (simp [*]; done), rfl⟩
      · by_cases h5 : b = 95
        · rw [show ltrI b = true from decide_eq_true (by omega)]
          have h6 : (b == 95) = true := by simpa using h5
          clear h5
          go_enter Try.func79, Try.ntmps79
          go_wp2
          go_ret
          exact ⟨by first | rfl | (simp [*]; done), rfl⟩
        · rw [show ltrI b = false from decide_eq_false (by omega)]
          have h6 : (b == 95) = false := by simpa using h5
          go_enter Try.func79, Try.ntmps79
          go_wp2
          go_ret
          exact ⟨by first | rfl | (simp [*]; done), rfl⟩
    · rw [show ltrI b = false from decide_eq_false (by omega)]
      have h6 : (b == 95) = false := by simp; omega
      go_enter Try.func79, Try.ntmps79
      go_wp2
      go_ret
      exact ⟨by first | rfl | (simp [*]; done), rfl⟩
theorem let_at (s : ByteArray) (k : Nat) (h : k < s.size) (x : Bool) (e : ltrI s[k].toNat = x) (w : World) : Calls Try.prog 79 #[.int .u8 s[k].toNat] w fun e w' => e = .returned (.bool x) ∧ w' = w := by
  have := letter_any s[k].toNat (by omega) (by have := s[k].toNat_lt; omega) w
  rw [e] at this; exact this
set_option maxRecDepth 100000 in
set_option maxHeartbeats 1000000 in
theorem refname_any (s : ByteArray) (w : World) : Calls Try.prog 71 #[.string s] w fun e w' => e = .returned (.bool (nameOK s)) ∧ w' = w := by
  by_cases h0 : s.size = 0
  · have HN : Hid (nameOK s = false) := name_nil s h0
    have h0' : ((s.size : Int) == 0) = true := by simpa using h0
    clear h0
    go_enter Try.func71, Try.ntmps71
    go_wp2
    go_ret
    exact ⟨retB HN.out.symm, rfl⟩
  have hp : 0 < s.size := by omega
  have h0' : ((s.size : Int) == 0) = false := by simpa using h0
  have hN := name_cons s hp
  clear h0
  by_cases h1 : 24 < s.size
  · rw [decide_eq_false (by omega)] at hN
    have HN : Hid _ := hN
    clear hN
    go_enter Try.func71, Try.ntmps71
    go_wp2
    go_ret
    exact ⟨retB HN.out.symm, rfl⟩
  rw [decide_eq_true (by omega)] at hN
  cases h2 : ltrI s[0].toNat with
  | false =>
    have C := let_at s 0 hp false h2
    rw [h2] at hN
    have HN : Hid _ := hN
    clear hN h2
    go_enter Try.func71, Try.ntmps71
    go_wp2_with fail
    refine (C _).mono ?_
    rintro e w1 ⟨rfl, rfl⟩
    go_wp2
    go_ret
    exact ⟨retB HN.out.symm, rfl⟩
  | true =>
    have C := let_at s 0 hp true h2
    rw [h2, Bool.and_self, Bool.true_and] at hN
    have HN : Hid _ := hN
    clear hN h2
    go_enter Try.func71, Try.ntmps71
    go_wp2_with fail
    refine (C _).mono ?_
    rintro e w1 ⟨rfl, rfl⟩
    clear C
    go_wp2
    go_loop [3] (fun i => ∃ k : Nat, i = .int .i64 k ∧ k ≤ s.size ∧ Hid (goodL (s.data.toList.drop k) = nameOK s)) (fun i => s.size - (intOf i).toNat)
    case atStart => exact ⟨1, rfl, by omega, HN.out.symm⟩
    case round =>
      obtain ⟨k, rfl, hk, HT⟩ := hrel
      by_cases hlt : k < s.size
      · cases h3 : ltrI s[k].toNat with
        | true =>
          have C := let_at s k hlt true h3
          have HG : Hid _ := good_on hlt (show goodI s[k].toNat = true by unfold goodI; rw [h3]; rfl)
          clear h3
          go_wp2_with fail
          refine (C _).mono ?_
          rintro e w1 ⟨rfl, rfl⟩
          go_wp2
          go_round
          case rel => exact ⟨k + 1, by go_num, by omega, by rw [Hid, ← HG.out]; exact HT.out⟩
          case measure => simp [intOf]; omega
        | false =>
          have C := let_at s k hlt false h3
          by_cases h4 : 48 ≤ (s[k].toNat : Int) ∧ (s[k].toNat : Int) ≤ 57
          · have HG : Hid _ := good_on hlt (show goodI s[k].toNat = true by unfold goodI dgtI; rw [decide_eq_true h4]; simp)
            clear h3
            obtain ⟨h5, h6⟩ := h4
            go_wp2_with fail
            refine (C _).mono ?_
            rintro e w1 ⟨rfl, rfl⟩
            go_wp2
            go_round
            case rel => exact ⟨k + 1, by go_num, by omega, by rw [Hid, ← HG.out]; exact HT.out⟩
            case measure => simp [intOf]; omega
          · cases h7 : ((s[k].toNat : Int) == 46) with
            | true =>
              have HG : Hid _ := good_on hlt (show goodI s[k].toNat = true by unfold goodI; rw [h7]; simp)
              clear h3
              have h5 : ¬ 48 ≤ (s[k].toNat : Int) := by
                have : (s[k].toNat : Int) = 46 := by simpa using h7
                omega
              clear h4
              go_wp2_with fail
              refine (C _).mono ?_
              rintro e w1 ⟨rfl, rfl⟩
              go_wp2
              go_round
              case rel => exact ⟨k + 1, by go_num, by omega, by rw [Hid, ← HG.out]; exact HT.out⟩
              case measure => simp [intOf]; omega
            | false =>
              have HG : Hid _ := good_no hlt (show goodI s[k].toNat = false by unfold goodI dgtI; rw [h3, h7, decide_eq_false h4]; rfl)
              clear h3
              by_cases h5 : 48 ≤ (s[k].toNat : Int)
              · have h6 : ¬ (s[k].toNat : Int) ≤ 57 := fun h => h4 ⟨h5, h⟩
                have h8 : decide ((s[k].toNat : Int) ≤ 57) = false := decide_eq_false h6
                clear h4
                go_wp2_with fail
                refine (C _).mono ?_
                rintro e w1 ⟨rfl, rfl⟩
                go_wp2
                go_ret
                exact ⟨retB (by rw [← HT.out, HG.out]), rfl⟩
              · clear h4
                go_wp2_with fail
                refine (C _).mono ?_
                rintro e w1 ⟨rfl, rfl⟩
                go_wp2
                go_ret
                exact ⟨retB (by rw [← HT.out, HG.out]), rfl⟩
      · have HG : Hid _ := good_end (by omega : s.size ≤ k)
        go_wp2
        go_ret
        exact ⟨retB (by rw [← HT.out, HG.out]), rfl⟩





end Go.Proofs.Ytiihfkjgdhfmiaa

namespace Go.Proofs.Ytiihfkjgdhfmiaa
open Go.RowKit

set_option maxRecDepth 100000 in
set_option maxHeartbeats 1000000 in
theorem refsize_any (nm : ByteArray) (dA : Int) (A1 A2 A3 A4 : Option Addr) (nc c1 nd c2 ns c3 nr c4 : Nat) (w : World) (_hd : nd ≤ 1048576) :
    Calls Try.prog 53 #[.agg #[.string nm, .slice A1 nc c1, .int .i64 dA, .slice A2 nd c2, .slice A3 ns c3, .slice A4 nr c4]] w fun e w' => e = .returned (.tuple #[.int .i64 (sizeC (nameOK nm) nc ns nr nd dA).1, .int .i64 (sizeC (nameOK nm) nc ns nr nd dA).2]) ∧ Below w.heap.size w w' := by
  have C := refname_any nm
  generalize nameOK nm = ok at C ⊢
  cases ok with
  | false =>
    have HE : Hid ((sizeC false nc ns nr nd dA) = (20, -1)) := by unfold Hid sizeC; rw [if_pos rfl]
    go_enter Try.func53, Try.ntmps53
    go_wp2_with fail
    refine (C _).mono ?_
    rintro e w1 ⟨rfl, rfl⟩
    go_wp2
    go_ret2
    exact ⟨ret2I HE.out.symm, lb_alloc (Below.refl _ _) _⟩
  | true =>
  by_cases h1 : 16384 < nc
  · have HE : Hid ((sizeC true nc ns nr nd dA) = (21, -1)) := by unfold Hid sizeC; rw [if_neg (by simp), if_pos h1]
    go_enter Try.func53, Try.ntmps53
    go_wp2_with fail
    refine (C _).mono ?_
    rintro e w1 ⟨rfl, rfl⟩
    go_wp2
    go_ret2
    exact ⟨ret2I HE.out.symm, lb_alloc (Below.refl _ _) _⟩
  by_cases h2 : 256 < ns
  · have HE : Hid ((sizeC true nc ns nr nd dA) = (21, -2)) := by unfold Hid sizeC; rw [if_neg (by simp), if_neg h1, if_pos h2]
    go_enter Try.func53, Try.ntmps53
    go_wp2_with fail
    refine (C _).mono ?_
    rintro e w1 ⟨rfl, rfl⟩
    go_wp2
    go_ret2
    exact ⟨ret2I HE.out.symm, lb_alloc (Below.refl _ _) _⟩
  by_cases h3 : nc < nr
  · have HE : Hid ((sizeC true nc ns nr nd dA) = (21, -3)) := by unfold Hid sizeC; rw [if_neg (by simp), if_neg h1, if_neg h2, if_pos h3]
    go_enter Try.func53, Try.ntmps53
    go_wp2_with fail
    refine (C _).mono ?_
    rintro e w1 ⟨rfl, rfl⟩
    go_wp2
    go_ret2
    exact ⟨ret2I HE.out.symm, lb_alloc (Below.refl _ _) _⟩
  by_cases h4 : dA < 0
  · have HE : Hid ((sizeC true nc ns nr nd dA) = (25, -1)) := by unfold Hid sizeC; rw [if_neg (by simp), if_neg h1, if_neg h2, if_neg h3, if_pos (Or.inl h4)]
    go_enter Try.func53, Try.ntmps53
    go_wp2_with fail
    refine (C _).mono ?_
    rintro e w1 ⟨rfl, rfl⟩
    go_wp2
    go_ret2
    exact ⟨ret2I HE.out.symm, lb_alloc (Below.refl _ _) _⟩
  by_cases h5 : 4096 < dA
  · have HE : Hid ((sizeC true nc ns nr nd dA) = (25, -1)) := by unfold Hid sizeC; rw [if_neg (by simp), if_neg h1, if_neg h2, if_neg h3, if_pos (Or.inr (Or.inl h5))]
    go_enter Try.func53, Try.ntmps53
    go_wp2_with fail
    refine (C _).mono ?_
    rintro e w1 ⟨rfl, rfl⟩
    go_wp2
    go_ret2
    exact ⟨ret2I HE.out.symm, lb_alloc (Below.refl _ _) _⟩
  by_cases h6 : 4096 - dA < (nd : Int)
  · have HE : Hid ((sizeC true nc ns nr nd dA) = (25, -1)) := by unfold Hid sizeC; rw [if_neg (by simp), if_neg h1, if_neg h2, if_neg h3, if_pos (Or.inr (Or.inr h6))]
    go_enter Try.func53, Try.ntmps53
    go_wp2_with fail
    refine (C _).mono ?_
    rintro e w1 ⟨rfl, rfl⟩
    go_wp2
    go_ret2
    exact ⟨ret2I HE.out.symm, lb_alloc (Below.refl _ _) _⟩
  · have HE : Hid ((sizeC true nc ns nr nd dA) = (0, 0)) := by unfold Hid sizeC; rw [if_neg (by simp), if_neg h1, if_neg h2, if_neg h3, if_neg (by omega)]
    go_enter Try.func53, Try.ntmps53
    go_wp2_with fail
    refine (C _).mono ?_
    rintro e w1 ⟨rfl, rfl⟩
    go_wp2
    go_ret2
    exact ⟨ret2I HE.out.symm, lb_alloc (Below.refl _ _) _⟩






end Go.Proofs.Ytiihfkjgdhfmiaa
