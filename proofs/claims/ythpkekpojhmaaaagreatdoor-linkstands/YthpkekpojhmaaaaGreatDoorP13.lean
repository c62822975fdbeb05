/-
  The look at an object's relocations, by the document's answer; the lists are at most 2^20 long, the words of 32 bits. Of and At of the document's answer, for every object whose lists are at most 2^20 long. Letters, by the document's answer; no condition but that a byte is one. Name of the document's answer, for every text; no condition. The first three looks at an object, by the document's answer; its data is at most 2^20 long.
-/
import Derived.Test.YthpkekpojhmaaaaGreatDoorProg
import Derived.WalkKit
import Derived.WalkSpells
import Derived.WalkLawsBesides
import Derived.RowKit3
import Derived.Below
import Derived.Deep.QuietTactic
import Derived.BigQuiet
import Derived.WalkSmall
import Derived.Deep.DeepCutAuto
import Derived.Test.YthpkekpojhmaaaaGreatDoorP02
import Derived.Test.YthpkekpojhmaaaaGreatDoorP11
namespace Go.Proofs.YthpkekpojhmaaaaGreatDoor
open Go.RowKit

set_option maxRecDepth 100000 in
set_option maxHeartbeats 2000000 in
theorem refrels_any (nm : ByteArray) (dA : Int) (A1 A2 A3 A : Option Addr) (c1 nd c2 ns c3 c4 : Nat) (code : List Int) (zs : List Rel) (w : World) (hC : IntsAt w A1 .u32 code) (hR : ∀ i, i < code.length → 0 ≤ nth code i ∧ nth code i < 4294967296) (hA : RelsAt w A zs) (hz : zs.length ≤ 1048576) (_hc : code.length ≤ 1048576) :
    Calls Tryz.prog 173 #[.agg #[.string nm, .slice A1 code.length c1, .int .i64 dA, .slice A2 nd c2, .slice A3 ns c3, .slice A zs.length c4]] w fun e w' => e = .returned (.tuple #[.int .i64 (relC zs code ns).1, .int .i64 (relC zs code ns).2]) ∧ Below w.heap.size w w' := by
  go_enter Tryz.func173, Tryz.ntmps173
  go_wp2
  go_loopw [4] (fun i wr => ∃ k : Nat, i = .int .i64 k ∧ k ≤ zs.length ∧ Below (w.alloc (.cells #[.string nm, .slice A1 code.length c1, .int .i64 dA, .slice A2 nd c2, .slice A3 ns c3, .slice A zs.length c4] 75)).heap.size (w.alloc (.cells #[.string nm, .slice A1 code.length c1, .int .i64 dA, .slice A2 nd c2, .slice A3 ns c3, .slice A zs.length c4] 75)) wr ∧ Hid (∀ j, j < k → relE zs code ns j = 0)) (fun i _ => zs.length - (intOf i).toNat)
  case atStart => exact ⟨0, rfl, by omega, Below.refl _ _, fun j hj => by omega⟩
  case round =>
    obtain ⟨k, rfl, hk, hB, HT⟩ := hrel
    rename_i wr _
    have f0 : wr.cell? ⟨w.heap.size, 0, none⟩ = some (.string nm) := lkeep hB (by simp [go_sem])
    have f1 : wr.cell? ⟨w.heap.size, 1, none⟩ = some (.slice A1 code.length c1) := lkeep hB (by simp [go_sem])
    have f2 : wr.cell? ⟨w.heap.size, 2, none⟩ = some (.int .i64 dA) := lkeep hB (by simp [go_sem])
    have f3 : wr.cell? ⟨w.heap.size, 3, none⟩ = some (.slice A2 nd c2) := lkeep hB (by simp [go_sem])
    have f4 : wr.cell? ⟨w.heap.size, 4, none⟩ = some (.slice A3 ns c3) := lkeep hB (by simp [go_sem])
    have f5 : wr.cell? ⟨w.heap.size, 5, none⟩ = some (.slice A zs.length c4) := lkeep hB (by simp [go_sem])
    have HB : Hid (Below w.heap.size w wr) := lb_trans (lb_alloc (Below.refl _ _) _) hB
    have HB0 : Hid (Below (w.alloc (.cells #[.string nm, .slice A1 code.length c1, .int .i64 dA, .slice A2 nd c2, .slice A3 ns c3, .slice A zs.length c4] 75)).heap.size (w.alloc (.cells #[.string nm, .slice A1 code.length c1, .int .i64 dA, .slice A2 nd c2, .slice A3 ns c3, .slice A zs.length c4] 75)) wr) := hB
    clear hB
    by_cases hlt : k < zs.length
    · have HAr : Hid (RelsAt wr A zs) := hA.keep HB.out
      obtain ⟨a, rfl, c0, c1'⟩ := HAr.out k hlt
      have d1 : wr.cell? ⟨(a.add (k * 2)).block, (a.add (k * 2)).off + 1, none⟩ = some (.int .i64 (rSym zs k)) := c1'
      clear c1'
      have g0 : (wr.alloc (.cells #[.int .i64 (rAt zs k), .int .i64 (rSym zs k)] 83)).cell? ⟨w.heap.size, 0, none⟩ = some (.string nm) := lkeep (lb_alloc (Below.refl _ _) _) f0
      have g1 : (wr.alloc (.cells #[.int .i64 (rAt zs k), .int .i64 (rSym zs k)] 83)).cell? ⟨w.heap.size, 1, none⟩ = some (.slice A1 code.length c1) := lkeep (lb_alloc (Below.refl _ _) _) f1
      have g2 : (wr.alloc (.cells #[.int .i64 (rAt zs k), .int .i64 (rSym zs k)] 83)).cell? ⟨w.heap.size, 2, none⟩ = some (.int .i64 dA) := lkeep (lb_alloc (Below.refl _ _) _) f2
      have g3 : (wr.alloc (.cells #[.int .i64 (rAt zs k), .int .i64 (rSym zs k)] 83)).cell? ⟨w.heap.size, 3, none⟩ = some (.slice A2 nd c2) := lkeep (lb_alloc (Below.refl _ _) _) f3
      have g4 : (wr.alloc (.cells #[.int .i64 (rAt zs k), .int .i64 (rSym zs k)] 83)).cell? ⟨w.heap.size, 4, none⟩ = some (.slice A3 ns c3) := lkeep (lb_alloc (Below.refl _ _) _) f4
      have g5 : (wr.alloc (.cells #[.int .i64 (rAt zs k), .int .i64 (rSym zs k)] 83)).cell? ⟨w.heap.size, 5, none⟩ = some (.slice (some a) zs.length c4) := lkeep (lb_alloc (Below.refl _ _) _) f5
      go_upto_region 5 with fail
      go_cut [59] (fun t wx => t = .bool (relBad zs code.length ns k) ∧ ∃ n, wx = (wr.alloc (.cells #[.int .i64 (rAt zs k), .int .i64 (rSym zs k)] 83)).drewN n)
      case first =>
        by_cases h1 : rAt zs k < 0
        · have HX : Hid (relBad zs code.length ns k = true) := decide_eq_true (Or.inl h1)
          go_big_quiet (fail)
          go_wp2
          go_meet
          case rel => exact ⟨by rw [HX.out], _, rfl⟩
        by_cases h2 : (code.length : Int) ≤ rAt zs k
        · have HX : Hid (relBad zs code.length ns k = true) := decide_eq_true (Or.inr (Or.inl h2))
          go_big_quiet (fail)
          go_wp2
          go_meet
          case rel => exact ⟨by rw [HX.out], _, rfl⟩
        by_cases h3 : k = 0
        · subst h3
          by_cases h5 : rSym zs 0 < 0
          · have HX : Hid (relBad zs code.length ns 0 = true) := decide_eq_true (Or.inr (Or.inr (Or.inr (Or.inl h5))))
            go_big_quiet (fail)
            go_wp2
            go_meet
            case rel => exact ⟨by rw [HX.out], _, rfl⟩
          by_cases h6 : (ns : Int) ≤ rSym zs 0
          · have HX : Hid (relBad zs code.length ns 0 = true) := decide_eq_true (Or.inr (Or.inr (Or.inr (Or.inr h6))))
            go_big_quiet (fail)
            go_wp2
            go_meet
            case rel => exact ⟨by rw [HX.out], _, rfl⟩
          · have HX : Hid (relBad zs code.length ns 0 = false) := decide_eq_false (by omega)
            go_big_quiet (fail)
            go_wp2
            go_meet
            case rel => exact ⟨by rw [HX.out], _, rfl⟩
        obtain ⟨j, rfl⟩ : ∃ j, k = j + 1 := ⟨k - 1, by omega⟩
        clear h3
        obtain ⟨a', ea, e0, _⟩ := HAr.out j (by omega)
        obtain rfl : a = a' := Option.some.inj ea
        clear ea
        have e1 : (wr.alloc (.cells #[.int .i64 (rAt zs (j + 1)), .int .i64 (rSym zs (j + 1))] 83)).cell? (a.add (j * 2)) = some (.int .i64 (rAt zs j)) := lkeep (lb_alloc (Below.refl _ _) _) e0
        clear e0
        by_cases h4 : rAt zs (j + 1) ≤ rAt zs j
        · have HX : Hid (relBad zs code.length ns (j + 1) = true) := decide_eq_true (Or.inr (Or.inr (Or.inl ⟨by omega, by simpa using h4⟩)))
          go_big_quiet (fail)
          go_wp2
          go_meet
          case rel => exact ⟨by rw [HX.out], _, rfl⟩
        by_cases h5 : rSym zs (j + 1) < 0
        · have HX : Hid (relBad zs code.length ns (j + 1) = true) := decide_eq_true (Or.inr (Or.inr (Or.inr (Or.inl h5))))
          go_big_quiet (fail)
          go_wp2
          go_meet
          case rel => exact ⟨by rw [HX.out], _, rfl⟩
        by_cases h6 : (ns : Int) ≤ rSym zs (j + 1)
        · have HX : Hid (relBad zs code.length ns (j + 1) = true) := decide_eq_true (Or.inr (Or.inr (Or.inr (Or.inr h6))))
          go_big_quiet (fail)
          go_wp2
          go_meet
          case rel => exact ⟨by rw [HX.out], _, rfl⟩
        · have HX : Hid (relBad zs code.length ns (j + 1) = false) := decide_eq_false (by rw [Nat.add_sub_cancel]; omega)
          go_big_quiet (fail)
          go_wp2
          go_meet
          case rel => exact ⟨by rw [HX.out], _, rfl⟩
      case rest =>
        obtain ⟨rfl, nq, rfl⟩ := hcut
        cases hx : relBad zs code.length ns k with
        | true =>
          have HE : Hid (relE zs code ns k = 24) := by unfold Hid relE; rw [if_pos (of_decide_eq_true hx)]
          clear hx
          go_wp2
          go_ret2
          exact ⟨ret2I (by rw [relC, first_hit hlt HT.out (by rw [HE.out]; omega), HE.out]), below_drewN (lb_alloc HB.out _) _⟩
        | false =>
          have hX := of_decide_eq_false hx
          have h1 : 0 ≤ rAt zs k := by omega
          have h2 : rAt zs k < (code.length : Int) := by omega
          have HX : Hid (¬ _) := hX
          clear hX hx
          have hl : (rAt zs k).toNat < code.length := by omega
          obtain ⟨a1, rfl, q0⟩ := (hC.keep HB.out) (rAt zs k).toNat hl
          have q1 : (wr.alloc (.cells #[.int .i64 (rAt zs k), .int .i64 (rSym zs k)] 83)).cell? (a1.add (rAt zs k).toNat) = some (.int .u32 (nth code (rAt zs k).toNat)) := lkeep (lb_alloc (Below.refl _ _) _) q0
          clear q0
          obtain ⟨v0, v1⟩ := hR _ hl
          have CT := reftarget_any (nth code (rAt zs k).toNat) v0 v1
          have HE1 : Hid (isT (nth code (rAt zs k).toNat) = false ∨ ¬ tgV (nth code (rAt zs k).toNat) = 0 → relE zs code ns k = 24) := fun h => by unfold relE; rw [if_neg HX.out, if_pos h]
          have HE0 : Hid (¬ (isT (nth code (rAt zs k).toNat) = false ∨ ¬ tgV (nth code (rAt zs k).toNat) = 0) → relE zs code ns k = 0) := fun h => by unfold relE; rw [if_neg HX.out, if_neg h]
          generalize nth code (rAt zs k).toNat = v at q1 v0 v1 CT HE1 HE0
          go_wp2_with fail
          refine (CT _).mono ?_
          rintro e w5 ⟨rfl, hb5⟩
          clear CT q1 g0 g1 g2 g3 g4 g5 f0 f1 f2 f3 f4 f5 c0 d1
          have HB5 : Hid (Below w.heap.size w w5) := lb_trans (below_drewN (lb_alloc HB.out _) _) hb5
          have HB6 : Hid (Below (w.alloc (.cells #[.string nm, .slice (some a1) code.length c1, .int .i64 dA, .slice A2 nd c2, .slice A3 ns c3, .slice (some a) zs.length c4] 75)).heap.size (w.alloc (.cells #[.string nm, .slice (some a1) code.length c1, .int .i64 dA, .slice A2 nd c2, .slice A3 ns c3, .slice (some a) zs.length c4] 75)) w5) := lb_trans (below_drewN (lb_alloc HB0.out _) _) hb5
          clear hb5
          cases hT : isT v with
          | false =>
            have HE : Hid (relE zs code ns k = 24) := HE1.out (Or.inl hT)
            clear hT
            go_wp2
            go_ret2
            exact ⟨ret2I (by rw [relC, first_hit hlt HT.out (by rw [HE.out]; omega), HE.out]), HB5.out⟩
          | true =>
          cases hV : (tgV v == 0) with
          | false =>
            have HE : Hid (relE zs code ns k = 24) := HE1.out (Or.inr (by simpa using hV))
            have hV' : (tgV v != 0) = true := by simpa using hV
            clear hT
            go_wp2
            go_ret2
            exact ⟨ret2I (by rw [relC, first_hit hlt HT.out (by rw [HE.out]; omega), HE.out]), HB5.out⟩
          | true =>
            have HE : Hid (relE zs code ns k = 0) := HE0.out (by rw [hT]; simp; simpa using hV)
            have hV' : (tgV v != 0) = false := by simpa using hV
            clear hT
            go_wp2
            go_roundw
            case rel => exact ⟨k + 1, by go_num, by omega, HB6.out, fun j hj => by
              by_cases hjk : j = k
              · rw [hjk]; exact HE.out
              · exact HT.out j (by omega)⟩
            case measure => simp [intOf]; omega
    · have HC : Hid (relC zs code ns = (0, 0)) := first_none fun j hj => HT.out j (by omega)
      go_wp2
      go_ret2
      exact ⟨ret2I (by rw [HC.out]), HB.out⟩







end Go.Proofs.YthpkekpojhmaaaaGreatDoor

namespace Go.Proofs.YthpkekpojhmaaaaGreatDoor
open Go.RowKit

set_option maxRecDepth 100000 in
set_option maxHeartbeats 1000000 in
theorem refof_any (nm : ByteArray) (dA : Int) (A1 A2 A4 A : Option Addr) (n1 c1 n2 c2 n4 c4 cp : Nat) (zs : List Sym) (s : ByteArray) (w : World) (hA : SymsAt w A zs) (hz : zs.length ≤ 1048576) :
    Calls Tryz.prog 181 #[.agg #[.string nm, .slice A1 n1 c1, .int .i64 dA, .slice A2 n2 c2, .slice A zs.length cp, .slice A4 n4 c4], .string s] w fun e w' => e = .returned (.int .i64 (ofS zs s)) ∧ Below w.heap.size w w' := by
  have hB : SymsAt (w.alloc (.cells #[.string nm, .slice A1 n1 c1, .int .i64 dA, .slice A2 n2 c2, .slice A zs.length cp, .slice A4 n4 c4] 75)) A zs := hA.keep (lb_alloc (Below.refl _ _) _)
  clear hA
  go_enter Tryz.func181, Tryz.ntmps181
  go_wp2
  go_loop [5] (fun i => ∃ k : Nat, i = .int .i64 k ∧ k ≤ zs.length ∧ Hid (ofFrom (zs.drop k) s k = ofS zs s)) (fun i => zs.length - (intOf i).toNat)
  case atStart => exact ⟨0, rfl, by omega, rfl⟩
  case round =>
    obtain ⟨k, rfl, hk, HT⟩ := hrel
    by_cases hlt : k < zs.length
    · obtain ⟨a, rfl, c0, _⟩ := hB k hlt
      cases he : ((sName zs k).toList == s.toList)
      · have HE : Hid _ := of_miss hlt he
        go_wp2
        go_round
        case rel => exact ⟨k + 1, by go_num, by omega, by rw [Hid, ← HE.out]; exact HT.out⟩
        case measure => simp [intOf]; omega
      · have HE : Hid _ := of_hit hlt he
        go_wp2
        go_ret
        exact ⟨retI (by rw [← HT.out, HE.out]), lb_alloc (Below.refl _ _) _⟩
    · have HE : Hid _ := of_end (s := s) (by omega : zs.length ≤ k)
      go_wp2
      go_ret
      exact ⟨retI (by rw [← HT.out, HE.out]), lb_alloc (Below.refl _ _) _⟩






end Go.Proofs.YthpkekpojhmaaaaGreatDoor

namespace Go.Proofs.YthpkekpojhmaaaaGreatDoor
open Go.RowKit

theorem letter_any (b : Int) (h0 : 0 ≤ b) (h1 : b ≤ 255) (w : World) : Calls Tryz.prog 183 #[.int .u8 b] w fun e w' => e = .returned (.bool (ltrI b)) ∧ w' = w := by
  by_cases h1 : 97 ≤ b
  · by_cases h2 : b ≤ 122
    · rw [show ltrI b = true from decide_eq_true (by omega)]
      go_enter Tryz.func183, Tryz.ntmps183
      go_wp2
      go_ret
      exact ⟨by first | rfl | (simp [*]; done), rfl⟩
    · rw [show ltrI b = false from decide_eq_false (by omega)]
      have h3 : 65 ≤ b := by omega
      have h4 : ¬ b ≤ 90 := by omega
      have h5 : (b == 95) = false := by simp; omega
      go_enter Tryz.func183, Tryz.ntmps183
      go_wp2
      go_ret
      exact ⟨by first | rfl | (simp [*]; done), rfl⟩
  · by_cases h3 : 65 ≤ b
    · by_cases h4 : b ≤ 90
      · rw [show ltrI b = true from decide_eq_true (by omega)]
        go_enter Tryz.func183, Tryz.ntmps183
        go_wp2
        go_ret
        exact ⟨by first | rfl | (simp [*]; done), rfl⟩
      · by_cases h5 : b = 95
        · rw [show ltrI b = true from decide_eq_true (by omega)]
          have h6 : (b == 95) = true := by simpa using h5
          clear h5
          go_enter Tryz.func183, Tryz.ntmps183
          go_wp2
          go_ret
          exact ⟨by first | rfl | (simp [*]; done), rfl⟩
        · rw [show ltrI b = false from decide_eq_false (by omega)]
          have h6 : (b == 95) = false := by simpa using h5
          go_enter Tryz.func183, Tryz.ntmps183
          go_wp2
          go_ret
          exact ⟨by first | rfl | (simp [*]; done), rfl⟩
    · rw [show ltrI b = false from decide_eq_false (by omega)]
      have h6 : (b == 95) = false := by simp; omega
      go_enter Tryz.func183, Tryz.ntmps183
      go_wp2
      go_ret
      exact ⟨by first | rfl | (simp [*]; done), rfl⟩
theorem let_at (s : ByteArray) (k : Nat) (h : k < s.size) (x : Bool) (e : ltrI s[k].toNat = x) (w : World) : Calls Tryz.prog 183 #[.int .u8 s[k].toNat] w fun e w' => e = .returned (.bool x) ∧ w' = w := by
  have := letter_any s[k].toNat (by omega) (by have := s[k].toNat_lt; omega) w
  rw [e] at this; exact this
set_option maxRecDepth 100000 in
set_option maxHeartbeats 1000000 in
theorem refname_any (s : ByteArray) (w : World) : Calls Tryz.prog 180 #[.string s] w fun e w' => e = .returned (.bool (nameOK s)) ∧ w' = w := by
  by_cases h0 : s.size = 0
  · have HN : Hid (nameOK s = false) := name_nil s h0
    have h0' : ((s.size : Int) == 0) = true := by simpa using h0
    clear h0
    go_enter Tryz.func180, Tryz.ntmps180
    go_wp2
    go_ret
    exact ⟨retB HN.out.symm, rfl⟩
  have hp : 0 < s.size := by omega
  have h0' : ((s.size : Int) == 0) = false := by simpa using h0
  have hN := name_cons s hp
  clear h0
  by_cases h1 : 24 < s.size
  · rw [decide_eq_false (by omega)] at hN
    have HN : Hid _ := hN
    clear hN
    go_enter Tryz.func180, Tryz.ntmps180
    go_wp2
    go_ret
    exact ⟨retB HN.out.symm, rfl⟩
  rw [decide_eq_true (by omega)] at hN
  cases h2 : ltrI s[0].toNat with
  | false =>
    have C := let_at s 0 hp false h2
    rw [h2] at hN
    have HN : Hid _ := hN
    clear hN h2
    go_enter Tryz.func180, Tryz.ntmps180
    go_wp2_with fail
    refine (C _).mono ?_
    rintro e w1 ⟨rfl, rfl⟩
    go_wp2
    go_ret
    exact ⟨retB HN.out.symm, rfl⟩
  | true =>
    have C := let_at s 0 hp true h2
    rw [h2, Bool.and_self, Bool.true_and] at hN
    have HN : Hid _ := hN
    clear hN h2
    go_enter Tryz.func180, Tryz.ntmps180
    go_wp2_with fail
    refine (C _).mono ?_
    rintro e w1 ⟨rfl, rfl⟩
    clear C
    go_wp2
    go_loop [3] (fun i => ∃ k : Nat, i = .int .i64 k ∧ k ≤ s.size ∧ Hid (goodL (s.data.toList.drop k) = nameOK s)) (fun i => s.size - (intOf i).toNat)
    case atStart => exact ⟨1, rfl, by omega, HN.out.symm⟩
    case round =>
      obtain ⟨k, rfl, hk, HT⟩ := hrel
      by_cases hlt : k < s.size
      · cases h3 : ltrI s[k].toNat with
        | true =>
          have C := let_at s k hlt true h3
          have HG : Hid _ := good_on hlt (show goodI s[k].toNat = true by unfold goodI; rw [h3]; rfl)
          clear h3
          go_wp2_with fail
          refine (C _).mono ?_
          rintro e w1 ⟨rfl, rfl⟩
          go_wp2
          go_round
          case rel => exact ⟨k + 1, by go_num, by omega, by rw [Hid, ← HG.out]; exact HT.out⟩
          case measure => simp [intOf]; omega
        | false =>
          have C := let_at s k hlt false h3
          by_cases h4 : 48 ≤ (s[k].toNat : Int) ∧ (s[k].toNat : Int) ≤ 57
          · have HG : Hid _ := good_on hlt (show goodI s[k].toNat = true by unfold goodI dgtI; rw [decide_eq_true h4]; simp)
            clear h3
            obtain ⟨h5, h6⟩ := h4
            go_wp2_with fail
            refine (C _).mono ?_
            rintro e w1 ⟨rfl, rfl⟩
            go_wp2
            go_round
            case rel => exact ⟨k + 1, by go_num, by omega, by rw [Hid, ← HG.out]; exact HT.out⟩
            case measure => simp [intOf]; omega
          · cases h7 : ((s[k].toNat : Int) == 46) with
            | true =>
              have HG : Hid _ := good_on hlt (show goodI s[k].toNat = true by unfold goodI; rw [h7]; simp)
              clear h3
              have h5 : ¬ 48 ≤ (s[k].toNat : Int) := by
                have : (s[k].toNat : Int) = 46 := by simpa using h7
                omega
              clear h4
              go_wp2_with fail
              refine (C _).mono ?_
              rintro e w1 ⟨rfl, rfl⟩
              go_wp2
              go_round
              case rel => exact ⟨k + 1, by go_num, by omega, by rw [Hid, ← HG.out]; exact HT.out⟩
              case measure => simp [intOf]; omega
            | false =>
              have HG : Hid _ := good_no hlt (show goodI s[k].toNat = false by unfold goodI dgtI; rw [h3, h7, decide_eq_false h4]; rfl)
              clear h3
              by_cases h5 : 48 ≤ (s[k].toNat : Int)
              · have h6 : ¬ (s[k].toNat : Int) ≤ 57 := fun h => h4 ⟨h5, h⟩
                have h8 : decide ((s[k].toNat : Int) ≤ 57) = false := decide_eq_false h6
                clear h4
                go_wp2_with fail
                refine (C _).mono ?_
                rintro e w1 ⟨rfl, rfl⟩
                go_wp2
                go_ret
                exact ⟨retB (by rw [← HT.out, HG.out]), rfl⟩
              · clear h4
                go_wp2_with fail
                refine (C _).mono ?_
                rintro e w1 ⟨rfl, rfl⟩
                go_wp2
                go_ret
                exact ⟨retB (by rw [← HT.out, HG.out]), rfl⟩
      · have HG : Hid _ := good_end (by omega : s.size ≤ k)
        go_wp2
        go_ret
        exact ⟨retB (by rw [← HT.out, HG.out]), rfl⟩






end Go.Proofs.YthpkekpojhmaaaaGreatDoor

namespace Go.Proofs.YthpkekpojhmaaaaGreatDoor
open Go.RowKit

set_option maxRecDepth 100000 in
set_option maxHeartbeats 1000000 in
theorem refsize_any (nm : ByteArray) (dA : Int) (A1 A2 A3 A4 : Option Addr) (nc c1 nd c2 ns c3 nr c4 : Nat) (w : World) (_hd : nd ≤ 1048576) :
    Calls Tryz.prog 171 #[.agg #[.string nm, .slice A1 nc c1, .int .i64 dA, .slice A2 nd c2, .slice A3 ns c3, .slice A4 nr c4]] w fun e w' => e = .returned (.tuple #[.int .i64 (sizeC (nameOK nm) nc ns nr nd dA).1, .int .i64 (sizeC (nameOK nm) nc ns nr nd dA).2]) ∧ Below w.heap.size w w' := by
  have C := refname_any nm
  generalize nameOK nm = ok at C ⊢
  cases ok with
  | false =>
    have HE : Hid ((sizeC false nc ns nr nd dA) = (20, -1)) := by unfold Hid sizeC; rw [if_pos rfl]
    go_enter Tryz.func171, Tryz.ntmps171
    go_wp2_with fail
    refine (C _).mono ?_
    rintro e w1 ⟨rfl, rfl⟩
    go_wp2
    go_ret2
    exact ⟨ret2I HE.out.symm, lb_alloc (Below.refl _ _) _⟩
  | true =>
  by_cases h1 : 16384 < nc
  · have HE : Hid ((sizeC true nc ns nr nd dA) = (21, -1)) := by unfold Hid sizeC; rw [if_neg (by simp), if_pos h1]
    go_enter Tryz.func171, Tryz.ntmps171
    go_wp2_with fail
    refine (C _).mono ?_
    rintro e w1 ⟨rfl, rfl⟩
    go_wp2
    go_ret2
    exact ⟨ret2I HE.out.symm, lb_alloc (Below.refl _ _) _⟩
  by_cases h2 : 256 < ns
  · have HE : Hid ((sizeC true nc ns nr nd dA) = (21, -2)) := by unfold Hid sizeC; rw [if_neg (by simp), if_neg h1, if_pos h2]
    go_enter Tryz.func171, Tryz.ntmps171
    go_wp2_with fail
    refine (C _).mono ?_
    rintro e w1 ⟨rfl, rfl⟩
    go_wp2
    go_ret2
    exact ⟨ret2I HE.out.symm, lb_alloc (Below.refl _ _) _⟩
  by_cases h3 : nc < nr
  · have HE : Hid ((sizeC true nc ns nr nd dA) = (21, -3)) := by unfold Hid sizeC; rw [if_neg (by simp), if_neg h1, if_neg h2, if_pos h3]
    go_enter Tryz.func171, Tryz.ntmps171
    go_wp2_with fail
    refine (C _).mono ?_
    rintro e w1 ⟨rfl, rfl⟩
    go_wp2
    go_ret2
    exact ⟨ret2I HE.out.symm, lb_alloc (Below.refl _ _) _⟩
  by_cases h4 : dA < 0
  · have HE : Hid ((sizeC true nc ns nr nd dA) = (25, -1)) := by unfold Hid sizeC; rw [if_neg (by simp), if_neg h1, if_neg h2, if_neg h3, if_pos (Or.inl h4)]
    go_enter Tryz.func171, Tryz.ntmps171
    go_wp2_with fail
    refine (C _).mono ?_
    rintro e w1 ⟨rfl, rfl⟩
    go_wp2
    go_ret2
    exact ⟨ret2I HE.out.symm, lb_alloc (Below.refl _ _) _⟩
  by_cases h5 : 4096 < dA
  · have HE : Hid ((sizeC true nc ns nr nd dA) = (25, -1)) := by unfold Hid sizeC; rw [if_neg (by simp), if_neg h1, if_neg h2, if_neg h3, if_pos (Or.inr (Or.inl h5))]
    go_enter Tryz.func171, Tryz.ntmps171
    go_wp2_with fail
    refine (C _).mono ?_
    rintro e w1 ⟨rfl, rfl⟩
    go_wp2
    go_ret2
    exact ⟨ret2I HE.out.symm, lb_alloc (Below.refl _ _) _⟩
  by_cases h6 : 4096 - dA < (nd : Int)
  · have HE : Hid ((sizeC true nc ns nr nd dA) = (25, -1)) := by unfold Hid sizeC; rw [if_neg (by simp), if_neg h1, if_neg h2, if_neg h3, if_pos (Or.inr (Or.inr h6))]
    go_enter Tryz.func171, Tryz.ntmps171
    go_wp2_with fail
    refine (C _).mono ?_
    rintro e w1 ⟨rfl, rfl⟩
    go_wp2
    go_ret2
    exact ⟨ret2I HE.out.symm, lb_alloc (Below.refl _ _) _⟩
  · have HE : Hid ((sizeC true nc ns nr nd dA) = (0, 0)) := by unfold Hid sizeC; rw [if_neg (by simp), if_neg h1, if_neg h2, if_neg h3, if_neg (by omega)]
    go_enter Tryz.func171, Tryz.ntmps171
    go_wp2_with fail
    refine (C _).mono ?_
    rintro e w1 ⟨rfl, rfl⟩
    go_wp2
    go_ret2
    exact ⟨ret2I HE.out.symm, lb_alloc (Below.refl _ _) _⟩







end Go.Proofs.YthpkekpojhmaaaaGreatDoor
