/-
  Ends, Falls, Target and Aim of the document's answer, for every word of 32 bits; no other condition. The look at an object's relocations, by the document's answer; the lists are at most 2^20 long, the words of 32 bits. Check of the document's answer: what is wrong with an object first; its lists are at most 2^20 long, its words of 32 bits.
-/
import Derived.Test.YtiihfkjgdhfmiaaSR12
import Derived.Test.YtiihfkjgdhfmiaaSR02
import Derived.Test.YtiihfkjgdhfmiaaProg
import Derived.WalkKit
import Derived.WalkSpells
import Derived.WalkLawsBesides
import Derived.RowKit3
import Derived.Below
import Derived.Deep.QuietTactic
import Derived.BigQuiet
import Derived.WalkSmall
import Derived.Deep.DeepCutAuto
import Derived.Test.YtiihfkjgdhfmiaaSR11
namespace Go.Proofs.Ytiihfkjgdhfmiaa
open Go.RowKit

@[go_sem] theorem field_ins0 (x d a b n : Int) (w : World) : (Instr.field 111 (.agg #[.int .i8 x, .int .i8 d, .int .i8 a, .int .i8 b, .int .i64 n]) 0).run Try.prog w = .ok (.int .i8 x) w := by kernel_rfl
@[go_sem] theorem field_has4 (x d a b n : Bool) (w : World) : (Instr.field 114 (.agg #[.bool x, .bool d, .bool a, .bool b, .bool n]) 4).run Try.prog w = .ok (.bool n) w := by kernel_rfl
theorem reftarget_any (v : Int) (h0 : 0 ≤ v) (h1 : v < 4294967296) (w : World) : Calls Try.prog 56 #[.int .u32 v] w fun e w' => e = .returned (.tuple #[.int .i64 (tgV v), .bool (isT v)]) ∧ Below w.heap.size w w' := by
  have CE : ∀ wx : World, Calls Try.prog 73 #[.int .u32 v] wx fun e w' => e = .returned (.agg #[.int .i8 (dOp v), .int .i8 (dD v), .int .i8 (dA v), .int .i8 (dB v), .int .i64 (dN v)]) ∧ Below wx.heap.size wx w' := fun wx => refdecode_any v h0 h1 wx
  unfold tgV isT
  generalize dOp v = x at CE ⊢
  generalize dN v = n at CE ⊢
  by_cases hx : x < 0
  · have e : decide (0 ≤ x) = false := decide_eq_false (by omega)
    rw [e]
    go_enter Try.func56, Try.ntmps56
    go_wp2_with (go_at_call 73; refine (CE _).mono ?_; rintro e w1 ⟨rfl, hb⟩)
    go_ret2
    exact ⟨rfl, bel_alloc hb _⟩
  · have e : decide (0 ≤ x) = true := decide_eq_true (by omega)
    rw [e]
    clear e
    cases hp : hP x
    · go_enter Try.func56, Try.ntmps56
      go_wp2_with (first | (go_at_call 73; refine (CE _).mono ?_; rintro e w1 ⟨rfl, hb⟩) | (go_at_call 74; refine (refhas_any _ _).mono ?_; rintro e w2 ⟨rfl, rfl⟩))
      go_ret2
      exact ⟨rfl, bel_alloc (bel_alloc hb _) _⟩
    · go_enter Try.func56, Try.ntmps56
      go_wp2_with (first | (go_at_call 73; refine (CE _).mono ?_; rintro e w1 ⟨rfl, hb⟩) | (go_at_call 74; refine (refhas_any _ _).mono ?_; rintro e w2 ⟨rfl, rfl⟩))
      go_ret2
      exact ⟨rfl, bel_alloc (bel_alloc hb _) _⟩






end Go.Proofs.Ytiihfkjgdhfmiaa

namespace Go.Proofs.Ytiihfkjgdhfmiaa
open Go.RowKit

set_option maxRecDepth 100000 in
set_option maxHeartbeats 2000000 in
theorem refrels_any (nm : ByteArray) (dA : Int) (A1 A2 A3 A : Option Addr) (c1 nd c2 ns c3 c4 : Nat) (code : List Int) (zs : List Rel) (w : World) (hC : IntsAt w A1 .u32 code) (hR : ∀ i, i < code.length → 0 ≤ nth code i ∧ nth code i < 4294967296) (hA : RelsAt w A zs) (hz : zs.length ≤ 1048576) (_hc : code.length ≤ 1048576) :
    Calls Try.prog 55 #[.agg #[.string nm, .slice A1 code.length c1, .int .i64 dA, .slice A2 nd c2, .slice A3 ns c3, .slice A zs.length c4]] w fun e w' => e = .returned (.tuple #[.int .i64 (relC zs code ns).1, .int .i64 (relC zs code ns).2]) ∧ Below w.heap.size w w' := by
  go_enter Try.func55, Try.ntmps55
  go_wp2
  go_loopw [4] (fun i wr => ∃ k : Nat, i = .int .i64 k ∧ k ≤ zs.length ∧ Below (w.alloc (.cells #[.string nm, .slice A1 code.length c1, .int .i64 dA, .slice A2 nd c2, .slice A3 ns c3, .slice A zs.length c4] 49)).heap.size (w.alloc (.cells #[.string nm, .slice A1 code.length c1, .int .i64 dA, .slice A2 nd c2, .slice A3 ns c3, .slice A zs.length c4] 49)) wr ∧ Hid (∀ j, j < k → relE zs code ns j = 0)) (fun i _ => zs.length - (intOf i).toNat)
  case atStart => exact ⟨0, rfl, by omega, Below.refl _ _, fun j hj => by omega⟩
  case round =>
    obtain ⟨k, rfl, hk, hB, HT⟩ := hrel
    rename_i wr _
    have f0 : wr.cell? ⟨w.heap.size, 0, none⟩ = some (.string nm) := lkeep hB (by simp [go_sem])
    have f1 : wr.cell? ⟨w.heap.size, 1, none⟩ = some (.slice A1 code.length c1) := lkeep hB (by simp [go_sem])
    have f2 : wr.cell? ⟨w.heap.size, 2, none⟩ = some (.int .i64 dA) := lkeep hB (by simp [go_sem])
    have f3 : wr.cell? ⟨w.heap.size, 3, none⟩ = some (.slice A2 nd c2) := lkeep hB (by simp [go_sem])
    have f4 : wr.cell? ⟨w.heap.size, 4, none⟩ = some (.slice A3 ns c3) := lkeep hB (by simp [go_sem])
    have f5 : wr.cell? ⟨w.heap.size, 5, none⟩ = some (.slice A zs.length c4) := lkeep hB (by simp [go_sem])
    have HB : Hid (Below w.heap.size w wr) := lb_trans (lb_alloc (Below.refl _ _) _) hB
    have HB0 : Hid (Below (w.alloc (.cells #[.string nm, .slice A1 code.length c1, .int .i64 dA, .slice A2 nd c2, .slice A3 ns c3, .slice A zs.length c4] 49)).heap.size (w.alloc (.cells #[.string nm, .slice A1 code.length c1, .int .i64 dA, .slice A2 nd c2, .slice A3 ns c3, .slice A zs.length c4] 49)) wr) := hB
    clear hB
    by_cases hlt : k < zs.length
    · have HAr : Hid (RelsAt wr A zs) := hA.keep HB.out
      obtain ⟨a, rfl, c0, c1'⟩ := HAr.out k hlt
      have d1 : wr.cell? ⟨(a.add (k * 2)).block, (a.add (k * 2)).off + 1, none⟩ = some (.int .i64 (rSym zs k)) := c1'
      clear c1'
      have g0 : (wr.alloc (.cells #[.int .i64 (rAt zs k), .int .i64 (rSym zs k)] 96)).cell? ⟨w.heap.size, 0, none⟩ = some (.string nm) := lkeep (lb_alloc (Below.refl _ _) _) f0
      have g1 : (wr.alloc (.cells #[.int .i64 (rAt zs k), .int .i64 (rSym zs k)] 96)).cell? ⟨w.heap.size, 1, none⟩ = some (.slice A1 code.length c1) := lkeep (lb_alloc (Below.refl _ _) _) f1
      have g2 : (wr.alloc (.cells #[.int .i64 (rAt zs k), .int .i64 (rSym zs k)] 96)).cell? ⟨w.heap.size, 2, none⟩ = some (.int .i64 dA) := lkeep (lb_alloc (Below.refl _ _) _) f2
      have g3 : (wr.alloc (.cells #[.int .i64 (rAt zs k), .int .i64 (rSym zs k)] 96)).cell? ⟨w.heap.size, 3, none⟩ = some (.slice A2 nd c2) := lkeep (lb_alloc (Below.refl _ _) _) f3
      have g4 : (wr.alloc (.cells #[.int .i64 (rAt zs k), .int .i64 (rSym zs k)] 96)).cell? ⟨w.heap.size, 4, none⟩ = some (.slice A3 ns c3) := lkeep (lb_alloc (Below.refl _ _) _) f4
      have g5 : (wr.alloc (.cells #[.int .i64 (rAt zs k), .int .i64 (rSym zs k)] 96)).cell? ⟨w.heap.size, 5, none⟩ = some (.slice (some a) zs.length c4) := lkeep (lb_alloc (Below.refl _ _) _) f5
      go_upto_region 5 with fail
      go_cut [59] (fun t wx => t = .bool (relBad zs code.length ns k) ∧ ∃ n, wx = (wr.alloc (.cells #[.int .i64 (rAt zs k), .int .i64 (rSym zs k)] 96)).drewN n)
      case first =>
        by_cases h1 : rAt zs k < 0
        · have HX : Hid (relBad zs code.length ns k = true) := decide_eq_true (Or.inl h1)
          go_big_quiet (fail)
          go_wp2
          go_meet
          case rel => exact ⟨by rw [HX.out], _, rfl⟩
        by_cases h2 : (code.length : Int) ≤ rAt zs k
        · have HX : Hid (relBad zs code.length ns k = true) := decide_eq_true (Or.inr (Or.inl h2))
          go_big_quiet (fail)
          go_wp2
          go_meet
          case rel => exact ⟨by rw [HX.out], _, rfl⟩
        by_cases h3 : k = 0
        · subst h3
          by_cases h5 : rSym zs 0 < 0
          · have HX : Hid (relBad zs code.length ns 0 = true) := decide_eq_true (Or.inr (Or.inr (Or.inr (Or.inl h5))))
            go_big_quiet (fail)
            go_wp2
            go_meet
            case rel => exact ⟨by rw [HX.out], _, rfl⟩
          by_cases h6 : (ns : Int) ≤ rSym zs 0
          · have HX : Hid (relBad zs code.length ns 0 = true) := decide_eq_true (Or.inr (Or.inr (Or.inr (Or.inr h6))))
            go_big_quiet (fail)
            go_wp2
            go_meet
            case rel => exact ⟨by rw [HX.out], _, rfl⟩
          · have HX : Hid (relBad zs code.length ns 0 = false) := decide_eq_false (by omega)
            go_big_quiet (fail)
            go_wp2
            go_meet
            case rel => exact ⟨by rw [HX.out], _, rfl⟩
        obtain ⟨j, rfl⟩ : ∃ j, k = j + 1 := ⟨k - 1, by omega⟩
        clear h3
        obtain ⟨a', ea, e0, _⟩ := HAr.out j (by omega)
        obtain rfl : a = a' := Option.some.inj ea
        clear ea
        have e1 : (wr.alloc (.cells #[.int .i64 (rAt zs (j + 1)), .int .i64 (rSym zs (j + 1))] 96)).cell? (a.add (j * 2)) = some (.int .i64 (rAt zs j)) := lkeep (lb_alloc (Below.refl _ _) _) e0
        clear e0
        by_cases h4 : rAt zs (j + 1) ≤ rAt zs j
        · have HX : Hid (relBad zs code.length ns (j + 1) = true) := decide_eq_true (Or.inr (Or.inr (Or.inl ⟨by omega, by simpa using h4⟩)))
          go_big_quiet (fail)
          go_wp2
          go_meet
          case rel => exact ⟨by rw [HX.out], _, rfl⟩
        by_cases h5 : rSym zs (j + 1) < 0
        · have HX : Hid (relBad zs code.length ns (j + 1) = true) := decide_eq_true (Or.inr (Or.inr (Or.inr (Or.inl h5))))
          go_big_quiet (fail)
          go_wp2
          go_meet
          case rel => exact ⟨by rw [HX.out], _, rfl⟩
        by_cases h6 : (ns : Int) ≤ rSym zs (j + 1)
        · have HX : Hid (relBad zs code.length ns (j + 1) = true) := decide_eq_true (Or.inr (Or.inr (Or.inr (Or.inr h6))))
          go_big_quiet (fail)
          go_wp2
          go_meet
          case rel => exact ⟨by rw [HX.out], _, rfl⟩
        · have HX : Hid (relBad zs code.length ns (j + 1) = false) := decide_eq_false (by rw [Nat.add_sub_cancel]; omega)
          go_big_quiet (fail)
          go_wp2
          go_meet
          case rel => exact ⟨by rw [HX.out], _, rfl⟩
      case rest =>
        obtain ⟨rfl, nq, rfl⟩ := hcut
        cases hx : relBad zs code.length ns k with
        | true =>
          have HE : Hid (relE zs code ns k = 24) := by unfold Hid relE; rw [if_pos (of_decide_eq_true hx)]
          clear hx
          go_wp2
          go_ret2
          exact ⟨ret2I (by rw [relC, first_hit hlt HT.out (by rw [HE.out]; omega), HE.out]), below_drewN (lb_alloc HB.out _) _⟩
        | false =>
          have hX := of_decide_eq_false hx
          have h1 : 0 ≤ rAt zs k := by omega
          have h2 : rAt zs k < (code.length : Int) := by omega
          have HX : Hid (¬ _) := hX
          clear hX hx
          have hl : (rAt zs k).toNat < code.length := by omega
          obtain ⟨a1, rfl, q0⟩ := (hC.keep HB.out) (rAt zs k).toNat hl
          have q1 : (wr.alloc (.cells #[.int .i64 (rAt zs k), .int .i64 (rSym zs k)] 96)).cell? (a1.add (rAt zs k).toNat) = some (.int .u32 (nth code (rAt zs k).toNat)) := lkeep (lb_alloc (Below.refl _ _) _) q0
          clear q0
          obtain ⟨v0, v1⟩ := hR _ hl
          have CT := reftarget_any (nth code (rAt zs k).toNat) v0 v1
          have HE1 : Hid (isT (nth code (rAt zs k).toNat) = false ∨ ¬ tgV (nth code (rAt zs k).toNat) = 0 → relE zs code ns k = 24) := fun h => by unfold relE; rw [if_neg HX.out, if_pos h]
          have HE0 : Hid (¬ (isT (nth code (rAt zs k).toNat) = false ∨ ¬ tgV (nth code (rAt zs k).toNat) = 0) → relE zs code ns k = 0) := fun h => by unfold relE; rw [if_neg HX.out, if_neg h]
          generalize nth code (rAt zs k).toNat = v at q1 v0 v1 CT HE1 HE0
          go_wp2_with fail
          refine (CT _).mono ?_
          rintro e w5 ⟨rfl, hb5⟩
          clear CT q1 g0 g1 g2 g3 g4 g5 f0 f1 f2 f3 f4 f5 c0 d1
          have HB5 : Hid (Below w.heap.size w w5) := lb_trans (below_drewN (lb_alloc HB.out _) _) hb5
          have HB6 : Hid (Below (w.alloc (.cells #[.string nm, .slice (some a1) code.length c1, .int .i64 dA, .slice A2 nd c2, .slice A3 ns c3, .slice (some a) zs.length c4] 49)).heap.size (w.alloc (.cells #[.string nm, .slice (some a1) code.length c1, .int .i64 dA, .slice A2 nd c2, .slice A3 ns c3, .slice (some a) zs.length c4] 49)) w5) := lb_trans (below_drewN (lb_alloc HB0.out _) _) hb5
          clear hb5
          cases hT : isT v with
          | false =>
            have HE : Hid (relE zs code ns k = 24) := HE1.out (Or.inl hT)
            clear hT
            go_wp2
            go_ret2
            exact ⟨ret2I (by rw [relC, first_hit hlt HT.out (by rw [HE.out]; omega), HE.out]), HB5.out⟩
          | true =>
          cases hV : (tgV v == 0) with
          | false =>
            have HE : Hid (relE zs code ns k = 24) := HE1.out (Or.inr (by simpa using hV))
            have hV' : (tgV v != 0) = true := by simpa using hV
            clear hT
            go_wp2
            go_ret2
            exact ⟨ret2I (by rw [relC, first_hit hlt HT.out (by rw [HE.out]; omega), HE.out]), HB5.out⟩
          | true =>
            have HE : Hid (relE zs code ns k = 0) := HE0.out (by rw [hT]; simp; simpa using hV)
            have hV' : (tgV v != 0) = false := by simpa using hV
            clear hT
            go_wp2
            go_roundw
            case rel => exact ⟨k + 1, by go_num, by omega, HB6.out, fun j hj => by
              by_cases hjk : j = k
              · rw [hjk]; exact HE.out
              · exact HT.out j (by omega)⟩
            case measure => simp [intOf]; omega
    · have HC : Hid (relC zs code ns = (0, 0)) := first_none fun j hj => HT.out j (by omega)
      go_wp2
      go_ret2
      exact ⟨ret2I (by rw [HC.out]), HB.out⟩






end Go.Proofs.Ytiihfkjgdhfmiaa

namespace Go.Proofs.Ytiihfkjgdhfmiaa
open Go.RowKit

theorem cod_hit {code : List Int} {k : Nat} (hk : k < code.length) (h : ∀ j, j < k → codE code j = 0) (e : codE code k = 22) : codC code = (22, -1 - (k : Int)) := by
  unfold codC
  rw [first_hit hk h (by rw [e]; omega), e, if_neg (by simp)]
theorem cod_none {code : List Int} (h : ∀ j, j < code.length → codE code j = 0) : codC code = (0, 0) := by
  unfold codC
  rw [first_none h]; rfl
set_option maxRecDepth 100000 in
set_option maxHeartbeats 2000000 in
theorem check1 (nm : ByteArray) (dA : Int) (A1 A2 A3 A4 : Option Addr) (c1 nd c2 c3 c4 : Nat) (code : List Int) (ss : List Sym) (rs : List Rel) (S Y R : Int × Int) (w : World)
    (C1 : ∀ wx : World, Calls Try.prog 53 #[.agg #[.string nm, .slice A1 code.length c1, .int .i64 dA, .slice A2 nd c2, .slice A3 ss.length c3, .slice A4 rs.length c4]] wx fun e w' => e = .returned (.tuple #[.int .i64 S.1, .int .i64 S.2]) ∧ Below wx.heap.size wx w')
    (_C2 : ∀ wx : World, Below w.heap.size w wx → Calls Try.prog 54 #[.agg #[.string nm, .slice A1 code.length c1, .int .i64 dA, .slice A2 nd c2, .slice A3 ss.length c3, .slice A4 rs.length c4]] wx fun e w' => e = .returned (.tuple #[.int .i64 Y.1, .int .i64 Y.2]) ∧ Below wx.heap.size wx w')
    (_C3 : ∀ wx : World, Below w.heap.size w wx → Calls Try.prog 55 #[.agg #[.string nm, .slice A1 code.length c1, .int .i64 dA, .slice A2 nd c2, .slice A3 ss.length c3, .slice A4 rs.length c4]] wx fun e w' => e = .returned (.tuple #[.int .i64 R.1, .int .i64 R.2]) ∧ Below wx.heap.size wx w') (e1 : (S.1 == 0) = false) : Calls Try.prog 39 #[.agg #[.string nm, .slice A1 code.length c1, .int .i64 dA, .slice A2 nd c2, .slice A3 ss.length c3, .slice A4 rs.length c4]] w fun e w' => e = .returned (.tuple #[.int .i64 S.1, .int .i64 S.2]) ∧ Below w.heap.size w w' := by
  go_enter Try.func39, Try.ntmps39
  go_wp2_with fail
  refine (C1 _).mono ?_
  rintro e w1 ⟨rfl, hb1⟩
  have HX1 : Hid (Below (w.alloc (.cells #[.string nm, .slice A1 code.length c1, .int .i64 dA, .slice A2 nd c2, .slice A3 ss.length c3, .slice A4 rs.length c4] 49)).heap.size (w.alloc (.cells #[.string nm, .slice A1 code.length c1, .int .i64 dA, .slice A2 nd c2, .slice A3 ss.length c3, .slice A4 rs.length c4] 49)) w1) := hb1
  have HB1 : Hid (Below w.heap.size w w1) := lb_trans (lb_alloc (Below.refl _ _) _) HX1.out
  have f10 : w1.cell? ⟨w.heap.size, 0, none⟩ = some (.string nm) := lkeep HX1.out (by simp [go_sem])
  have f11 : w1.cell? ⟨w.heap.size, 1, none⟩ = some (.slice A1 code.length c1) := lkeep HX1.out (by simp [go_sem])
  have f12 : w1.cell? ⟨w.heap.size, 2, none⟩ = some (.int .i64 dA) := lkeep HX1.out (by simp [go_sem])
  have f13 : w1.cell? ⟨w.heap.size, 3, none⟩ = some (.slice A2 nd c2) := lkeep HX1.out (by simp [go_sem])
  have f14 : w1.cell? ⟨w.heap.size, 4, none⟩ = some (.slice A3 ss.length c3) := lkeep HX1.out (by simp [go_sem])
  have f15 : w1.cell? ⟨w.heap.size, 5, none⟩ = some (.slice A4 rs.length c4) := lkeep HX1.out (by simp [go_sem])
  clear hb1
  go_wp2
  go_ret2
  exact ⟨rfl, HB1.out⟩
set_option maxRecDepth 100000 in
set_option maxHeartbeats 2000000 in
theorem check2 (nm : ByteArray) (dA : Int) (A1 A2 A3 A4 : Option Addr) (c1 nd c2 c3 c4 : Nat) (code : List Int) (ss : List Sym) (rs : List Rel) (S Y R : Int × Int) (w : World)
    (C1 : ∀ wx : World, Calls Try.prog 53 #[.agg #[.string nm, .slice A1 code.length c1, .int .i64 dA, .slice A2 nd c2, .slice A3 ss.length c3, .slice A4 rs.length c4]] wx fun e w' => e = .returned (.tuple #[.int .i64 0, .int .i64 S.2]) ∧ Below wx.heap.size wx w')
    (C2 : ∀ wx : World, Below w.heap.size w wx → Calls Try.prog 54 #[.agg #[.string nm, .slice A1 code.length c1, .int .i64 dA, .slice A2 nd c2, .slice A3 ss.length c3, .slice A4 rs.length c4]] wx fun e w' => e = .returned (.tuple #[.int .i64 Y.1, .int .i64 Y.2]) ∧ Below wx.heap.size wx w')
    (_C3 : ∀ wx : World, Below w.heap.size w wx → Calls Try.prog 55 #[.agg #[.string nm, .slice A1 code.length c1, .int .i64 dA, .slice A2 nd c2, .slice A3 ss.length c3, .slice A4 rs.length c4]] wx fun e w' => e = .returned (.tuple #[.int .i64 R.1, .int .i64 R.2]) ∧ Below wx.heap.size wx w') (e2 : (Y.1 == 0) = false) : Calls Try.prog 39 #[.agg #[.string nm, .slice A1 code.length c1, .int .i64 dA, .slice A2 nd c2, .slice A3 ss.length c3, .slice A4 rs.length c4]] w fun e w' => e = .returned (.tuple #[.int .i64 Y.1, .int .i64 Y.2]) ∧ Below w.heap.size w w' := by
  go_enter Try.func39, Try.ntmps39
  go_wp2_with fail
  refine (C1 _).mono ?_
  rintro e w1 ⟨rfl, hb1⟩
  have HX1 : Hid (Below (w.alloc (.cells #[.string nm, .slice A1 code.length c1, .int .i64 dA, .slice A2 nd c2, .slice A3 ss.length c3, .slice A4 rs.length c4] 49)).heap.size (w.alloc (.cells #[.string nm, .slice A1 code.length c1, .int .i64 dA, .slice A2 nd c2, .slice A3 ss.length c3, .slice A4 rs.length c4] 49)) w1) := hb1
  have HB1 : Hid (Below w.heap.size w w1) := lb_trans (lb_alloc (Below.refl _ _) _) HX1.out
  have f10 : w1.cell? ⟨w.heap.size, 0, none⟩ = some (.string nm) := lkeep HX1.out (by simp [go_sem])
  have f11 : w1.cell? ⟨w.heap.size, 1, none⟩ = some (.slice A1 code.length c1) := lkeep HX1.out (by simp [go_sem])
  have f12 : w1.cell? ⟨w.heap.size, 2, none⟩ = some (.int .i64 dA) := lkeep HX1.out (by simp [go_sem])
  have f13 : w1.cell? ⟨w.heap.size, 3, none⟩ = some (.slice A2 nd c2) := lkeep HX1.out (by simp [go_sem])
  have f14 : w1.cell? ⟨w.heap.size, 4, none⟩ = some (.slice A3 ss.length c3) := lkeep HX1.out (by simp [go_sem])
  have f15 : w1.cell? ⟨w.heap.size, 5, none⟩ = some (.slice A4 rs.length c4) := lkeep HX1.out (by simp [go_sem])
  clear hb1
  go_wp2_with fail
  refine (C2 _ HB1.out).mono ?_
  rintro e w2 ⟨rfl, hb2⟩
  have HX2 : Hid (Below (w.alloc (.cells #[.string nm, .slice A1 code.length c1, .int .i64 dA, .slice A2 nd c2, .slice A3 ss.length c3, .slice A4 rs.length c4] 49)).heap.size (w.alloc (.cells #[.string nm, .slice A1 code.length c1, .int .i64 dA, .slice A2 nd c2, .slice A3 ss.length c3, .slice A4 rs.length c4] 49)) w2) := lb_trans HX1.out hb2
  have HB2 : Hid (Below w.heap.size w w2) := lb_trans (lb_alloc (Below.refl _ _) _) HX2.out
  have f20 : w2.cell? ⟨w.heap.size, 0, none⟩ = some (.string nm) := lkeep HX2.out (by simp [go_sem])
  have f21 : w2.cell? ⟨w.heap.size, 1, none⟩ = some (.slice A1 code.length c1) := lkeep HX2.out (by simp [go_sem])
  have f22 : w2.cell? ⟨w.heap.size, 2, none⟩ = some (.int .i64 dA) := lkeep HX2.out (by simp [go_sem])
  have f23 : w2.cell? ⟨w.heap.size, 3, none⟩ = some (.slice A2 nd c2) := lkeep HX2.out (by simp [go_sem])
  have f24 : w2.cell? ⟨w.heap.size, 4, none⟩ = some (.slice A3 ss.length c3) := lkeep HX2.out (by simp [go_sem])
  have f25 : w2.cell? ⟨w.heap.size, 5, none⟩ = some (.slice A4 rs.length c4) := lkeep HX2.out (by simp [go_sem])
  clear hb2 f10 f11 f12 f13 f14 f15
  go_wp2
  go_ret2
  exact ⟨rfl, HB2.out⟩
set_option maxRecDepth 100000 in
set_option maxHeartbeats 2000000 in
theorem check3 (nm : ByteArray) (dA : Int) (A1 A2 A3 A4 : Option Addr) (c1 nd c2 c3 c4 : Nat) (code : List Int) (ss : List Sym) (rs : List Rel) (S Y R : Int × Int) (w : World)
    (C1 : ∀ wx : World, Calls Try.prog 53 #[.agg #[.string nm, .slice A1 code.length c1, .int .i64 dA, .slice A2 nd c2, .slice A3 ss.length c3, .slice A4 rs.length c4]] wx fun e w' => e = .returned (.tuple #[.int .i64 0, .int .i64 S.2]) ∧ Below wx.heap.size wx w')
    (C2 : ∀ wx : World, Below w.heap.size w wx → Calls Try.prog 54 #[.agg #[.string nm, .slice A1 code.length c1, .int .i64 dA, .slice A2 nd c2, .slice A3 ss.length c3, .slice A4 rs.length c4]] wx fun e w' => e = .returned (.tuple #[.int .i64 0, .int .i64 Y.2]) ∧ Below wx.heap.size wx w')
    (C3 : ∀ wx : World, Below w.heap.size w wx → Calls Try.prog 55 #[.agg #[.string nm, .slice A1 code.length c1, .int .i64 dA, .slice A2 nd c2, .slice A3 ss.length c3, .slice A4 rs.length c4]] wx fun e w' => e = .returned (.tuple #[.int .i64 R.1, .int .i64 R.2]) ∧ Below wx.heap.size wx w') (e3 : (R.1 == 0) = false) : Calls Try.prog 39 #[.agg #[.string nm, .slice A1 code.length c1, .int .i64 dA, .slice A2 nd c2, .slice A3 ss.length c3, .slice A4 rs.length c4]] w fun e w' => e = .returned (.tuple #[.int .i64 R.1, .int .i64 R.2]) ∧ Below w.heap.size w w' := by
  go_enter Try.func39, Try.ntmps39
  go_wp2_with fail
  refine (C1 _).mono ?_
  rintro e w1 ⟨rfl, hb1⟩
  have HX1 : Hid (Below (w.alloc (.cells #[.string nm, .slice A1 code.length c1, .int .i64 dA, .slice A2 nd c2, .slice A3 ss.length c3, .slice A4 rs.length c4] 49)).heap.size (w.alloc (.cells #[.string nm, .slice A1 code.length c1, .int .i64 dA, .slice A2 nd c2, .slice A3 ss.length c3, .slice A4 rs.length c4] 49)) w1) := hb1
  have HB1 : Hid (Below w.heap.size w w1) := lb_trans (lb_alloc (Below.refl _ _) _) HX1.out
  have f10 : w1.cell? ⟨w.heap.size, 0, none⟩ = some (.string nm) := lkeep HX1.out (by simp [go_sem])
  have f11 : w1.cell? ⟨w.heap.size, 1, none⟩ = some (.slice A1 code.length c1) := lkeep HX1.out (by simp [go_sem])
  have f12 : w1.cell? ⟨w.heap.size, 2, none⟩ = some (.int .i64 dA) := lkeep HX1.out (by simp [go_sem])
  have f13 : w1.cell? ⟨w.heap.size, 3, none⟩ = some (.slice A2 nd c2) := lkeep HX1.out (by simp [go_sem])
  have f14 : w1.cell? ⟨w.heap.size, 4, none⟩ = some (.slice A3 ss.length c3) := lkeep HX1.out (by simp [go_sem])
  have f15 : w1.cell? ⟨w.heap.size, 5, none⟩ = some (.slice A4 rs.length c4) := lkeep HX1.out (by simp [go_sem])
  clear hb1
  go_wp2_with fail
  refine (C2 _ HB1.out).mono ?_
  rintro e w2 ⟨rfl, hb2⟩
  have HX2 : Hid (Below (w.alloc (.cells #[.string nm, .slice A1 code.length c1, .int .i64 dA, .slice A2 nd c2, .slice A3 ss.length c3, .slice A4 rs.length c4] 49)).heap.size (w.alloc (.cells #[.string nm, .slice A1 code.length c1, .int .i64 dA, .slice A2 nd c2, .slice A3 ss.length c3, .slice A4 rs.length c4] 49)) w2) := lb_trans HX1.out hb2
  have HB2 : Hid (Below w.heap.size w w2) := lb_trans (lb_alloc (Below.refl _ _) _) HX2.out
  have f20 : w2.cell? ⟨w.heap.size, 0, none⟩ = some (.string nm) := lkeep HX2.out (by simp [go_sem])
  have f21 : w2.cell? ⟨w.heap.size, 1, none⟩ = some (.slice A1 code.length c1) := lkeep HX2.out (by simp [go_sem])
  have f22 : w2.cell? ⟨w.heap.size, 2, none⟩ = some (.int .i64 dA) := lkeep HX2.out (by simp [go_sem])
  have f23 : w2.cell? ⟨w.heap.size, 3, none⟩ = some (.slice A2 nd c2) := lkeep HX2.out (by simp [go_sem])
  have f24 : w2.cell? ⟨w.heap.size, 4, none⟩ = some (.slice A3 ss.length c3) := lkeep HX2.out (by simp [go_sem])
  have f25 : w2.cell? ⟨w.heap.size, 5, none⟩ = some (.slice A4 rs.length c4) := lkeep HX2.out (by simp [go_sem])
  clear hb2 f10 f11 f12 f13 f14 f15
  go_wp2_with fail
  refine (C3 _ HB2.out).mono ?_
  rintro e w3 ⟨rfl, hb3⟩
  have HX3 : Hid (Below (w.alloc (.cells #[.string nm, .slice A1 code.length c1, .int .i64 dA, .slice A2 nd c2, .slice A3 ss.length c3, .slice A4 rs.length c4] 49)).heap.size (w.alloc (.cells #[.string nm, .slice A1 code.length c1, .int .i64 dA, .slice A2 nd c2, .slice A3 ss.length c3, .slice A4 rs.length c4] 49)) w3) := lb_trans HX2.out hb3
  have HB3 : Hid (Below w.heap.size w w3) := lb_trans (lb_alloc (Below.refl _ _) _) HX3.out
  have f30 : w3.cell? ⟨w.heap.size, 0, none⟩ = some (.string nm) := lkeep HX3.out (by simp [go_sem])
  have f31 : w3.cell? ⟨w.heap.size, 1, none⟩ = some (.slice A1 code.length c1) := lkeep HX3.out (by simp [go_sem])
  have f32 : w3.cell? ⟨w.heap.size, 2, none⟩ = some (.int .i64 dA) := lkeep HX3.out (by simp [go_sem])
  have f33 : w3.cell? ⟨w.heap.size, 3, none⟩ = some (.slice A2 nd c2) := lkeep HX3.out (by simp [go_sem])
  have f34 : w3.cell? ⟨w.heap.size, 4, none⟩ = some (.slice A3 ss.length c3) := lkeep HX3.out (by simp [go_sem])
  have f35 : w3.cell? ⟨w.heap.size, 5, none⟩ = some (.slice A4 rs.length c4) := lkeep HX3.out (by simp [go_sem])
  clear hb3 f20 f21 f22 f23 f24 f25
  go_wp2
  go_ret2
  exact ⟨rfl, HB3.out⟩
set_option maxRecDepth 100000 in
set_option maxHeartbeats 2000000 in
theorem check4 (nm : ByteArray) (dA : Int) (A1 A2 A3 A4 : Option Addr) (c1 nd c2 c3 c4 : Nat) (code : List Int) (ss : List Sym) (rs : List Rel) (S Y R : Int × Int) (w : World)
    (C1 : ∀ wx : World, Calls Try.prog 53 #[.agg #[.string nm, .slice A1 code.length c1, .int .i64 dA, .slice A2 nd c2, .slice A3 ss.length c3, .slice A4 rs.length c4]] wx fun e w' => e = .returned (.tuple #[.int .i64 0, .int .i64 S.2]) ∧ Below wx.heap.size wx w')
    (C2 : ∀ wx : World, Below w.heap.size w wx → Calls Try.prog 54 #[.agg #[.string nm, .slice A1 code.length c1, .int .i64 dA, .slice A2 nd c2, .slice A3 ss.length c3, .slice A4 rs.length c4]] wx fun e w' => e = .returned (.tuple #[.int .i64 0, .int .i64 Y.2]) ∧ Below wx.heap.size wx w')
    (C3 : ∀ wx : World, Below w.heap.size w wx → Calls Try.prog 55 #[.agg #[.string nm, .slice A1 code.length c1, .int .i64 dA, .slice A2 nd c2, .slice A3 ss.length c3, .slice A4 rs.length c4]] wx fun e w' => e = .returned (.tuple #[.int .i64 0, .int .i64 R.2]) ∧ Below wx.heap.size wx w') (hC : IntsAt w A1 .u32 code) (hR : ∀ i, i < code.length → 0 ≤ nth code i ∧ nth code i < 4294967296) (hc : code.length ≤ 1048576) : Calls Try.prog 39 #[.agg #[.string nm, .slice A1 code.length c1, .int .i64 dA, .slice A2 nd c2, .slice A3 ss.length c3, .slice A4 rs.length c4]] w fun e w' => e = .returned (.tuple #[.int .i64 (codC code).1, .int .i64 (codC code).2]) ∧ Below w.heap.size w w' := by
  go_enter Try.func39, Try.ntmps39
  go_wp2_with fail
  refine (C1 _).mono ?_
  rintro e w1 ⟨rfl, hb1⟩
  have HX1 : Hid (Below (w.alloc (.cells #[.string nm, .slice A1 code.length c1, .int .i64 dA, .slice A2 nd c2, .slice A3 ss.length c3, .slice A4 rs.length c4] 49)).heap.size (w.alloc (.cells #[.string nm, .slice A1 code.length c1, .int .i64 dA, .slice A2 nd c2, .slice A3 ss.length c3, .slice A4 rs.length c4] 49)) w1) := hb1
  have HB1 : Hid (Below w.heap.size w w1) := lb_trans (lb_alloc (Below.refl _ _) _) HX1.out
  have f10 : w1.cell? ⟨w.heap.size, 0, none⟩ = some (.string nm) := lkeep HX1.out (by simp [go_sem])
  have f11 : w1.cell? ⟨w.heap.size, 1, none⟩ = some (.slice A1 code.length c1) := lkeep HX1.out (by simp [go_sem])
  have f12 : w1.cell? ⟨w.heap.size, 2, none⟩ = some (.int .i64 dA) := lkeep HX1.out (by simp [go_sem])
  have f13 : w1.cell? ⟨w.heap.size, 3, none⟩ = some (.slice A2 nd c2) := lkeep HX1.out (by simp [go_sem])
  have f14 : w1.cell? ⟨w.heap.size, 4, none⟩ = some (.slice A3 ss.length c3) := lkeep HX1.out (by simp [go_sem])
  have f15 : w1.cell? ⟨w.heap.size, 5, none⟩ = some (.slice A4 rs.length c4) := lkeep HX1.out (by simp [go_sem])
  clear hb1
  go_wp2_with fail
  refine (C2 _ HB1.out).mono ?_
  rintro e w2 ⟨rfl, hb2⟩
  have HX2 : Hid (Below (w.alloc (.cells #[.string nm, .slice A1 code.length c1, .int .i64 dA, .slice A2 nd c2, .slice A3 ss.length c3, .slice A4 rs.length c4] 49)).heap.size (w.alloc (.cells #[.string nm, .slice A1 code.length c1, .int .i64 dA, .slice A2 nd c2, .slice A3 ss.length c3, .slice A4 rs.length c4] 49)) w2) := lb_trans HX1.out hb2
  have HB2 : Hid (Below w.heap.size w w2) := lb_trans (lb_alloc (Below.refl _ _) _) HX2.out
  have f20 : w2.cell? ⟨w.heap.size, 0, none⟩ = some (.string nm) := lkeep HX2.out (by simp [go_sem])
  have f21 : w2.cell? ⟨w.heap.size, 1, none⟩ = some (.slice A1 code.length c1) := lkeep HX2.out (by simp [go_sem])
  have f22 : w2.cell? ⟨w.heap.size, 2, none⟩ = some (.int .i64 dA) := lkeep HX2.out (by simp [go_sem])
  have f23 : w2.cell? ⟨w.heap.size, 3, none⟩ = some (.slice A2 nd c2) := lkeep HX2.out (by simp [go_sem])
  have f24 : w2.cell? ⟨w.heap.size, 4, none⟩ = some (.slice A3 ss.length c3) := lkeep HX2.out (by simp [go_sem])
  have f25 : w2.cell? ⟨w.heap.size, 5, none⟩ = some (.slice A4 rs.length c4) := lkeep HX2.out (by simp [go_sem])
  clear hb2 f10 f11 f12 f13 f14 f15
  go_wp2_with fail
  refine (C3 _ HB2.out).mono ?_
  rintro e w3 ⟨rfl, hb3⟩
  have HX3 : Hid (Below (w.alloc (.cells #[.string nm, .slice A1 code.length c1, .int .i64 dA, .slice A2 nd c2, .slice A3 ss.length c3, .slice A4 rs.length c4] 49)).heap.size (w.alloc (.cells #[.string nm, .slice A1 code.length c1, .int .i64 dA, .slice A2 nd c2, .slice A3 ss.length c3, .slice A4 rs.length c4] 49)) w3) := lb_trans HX2.out hb3
  have HB3 : Hid (Below w.heap.size w w3) := lb_trans (lb_alloc (Below.refl _ _) _) HX3.out
  have f30 : w3.cell? ⟨w.heap.size, 0, none⟩ = some (.string nm) := lkeep HX3.out (by simp [go_sem])
  have f31 : w3.cell? ⟨w.heap.size, 1, none⟩ = some (.slice A1 code.length c1) := lkeep HX3.out (by simp [go_sem])
  have f32 : w3.cell? ⟨w.heap.size, 2, none⟩ = some (.int .i64 dA) := lkeep HX3.out (by simp [go_sem])
  have f33 : w3.cell? ⟨w.heap.size, 3, none⟩ = some (.slice A2 nd c2) := lkeep HX3.out (by simp [go_sem])
  have f34 : w3.cell? ⟨w.heap.size, 4, none⟩ = some (.slice A3 ss.length c3) := lkeep HX3.out (by simp [go_sem])
  have f35 : w3.cell? ⟨w.heap.size, 5, none⟩ = some (.slice A4 rs.length c4) := lkeep HX3.out (by simp [go_sem])
  clear hb3 f20 f21 f22 f23 f24 f25
  clear C1 C2 C3 f30 f31 f32 f33 f34 f35
  go_wp2
  go_loopw [6] (fun i wr => ∃ k : Nat, i = .int .i64 k ∧ k ≤ code.length ∧ Below (w.alloc (.cells #[.string nm, .slice A1 code.length c1, .int .i64 dA, .slice A2 nd c2, .slice A3 ss.length c3, .slice A4 rs.length c4] 49)).heap.size (w.alloc (.cells #[.string nm, .slice A1 code.length c1, .int .i64 dA, .slice A2 nd c2, .slice A3 ss.length c3, .slice A4 rs.length c4] 49)) wr ∧ Hid (∀ j, j < k → codE code j = 0)) (fun i _ => code.length - (intOf i).toNat)
  case atStart => exact ⟨0, rfl, by omega, HX3.out, fun j hj => by omega⟩
  case round =>
    obtain ⟨k, rfl, hk, hB, HT⟩ := hrel
    rename_i wr _
    have f1 : wr.cell? ⟨w.heap.size, 1, none⟩ = some (.slice A1 code.length c1) := lkeep hB (by simp [go_sem])
    have HB : Hid (Below w.heap.size w wr) := lb_trans (lb_alloc (Below.refl _ _) _) hB
    have HB0 : Hid (Below (w.alloc (.cells #[.string nm, .slice A1 code.length c1, .int .i64 dA, .slice A2 nd c2, .slice A3 ss.length c3, .slice A4 rs.length c4] 49)).heap.size (w.alloc (.cells #[.string nm, .slice A1 code.length c1, .int .i64 dA, .slice A2 nd c2, .slice A3 ss.length c3, .slice A4 rs.length c4] 49)) wr) := hB
    clear hB
    by_cases hlt : k < code.length
    · obtain ⟨a, rfl, q0⟩ := (hC.keep HB.out) k hlt
      obtain ⟨v0, v1⟩ := hR k hlt
      have CT := reftarget_any (nth code k) v0 v1
      have HE1 : Hid (isT (nth code k) = true ∧ (code.length : Int) < tgV (nth code k) → codE code k = 22) := fun h => by unfold codE; rw [if_pos h]
      have HE0 : Hid (¬ (isT (nth code k) = true ∧ (code.length : Int) < tgV (nth code k)) → codE code k = 0) := fun h => by unfold codE; rw [if_neg h]
      generalize nth code k = v at q0 v0 v1 CT HE1 HE0
      go_wp2_with fail
      refine (CT _).mono ?_
      rintro e w5 ⟨rfl, hb5⟩
      have f5 := lkeep hb5 f1
      have HB5 : Hid (Below w.heap.size w w5) := lb_trans HB.out hb5
      have HB6 : Hid (Below (w.alloc (.cells #[.string nm, .slice (some a) code.length c1, .int .i64 dA, .slice A2 nd c2, .slice A3 ss.length c3, .slice A4 rs.length c4] 49)).heap.size (w.alloc (.cells #[.string nm, .slice (some a) code.length c1, .int .i64 dA, .slice A2 nd c2, .slice A3 ss.length c3, .slice A4 rs.length c4] 49)) w5) := lb_trans HB0.out hb5
      clear hb5 CT q0 f1
      cases hT : isT v with
      | false =>
        have HE : Hid (codE code k = 0) := HE0.out (by rw [hT]; simp)
        clear hT
        go_wp2
        go_roundw
        case rel => exact ⟨k + 1, by go_num, by omega, HB6.out, fun j hj => by
          by_cases hjk : j = k
          · rw [hjk]; exact HE.out
          · exact HT.out j (by omega)⟩
        case measure => simp [intOf]; omega
      | true =>
      by_cases hV : (code.length : Int) < tgV v
      · have HE : Hid (codE code k = 22) := HE1.out ⟨hT, hV⟩
        clear hT
        go_wp2
        go_ret2
        exact ⟨ret2I (by rw [cod_hit hlt HT.out HE.out]), HB5.out⟩
      · have HE : Hid (codE code k = 0) := HE0.out (fun h => hV h.2)
        clear hT
        go_wp2
        go_roundw
        case rel => exact ⟨k + 1, by go_num, by omega, HB6.out, fun j hj => by
          by_cases hjk : j = k
          · rw [hjk]; exact HE.out
          · exact HT.out j (by omega)⟩
        case measure => simp [intOf]; omega
    · have HC : Hid (codC code = (0, 0)) := cod_none fun j hj => HT.out j (by omega)
      go_wp2
      go_ret2
      exact ⟨ret2I (by rw [HC.out]), HB.out⟩
theorem refcheck_any (nm : ByteArray) (dA : Int) (A1 A2 A3 A4 : Option Addr) (c1 nd c2 c3 c4 : Nat) (code : List Int) (ss : List Sym) (rs : List Rel) (w : World) (hC : IntsAt w A1 .u32 code) (hR : ∀ i, i < code.length → 0 ≤ nth code i ∧ nth code i < 4294967296) (hS : SymsAt w A3 ss) (hL : RelsAt w A4 rs) (hc : code.length ≤ 1048576) (hd : nd ≤ 1048576) (hs : ss.length ≤ 1048576) (hl : rs.length ≤ 1048576) : Calls Try.prog 39 #[.agg #[.string nm, .slice A1 code.length c1, .int .i64 dA, .slice A2 nd c2, .slice A3 ss.length c3, .slice A4 rs.length c4]] w fun e w' => e = .returned (.tuple #[.int .i64 (checkC nm code dA nd ss rs).1, .int .i64 (checkC nm code dA nd ss rs).2]) ∧ Below w.heap.size w w' := by
  have C1 := refsize_any nm dA A1 A2 A3 A4 code.length c1 nd c2 ss.length c3 rs.length c4
  have C2 := fun wx (h : Below w.heap.size w wx) => refsyms_any nm dA A1 A2 A3 A4 code.length c1 nd c2 c3 rs.length c4 ss wx (hS.keep h) hs
  have C3 := fun wx (h : Below w.heap.size w wx) => refrels_any nm dA A1 A2 A3 A4 c1 nd c2 ss.length c3 c4 code rs wx (hC.keep h) hR (hL.keep h) hl hc
  unfold checkC
  by_cases e1 : (sizeC (nameOK nm) code.length ss.length rs.length nd dA).1 = 0
  · rw [if_neg (by simpa using e1)]
    rw [e1] at C1
    by_cases e2 : (symC ss code.length).1 = 0
    · rw [if_neg (by simpa using e2)]
      have C2' := C2
      simp only [e2] at C2'
      by_cases e3 : (relC rs code ss.length).1 = 0
      · rw [if_neg (by simpa using e3)]
        have C3' := C3
        simp only [e3] at C3'
        exact check4 nm dA A1 A2 A3 A4 c1 nd c2 c3 c4 code ss rs _ _ _ w (fun wx => C1 wx hd) C2' C3' hC hR hc
      · rw [if_pos e3]
        exact check3 nm dA A1 A2 A3 A4 c1 nd c2 c3 c4 code ss rs _ _ _ w (fun wx => C1 wx hd) C2' C3 (by simpa using e3)
    · rw [if_pos e2]
      exact check2 nm dA A1 A2 A3 A4 c1 nd c2 c3 c4 code ss rs _ _ _ w (fun wx => C1 wx hd) C2 C3 (by simpa using e2)
  · rw [if_pos e1]
    exact check1 nm dA A1 A2 A3 A4 c1 nd c2 c3 c4 code ss rs _ _ _ w (fun wx => C1 wx hd) C2 C3 (by simpa using e1)






end Go.Proofs.Ytiihfkjgdhfmiaa
