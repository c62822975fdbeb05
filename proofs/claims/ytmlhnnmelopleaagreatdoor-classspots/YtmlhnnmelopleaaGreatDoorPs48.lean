/-
  The document's Fits, named, See.
-/
import Derived.Test.YtmlhnnmelopleaaGreatDoorProg
import Derived.WalkKit
import Derived.WalkSpells
import Derived.WalkLawsBesides
import Derived.RowKit3
import Derived.Below
import Derived.Deep.QuietTactic
import Derived.BigQuiet
import Derived.WalkSmall
import Derived.Laws.Rows
import Derived.Test.YtmlhnnmelopleaaGreatDoorPs47
import Derived.Test.YtmlhnnmelopleaaGreatDoorPs36
import Derived.Test.YtmlhnnmelopleaaGreatDoorPs14
import Derived.Test.YtmlhnnmelopleaaGreatDoorPs41
import Derived.Test.YtmlhnnmelopleaaGreatDoorPs43
import Derived.Deep.Cut
import Derived.Deep.RegionHeld3
namespace Go.Proofs.YtmlhnnmelopleaaGreatDoor
open Go.RowKit

theorem fits_any (A1 A2 : Option Addr) (c1 ml c2 : Nat) (ent : Int) (text : List Int) (n p : Int) (w : World) (hl : text.length ≤ 1048576) (hp : p ≤ 9223372036854775807) :
    Calls Tryz.prog 21 #[.agg #[.slice A1 text.length c1, .int .i64 ent, .slice A2 ml c2], .int .i64 n, .int .i64 p] w fun e w' => e = .returned (.bool (fitB text n p)) ∧ Below w.heap.size w w' := by
  have hB0 : Below w.heap.size w (w.alloc (.cells #[.slice A1 text.length c1, .int .i64 ent, .slice A2 ml c2] 31)) := lb_alloc (Below.refl _ _) _
  have HF : Hid (fitB text n p = decide (2 ≤ n ∧ 0 ≤ p ∧ p + n ≤ (text.length : Int))) := rfl
  by_cases h1 : 2 ≤ n
  · by_cases h2 : n ≤ (text.length : Int)
    · by_cases h3 : 0 ≤ p
      · by_cases h4 : p ≤ (text.length : Int) - n
        · have HV : Hid (fitB text n p = true) := by rw [Hid, HF.out, decide_eq_true_eq]; omega
          clear HF
          go_enter Tryz.func21, Tryz.ntmps21
          go_wp2
          go_ret
          exact ⟨by rw [HV.out]; rfl, hB0⟩
        · have HV : Hid (fitB text n p = false) := by rw [Hid, HF.out, decide_eq_false_iff_not]; omega
          have hd : decide (p ≤ (text.length : Int) - n) = false := decide_eq_false h4
          clear HF
          go_enter Tryz.func21, Tryz.ntmps21
          go_wp2
          go_ret
          exact ⟨by rw [HV.out]; rfl, hB0⟩
      · have HV : Hid (fitB text n p = false) := by rw [Hid, HF.out, decide_eq_false_iff_not]; omega
        have hd : decide (0 ≤ p) = false := decide_eq_false h3
        clear HF
        go_enter Tryz.func21, Tryz.ntmps21
        go_wp2
        go_ret
        exact ⟨by rw [HV.out]; rfl, hB0⟩
    · have HV : Hid (fitB text n p = false) := by rw [Hid, HF.out, decide_eq_false_iff_not]; omega
      have hd : decide (n ≤ (text.length : Int)) = false := decide_eq_false h2
      clear HF
      go_enter Tryz.func21, Tryz.ntmps21
      go_wp2
      go_ret
      exact ⟨by rw [HV.out]; rfl, hB0⟩
  · have HV : Hid (fitB text n p = false) := by rw [Hid, HF.out, decide_eq_false_iff_not]; omega
    have hd : decide (2 ≤ n) = false := decide_eq_false h1
    clear HF
    go_enter Tryz.func21, Tryz.ntmps21
    go_wp2
    go_ret
    exact ⟨by rw [HV.out]; rfl, hB0⟩
def nmW (l : List Int) (r : Nat) (i : Nat) : Bool := (rdN (nth l i) ||| wrN (nth l i)).testBit r
theorem bitI {h : Nat} (hh : h < 65536) (r : Nat) : (bits .and .u16 ((h : Int) / 2 ^ r) 1 == 1) = h.testBit r := by
  have e : ((h : Int) / 2 ^ r) = ((h / 2 ^ r : Nat) : Int) := by push_cast; rfl
  have hb : h / 2 ^ r < 65536 := Nat.lt_of_le_of_lt (Nat.div_le_self _ _) hh
  rw [e, Nat.testBit_eq_decide_div_mod_eq]
  generalize h / 2 ^ r = x at hb
  rw [u16_and _ _ (by omega) (by omega) (by omega) (by omega), Bool.eq_iff_iff, beq_iff_eq, decide_eq_true_eq]
  simp only [Int.toNat_natCast, Int.toNat_one, Nat.and_one_is_mod]
  omega
set_option maxHeartbeats 4000000 in
theorem named_any (A : Option Addr) (c : Nat) (l : List Int) (r : Nat) (hr : r < 15) (w : World) (hA : IntsAt w A .u32 l) (hR : ∀ i, i < l.length → 0 ≤ nth l i ∧ nth l i < 4294967296) (hl : l.length ≤ 1048576) :
    Calls Tryz.prog 44 #[.slice A l.length c, .int .i8 (r : Int)] w fun e w' => e = .returned (.bool (hasN (nmW l r) l.length)) ∧ Below w.heap.size w w' := by
  have HA : Hid (IntsAt w A .u32 l) := hA
  have HR : Hid (∀ i, i < l.length → 0 ≤ nth l i ∧ nth l i < 4294967296) := hR
  clear hA hR
  go_enter Tryz.func44, Tryz.ntmps44
  go_wp2
  go_loopw [5] (fun i wr => ∃ k : Nat, i = .int .i64 (k : Int) ∧ k ≤ l.length ∧ Hid (∀ j, j < k → nmW l r j = false) ∧ Hid (Below w.heap.size w wr)) (fun i _ => l.length - (intOf i).toNat)
  case atStart => exact ⟨0, rfl, Nat.zero_le _, fun j hj => absurd hj (Nat.not_lt_zero _), Below.refl _ _⟩
  case round =>
    obtain ⟨k, rfl, hk, HN, HB⟩ := hrel
    by_cases hlt : k < l.length
    · have hlt' : (k : Int) < (l.length : Int) := by omega
      obtain ⟨a, ea, q⟩ := HA.out k hlt
      subst ea
      replace q := lkeep HB.out q
      obtain ⟨v0, v1⟩ := HR.out k hlt
      have HP : Hid (nmW l r k = (rdN (nth l k) ||| wrN (nth l k)).testBit r) := rfl
      have hor := orI (rdN_lt (nth l k)) (wrN_lt (nth l k))
      have hlt2 : rdN (nth l k) ||| wrN (nth l k) < 65536 := orN_lt (rdN_lt _) (wrN_lt _)
      have hbit := bitI hlt2 r
      have C1 := fun wx => refreads_any (nth l k) v0 v1 wx
      have C2 := fun wx => refwrites_any (nth l k) v0 v1 wx
      generalize rdN (nth l k) ||| wrN (nth l k) = z at *
      generalize rdN (nth l k) = x at *
      generalize wrN (nth l k) = y at *
      generalize nth l k = v at *
      have hY := HB.out
      go_upto_region 4 with fail
      go_region_held3 (fun W => Below wr.heap.size wr W ∧ W.cell? (a.add k) = some (.int .u32 v)) (first | (refine ⟨?_, lkeep ?_ q⟩ <;> ((repeat (first | assumption | exact Below.refl _ _ | exact (‹Below _ _ _ ∧ _›).1 | apply Below.drew | refine lb_trans ?_ hb)); done))) (first | (go_at_call 61; refine (C1 _).mono ?_; rintro e w1 ⟨rfl, hb⟩) | (go_at_call 62; refine (C2 _).mono ?_; rintro e w2 ⟨rfl, hb⟩))
      all_goals (
        rename_i hS
        have sB : Hid _ := hS.1
        clear hS
        cases hzb : z.testBit r with
        | true =>
          have HV : Hid (hasN (nmW l r) l.length = true) := hasN_yes hlt (by rw [HP.out, hzb])
          rw [hzb] at hbit
          clear hzb HP HN
          go_wp2
          go_ret
          exact ⟨by rw [HV.out]; rfl, lb_trans HB.out sB.out⟩
        | false =>
          have HN2 : Hid (∀ j, j < k + 1 → nmW l r j = false) := fun j hj => by
            by_cases e : j = k
            · rw [e, HP.out, hzb]
            · exact HN.out j (by omega)
          rw [hzb] at hbit
          clear hzb HP HN
          go_wp2
          go_roundw
          case rel => exact ⟨k + 1, by go_num, by omega, HN2, lb_trans HB.out sB.out⟩
          case measure => simp [intOf]; omega)
    · obtain rfl : k = l.length := by omega
      have HV : Hid (hasN (nmW l r) l.length = false) := hasN_no HN.out
      go_wp2
      go_ret
      exact ⟨by rw [HV.out]; rfl, HB.out⟩

end Go.Proofs.YtmlhnnmelopleaaGreatDoor
