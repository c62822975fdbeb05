/-
  The document's Kind. Of of the document, by what it returns; the list has at most 2^20 items.
-/
import Derived.Test.YtmlhnnmelopleaaGreatDoorProg
import Derived.WalkKit
import Derived.WalkSpells
import Derived.WalkLawsBesides
import Derived.RowKit3
import Derived.Below
import Derived.Deep.QuietTactic
import Derived.BigQuiet
import Derived.WalkSmall
import Derived.Laws.Rows
import Derived.Test.YtmlhnnmelopleaaGreatDoorPs16
import Derived.Test.YtmlhnnmelopleaaGreatDoorPs14
import Derived.Test.YtmlhnnmelopleaaGreatDoorPs08
import Derived.Test.YtmlhnnmelopleaaGreatDoorPs07
import Derived.Test.YtmlhnnmelopleaaGreatDoorPs04
namespace Go.Proofs.YtmlhnnmelopleaaGreatDoor
open Go.RowKit

theorem refends1 (v : Int) (h0 : 0 ≤ v) (h1 : v < 4294967296) (w : World) : Calls Tryz.prog 30 #[.int .u32 v] w fun e w' => e = .returned (.bool (enB1 v)) ∧ Below w.heap.size w w' := refends_any v h0 h1 w
set_option maxRecDepth 100000 in
set_option maxHeartbeats 8000000 in
theorem refkind_any (A : Option Addr) (c : Nat) (l : List Int) (w : World) (hA : IntsAt w A .u32 l) (hR : ∀ i, i < l.length → 0 ≤ nth l i ∧ nth l i < 4294967296) (hl : l.length ≤ 1048576) :
    Calls Tryz.prog 9 #[.slice A l.length c] w fun e w' => e = .returned (.int .i8 (kindN l)) ∧ Below w.heap.size w w' := by
  by_cases h0 : l.length = 0
  · have HV : Hid (kindN l = 0) := kind_empty h0
    obtain rfl : l = [] := List.eq_nil_of_length_eq_zero h0
    clear hA hR
    go_enter Tryz.func9, Tryz.ntmps9
    go_wp2
    go_loopw [3] (fun i wr => i = .int .i64 0 ∧ wr = w) (fun _ _ => 0)
    case atStart => exact ⟨rfl, rfl⟩
    case round =>
      obtain ⟨rfl, e2⟩ := hrel
      have e3 := e2.symm; clear e2; subst e3
      go_wp2
      go_ret
      exact ⟨by rw [HV.out]; rfl, Below.refl _ _⟩
  obtain ⟨a, ea, -⟩ := hA 0 (by omega)
  subst ea
  have HA : Hid (IntsAt w (some a) .u32 l) := hA
  have HR : Hid (∀ i, i < l.length → 0 ≤ nth l i ∧ nth l i < 4294967296) := hR
  obtain ⟨m, hm⟩ : ∃ m, l.length = m + 1 := ⟨l.length - 1, by omega⟩
  have HK1 : Hid (∀ i, i < m + 1 → alW l i = true → kindN l = 0) := fun i hi h => kind_alone (hasN_yes (by omega) h)
  have HK2 : Hid (∀ i, i < m → enW l i = true → kindN l = 0) := fun i hi h => kind_ends (hasN_yes (by omega) h)
  have HK3 : Hid ((∀ i, i < m + 1 → alW l i = false) → (∀ i, i < m → enW l i = false) → kindN l = lastN (dOp (nth l m))) := fun h1 h2 => by
    have := kind_last h0 (hasN_no (fun i hi => h1 i (by omega))) (hasN_no (fun i hi => h2 i (by omega)))
    rwa [show l.length - 1 = m by omega] at this
  have HC : Hid (∀ i, i < m + 1 → w.cell? (a.add i) = some (.int .u32 (nth l i)) ∧ 0 ≤ nth l i ∧ nth l i < 4294967296) := fun i hi => by
    obtain ⟨a', ea, q⟩ := HA.out i (by omega)
    obtain rfl := Option.some.inj ea
    exact ⟨q, HR.out i (by omega)⟩
  have hne : ((m : Int) + 1 == 0) = false := by rw [beq_eq_false_iff_ne]; omega
  rw [hm] at hl ⊢
  clear hA hR HA HR h0 hm
  go_enter Tryz.func9, Tryz.ntmps9
  go_wp2
  go_loopw [3] (fun i wr => ∃ k : Nat, i = .int .i64 (k : Int) ∧ k ≤ m + 1 ∧ Hid (∀ j, j < k → alW l j = false) ∧ Hid (∀ j, j < k → j < m → enW l j = false) ∧ Hid (Below w.heap.size w wr)) (fun i _ => m + 1 - (intOf i).toNat)
  case atStart => exact ⟨0, rfl, Nat.zero_le _, fun j hj => absurd hj (Nat.not_lt_zero _), fun j hj => absurd hj (Nat.not_lt_zero _), Below.refl _ _⟩
  case round =>
    obtain ⟨k, rfl, hk, HN, HN2, HB⟩ := hrel
    by_cases hlt : k < m + 1
    · have hlt' : (k : Int) < (m : Int) + 1 := by omega
      obtain ⟨q, v0, v1⟩ := HC.out k hlt
      replace q := lkeep HB.out q
      have HP : Hid (alW l k = alB (nth l k)) := rfl
      have HP2 : Hid (enW l k = enB1 (nth l k)) := rfl
      generalize nth l k = v at *
      have C := fun wx => refalone_any v v0 v1 wx
      have C2 := fun wx => refends1 v v0 v1 wx
      generalize alB v = b at *
      generalize enB1 v = b2 at *
      cases b with
      | true =>
        have HV : Hid (kindN l = 0) := HK1.out k hlt HP.out
        clear HP HP2 HK1 HK2 HK3 HN HN2 C2
        go_wp2_with (go_at_call 29; refine (C _).mono ?_; rintro e w1 ⟨rfl, hb1⟩)
        go_ret
        exact ⟨by rw [HV.out]; rfl, lb_trans HB.out hb1⟩
      | false =>
        have HN' : Hid (∀ j, j < k + 1 → alW l j = false) := fun j hj => by
          by_cases e : j = k
          · rw [e]; exact HP.out
          · exact HN.out j (by omega)
        by_cases hkm : k < m
        · have hkm' : (k : Int) < (m : Int) := by omega
          cases b2 with
          | true =>
            have HV : Hid (kindN l = 0) := HK2.out k hkm HP2.out
            clear HP HP2 HK1 HK2 HK3 HN HN2 HN'
            go_wp2_with (first
              | (go_at_call 29; refine (C _).mono ?_; rintro e w1 ⟨rfl, hb1⟩; have q1 := lkeep hb1 q)
              | (go_at_call 30; refine (C2 _).mono ?_; rintro e w2 ⟨rfl, hb2⟩))
            go_ret
            exact ⟨by rw [HV.out]; rfl, lb_trans HB.out (lb_trans hb1 hb2)⟩
          | false =>
            have HN2' : Hid (∀ j, j < k + 1 → j < m → enW l j = false) := fun j hj hjm => by
              by_cases e : j = k
              · rw [e]; exact HP2.out
              · exact HN2.out j (by omega) hjm
            clear HP HP2 HK1 HK2 HK3 HN HN2
            go_wp2_with (first
              | (go_at_call 29; refine (C _).mono ?_; rintro e w1 ⟨rfl, hb1⟩; have q1 := lkeep hb1 q)
              | (go_at_call 30; refine (C2 _).mono ?_; rintro e w2 ⟨rfl, hb2⟩))
            go_roundw
            case rel => exact ⟨k + 1, by go_num, by omega, HN', HN2', lb_trans HB.out (lb_trans hb1 hb2)⟩
            case measure => simp [intOf]; omega
        · have hkm' : ¬ (k : Int) < (m : Int) := by omega
          have HN2' : Hid (∀ j, j < k + 1 → j < m → enW l j = false) := fun j hj hjm => HN2.out j (by omega) hjm
          clear HP HP2 HK1 HK2 HK3 HN HN2 C2
          go_wp2_with (go_at_call 29; refine (C _).mono ?_; rintro e w1 ⟨rfl, hb1⟩)
          go_roundw
          case rel => exact ⟨k + 1, by go_num, by omega, HN', HN2', lb_trans HB.out hb1⟩
          case measure => simp [intOf]; omega
    · obtain rfl : k = m + 1 := by omega
      have hlt' : ¬ (m : Int) + 1 < (m : Int) + 1 := by omega
      obtain ⟨q, v0, v1⟩ := HC.out m (by omega)
      replace q := lkeep HB.out q
      have HV : Hid (kindN l = lastN (dOp (nth l m))) := HK3.out HN.out (fun i hi => HN2.out i (by omega) hi)
      clear HK1 HK2 HK3 HN HN2 HC
      generalize nth l m = v at *
      have CD := fun wx => refdecode_any v v0 v1 wx
      generalize dOp v = op at *
      generalize dD v = dd at *
      generalize dA v = da at *
      generalize dB v = db at *
      generalize dN v = dn at *
      have HE : Hid (∀ x : Int, lastN op = x → kindN l = x) := fun x e => by rw [HV.out, e]
      by_cases k0 : op = 0 ∨ op = 15 ∨ op = 19 ∨ op = 21
      · have HF : Hid (lastN op = 1) := last1 k0
        rcases k0 with rfl | rfl | rfl | rfl
        all_goals (
          go_wp2_with (go_at_call 31; refine (CD _).mono ?_; rintro e w3 ⟨rfl, hb3⟩)
          go_ret
          exact ⟨by rw [HE.out 1 HF.out]; rfl, lb_trans HB.out hb3⟩)
      · by_cases k1 : op = 17 ∨ op = 18
        · have HF : Hid (lastN op = 2) := last2 k1
          clear k0
          rcases k1 with rfl | rfl
          all_goals (
            go_wp2_with (go_at_call 31; refine (CD _).mono ?_; rintro e w3 ⟨rfl, hb3⟩)
            go_ret
            exact ⟨by rw [HE.out 2 HF.out]; rfl, lb_trans HB.out hb3⟩)
        · have HF : Hid (lastN op = 3) := last3 k0 k1
          have o1 : (op == 0) = false := by rw [beq_eq_false_iff_ne]; omega
          have o2 : (op == 15) = false := by rw [beq_eq_false_iff_ne]; omega
          have o3 : (op == 19) = false := by rw [beq_eq_false_iff_ne]; omega
          have o4 : (op == 21) = false := by rw [beq_eq_false_iff_ne]; omega
          have o5 : (op == 17) = false := by rw [beq_eq_false_iff_ne]; omega
          have o6 : (op == 18) = false := by rw [beq_eq_false_iff_ne]; omega
          clear k0 k1
          go_wp2_with (go_at_call 31; refine (CD _).mono ?_; rintro e w3 ⟨rfl, hb3⟩)
          go_ret
          exact ⟨by rw [HE.out 3 HF.out]; rfl, lb_trans HB.out hb3⟩

end Go.Proofs.YtmlhnnmelopleaaGreatDoor

namespace Go.Proofs.YtmlhnnmelopleaaGreatDoor
open Go.RowKit

set_option maxRecDepth 100000 in
set_option maxHeartbeats 2000000 in
theorem refof_any (A : Option Addr) (ca : Nat) (zs : List Rel) (p : Int) (w : World) (hA : RelsAt w A zs) (hz : zs.length ≤ 1048576) :
    Calls Tryz.prog 42 #[.slice A zs.length ca, .int .i64 p] w fun e w' => e = .returned (.int .i64 (ofB zs p)) ∧ Below w.heap.size w w' := by
  have HA : Hid (RelsAt w A zs) := hA
  clear hA
  go_enter Tryz.func42, Tryz.ntmps42
  go_wp2
  go_loopw [5] (fun i wr => ∃ k : Nat, i = .int .i64 k ∧ k ≤ zs.length ∧ Hid (∀ j, j < k → hasB zs p j = false) ∧ Hid (Below w.heap.size w wr)) (fun i _ => zs.length - (intOf i).toNat)
  case atStart => exact ⟨0, rfl, Nat.zero_le _, fun j hj => absurd hj (Nat.not_lt_zero _), Below.refl _ _⟩
  case round =>
    obtain ⟨k, rfl, hk, HN, HB⟩ := hrel
    by_cases hlt : k < zs.length
    · obtain ⟨a, rfl, c0, c1⟩ := HA.out k hlt
      have p0 : wr.cell? (a.add (k * 2)) = some (.int .i64 (rAt zs k)) := lkeep HB.out c0
      have p1 : wr.cell? ⟨(a.add (k * 2)).block, (a.add (k * 2)).off + 1, none⟩ = some (.int .i64 (rSym zs k)) := lkeep HB.out c1
      clear c0 c1
      have HH : Hid (hasB zs p k = decide (rAt zs k ≤ p ∧ p < rSym zs k)) := rfl
      generalize rAt zs k = x at *
      generalize rSym zs k = y at *
      by_cases h0 : x ≤ p
      · by_cases h1 : p < y
        · have HV : Hid (ofB zs p = (k : Int)) := of_at hlt HN.out (by rw [HH.out, decide_eq_true_eq]; exact ⟨h0, h1⟩)
          go_wp2
          go_ret
          exact ⟨by rw [HV.out]; rfl, HB.out⟩
        · have HV : Hid (hasB zs p k = false) := by rw [Hid, HH.out, decide_eq_false_iff_not]; exact fun h => h1 h.2
          go_wp2
          go_roundw
          case rel => exact ⟨k + 1, by go_num, by omega, fun j hj => by
            by_cases e : j = k
            · rw [e]; exact HV.out
            · exact HN.out j (by omega), HB.out⟩
          case measure => simp [intOf]; omega
      · have hd : decide (x ≤ p) = false := by simpa using h0
        have HV : Hid (hasB zs p k = false) := by rw [Hid, HH.out, decide_eq_false_iff_not]; exact fun h => h0 h.1
        go_wp2
        go_roundw
        case rel => exact ⟨k + 1, by go_num, by omega, fun j hj => by
          by_cases e : j = k
          · rw [e]; exact HV.out
          · exact HN.out j (by omega), HB.out⟩
        case measure => simp [intOf]; omega
    · obtain rfl : k = zs.length := by omega
      have HV : Hid (ofB zs p = -1) := of_no HN.out
      go_wp2
      go_ret
      exact ⟨by rw [HV.out]; rfl, HB.out⟩


end Go.Proofs.YtmlhnnmelopleaaGreatDoor
