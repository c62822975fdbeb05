/-
  Whether a row has a word of a kind; the program's Kind.
-/
import Derived.Test.YtmlhnnmelopleaaGreatDoorProg
import Derived.WalkKit
import Derived.WalkSpells
import Derived.WalkLawsBesides
import Derived.RowKit3
import Derived.Below
import Derived.Deep.QuietTactic
import Derived.BigQuiet
import Derived.WalkSmall
import Derived.Laws.Rows
import Derived.Test.YtmlhnnmelopleaaGreatDoorPs12
import Derived.Test.YtmlhnnmelopleaaGreatDoorPs15
import Derived.Test.YtmlhnnmelopleaaGreatDoorPs09
import Derived.Test.YtmlhnnmelopleaaGreatDoorPs08
namespace Go.Proofs.YtmlhnnmelopleaaGreatDoor
open Go.RowKit

def enB1 (v : Int) : Bool := endsB (dOp v)
theorem isaends1 (v : Int) (h0 : 0 ≤ v) (h1 : v < 4294967296) (w : World) : Calls Tryz.prog 27 #[.int .u32 v] w fun e w' => e = .returned (.bool (enB1 v)) ∧ Below w.heap.size w w' := isaends_any v h0 h1 w

set_option maxRecDepth 100000 in
set_option maxHeartbeats 2000000 in
theorem ixf_al (A : Option Addr) (c m : Nat) (l : List Int) (w : World) (hA : IntsAt w A .u32 l) (hR : ∀ i, i < l.length → 0 ≤ nth l i ∧ nth l i < 4294967296) (hm : m ≤ l.length) (hl : l.length ≤ 1048576) :
    Calls Tryz.prog 45 #[.slice A m c, .func (.func 26) #[] #[]] w fun e w' => (∃ k : Int, e = .returned (.int .i64 k) ∧ decide (0 ≤ k) = hasN (alW l) m) ∧ Below w.heap.size w w' := by
  have HA : Hid (IntsAt w A .u32 l) := hA
  have HR : Hid (∀ i, i < l.length → 0 ≤ nth l i ∧ nth l i < 4294967296) := hR
  clear hA hR
  go_enter Tryz.func45, Tryz.ntmps45
  go_wp2
  go_loopw [8] (fun i wr => ∃ k : Nat, i = .int .i64 (k : Int) ∧ k ≤ m ∧ Hid (∀ j, j < k → alW l j = false) ∧ Hid (Below w.heap.size w wr)) (fun i _ => m - (intOf i).toNat)
  case atStart => exact ⟨0, rfl, Nat.zero_le _, fun j hj => absurd hj (Nat.not_lt_zero _), Below.refl _ _⟩
  case round =>
    obtain ⟨k, rfl, hk, HN, HB⟩ := hrel
    by_cases hlt : k < m
    · have hlt' : (k : Int) < (m : Int) := by omega
      obtain ⟨a, ea, q⟩ := HA.out k (by omega)
      subst ea
      replace q := lkeep HB.out q
      obtain ⟨v0, v1⟩ := HR.out k (by omega)
      have HP : Hid (alW l k = alB (nth l k)) := rfl
      generalize nth l k = v at *
      have C := fun wx => aloneOK v wx v0 v1
      generalize hb0 : alB v = b at *
      have hb : Hid (alB v = b) := hb0
      clear hb0
      cases b with
      | true =>
        go_wp2_with (go_at_call 26; refine (C _).mono ?_; rintro e w1 ⟨rfl, hb1⟩)
        go_ret
        refine ⟨⟨(k : Int), rfl, ?_⟩, lb_trans HB.out hb1⟩
        rw [hasN_yes hlt HP.out]
        simp
      | false =>
        go_wp2_with (go_at_call 26; refine (C _).mono ?_; rintro e w1 ⟨rfl, hb1⟩)
        go_roundw
        case rel => exact ⟨k + 1, by go_num, by omega, fun j hj => by
          by_cases e : j = k
          · rw [e]; exact HP.out
          · exact HN.out j (by omega), lb_trans HB.out hb1⟩
        case measure => simp [intOf]; omega
    · obtain rfl : k = m := by omega
      have HV : Hid (hasN (alW l) k = false) := hasN_no HN.out
      go_wp2
      go_ret
      exact ⟨⟨-1, rfl, by rw [HV.out]; rfl⟩, HB.out⟩
set_option maxRecDepth 100000 in
set_option maxHeartbeats 2000000 in
theorem cof_al (A : Option Addr) (c m : Nat) (l : List Int) (w : World) (hA : IntsAt w A .u32 l) (hR : ∀ i, i < l.length → 0 ≤ nth l i ∧ nth l i < 4294967296) (hm : m ≤ l.length) (hl : l.length ≤ 1048576) :
    Calls Tryz.prog 25 #[.slice A m c, .func (.func 26) #[] #[]] w fun e w' => e = .returned (.bool (hasN (alW l) m)) ∧ Below w.heap.size w w' := by
  have C := ixf_al A c m l w hA hR hm hl
  clear hA hR
  generalize hasN (alW l) m = b at *
  go_enter Tryz.func25, Tryz.ntmps25
  go_wp2_with (go_at_call 45; refine C.mono ?_; rintro e w1 ⟨⟨k, rfl, hk⟩, hb1⟩; have HK : Hid (decide (0 ≤ k) = b) := hk; clear hk)
  go_ret
  exact ⟨by rw [← HK.out]; rfl, hb1⟩

set_option maxRecDepth 100000 in
set_option maxHeartbeats 2000000 in
theorem ixf_en (A : Option Addr) (c m : Nat) (l : List Int) (w : World) (hA : IntsAt w A .u32 l) (hR : ∀ i, i < l.length → 0 ≤ nth l i ∧ nth l i < 4294967296) (hm : m ≤ l.length) (hl : l.length ≤ 1048576) :
    Calls Tryz.prog 45 #[.slice A m c, .func (.func 27) #[] #[]] w fun e w' => (∃ k : Int, e = .returned (.int .i64 k) ∧ decide (0 ≤ k) = hasN (enW l) m) ∧ Below w.heap.size w w' := by
  have HA : Hid (IntsAt w A .u32 l) := hA
  have HR : Hid (∀ i, i < l.length → 0 ≤ nth l i ∧ nth l i < 4294967296) := hR
  clear hA hR
  go_enter Tryz.func45, Tryz.ntmps45
  go_wp2
  go_loopw [8] (fun i wr => ∃ k : Nat, i = .int .i64 (k : Int) ∧ k ≤ m ∧ Hid (∀ j, j < k → enW l j = false) ∧ Hid (Below w.heap.size w wr)) (fun i _ => m - (intOf i).toNat)
  case atStart => exact ⟨0, rfl, Nat.zero_le _, fun j hj => absurd hj (Nat.not_lt_zero _), Below.refl _ _⟩
  case round =>
    obtain ⟨k, rfl, hk, HN, HB⟩ := hrel
    by_cases hlt : k < m
    · have hlt' : (k : Int) < (m : Int) := by omega
      obtain ⟨a, ea, q⟩ := HA.out k (by omega)
      subst ea
      replace q := lkeep HB.out q
      obtain ⟨v0, v1⟩ := HR.out k (by omega)
      have HP : Hid (enW l k = enB1 (nth l k)) := rfl
      generalize nth l k = v at *
      have C := fun wx => isaends1 v v0 v1 wx
      generalize hb0 : enB1 v = b at *
      have hb : Hid (enB1 v = b) := hb0
      clear hb0
      cases b with
      | true =>
        go_wp2_with (go_at_call 27; refine (C _).mono ?_; rintro e w1 ⟨rfl, hb1⟩)
        go_ret
        refine ⟨⟨(k : Int), rfl, ?_⟩, lb_trans HB.out hb1⟩
        rw [hasN_yes hlt HP.out]
        simp
      | false =>
        go_wp2_with (go_at_call 27; refine (C _).mono ?_; rintro e w1 ⟨rfl, hb1⟩)
        go_roundw
        case rel => exact ⟨k + 1, by go_num, by omega, fun j hj => by
          by_cases e : j = k
          · rw [e]; exact HP.out
          · exact HN.out j (by omega), lb_trans HB.out hb1⟩
        case measure => simp [intOf]; omega
    · obtain rfl : k = m := by omega
      have HV : Hid (hasN (enW l) k = false) := hasN_no HN.out
      go_wp2
      go_ret
      exact ⟨⟨-1, rfl, by rw [HV.out]; rfl⟩, HB.out⟩
set_option maxRecDepth 100000 in
set_option maxHeartbeats 2000000 in
theorem cof_en (A : Option Addr) (c m : Nat) (l : List Int) (w : World) (hA : IntsAt w A .u32 l) (hR : ∀ i, i < l.length → 0 ≤ nth l i ∧ nth l i < 4294967296) (hm : m ≤ l.length) (hl : l.length ≤ 1048576) :
    Calls Tryz.prog 25 #[.slice A m c, .func (.func 27) #[] #[]] w fun e w' => e = .returned (.bool (hasN (enW l) m)) ∧ Below w.heap.size w w' := by
  have C := ixf_en A c m l w hA hR hm hl
  clear hA hR
  generalize hasN (enW l) m = b at *
  go_enter Tryz.func25, Tryz.ntmps25
  go_wp2_with (go_at_call 45; refine C.mono ?_; rintro e w1 ⟨⟨k, rfl, hk⟩, hb1⟩; have HK : Hid (decide (0 ≤ k) = b) := hk; clear hk)
  go_ret
  exact ⟨by rw [← HK.out]; rfl, hb1⟩

theorem head_run (A : Addr) (n c h : Nat) (h2 : h ≤ n) (h3 : n ≤ c) (h4 : 0 < c) (w : World) : (Instr.slice 22 (.slice (some A) n c) none (some (.int .i64 (h : Int))) none).run Tryz.prog w = .ok (.slice (some A) h c) w := by
  rw [run_slice_h (P := Tryz.prog) w 22 (some A) n c (by kernel_rfl) .i64 (h : Int) (by omega) (by omega)]
  rw [show (sizeOf (Tryz.prog.elem 22)).run Tryz.prog w = .ok 1 w by kernel_rfl]
  show Result.ok (sliced (some A) 0 (h : Int).toNat c 1) w = _
  unfold sliced
  rw [if_neg (by omega)]
  simp [Addr.add]
set_option maxRecDepth 100000 in
set_option maxHeartbeats 4000000 in
theorem kind_any (A : Option Addr) (c : Nat) (l : List Int) (w : World) (hA : IntsAt w A .u32 l) (hR : ∀ i, i < l.length → 0 ≤ nth l i ∧ nth l i < 4294967296) (hc : l.length ≤ c) (hl : l.length ≤ 1048576) :
    Calls Tryz.prog 8 #[.slice A l.length c] w fun e w' => e = .returned (.int .i8 (kindN l)) ∧ Below w.heap.size w w' := by
  by_cases h0 : l.length = 0
  · have HV : Hid (kindN l = 0) := kind_empty h0
    obtain rfl : l = [] := List.eq_nil_of_length_eq_zero h0
    clear hA hR
    go_enter Tryz.func8, Tryz.ntmps8
    go_wp2
    go_ret
    exact ⟨by rw [HV.out]; rfl, Below.refl _ _⟩
  obtain ⟨a, ea, -⟩ := hA 0 (by omega)
  subst ea
  have C1 := cof_al (some a) c l.length l w hA hR (Nat.le_refl _) hl
  have C2 := fun wx (hb : Below w.heap.size w wx) => cof_en (some a) c (l.length - 1) l wx (hA.keep hb) hR (by omega) hl
  have HA : Hid (IntsAt w (some a) .u32 l) := hA
  have HR : Hid (∀ i, i < l.length → 0 ≤ nth l i ∧ nth l i < 4294967296) := hR
  have HK1 : Hid (hasN (alW l) l.length = true → kindN l = 0) := fun h => kind_alone h
  have HK2 : Hid (hasN (enW l) (l.length - 1) = true → kindN l = 0) := fun h => kind_ends h
  have HK3 : Hid (hasN (alW l) l.length = false → hasN (enW l) (l.length - 1) = false → kindN l = lastN (dOp (nth l (l.length - 1)))) := fun h1 h2 => kind_last h0 h1 h2
  clear hA hR
  generalize hasN (alW l) l.length = b1 at *
  generalize hasN (enW l) (l.length - 1) = b2 at *
  have HQ : Hid ((some a).isSome ∧ ∃ x : Addr, some a = some x ∧ w.cell? (x.add (l.length - 1)) = some (.int .u32 (nth l (l.length - 1)))) := ⟨rfl, HA.out _ (by omega)⟩
  obtain ⟨v0, v1⟩ := HR.out (l.length - 1) (by omega)
  obtain ⟨a', ea, q⟩ := HQ.out.2
  obtain rfl := Option.some.inj ea
  clear HQ ea HA HR
  generalize nth l (l.length - 1) = v at *
  obtain ⟨m, hm⟩ : ∃ m, l.length = m + 1 := ⟨l.length - 1, by omega⟩
  rw [hm] at C1 C2 q hc hl ⊢
  have hm1 : m + 1 - 1 = m := by omega
  rw [hm1] at C2 q
  have hr := head_run a (m + 1) c m (by omega) hc (by omega)
  have hne : ((m : Int) + 1 == 0) = false := by rw [beq_eq_false_iff_ne]; omega
  clear h0 hm hm1
  cases b1 with
  | true =>
    have HV : Hid (kindN l = 0) := HK1.out rfl
    clear HK1 HK2 HK3 C2
    go_enter Tryz.func8, Tryz.ntmps8
    go_wp2_with (go_at_call 25; refine C1.mono ?_; rintro e w1 ⟨rfl, hb1⟩)
    go_ret
    exact ⟨by rw [HV.out]; rfl, hb1⟩
  | false =>
  cases b2 with
  | true =>
    have HV : Hid (kindN l = 0) := HK2.out rfl
    clear HK1 HK2 HK3
    go_enter Tryz.func8, Tryz.ntmps8
    go_wp2_with (first
      | (go_at_call 25; first | (refine C1.mono ?_; rintro e w1 ⟨rfl, hb1⟩) | (refine (C2 _ hb1).mono ?_; rintro e w2 ⟨rfl, hb2⟩)))
    go_ret
    exact ⟨by rw [HV.out]; rfl, lb_trans hb1 hb2⟩
  | false =>
  have CD := fun wx => isadecode_any v v0 v1 wx
  have HV : Hid (kindN l = lastN (dOp v)) := HK3.out rfl rfl
  have hop := dOp_le7 v v0 v1
  clear HK1 HK2 HK3
  generalize kindN l = kd at *
  generalize dOp v = op at *
  generalize dD v = dd at *
  generalize dA v = da at *
  generalize dB v = db at *
  generalize dN v = dn at *
  have HE : Hid (∀ x : Int, lastN op = x → Ending.returned (Value.int .i8 x) = Ending.returned (.int .i8 kd)) := fun x e => by rw [HV.out, e]
  go_enter Tryz.func8, Tryz.ntmps8
  go_upto_region 6 with (first
    | (go_at_call 25; first | (refine C1.mono ?_; rintro e w1 ⟨rfl, hb1⟩) | (refine (C2 _ hb1).mono ?_; rintro e w2 ⟨rfl, hb2⟩)))
  have HB2 : Hid (Below w.heap.size w w2) := lb_trans hb1 hb2
  replace q := lkeep HB2.out q
  clear hb1 hb2 C1 C2 hr
  by_cases k0 : op = 0 ∨ op = 15 ∨ op = 19 ∨ op = 21
  · have HF : Hid (lastN op = 1) := last1 k0
    rcases k0 with rfl | rfl | rfl | rfl
    all_goals (
      go_wp2_with (go_at_call 28; refine (CD _).mono ?_; rintro e w3 ⟨rfl, hb3⟩)
      go_ret
      exact ⟨HE.out 1 HF.out, lb_trans HB2.out hb3⟩)
  · by_cases k1 : op = 17 ∨ op = 18
    · have HF : Hid (lastN op = 2) := last2 k1
      clear k0
      rcases k1 with rfl | rfl
      all_goals (
        go_wp2_with (go_at_call 28; refine (CD _).mono ?_; rintro e w3 ⟨rfl, hb3⟩)
        go_ret
        exact ⟨HE.out 2 HF.out, lb_trans HB2.out hb3⟩)
    · have HF : Hid (lastN op = 3) := last3 k0 k1
      have o1 : (op == 0) = false := by rw [beq_eq_false_iff_ne]; omega
      have o2 : (op == 15) = false := by rw [beq_eq_false_iff_ne]; omega
      have o3 : (op == 19) = false := by rw [beq_eq_false_iff_ne]; omega
      have o4 : (op == 21) = false := by rw [beq_eq_false_iff_ne]; omega
      have o5 : (op == 17) = false := by rw [beq_eq_false_iff_ne]; omega
      have o6 : (op == 18) = false := by rw [beq_eq_false_iff_ne]; omega
      clear k0 k1
      go_wp2_with (go_at_call 28; refine (CD _).mono ?_; rintro e w3 ⟨rfl, hb3⟩)
      go_ret
      exact ⟨HE.out 3 HF.out, lb_trans HB2.out hb3⟩

end Go.Proofs.YtmlhnnmelopleaaGreatDoor
