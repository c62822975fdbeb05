/-
  The small known run. The document's Kind. Two lists of numbers compared, by the document's helpers: true just if they are one list; the first is at most 2^20 long. Two lists of symbols, of relocations compared, by the document's helpers: true just if they are one list; the first is at most 2^20 long. An object compared with one that is the same, by the document's helper: true; the lists are at most 2^20 long. The law ClassKinds.
-/
import Derived.Test.YtmlhnnmelopleaaGreatDoorProg
import Derived.WalkKit
import Derived.WalkSpells
import Derived.WalkLawsBesides
import Derived.RowKit3
import Derived.Below
import Derived.Deep.QuietTactic
import Derived.BigQuiet
import Derived.WalkSmall
import Derived.Laws.Rows
import Derived.Test.YtmlhnnmelopleaaGreatDoorPk44
import Derived.Test.YtmlhnnmelopleaaGreatDoorPk40
import Derived.Test.YtmlhnnmelopleaaGreatDoorPk16
import Derived.Test.YtmlhnnmelopleaaGreatDoorPk14
import Derived.Test.YtmlhnnmelopleaaGreatDoorPk08
import Derived.Test.YtmlhnnmelopleaaGreatDoorPk07
import Derived.Test.YtmlhnnmelopleaaGreatDoorPk01
namespace Go.Proofs.YtmlhnnmelopleaaGreatDoor
open Go.RowKit

def wk3 : List Int := [142606341, 1879572480, 2818572288]
theorem wk3_in : ∀ i, i < wk3.length → 0 ≤ nth wk3 i ∧ nth wk3 i < 4294967296 := by
  intro i hi
  have : i = 0 ∨ i = 1 ∨ i = 2 := by simp [wk3] at hi; omega
  rcases this with rfl | rfl | rfl <;> exact ⟨by decide, by decide⟩
theorem wk3_ints {w : World} {g : Nat} (h : w.heap[g]? = some (.cells #[.int .u32 142606341, .int .u32 1879572480, .int .u32 2818572288] 63 (0, 0))) : IntsAt w (some ⟨g, 0, none⟩) .u32 wk3 := by
  intro i hi
  refine ⟨⟨g, 0, none⟩, rfl, ?_⟩
  rw [add0]
  have : i = 0 ∨ i = 1 ∨ i = 2 := by simp [wk3] at hi; omega
  rcases this with rfl | rfl | rfl <;> exact wbox_at h rfl
theorem wk3_chk : checkI wk3 0 0 = (0, 0) := by kernel_rfl
theorem wk3_beh {H : Int → Nat} (h : BhI wk3 0 H) : H ((1 : Nat) : Int) = 0 := by
  obtain ⟨F, G, h1, h2⟩ := h
  have hl : (blkL wk3 0).length = 1 := by kernel_rfl
  have hA : rAt (blkL wk3 0) 0 = 0 := by kernel_rfl
  have hS : rSym (blkL wk3 0) 0 = 3 := by kernel_rfl
  have hE : rowZ (edgT wk3 0 (blkL wk3 0).length) 0 = [] := by kernel_rfl
  have hG : G ((0 : Nat) : Int) = 0 := by
    have := h1.sol.out 0 (by omega)
    rw [hE] at this
    exact this
  have k := h2 0 (by omega)
  rw [hA, hS, hG] at k
  have e : setB wk3 3 0 (3 - 1 - ((1 : Nat) : Int)).toNat = 0 := by kernel_rfl
  rw [k 1 (by omega) (by omega), e]
theorem wk3_one (H : Int → Nat) : spotN wk3 0 H 3 0 = (1, 0) := by
  have e1 : inB wk3 0 3 0 = true := by kernel_rfl
  have e2 : kindN (cutN wk3 0 3) = 1 := by kernel_rfl
  unfold spotN
  rw [e1, e2]
  simp
theorem wk3_two {H : Int → Nat} (h : Gd wk3 0 H 2 0) : spotN wk3 0 H 2 0 = (3, 0) := by
  have e1 : inB wk3 0 2 0 = true := by kernel_rfl
  have e2 : kindN (cutN wk3 0 2) = 3 := by kernel_rfl
  have e3 := wk3_beh (h e2)
  unfold spotN
  rw [e1, e2, show 0 + 2 - 1 = 1 from rfl, e3]
  simp
theorem wk3_k : kindN wk3 = 1 := by kernel_rfl
set_option maxRecDepth 100000 in
set_option maxHeartbeats 4000000 in
theorem works_any (w : World) (hT : Tz w) : Calls Tryz.prog 6 #[] w fun e w' => e = .returned (.bool true) ∧ Below w.heap.size w w' := by
  obtain ⟨W, HW⟩ : ∃ W, Hid ((w.alloc (.cells #[.int .u32 142606341, .int .u32 1879572480, .int .u32 2818572288] 63)).alloc (.cells #[.slice (some ⟨w.heap.size, 0, none⟩) 3 3, .int .i64 0, .slice none 0 0] 31) = W) := ⟨_, rfl⟩
  have HB : Hid (Below w.heap.size w W) := by unfold Hid; rw [← HW.out]; exact lb_alloc (lb_alloc (Below.refl _ _) _) _
  have h1 : W.heap[w.heap.size]? = some (.cells #[.int .u32 142606341, .int .u32 1879572480, .int .u32 2818572288] 63 (0, 0)) := by rw [← HW.out]; exact old_at (new_at rfl)
  have h3 : W.heap[w.heap.size + 1]? = some (.cells #[.slice (some ⟨w.heap.size, 0, none⟩) 3 3, .int .i64 0, .slice none 0 0] 31 (0, 0)) := by rw [← HW.out]; exact new_at (by simp)
  have x0 : W.cell? ⟨w.heap.size + 1, 0, none⟩ = some (.slice (some ⟨w.heap.size, 0, none⟩) 3 3) := wbox_at h3 rfl
  have x1 : W.cell? ⟨w.heap.size + 1, 1, none⟩ = some (.int .i64 0) := wbox_at h3 rfl
  have x2 : W.cell? ⟨w.heap.size + 1, 2, none⟩ = some (.slice none 0 0) := wbox_at h3 rfl
  have hI := wk3_ints h1
  have CS : ∀ (n : Int) wx, Below W.heap.size W wx → Calls Tryz.prog 20 #[.agg #[.slice (some ⟨w.heap.size, 0, none⟩) 3 3, .int .i64 0, .slice none 0 0], .int .i64 n, .int .i64 0] wx (SpotP wk3 0 0 n 0 wx) := fun n wx hb => spot_any (some ⟨w.heap.size, 0, none⟩) none 3 0 0 0 wk3 n 0 wx (hT.below (lb_trans HB.out hb)) (hI.keep hb) wk3_in (by decide) (by decide) (by decide) (by decide)
  have CK : ∀ wx, Below W.heap.size W wx → Calls Tryz.prog 8 #[.slice (some ⟨w.heap.size, 0, none⟩) 3 3] wx fun e w' => e = .returned (.int .i8 1) ∧ Below wx.heap.size wx w' := fun wx hb => by
    have := kind_any (some ⟨w.heap.size, 0, none⟩) 3 wk3 wx (hI.keep hb) wk3_in (by decide) (by decide)
    rw [wk3_k] at this
    exact this
  have S1 : ∀ e wx wy, SpotP wk3 0 0 3 0 wx e wy → e = .returned (.tuple #[.agg #[.int .i64 0, .int .i8 1, .int .i8 0], .bool true, .int .i64 0]) ∧ Below wx.heap.size wx wy := fun e wx wy h => by
    obtain ⟨hb, h | h | h⟩ := h
    · exact absurd (by rw [wk3_chk]) h.1
    · exact absurd (show fitB wk3 3 0 = true by kernel_rfl) (by rw [h.2.1]; simp)
    · obtain ⟨-, -, H, -, he⟩ := h
      refine ⟨?_, hb⟩
      rw [he, show (3 : Int).toNat = 3 from rfl, show (0 : Int).toNat = 0 from rfl, wk3_one]
      rfl
  have S2 : ∀ e wx wy, SpotP wk3 0 0 2 0 wx e wy → e = .returned (.tuple #[.agg #[.int .i64 0, .int .i8 3, .int .i8 0], .bool true, .int .i64 0]) ∧ Below wx.heap.size wx wy := fun e wx wy h => by
    obtain ⟨hb, h | h | h⟩ := h
    · exact absurd (by rw [wk3_chk]) h.1
    · exact absurd (show fitB wk3 2 0 = true by kernel_rfl) (by rw [h.2.1]; simp)
    · obtain ⟨-, -, H, hG, he⟩ := h
      refine ⟨?_, hb⟩
      rw [he, show (2 : Int).toNat = 2 from rfl, show (0 : Int).toNat = 0 from rfl, wk3_two hG]
      rfl
  have C1 := (CS 3 W (Below.refl _ _)).mono (S1 · W ·)
  have C2 := fun wx hb => (CS 2 wx hb).mono (S2 · wx ·)
  clear CS S1 S2 hI h1 h3 hT
  go_enter Tryz.func6, Tryz.ntmps6
  go_upto_region 2 with fail
  rw [HW.out]
  clear HW
  go_upto_region 3 with (go_at_call 20; refine C1.mono ?_; rintro e w1 ⟨rfl, hb1⟩)
  obtain ⟨W1, HW1⟩ : ∃ W1, Hid (w1.alloc (.cells #[.int .i64 0, .int .i8 1, .int .i8 0] 54) = W1) := ⟨_, rfl⟩
  have HB1 : Hid (Below W.heap.size W W1) := by unfold Hid; rw [← HW1.out]; exact lb_alloc hb1 _
  have s0 : W1.cell? ⟨w1.heap.size, 0, none⟩ = some (.int .i64 0) := by rw [← HW1.out]; simp [go_sem]
  have s1 : W1.cell? ⟨w1.heap.size, 1, none⟩ = some (.int .i8 1) := by rw [← HW1.out]; simp [go_sem]
  have s2 : W1.cell? ⟨w1.heap.size, 2, none⟩ = some (.int .i8 0) := by rw [← HW1.out]; simp [go_sem]
  have y0 := lkeep HB1.out x0
  have y1 := lkeep HB1.out x1
  have y2 := lkeep HB1.out x2
  have C2 := C2 W1 HB1.out
  rw [HW1.out]
  clear HW1 C1 x0 x1 x2
  go_upto_region 4 with (go_at_call 20; refine C2.mono ?_; rintro e w2 ⟨rfl, hb2⟩)
  obtain ⟨W2, HW2⟩ : ∃ W2, Hid (w2.alloc (.cells #[.int .i64 0, .int .i8 3, .int .i8 0] 54) = W2) := ⟨_, rfl⟩
  have HB2 : Hid (Below W1.heap.size W1 W2) := by unfold Hid; rw [← HW2.out]; exact lb_alloc hb2 _
  have t0 : W2.cell? ⟨w2.heap.size, 0, none⟩ = some (.int .i64 0) := by rw [← HW2.out]; simp [go_sem]
  have t1 : W2.cell? ⟨w2.heap.size, 1, none⟩ = some (.int .i8 3) := by rw [← HW2.out]; simp [go_sem]
  have t2 : W2.cell? ⟨w2.heap.size, 2, none⟩ = some (.int .i8 0) := by rw [← HW2.out]; simp [go_sem]
  have z0 := lkeep HB2.out y0
  have u0 := lkeep HB2.out s0
  have u1 := lkeep HB2.out s1
  have u2 := lkeep HB2.out s2
  have CK := CK W2 (lb_trans HB1.out HB2.out)
  rw [HW2.out]
  clear HW2 C2 y0 y1 y2 s0 s1 s2 hb1 hb2
  have HBF : Hid (Below w.heap.size w W2) := lb_trans HB.out (lb_trans HB1.out HB2.out)
  go_wp2_with (go_at_call 8; refine CK.mono ?_; rintro e w3 ⟨rfl, hb3⟩)
  go_ret
  exact ⟨rfl, lb_trans HBF.out hb3⟩

end Go.Proofs.YtmlhnnmelopleaaGreatDoor

namespace Go.Proofs.YtmlhnnmelopleaaGreatDoor
open Go.RowKit

theorem refends1 (v : Int) (h0 : 0 ≤ v) (h1 : v < 4294967296) (w : World) : Calls Tryz.prog 30 #[.int .u32 v] w fun e w' => e = .returned (.bool (enB1 v)) ∧ Below w.heap.size w w' := refends_any v h0 h1 w
set_option maxRecDepth 100000 in
set_option maxHeartbeats 8000000 in
theorem refkind_any (A : Option Addr) (c : Nat) (l : List Int) (w : World) (hA : IntsAt w A .u32 l) (hR : ∀ i, i < l.length → 0 ≤ nth l i ∧ nth l i < 4294967296) (hl : l.length ≤ 1048576) :
    Calls Tryz.prog 9 #[.slice A l.length c] w fun e w' => e = .returned (.int .i8 (kindN l)) ∧ Below w.heap.size w w' := by
  by_cases h0 : l.length = 0
  · have HV : Hid (kindN l = 0) := kind_empty h0
    obtain rfl : l = [] := List.eq_nil_of_length_eq_zero h0
    clear hA hR
    go_enter Tryz.func9, Tryz.ntmps9
    go_wp2
    go_loopw [3] (fun i wr => i = .int .i64 0 ∧ wr = w) (fun _ _ => 0)
    case atStart => exact ⟨rfl, rfl⟩
    case round =>
      obtain ⟨rfl, e2⟩ := hrel
      have e3 := e2.symm; clear e2; subst e3
      go_wp2
      go_ret
      exact ⟨by rw [HV.out]; rfl, Below.refl _ _⟩
  obtain ⟨a, ea, -⟩ := hA 0 (by omega)
  subst ea
  have HA : Hid (IntsAt w (some a) .u32 l) := hA
  have HR : Hid (∀ i, i < l.length → 0 ≤ nth l i ∧ nth l i < 4294967296) := hR
  obtain ⟨m, hm⟩ : ∃ m, l.length = m + 1 := ⟨l.length - 1, by omega⟩
  have HK1 : Hid (∀ i, i < m + 1 → alW l i = true → kindN l = 0) := fun i hi h => kind_alone (hasN_yes (by omega) h)
  have HK2 : Hid (∀ i, i < m → enW l i = true → kindN l = 0) := fun i hi h => kind_ends (hasN_yes (by omega) h)
  have HK3 : Hid ((∀ i, i < m + 1 → alW l i = false) → (∀ i, i < m → enW l i = false) → kindN l = lastN (dOp (nth l m))) := fun h1 h2 => by
    have := kind_last h0 (hasN_no (fun i hi => h1 i (by omega))) (hasN_no (fun i hi => h2 i (by omega)))
    rwa [show l.length - 1 = m by omega] at this
  have HC : Hid (∀ i, i < m + 1 → w.cell? (a.add i) = some (.int .u32 (nth l i)) ∧ 0 ≤ nth l i ∧ nth l i < 4294967296) := fun i hi => by
    obtain ⟨a', ea, q⟩ := HA.out i (by omega)
    obtain rfl := Option.some.inj ea
    exact ⟨q, HR.out i (by omega)⟩
  have hne : ((m : Int) + 1 == 0) = false := by rw [beq_eq_false_iff_ne]; omega
  rw [hm] at hl ⊢
  clear hA hR HA HR h0 hm
  go_enter Tryz.func9, Tryz.ntmps9
  go_wp2
  go_loopw [3] (fun i wr => ∃ k : Nat, i = .int .i64 (k : Int) ∧ k ≤ m + 1 ∧ Hid (∀ j, j < k → alW l j = false) ∧ Hid (∀ j, j < k → j < m → enW l j = false) ∧ Hid (Below w.heap.size w wr)) (fun i _ => m + 1 - (intOf i).toNat)
  case atStart => exact ⟨0, rfl, Nat.zero_le _, fun j hj => absurd hj (Nat.not_lt_zero _), fun j hj => absurd hj (Nat.not_lt_zero _), Below.refl _ _⟩
  case round =>
    obtain ⟨k, rfl, hk, HN, HN2, HB⟩ := hrel
    by_cases hlt : k < m + 1
    · have hlt' : (k : Int) < (m : Int) + 1 := by omega
      obtain ⟨q, v0, v1⟩ := HC.out k hlt
      replace q := lkeep HB.out q
      have HP : Hid (alW l k = alB (nth l k)) := rfl
      have HP2 : Hid (enW l k = enB1 (nth l k)) := rfl
      generalize nth l k = v at *
      have C := fun wx => refalone_any v v0 v1 wx
      have C2 := fun wx => refends1 v v0 v1 wx
      generalize alB v = b at *
      generalize enB1 v = b2 at *
      cases b with
      | true =>
        have HV : Hid (kindN l = 0) := HK1.out k hlt HP.out
        clear HP HP2 HK1 HK2 HK3 HN HN2 C2
        go_wp2_with (go_at_call 29; refine (C _).mono ?_; rintro e w1 ⟨rfl, hb1⟩)
        go_ret
        exact ⟨by rw [HV.out]; rfl, lb_trans HB.out hb1⟩
      | false =>
        have HN' : Hid (∀ j, j < k + 1 → alW l j = false) := fun j hj => by
          by_cases e : j = k
          · rw [e]; exact HP.out
          · exact HN.out j (by omega)
        by_cases hkm : k < m
        · have hkm' : (k : Int) < (m : Int) := by omega
          cases b2 with
          | true =>
            have HV : Hid (kindN l = 0) := HK2.out k hkm HP2.out
            clear HP HP2 HK1 HK2 HK3 HN HN2 HN'
            go_wp2_with (first
              | (go_at_call 29; refine (C _).mono ?_; rintro e w1 ⟨rfl, hb1⟩; have q1 := lkeep hb1 q)
              | (go_at_call 30; refine (C2 _).mono ?_; rintro e w2 ⟨rfl, hb2⟩))
            go_ret
            exact ⟨by rw [HV.out]; rfl, lb_trans HB.out (lb_trans hb1 hb2)⟩
          | false =>
            have HN2' : Hid (∀ j, j < k + 1 → j < m → enW l j = false) := fun j hj hjm => by
              by_cases e : j = k
              · rw [e]; exact HP2.out
              · exact HN2.out j (by omega) hjm
            clear HP HP2 HK1 HK2 HK3 HN HN2
            go_wp2_with (first
              | (go_at_call 29; refine (C _).mono ?_; rintro e w1 ⟨rfl, hb1⟩; have q1 := lkeep hb1 q)
              | (go_at_call 30; refine (C2 _).mono ?_; rintro e w2 ⟨rfl, hb2⟩))
            go_roundw
            case rel => exact ⟨k + 1, by go_num, by omega, HN', HN2', lb_trans HB.out (lb_trans hb1 hb2)⟩
            case measure => simp [intOf]; omega
        · have hkm' : ¬ (k : Int) < (m : Int) := by omega
          have HN2' : Hid (∀ j, j < k + 1 → j < m → enW l j = false) := fun j hj hjm => HN2.out j (by omega) hjm
          clear HP HP2 HK1 HK2 HK3 HN HN2 C2
          go_wp2_with (go_at_call 29; refine (C _).mono ?_; rintro e w1 ⟨rfl, hb1⟩)
          go_roundw
          case rel => exact ⟨k + 1, by go_num, by omega, HN', HN2', lb_trans HB.out hb1⟩
          case measure => simp [intOf]; omega
    · obtain rfl : k = m + 1 := by omega
      have hlt' : ¬ (m : Int) + 1 < (m : Int) + 1 := by omega
      obtain ⟨q, v0, v1⟩ := HC.out m (by omega)
      replace q := lkeep HB.out q
      have HV : Hid (kindN l = lastN (dOp (nth l m))) := HK3.out HN.out (fun i hi => HN2.out i (by omega) hi)
      clear HK1 HK2 HK3 HN HN2 HC
      generalize nth l m = v at *
      have CD := fun wx => refdecode_any v v0 v1 wx
      generalize dOp v = op at *
      generalize dD v = dd at *
      generalize dA v = da at *
      generalize dB v = db at *
      generalize dN v = dn at *
      have HE : Hid (∀ x : Int, lastN op = x → kindN l = x) := fun x e => by rw [HV.out, e]
      by_cases k0 : op = 0 ∨ op = 15 ∨ op = 19 ∨ op = 21
      · have HF : Hid (lastN op = 1) := last1 k0
        rcases k0 with rfl | rfl | rfl | rfl
        all_goals (
          go_wp2_with (go_at_call 31; refine (CD _).mono ?_; rintro e w3 ⟨rfl, hb3⟩)
          go_ret
          exact ⟨by rw [HE.out 1 HF.out]; rfl, lb_trans HB.out hb3⟩)
      · by_cases k1 : op = 17 ∨ op = 18
        · have HF : Hid (lastN op = 2) := last2 k1
          clear k0
          rcases k1 with rfl | rfl
          all_goals (
            go_wp2_with (go_at_call 31; refine (CD _).mono ?_; rintro e w3 ⟨rfl, hb3⟩)
            go_ret
            exact ⟨by rw [HE.out 2 HF.out]; rfl, lb_trans HB.out hb3⟩)
        · have HF : Hid (lastN op = 3) := last3 k0 k1
          have o1 : (op == 0) = false := by rw [beq_eq_false_iff_ne]; omega
          have o2 : (op == 15) = false := by rw [beq_eq_false_iff_ne]; omega
          have o3 : (op == 19) = false := by rw [beq_eq_false_iff_ne]; omega
          have o4 : (op == 21) = false := by rw [beq_eq_false_iff_ne]; omega
          have o5 : (op == 17) = false := by rw [beq_eq_false_iff_ne]; omega
          have o6 : (op == 18) = false := by rw [beq_eq_false_iff_ne]; omega
          clear k0 k1
          go_wp2_with (go_at_call 31; refine (CD _).mono ?_; rintro e w3 ⟨rfl, hb3⟩)
          go_ret
          exact ⟨by rw [HE.out 3 HF.out]; rfl, lb_trans HB.out hb3⟩

end Go.Proofs.YtmlhnnmelopleaaGreatDoor

namespace Go.Proofs.YtmlhnnmelopleaaGreatDoor
open Go.RowKit

set_option maxRecDepth 100000 in
set_option maxHeartbeats 1000000 in
theorem eqwords_any (A B : Option Addr) (ca cb : Nat) (zs ys : List Int) (w : World) (hA : IntsAt w A .u32 zs) (hB : IntsAt w B .u32 ys) (hz : zs.length ≤ 1048576) :
    Calls Tryz.prog 10 #[.slice A zs.length ca, .slice B ys.length cb] w fun e w' => e = .returned (.bool (decide (zs = ys))) ∧ Below w.heap.size w w' := by
  by_cases hl : zs.length = ys.length
  · have hl' : ((zs.length : Int) == (ys.length : Int)) = true := by rw [hl]; simp
    have HL : Hid (zs.length = ys.length) := hl
    clear hl
    go_enter Tryz.func10, Tryz.ntmps10
    go_wp2
    go_loopw [5] (fun i wr => ∃ (k m : Nat), i = .int .i64 k ∧ k ≤ zs.length ∧ wr = w.drewN m ∧ Hid (zs.take k = ys.take k)) (fun i _ => zs.length - (intOf i).toNat)
    case atStart => exact ⟨0, 0, rfl, by omega, rfl, by simp [Hid]⟩
    case round =>
      obtain ⟨k, m, rfl, hk, rfl, HT⟩ := hrel
      by_cases hlt : k < zs.length
      · obtain ⟨a, rfl, c1⟩ := hA k hlt
        obtain ⟨b, rfl, c2⟩ := hB k (by have := HL.out; omega)
        have hlt2 : (k : Int) < (ys.length : Int) := by have := HL.out; omega
        by_cases he : nth zs k = nth ys k
        · have HE : Hid (nth zs k = nth ys k) := he
          have he' : (nth zs k == nth ys k) = true := by simpa using he
          clear he
          go_wp2_with fail
          go_quiet (fail)
          go_wp2
          go_roundw
          case rel => exact ⟨k + 1, _, by go_num, by omega, rfl, take_same HT.out hlt (by omega) HE.out⟩
          case measure => simp [intOf]; omega
        · have HE : Hid (¬ nth zs k = nth ys k) := he
          have he' : (nth zs k == nth ys k) = false := by simpa using he
          clear he
          go_wp2_with fail
          go_quiet (fail)
          go_wp2
          go_ret
          exact ⟨retB (decide_eq_false (nth_ne HE.out)).symm, below_drewN (below_drewN (Below.refl _ _) _) _⟩
      · go_wp2
        go_ret
        exact ⟨retB (decide_eq_true (take_all HT.out (by omega) HL.out)).symm, below_drewN (Below.refl _ _) _⟩
  · have hl' : ((zs.length : Int) == (ys.length : Int)) = false := by simp; omega
    have HL : Hid (¬ zs.length = ys.length) := hl
    clear hl
    go_enter Tryz.func10, Tryz.ntmps10
    go_wp2
    go_ret
    exact ⟨retB (decide_eq_false (fun h => HL.out (by rw [h]))).symm, Below.refl _ _⟩

set_option maxRecDepth 100000 in
set_option maxHeartbeats 1000000 in
theorem eqlongs_any (A B : Option Addr) (ca cb : Nat) (zs ys : List Int) (w : World) (hA : IntsAt w A .i64 zs) (hB : IntsAt w B .i64 ys) (hz : zs.length ≤ 1048576) :
    Calls Tryz.prog 40 #[.slice A zs.length ca, .slice B ys.length cb] w fun e w' => e = .returned (.bool (decide (zs = ys))) ∧ Below w.heap.size w w' := by
  by_cases hl : zs.length = ys.length
  · have hl' : ((zs.length : Int) == (ys.length : Int)) = true := by rw [hl]; simp
    have HL : Hid (zs.length = ys.length) := hl
    clear hl
    go_enter Tryz.func40, Tryz.ntmps40
    go_wp2
    go_loopw [5] (fun i wr => ∃ (k m : Nat), i = .int .i64 k ∧ k ≤ zs.length ∧ wr = w.drewN m ∧ Hid (zs.take k = ys.take k)) (fun i _ => zs.length - (intOf i).toNat)
    case atStart => exact ⟨0, 0, rfl, by omega, rfl, by simp [Hid]⟩
    case round =>
      obtain ⟨k, m, rfl, hk, rfl, HT⟩ := hrel
      by_cases hlt : k < zs.length
      · obtain ⟨a, rfl, c1⟩ := hA k hlt
        obtain ⟨b, rfl, c2⟩ := hB k (by have := HL.out; omega)
        have hlt2 : (k : Int) < (ys.length : Int) := by have := HL.out; omega
        by_cases he : nth zs k = nth ys k
        · have HE : Hid (nth zs k = nth ys k) := he
          have he' : (nth zs k == nth ys k) = true := by simpa using he
          clear he
          go_wp2_with fail
          go_quiet (fail)
          go_wp2
          go_roundw
          case rel => exact ⟨k + 1, _, by go_num, by omega, rfl, take_same HT.out hlt (by omega) HE.out⟩
          case measure => simp [intOf]; omega
        · have HE : Hid (¬ nth zs k = nth ys k) := he
          have he' : (nth zs k == nth ys k) = false := by simpa using he
          clear he
          go_wp2_with fail
          go_quiet (fail)
          go_wp2
          go_ret
          exact ⟨retB (decide_eq_false (nth_ne HE.out)).symm, below_drewN (below_drewN (Below.refl _ _) _) _⟩
      · go_wp2
        go_ret
        exact ⟨retB (decide_eq_true (take_all HT.out (by omega) HL.out)).symm, below_drewN (Below.refl _ _) _⟩
  · have hl' : ((zs.length : Int) == (ys.length : Int)) = false := by simp; omega
    have HL : Hid (¬ zs.length = ys.length) := hl
    clear hl
    go_enter Tryz.func40, Tryz.ntmps40
    go_wp2
    go_ret
    exact ⟨retB (decide_eq_false (fun h => HL.out (by rw [h]))).symm, Below.refl _ _⟩



end Go.Proofs.YtmlhnnmelopleaaGreatDoor

namespace Go.Proofs.YtmlhnnmelopleaaGreatDoor
open Go.RowKit

set_option maxRecDepth 100000 in
set_option maxHeartbeats 4000000 in
theorem lawKinds (A : Option Addr) (c : Nat) (l : List Int) (w : World) (hT : Tz w) (hA : IntsAt w A .u32 l) (hR : ∀ i, i < l.length → 0 ≤ nth l i ∧ nth l i < 4294967296) (h0 : A = none → c = 0) :
    Calls Tryz.prog 3 #[.slice A l.length c] w fun e w' => e = .returned (.bool true) ∧ Below w.heap.size w w' := by
  by_cases hm : 8192 < l.length
  · have hm' : (8192 : Int) < (l.length : Int) := by omega
    have CW := works_any w hT
    clear hA hR hT
    go_enter Tryz.func3, Tryz.ntmps3
    go_wp2_with (go_at_call 6; refine CW.mono ?_; rintro e w1 ⟨rfl, hb1⟩)
    go_ret
    exact ⟨rfl, hb1⟩
  · have hm' : ¬ (8192 : Int) < (l.length : Int) := by omega
    have C1 := copywords_any A c l w hA h0 (by omega)
    have HA : Hid (IntsAt w A .u32 l) := hA
    have HR : Hid (∀ i, i < l.length → 0 ≤ nth l i ∧ nth l i < 4294967296) := hR
    have HT : Hid (Tz w) := hT
    clear hA hR hT
    go_enter Tryz.func3, Tryz.ntmps3
    go_wp2_with fail
    refine C1.mono ?_
    rintro e w1 ⟨O, k, rfl, hown, hg, hn⟩
    rw [zNews_vals] at hown
    have hb1 : Below w.heap.size w w1 := below_grow (Below.refl _ _) hg
    have hok : l.length ≤ k := own_cap hown
    have HO : Hid (IntsAt w1 O .u32 l) := row_ints hown
    have HB1 : Hid (Below w.heap.size w w1) := hb1
    clear hown hg hn hb1 C1
    have C2 := kind_any O k l w1 HO.out HR.out hok (by omega)
    go_wp2_with fail
    refine C2.mono ?_
    rintro e w2 ⟨rfl, hb2⟩
    have HB2 : Hid (Below w.heap.size w w2) := lb_trans HB1.out hb2
    have HO2 : Hid (IntsAt w2 O .u32 l) := HO.out.keep hb2
    have C3 := refkind_any A c l w2 (HA.out.keep HB2.out) HR.out (by omega)
    clear HO hb2 C2
    generalize kindN l = kd at *
    go_wp2_with fail
    refine C3.mono ?_
    rintro e w3 ⟨rfl, hb3⟩
    have HB3 : Hid (Below w.heap.size w w3) := lb_trans HB2.out hb3
    have C4 := eqwords_any O A k c l l w3 (HO2.out.keep hb3) (HA.out.keep HB3.out) (by omega)
    simp only [decide_true] at C4
    clear hb3 C3 HO2
    go_wp2_with fail
    refine C4.mono ?_
    rintro e w4 ⟨rfl, hb4⟩
    have HB4 : Hid (Below w.heap.size w w4) := lb_trans HB3.out hb4
    have CW := works_any w4 (HT.out.below HB4.out)
    clear hb4 C4
    go_wp2_with (go_at_call 6; refine CW.mono ?_; rintro e w5 ⟨rfl, hb5⟩)
    go_ret
    exact ⟨rfl, lb_trans HB4.out hb5⟩

end Go.Proofs.YtmlhnnmelopleaaGreatDoor
