/-
  The iterator: what it tells.
-/
import Derived.Test.YtokhclindfipbaaGreatDoorProg
import Derived.WalkKit
import Derived.WalkSpells
import Derived.WalkLawsBesides
import Derived.RowKit3
import Derived.Below
import Derived.Deep.QuietTactic
import Derived.BigQuiet
import Derived.WalkSmall
import Derived.Laws.Rows
import Derived.RangeFuncNested
import Derived.RangeFuncBound
import Derived.RangeFuncCalls
import Derived.RangeFuncLeaves
import Derived.Shelf.Abstract
import Derived.Shelf.RegionOpen
import Derived.OwnWalkIn
import Derived.TacticsInMore
import Derived.LoopNIn
import Derived.LoopIn
import Derived.Maps.AppendAt
import Derived.RangeFuncBox
import Derived.Test.YtokhclindfipbaaGreatDoorPa36
namespace Go.Proofs.YtokhclindfipbaaGreatDoor
open Go.RowKit

attribute [local go_sem] Oper.semAt_some

def repV (n : Nat) (O : Option Addr) (k c : Nat) : Value := .agg #[.int .i64 (n : Int), .slice O k c]
theorem cpN_len (nm : List Int) (f : Nat) : cpN nm f ≤ nm.length := by
  unfold cpN
  by_cases c : f = 0
  · rw [if_pos c]; omega
  · rw [if_neg c]
    have := cpL_le (nm.drop (snth (sufN nm) (f - 1))) (nm.drop (snth (sufN nm) f))
    rw [List.length_drop] at this
    unfold cpS
    omega
theorem yield_nil (l0 : Nat) (w : World) : (binOp BinOp.eql 120 (.func (.yield l0) #[] #[]) .nilFunc).run Tryz.prog w = .ok (.bool false) w := by kernel_rfl
set_option maxRecDepth 100000 in
set_option maxHeartbeats 8000000 in
theorem each1_any (d : Nat) (hd : 1 ≤ d) (l0 B : Nat) (A1 A2 A3 A4 : Option Addr) (c1 c2 c3 c4 : Nat) (nm : List Int) (en : Nat → Nat) (he : EnP nm en) (hl : nm.length ≤ 2048) (b0 : Nat) (J Jx : List (Nat × Nat) → World → Prop)
    (hJ : ∀ T W W', J T W → Below W.heap.size W W' → J T W') (hR : ∀ T W, J T W → RwS W B A1 A2 A3 A4 c1 c2 c3 c4 nm en ∧ b0 ≤ W.heap.size)
    (hY : ∀ (T : List (Nat × Nat)) (r : Nat × Nat) (O : Option Addr) (c : Nat) (Wq W : World), T ++ [r] <+: eachL nm en → J T Wq → Below Wq.heap.size Wq W → W.ownsRow Wq.heap.size 3 1 (.slice O (plcS nm en r.2 r.1).length c) (plcS nm en r.2 r.1).length (iVals .i64 (nV64 (plcS nm en r.2 r.1))) → YieldAt Fence.wide (d - 1) Tryz.prog l0 #[repV r.1 O (plcS nm en r.2 r.1).length c] W fun e W' => (e = .returned (.bool true) ∧ J (T ++ [r]) W') ∨ (e = .returned (.bool false) ∧ Jx (T ++ [r]) W'))
    (W : World) (h0 : J [] W) :
    CallsIn Fence.wide d Tryz.prog 37 #[.pointer (some ⟨B, 0, none⟩), .func (.yield l0) #[] #[]] W fun e W' => (∃ v, e = .returned v) ∧ (J (eachL nm en) W' ∨ ∃ T, T <+: eachL nm en ∧ Jx T W') := by
  have HJ : Hid (∀ T W W', J T W → Below W.heap.size W W' → J T W') := hJ
  have HR : Hid (∀ T W, J T W → RwS W B A1 A2 A3 A4 c1 c2 c3 c4 nm en ∧ b0 ≤ W.heap.size) := hR
  have HY : Hid _ := hY
  have HE : Hid (EnP nm en) := he
  have H0 : Hid (J [] W) := h0
  have f3 := (hR _ _ h0).1.f3
  clear hJ hR hY he h0
  refine callsIn_of_wp Tryz.func37 rfl trivial ?_ rfl
  simp only [Tryz.ntmps37, List.size_toArray, List.length_cons, List.length_nil, Nat.reduceAdd, Nat.reduceSub, Array.replicate_succ, Array.replicate_zero, List.push_toArray, List.append_toArray, List.nil_append, List.cons_append]
  have hnil := yield_nil l0
  gi_wp2
  clear f3
  gi_loopw [15] (fun i wr => ∃ f : Nat, f ≤ nm.length ∧ i = .int .i64 (f : Int) ∧ Hid (J (preE nm en f) wr)) (fun i _ => nm.length - (intOf i).toNat)
  case atStart => exact ⟨0, Nat.zero_le _, rfl, H0⟩
  case round =>
    clear H0
    obtain ⟨f, hf, rfl, HJf⟩ := hrel
    by_cases hlt : f < nm.length
    · have hlt' : (f : Int) < (nm.length : Int) := by omega
      have hf0 : (0 : Int) ≤ (f : Int) := by omega
      obtain ⟨a, ea, q⟩ := (HR.out _ wr HJf.out).1.r3 f (by rw [cpA_len]; exact hlt)
      subst ea
      rw [cpA_nth hlt] at q
      have hc2 := cpN_len nm f
      have hc0 : (0 : Int) ≤ (cpN nm f : Int) := by omega
      have hc3 : (cpN nm f : Int) ≤ 2048 := by omega
      obtain ⟨m0, hm0⟩ : ∃ m0, m0 = n0N nm f := ⟨_, rfl⟩
      have hmx : max (2 : Int) ((cpN nm f : Int) + 1) = (m0 : Int) := by rw [hm0]; unfold n0N; omega
      have HM0 : Hid (m0 = n0N nm f) := hm0
      have hm2 : m0 ≤ nm.length + 1 := by rw [hm0]; unfold n0N; omega
      have HJ0 : Hid (J (preE nm en f ++ rowE nm en f m0) wr) := by unfold Hid; rw [rowE_start nm en f (by omega), List.append_nil]; exact HJf.out
      clear hm0 HJf
      generalize cpN nm f = cp at *
      gi_wp2
      clear hmx q hc0 hc2 hc3
      gi_loopw [6] (fun i wz => ∃ n : Nat, i = .int .i64 (n : Int) ∧ m0 ≤ n ∧ n ≤ nm.length + 1 ∧ Hid (J (preE nm en f ++ rowE nm en f n) wz)) (fun i _ => nm.length + 1 - (intOf i).toNat)
      case atStart => exact ⟨m0, rfl, Nat.le_refl _, hm2, HJ0⟩
      case round =>
        clear HJ0 hm2
        obtain ⟨n, rfl, hn0, hn1, HJn⟩ := hrel
        obtain ⟨hrs, hbs⟩ := HR.out _ wr HJn.out
        have C := places_any B _ _ _ _ _ _ _ _ nm en f n wr hrs HE.out hl hlt (by omega)
        have hT : tellB nm en f n = decide (2 ≤ (plcR nm en (snth (sufN nm) f) n).length) := by
          unfold tellB
          rw [decide_eq_true (show n0N nm f ≤ n by have := HM0.out; omega), Bool.true_and]
        have hlg := plcR_long (nm := nm) (en := en) HE.out (a := snth (sufN nm) f) (n := n)
        by_cases hk : (plcR nm en (snth (sufN nm) f) n).length < 2
        · have HD : Hid (J (preE nm en (f + 1)) = J (preE nm en f ++ rowE nm en f n)) := by unfold Hid; rw [preE, rowE_done HE.out hn1 hk]
          have hk' : ((plcR nm en (snth (sufN nm) f) n).length : Int) < 2 := by omega
          clear hT hlg
          generalize plcR nm en (snth (sufN nm) f) n = L at *
          gi_wp2_with fail
          refine ⟨trivial, (callsIn_wide.2 C).mono ?_⟩
          rintro e W2 ⟨O, c, rfl, hrow, hbel⟩
          have HJ2 : Hid (J (preE nm en (f + 1)) W2) := by unfold Hid; rw [HD.out]; exact HJ.out _ _ _ HJn.out hbel
          clear hrow hbel
          gi_wp2
          exact ⟨⟨f + 1, by omega, by go_num, HJ2⟩, by simp [intOf]; omega⟩
        · have hk2 : 2 ≤ (plcR nm en (snth (sufN nm) f) n).length := by omega
          have hk' : ¬ ((plcR nm en (snth (sufN nm) f) n).length : Int) < 2 := by omega
          have hn2 := hlg (by omega)
          have HY1 : Hid (rowE nm en f (n + 1) = rowE nm en f n ++ [oneR nm en f n]) := rowE_yes (by rw [hT]; exact decide_eq_true hk2)
          have HP : Hid ((preE nm en f ++ rowE nm en f n) ++ [oneR nm en f n] <+: eachL nm en) := by
            unfold Hid
            rw [List.append_assoc, ← HY1.out]
            exact each_pre hlt (by omega)
          have hpl := oneR_plc HE.out hk2
          have HYr := HY.out (preE nm en f ++ rowE nm en f n) (oneR nm en f n)
          rw [show (oneR nm en f n).1 = n from rfl, ← hpl] at HYr
          have HYR : Hid _ := HYr
          have HPN : Hid (preE nm en f ++ rowE nm en f n ++ [oneR nm en f n] = preE nm en f ++ rowE nm en f (n + 1)) := by unfold Hid; rw [HY1.out, List.append_assoc]
          clear hT hlg hpl HYr hk hk2 HY1
          generalize plcR nm en (snth (sufN nm) f) n = L at *
          gi_wp2_with fail
          refine ⟨trivial, (callsIn_wide.2 C).mono ?_⟩
          rintro e W2 ⟨O, c, rfl, hrow, hbel⟩
          obtain ⟨fn, tmps, assign, body, hy, hR2⟩ := HYR.out O c wr W2 HP.out HJn.out hbel hrow
          unfold repV at hy
          clear hrow hbel C hrs
          gi_wp2
          refine hR2.mono ?_
          rintro e W3 (⟨rfl, hJ3⟩ | ⟨rfl, hJx3⟩)
          · have HJ3 : Hid (J (preE nm en f ++ rowE nm en f (n + 1)) W3) := by unfold Hid; rw [← HPN.out]; exact hJ3
            clear hJ3 hR2 hy
            gi_wp2
            go_roundw
            case rel => exact ⟨n + 1, by go_num, by omega, by omega, HJ3⟩
            case measure => simp [intOf]; omega
          · gi_wp2
            refine bodyPost_ret (results_none rfl _ _ _) rfl ?_
            exact ⟨⟨_, rfl⟩, .inr ⟨_, HP.out, hJx3⟩⟩
    · obtain rfl : f = nm.length := by omega
      have hlt' : ¬ ((nm.length : Int) < (nm.length : Int)) := by omega
      gi_wp2
      go_end0
      exact ⟨⟨_, rfl⟩, .inl HJf.out⟩


end Go.Proofs.YtokhclindfipbaaGreatDoor
