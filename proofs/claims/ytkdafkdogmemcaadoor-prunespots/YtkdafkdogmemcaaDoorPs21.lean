/-
  PruneSpots.
-/
import Derived.Test.YtkdafkdogmemcaaDoorProg
import Derived.WalkKit
import Derived.WalkSpells
import Derived.WalkLawsBesides
import Derived.RowKit3
import Derived.Below
import Derived.Deep.QuietTactic
import Derived.BigQuiet
import Derived.WalkSmall
import Derived.Laws.Rows
import Derived.Test.YtkdafkdogmemcaaDoorPs11
import Derived.Test.YtkdafkdogmemcaaDoorPs18
import Derived.Test.YtkdafkdogmemcaaDoorPs19
import Derived.Test.YtkdafkdogmemcaaDoorPs20
namespace Go.Proofs.YtkdafkdogmemcaaDoor
open Go.RowKit

theorem apG_len {n : Int} : ∀ (l O : List Spt), (apG n O l).length ≤ O.length + l.length
  | [], O => Nat.le_refl _
  | x :: l, O => by
    unfold apG
    by_cases c : O.any (fun o => ovl n o x) = true
    · rw [if_pos c]
      have := apG_len (n := n) l O
      rw [List.length_cons]
      omega
    · rw [if_neg c]
      have := apG_len (n := n) l (O ++ [x])
      rw [List.length_append] at this
      rw [List.length_cons]
      simp at this
      omega
theorem apR_len (n : Int) (l : List Spt) : (apR n l).length ≤ l.length := by
  unfold apR
  by_cases c : wiB n l = true
  · rw [if_pos c]
    have := apG_len (n := n) l []
    simpa using this
  · rw [if_neg c]
    exact Nat.zero_le _
theorem bag_newS (w : World) : BagIs (w.alloc (.cells #[.slice none 0 0, .slice none 0 0, .slice none 0 0, .slice none 0 0, .slice none 0 0, .slice none 0 0, .slice none 0 0, .slice none 0 0, .slice none 0 0, .slice none 0 0, .slice none 0 0, .slice none 0 0, .slice none 0 0, .slice none 0 0, .slice none 0 0, .slice none 0 0, .slice none 0 0] 48)) w.heap.size (fun _ => .slice none 0 0) := by
  refine ⟨_, heap_alloc_new _ _, fun k hk => ?_⟩
  have hq : k = 0 ∨ k = 1 ∨ k = 2 ∨ k = 3 ∨ k = 4 ∨ k = 5 ∨ k = 6 ∨ k = 7 ∨ k = 8 ∨ k = 9 ∨ k = 10 ∨ k = 11 ∨ k = 12 ∨ k = 13 ∨ k = 14 ∨ k = 15 ∨ k = 16 := by omega
  rcases hq with rfl | rfl | rfl | rfl | rfl | rfl | rfl | rfl | rfl | rfl | rfl | rfl | rfl | rfl | rfl | rfl | rfl <;> rfl
theorem Fr.below {rs : List (Value × Nat)} {n : Nat} {w w1 w2 : World} (h : Fr rs w1 w2) (hb : Below n w w1) (hn : n ≤ w1.heap.size) (hq : ∀ m, m < rs.length → ∀ b, (rv rs m).ownBlock = some b → n ≤ b) : Below n w w2 :=
  ⟨h.os.trans hb.os, h.tape.trans hb.tape, h.output.trans hb.output, Nat.le_trans hb.size h.size, fun k hk => (h.block k (by omega) (fun m hm e => by have := hq m hm k e; omega)).trans (hb.block k hk)⟩
theorem own_keepS {w w' : World} {base : Nat} {e : TypeId} {size : Nat} {v : Value} {n : Nat} {xs : List Value} (h : w.ownsRow base e size v n xs) (hs : ∀ b, v.ownBlock = some b → w'.heap[b]? = w.heap[b]?) : w'.ownsRow base e size v n xs := by
  refine ⟨h.1, ?_⟩
  rcases h.2 with h1 | ⟨g, cap, cur, rfl, h2, hg, h3⟩
  · exact .inl h1
  · exact .inr ⟨g, cap, cur, rfl, h2, by rw [hs g rfl]; exact hg, h3⟩
theorem two_allS {P : Nat → Prop} (h0 : P 0) (h1 : P 1) : ∀ m, m < 2 → P m := fun m hm => by
  have : m = 0 ∨ m = 1 := by omega
  rcases this with rfl | rfl <;> assumption
set_option maxRecDepth 100000 in
set_option maxHeartbeats 8000000 in
theorem lawSpots20 (n : Int) (A : Option Addr) (c : Nat) (zs : List Spt) (w : World) (hA : SpAt w A zs) :
    Calls Tryd.prog 3 #[.int .i64 n, .slice A zs.length c] w fun e w' => e = .returned (.bool true) ∧ Below w.heap.size w w' := by
  have LV := fun wx => works_any wx
  unfold WkP at LV
  by_cases hbig : 1024 < zs.length
  · have hbig' : (1024 : Int) < (zs.length : Int) := by omega
    go_enter Tryd.func3, Tryd.ntmps3
    go_wp2_with fail
    refine (LV _).mono ?_
    rintro e w1 ⟨rfl, hb1⟩
    go_wp2
    go_ret
    exact ⟨rfl, hb1⟩
  have hbig' : ¬ (1024 : Int) < (zs.length : Int) := by omega
  have CW := widespots_lies A c zs w hA (by omega)
  unfold WspP at CW
  have HA : Hid (SpAt w A zs) := hA
  have HR : Hid ((apR n zs).length ≤ 1024) := by have := apR_len n zs; unfold Hid; omega
  have hzl : zs.length ≤ 1024 := by omega
  clear hA hbig
  go_enter Tryd.func3, Tryd.ntmps3
  go_wp2_with fail
  refine CW.mono ?_
  rintro e w1 ⟨g, rfl, hb1, hi1, hm1⟩
  have HB1 : Hid (Below w.heap.size w w1) := hb1
  have HI1 : Hid (SpAt w1 (some ⟨g, 0, none⟩) zs) := hi1
  have HM1 : Hid (MkSp w1 g zs.length) := hm1
  clear hb1 hi1 hm1 CW
  have CP := fun Z (hZ : Below w1.heap.size w1 Z) => papart_any n (some ⟨g, 0, none⟩) (zs.length + 64) zs Z (HI1.out.keep hZ) (by omega)
  have CD := fun Z (hZ : Below w.heap.size w Z) => refapart_any n A c zs Z (HA.out.keep hZ) (by omega)
  have CO := fun Z (hZ : Below w1.heap.size w1 Z) => poverlaps_any n (some ⟨g, 0, none⟩) (zs.length + 64) zs Z (HI1.out.keep hZ) (by omega)
  have CR := fun Z (hZ : Below w.heap.size w Z) => refoverlaps_any n A c zs Z (HA.out.keep hZ) (by omega)
  generalize apR n zs = R at *
  generalize ovR n zs = m at *
  go_wp2_with fail
  refine (CP _ (Below.refl _ _)).mono ?_
  rintro e w2 ⟨X2, k2, rfl, h2, hb2⟩
  have HO2 : Hid (w2.ownsRow w1.heap.size 53 3 (.slice X2 R.length k2) R.length (spNews R)) := h2
  have HB2 : Hid (Below w1.heap.size w1 w2) := hb2
  clear h2 hb2
  go_wp2_with fail
  refine (CD _ (lb_trans HB1.out HB2.out)).mono ?_
  rintro e w3 ⟨X3, k3, rfl, h3, hb3⟩
  have HI3 : Hid (SpAt w3 X3 R) := row_sps h3
  have HI2 : Hid (SpAt w3 X2 R) := row_sps (row_keep HO2.out hb3)
  have HB23 : Hid (Below w2.heap.size w2 w3) := hb3
  have HB3 : Hid (Below w1.heap.size w1 w3) := lb_trans HB2.out hb3
  clear h3 hb3 CD
  have CE := eqspots_any X2 X3 k2 k3 R R w3 HI2.out HI3.out (by have := HR.out; omega)
  simp only [decide_true] at CE
  go_wp2_with fail
  refine CE.mono ?_
  rintro e w4 ⟨rfl, hb4⟩
  have HB24 : Hid (Below w2.heap.size w2 w4) := lb_trans HB23.out hb4
  have HB4 : Hid (Below w1.heap.size w1 w4) := lb_trans HB3.out hb4
  clear hb4 CE
  go_wp2_with fail
  refine (CO _ HB4.out).mono ?_
  rintro e w5 ⟨rfl, hb5⟩
  have HB25 : Hid (Below w2.heap.size w2 w5) := lb_trans HB24.out hb5
  have HB5 : Hid (Below w1.heap.size w1 w5) := lb_trans HB4.out hb5
  clear hb5 CO
  go_wp2_with fail
  refine (CR _ (lb_trans HB1.out HB5.out)).mono ?_
  rintro e w6 ⟨rfl, hb6⟩
  have HB26 : Hid (Below w2.heap.size w2 w6) := lb_trans HB25.out hb6
  have HB6 : Hid (Below w1.heap.size w1 w6) := lb_trans HB5.out hb6
  clear hb6 CR
  have CE := eqspots_any (some ⟨g, 0, none⟩) A (zs.length + 64) c zs zs w6 (HI1.out.keep HB6.out) (HA.out.keep (lb_trans HB1.out HB6.out)) (by omega)
  simp only [decide_true] at CE
  go_wp2_with fail
  refine CE.mono ?_
  rintro e w7 ⟨rfl, hb7⟩
  have HB27 : Hid (Below w2.heap.size w2 w7) := lb_trans HB26.out hb7
  have HB7 : Hid (Below w1.heap.size w1 w7) := lb_trans HB6.out hb7
  clear hb7 CE
  go_wp2_with fail
  refine (sparespots_any g zs.length w7 (HM1.out.keep HB7.out) (by omega)).mono ?_
  rintro e w8 ⟨rfl, hb8⟩
  have HB28 : Hid (Below w2.heap.size w2 w8) := lb_trans HB27.out hb8
  have HB8 : Hid (Below w1.heap.size w1 w8) := lb_trans HB7.out hb8
  clear hb8
  obtain ⟨wb, hwb⟩ : ∃ wb, Hid (w8.alloc (.cells #[.slice none 0 0, .slice none 0 0, .slice none 0 0, .slice none 0 0, .slice none 0 0, .slice none 0 0, .slice none 0 0, .slice none 0 0, .slice none 0 0, .slice none 0 0, .slice none 0 0, .slice none 0 0, .slice none 0 0, .slice none 0 0, .slice none 0 0, .slice none 0 0, .slice none 0 0] 48) = wb) := ⟨_, rfl⟩
  have HG0 : Hid (BagIs wb w8.heap.size (fun _ => .slice none 0 0)) := by unfold Hid; rw [← hwb.out]; exact bag_newS w8
  have HBb : Hid (Below w8.heap.size w8 wb) := by unfold Hid; rw [← hwb.out]; exact lb_alloc (Below.refl _ _) _
  go_upto_region 8 with fail
  rw [hwb.out]
  clear hwb
  go_wp2_with fail
  refine (addspots_any w8.heap.size w8.heap.size _ [] X2 R.length k2 wb (Nat.le_refl _) HG0.out (World.ownsRow_nil _ _ _ _) (by simp)).mono ?_
  rintro e w9 ⟨rfl, V1, hg1, ho1, hb9, -⟩
  have HG1 : Hid (BagIs w9 w8.heap.size (upd (fun _ => .slice none 0 0) 12 V1)) := hg1
  have HV1 : Hid (w9.ownsRow w8.heap.size 22 1 V1 1 [.slice X2 R.length k2]) := ho1
  have HB9 : Hid (Below w8.heap.size w8 w9) := HBb.out.trans hb9
  clear hg1 ho1 hb9 HG0
  go_wp2_with fail
  refine (CP _ (lb_trans HB8.out HB9.out)).mono ?_
  rintro e w10 ⟨X4, k4, rfl, h4, hb10⟩
  have HO4 : Hid (w10.ownsRow w9.heap.size 53 3 (.slice X4 R.length k4) R.length (spNews R)) := h4
  have HG2 : Hid (BagIs w10 w8.heap.size (upd (fun _ => .slice none 0 0) 12 V1)) := HG1.out.keep (hb10.block _ HG1.out.lt)
  have HV2 : Hid (w10.ownsRow w8.heap.size 22 1 ((upd (fun _ => .slice none 0 0) 12 V1) 12) 1 [.slice X2 R.length k2]) := row_keep HV1.out hb10
  have HB10 : Hid (Below w8.heap.size w8 w10) := lb_trans HB9.out hb10
  clear h4 hb10 CP HG1 HV1
  go_wp2_with fail
  refine (addspots_any w8.heap.size w8.heap.size _ [.slice X2 R.length k2] X4 R.length k4 w10 (Nat.le_refl _) HG2.out HV2.out (by simp)).mono ?_
  rintro e w11 ⟨rfl, V2, hg2, ho2, hb11, hst⟩
  have HG3 : Hid (BagIs w11 w8.heap.size (upd (upd (fun _ => .slice none 0 0) 12 V1) 12 V2)) := hg2
  have HV3 : Hid (w11.ownsRow w8.heap.size 22 1 V2 2 [.slice X2 R.length k2, .slice X4 R.length k4]) := ho2
  have HB11 : Hid (Below w8.heap.size w8 w11) := HB10.out.trans hb11
  have HO5 : Hid (w11.ownsRow w9.heap.size 53 3 (.slice X4 R.length k4) R.length (spNews R)) := by
    refine own_keepS HO4.out fun b hb => hst b (HO4.out.lt b hb).2 (fun e => HG2.out.off HO4.out (by decide) (e ▸ hb)) fun e => ?_
    obtain ⟨q1, p1⟩ := own_block HO4.out hb
    obtain ⟨q2, p2⟩ := own_block HV2.out e
    rw [p1] at p2
    simp only [Option.some.injEq, Obj.cells.injEq] at p2
    exact absurd p2.2.1 (by decide)
  have HO6 : Hid (w11.ownsRow w1.heap.size 53 3 (.slice X2 R.length k2) R.length (spNews R)) := row_keep HO2.out (lb_trans HB28.out HB11.out)
  have HOf : Hid (∀ b, (Value.slice X2 R.length k2).ownBlock = some b → (Value.slice X4 R.length k4).ownBlock ≠ some b) := fun b h1 h2 => by
    have q1 := (HO2.out.lt b h1).2
    have q2 := (HO5.out.lt b h2).1
    have q3 := HB28.out.size
    have q4 := HB9.out.size
    omega
  have AP : Hid _ := apartS w8.heap.size _ [(.slice X2 R.length k2, R.length), (.slice X4 R.length k4, R.length)] w11 HG3.out (ownsRow_mono HV3.out (Nat.zero_le _)) (fun k h1 h2 => by unfold upd; rw [if_neg (by omega), if_neg (by omega)])
    (two_allS ⟨_, ownsRow_mono HO6.out (Nat.zero_le _)⟩ ⟨_, ownsRow_mono HO5.out (Nat.zero_le _)⟩) (fun m m' h1 h2 => by
      have e1 : m = 0 := by simp at h2; omega
      have e2 : m' = 1 := by simp at h2; omega
      subst e1
      subst e2
      exact HOf.out) (by simp) (fun m => by
      have hr := HR.out
      unfold rl
      match m with
      | 0 => exact Nat.le_trans hr (by omega)
      | 1 => exact Nat.le_trans hr (by omega)
      | m + 2 => exact Nat.zero_le _)
  have HPk : Hid (∀ m, m < 2 → ∀ b, (rv [(.slice X2 R.length k2, R.length), (.slice X4 R.length k4, R.length)] m).ownBlock = some b → w.heap.size ≤ b) := two_allS (fun b hb => by
      have q1 := (HO6.out.lt b hb).1
      have q2 := HB1.out.size
      omega) (fun b hb => by
      have q1 := (HO5.out.lt b hb).1
      have q2 := HB1.out.size
      have q3 := HB8.out.size
      have q4 := HB9.out.size
      omega)
  have HBw : Hid (Below w.heap.size w w11) := lb_trans HB1.out (lb_trans HB8.out HB11.out)
  clear hg2 ho2 hb11 hst HG2 HV2 HG3 HV3 HO5 HO6 HOf
  go_wp2_with fail
  refine (Calls.mono AP.out ?_)
  rintro e w12 ⟨rfl, hfr⟩
  have HB12 : Hid (Below w.heap.size w w12) := hfr.below HBw.out HBw.out.size HPk.out
  clear hfr AP
  go_wp2_with fail
  refine (LV _).mono ?_
  rintro e w13 ⟨rfl, hb13⟩
  have HB13 : Hid (Below w.heap.size w w13) := lb_trans HB12.out hb13
  clear hb13
  go_wp2
  go_ret
  exact ⟨rfl, HB13.out⟩

end Go.Proofs.YtkdafkdogmemcaaDoor
