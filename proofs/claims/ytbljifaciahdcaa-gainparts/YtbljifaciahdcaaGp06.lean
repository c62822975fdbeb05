/-
  GainParts.
-/
import Derived.Test.YtbljifaciahdcaaProg
import Derived.WalkKit
import Derived.WalkSpells
import Derived.WalkLawsBesides
import Derived.RowKit3
import Derived.Below
import Derived.Deep.QuietTactic
import Derived.BigQuiet
import Derived.WalkSmall
import Derived.Laws.Rows
import Derived.Test.YtbljifaciahdcaaGp05
import Derived.Test.YtbljifaciahdcaaGp03
import Derived.Deep.RegionHeld3
import Derived.Deep.AppendLies
namespace Go.Proofs.Ytbljifaciahdcaa
open Go.RowKit

set_option maxRecDepth 100000 in
set_option maxHeartbeats 8000000 in
theorem lawParts21 (n s0 s1 s2 : Int) (A : Option Addr) (c : Nat) (zs : List Spt) (w : World) (hA : SpAt w A zs) (h0 : A = none → c = 0) (hc : zs.length ≤ c) (hI : SpI zs) (hs1 : In8 s1) :
    Calls Try.prog 4 #[.int .i64 n, .slice A zs.length c, .agg #[.int .i64 s0, .int .i8 s1, .int .i8 s2]] w fun e w' => e = .returned (.bool true) ∧ Below w.heap.size w w' := by
  have LV := fun wx => works_any wx
  obtain ⟨iB, hi, hz0, hz1, hz2⟩ := infoSp
  obtain ⟨X, HX⟩ : ∃ X, Hid (w.alloc (.cells #[.int .i64 s0, .int .i8 s1, .int .i8 s2] 32) = X) := ⟨_, rfl⟩
  have HB : Hid (Below w.heap.size w X) := by unfold Hid; rw [← HX.out]; exact lb_alloc (Below.refl _ _) _
  have xh : X.heap[w.heap.size]? = some (.cells #[.int .i64 s0, .int .i8 s1, .int .i8 s2] 32 (0, 0)) := by rw [← HX.out]; exact heap_alloc_new _ _
  by_cases hbig : 4096 < zs.length
  · have hbig' : (4096 : Int) < (zs.length : Int) := by omega
    clear hA hi hz0 hz1 hz2 xh
    go_enter Try.func4, Try.ntmps4
    go_upto_region 1 with fail
    rw [HX.out]
    clear HX
    go_wp2_with fail
    refine (LV _).mono ?_
    rintro e w1 ⟨rfl, hb1⟩
    have HB1 : Hid (Below w.heap.size w w1) := lb_trans HB.out hb1
    clear hb1
    go_wp2
    go_ret
    exact ⟨rfl, HB1.out⟩
  have hbig' : ¬ (4096 : Int) < (zs.length : Int) := by omega
  by_cases hnil : zs.length = 0
  · have hnil' : ((zs.length : Int) == 0) = true := by rw [hnil]; rfl
    clear hA hi hz0 hz1 hz2 xh hc hbig
    go_enter Try.func4, Try.ntmps4
    go_upto_region 1 with fail
    rw [HX.out]
    clear HX
    go_wp2_with fail
    refine (LV _).mono ?_
    rintro e w1 ⟨rfl, hb1⟩
    have HB1 : Hid (Below w.heap.size w w1) := lb_trans HB.out hb1
    clear hb1
    go_wp2
    go_ret
    exact ⟨rfl, HB1.out⟩
  have hnil' : ((zs.length : Int) == 0) = false := by rw [beq_eq_false_iff_ne]; omega
  by_cases hn1 : n < 1
  · clear hA hi hz0 hz1 hz2 xh hc hbig
    go_enter Try.func4, Try.ntmps4
    go_upto_region 1 with fail
    rw [HX.out]
    clear HX
    go_wp2_with fail
    refine (LV _).mono ?_
    rintro e w1 ⟨rfl, hb1⟩
    have HB1 : Hid (Below w.heap.size w w1) := lb_trans HB.out hb1
    clear hb1
    go_wp2
    go_ret
    exact ⟨rfl, HB1.out⟩
  by_cases hn2 : 16384 < n
  · clear hA hi hz0 hz1 hz2 xh hc hbig
    go_enter Try.func4, Try.ntmps4
    go_upto_region 1 with fail
    rw [HX.out]
    clear HX
    go_wp2_with fail
    refine (LV _).mono ?_
    rintro e w1 ⟨rfl, hb1⟩
    have HB1 : Hid (Below w.heap.size w w1) := lb_trans HB.out hb1
    clear hb1
    go_wp2
    go_ret
    exact ⟨rfl, HB1.out⟩
  · have hn : 1 ≤ n ∧ n ≤ 16384 := by omega
    have hzl : 0 < zs.length := by omega
    have hz4 : zs.length ≤ 4096 := by omega
    obtain ⟨a, ea, -, -, -⟩ := hA 0 hzl
    subst ea
    have CC := copyspots_any (some a) c zs X (hA.keep HB.out) h0 (by omega)
    unfold SpsP at CC
    have HA : Hid (SpAt w (some a) zs) := hA
    have Y0 : Hid (∀ Z, Below w.heap.size w Z → Z.cell? ⟨a.block, a.off + 1, none⟩ = some (.int .i8 (spt zs 0).2.1)) := fun Z hZ => by
      obtain ⟨a', ea, -, p, -⟩ := (hA.keep hZ) 0 hzl
      cases ea
      rw [show a.add (0 * 3) = a by simp [Addr.add]] at p
      exact p
    have X0 : Hid (∀ Z, Below X.heap.size X Z → Z.cell? ⟨w.heap.size, 0, none⟩ = some (.int .i64 s0) ∧ Z.cell? ⟨w.heap.size, 1, none⟩ = some (.int .i8 s1) ∧ Z.cell? ⟨w.heap.size, 2, none⟩ = some (.int .i8 s2)) := fun Z hZ => by
      have hz := (hZ.block w.heap.size (Array.getElem?_eq_some_iff.1 xh).1).trans xh
      exact ⟨(cell_of_row Z _ 0 _ _ (0, 0) hz).trans rfl, (cell_of_row Z _ 1 _ _ (0, 0) hz).trans rfl, (cell_of_row Z _ 2 _ _ (0, 0) hz).trans rfl⟩
    have hg1 := gain_more (s0, s1, s2) hzl hn
    have hg2 := gain_one hzl hn
    have hb1 := gain_b (n := n) zs (by omega)
    have hb2 := costN_b s1
    have hb3 := costN_b (spt zs 0).2.1
    have hb4 := sizeN_b (c := (spt zs 0).2.1) hn
    have P1 : Hid (∀ (Z : World) (Y : Option Addr) (k : Nat), SpAt Z Y (zs ++ [(s0, s1, s2)]) → (zs ++ [(s0, s1, s2)]).length ≤ k → Calls Try.prog 7 #[.int .i64 n, .slice Y (zs.length + 1) k] Z fun e w' => e = .returned (.int .i64 (gainN n zs + n - costN s1)) ∧ Below Z.heap.size Z w') := fun Z Y k h hk => by
      have := pof_any n Y k (zs ++ [(s0, s1, s2)]) Z h (hI.more hs1) (by rw [List.length_append]; show zs.length + 1 ≤ _; omega) hk
      rw [hg1, List.length_append] at this
      exact this
    have P2 : Hid (∀ (Z : World), SpAt Z (some a) zs → Calls Try.prog 7 #[.int .i64 n, .slice (some a) zs.length c] Z fun e w' => e = .returned (.int .i64 (gainN n zs)) ∧ Below Z.heap.size Z w') := fun Z h => pof_any n (some a) c zs Z h hI (by omega) hc
    have P3 : Hid (∀ (Z : World), SpAt Z (some a) zs → Calls Try.prog 7 #[.int .i64 n, .slice (some a) 1 c] Z fun e w' => e = .returned (.int .i64 (n - costN (spt zs 0).2.1 - sizeN (spt zs 0).2.1 n)) ∧ Below Z.heap.size Z w') := fun Z h => by
      have hl1 : (zs.take 1).length = 1 := by rw [List.length_take]; omega
      have := pof_any n (some a) c (zs.take 1) Z (fun j hj => by
        obtain rfl : j = 0 := by omega
        have e : spt (zs.take 1) 0 = spt zs 0 := by
          cases zs with
          | nil => simp at hzl
          | cons x t => rfl
        rw [e]
        exact h 0 hzl) (hI.take1 hzl) (by omega) (by omega)
      rw [hg2, hl1] at this
      exact this
    have P4 : Hid (∀ (Z : World), Calls Try.prog 9 #[.int .i8 s1] Z fun e w' => e = .returned (.int .i64 (costN s1)) ∧ Below Z.heap.size Z w') := fun Z => pcost_any s1 Z hs1
    have P5 : Hid (∀ (Z : World), Calls Try.prog 9 #[.int .i8 (spt zs 0).2.1] Z fun e w' => e = .returned (.int .i64 (costN (spt zs 0).2.1)) ∧ Below Z.heap.size Z w') := fun Z => pcost_any _ Z (hI 0 hzl)
    have P6 : Hid (∀ (Z : World), Calls Try.prog 11 #[.int .i8 (spt zs 0).2.1, .int .i64 n] Z fun e w' => e = .returned (.int .i64 (sizeN (spt zs 0).2.1 n)) ∧ Below Z.heap.size Z w') := fun Z => psize_any _ n Z
    have P7 : Hid (∀ (Z : World), Calls Try.prog 5 #[] Z fun e w' => e = .returned (.bool true) ∧ Below Z.heap.size Z w') := LV
    have hc1 : (1 : Int) ≤ (c : Int) := by omega
    have hl1 : (0 : Int) < (zs.length : Int) := by omega
    have HC : Hid (zs.length ≤ c) := hc
    clear hA hg1 hg2 xh LV hc h0
    generalize gainN n zs = g at *
    generalize costN s1 = cs at *
    generalize costN (spt zs 0).2.1 = ck at *
    generalize sizeN (spt zs 0).2.1 n = sz at *
    generalize (spt zs 0).2.1 = k0 at *
    have wr : ∀ x : Int, -9223372036854775808 ≤ x ∧ x ≤ 9223372036854775807 → IntKind.i64.wrap x = x := fun x hx => by
      simp [IntKind.wrap, IntKind.signed, IntKind.bits]
      omega
    have hw1 := wr (g + n) (by omega)
    have hw2 := wr (g + n - cs) (by omega)
    have hw3 := wr (n - ck) (by omega)
    have hw4 := wr (n - ck - sz) (by omega)
    clear wr
    go_enter Try.func4, Try.ntmps4
    go_upto_region 1 with fail
    rw [HX.out]
    clear HX
    go_upto_region 4 with (go_at_call 6; refine CC.mono ?_; rintro e w1 ⟨Y, k, rfl, hr1, hb1⟩; have HR1 : Hid (w1.ownsRow X.heap.size 32 3 (.slice Y zs.length k) zs.length (spNews zs)) := hr1; have HB1 : Hid (Below X.heap.size X w1) := hb1; clear hr1 hb1)
    clear CC
    obtain ⟨x0, x1, x2⟩ := X0.out _ HB1.out
    have HRa : Hid ((w1.alloc (.cells #[.int .i64 s0, .int .i8 s1, .int .i8 s2] 32)).ownsRow X.heap.size 32 3 (.slice Y zs.length k) zs.length (spNews zs)) := row_keep HR1.out (lb_alloc (Below.refl _ _) _)
    have HBa : Hid (Below X.heap.size X (w1.alloc (.cells #[.int .i64 s0, .int .i8 s1, .int .i8 s2] 32))) := lb_alloc HB1.out _
    go_upto_region 5 with (at_builtin; go_loud (refine wpList_append_own _ rfl (.tmp 27) (.tmp 29) 22 rfl X.heap.size 32 iB (.agg #[.int .i64 0, .int .i8 0, .int .i8 0]) 3 16 Try.underlying22 hi hz0 hz1 hz2 rfl (by decide) (.slice Y zs.length k) zs.length (spNews zs) rfl HRa.out ⟨w1.heap.size, 0, none⟩ 1 1 [.int .i64 s0, .int .i8 s1, .int .i8 s2] rfl rfl (fun j u hu => World.news_of_block (heap_alloc_new _ _) j u hu) (sp_oneI s0 s1 s2) (by unfold maxLen; omega) (by omega) HBa.out.size ?_; intro v3 w6 hown hgrow _; have HB6 : Hid (Below X.heap.size X w6) := HBa.out.grown hgrow HBa.out.size (fun b hb => (HRa.out.lt b hb).1); have HR6 : Hid (w6.ownsRow X.heap.size 32 3 v3 (zs.length + 1) (spNews zs ++ [.int .i64 s0, .int .i8 s1, .int .i8 s2])) := hown; clear hown hgrow))
    obtain ⟨Y6, k6, rfl, hk6⟩ := own_formS HR6.out
    have HS6 : Hid (SpAt w6 Y6 (zs ++ [(s0, s1, s2)])) := row_sps (R := zs ++ [(s0, s1, s2)]) (by
      rw [spNews_app, List.length_append]
      exact HR6.out)
    have HK6 : Hid ((zs ++ [(s0, s1, s2)]).length ≤ k6) := by unfold Hid; rw [List.length_append]; exact hk6
    have HBw : Hid (Below w.heap.size w w6) := lb_trans HB.out HB6.out
    obtain ⟨z0, z1, z2⟩ := X0.out _ HB6.out
    have y1 := Y0.out _ HBw.out
    have BX : Below w6.heap.size w6 w6.drew := (Below.refl _ _).drew
    clear HRa HBa HR1 HB1 HR6 hk6 x0 x1 x2 z0 z2
    go_region_held3 (fun Z => Below w6.heap.size w6 Z ∧ Z.cell? ⟨w.heap.size, 1, none⟩ = some (.int .i8 s1) ∧ Z.cell? ⟨a.block, a.off + 1, none⟩ = some (.int .i8 k0)) (first | exact ⟨BX, lkeep BX z1, lkeep BX y1⟩ | exact ⟨hq7, lkeep hq7 z1, lkeep hq7 y1⟩ | exact ⟨hq8, lkeep hq8 z1, lkeep hq8 y1⟩ | exact ⟨hq9, lkeep hq9 z1, lkeep hq9 y1⟩ | exact ⟨hq10, lkeep hq10 z1, lkeep hq10 y1⟩ | exact ⟨hq11, lkeep hq11 z1, lkeep hq11 y1⟩ | exact ⟨hq12, lkeep hq12 z1, lkeep hq12 y1⟩ | exact ⟨hq13, lkeep hq13 z1, lkeep hq13 y1⟩)
      (first
        | (go_at_call 7; refine (P1.out _ _ _ (HS6.out.keep (by first | exact (Below.refl _ _) | exact (Below.refl _ _).drew | exact And.left (by assumption))) HK6.out).mono ?_; rintro e w7 ⟨rfl, hb7⟩; have hq7 : Below w6.heap.size w6 w7 := lb_trans (by first | exact (Below.refl _ _) | exact (Below.refl _ _).drew | exact And.left (by assumption)) hb7; clear hb7 P1)
        | (go_at_call 7; refine (P2.out _ ((HA.out.keep HBw.out).keep (by first | exact (Below.refl _ _) | exact (Below.refl _ _).drew | exact And.left (by assumption)))).mono ?_; rintro e w8 ⟨rfl, hb8⟩; have hq8 : Below w6.heap.size w6 w8 := lb_trans (by first | exact (Below.refl _ _) | exact (Below.refl _ _).drew | exact And.left (by assumption)) hb8; clear hb8 P2)
        | (go_at_call 9; refine (P4.out _).mono ?_; rintro e w9 ⟨rfl, hb9⟩; have hq9 : Below w6.heap.size w6 w9 := lb_trans (by first | exact (Below.refl _ _) | exact (Below.refl _ _).drew | exact And.left (by assumption)) hb9; clear hb9 P4)
        | (go_at_call 7; refine (P3.out _ ((HA.out.keep HBw.out).keep (by first | exact (Below.refl _ _) | exact (Below.refl _ _).drew | exact And.left (by assumption)))).mono ?_; rintro e w10 ⟨rfl, hb10⟩; have hq10 : Below w6.heap.size w6 w10 := lb_trans (by first | exact (Below.refl _ _) | exact (Below.refl _ _).drew | exact And.left (by assumption)) hb10; clear hb10 P3)
        | (go_at_call 9; refine (P5.out _).mono ?_; rintro e w11 ⟨rfl, hb11⟩; have hq11 : Below w6.heap.size w6 w11 := lb_trans (by first | exact (Below.refl _ _) | exact (Below.refl _ _).drew | exact And.left (by assumption)) hb11; clear hb11 P5)
        | (go_at_call 11; refine (P6.out _).mono ?_; rintro e w12 ⟨rfl, hb12⟩; have hq12 : Below w6.heap.size w6 w12 := lb_trans (by first | exact (Below.refl _ _) | exact (Below.refl _ _).drew | exact And.left (by assumption)) hb12; clear hb12 P6)
        | (go_at_call 5; refine (P7.out _).mono ?_; rintro e w13 ⟨rfl, hb13⟩; have hq13 : Below w6.heap.size w6 w13 := lb_trans (by first | exact (Below.refl _ _) | exact (Below.refl _ _).drew | exact And.left (by assumption)) hb13; clear hb13 P7))
    all_goals (
      have HE : Hid (Below w.heap.size w w13) := lb_trans HBw.out hq13
      clear hq7 hq8 hq9 hq10 hq11 hq12 hq13
      go_wp2
      go_ret
      exact ⟨rfl, HE.out⟩)

end Go.Proofs.Ytbljifaciahdcaa
