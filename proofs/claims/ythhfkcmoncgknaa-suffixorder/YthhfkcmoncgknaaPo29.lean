/-
  THE LAW SuffixOrder, over the program's contracts.
-/
import Derived.Test.YthhfkcmoncgknaaProg
import Derived.WalkKit
import Derived.WalkSpells
import Derived.WalkLawsBesides
import Derived.RowKit3
import Derived.Below
import Derived.Deep.QuietTactic
import Derived.BigQuiet
import Derived.WalkSmall
import Derived.Laws.Rows
import Derived.Test.YthhfkcmoncgknaaPo13
import Derived.Test.YthhfkcmoncgknaaPo15
import Derived.Test.YthhfkcmoncgknaaPo16
import Derived.Test.YthhfkcmoncgknaaPo17
import Derived.Test.YthhfkcmoncgknaaPo28
import Derived.Deep.Cut
import Derived.Lib.Builder
namespace Go.Proofs.Ythhfkcmoncgknaa
open Go.RowKit

def stp (b : Int) : Int := wrap64 (1 + wrap64 ((IntKind.u64.wrap b).tmod 1000))
theorem wrapU_in (b : Int) : 0 ≤ IntKind.u64.wrap b := by
  simp [IntKind.wrap, IntKind.signed, IntKind.bits]
  omega
theorem stp_in (b : Int) : 1 ≤ stp b ∧ stp b ≤ 1000 := by
  have h := wrapU_in b
  unfold stp
  rw [Int.tmod_eq_emod_of_nonneg h]
  generalize IntKind.u64.wrap b = x at *
  unfold wrap64
  omega
theorem below_none {w w' : World} (h : w.grownBy w' none) : Below w.heap.size w w' := ⟨h.os, h.tape, h.output, h.size, fun k hk => h.block k hk (by simp)⟩
set_option maxRecDepth 100000 in
set_option maxHeartbeats 8000000 in
theorem lawOrder {cst : List Int → Int} (ho : OfOK cst) (LV : LivesOK) (A : Option Addr) (c : Nat) (l : List Int) (b : Int) (w : World) (hA : IntsAt w A .i64 l) (h0 : A = none → c = 0) (hR : ∀ i, i < l.length → -9223372036854775808 ≤ nth l i ∧ nth l i ≤ 9223372036854775807) (_hb : -9223372036854775808 ≤ b ∧ b ≤ 9223372036854775807) :
    Calls Try.prog 4 #[.slice A l.length c, .int .i64 b] w fun e w' => e = .returned (.bool true) ∧ Below w.heap.size w w' := by
  by_cases hbig : 2048 < l.length
  · have hb' : (2048 : Int) < (l.length : Int) := by omega
    go_enter Try.func4, Try.ntmps4
    go_wp2_with fail
    refine (LV _).mono ?_
    rintro e w1 ⟨rfl, hb1⟩
    go_wp2
    go_ret
    exact ⟨rfl, hb1⟩
  have hb' : ¬ (2048 : Int) < (l.length : Int) := by omega
  have hl : l.length ≤ 2048 := by omega
  have hl1 : l.length ≤ 1048576 := by omega
  have HR : Hid (∀ i, i < l.length → -9223372036854775808 ≤ nth l i ∧ nth l i ≤ 9223372036854775807) := hR
  have HA : Hid (IntsAt w A .i64 l) := hA
  have C1 := copyints_any A c l w hA h0 hl1
  have LL := fun (Z : World) (p q : Nat) (h : Below w.heap.size w Z) (hp : p ≤ l.length) (hq : q ≤ l.length) => lless_any A c l p q Z (hA.keep h) hl1 hp hq
  clear hbig hA hR
  go_enter Try.func4, Try.ntmps4
  go_wp2_with fail
  refine C1.mono ?_
  rintro e w1 ⟨O, cap, rfl, hr1, hg1, -⟩
  have HB1 : Hid (Below w.heap.size w w1) := below_none hg1
  have CO := ho.ok O cap l w1 (row_ints hr1) HR.out hl
  clear hr1 hg1 C1 h0
  go_wp2_with fail
  refine CO.mono ?_
  rintro e w2 ⟨A1, A2, k1, k2, rfl, ho1, ho2, -, hb2⟩
  obtain ⟨Y, HY⟩ : ∃ Y, Hid (w2.alloc (.cells #[.slice A1 l.length k1, .slice A2 l.length k2, .int .i64 (cst l)] 31) = Y) := ⟨_, rfl⟩
  have HBY : Hid (Below w.heap.size w Y) := by unfold Hid; rw [← HY.out]; exact lb_alloc (lb_trans HB1.out hb2) _
  have i0 : Y.cell? ⟨w2.heap.size, 0, none⟩ = some (.slice A1 l.length k1) := by rw [← HY.out]; simp [go_sem]
  have i1 : Y.cell? ⟨w2.heap.size, 1, none⟩ = some (.slice A2 l.length k2) := by rw [← HY.out]; simp [go_sem]
  have i2 : Y.cell? ⟨w2.heap.size, 2, none⟩ = some (.int .i64 (cst l)) := by rw [← HY.out]; simp [go_sem]
  have HI : Hid (∀ Z, Below Y.heap.size Y Z → Z.cell? ⟨w2.heap.size, 0, none⟩ = some (.slice A1 l.length k1) ∧ Z.cell? ⟨w2.heap.size, 1, none⟩ = some (.slice A2 l.length k2) ∧ Z.cell? ⟨w2.heap.size, 2, none⟩ = some (.int .i64 (cst l))) := fun Z hZ => ⟨lkeep hZ i0, lkeep hZ i1, lkeep hZ i2⟩
  have HS1 : Hid (IntsAt Y A1 .i64 (sufL l)) := by unfold Hid; rw [← HY.out]; exact (row_ints (l := sufL l) (by rw [sufL_len]; exact ho1)).keep (lb_alloc (Below.refl _ _) _)
  have HS2 : Hid (IntsAt Y A2 .i64 (rkL l)) := by unfold Hid; rw [← HY.out]; exact (row_ints (l := rkL l) (by rw [rkL_len]; exact ho2)).keep (lb_alloc (Below.refl _ _) _)
  clear ho1 ho2 hb2 CO HB1
  go_upto_region 4 with fail
  rw [HY.out]
  clear HY
  have hne : ((l.length : Int) != (l.length : Int)) = false := by simp
  have hmk := made_bools l hl1
  have HBs : Hid (Below Y.heap.size Y (Y.alloc (.cells (snC l 0) 4))) := lb_alloc (Below.refl _ _) _
  have HXs : Hid ((Y.alloc (.cells (snC l 0) 4)).heap[Y.heap.size]? = some (.cells (snC l 0) 4 (0, 0))) := heap_alloc_new _ _
  go_wp2
  clear i0 i1 i2
  go_loopw [7] (fun i wr => ∃ k : Nat, i = .int .i64 k ∧ k ≤ l.length ∧ Hid (Below Y.heap.size Y wr) ∧ Hid (wr.heap[Y.heap.size]? = some (.cells (snC l k) 4 (0, 0)))) (fun i _ => l.length - (intOf i).toNat)
  case atStart => exact ⟨0, rfl, Nat.zero_le _, HBs, HXs⟩
  case round =>
    clear hmk HBs HXs
    obtain ⟨k, rfl, hk, HB, HX⟩ := hrel
    obtain ⟨c0, c1, c2⟩ := HI.out wr HB.out
    by_cases hlt : k < l.length
    · have hlt' : (k : Int) < (l.length : Int) := by omega
      obtain ⟨a, ea, q1⟩ := (HS1.out.keep HB.out) k (by rw [sufL_len]; exact hlt)
      have hp := sufN_lt hlt
      obtain ⟨a2, ea2, q2⟩ := (HS2.out.keep HB.out) (snth (sufN l) k) (by rw [rkL_len]; exact hp)
      rw [sufL_nth hlt] at q1
      rw [rkL_nth hp, rkN_of hlt] at q2
      have cg : wr.cell? ⟨Y.heap.size, snth (sufN l) k, none⟩ = some (.bool false) := by rw [Lib.cell_of_heap HX.out, snC_get hp, rkN_of hlt, decide_eq_false (by omega)]
      have fg : wr.frozen? ⟨Y.heap.size, snth (sufN l) k, none⟩ = false := Lib.frozen_of_heap HX.out _
      have HSet : Hid ((snC l k).setIfInBounds (snth (sufN l) k) (.bool true) = snC l (k + 1)) := snC_set hlt
      have HLs : Hid (∀ j, j < k → lsS l (snth (sufN l) j) (snth (sufN l) k) = true) := fun j hj => sufN_less hj hlt
      have hkk : ((k : Int) != (k : Int)) = false := by simp
      generalize snth (sufN l) k = p at *
      have hp' : (p : Int) < (l.length : Int) := by omega
      obtain ⟨Z, HZ⟩ : ∃ Z, Hid (wr.setCell ⟨Y.heap.size, p, none⟩ (.bool true) = Z) := ⟨_, rfl⟩
      have HBZ : Hid (Below Y.heap.size Y Z) := by unfold Hid; rw [← HZ.out]; exact HB.out.setCell (p := ⟨Y.heap.size, p, none⟩) (Nat.le_refl _) _
      have HXZ : Hid (Z.heap[Y.heap.size]? = some (.cells (snC l (k + 1)) 4 (0, 0))) := by unfold Hid; rw [← HZ.out, set_rowT HX.out, HSet.out]
      subst ea ea2
      clear HSet
      go_upto_region 14 with fail
      rw [HZ.out]
      clear HZ q1 q2 cg fg c0 c1 c2
      obtain ⟨c0, c1, c2⟩ := HI.out Z HBZ.out
      by_cases k0 : k = 0
      · subst k0
        go_wp2
        go_roundw
        case rel => exact ⟨0 + 1, by go_num, by omega, HBZ, HXZ⟩
        case measure => simp [intOf]; omega
      · have k0' : (0 : Int) < (k : Int) := by omega
        have hk1 : k - 1 < l.length := by omega
        obtain ⟨a', ea', q3⟩ := (HS1.out.keep HBZ.out) (k - 1) (by rw [sufL_len]; exact hk1)
        obtain rfl := Option.some.inj ea'
        rw [sufL_nth hk1] at q3
        have hq := sufN_lt hk1
        have CL := LL Z (snth (sufN l) (k - 1)) p (lb_trans HBY.out HBZ.out) (by omega) (by omega)
        rw [HLs.out (k - 1) (by omega)] at CL
        have hsub : ((k : Int) - 1).toNat = k - 1 := by omega
        generalize snth (sufN l) (k - 1) = q at *
        go_wp2_with fail
        refine CL.mono ?_
        rintro e w3 ⟨rfl, hb3⟩
        have HB3 : Hid (Below Y.heap.size Y w3) := lb_trans HBZ.out hb3
        have HX3 : Hid (w3.heap[Y.heap.size]? = some (.cells (snC l (k + 1)) 4 (0, 0))) := (hb3.block Y.heap.size (Array.getElem?_eq_some_iff.1 HXZ.out).1).trans HXZ.out
        clear hb3 CL
        go_wp2
        go_roundw
        case rel => exact ⟨k + 1, by go_num, by omega, HB3, HX3⟩
        case measure => simp [intOf]; omega
    · obtain rfl : k = l.length := by omega
      go_upto_region 16 with fail
      obtain ⟨V, rfl⟩ : ∃ V, V = wr := ⟨wr, rfl⟩
      have hmk2 := made_ints (fT l (stp b)) l.length hl1
      have hst := stp_in b
      go_upto_region 18 with fail
      rw [show wrap64 (1 + wrap64 ((IntKind.u64.wrap b).tmod 1000)) = stp b from rfl]
      generalize stp b = st at *
      obtain ⟨s1, s2⟩ := hst
      have HBV : Hid (Below V.heap.size V (V.alloc (.cells (wcur (fT l st) zT l.length 0) 3))) := lb_alloc (Below.refl _ _) _
      have HXt : Hid ((V.alloc (.cells (wcur (fT l st) zT l.length 0) 3)).heap[V.heap.size]? = some (.cells (wcur (fT l st) zT l.length 0) 3 (0, 0))) := heap_alloc_new _ _
      clear hmk2 hlt _hb LL hk c0 c1 c2 HX
      by_cases h200 : l.length ≤ 200
      · have h200' : (l.length : Int) ≤ 200 := by omega
        go_wp2
        go_loopw [11] (fun i wq => ∃ k : Nat, i = .int .i64 k ∧ k ≤ l.length ∧ Hid (Below V.heap.size V wq) ∧ Hid (wq.heap[V.heap.size]? = some (.cells (wcur (fT l st) zT l.length k) 3 (0, 0)))) (fun i _ => l.length - (intOf i).toNat)
        case atStart => exact ⟨0, rfl, Nat.zero_le _, HBV, HXt⟩
        case round =>
          clear HBV HXt
          obtain ⟨wq, rfl⟩ : ∃ wq, wq = wr := ⟨wr, rfl⟩
          obtain ⟨k, rfl, hk, HB2, HX2⟩ := hrel
          by_cases hlt : k < l.length
          · have hlt' : (k : Int) < (l.length : Int) := by omega
            go_wp2
            go_loopw [12] (fun i wv => ∃ m : Nat, i = .int .i64 m ∧ m ≤ l.length ∧ Hid (Below V.heap.size V wv) ∧ Hid (wv.heap[V.heap.size]? = some (.cells (twC l st k m) 3 (0, 0)))) (fun i _ => l.length - (intOf i).toNat)
            case atStart => exact ⟨0, rfl, Nat.zero_le _, HB2, by unfold Hid; rw [twC_zero hlt]; exact HX2.out⟩
            case round =>
              clear HB2 HX2
              obtain ⟨wv, rfl⟩ : ∃ wv, wv = wr := ⟨wr, rfl⟩
              obtain ⟨m, rfl, hm, HB3, HX3⟩ := hrel
              by_cases hlt3 : m < l.length
              · have hlt3' : (m : Int) < (l.length : Int) := by omega
                have HAV : Hid (IntsAt wv A .i64 l) := HA.out.keep (lb_trans (lb_trans HBY.out HB.out) HB3.out)
                obtain ⟨a, ea, q1⟩ := HAV.out m hlt3
                obtain ⟨a', ea', q2⟩ := HAV.out k hlt
                rw [ea] at ea'
                obtain rfl := Option.some.inj ea'
                have hv := twV_in (l := l) (i := k) (m := m) s1 s2 (by omega)
                have cg : wv.cell? ⟨V.heap.size, k, none⟩ = some (.int .i64 (twV l st k m)) := by rw [Lib.cell_of_heap HX3.out, twC_get hlt]
                have fg : wv.frozen? ⟨V.heap.size, k, none⟩ = false := Lib.frozen_of_heap HX3.out _
                subst ea
                by_cases hlt4 : nth l m < nth l k
                · have HSet : Hid ((twC l st k m).setIfInBounds k (.int .i64 (twV l st k m + st)) = twC l st k (m + 1)) := twC_set _ (twV_yes hlt4)
                  generalize twV l st k m = tv at *
                  generalize nth l m = x at *
                  generalize nth l k = y at *
                  go_upto_region 24 with fail
                  go_quiet (fail)
                  go_wp2
                  rename_i nq
                  have HB4 : Hid (Below V.heap.size V ((wv.drewN nq).setCell ⟨V.heap.size, k, none⟩ (.int .i64 (tv + st)))) := (below_drewN HB3.out nq).setCell (p := ⟨V.heap.size, k, none⟩) (Nat.le_refl _) _
                  have HX4 : Hid (((wv.drewN nq).setCell ⟨V.heap.size, k, none⟩ (.int .i64 (tv + st))).heap[V.heap.size]? = some (.cells (twC l st k (m + 1)) 3 (0, 0))) := by
                    unfold Hid
                    rw [← HSet.out]
                    exact set_rowT (w := wv.drewN nq) HX3.out _
                  go_roundw
                  case rel => exact ⟨m + 1, by go_num, by omega, HB4, HX4⟩
                  case measure => simp [intOf]; omega
                · have HSet : Hid (twC l st k m = twC l st k (m + 1)) := by unfold Hid twC; rw [twV_no hlt4]
                  generalize twV l st k m = tv at *
                  generalize nth l m = x at *
                  generalize nth l k = y at *
                  go_upto_region 24 with fail
                  go_quiet (fail)
                  go_wp2
                  go_roundw
                  case rel => exact ⟨m + 1, by go_num, by omega, below_drewN HB3.out _, by unfold Hid; rw [← HSet.out]; exact HX3.out⟩
                  case measure => simp [intOf]; omega
              · obtain rfl : m = l.length := by omega
                go_wp2
                go_roundw
                case rel => exact ⟨k + 1, by go_num, by omega, HB3, by unfold Hid; rw [← twC_full hlt]; exact HX3.out⟩
                case measure => simp [intOf]; omega
          · obtain rfl : k = l.length := by omega
            have CO2 := ho.ok (some ⟨V.heap.size, 0, none⟩) l.length (twL l st) wq (twC_ints HX2.out) (fun i hi => by rw [twL_len] at hi; rw [twL_nth hi]; have := twV_in (l := l) (i := i) (m := l.length) s1 s2 h200; omega) (by rw [twL_len]; omega)
            unfold OfR at CO2
            rw [twL_len, twL_sufL s1] at CO2
            generalize cst (twL l st) = ct at CO2
            go_wp2_with fail
            refine CO2.mono ?_
            rintro e w5 ⟨B1, B2, m1, m2, rfl, hp1, -, -, hb5⟩
            obtain ⟨X, HX⟩ : ∃ X, Hid (w5.alloc (.cells #[.slice B1 l.length m1, .slice B2 l.length m2, .int .i64 ct] 31) = X) := ⟨_, rfl⟩
            have HB5 : Hid (Below V.heap.size V X) := by unfold Hid; rw [← HX.out]; exact lb_alloc (lb_trans HB2.out hb5) _
            have HBX : Hid (Below Y.heap.size Y X) := lb_trans HB.out HB5.out
            have j0 : X.cell? ⟨w5.heap.size, 0, none⟩ = some (.slice B1 l.length m1) := by rw [← HX.out]; simp [go_sem]
            have j1 : X.cell? ⟨w5.heap.size, 1, none⟩ = some (.slice B2 l.length m2) := by rw [← HX.out]; simp [go_sem]
            have j2 : X.cell? ⟨w5.heap.size, 2, none⟩ = some (.int .i64 ct) := by rw [← HX.out]; simp [go_sem]
            obtain ⟨c0, c1, c2⟩ := HI.out X HBX.out
            have HP1 : Hid (IntsAt X B1 .i64 (sufL l)) := by unfold Hid; rw [← HX.out]; exact (row_ints (l := sufL l) (by rw [sufL_len]; exact hp1)).keep (lb_alloc (Below.refl _ _) _)
            have E := eqints_any B1 A1 m1 k1 (sufL l) (sufL l) X HP1.out (HS1.out.keep HBX.out) (by rw [sufL_len]; omega)
            simp only [decide_true, sufL_len] at E
            clear hp1 hb5 CO2
            go_upto_region 29 with fail
            rw [HX.out]
            clear HX
            go_wp2_with fail
            refine E.mono ?_
            rintro e w6 ⟨rfl, hb6⟩
            have HB6 : Hid (Below w.heap.size w w6) := lb_trans (lb_trans HBY.out HBX.out) hb6
            clear hb6 E
            go_wp2_with fail
            refine (LV _).mono ?_
            rintro e w7 ⟨rfl, hb7⟩
            have HB7 : Hid (Below w.heap.size w w7) := lb_trans HB6.out hb7
            clear hb7
            go_wp2
            go_ret
            exact ⟨rfl, HB7.out⟩
      · have h200' : ¬ (l.length : Int) ≤ 200 := by omega
        have h200b : (200 : Int) < (l.length : Int) := by omega
        clear HXt
        go_wp2
        go_loopw [11] (fun i wq => ∃ k : Nat, i = .int .i64 k ∧ k ≤ l.length ∧ Hid (Below V.heap.size V wq)) (fun i _ => l.length - (intOf i).toNat)
        case atStart => exact ⟨0, rfl, Nat.zero_le _, HBV⟩
        case round =>
          clear HBV
          obtain ⟨wq, rfl⟩ : ∃ wq, wq = wr := ⟨wr, rfl⟩
          obtain ⟨k, rfl, hk, HB2⟩ := hrel
          by_cases hlt : k < l.length
          · have hlt' : (k : Int) < (l.length : Int) := by omega
            go_wp2
            go_loopw [12] (fun i wv => i = .int .i64 0 ∧ Hid (Below V.heap.size V wv)) (fun _ _ => 0)
            case atStart => exact ⟨rfl, HB2⟩
            case round =>
              clear HB2
              obtain ⟨rfl, HB3⟩ := hrel
              go_wp2
              go_roundw
              case rel => exact ⟨k + 1, by go_num, by omega, HB3⟩
              case measure => simp [intOf]; omega
          · obtain rfl : k = l.length := by omega
            have HB6 : Hid (Below w.heap.size w wq) := lb_trans (lb_trans HBY.out HB.out) HB2.out
            go_wp2_with fail
            refine (LV _).mono ?_
            rintro e w7 ⟨rfl, hb7⟩
            have HB7 : Hid (Below w.heap.size w w7) := lb_trans HB6.out hb7
            clear hb7
            go_wp2
            go_ret
            exact ⟨rfl, HB7.out⟩

end Go.Proofs.Ythhfkcmoncgknaa
