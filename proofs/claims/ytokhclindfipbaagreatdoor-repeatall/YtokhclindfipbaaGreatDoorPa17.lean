/-
  The program's Prefixes keeps its contract.
-/
import Derived.Test.YtokhclindfipbaaGreatDoorProg
import Derived.WalkKit
import Derived.WalkSpells
import Derived.WalkLawsBesides
import Derived.RowKit3
import Derived.Below
import Derived.Deep.QuietTactic
import Derived.BigQuiet
import Derived.WalkSmall
import Derived.Laws.Rows
import Derived.Lib.MinMax
import Derived.OwnWalk
import Derived.Deep.Cut
import Derived.Deep.RegionHeld3
import Derived.Deep.LoopGhost
import Derived.WalkMore
import Derived.Test.YtokhclindfipbaaGreatDoorPa07
import Derived.Test.YtokhclindfipbaaGreatDoorPa15
import Derived.Test.YtokhclindfipbaaGreatDoorPa16
namespace Go.Proofs.YtokhclindfipbaaGreatDoor
open Go.RowKit

theorem infoP3 : ∃ i, Tryz.prog.info? 3 = some i ∧ i.zero = some (.int .i64 0) ∧ i.size = 1 ∧ i.bytes = 8 :=
  ⟨(Tryz.prog.info? 3).get (by kernel_rfl), by kernel_rfl, by kernel_rfl, by kernel_rfl, by kernel_rfl⟩
theorem rowC_wcur (n : Nat) : wcur (fun _ => .int .i64 0) (fun _ => .int .i64 0) n 0 = (rowC n (fun _ => 0)).toArray := by
  apply Array.ext_getElem?
  intro i
  by_cases hi : i < n
  · rw [wcur_get _ _ _ _ _ hi, List.getElem?_toArray, rowC_get hi, if_neg (by omega)]
  · rw [Array.getElem?_eq_none (by rw [wcur_size]; omega), List.getElem?_toArray, List.getElem?_eq_none (by rw [rowC_len]; omega)]
theorem made_rowP (n : Nat) (hn : n ≤ 1048576) (w : World) : (Instr.makeSlice 36 (.int .i64 (n : Int)) (.int .i64 (n : Int))).run Tryz.prog w = .ok (.slice (some ⟨w.heap.size, 0, none⟩) n n) (w.alloc (.cells (rowC n (fun _ => 0)).toArray 3)) := by
  obtain ⟨i, hi, hz, hs, hb⟩ := infoP3
  have h := run_makeSlice (P := Tryz.prog) w 36 3 i _ Tryz.underlying36 hi hz .i64 .i64 (n : Int) (n : Int) (by omega) (by omega) (by rw [hs]; omega) (by rw [hb]; omega) (by omega)
  rw [hs, Nat.mul_one, show ((n : Int)).toNat = n by omega] at h
  rw [h, ← rowC_wcur, ← made_wcur (fun _ => .int .i64 0) (.int .i64 0) n]
  rfl
theorem RwN.own {w : World} {g n : Nat} {f : Nat → Int} (h : RwN w g n f) {L : List Int} (hL : L.length = n) (hf : ∀ i, i < n → f i = nth L i) (hn : n ≤ 1048576) {base : Nat} (hg : base ≤ g) : w.ownsRow base 3 1 (.slice (some ⟨g, 0, none⟩) n n) n (iVals .i64 L) := by
  refine ⟨by simp [iVals, hL], .inr ⟨g, n, _, rfl, hg, h, Nat.le_refl _, by unfold maxLen; omega, by simp [rowC_len], ?_⟩⟩
  apply List.ext_getElem?
  intro i
  by_cases hi : i < n
  · rw [List.getElem?_take_of_lt (by omega), Array.getElem?_toList, List.getElem?_toArray, rowC_get hi, iVals_get (by rw [hL]; exact hi), hf i hi]
  · rw [List.getElem?_eq_none (by simp [rowC_len]; omega), List.getElem?_eq_none (by simp [iVals, hL]; omega)]
theorem RwN.drewN {w : World} {g n : Nat} {f : Nat → Int} (h : RwN w g n f) (m : Nat) : RwN (w.drewN m) g n f := h
set_option maxRecDepth 100000 in
set_option maxHeartbeats 1000000 in
theorem sleq_any (A B : Option Addr) (ca cb : Nat) (zs ys : List Int) (w : World) (hA : IntsAt w A .i64 zs) (hB : IntsAt w B .i64 ys) (hz : zs.length ≤ 1048576) :
    Calls Tryz.prog 87 #[.slice A zs.length ca, .slice B ys.length cb] w fun e w' => e = .returned (.bool (decide (zs = ys))) ∧ Below w.heap.size w w' := by
  by_cases hl : zs.length = ys.length
  · have hl' : ((zs.length : Int) != (ys.length : Int)) = false := by rw [hl]; simp
    have HL : Hid (zs.length = ys.length) := hl
    clear hl
    go_enter Tryz.func87, Tryz.ntmps87
    go_wp2
    go_loopw [13] (fun i wr => ∃ (k m : Nat), i = .int .i64 k ∧ k ≤ zs.length ∧ wr = w.drewN m ∧ Hid (zs.take k = ys.take k)) (fun i _ => zs.length - (intOf i).toNat)
    case atStart => exact ⟨0, 0, rfl, by omega, rfl, by simp [Hid]⟩
    case round =>
      obtain ⟨k, m, rfl, hk, rfl, HT⟩ := hrel
      by_cases hlt : k < zs.length
      · obtain ⟨a, rfl, c1⟩ := hA k hlt
        obtain ⟨b, rfl, c2⟩ := hB k (by have := HL.out; omega)
        have hlt2 : (k : Int) < (ys.length : Int) := by have := HL.out; omega
        by_cases he : nth zs k = nth ys k
        · have HE : Hid (nth zs k = nth ys k) := he
          have he' : (nth zs k != nth ys k) = false := by simpa using he
          clear he
          go_wp2_with fail
          go_quiet (fail)
          go_wp2
          go_roundw
          case rel => exact ⟨k + 1, _, by go_num, by omega, rfl, take_same HT.out hlt (by omega) HE.out⟩
          case measure => simp [intOf]; omega
        · have HE : Hid (¬ nth zs k = nth ys k) := he
          have he' : (nth zs k != nth ys k) = true := by simpa using he
          clear he
          go_wp2_with fail
          go_quiet (fail)
          go_wp2
          go_ret
          exact ⟨retB (decide_eq_false (nth_ne HE.out)).symm, below_drewN (below_drewN (Below.refl _ _) _) _⟩
      · have hlt' : ¬ (k : Int) < (zs.length : Int) := by omega
        go_wp2
        go_ret
        exact ⟨retB (decide_eq_true (take_all HT.out (by omega) HL.out)).symm, below_drewN (Below.refl _ _) _⟩
  · have hl' : ((zs.length : Int) != (ys.length : Int)) = true := by simp; omega
    have HL : Hid (¬ zs.length = ys.length) := hl
    clear hl
    go_enter Tryz.func87, Tryz.ntmps87
    go_wp2
    go_ret
    exact ⟨retB (decide_eq_false (fun h => HL.out (by rw [h]))).symm, Below.refl _ _⟩
set_option maxRecDepth 100000 in
set_option maxHeartbeats 4000000 in
theorem px_no (A B : Option Addr) (c d : Nat) (l a : List Int) (w : World) (hA : IntsAt w A .i64 l) (hR : ∀ i, i < l.length → Rng (nth l i)) (hl : l.length ≤ 2048) (hB : IntsAt w B .i64 a) (hla : a.length ≤ 2048) (hne : a ≠ sufL l) :
    Calls Tryz.prog 63 #[.slice A l.length c, .slice B a.length d] w (PxN w) := by
  unfold PxN
  have CO := ofOK.ok A c l w hA hR hl
  have HB : Hid (IntsAt w B .i64 a) := hB
  have HN : Hid (a ≠ sufL l) := hne
  clear hA hR hB hne
  go_enter Tryz.func63, Tryz.ntmps63
  go_wp2
  go_step3
  go_wp2_with fail
  refine CO.mono ?_
  rintro e w1 ⟨A1, A2, k1, k2, rfl, ho1, ho2, -, hb1⟩
  have HB1 : Hid (Below w.heap.size w w1) := hb1
  have HI1 : Hid (IntsAt w1 A1 .i64 (sufL l)) := row_ints (l := sufL l) (by rw [sufL_len]; exact ho1)
  clear hb1 ho1 ho2 CO
  go_upto_region 2 with fail
  obtain ⟨X, HX⟩ : ∃ X, Hid (w1.alloc (.cells #[.slice A1 l.length k1, .slice A2 l.length k2, .int .i64 (cstI l)] 107) = X) := ⟨_, rfl⟩
  have HBX : Hid (Below w.heap.size w X) := by unfold Hid; rw [← HX.out]; exact lb_alloc HB1.out _
  have i0 : X.cell? ⟨w1.heap.size, 0, none⟩ = some (.slice A1 l.length k1) := by rw [← HX.out]; simp [go_sem]
  have HJ1 : Hid (IntsAt X A1 .i64 (sufL l)) := by unfold Hid; rw [← HX.out]; exact HI1.out.keep (lb_alloc (Below.refl _ _) _)
  have CE := sleq_any B A1 d k1 a (sufL l) X (HB.out.keep HBX.out) HJ1.out (by omega)
  rw [sufL_len, decide_eq_false HN.out] at CE
  rw [HX.out]
  clear HX HI1 HB1 HN HB HJ1
  go_wp2_with (go_at_call 87; refine CE.mono ?_; rintro e w2 ⟨rfl, hb2⟩; have HE : Hid (Below w.heap.size w w2) := lb_trans HBX.out hb2; clear hb2)
  rw [Exit.noGoto_ret]
  go_ret3
  exact ⟨rfl, HE.out⟩
set_option maxRecDepth 100000 in
set_option maxHeartbeats 8000000 in
theorem px_ok (A B : Option Addr) (c d : Nat) (l : List Int) (w : World) (hA : IntsAt w A .i64 l) (hR : ∀ i, i < l.length → Rng (nth l i)) (hl : l.length ≤ 2048) (hB : IntsAt w B .i64 (sufL l)) :
    Calls Tryz.prog 63 #[.slice A l.length c, .slice B l.length d] w (PxR l w) := by
  have CO := ofOK.ok A c l w hA hR hl
  have HA : Hid (IntsAt w A .i64 l) := hA
  have HB : Hid (IntsAt w B .i64 (sufL l)) := hB
  clear hA hR hB
  go_enter Tryz.func63, Tryz.ntmps63
  go_wp2
  go_step3
  go_wp2_with fail
  refine CO.mono ?_
  rintro e w1 ⟨A1, A2, k1, k2, rfl, ho1, ho2, -, hb1⟩
  have HB1 : Hid (Below w.heap.size w w1) := hb1
  have HI1 : Hid (IntsAt w1 A1 .i64 (sufL l)) := row_ints (l := sufL l) (by rw [sufL_len]; exact ho1)
  have HI2 : Hid (IntsAt w1 A2 .i64 (rkL l)) := row_ints (l := rkL l) (by rw [rkL_len]; exact ho2)
  clear hb1 ho1 ho2 CO
  go_upto_region 2 with fail
  obtain ⟨X, HX⟩ : ∃ X, Hid (w1.alloc (.cells #[.slice A1 l.length k1, .slice A2 l.length k2, .int .i64 (cstI l)] 107) = X) := ⟨_, rfl⟩
  have HBX : Hid (Below w.heap.size w X) := by unfold Hid; rw [← HX.out]; exact lb_alloc HB1.out _
  have i0 : X.cell? ⟨w1.heap.size, 0, none⟩ = some (.slice A1 l.length k1) := by rw [← HX.out]; simp [go_sem]
  have i1 : X.cell? ⟨w1.heap.size, 1, none⟩ = some (.slice A2 l.length k2) := by rw [← HX.out]; simp [go_sem]
  have HJ1 : Hid (IntsAt X A1 .i64 (sufL l)) := by unfold Hid; rw [← HX.out]; exact HI1.out.keep (lb_alloc (Below.refl _ _) _)
  have HJ2 : Hid (IntsAt X A2 .i64 (rkL l)) := by unfold Hid; rw [← HX.out]; exact HI2.out.keep (lb_alloc (Below.refl _ _) _)
  have HP : Hid (∀ Z, Below X.heap.size X Z → Z.cell? ⟨w1.heap.size, 0, none⟩ = some (.slice A1 l.length k1) ∧ Z.cell? ⟨w1.heap.size, 1, none⟩ = some (.slice A2 l.length k2)) := fun Z hZ => ⟨lkeep hZ i0, lkeep hZ i1⟩
  have CE := sleq_any B A1 d k1 (sufL l) (sufL l) X (HB.out.keep HBX.out) HJ1.out (by rw [sufL_len]; omega)
  rw [sufL_len, decide_eq_true rfl] at CE
  rw [HX.out]
  clear HX HI1 HI2 HB1 HB
  have hmk := made_rowP l.length (by omega)
  go_upto_region 4 with (go_at_call 87; refine CE.mono ?_; rintro e Y ⟨rfl, hb2⟩; have HXY : Hid (Below X.heap.size X Y) := hb2; clear hb2 CE)
  have HBY : Hid (Below w.heap.size w Y) := lb_trans HBX.out HXY.out
  have HAY : Hid (IntsAt Y A .i64 l) := HA.out.keep HBY.out
  have HS1 : Hid (IntsAt Y A1 .i64 (sufL l)) := HJ1.out.keep HXY.out
  have HS2 : Hid (IntsAt Y A2 .i64 (rkL l)) := HJ2.out.keep HXY.out
  have HPY : Hid (∀ Z, Below Y.heap.size Y Z → Z.cell? ⟨w1.heap.size, 0, none⟩ = some (.slice A1 l.length k1) ∧ Z.cell? ⟨w1.heap.size, 1, none⟩ = some (.slice A2 l.length k2)) := fun Z hZ => HP.out Z (lb_trans HXY.out hZ)
  clear HP HJ1 HJ2 HA HXY HBX i0 i1
  have HB0 : Hid (Below Y.heap.size Y (Y.alloc (.cells (rowC l.length (fun _ => 0)).toArray 3))) := lb_alloc (Below.refl _ _) _
  have HR0 : Hid (RwN (Y.alloc (.cells (rowC l.length (fun _ => 0)).toArray 3)) Y.heap.size l.length (fun _ => 0)) := heap_alloc_new _ _
  have HR1 : Hid (RwN (Y.alloc (.cells (rowC l.length (fun _ => 0)).toArray 3)) Y.heap.size l.length (cpV l 0)) := HR0.out.same fun i _ => (cpV_zero l i).symm
  obtain ⟨i0, i1⟩ := HPY.out _ HB0.out
  go_wp2
  go_step3
  go_wp2
  go_loopg [5, 8, 25] l.length (fun g vc vs vi wr => ∃ (k s : Nat), k + g = l.length ∧ vc = .int .i64 ((ccN l k : Nat) : Int) ∧ vs = .int .i64 (s : Int) ∧ vi = .int .i64 (k : Int) ∧ k ≤ l.length ∧ s ≤ l.length ∧ Hid (s - 1 = pbN l k) ∧ Hid (Below Y.heap.size Y wr) ∧ Hid (RwN wr Y.heap.size l.length (cpV l k)))
  case atStart => exact ⟨0, 0, by omega, rfl, rfl, rfl, Nat.zero_le _, Nat.zero_le _, rfl, HB0, HR1⟩
  case round =>
    clear hmk HB0 HR0 HR1 i0 i1
    obtain ⟨k, s, hkg, rfl, rfl, rfl, hk, hs, Hb, HB, HX⟩ := hrel
    obtain ⟨i0, i1⟩ := HPY.out wr HB.out
    by_cases hlt : k < l.length
    · obtain ⟨g1, rfl⟩ : ∃ g1, gk = g1 + 1 := ⟨gk - 1, by omega⟩
      have hlt' : (k : Int) < (l.length : Int) := by omega
      obtain ⟨a2, ea2, q2⟩ := (HS2.out.keep HB.out) k (by rw [rkL_len]; exact hlt)
      subst ea2
      rw [rkL_nth hlt] at q2
      have hr : rkN l k < l.length := rkN_lt hlt
      have hb1 := Hb.out
      have hb2 := pbN_le hlt
      have hcc : ccN l k ≤ 3 * l.length := by have := cc_high (l := l) (p := k) hk; omega
      have hw1 : IntKind.i64.wrap ((s : Int) - 1) = (s : Int) - 1 := by simp [IntKind.wrap, IntKind.bits, IntKind.signed]; omega
      have hmx : max ((s : Int) - 1) 0 = ((pbN l k : Nat) : Int) := by omega
      by_cases r0 : rkN l k = 0
      · have hh : pfN l k = 0 := pfN_first r0
        have hb0 : pbN l k = 0 := by omega
        have HC : Hid (ccN l (k + 1) = ccN l k) := by
          unfold Hid
          rw [ccN, hh, hb0, pdN_first r0]
          omega
        have HX2 : Hid (RwN wr Y.heap.size l.length (cpV l (k + 1))) := HX.out.same fun i hi => (cpV_first hlt hi r0).symm
        have Hb2 : Hid (0 - 1 = pbN l (k + 1)) := by
          unfold Hid
          rw [pbN_next, hh]
        rw [r0] at q2
        rw [hb0] at hmx
        clear r0 hr hb1 hb2 hh hb0 Hb HX
        generalize ccN l k = cc at *
        go_wp2
        go_roundg g1
        case measure => omega
        case rel => exact ⟨k + 1, 0, by omega, by rw [HC.out], by first | rfl | go_num, by go_num, by omega, by omega, Hb2, HB, HX2⟩
      · have hr1 : rkN l k - 1 < l.length := by omega
        obtain ⟨a1, ea1, q1⟩ := (HS1.out.keep HB.out) (rkN l k - 1) (by rw [sufL_len]; exact hr1)
        subst ea1
        rw [sufL_nth hr1] at q1
        replace q1 : wr.cell? (a1.add (rkN l k - 1)) = some (.int .i64 ((aheadN l k : Nat) : Int)) := q1
        obtain ⟨X0, eX, -⟩ := HAY.out k hlt
        subst eX
        have hah : aheadN l k < l.length := aheadN_lt hlt
        have hh : pfN l k ≤ l.length := by
          have e : pfN l k = cpS l (aheadN l k) k := cpN_rk hlt (by omega)
          have := cpS_leK l (aheadN l k) k
          omega
        have cg : wr.cell? ⟨Y.heap.size, rkN l k, none⟩ = some (.int .i64 (cpV l k (rkN l k))) := HX.out.cell hr
        have fg : wr.frozen? ⟨Y.heap.size, rkN l k, none⟩ = false := HX.out.frz _
        have HE : Hid (∀ m, RwN ((wr.drewN m).setCell ⟨Y.heap.size, rkN l k, none⟩ (.int .i64 ((pfN l k : Nat) : Int))) Y.heap.size l.length (cpV l (k + 1)) ∧ Below Y.heap.size Y ((wr.drewN m).setCell ⟨Y.heap.size, rkN l k, none⟩ (.int .i64 ((pfN l k : Nat) : Int)))) := fun m =>
          ⟨((HX.out.drewN m).set hr _).same fun i hi => (cpV_put hlt hi).symm, (below_drewN HB.out m).setCell (p := ⟨Y.heap.size, rkN l k, none⟩) (Nat.le_refl _) _⟩
        have HC : Hid (ccN l (k + 1) = ccN l k + (pfN l k - pbN l k) + pdN l k) := rfl
        have Hb2 : Hid (pfN l k - 1 = pbN l (k + 1)) := (pbN_next l k).symm
        have HM1 : Hid (∀ s, s ≤ pfN l k → ¬ max k (aheadN l k) + s < l.length → pfN l k = s ∧ pdN l k = 0) := fun s hs hm => by
          have e := cp_stop hlt (by omega) hs hm
          exact ⟨e, pdN_stop (by omega) (by rw [e]; exact hm)⟩
        have HM2 : Hid (∀ s, s ≤ pfN l k → max k (aheadN l k) + s < l.length → nth l (k + s) ≠ nth l (aheadN l k + s) → pfN l k = s ∧ pdN l k = 1) := fun s hs hm hd => by
          have e := cp_differ hlt (by omega) hs hm hd
          exact ⟨e, pdN_differ (by omega) (by rw [e]; exact hm)⟩
        have HM3 : Hid (∀ s, s ≤ pfN l k → max k (aheadN l k) + s < l.length → nth l (k + s) = nth l (aheadN l k + s) → s + 1 ≤ pfN l k) := fun s hs hm hd => cp_alike hlt (by omega) hs hm hd
        have hr0 : ((rkN l k : Int) == 0) = false := by simp; omega
        have hsub : ((rkN l k : Int) - 1).toNat = rkN l k - 1 := by omega
        have hsub1 : ¬ ((rkN l k : Int) - 1 < 0) := by omega
        have hw2 : IntKind.i64.wrap ((rkN l k : Int) - 1) = (rkN l k : Int) - 1 := by simp [IntKind.wrap, IntKind.bits, IntKind.signed]; omega
        have hr2 : (rkN l k : Int) - 1 < (l.length : Int) := by omega
        obtain ⟨M, hM⟩ : ∃ M, M = max k (aheadN l k) := ⟨_, rfl⟩
        have hM1 : max (k : Int) ((aheadN l k : Nat) : Int) = (M : Int) := by omega
        have hM2 : M < l.length := by omega
        have hM3 : k ≤ M := by omega
        have hM4 : aheadN l k ≤ M := by omega
        rw [← hM] at HM1 HM2 HM3
        have hr' : (rkN l k : Int) < (l.length : Int) := by omega
        clear r0 hb1 Hb HX hM
        generalize cpV l k (rkN l k) = y0 at *
        generalize ccN l k = cc at *
        generalize pbN l k = b at *
        generalize pdN l k = dd at *
        generalize pfN l k = h at *
        generalize aheadN l k = ah at *
        go_wp2
        go_loopg [5, 8] (l.length - b) (fun g vc vs ws => ∃ (s m : Nat), s + g = l.length ∧ vc = .int .i64 ((cc + (s - b) : Nat) : Int) ∧ vs = .int .i64 (s : Int) ∧ b ≤ s ∧ s ≤ h ∧ ws = wr.drewN m)
        case atStart => exact ⟨b, 0, by omega, by simp, rfl, Nat.le_refl _, hb2, rfl⟩
        case round =>
          clear q1 q2 hmx hw1 hs
          obtain ⟨s, m, hsg, rfl, rfl, hbs, hsh, rfl⟩ := hrel
          by_cases hlm : M + s < l.length
          · have hlm' : (M : Int) + (s : Int) < (l.length : Int) := by omega
            obtain ⟨u, hu⟩ : ∃ u, u = k + s := ⟨_, rfl⟩
            obtain ⟨v, hv⟩ : ∃ v, v = ah + s := ⟨_, rfl⟩
            have hu1 : (k : Int) + (s : Int) = (u : Int) := by omega
            have hv1 : (ah : Int) + (s : Int) = (v : Int) := by omega
            have hu2 : u < l.length := by omega
            have hv2 : v < l.length := by omega
            have hu3 : (u : Int) < (l.length : Int) := by omega
            have hv3 : (v : Int) < (l.length : Int) := by omega
            obtain ⟨x1, ex1, c1⟩ := (HAY.out.keep HB.out) u hu2
            obtain rfl := Option.some.inj ex1
            obtain ⟨x2, ex2, c2⟩ := (HAY.out.keep HB.out) v hv2
            obtain rfl := Option.some.inj ex2
            by_cases he : nth l u = nth l v
            · have hs2 : s + 1 ≤ h := HM3.out s hsh hlm (by rw [← hu, ← hv]; exact he)
              clear hu hv
              rw [he] at c1
              generalize nth l v = z at *
              clear he
              go_upto_region 15 with fail
              go_quiet (fail)
              go_wp2
              go_roundg (gk - 1)
              case measure => omega
              case rel => exact ⟨s + 1, _, by omega, by go_num, by go_num, by omega, hs2, rfl⟩
            · obtain ⟨e1, e2⟩ := HM2.out s hsh hlm (by rw [← hu, ← hv]; exact he)
              have hx : (nth l u != nth l v) = true := by simpa using he
              clear hu hv
              generalize nth l u = z1 at *
              generalize nth l v = z2 at *
              clear he
              subst e1 e2
              go_upto_region 15 with fail
              go_quiet (fail)
              go_wp2
              go_roundg g1
              case measure => omega
              case rel => exact ⟨k + 1, h, by omega, by rw [HC.out]; go_num, rfl, by go_num, by omega, hh, Hb2, (HE.out _).2, (HE.out _).1⟩
          · obtain ⟨e1, e2⟩ := HM1.out s hsh hlm
            have hlm' : ¬ (M : Int) + (s : Int) < (l.length : Int) := by omega
            subst e1 e2
            go_wp2
            go_roundg g1
            case measure => omega
            case rel => exact ⟨k + 1, h, by omega, by rw [HC.out]; go_num, rfl, by go_num, by omega, hh, Hb2, (HE.out _).2, (HE.out _).1⟩
    · obtain rfl : k = l.length := by omega
      have hlt' : ¬ (l.length : Int) < (l.length : Int) := by omega
      have HO : Hid (wr.ownsRow w.heap.size 3 1 (.slice (some ⟨Y.heap.size, 0, none⟩) l.length l.length) l.length (iVals .i64 (cpA l))) := HX.out.own (cpA_len l) (fun i hi => cpV_all hi) (by omega) HBY.out.size
      have HE : Hid (Below w.heap.size w wr) := lb_trans HBY.out HB.out
      go_wp2
      try rw [Exit.noGoto_ret]
      go_ret3
      exact ⟨_, _, rfl, HO.out, HE.out⟩
theorem prefixesOK : PrefixesOK := ⟨px_ok, px_no⟩



end Go.Proofs.YtokhclindfipbaaGreatDoor
