/-
  markBegins, by what it marks; each word is of 32 bits. gather of beginnings. Blocks of package block, by what it answers; each word is of 32 bits. slices.Grow of nil and slices.Concat, by what they answer; at most 64 lists, each of at most 65536 numbers.
-/
import Derived.Test.YtmlhnnmelopleaaGreatDoorProg
import Derived.WalkKit
import Derived.WalkSpells
import Derived.WalkLawsBesides
import Derived.RowKit3
import Derived.Below
import Derived.Deep.QuietTactic
import Derived.BigQuiet
import Derived.WalkSmall
import Derived.Laws.Rows
import Derived.Test.YtmlhnnmelopleaaGreatDoorPs23
import Derived.Test.YtmlhnnmelopleaaGreatDoorPs20
import Derived.Lib.AppendZeros
import Derived.Laws.OwnMore
import Derived.Test.YtmlhnnmelopleaaGreatDoorPs22
import Derived.Test.YtmlhnnmelopleaaGreatDoorPs10
namespace Go.Proofs.YtmlhnnmelopleaaGreatDoor
open Go.RowKit

set_option maxRecDepth 100000 in
set_option maxHeartbeats 2000000 in
theorem markbegins_any (A1 A2 : Option Addr) (c1 ml c2 : Nat) (ent : Int) (text : List Int) (b n : Nat) (f : Int → Bool) (w : World) (hT : IntsAt w A1 .u32 text) (hR : ∀ i, i < text.length → 0 ≤ nth text i ∧ nth text i < 4294967296) (hl : text.length ≤ 1048576) (he0 : 0 ≤ ent) (he1 : ent ≤ 1048576) (hk : Mks w b n f) (hn : n ≤ 1000000) :
    Calls Tryz.prog 72 #[.agg #[.slice A1 text.length c1, .int .i64 ent, .slice A2 ml c2], .map (some b)] w (MkP b (n + 2 + text.length + text.length) (addK (addK (setF (setF f 0) ent) (gLab text) text.length) (gEnd text) text.length) w) := by
  obtain ⟨W, HW⟩ : ∃ W, Hid (w.alloc (.cells #[.slice A1 text.length c1, .int .i64 ent, .slice A2 ml c2] 31) = W) := ⟨_, rfl⟩
  have HB : Hid (Below w.heap.size w W) := by unfold Hid; rw [← HW.out]; exact lb_alloc (Below.refl _ _) _
  have i0 : W.cell? ⟨w.heap.size, 0, none⟩ = some (.slice A1 text.length c1) := by rw [← HW.out]; simp [go_sem]
  have i1 : W.cell? ⟨w.heap.size, 1, none⟩ = some (.int .i64 ent) := by rw [← HW.out]; simp [go_sem]
  have i2 : W.cell? ⟨w.heap.size, 2, none⟩ = some (.slice A2 ml c2) := by rw [← HW.out]; simp [go_sem]
  have HT : Hid (IntsAt w A1 .u32 text) := hT
  have HK0 : Hid (Mks w b n f) := hk
  have HKW : Hid (Mks W b n f) := hk.keep HB.out
  have HR : Hid _ := hR
  clear hT hk hR
  go_enter Tryz.func72, Tryz.ntmps72
  go_upto_region 1 with fail
  rw [HW.out]
  clear HW
  go_wp2_with fail
  refine (mark_any b n f 0 W HKW.out (by omega) (by omega) (by omega)).mono ?_
  rintro e w1 ⟨rfl, hk1, hg1⟩
  have j0 := HKW.out.cell hg1 i0
  have j1 := HKW.out.cell hg1 i1
  have j2 := HKW.out.cell hg1 i2
  have HK1 : Hid (Mks w1 b (n + 1) (setF f 0)) := hk1
  have HG1 : Hid (w.grownBy w1 (some b)) := (grown_of HB.out).trans hg1
  clear i0 i1 i2 hk1 hg1
  go_wp2_with fail
  refine (marklabels_any A1 A2 c1 ml c2 ent text b (n + 1) (setF f 0) w1 (HK0.out.ints HG1.out HT.out) HR.out hl he0 he1 HK1.out (by omega)).mono ?_
  rintro e w2 ⟨rfl, hk2, hg2⟩
  have k0 := HK1.out.cell hg2 j0
  have HK2 : Hid (Mks w2 b (n + 1 + 1 + text.length) (addK (addK (setF (setF f 0) ent) (gLab text) text.length) (gEnd text) 0)) := hk2.fit fun y => (addK_zero _ _ y).symm
  have HG2 : Hid (w.grownBy w2 (some b)) := HG1.out.trans hg2
  clear j0 j1 j2 hk2 hg2 HK1 HG1
  go_wp2
  go_loopw [14] (fun i wr => ∃ (k m : Nat), i = .int .i64 k ∧ k ≤ text.length ∧ m ≤ n + 2 + text.length + k ∧ Hid (Mks wr b m (addK (addK (setF (setF f 0) ent) (gLab text) text.length) (gEnd text) k)) ∧ Hid (w.grownBy wr (some b))) (fun i _ => text.length - (intOf i).toNat)
  case atStart => exact ⟨0, n + 1 + 1 + text.length, rfl, Nat.zero_le _, by omega, HK2, HG2⟩
  case round =>
    clear HK2 HG2 k0
    obtain ⟨k, m, rfl, hk, hm, HK, HG⟩ := hrel
    by_cases hlt : k < text.length
    · obtain ⟨a, rfl, q⟩ := (HK0.out.ints HG.out HT.out) k hlt
      obtain ⟨hv0, hv1⟩ := HR.out k hlt
      have C := isaends_any (nth text k) hv0 hv1 wr
      have HY : Hid (endsB (dOp (nth text k)) = true → gEnd text k = some ((k : Int) + 1)) := gEnd_yes
      have HN : Hid (endsB (dOp (nth text k)) = false → gEnd text k = none) := gEnd_no
      generalize nth text k = v at *
      generalize endsB (dOp v) = t at *
      cases t with
      | false =>
        have HG0 : Hid (gEnd text k = none) := HN.out rfl
        clear HY HN
        go_wp2_with (go_at_call 27; refine C.mono ?_; rintro e w2 ⟨rfl, hb2⟩)
        go_roundw
        case rel => exact ⟨k + 1, m, by go_num, by omega, by omega, (HK.out.keep hb2).fit (addK_none HG0.out), grown_on HG.out hb2⟩
        case measure => simp [intOf]; omega
      | true =>
        have HG0 : Hid (gEnd text k = some ((k : Int) + 1)) := HY.out rfl
        clear HY HN
        go_wp2_with (first
          | (go_at_call 27; refine C.mono ?_; rintro e w2 ⟨rfl, hb2⟩)
          | (go_at_call 89; refine (mark_any b m _ ((k : Int) + 1) _ (HK.out.keep hb2) (by omega) (by omega) (by omega)).mono ?_; rintro e w3 ⟨rfl, hk3, hg3⟩))
        go_roundw
        case rel => exact ⟨k + 1, m + 1, by go_num, by omega, by omega, hk3.fit (addK_some HG0.out), (grown_on HG.out hb2).trans hg3⟩
        case measure => simp [intOf]; omega
    · obtain rfl : k = text.length := by omega
      go_wp2
      refine bodyPost_end (v := .tuple #[]) (by simp [results, Tryz.results72, go_sem]) rfl ?_
      exact ⟨rfl, HK.out.more hm, HG.out⟩




end Go.Proofs.YtmlhnnmelopleaaGreatDoor

namespace Go.Proofs.YtmlhnnmelopleaaGreatDoor
open Go.RowKit

set_option maxRecDepth 100000 in
set_option maxHeartbeats 4000000 in
theorem gather_beg (A1 A2 : Option Addr) (c1 ml c2 : Nat) (ent : Int) (text : List Int) (w : World) (hT : IntsAt w A1 .u32 text) (hR : ∀ i, i < text.length → 0 ≤ nth text i ∧ nth text i < 4294967296) (hl : text.length ≤ 1048576) (hm : ml ≤ 1048576) :
    Calls Tryz.prog 71 #[.agg #[.slice A1 text.length c1, .int .i64 ent, .slice A2 ml c2], .func (.func 72) #[] #[]] w (GatP (checkI text ml ent).1 (outL text ml ent (begF text ent)) w) := by
  have hmm := mkM
  obtain ⟨iI, hi, hz0, hz1, hz2⟩ := infoI
  obtain ⟨W, HW⟩ : ∃ W, Hid (w.alloc (.cells #[.slice A1 text.length c1, .int .i64 ent, .slice A2 ml c2] 31) = W) := ⟨_, rfl⟩
  have HB : Hid (Below w.heap.size w W) := by unfold Hid; rw [← HW.out]; exact lb_alloc (Below.refl _ _) _
  have i0 : W.cell? ⟨w.heap.size, 0, none⟩ = some (.slice A1 text.length c1) := by rw [← HW.out]; simp [go_sem]
  have i1 : W.cell? ⟨w.heap.size, 1, none⟩ = some (.int .i64 ent) := by rw [← HW.out]; simp [go_sem]
  have i2 : W.cell? ⟨w.heap.size, 2, none⟩ = some (.slice A2 ml c2) := by rw [← HW.out]; simp [go_sem]
  have HT : Hid (IntsAt w A1 .u32 text) := hT
  have HR : Hid (∀ i, i < text.length → 0 ≤ nth text i ∧ nth text i < 4294967296) := hR
  have C := check_any A1 A2 c1 ml c2 ent text W (hT.keep HB.out) hR hl hm
  clear hT hR
  by_cases hE : (checkI text ml ent).1 = 0
  · have HE : Hid ((checkI text ml ent).1 = 0) := hE
    have HM : Hid (MayI text ml ent) := check_mayI hE
    rw [check_pair hE] at C
    have hent0 := HM.out.past.ent0
    have hent1 := HM.out.past.ent1
    have HO : Hid (outL text ml ent (begF text ent) = plcT (begF text ent) text.length) := outL_ok hE
    clear hE
    have C : Calls Tryz.prog 88 #[.agg #[.slice A1 text.length c1, .int .i64 ent, .slice A2 ml c2]] W (ChkP 0 0 W) := C
    go_enter Tryz.func71, Tryz.ntmps71
    go_upto_region 1 with fail
    rw [HW.out]
    clear HW
    go_wp2_with fail
    refine C.mono ?_
    rintro e w1 ⟨rfl, hb1⟩
    have j0 := lkeep hb1 i0
    have j1 := lkeep hb1 i1
    have j2 := lkeep hb1 i2
    have HB1 : Hid (Below w.heap.size w w1) := lb_trans HB.out hb1
    clear i0 i1 i2 hb1 C
    obtain ⟨W2, HW2⟩ : ∃ W2, Hid (w1.alloc (.map #[] 0) = W2) := ⟨_, rfl⟩
    have HB2 : Hid (Below w1.heap.size w1 W2) := by unfold Hid; rw [← HW2.out]; exact lb_alloc (Below.refl _ _) _
    have HK2 : Hid (Mks W2 w1.heap.size 0 noF) := by unfold Hid; rw [← HW2.out]; exact Mks.made w1
    have k0 := lkeep HB2.out j0
    have k1 := lkeep HB2.out j1
    have k2 := lkeep HB2.out j2
    have HB02 : Hid (Below w.heap.size w W2) := lb_trans HB1.out HB2.out
    have hz : w.heap.size ≤ w1.heap.size := HB1.out.size
    clear j0 j1 j2
    go_upto_region 5 with fail
    rw [HW2.out]
    clear HW2
    go_wp2_with fail
    refine (markbegins_any A1 A2 c1 ml c2 ent text w1.heap.size 0 noF W2 (HT.out.keep HB02.out) HR.out hl hent0 (by omega) HK2.out (by omega)).mono ?_
    rintro e w3 ⟨rfl, hk3, hg3⟩
    have l0 := HK2.out.cell hg3 k0
    have HK3 : Hid (Mks w3 w1.heap.size (0 + 2 + text.length + text.length) (begF text ent)) := hk3
    have HB3 : Hid (Below w.heap.size w w3) := HB02.out.grown hg3 HB02.out.size (fun j hj => by cases hj; exact hz)
    clear k0 k1 k2 hk3 hg3
    go_wp2
    go_loopw [9, 29] (fun v i wr => ∃ (k : Nat) (O : Option Addr) (c : Nat), i = .int .i64 k ∧ v = .slice O (plcT (begF text ent) k).length c ∧ k ≤ text.length ∧ Hid (wr.ownsRow w.heap.size 3 1 v (plcT (begF text ent) k).length (iVals .i64 (plcT (begF text ent) k))) ∧ Hid (Mks wr w1.heap.size (0 + 2 + text.length + text.length) (begF text ent)) ∧ Hid (Below w.heap.size w wr)) (fun _ i _ => text.length - (intOf i).toNat)
    case atStart => exact ⟨0, none, 0, rfl, rfl, Nat.zero_le _, World.ownsRow_nil _ _ _ _, HK3, HB3⟩
    case round =>
      clear HK3 HB3 l0
      obtain ⟨k, O, c, rfl, rfl, hk, HRw, HK, HBr⟩ := hrel
      have hpl := plcT_len (begF text ent) k
      by_cases hlt : k < text.length
      · have hlk := HK.out.look (x := (k : Int)) (by omega) (by omega)
        have HZ : Hid (wr.heap.size ≤ (wr.alloc (.cells #[] 138)).heap.size) := by unfold Hid; simp
        cases ht : (begF text ent) (k : Int) with
        | false =>
          have HP : Hid (plcT (begF text ent) (k + 1) = plcT (begF text ent) k) := plcT_no ht
          rw [ht] at hlk
          clear ht
          go_wp2
          go_roundw
          case rel => exact ⟨k + 1, O, c, by go_num, by rw [HP.out], by omega, by rw [HP.out]; exact row_keep HRw.out (lb_alloc (Below.refl _ _) _), HK.out.keep (lb_alloc (Below.refl _ _) _), lb_alloc HBr.out _⟩
          case measure => simp [intOf]; omega
        | true =>
          have HP : Hid (plcT (begF text ent) (k + 1) = plcT (begF text ent) k ++ [(k : Int)]) := plcT_yes ht
          rw [ht] at hlk
          clear ht
          have HBa : Hid (Below w.heap.size w ((wr.alloc (.cells #[] 138)).alloc (.cells #[.int .i64 (k : Int)] 3))) := lb_alloc (lb_alloc HBr.out _) _
          have HBx : Hid (Below wr.heap.size wr ((wr.alloc (.cells #[] 138)).alloc (.cells #[.int .i64 (k : Int)] 3))) := lb_alloc (lb_alloc (Below.refl _ _) _) _
          have HRa : Hid (((wr.alloc (.cells #[] 138)).alloc (.cells #[.int .i64 (k : Int)] 3)).ownsRow w.heap.size 3 1 (.slice O (plcT (begF text ent) k).length c) (plcT (begF text ent) k).length (iVals .i64 (plcT (begF text ent) k))) := row_keep HRw.out HBx.out
          have HKa : Hid (Mks ((wr.alloc (.cells #[] 138)).alloc (.cells #[.int .i64 (k : Int)] 3)) w1.heap.size (0 + 2 + text.length + text.length) (begF text ent)) := HK.out.keep HBx.out
          generalize plcT (begF text ent) k = P at *
          go_upto_region 13 with (at_builtin; go_loud (refine wpList_append_own _ rfl (.tmp 39) (.tmp 41) 32 rfl w.heap.size 3 iI (.int .i64 0) 1 8 Tryz.underlying32 hi hz0 hz1 hz2 rfl (by decide) (.slice O P.length c) P.length (iVals .i64 P) rfl HRa.out ⟨wr.heap.size + 1, 0, none⟩ 1 1 [.int .i64 (k : Int)] rfl rfl (fun j u hu => World.news_of_block (newAtK (by simp)) j u hu) one_oneI (by unfold maxLen; omega) (by omega) HBa.out.size ?_; intro v3 w4 hown hgrow _; have HR3 : Hid (w4.ownsRow w.heap.size 3 1 v3 (plcT (begF text ent) (k + 1)).length (iVals .i64 (plcT (begF text ent) (k + 1)))) := (by rw [Hid, HP.out, iVals_snoc, List.length_append]; exact hown); have HB3 : Hid (Below w.heap.size w w4) := HBa.out.grown hgrow HBa.out.size (fun b hb => (HRa.out.lt b hb).1); have HK4 : Hid (Mks w4 w1.heap.size (0 + 2 + text.length + text.length) (begF text ent)) := HKa.out.kept hgrow (HKa.out.notrow HRa.out); clear hown hgrow))
          obtain ⟨A5, c5, e5⟩ := own_sl HR3.out
          subst e5
          go_wp2
          go_roundw
          case rel => exact ⟨k + 1, A5, c5, by go_num, rfl, by omega, HR3, HK4, HB3⟩
          case measure => simp [intOf]; omega
      · obtain rfl : k = text.length := by omega
        go_wp2
        go_ret2
        refine ⟨O, c, ?_, ?_, HBr.out⟩
        · rw [HO.out, HE.out]; rfl
        · rw [HO.out]; exact HRw.out
  · have HX : Hid (∀ w', Below w.heap.size w w' → GatP (checkI text ml ent).1 (outL text ml ent (begF text ent)) w (.returned (.tuple #[.slice none 0 0, .int .i64 (checkI text ml ent).1])) w') := fun w' hb => gat_no hE hb
    have hne : ((checkI text ml ent).1 == 0) = false := by simpa using hE
    have hne2 : ((checkI text ml ent).1 != 0) = true := by simpa using hE
    clear hE
    generalize (checkI text ml ent).1 = E at *
    generalize (checkI text ml ent).2 = E2 at *
    go_enter Tryz.func71, Tryz.ntmps71
    go_upto_region 1 with fail
    rw [HW.out]
    clear HW
    go_wp2_with fail
    refine C.mono ?_
    rintro e w1 ⟨rfl, hb1⟩
    go_wp2
    go_ret2
    exact HX.out _ (lb_trans HB.out hb1)




end Go.Proofs.YtmlhnnmelopleaaGreatDoor

namespace Go.Proofs.YtmlhnnmelopleaaGreatDoor
open Go.RowKit

set_option maxRecDepth 100000 in
set_option maxHeartbeats 2000000 in
theorem blocks_any (A1 A2 : Option Addr) (c1 ml c2 : Nat) (ent : Int) (text : List Int) (w : World) (hT : IntsAt w A1 .u32 text) (hR : ∀ i, i < text.length → 0 ≤ nth text i ∧ nth text i < 4294967296) (hl : text.length ≤ 1048576) (hm : ml ≤ 1048576) :
    Calls Tryz.prog 54 #[.agg #[.slice A1 text.length c1, .int .i64 ent, .slice A2 ml c2]] w (BlkP (checkI text ml ent).1 (outB text ml ent) w) := by
  obtain ⟨W, HW⟩ : ∃ W, Hid (w.alloc (.cells #[.slice A1 text.length c1, .int .i64 ent, .slice A2 ml c2] 31) = W) := ⟨_, rfl⟩
  have HB : Hid (Below w.heap.size w W) := by unfold Hid; rw [← HW.out]; exact lb_alloc (Below.refl _ _) _
  have i0 : W.cell? ⟨w.heap.size, 0, none⟩ = some (.slice A1 text.length c1) := by rw [← HW.out]; simp [go_sem]
  have i1 : W.cell? ⟨w.heap.size, 1, none⟩ = some (.int .i64 ent) := by rw [← HW.out]; simp [go_sem]
  have i2 : W.cell? ⟨w.heap.size, 2, none⟩ = some (.slice A2 ml c2) := by rw [← HW.out]; simp [go_sem]
  have C := gather_beg A1 A2 c1 ml c2 ent text W (hT.keep HB.out) hR hl hm
  clear hT hR
  by_cases hE : (checkI text ml ent).1 = 0
  · have HX : Hid (outB text ml ent = zipN (plcT (begF text ent) text.length) (text.length : Int)) := if_pos hE
    have hp := plcT_len (begF text ent) text.length
    rw [outL_ok hE, hE] at C
    have HE : Hid ((checkI text ml ent).1 = 0) := hE
    clear hE
    generalize plcT (begF text ent) text.length = ps at *
    have hmk := make_blk ps (text.length : Int) (by omega)
    go_enter Tryz.func54, Tryz.ntmps54
    go_upto_region 1 with fail
    rw [HW.out]
    clear HW
    go_wp2_with fail
    refine C.mono ?_
    rintro e w1 ⟨A, c, rfl, hown, hb1⟩
    have HB1 : Hid (Below w.heap.size w w1) := lb_trans HB.out hb1
    have j0 := lkeep hb1 i0
    have HI : Hid (IntsAt w1 A .i64 ps) := row_ints hown
    clear i0 i1 i2 hb1 hown C
    have j0' : (w1.alloc (.cells (wcur zCell (bCell ps (text.length : Int)) (ps.length * 2) (ps.length * 2)) 84)).cell? ⟨w.heap.size, 0, none⟩ = some (.slice A1 text.length c1) := lkeep (lb_alloc (Below.refl _ _) _) j0
    clear j0
    go_wp2
    go_loopw [7, 8] (fun en i wr => ∃ j : Nat, (i = .int .i64 (-1) ∧ j = 0 ∨ ∃ m : Nat, j = m + 1 ∧ i = .int .i64 (m : Int)) ∧ en = .int .i64 (endB ps (text.length : Int) j) ∧ j ≤ ps.length ∧ wr = w1.alloc (.cells (wcur zCell (bCell ps (text.length : Int)) (ps.length * 2) (j * 2)) 84)) (fun _ i _ => (intOf i + 1).toNat)
    case atStart =>
      refine ⟨ps.length, ?_, ?_, Nat.le_refl _, rfl⟩
      · cases hps : ps.length with
        | zero => exact .inl ⟨by simp, rfl⟩
        | succ m => exact .inr ⟨m, rfl, by first | rfl | (simp; done) | (simp; omega)⟩
      · unfold endB; rw [if_neg (Nat.lt_irrefl _)]
    case round =>
      clear hmk j0'
      obtain ⟨j, hj, rfl, hjl, rfl⟩ := hrel
      rcases hj with ⟨rfl, rfl⟩ | ⟨m, rfl, rfl⟩
      · go_wp2
        go_ret2
        refine ⟨some ⟨w1.heap.size, 0, none⟩, ps.length, ?_, ?_, lb_alloc HB1.out _⟩
        · rw [HX.out, HE.out, zipN_len]; rfl
        · rw [HX.out]
          exact ownsRow_mono (own_blk ps (text.length : Int) w1 (by omega)) HB1.out.size
      · obtain ⟨a, rfl, q⟩ := HI.out m (by omega)
        have HS : Hid _ := blk_step ps (text.length : Int) m (by omega)
        have hsz := wcur_size zCell (bCell ps (text.length : Int)) (ps.length * 2) ((m + 1) * 2)
        have hg0 : (wcur zCell (bCell ps (text.length : Int)) (ps.length * 2) ((m + 1) * 2))[m * 2]? = some (zCell (m * 2)) := by rw [wcur_get _ _ _ _ _ (by omega), if_pos (by omega)]
        have hg1 : (wcur zCell (bCell ps (text.length : Int)) (ps.length * 2) ((m + 1) * 2))[m * 2 + 1]? = some (zCell (m * 2 + 1)) := by rw [wcur_get _ _ _ _ _ (by omega), if_pos (by omega)]
        have q1 : (w1.alloc (.cells (wcur zCell (bCell ps (text.length : Int)) (ps.length * 2) ((m + 1) * 2)) 84)).cell? (a.add m) = some (.int .i64 (nth ps m)) := lkeep (lb_alloc (Below.refl _ _) _) q
        have q2 : ∀ x y : Value, (w1.alloc (.cells (((wcur zCell (bCell ps (text.length : Int)) (ps.length * 2) ((m + 1) * 2)).setIfInBounds (m * 2) x).setIfInBounds (m * 2 + 1) y) 84)).cell? (a.add m) = some (.int .i64 (nth ps m)) := fun x y => lkeep (lb_alloc (Below.refl _ _) _) q
        have HV : Hid (nth ps m = endB ps (text.length : Int) m) := by unfold Hid endB; rw [if_pos (by omega)]
        clear q
        have hm0 : (m : Int) < (ps.length : Int) := by omega
        go_wp2
        go_roundw
        case rel =>
          refine ⟨m, ?_, by first | (rw [← HV.out]; done) | (rw [← HV.out]; rfl), by omega, by rw [← HS.out]⟩
          cases m with
          | zero => exact .inl ⟨by simp, rfl⟩
          | succ m => exact .inr ⟨m, rfl, by first | rfl | (simp; done) | (simp; omega)⟩
        case measure => first | (simp [intOf]; done) | (simp [intOf]; omega)
  · have HX : Hid (outB text ml ent = []) := if_neg hE
    rw [outL_no hE] at C
    have hne : ((checkI text ml ent).1 == 0) = false := by simpa using hE
    have hne2 : ((checkI text ml ent).1 != 0) = true := by simpa using hE
    clear hE
    generalize (checkI text ml ent).1 = E at *
    go_enter Tryz.func54, Tryz.ntmps54
    go_upto_region 1 with fail
    rw [HW.out]
    clear HW
    go_wp2_with fail
    refine C.mono ?_
    rintro e w1 ⟨A, c, rfl, hown, hb1⟩
    go_wp2
    go_ret2
    rw [HX.out]
    exact ⟨none, 0, rfl, World.ownsRow_nil _ _ _ _, lb_trans HB.out hb1⟩




end Go.Proofs.YtmlhnnmelopleaaGreatDoor

namespace Go.Proofs.YtmlhnnmelopleaaGreatDoor
open Go.RowKit

open Go.Lib
/-- Lists one behind the other. -/
def catT (L : List (List Int)) (k : Nat) : List Int := (List.range k).flatMap (rowZ L)
theorem catT_zero (L : List (List Int)) : catT L 0 = [] := rfl
theorem catT_succ (L : List (List Int)) (k : Nat) : catT L (k + 1) = catT L k ++ rowZ L k := by simp [catT, List.range_succ]
theorem catT_len {L : List (List Int)} (h : ∀ i, i < L.length → (rowZ L i).length ≤ 65536) : ∀ k, k ≤ L.length → (catT L k).length ≤ 65536 * k
  | 0, _ => by simp [catT_zero]
  | k + 1, hk => by
    have h1 := catT_len h k (by omega)
    have h2 := h k (by omega)
    rw [catT_succ, List.length_append]
    omega
theorem iVals_app (K : IntKind) (a b : List Int) : iVals K (a ++ b) = iVals K a ++ iVals K b := by simp [iVals]
theorem iVals_one (K : IntKind) (l : List Int) : ∀ u ∈ iVals K l, u.oneCell' = true := fun u hu => by
  obtain ⟨x, _, rfl⟩ := List.mem_map.1 hu
  rfl
theorem iVals_len (K : IntKind) (l : List Int) : (iVals K l).length = l.length := by simp [iVals]
theorem wpList_appnil {P : Program} (w : World) {ops : Array Oper} {rest : List Oper} {o : Oper} {a : Act} {Q : Exit → Act → World → Prop} (hgd : o.guard = none) (s x : Operand) (t : TypeId)
    (ho : o.op = .call { callee := .builtin .append, args := #[s, x], argTypes := #[t, t] }) (v : Value) (hs : a.eval s = v) (hx : a.eval x = .slice none 0 0) (hr : ∀ ty, (Builtin.append_ #[t, t] ty #[v, .slice none 0 0]).run P w = .ok v w)
    (h : wpList P ops Q rest (a.put o.dst v) w) : wpList P ops Q (o :: rest) a w :=
  wpList_plain hgd fun K' hK' => by
    unfold Oper.wp execOp
    simp only [ho, resolve, invoke, builtin, Sem.run_bind, Sem.run_pure, Result.andThen_ok, List.map_toArray, List.map_cons, List.map_nil, hs, hx, hr]
    exact hK' _ _ h
/-- An empty list with room. -/
def RoomP (w : World) (e : Ending) (w' : World) : Prop := ∃ (A : Option Addr) (c : Nat), e = .returned (.slice A 0 c) ∧ w'.ownsRow w.heap.size 3 1 (.slice A 0 c) 0 [] ∧ Below w.heap.size w w'
theorem zeroCells_size (n : Nat) : (Builtin.zeroCells #[.int .i64 0] n).size = n := by simp [Builtin.zeroCells]
set_option maxRecDepth 100000 in
set_option maxHeartbeats 1000000 in
theorem grow_nil (n : Nat) (w : World) (hn : n ≤ 16777216) : Calls Tryz.prog 122 #[.slice none 0 0, .int .i64 (n : Int)] w (RoomP w) := by
  obtain ⟨iI, hi, hz0, hz1, hz2⟩ := infoI
  have h1 : ¬ ((n : Int) < 0) := by omega
  by_cases h0 : n = 0
  · subst h0
    go_enter Tryz.func122, Tryz.ntmps122
    go_wp2
    go_ret
    exact ⟨none, 0, rfl, World.ownsRow_nil _ _ _ _, Below.refl _ _⟩
  · have h2 : (0 : Int) < (n : Int) := by omega
    have hb : (n : Int) ≤ 16777216 := by omega
    have hr : ∀ ty, (Builtin.append_ #[32, 3] ty #[.slice none 0 0, .int .i64 (n : Int)]).run Tryz.prog w = .ok (.slice (some ⟨w.heap.size, 0, none⟩) n (grownCap w n 0 3)) (w.drew.alloc (.cells (Builtin.zeroCells #[.int .i64 0] n ++ Builtin.zeroCells #[.int .i64 0] (grownCap w n 0 3 - n)) 3)) := fun ty =>
      Lib.run_append_nil_zeros w 32 3 ty 3 iI (.int .i64 0) .i64 .i64 Tryz.underlying32 Tryz.underlying3 hi hz0 n (by omega) (by omega) (by omega) (by rw [hz2]; omega)
    have hG := grownCap_ge w n 0 3
    have hG2 := grownCap_le_maxLen w n 0 3 (by unfold maxLen; omega)
    generalize grownCap w n 0 3 = G at *
    have HO : Hid ((w.drew.alloc (.cells (Builtin.zeroCells #[.int .i64 0] n ++ Builtin.zeroCells #[.int .i64 0] (G - n)) 3)).ownsRow w.heap.size 3 1 (.slice (some ⟨w.heap.size, 0, none⟩) 0 G) 0 []) :=
      ⟨rfl, .inr ⟨w.heap.size, G, _, rfl, Nat.le_refl _, heap_alloc_new w.drew _, Nat.zero_le _, hG2, by rw [Array.size_append, zeroCells_size, zeroCells_size]; omega, by simp⟩⟩
    have HB : Hid (Below w.heap.size w (w.drew.alloc (.cells (Builtin.zeroCells #[.int .i64 0] n ++ Builtin.zeroCells #[.int .i64 0] (G - n)) 3))) := (Below.refl _ w).drew.alloc (Nat.le_refl _) _
    have hGm : (G : Int) ≤ 9223372036854775807 := by unfold maxLen at hG2; omega
    clear hG2
    go_enter Tryz.func122, Tryz.ntmps122
    go_wp2_with (at_builtin; go_loud (refine Lib.wpList_append_run _ rfl (.tmp 20) (.tmp 21) 32 3 rfl (.slice none 0 0) (.int .i64 (n : Int)) rfl rfl _ _ (hr _) ?_))
    go_ret
    exact ⟨_, _, rfl, HO.out, HB.out⟩

set_option maxRecDepth 100000 in
set_option maxHeartbeats 2000000 in
theorem concat_any (base g c : Nat) (vs : List Value) (L : List (List Int)) (w : World) (h : RowsZ w base (.slice (some ⟨g, 0, none⟩) L.length c) vs L) (hn : L.length ≤ 64) (hl : ∀ i, i < L.length → (rowZ L i).length ≤ 65536) :
    Calls Tryz.prog 117 #[.slice (some ⟨g, 0, none⟩) L.length c] w (RowP (catT L L.length) w) := by
  obtain ⟨iI, hi, hz0, hz1, hz2⟩ := infoI
  have HL : Hid (∀ k, k ≤ L.length → (catT L k).length ≤ 65536 * k) := fun k hk => catT_len hl k hk
  have HC : Hid (∀ i, i < L.length → ∃ (R : Option Addr) (k : Nat), w.cell? ⟨g, i, none⟩ = some (.slice R (rowZ L i).length k) ∧ w.ownsRow base 3 1 (.slice R (rowZ L i).length k) (rowZ L i).length (iVals .i64 (rowZ L i))) := fun i hi => by
    obtain ⟨R, k, e⟩ := own_form (h.row i hi)
    have hvl := h.len
    have hc := h.bag.cells (g := g) rfl i (vn vs i) (by unfold vn; rw [List.getD_eq_getElem?_getD, List.getElem?_eq_getElem (by omega)]; rfl)
    rw [add0] at hc
    refine ⟨R, k, by rw [hc, e], ?_⟩
    rw [← e]
    exact h.row i hi
  have HR : Hid _ := hl
  clear h hl
  go_enter Tryz.func117, Tryz.ntmps117
  go_wp2
  go_loopw [3, 11] (fun s i wr => ∃ k : Nat, i = .int .i64 k ∧ s = .int .i64 (((catT L k).length : Nat) : Int) ∧ k ≤ L.length ∧ w = wr) (fun _ i _ => L.length - (intOf i).toNat)
  case atStart => exact ⟨0, rfl, rfl, Nat.zero_le _, rfl⟩
  case round =>
    obtain ⟨k, rfl, rfl, hk, rfl⟩ := hrel
    have hb0 := HL.out k hk
    by_cases hlt : k < L.length
    · have hlt' : (k : Int) < (L.length : Int) := by omega
      obtain ⟨R, kr, hc, _⟩ := HC.out k hlt
      have hb1 := HR.out k hlt
      have HS : Hid ((((catT L (k + 1)).length : Nat) : Int) = ((catT L k).length : Int) + ((rowZ L k).length : Int)) := by unfold Hid; rw [catT_succ, List.length_append]; omega
      have hns : ¬ (((catT L k).length : Int) + ((rowZ L k).length : Int) < 0) := by omega
      generalize (catT L k).length = x at *
      generalize (rowZ L k).length = y at *
      have hx : (x : Int) ≤ 4194304 := by omega
      have hy : (y : Int) ≤ 65536 := by omega
      go_wp2
      go_roundw
      case rel => exact ⟨k + 1, by go_num, by rw [HS.out], by omega, by first | rfl | trivial⟩
      case measure => simp [intOf]; omega
    · obtain rfl : k = L.length := by omega
      have C := grow_nil (catT L L.length).length w (by omega)
      generalize (catT L L.length).length = x at *
      go_wp2_with (go_at_call 122; refine C.mono ?_; rintro e w1 ⟨A, c1, rfl, hown, hb1⟩; have HO : Hid (w1.ownsRow w.heap.size 3 1 (.slice A 0 c1) 0 []) := hown; have HB : Hid (Below w.heap.size w w1) := hb1; clear hown hb1)
      go_loopw [6, 27] (fun v i wr => ∃ (k : Nat) (O : Option Addr) (cc : Nat), i = .int .i64 k ∧ v = .slice O (catT L k).length cc ∧ k ≤ L.length ∧ Hid (wr.ownsRow w.heap.size 3 1 v (catT L k).length (iVals .i64 (catT L k))) ∧ Hid (Below w.heap.size w wr)) (fun _ i _ => L.length - (intOf i).toNat)
      case atStart => exact ⟨0, A, c1, rfl, rfl, Nat.zero_le _, HO, HB⟩
      case round =>
        clear HO HB C
        obtain ⟨k, O, cc, rfl, rfl, hk, HO, HB⟩ := hrel
        by_cases hlt : k < L.length
        · have hlt' : (k : Int) < (L.length : Int) := by omega
          obtain ⟨R, kr, hc, hrow⟩ := HC.out k hlt
          replace hc := lkeep HB.out hc
          have hb0 := HL.out k hk
          have hb1 := HR.out k hlt
          have HS : Hid (catT L (k + 1) = catT L k ++ rowZ L k) := catT_succ L k
          have HI : Hid (IntsAt wr R .i64 (rowZ L k)) := (row_ints hrow).keep HB.out
          cases R with
          | none =>
            have h00 : (rowZ L k).length = 0 ∧ kr = 0 := by
              rcases hrow.2 with ⟨e, h0⟩ | ⟨g2, cap, cur, e, _⟩
              · injection e with _ _ e3; exact ⟨h0, e3⟩
              · cases e
            have HNil : Hid (catT L (k + 1) = catT L k) := by unfold Hid; rw [HS.out, List.length_eq_zero_iff.1 h00.1, List.append_nil]
            have hr : ∀ ty, (Builtin.append_ #[32, 32] ty #[.slice O (catT L k).length cc, .slice none 0 0]).run Tryz.prog wr = .ok (.slice O (catT L k).length cc) wr := fun ty => run_append_owned_none (P := Tryz.prog) (w := wr) w.heap.size 32 ty 3 iI 1 Tryz.underlying32 hi (.slice O (catT L k).length cc) (catT L k).length (iVals .i64 (catT L k)) HO.out
            rw [h00.1, h00.2] at hc
            clear hrow h00
            generalize catT L k = P at *
            go_wp2_with (at_builtin; go_loud (refine wpList_appnil _ rfl (.tmp 31) (.tmp 32) 32 rfl (.slice O P.length cc) rfl rfl hr ?_))
            go_roundw
            case rel => exact ⟨k + 1, O, cc, by go_num, by rw [HNil.out], by omega, by rw [HNil.out]; exact HO, HB⟩
            case measure => simp [intOf]; omega
          | some a =>
            clear hrow
            have hlen : (catT L k).length + (rowZ L k).length ≤ 8388608 := by omega
            generalize catT L k = P at *
            generalize rowZ L k = Q at *
            go_upto_region 14 with (at_builtin; go_loud (refine wpList_append_own _ rfl (.tmp 31) (.tmp 32) 32 rfl w.heap.size 3 iI (.int .i64 0) 1 8 Tryz.underlying32 hi hz0 hz1 hz2 rfl (by decide) (.slice O P.length cc) P.length (iVals .i64 P) rfl HO.out a Q.length kr (iVals .i64 Q) rfl (by rw [iVals_len]; omega) (fun j u hu => by obtain ⟨hj, e⟩ := List.getElem?_eq_some_iff.1 hu; rw [iVals_len] at hj; obtain ⟨a2, ea, q⟩ := HI.out j hj; obtain rfl := Option.some.inj ea; rw [iVals_get hj] at hu; rw [q]; exact hu) (iVals_one _ _) (by unfold maxLen; omega) (by omega) HB.out.size ?_; intro v3 w4 hown hgrow _; have HR3 : Hid (w4.ownsRow w.heap.size 3 1 v3 (P ++ Q).length (iVals .i64 (P ++ Q))) := (by rw [Hid, iVals_app, List.length_append]; exact hown); have HB3 : Hid (Below w.heap.size w w4) := HB.out.grown hgrow HB.out.size (fun b hb => (HO.out.lt b hb).1); clear hown hgrow))
            obtain ⟨A5, c5, e5⟩ := own_form HR3.out
            subst e5
            go_wp2
            go_roundw
            case rel => exact ⟨k + 1, A5, c5, by go_num, by rw [HS.out], by omega, by rw [HS.out]; exact HR3, HB3⟩
            case measure => simp [intOf]; omega
        · obtain rfl : k = L.length := by omega
          go_wp2
          go_ret
          exact ⟨O, cc, rfl, HO.out, HB.out⟩



end Go.Proofs.YtmlhnnmelopleaaGreatDoor
