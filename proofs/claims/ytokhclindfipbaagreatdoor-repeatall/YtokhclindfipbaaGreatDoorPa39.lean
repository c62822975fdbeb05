/-
  gather of beginnings.
-/
import Derived.Test.YtokhclindfipbaaGreatDoorProg
import Derived.WalkKit
import Derived.WalkSpells
import Derived.WalkLawsBesides
import Derived.RowKit3
import Derived.Below
import Derived.Deep.QuietTactic
import Derived.BigQuiet
import Derived.WalkSmall
import Derived.Laws.Rows
import Derived.Test.YtokhclindfipbaaGreatDoorPa25
import Derived.Test.YtokhclindfipbaaGreatDoorPa18
import Derived.Test.YtokhclindfipbaaGreatDoorPa38
namespace Go.Proofs.YtokhclindfipbaaGreatDoor
open Go.RowKit

set_option maxRecDepth 100000 in
set_option maxHeartbeats 4000000 in
theorem gather_beg (A1 A2 : Option Addr) (c1 ml c2 : Nat) (ent : Int) (text : List Int) (w : World) (hT : IntsAt w A1 .u32 text) (hR : ∀ i, i < text.length → 0 ≤ nth text i ∧ nth text i < 4294967296) (hl : text.length ≤ 1048576) (hm : ml ≤ 1048576) :
    Calls Tryz.prog 78 #[.agg #[.slice A1 text.length c1, .int .i64 ent, .slice A2 ml c2], .func (.func 79) #[] #[]] w (GatP (checkI text ml ent).1 (outL text ml ent (begF text ent)) w) := by
  have hmm := mkM
  obtain ⟨iI, hi, hz0, hz1, hz2⟩ := infoI
  obtain ⟨W, HW⟩ : ∃ W, Hid (w.alloc (.cells #[.slice A1 text.length c1, .int .i64 ent, .slice A2 ml c2] 25) = W) := ⟨_, rfl⟩
  have HB : Hid (Below w.heap.size w W) := by unfold Hid; rw [← HW.out]; exact lb_alloc (Below.refl _ _) _
  have i0 : W.cell? ⟨w.heap.size, 0, none⟩ = some (.slice A1 text.length c1) := by rw [← HW.out]; simp [go_sem]
  have i1 : W.cell? ⟨w.heap.size, 1, none⟩ = some (.int .i64 ent) := by rw [← HW.out]; simp [go_sem]
  have i2 : W.cell? ⟨w.heap.size, 2, none⟩ = some (.slice A2 ml c2) := by rw [← HW.out]; simp [go_sem]
  have HT : Hid (IntsAt w A1 .u32 text) := hT
  have HR : Hid (∀ i, i < text.length → 0 ≤ nth text i ∧ nth text i < 4294967296) := hR
  have C := check_any A1 A2 c1 ml c2 ent text W (hT.keep HB.out) hR hl hm
  clear hT hR
  by_cases hE : (checkI text ml ent).1 = 0
  · have HE : Hid ((checkI text ml ent).1 = 0) := hE
    have HM : Hid (MayI text ml ent) := check_mayI hE
    rw [check_pair hE] at C
    have hent0 := HM.out.past.ent0
    have hent1 := HM.out.past.ent1
    have HO : Hid (outL text ml ent (begF text ent) = plcT (begF text ent) text.length) := outL_ok hE
    clear hE
    have C : Calls Tryz.prog 75 #[.agg #[.slice A1 text.length c1, .int .i64 ent, .slice A2 ml c2]] W (ChkP 0 0 W) := C
    go_enter Tryz.func78, Tryz.ntmps78
    go_upto_region 1 with fail
    rw [HW.out]
    clear HW
    go_wp2_with fail
    refine C.mono ?_
    rintro e w1 ⟨rfl, hb1⟩
    have j0 := lkeep hb1 i0
    have j1 := lkeep hb1 i1
    have j2 := lkeep hb1 i2
    have HB1 : Hid (Below w.heap.size w w1) := lb_trans HB.out hb1
    clear i0 i1 i2 hb1 C
    obtain ⟨W2, HW2⟩ : ∃ W2, Hid (w1.alloc (.map #[] 0) = W2) := ⟨_, rfl⟩
    have HB2 : Hid (Below w1.heap.size w1 W2) := by unfold Hid; rw [← HW2.out]; exact lb_alloc (Below.refl _ _) _
    have HK2 : Hid (Mks W2 w1.heap.size 0 noF) := by unfold Hid; rw [← HW2.out]; exact Mks.made w1
    have k0 := lkeep HB2.out j0
    have k1 := lkeep HB2.out j1
    have k2 := lkeep HB2.out j2
    have HB02 : Hid (Below w.heap.size w W2) := lb_trans HB1.out HB2.out
    have hz : w.heap.size ≤ w1.heap.size := HB1.out.size
    clear j0 j1 j2
    go_upto_region 5 with fail
    rw [HW2.out]
    clear HW2
    go_wp2_with fail
    refine (markbegins_any A1 A2 c1 ml c2 ent text w1.heap.size 0 noF W2 (HT.out.keep HB02.out) HR.out hl hent0 (by omega) HK2.out (by omega)).mono ?_
    rintro e w3 ⟨rfl, hk3, hg3⟩
    have l0 := HK2.out.cell hg3 k0
    have HK3 : Hid (Mks w3 w1.heap.size (0 + 2 + text.length + text.length) (begF text ent)) := hk3
    have HB3 : Hid (Below w.heap.size w w3) := HB02.out.grown hg3 HB02.out.size (fun j hj => by cases hj; exact hz)
    clear k0 k1 k2 hk3 hg3
    go_wp2
    go_loopw [9, 29] (fun v i wr => ∃ (k : Nat) (O : Option Addr) (c : Nat), i = .int .i64 k ∧ v = .slice O (plcT (begF text ent) k).length c ∧ k ≤ text.length ∧ Hid (wr.ownsRow w.heap.size 3 1 v (plcT (begF text ent) k).length (iVals .i64 (plcT (begF text ent) k))) ∧ Hid (Mks wr w1.heap.size (0 + 2 + text.length + text.length) (begF text ent)) ∧ Hid (Below w.heap.size w wr)) (fun _ i _ => text.length - (intOf i).toNat)
    case atStart => exact ⟨0, none, 0, rfl, rfl, Nat.zero_le _, World.ownsRow_nil _ _ _ _, HK3, HB3⟩
    case round =>
      clear HK3 HB3 l0
      obtain ⟨k, O, c, rfl, rfl, hk, HRw, HK, HBr⟩ := hrel
      have hpl := plcT_len (begF text ent) k
      by_cases hlt : k < text.length
      · have hlk := HK.out.look (x := (k : Int)) (by omega) (by omega)
        have HZ : Hid (wr.heap.size ≤ (wr.alloc (.cells #[] 176)).heap.size) := by unfold Hid; simp
        cases ht : (begF text ent) (k : Int) with
        | false =>
          have HP : Hid (plcT (begF text ent) (k + 1) = plcT (begF text ent) k) := plcT_no ht
          rw [ht] at hlk
          clear ht
          go_wp2
          go_roundw
          case rel => exact ⟨k + 1, O, c, by go_num, by rw [HP.out], by omega, by rw [HP.out]; exact row_keep HRw.out (lb_alloc (Below.refl _ _) _), HK.out.keep (lb_alloc (Below.refl _ _) _), lb_alloc HBr.out _⟩
          case measure => simp [intOf]; omega
        | true =>
          have HP : Hid (plcT (begF text ent) (k + 1) = plcT (begF text ent) k ++ [(k : Int)]) := plcT_yes ht
          rw [ht] at hlk
          clear ht
          have HBa : Hid (Below w.heap.size w ((wr.alloc (.cells #[] 176)).alloc (.cells #[.int .i64 (k : Int)] 3))) := lb_alloc (lb_alloc HBr.out _) _
          have HBx : Hid (Below wr.heap.size wr ((wr.alloc (.cells #[] 176)).alloc (.cells #[.int .i64 (k : Int)] 3))) := lb_alloc (lb_alloc (Below.refl _ _) _) _
          have HRa : Hid (((wr.alloc (.cells #[] 176)).alloc (.cells #[.int .i64 (k : Int)] 3)).ownsRow w.heap.size 3 1 (.slice O (plcT (begF text ent) k).length c) (plcT (begF text ent) k).length (iVals .i64 (plcT (begF text ent) k))) := row_keep HRw.out HBx.out
          have HKa : Hid (Mks ((wr.alloc (.cells #[] 176)).alloc (.cells #[.int .i64 (k : Int)] 3)) w1.heap.size (0 + 2 + text.length + text.length) (begF text ent)) := HK.out.keep HBx.out
          generalize plcT (begF text ent) k = P at *
          go_upto_region 13 with (at_builtin; go_loud (refine wpList_append_own _ rfl (.tmp 39) (.tmp 41) 36 rfl w.heap.size 3 iI (.int .i64 0) 1 8 Tryz.underlying36 hi hz0 hz1 hz2 rfl (by decide) (.slice O P.length c) P.length (iVals .i64 P) rfl HRa.out ⟨wr.heap.size + 1, 0, none⟩ 1 1 [.int .i64 (k : Int)] rfl rfl (fun j u hu => World.news_of_block (newAtK (by simp)) j u hu) one_oneI (by unfold maxLen; omega) (by omega) HBa.out.size ?_; intro v3 w4 hown hgrow _; have HR3 : Hid (w4.ownsRow w.heap.size 3 1 v3 (plcT (begF text ent) (k + 1)).length (iVals .i64 (plcT (begF text ent) (k + 1)))) := (by rw [Hid, HP.out, iVals_snoc, List.length_append]; exact hown); have HB3 : Hid (Below w.heap.size w w4) := HBa.out.grown hgrow HBa.out.size (fun b hb => (HRa.out.lt b hb).1); have HK4 : Hid (Mks w4 w1.heap.size (0 + 2 + text.length + text.length) (begF text ent)) := HKa.out.kept hgrow (HKa.out.notrow HRa.out); clear hown hgrow))
          obtain ⟨A5, c5, e5⟩ := own_sl HR3.out
          subst e5
          go_wp2
          go_roundw
          case rel => exact ⟨k + 1, A5, c5, by go_num, rfl, by omega, HR3, HK4, HB3⟩
          case measure => simp [intOf]; omega
      · obtain rfl : k = text.length := by omega
        go_wp2
        go_ret2
        refine ⟨O, c, ?_, ?_, HBr.out⟩
        · rw [HO.out, HE.out]; rfl
        · rw [HO.out]; exact HRw.out
  · have HX : Hid (∀ w', Below w.heap.size w w' → GatP (checkI text ml ent).1 (outL text ml ent (begF text ent)) w (.returned (.tuple #[.slice none 0 0, .int .i64 (checkI text ml ent).1])) w') := fun w' hb => gat_no hE hb
    have hne : ((checkI text ml ent).1 == 0) = false := by simpa using hE
    have hne2 : ((checkI text ml ent).1 != 0) = true := by simpa using hE
    clear hE
    generalize (checkI text ml ent).1 = E at *
    generalize (checkI text ml ent).2 = E2 at *
    go_enter Tryz.func78, Tryz.ntmps78
    go_upto_region 1 with fail
    rw [HW.out]
    clear HW
    go_wp2_with fail
    refine C.mono ?_
    rintro e w1 ⟨rfl, hb1⟩
    go_wp2
    go_ret2
    exact HX.out _ (lb_trans HB.out hb1)



end Go.Proofs.YtokhclindfipbaaGreatDoor
