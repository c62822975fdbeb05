/-
  THE LAW CommonPrefixes, over the program's contracts.
-/
import Derived.Test.YtpmaiblgnblpeaaDoorProg
import Derived.WalkKit
import Derived.WalkSpells
import Derived.WalkLawsBesides
import Derived.RowKit3
import Derived.Below
import Derived.Deep.QuietTactic
import Derived.BigQuiet
import Derived.WalkSmall
import Derived.Laws.Rows
import Derived.Test.YtpmaiblgnblpeaaDoorPf08
import Derived.Test.YtpmaiblgnblpeaaDoorPf32
import Derived.Test.YtpmaiblgnblpeaaDoorPf17
import Derived.Test.YtpmaiblgnblpeaaDoorPf30
import Derived.Test.YtpmaiblgnblpeaaDoorPf28
import Derived.Test.YtpmaiblgnblpeaaDoorPf41
import Derived.Test.YtpmaiblgnblpeaaDoorPf42
namespace Go.Proofs.YtpmaiblgnblpeaaDoor
open Go.RowKit

set_option maxRecDepth 100000 in
set_option maxHeartbeats 16000000 in
theorem lawPrefixes (hp : PrefixesOK) (LV : LivesOK) (A B : Option Addr) (c d : Nat) (l o : List Int) (own : Bool) (w : World) (hA : IntsAt w A .i64 l) (hB : IntsAt w B .i64 o) (hR : ∀ i, i < l.length → Rng (nth l i)) :
    Calls Tryd.prog 3 #[.slice A l.length c, .slice B o.length d, .bool own] w fun e w' => e = .returned (.bool true) ∧ Below w.heap.size w w' := by
  by_cases hbig : 1024 < l.length
  · have hb' : (1024 : Int) < (l.length : Int) := by omega
    clear hp hA hB hR
    go_enter Tryd.func3, Tryd.ntmps3
    go_wp2_with fail
    refine (LV _).mono ?_
    rintro e w1 ⟨rfl, hb1⟩
    go_wp2
    go_ret
    exact ⟨rfl, hb1⟩
  have hb' : ¬ (1024 : Int) < (l.length : Int) := by omega
  by_cases hbig2 : 1024 < o.length
  · have hb2 : (1024 : Int) < (o.length : Int) := by omega
    clear hp hA hB hR
    go_enter Tryd.func3, Tryd.ntmps3
    go_wp2_with fail
    refine (LV _).mono ?_
    rintro e w1 ⟨rfl, hb1⟩
    go_wp2
    go_ret
    exact ⟨rfl, hb1⟩
  have hb2 : ¬ (1024 : Int) < (o.length : Int) := by omega
  have hl : l.length ≤ 1024 := by omega
  have hlo : o.length ≤ 1024 := by omega
  have hl1 : l.length ≤ 1048576 := by omega
  have HA : Hid (IntsAt w A .i64 l) := hA
  have HR : Hid (∀ i, i < l.length → Rng (nth l i)) := hR
  clear hbig hbig2 hR
  cases own with
  | true =>
    have hla : (sufL l).length ≤ 1048576 := by rw [sufL_len]; exact hl1
    have RA := refarray_any A c l w hA hl1
    clear hA hB
    go_enter Tryd.func3, Tryd.ntmps3
    go_wp2_with fail
    refine RA.mono ?_
    rintro r WA ⟨Aa, ca, rfl, hoa, hba⟩
    have HBA : Hid (Below w.heap.size w WA) := hba
    have HAA : Hid (IntsAt WA Aa .i64 (sufL l)) := row_ints (l := sufL l) (by rw [sufL_len]; exact hoa)
    clear hoa hba RA
    go_wp2_with fail
    refine (wideints_lies A c l _ (HA.out.keep HBA.out) hl1).mono ?_
    rintro r w1 ⟨g, rfl, hb1, kA, m3⟩
    have HB1 : Hid (Below WA.heap.size WA w1) := hb1
    have HKA : Hid (IntsAt w1 (some ⟨g, 0, none⟩) .i64 l) := kA
    have HM : Hid (MarkI w1 .i64 g l.length) := m3
    clear hb1 kA m3
    have WD := wideints_lies Aa ca (sufL l) w1 (HAA.out.keep HB1.out) hla
    rw [sufL_len] at WD
    go_wp2_with fail
    refine WD.mono ?_
    rintro r w2 ⟨h, rfl, hb1, kA, m3⟩
    have HB2 : Hid (Below w1.heap.size w1 w2) := hb1
    have HKB : Hid (IntsAt w2 (some ⟨h, 0, none⟩) .i64 (sufL l)) := kA
    have HMB : Hid (MarkI w2 .i64 h l.length) := m3
    have HKA2 : Hid (IntsAt w2 (some ⟨g, 0, none⟩) .i64 l) := HKA.out.keep HB2.out
    have HM2 : Hid (MarkI w2 .i64 g l.length) := HM.out.keep HB2.out
    have HB02 : Hid (Below WA.heap.size WA w2) := lb_trans HB1.out HB2.out
    have HBw2 : Hid (Below w.heap.size w w2) := lb_trans HBA.out HB02.out
    clear hb1 kA m3 WD HB1 HB2 HKA HM
    have PX := fun Z (hZ : Below w2.heap.size w2 Z) => hp.ok (some ⟨g, 0, none⟩) (some ⟨h, 0, none⟩) (l.length + 64) (l.length + 64) l Z (HKA2.out.keep hZ) HR.out (by omega) (HKB.out.keep hZ)
    unfold PxR at PX
    have RX := fun Z (hZ : Below w2.heap.size w2 Z) => refpfx_ok A Aa c ca l Z (HA.out.keep (lb_trans HBw2.out hZ)) (HAA.out.keep (lb_trans HB02.out hZ)) hl1
    obtain ⟨cc1, cc2, cc3⟩ := cc_ok l
    have RC := fun Z => refcost_any l.length (ccI l) Z (by omega) cc1 cc2 cc3
    generalize ccI l = cc at *
    have ecc : (cc != cc) = false := by simp
    clear cc1 cc2 cc3
    go_wp2_with fail
    refine (PX _ (Below.refl _ _)).mono ?_
    rintro r w3 ⟨P1, k1, rfl, ho1, hb3⟩
    have HB3 : Hid (Below w2.heap.size w2 w3) := hb3
    have HR1 : Hid (w3.ownsRow w2.heap.size 3 1 (.slice P1 l.length k1) l.length (iVals .i64 (cpA l))) := ho1
    clear ho1 hb3
    go_wp2_with fail
    refine (PX _ HB3.out).mono ?_
    rintro r w4 ⟨P2, k2, rfl, ho2, hb4⟩
    have HB4 : Hid (Below w2.heap.size w2 w4) := lb_trans HB3.out hb4
    have HOf : Hid (Off (Value.slice P1 l.length k1).ownBlock (Value.slice P2 l.length k2).ownBlock) := off_late HR1.out ho2 (Nat.le_refl _)
    have HR2 : Hid (w4.ownsRow w2.heap.size 3 1 (.slice P1 l.length k1) l.length (iVals .i64 (cpA l))) := row_keep HR1.out hb4
    have HR3 : Hid (w4.ownsRow w2.heap.size 3 1 (.slice P2 l.length k2) l.length (iVals .i64 (cpA l))) := ownsRow_mono ho2 HB3.out.size
    clear ho2 hb4 HR1 HB3 PX
    go_wp2_with fail
    refine (RX _ HB4.out).mono ?_
    rintro r w5 ⟨R, kr, rfl, ho5, hb5⟩
    have HB5 : Hid (Below w2.heap.size w2 w5) := lb_trans HB4.out hb5
    have HR5 : Hid (w5.ownsRow w2.heap.size 3 1 (.slice P1 l.length k1) l.length (iVals .i64 (cpA l))) := row_keep HR2.out hb5
    have HR6 : Hid (w5.ownsRow w2.heap.size 3 1 (.slice P2 l.length k2) l.length (iVals .i64 (cpA l))) := row_keep HR3.out hb5
    have HI1 : Hid (IntsAt w5 P1 .i64 (cpA l)) := row_ints (l := cpA l) (by rw [cpA_len]; exact HR5.out)
    have HI2 : Hid (IntsAt w5 P2 .i64 (cpA l)) := row_ints (l := cpA l) (by rw [cpA_len]; exact HR6.out)
    have HI3 : Hid (IntsAt w5 R .i64 (cpA l)) := row_ints (l := cpA l) (by rw [cpA_len]; exact ho5)
    have QE := fun (X Y : Option Addr) (kx ky : Nat) (Z : World) (h1 : IntsAt Z X .i64 (cpA l)) (h2 : IntsAt Z Y .i64 (cpA l)) => eqints_any X Y kx ky (cpA l) (cpA l) Z h1 h2 (by rw [cpA_len]; exact hl1)
    simp only [decide_true, cpA_len] at QE
    clear ho5 hb5 HR2 HR3 RX HB4
    go_wp2_with fail
    refine (QE P1 R k1 kr _ HI1.out HI3.out).mono ?_
    rintro r w6 ⟨rfl, hb6⟩
    go_wp2_with fail
    refine (QE P2 R k2 kr _ (HI2.out.keep hb6) (HI3.out.keep hb6)).mono ?_
    rintro r w7 ⟨rfl, hb7⟩
    have HB7 : Hid (Below w5.heap.size w5 w7) := lb_trans hb6 hb7
    clear hb6 hb7 QE HI1 HI2 HI3
    have E1 := fun Z (hZ : Below w5.heap.size w5 Z) => eqints_any (some ⟨g, 0, none⟩) A (l.length + 64) c l l Z (HKA2.out.keep (lb_trans HB5.out hZ)) (HA.out.keep (lb_trans HBw2.out (lb_trans HB5.out hZ))) hl1
    have E2 := fun Z (hZ : Below w5.heap.size w5 Z) => eqints_any (some ⟨h, 0, none⟩) Aa (l.length + 64) ca (sufL l) (sufL l) Z (HKB.out.keep (lb_trans HB5.out hZ)) (HAA.out.keep (lb_trans HB02.out (lb_trans HB5.out hZ))) hla
    have S1 := fun Z (hZ : Below w5.heap.size w5 Z) => spareints_any g l.length Z (HM2.out.keep (lb_trans HB5.out hZ)) hl1
    have S2 := fun Z (hZ : Below w5.heap.size w5 Z) => spareints_any h l.length Z (HMB.out.keep (lb_trans HB5.out hZ)) (by omega)
    simp only [decide_true, sufL_len] at E1 E2
    go_wp2_with fail
    refine (E1 _ HB7.out).mono ?_
    rintro r w8 ⟨rfl, hb8⟩
    have HB8 : Hid (Below w5.heap.size w5 w8) := lb_trans HB7.out hb8
    clear hb8 E1 HB7
    go_wp2_with fail
    refine (S1 _ HB8.out).mono ?_
    rintro r w8b ⟨rfl, rfl⟩
    go_wp2_with fail
    refine (E2 _ HB8.out).mono ?_
    rintro r w9 ⟨rfl, hb9⟩
    have HB9 : Hid (Below w5.heap.size w5 w9) := lb_trans HB8.out hb9
    clear hb9 E2 HB8 S1
    go_wp2_with fail
    refine (S2 _ HB9.out).mono ?_
    rintro r w9b ⟨rfl, rfl⟩
    clear S2
    go_wp2_with fail
    refine (RC _).mono ?_
    rintro r wb ⟨rfl, hbb⟩
    have HBb : Hid (Below w5.heap.size w5 wb) := lb_trans HB9.out hbb
    clear hbb RC HB9
    have HGb : Hid (BagIs (wb.alloc (.cells #[.slice none 0 0, .slice none 0 0, .slice none 0 0, .slice none 0 0, .slice none 0 0, .slice none 0 0, .slice none 0 0, .slice none 0 0, .slice none 0 0, .slice none 0 0, .slice none 0 0, .slice none 0 0, .slice none 0 0, .slice none 0 0, .slice none 0 0, .slice none 0 0, .slice none 0 0] 52)) wb.heap.size (fun _ => .slice none 0 0)) := bag_new wb
    have HNb : Hid (Below wb.heap.size wb (wb.alloc (.cells #[.slice none 0 0, .slice none 0 0, .slice none 0 0, .slice none 0 0, .slice none 0 0, .slice none 0 0, .slice none 0 0, .slice none 0 0, .slice none 0 0, .slice none 0 0, .slice none 0 0, .slice none 0 0, .slice none 0 0, .slice none 0 0, .slice none 0 0, .slice none 0 0, .slice none 0 0] 52))) := lb_alloc (Below.refl _ _) _
    have HB2b : Hid (Below w2.heap.size w2 wb) := lb_trans HB5.out HBb.out
    have HRab : Hid (wb.ownsRow w2.heap.size 3 1 (.slice P1 l.length k1) l.length (iVals .i64 (cpA l))) := row_keep HR5.out HBb.out
    have HRbb : Hid (wb.ownsRow w2.heap.size 3 1 (.slice P2 l.length k2) l.length (iVals .i64 (cpA l))) := row_keep HR6.out HBb.out
    clear HR5 HR6
    clear HKA2 HKB HM2 HMB HB5 HBb
    go_wp2_with fail
    refine (addints_any wb.heap.size wb.heap.size _ [] P1 l.length k1 _ (Nat.le_refl _) HGb.out (World.ownsRow_nil _ _ _ _) (by simp)).mono ?_
    rintro r wc ⟨rfl, V1, hg1, ho1, hb1, -⟩
    have HGc : Hid (BagIs wc wb.heap.size (upd (fun _ => .slice none 0 0) 1 V1)) := hg1
    have HOc : Hid (wc.ownsRow wb.heap.size 22 1 V1 1 [.slice P1 l.length k1]) := ho1
    have HNc : Hid (Below wb.heap.size wb wc) := Below.trans HNb.out hb1
    clear hg1 ho1 hb1 HGb HNb
    go_wp2_with fail
    refine (addints_any wb.heap.size wb.heap.size _ [.slice P1 l.length k1] P2 l.length k2 _ (Nat.le_refl _) HGc.out HOc.out (by simp)).mono ?_
    rintro r wd ⟨rfl, V2, hg2, ho2, hb2, -⟩
    have HGd : Hid (BagIs wd wb.heap.size (upd (upd (fun _ => .slice none 0 0) 1 V1) 1 V2)) := hg2
    have HOd : Hid (wd.ownsRow wb.heap.size 22 1 V2 2 [.slice P1 l.length k1, .slice P2 l.length k2]) := ho2
    have HNd : Hid (Below wb.heap.size wb wd) := Below.trans HNc.out hb2
    have HBd : Hid (Below w2.heap.size w2 wd) := lb_trans HB2b.out HNd.out
    have HRad : Hid (wd.ownsRow w2.heap.size 3 1 (.slice P1 l.length k1) l.length (iVals .i64 (cpA l))) := row_keep HRab.out HNd.out
    have HRbd : Hid (wd.ownsRow w2.heap.size 3 1 (.slice P2 l.length k2) l.length (iVals .i64 (cpA l))) := row_keep HRbb.out HNd.out
    have AP : Hid _ := apartN wb.heap.size _ [(.slice P1 l.length k1, l.length), (.slice P2 l.length k2, l.length)] wd HGd.out (ownsRow_mono HOd.out (Nat.zero_le _)) (fun k h1 h2 => by unfold upd; rw [if_neg (by omega), if_neg (by omega)])
      (two_all ⟨_, ownsRow_mono HRad.out (Nat.zero_le _)⟩ ⟨_, ownsRow_mono HRbd.out (Nat.zero_le _)⟩) (sep_two HOf.out) (by simp) (rl_two hl1 hl1)
    have HQ : Hid (∀ m, m < 2 → ∀ b, (rv [(.slice P1 l.length k1, l.length), (.slice P2 l.length k2, l.length)] m).ownBlock = some b → w2.heap.size ≤ b) := two_all (fun b hb => (HRad.out.lt b hb).1) (fun b hb => (HRbd.out.lt b hb).1)
    clear HRad HRbd HRab HRbb HOf
    clear hg2 ho2 hb2 HGc HOc HNc HOd HGd
    go_wp2_with fail
    refine (Calls.mono AP.out ?_)
    rintro r we ⟨rfl, hfr⟩
    have HBe : Hid (Below w2.heap.size w2 we) := hfr.below HBd.out HBd.out.size HQ.out
    clear hfr AP
    go_wp2_with fail
    refine (LV _).mono ?_
    rintro r wf ⟨rfl, hbf⟩
    have HBf : Hid (Below w.heap.size w wf) := lb_trans HBw2.out (lb_trans HBe.out hbf)
    clear hbf
    go_wp2
    go_ret
    exact ⟨rfl, HBf.out⟩
  | false =>
    obtain ⟨WA, HWA⟩ : ∃ WA, Hid (WA = w) := ⟨_, rfl⟩
    have HBA : Hid (Below w.heap.size w WA) := by unfold Hid; rw [HWA.out]; exact Below.refl _ _
    by_cases heq : o = sufL l
    · subst heq
      have hla : (sufL l).length ≤ 1048576 := by rw [sufL_len]; exact hl1
      obtain ⟨Aa, ca, eA⟩ : ∃ Aa ca, Value.slice B (sufL l).length d = Value.slice Aa l.length ca ∧ Aa = B := ⟨B, d, by rw [sufL_len], rfl⟩
      rw [eA.1]
      have HAA : Hid (IntsAt WA Aa .i64 (sufL l)) := by unfold Hid; rw [HWA.out, eA.2]; exact hB
      rw [sufL_len] at hb2 hlo
      clear eA hA hB
      go_enter Tryd.func3, Tryd.ntmps3
      go_upto_region 6 with fail
      rw [← HWA.out]
      go_wp2_with fail
      refine (wideints_lies A c l _ (HA.out.keep HBA.out) hl1).mono ?_
      rintro r w1 ⟨g, rfl, hb1, kA, m3⟩
      have HB1 : Hid (Below WA.heap.size WA w1) := hb1
      have HKA : Hid (IntsAt w1 (some ⟨g, 0, none⟩) .i64 l) := kA
      have HM : Hid (MarkI w1 .i64 g l.length) := m3
      clear hb1 kA m3
      have WD := wideints_lies Aa ca (sufL l) w1 (HAA.out.keep HB1.out) hla
      rw [sufL_len] at WD
      go_wp2_with fail
      refine WD.mono ?_
      rintro r w2 ⟨h, rfl, hb1, kA, m3⟩
      have HB2 : Hid (Below w1.heap.size w1 w2) := hb1
      have HKB : Hid (IntsAt w2 (some ⟨h, 0, none⟩) .i64 (sufL l)) := kA
      have HMB : Hid (MarkI w2 .i64 h l.length) := m3
      have HKA2 : Hid (IntsAt w2 (some ⟨g, 0, none⟩) .i64 l) := HKA.out.keep HB2.out
      have HM2 : Hid (MarkI w2 .i64 g l.length) := HM.out.keep HB2.out
      have HB02 : Hid (Below WA.heap.size WA w2) := lb_trans HB1.out HB2.out
      have HBw2 : Hid (Below w.heap.size w w2) := lb_trans HBA.out HB02.out
      clear hb1 kA m3 WD HB1 HB2 HKA HM
      have PX := fun Z (hZ : Below w2.heap.size w2 Z) => hp.ok (some ⟨g, 0, none⟩) (some ⟨h, 0, none⟩) (l.length + 64) (l.length + 64) l Z (HKA2.out.keep hZ) HR.out (by omega) (HKB.out.keep hZ)
      unfold PxR at PX
      have RX := fun Z (hZ : Below w2.heap.size w2 Z) => refpfx_ok A Aa c ca l Z (HA.out.keep (lb_trans HBw2.out hZ)) (HAA.out.keep (lb_trans HB02.out hZ)) hl1
      obtain ⟨cc1, cc2, cc3⟩ := cc_ok l
      have RC := fun Z => refcost_any l.length (ccI l) Z (by omega) cc1 cc2 cc3
      generalize ccI l = cc at *
      have ecc : (cc != cc) = false := by simp
      clear cc1 cc2 cc3
      go_wp2_with fail
      refine (PX _ (Below.refl _ _)).mono ?_
      rintro r w3 ⟨P1, k1, rfl, ho1, hb3⟩
      have HB3 : Hid (Below w2.heap.size w2 w3) := hb3
      have HR1 : Hid (w3.ownsRow w2.heap.size 3 1 (.slice P1 l.length k1) l.length (iVals .i64 (cpA l))) := ho1
      clear ho1 hb3
      go_wp2_with fail
      refine (PX _ HB3.out).mono ?_
      rintro r w4 ⟨P2, k2, rfl, ho2, hb4⟩
      have HB4 : Hid (Below w2.heap.size w2 w4) := lb_trans HB3.out hb4
      have HOf : Hid (Off (Value.slice P1 l.length k1).ownBlock (Value.slice P2 l.length k2).ownBlock) := off_late HR1.out ho2 (Nat.le_refl _)
      have HR2 : Hid (w4.ownsRow w2.heap.size 3 1 (.slice P1 l.length k1) l.length (iVals .i64 (cpA l))) := row_keep HR1.out hb4
      have HR3 : Hid (w4.ownsRow w2.heap.size 3 1 (.slice P2 l.length k2) l.length (iVals .i64 (cpA l))) := ownsRow_mono ho2 HB3.out.size
      clear ho2 hb4 HR1 HB3 PX
      go_wp2_with fail
      refine (RX _ HB4.out).mono ?_
      rintro r w5 ⟨R, kr, rfl, ho5, hb5⟩
      have HB5 : Hid (Below w2.heap.size w2 w5) := lb_trans HB4.out hb5
      have HR5 : Hid (w5.ownsRow w2.heap.size 3 1 (.slice P1 l.length k1) l.length (iVals .i64 (cpA l))) := row_keep HR2.out hb5
      have HR6 : Hid (w5.ownsRow w2.heap.size 3 1 (.slice P2 l.length k2) l.length (iVals .i64 (cpA l))) := row_keep HR3.out hb5
      have HI1 : Hid (IntsAt w5 P1 .i64 (cpA l)) := row_ints (l := cpA l) (by rw [cpA_len]; exact HR5.out)
      have HI2 : Hid (IntsAt w5 P2 .i64 (cpA l)) := row_ints (l := cpA l) (by rw [cpA_len]; exact HR6.out)
      have HI3 : Hid (IntsAt w5 R .i64 (cpA l)) := row_ints (l := cpA l) (by rw [cpA_len]; exact ho5)
      have QE := fun (X Y : Option Addr) (kx ky : Nat) (Z : World) (h1 : IntsAt Z X .i64 (cpA l)) (h2 : IntsAt Z Y .i64 (cpA l)) => eqints_any X Y kx ky (cpA l) (cpA l) Z h1 h2 (by rw [cpA_len]; exact hl1)
      simp only [decide_true, cpA_len] at QE
      clear ho5 hb5 HR2 HR3 RX HB4
      go_wp2_with fail
      refine (QE P1 R k1 kr _ HI1.out HI3.out).mono ?_
      rintro r w6 ⟨rfl, hb6⟩
      go_wp2_with fail
      refine (QE P2 R k2 kr _ (HI2.out.keep hb6) (HI3.out.keep hb6)).mono ?_
      rintro r w7 ⟨rfl, hb7⟩
      have HB7 : Hid (Below w5.heap.size w5 w7) := lb_trans hb6 hb7
      clear hb6 hb7 QE HI1 HI2 HI3
      have E1 := fun Z (hZ : Below w5.heap.size w5 Z) => eqints_any (some ⟨g, 0, none⟩) A (l.length + 64) c l l Z (HKA2.out.keep (lb_trans HB5.out hZ)) (HA.out.keep (lb_trans HBw2.out (lb_trans HB5.out hZ))) hl1
      have E2 := fun Z (hZ : Below w5.heap.size w5 Z) => eqints_any (some ⟨h, 0, none⟩) Aa (l.length + 64) ca (sufL l) (sufL l) Z (HKB.out.keep (lb_trans HB5.out hZ)) (HAA.out.keep (lb_trans HB02.out (lb_trans HB5.out hZ))) hla
      have S1 := fun Z (hZ : Below w5.heap.size w5 Z) => spareints_any g l.length Z (HM2.out.keep (lb_trans HB5.out hZ)) hl1
      have S2 := fun Z (hZ : Below w5.heap.size w5 Z) => spareints_any h l.length Z (HMB.out.keep (lb_trans HB5.out hZ)) (by omega)
      simp only [decide_true, sufL_len] at E1 E2
      go_wp2_with fail
      refine (E1 _ HB7.out).mono ?_
      rintro r w8 ⟨rfl, hb8⟩
      have HB8 : Hid (Below w5.heap.size w5 w8) := lb_trans HB7.out hb8
      clear hb8 E1 HB7
      go_wp2_with fail
      refine (S1 _ HB8.out).mono ?_
      rintro r w8b ⟨rfl, rfl⟩
      go_wp2_with fail
      refine (E2 _ HB8.out).mono ?_
      rintro r w9 ⟨rfl, hb9⟩
      have HB9 : Hid (Below w5.heap.size w5 w9) := lb_trans HB8.out hb9
      clear hb9 E2 HB8 S1
      go_wp2_with fail
      refine (S2 _ HB9.out).mono ?_
      rintro r w9b ⟨rfl, rfl⟩
      clear S2
      go_wp2_with fail
      refine (RC _).mono ?_
      rintro r wb ⟨rfl, hbb⟩
      have HBb : Hid (Below w5.heap.size w5 wb) := lb_trans HB9.out hbb
      clear hbb RC HB9
      have HGb : Hid (BagIs (wb.alloc (.cells #[.slice none 0 0, .slice none 0 0, .slice none 0 0, .slice none 0 0, .slice none 0 0, .slice none 0 0, .slice none 0 0, .slice none 0 0, .slice none 0 0, .slice none 0 0, .slice none 0 0, .slice none 0 0, .slice none 0 0, .slice none 0 0, .slice none 0 0, .slice none 0 0, .slice none 0 0] 52)) wb.heap.size (fun _ => .slice none 0 0)) := bag_new wb
      have HNb : Hid (Below wb.heap.size wb (wb.alloc (.cells #[.slice none 0 0, .slice none 0 0, .slice none 0 0, .slice none 0 0, .slice none 0 0, .slice none 0 0, .slice none 0 0, .slice none 0 0, .slice none 0 0, .slice none 0 0, .slice none 0 0, .slice none 0 0, .slice none 0 0, .slice none 0 0, .slice none 0 0, .slice none 0 0, .slice none 0 0] 52))) := lb_alloc (Below.refl _ _) _
      have HB2b : Hid (Below w2.heap.size w2 wb) := lb_trans HB5.out HBb.out
      have HRab : Hid (wb.ownsRow w2.heap.size 3 1 (.slice P1 l.length k1) l.length (iVals .i64 (cpA l))) := row_keep HR5.out HBb.out
      have HRbb : Hid (wb.ownsRow w2.heap.size 3 1 (.slice P2 l.length k2) l.length (iVals .i64 (cpA l))) := row_keep HR6.out HBb.out
      clear HR5 HR6
      clear HKA2 HKB HM2 HMB HB5 HBb
      go_wp2_with fail
      refine (addints_any wb.heap.size wb.heap.size _ [] P1 l.length k1 _ (Nat.le_refl _) HGb.out (World.ownsRow_nil _ _ _ _) (by simp)).mono ?_
      rintro r wc ⟨rfl, V1, hg1, ho1, hb1, -⟩
      have HGc : Hid (BagIs wc wb.heap.size (upd (fun _ => .slice none 0 0) 1 V1)) := hg1
      have HOc : Hid (wc.ownsRow wb.heap.size 22 1 V1 1 [.slice P1 l.length k1]) := ho1
      have HNc : Hid (Below wb.heap.size wb wc) := Below.trans HNb.out hb1
      clear hg1 ho1 hb1 HGb HNb
      go_wp2_with fail
      refine (addints_any wb.heap.size wb.heap.size _ [.slice P1 l.length k1] P2 l.length k2 _ (Nat.le_refl _) HGc.out HOc.out (by simp)).mono ?_
      rintro r wd ⟨rfl, V2, hg2, ho2, hb2, -⟩
      have HGd : Hid (BagIs wd wb.heap.size (upd (upd (fun _ => .slice none 0 0) 1 V1) 1 V2)) := hg2
      have HOd : Hid (wd.ownsRow wb.heap.size 22 1 V2 2 [.slice P1 l.length k1, .slice P2 l.length k2]) := ho2
      have HNd : Hid (Below wb.heap.size wb wd) := Below.trans HNc.out hb2
      have HBd : Hid (Below w2.heap.size w2 wd) := lb_trans HB2b.out HNd.out
      have HRad : Hid (wd.ownsRow w2.heap.size 3 1 (.slice P1 l.length k1) l.length (iVals .i64 (cpA l))) := row_keep HRab.out HNd.out
      have HRbd : Hid (wd.ownsRow w2.heap.size 3 1 (.slice P2 l.length k2) l.length (iVals .i64 (cpA l))) := row_keep HRbb.out HNd.out
      have AP : Hid _ := apartN wb.heap.size _ [(.slice P1 l.length k1, l.length), (.slice P2 l.length k2, l.length)] wd HGd.out (ownsRow_mono HOd.out (Nat.zero_le _)) (fun k h1 h2 => by unfold upd; rw [if_neg (by omega), if_neg (by omega)])
        (two_all ⟨_, ownsRow_mono HRad.out (Nat.zero_le _)⟩ ⟨_, ownsRow_mono HRbd.out (Nat.zero_le _)⟩) (sep_two HOf.out) (by simp) (rl_two hl1 hl1)
      have HQ : Hid (∀ m, m < 2 → ∀ b, (rv [(.slice P1 l.length k1, l.length), (.slice P2 l.length k2, l.length)] m).ownBlock = some b → w2.heap.size ≤ b) := two_all (fun b hb => (HRad.out.lt b hb).1) (fun b hb => (HRbd.out.lt b hb).1)
      clear HRad HRbd HRab HRbb HOf
      clear hg2 ho2 hb2 HGc HOc HNc HOd HGd
      go_wp2_with fail
      refine (Calls.mono AP.out ?_)
      rintro r we ⟨rfl, hfr⟩
      have HBe : Hid (Below w2.heap.size w2 we) := hfr.below HBd.out HBd.out.size HQ.out
      clear hfr AP
      go_wp2_with fail
      refine (LV _).mono ?_
      rintro r wf ⟨rfl, hbf⟩
      have HBf : Hid (Below w.heap.size w wf) := lb_trans HBw2.out (lb_trans HBe.out hbf)
      clear hbf
      go_wp2
      go_ret
      exact ⟨rfl, HBf.out⟩
    · obtain ⟨a, ea⟩ : ∃ a, a = o := ⟨_, rfl⟩
      subst ea
      have HNE : Hid (a ≠ sufL l) := heq
      have hla : a.length ≤ 1048576 := by omega
      obtain ⟨Aa, eAa⟩ : ∃ Aa, Aa = B := ⟨_, rfl⟩
      subst eAa
      obtain ⟨ca, eca⟩ : ∃ ca, ca = d := ⟨_, rfl⟩
      subst eca
      have HAA : Hid (IntsAt WA Aa .i64 a) := by unfold Hid; rw [HWA.out]; exact hB
      clear heq hA hB
      go_enter Tryd.func3, Tryd.ntmps3
      go_upto_region 6 with fail
      rw [← HWA.out]
      go_wp2_with fail
      refine (wideints_lies A c l _ (HA.out.keep HBA.out) hl1).mono ?_
      rintro r w1 ⟨g, rfl, hb1, kA, m3⟩
      have HB1 : Hid (Below WA.heap.size WA w1) := hb1
      have HKA : Hid (IntsAt w1 (some ⟨g, 0, none⟩) .i64 l) := kA
      have HM : Hid (MarkI w1 .i64 g l.length) := m3
      clear hb1 kA m3
      have WD := wideints_lies Aa ca a w1 (HAA.out.keep HB1.out) hla
      go_wp2_with fail
      refine WD.mono ?_
      rintro r w2 ⟨h, rfl, hb1, kA, m3⟩
      have HB2 : Hid (Below w1.heap.size w1 w2) := hb1
      have HKB : Hid (IntsAt w2 (some ⟨h, 0, none⟩) .i64 a) := kA
      have HMB : Hid (MarkI w2 .i64 h a.length) := m3
      have HKA2 : Hid (IntsAt w2 (some ⟨g, 0, none⟩) .i64 l) := HKA.out.keep HB2.out
      have HM2 : Hid (MarkI w2 .i64 g l.length) := HM.out.keep HB2.out
      have HB02 : Hid (Below WA.heap.size WA w2) := lb_trans HB1.out HB2.out
      have HBw2 : Hid (Below w.heap.size w w2) := lb_trans HBA.out HB02.out
      clear hb1 kA m3 WD HB1 HB2 HKA HM
      have PX := fun Z (hZ : Below w2.heap.size w2 Z) => hp.no (some ⟨g, 0, none⟩) (some ⟨h, 0, none⟩) (l.length + 64) (a.length + 64) l a Z (HKA2.out.keep hZ) HR.out (by omega) (HKB.out.keep hZ) (by omega) HNE.out
      unfold PxN at PX
      have RX := fun Z (hZ : Below w2.heap.size w2 Z) => refpfx_no A Aa c ca l a Z (HA.out.keep (lb_trans HBw2.out hZ)) (HAA.out.keep (lb_trans HB02.out hZ)) hl1 HNE.out
      go_wp2_with fail
      refine (PX _ (Below.refl _ _)).mono ?_
      rintro r w3 ⟨rfl, hb3⟩
      go_wp2_with fail
      refine (PX _ hb3).mono ?_
      rintro r w4 ⟨rfl, hb4⟩
      have HB4 : Hid (Below w2.heap.size w2 w4) := lb_trans hb3 hb4
      clear hb3 hb4 PX
      go_wp2_with fail
      refine (RX _ HB4.out).mono ?_
      rintro r w5 ⟨rfl, hb5⟩
      have HB5 : Hid (Below w2.heap.size w2 w5) := lb_trans HB4.out hb5
      have QE := fun (Z : World) => eqints_any none none 0 0 [] [] Z (fun i hi => absurd hi (Nat.not_lt_zero _)) (fun i hi => absurd hi (Nat.not_lt_zero _)) (by decide)
      simp only [decide_true] at QE
      replace QE : ∀ Z : World, Calls Tryd.prog 9 #[.slice none 0 0, .slice none 0 0] Z fun e w' => e = .returned (.bool true) ∧ Below Z.heap.size Z w' := QE
      clear hb5 RX HB4
      go_wp2_with fail
      refine (QE _).mono ?_
      rintro r w6 ⟨rfl, hb6⟩
      go_wp2_with fail
      refine (QE _).mono ?_
      rintro r w7 ⟨rfl, hb7⟩
      have HB7 : Hid (Below w5.heap.size w5 w7) := lb_trans hb6 hb7
      clear hb6 hb7 QE
      have E1 := fun Z (hZ : Below w5.heap.size w5 Z) => eqints_any (some ⟨g, 0, none⟩) A (l.length + 64) c l l Z (HKA2.out.keep (lb_trans HB5.out hZ)) (HA.out.keep (lb_trans HBw2.out (lb_trans HB5.out hZ))) hl1
      have E2 := fun Z (hZ : Below w5.heap.size w5 Z) => eqints_any (some ⟨h, 0, none⟩) Aa (a.length + 64) ca a a Z (HKB.out.keep (lb_trans HB5.out hZ)) (HAA.out.keep (lb_trans HB02.out (lb_trans HB5.out hZ))) hla
      have S1 := fun Z (hZ : Below w5.heap.size w5 Z) => spareints_any g l.length Z (HM2.out.keep (lb_trans HB5.out hZ)) hl1
      have S2 := fun Z (hZ : Below w5.heap.size w5 Z) => spareints_any h a.length Z (HMB.out.keep (lb_trans HB5.out hZ)) (by omega)
      simp only [decide_true] at E1 E2
      go_wp2_with fail
      refine (E1 _ HB7.out).mono ?_
      rintro r w8 ⟨rfl, hb8⟩
      have HB8 : Hid (Below w5.heap.size w5 w8) := lb_trans HB7.out hb8
      clear hb8 E1 HB7
      go_wp2_with fail
      refine (S1 _ HB8.out).mono ?_
      rintro r w8b ⟨rfl, rfl⟩
      go_wp2_with fail
      refine (E2 _ HB8.out).mono ?_
      rintro r w9 ⟨rfl, hb9⟩
      have HB9 : Hid (Below w5.heap.size w5 w9) := lb_trans HB8.out hb9
      clear hb9 E2 HB8 S1
      go_wp2_with fail
      refine (S2 _ HB9.out).mono ?_
      rintro r w9b ⟨rfl, rfl⟩
      clear S2
      obtain ⟨wb, rfl⟩ : ∃ wb, wb = w9b := ⟨_, rfl⟩
      have HBb : Hid (Below w5.heap.size w5 wb) := HB9.out
      clear HB9
      have HGb : Hid (BagIs (wb.alloc (.cells #[.slice none 0 0, .slice none 0 0, .slice none 0 0, .slice none 0 0, .slice none 0 0, .slice none 0 0, .slice none 0 0, .slice none 0 0, .slice none 0 0, .slice none 0 0, .slice none 0 0, .slice none 0 0, .slice none 0 0, .slice none 0 0, .slice none 0 0, .slice none 0 0, .slice none 0 0] 52)) wb.heap.size (fun _ => .slice none 0 0)) := bag_new wb
      have HNb : Hid (Below wb.heap.size wb (wb.alloc (.cells #[.slice none 0 0, .slice none 0 0, .slice none 0 0, .slice none 0 0, .slice none 0 0, .slice none 0 0, .slice none 0 0, .slice none 0 0, .slice none 0 0, .slice none 0 0, .slice none 0 0, .slice none 0 0, .slice none 0 0, .slice none 0 0, .slice none 0 0, .slice none 0 0, .slice none 0 0] 52))) := lb_alloc (Below.refl _ _) _
      have HB2b : Hid (Below w2.heap.size w2 wb) := lb_trans HB5.out HBb.out
      clear HKA2 HKB HM2 HMB HB5 HBb
      go_wp2_with fail
      refine (addints_any wb.heap.size wb.heap.size _ [] none 0 0 _ (Nat.le_refl _) HGb.out (World.ownsRow_nil _ _ _ _) (by simp)).mono ?_
      rintro r wc ⟨rfl, V1, hg1, ho1, hb1, -⟩
      have HGc : Hid (BagIs wc wb.heap.size (upd (fun _ => .slice none 0 0) 1 V1)) := hg1
      have HOc : Hid (wc.ownsRow wb.heap.size 22 1 V1 1 [.slice none 0 0]) := ho1
      have HNc : Hid (Below wb.heap.size wb wc) := Below.trans HNb.out hb1
      clear hg1 ho1 hb1 HGb HNb
      go_wp2_with fail
      refine (addints_any wb.heap.size wb.heap.size _ [.slice none 0 0] none 0 0 _ (Nat.le_refl _) HGc.out HOc.out (by simp)).mono ?_
      rintro r wd ⟨rfl, V2, hg2, ho2, hb2, -⟩
      have HGd : Hid (BagIs wd wb.heap.size (upd (upd (fun _ => .slice none 0 0) 1 V1) 1 V2)) := hg2
      have HOd : Hid (wd.ownsRow wb.heap.size 22 1 V2 2 [.slice none 0 0, .slice none 0 0]) := ho2
      have HNd : Hid (Below wb.heap.size wb wd) := Below.trans HNc.out hb2
      have HBd : Hid (Below w2.heap.size w2 wd) := lb_trans HB2b.out HNd.out
      have AP : Hid _ := apartN wb.heap.size _ [(.slice none 0 0, 0), (.slice none 0 0, 0)] wd HGd.out (ownsRow_mono HOd.out (Nat.zero_le _)) (fun k h1 h2 => by unfold upd; rw [if_neg (by omega), if_neg (by omega)])
        (two_all ⟨[], World.ownsRow_nil _ _ _ _⟩ ⟨[], World.ownsRow_nil _ _ _ _⟩) (sep_two (fun k hk => by cases hk)) (by simp) (rl_two (Nat.zero_le _) (Nat.zero_le _))
      have HQ : Hid (∀ m, m < 2 → ∀ b, (rv [(.slice none 0 0, 0), (.slice none 0 0, 0)] m).ownBlock = some b → w2.heap.size ≤ b) := two_all (fun b hb => by cases hb) (fun b hb => by cases hb)
      clear hg2 ho2 hb2 HGc HOc HNc HOd HGd
      go_wp2_with fail
      refine (Calls.mono AP.out ?_)
      rintro r we ⟨rfl, hfr⟩
      have HBe : Hid (Below w2.heap.size w2 we) := hfr.below HBd.out HBd.out.size HQ.out
      clear hfr AP
      go_wp2_with fail
      refine (LV _).mono ?_
      rintro r wf ⟨rfl, hbf⟩
      have HBf : Hid (Below w.heap.size w wf) := lb_trans HBw2.out (lb_trans HBe.out hbf)
      clear hbf
      go_wp2
      go_ret
      exact ⟨rfl, HBf.out⟩

end Go.Proofs.YtpmaiblgnblpeaaDoor
