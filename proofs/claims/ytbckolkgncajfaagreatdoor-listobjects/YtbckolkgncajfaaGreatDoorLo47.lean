/-
  Objects of the document: the texts of objects, or the first error. The law on objects as lines, whatever they are.
-/
import Derived.Test.YtbckolkgncajfaaGreatDoorProg
import Derived.WalkKit
import Derived.WalkSpells
import Derived.WalkLawsBesides
import Derived.RowKit3
import Derived.Below
import Derived.Deep.QuietTactic
import Derived.BigQuiet
import Derived.WalkSmall
import Derived.Laws.Rows
import Derived.Test.YtbckolkgncajfaaGreatDoorLo37
import Derived.Test.YtbckolkgncajfaaGreatDoorLo46
import Derived.Test.YtbckolkgncajfaaGreatDoorLo36
import Derived.Test.YtbckolkgncajfaaGreatDoorLo40
import Derived.Test.YtbckolkgncajfaaGreatDoorLo43
import Derived.Test.YtbckolkgncajfaaGreatDoorLo44
import Derived.Test.YtbckolkgncajfaaGreatDoorLo42
import Derived.Test.YtbckolkgncajfaaGreatDoorLo39
namespace Go.Proofs.YtbckolkgncajfaaGreatDoor
open Go.RowKit

theorem app_bs (l : List UInt8) : (bs l).data.toList = l := by simp [bs]
set_option maxHeartbeats 4000000 in
set_option maxRecDepth 100000 in
theorem refobjects_any (A : Option Addr) (ca : Nat) (q : Nat → Pl) (l : List Ob) (w : World) (hA : ObsIn w A q l) (ht : Tab w) :
    Calls Tryz.prog 18 #[.slice A l.length ca] w (TellsP l w) := by
  obtain ⟨i0, hi, hz0, hz1, hz2⟩ := info5
  have HA : Hid (ObsIn w A q l) := hA
  have HT : Hid (Tab w) := ht
  have hf := hA.few
  have HR0 : Hid (Rb w w.heap.size (.slice none 0 0) []) := World.ownsRow_nil _ _ _ _
  have HE0 : Hid (obsE (l.drop 0) = obsE l) := rfl
  clear hA ht
  go_enter Tryz.func18, Tryz.ntmps18
  go_wp2
  go_loopw [5, 4] (fun i t wr => ∃ (k : Nat) (O : Option Addr) (c : Nat), i = .int .i64 k ∧ t = .slice O (obsT (l.take k)).length c ∧ k ≤ l.length ∧ Hid (Rb wr w.heap.size t (obsT (l.take k))) ∧ Hid (Below w.heap.size w wr) ∧ Hid (obsE (l.drop k) = obsE l)) (fun i _ _ => l.length - (intOf i).toNat)
  case atStart => exact ⟨0, none, 0, rfl, rfl, Nat.zero_le _, HR0, Below.refl _ _, HE0⟩
  case round =>
    clear HR0 HE0
    obtain ⟨k, O, c, rfl, rfl, hk, HR, HB1, HE⟩ := hrel
    have hln := obsT_len HA.out k hk
    by_cases hlt : k < l.length
    · obtain ⟨a, ea, x0, x1, x2, x3, x4, x5⟩ := HA.out.cells.six HB1.out k hlt
      have oA := (HA.out.each k hlt).keep HB1.out
      have CE := refobject_any (ob l k).nm (ob l k).dA (q k).A1 (q k).A2 (q k).A3 (q k).A4 (q k).c1 (q k).c2 (q k).c3 (q k).c4 (ob l k).code (ob l k).data (ob l k).ss (ob l k).rs wr oA (HT.out.below HB1.out)
      have hol := obT_len oA
      have hst := obsE_take hlt HE.out
      have HTk : Hid _ := obsT_take l k hlt
      have CE2 : Calls Tryz.prog 23 #[.agg #[.string (ob l k).nm, .slice (q k).A1 (ob l k).code.length (q k).c1, .int .i64 (ob l k).dA, .slice (q k).A2 (ob l k).data.length (q k).c2, .slice (q k).A3 (ob l k).ss.length (q k).c3, .slice (q k).A4 (ob l k).rs.length (q k).c4]] wr (fun e w' => e = .returned (.tuple #[.string (bs (obT (ob l k))), .int .i64 (obE (ob l k))]) ∧ Below wr.heap.size wr w') := CE
      clear oA CE
      subst ea
      generalize obT (ob l k) = T at CE2 hol HTk
      by_cases he : obE (ob l k) = 0
      · have HE2 : Hid _ := hst.1 he
        rw [he] at CE2
        clear hst he
        go_wp2_with fail
        refine CE2.mono ?_
        rintro e w1 ⟨rfl, hb1⟩
        have HB2 : Hid (Below w.heap.size w w1) := lb_trans HB1.out hb1
        have HR2 : Hid (w1.ownsRow w.heap.size 5 1 (.slice O (obsT (l.take k)).length c) (obsT (l.take k)).length (Lib.byteCells (obsT (l.take k)))) := own_keep HR.out hb1
        have hsT : (bs T).size ≤ 4194304 := by rw [bs_size]; exact hol
        clear hb1 CE2 x0 x1 x2 x3 x4 x5
        generalize hP : obsT (l.take k) = P at HR HR2 hln HTk ⊢
        go_wp2_with (at_builtin; refine Lib.wpList_append_own_string _ rfl (.tmp 25) (.tmp 26) 75 9 rfl w.heap.size 5 i0 Tryz.underlying75 Tryz.underlying9 hi hz0 hz1 hz2 (.slice O P.length c) P.length (Lib.byteCells P) rfl HR2.out (bs T) rfl (by unfold maxLen; omega) (by omega) HB2.out.size ?_; intro v3 w3 hown' hgrow _; have HR3 : Hid (Rb w3 w.heap.size v3 (obsT (l.take (k + 1)))) := (by have h1 := Rb.str hown'; rwa [app_bs, ← HTk.out] at h1); have HB3 : Hid (Below w.heap.size w w3) := Rb.below HR2.out HB2.out hgrow; clear hown' hgrow)
        obtain ⟨A5, c5, e5⟩ := HR3.out.form
        subst e5
        go_roundw
        case rel => exact ⟨k + 1, _, _, by go_num, rfl, by omega, HR3, HB3, HE2⟩
        case measure => simp [intOf]; omega
      · have HE2 : Hid _ := hst.2 he
        have he' : (obE (ob l k) != 0) = true := by simpa using he
        have HE3 : Hid (ansL l = []) := by unfold Hid ansL; rw [if_neg (by rw [HE2.out]; exact he)]
        clear hst he
        generalize obE (ob l k) = E at CE2 HE2 he'
        go_wp2_with fail
        refine CE2.mono ?_
        rintro e w1 ⟨rfl, hb1⟩
        have HB2 : Hid (Below w.heap.size w w1) := lb_trans HB1.out hb1
        clear hb1 CE2 x0 x1 x2 x3 x4 x5
        go_wp2
        go_ret2
        exact ⟨ret2S (by rw [HE3.out]; rfl) HE2.out.symm, HB2.out⟩
    · obtain rfl : k = l.length := by omega
      have HE2 : Hid (obsE l = 0) := by unfold Hid; rw [← HE.out, List.drop_length]; rfl
      have HE3 : Hid (ansL l = obsT (l.take l.length)) := by unfold Hid ansL; rw [if_pos HE2.out, List.take_length]
      generalize obsT (l.take l.length) = P at HR hln HE3 ⊢
      have CV := HR.out.back rfl
      go_wp2
      go_ret2
      exact ⟨ret2S (by rw [HE3.out]) HE2.out.symm, HB1.out⟩

end Go.Proofs.YtbckolkgncajfaaGreatDoor

namespace Go.Proofs.YtbckolkgncajfaaGreatDoor
open Go.RowKit

set_option maxHeartbeats 8000000 in
set_option maxRecDepth 100000 in
theorem lawObjects (A : Option Addr) (ca : Nat) (q : Nat → Pl) (l : List Ob) (w : World) (ht : Tab w) (hN : Nm w) (hK : Kd w) (hA : ObsAt w A q l) (hO : ∀ i, i < l.length → OpenO w (q i) (ob l i)) :
    Calls Tryz.prog 4 #[.slice A l.length ca] w fun e w' => e = .returned (.bool true) ∧ Below w.heap.size w w' := by
  have LV : Hid (∀ wx, Below w.heap.size w wx → Calls Tryz.prog 5 #[] wx fun e w' => e = .returned (.bool true) ∧ Below wx.heap.size wx w') := fun wx hx => lives_any wx (ht.below hx) (hN.below hx) (hK.below hx)
  have CH := heavy_any A ca q l w hA (fun i hi => (hO i hi).sy) (fun i hi => (hO i hi).light)
  have HT : Hid (Tab w) := ht
  have HNm : Hid (Nm w) := hN
  have HKd : Hid (Kd w) := hK
  have HA : Hid (ObsAt w A q l) := hA
  have HO : Hid (∀ i, i < l.length → OpenO w (q i) (ob l i)) := hO
  clear ht hN hK hA hO
  go_enter Tryz.func4, Tryz.ntmps4
  go_wp2_with fail
  refine CH.mono ?_
  rintro e w1 ⟨B, rfl, hB, hb1⟩
  have HB1 : Hid (Below w.heap.size w w1) := hb1
  clear CH hb1
  cases B
  · obtain ⟨hf, hwt⟩ := hB rfl
    have HI : Hid (ObsIn w A q l) := ⟨HA.out, fun i hi => (HO.out i hi).inn (hwt i hi), hf⟩
    clear hB hwt
    have CW := wideobs_any A ca q l w1 (HI.out.keep HB1.out)
    go_wp2_with fail
    refine CW.mono ?_
    rintro e w2 ⟨rfl, hb2, hw2⟩
    have HB2 : Hid (Below w.heap.size w w2) := lb_trans HB1.out hb2
    have HW2 : Hid (WideO w2 w1.heap.size l (GO (w1.heap.size + 1))) := hw2
    clear CW hb2 hw2
    have CO := objects_any (some ⟨w1.heap.size, 0, none⟩) (l.length + 64) _ l w2 HW2.out.inn (HT.out.below HB2.out) (HNm.out.below HB2.out) (HKd.out.below HB2.out)
    unfold TellsP at CO
    obtain ⟨T, hT⟩ : ∃ T, T = bs (ansL l) := ⟨_, rfl⟩
    obtain ⟨E, hE⟩ : ∃ E, E = obsE l := ⟨_, rfl⟩
    rw [← hT, ← hE] at CO
    go_wp2_with fail
    refine CO.mono ?_
    rintro e w3 ⟨rfl, hb3⟩
    have HB3 : Hid (Below w.heap.size w w3) := lb_trans HB2.out hb3
    have HW3 : Hid (WideO w3 w1.heap.size l (GO (w1.heap.size + 1))) := HW2.out.keep hb3
    clear CO hb3 HW2
    have CR := refobjects_any A ca q l w3 (HI.out.keep HB3.out) (HT.out.below HB3.out)
    unfold TellsP at CR
    rw [← hT, ← hE] at CR
    clear hT hE
    go_wp2_with fail
    refine CR.mono ?_
    rintro e w4 ⟨rfl, hb4⟩
    have HB4 : Hid (Below w.heap.size w w4) := lb_trans HB3.out hb4
    have HW4 : Hid (WideO w4 w1.heap.size l (GO (w1.heap.size + 1))) := HW3.out.keep hb4
    clear CR hb4 HW3
    have CQ := eqobs_same (some ⟨w1.heap.size, 0, none⟩) A (l.length + 64) ca _ q l w4 HW4.out.inn (HI.out.keep HB4.out)
    go_wp2_with fail
    refine CQ.mono ?_
    rintro e w5 ⟨rfl, hb5⟩
    have HB5 : Hid (Below w.heap.size w w5) := lb_trans HB4.out hb5
    have CS := spareobs_any w1.heap.size l _ w5 (HW4.out.keep hb5)
    clear CQ hb5 HW4
    go_wp2_with fail
    refine CS.mono ?_
    rintro e w6 ⟨rfl, hb6⟩
    have HB6 : Hid (Below w.heap.size w w6) := lb_trans HB5.out hb6
    clear CS hb6
    go_wp2
    go_loopw [8] (fun i wr => ∃ k : Nat, i = .int .i64 k ∧ k ≤ l.length ∧ Hid (Below w.heap.size w wr)) (fun i _ => l.length - (intOf i).toNat)
    case atStart => exact ⟨0, rfl, Nat.zero_le _, HB6⟩
    case round =>
      clear HB6 HB5 HB4 HB3 HB2
      obtain ⟨k, rfl, hk, HB⟩ := hrel
      by_cases hlt : k < l.length
      · obtain ⟨a, ea, x0, x1, x2, x3, x4, x5⟩ := HA.out.six HB.out k hlt
        have oA := (HI.out.each k hlt).keep HB.out
        have CC := copyob_any (ob l k) (q k) wr oA (HO.out k hlt).none
        obtain ⟨T2, hT2⟩ : ∃ T, T = bs (obT (ob l k)) := ⟨_, rfl⟩
        obtain ⟨E2, hE2⟩ : ∃ E, E = obE (ob l k) := ⟨_, rfl⟩
        have CO : Hid (∀ (p : Pl) wx, ObIn wx p (ob l k) → Below w.heap.size w wx → Calls Tryz.prog 21 #[.agg #[.string (ob l k).nm, .slice p.A1 (ob l k).code.length p.c1, .int .i64 (ob l k).dA, .slice p.A2 (ob l k).data.length p.c2, .slice p.A3 (ob l k).ss.length p.c3, .slice p.A4 (ob l k).rs.length p.c4]] wx (fun e w' => e = .returned (.tuple #[.string T2, .int .i64 E2]) ∧ Below wx.heap.size wx w')) := fun p wx ho hx => by
          rw [hT2, hE2]
          exact object_any (ob l k).nm (ob l k).dA p.A1 p.A2 p.A3 p.A4 p.c1 p.c2 p.c3 p.c4 (ob l k).code (ob l k).data (ob l k).ss (ob l k).rs wx ho (HT.out.below hx) (HNm.out.below hx) (HKd.out.below hx)
        have CR : Hid (∀ wx, Below w.heap.size w wx → Calls Tryz.prog 23 #[.agg #[.string (ob l k).nm, .slice (q k).A1 (ob l k).code.length (q k).c1, .int .i64 (ob l k).dA, .slice (q k).A2 (ob l k).data.length (q k).c2, .slice (q k).A3 (ob l k).ss.length (q k).c3, .slice (q k).A4 (ob l k).rs.length (q k).c4]] wx (fun e w' => e = .returned (.tuple #[.string T2, .int .i64 E2]) ∧ Below wx.heap.size wx w')) := fun wx hx => by
          rw [hT2, hE2]
          exact refobject_any (ob l k).nm (ob l k).dA (q k).A1 (q k).A2 (q k).A3 (q k).A4 (q k).c1 (q k).c2 (q k).c3 (q k).c4 (ob l k).code (ob l k).data (ob l k).ss (ob l k).rs wx ((HI.out.each k hlt).keep hx) (HT.out.below hx)
        clear oA hT2 hE2
        subst ea
        go_wp2_with fail
        refine CC.mono ?_
        rintro e w7 ⟨p', rfl, hb7, ho7⟩
        have HB7 : Hid (Below w.heap.size w w7) := lb_trans HB.out hb7
        have CO7 := CO.out p' w7 ho7 HB7.out
        clear CC hb7 ho7 x0 x1 x2 x3 x4 x5
        go_wp2_with fail
        refine CO7.mono ?_
        rintro e w8 ⟨rfl, hb8⟩
        have HB8 : Hid (Below w.heap.size w w8) := lb_trans HB7.out hb8
        clear CO7 hb8 CO
        obtain ⟨b, eb, x0, x1, x2, x3, x4, x5⟩ := HA.out.six HB8.out k hlt
        obtain rfl := Option.some.inj eb
        clear eb
        have CR8 := CR.out w8 HB8.out
        go_wp2_with fail
        refine CR8.mono ?_
        rintro e w9 ⟨rfl, hb9⟩
        have HB9 : Hid (Below w.heap.size w w9) := lb_trans HB8.out hb9
        clear CR8 hb9 CR x0 x1 x2 x3 x4 x5
        go_wp2
        go_roundw
        case rel => exact ⟨k + 1, by go_num, by omega, HB9⟩
        case measure => simp [intOf]; omega
      · go_wp2_with fail
        refine (LV.out _ HB.out).mono ?_
        rintro e wd ⟨rfl, hbd⟩
        have HBd : Hid (Below w.heap.size w wd) := lb_trans HB.out hbd
        clear hbd
        go_wp2
        go_ret
        exact ⟨rfl, HBd.out⟩
  · clear hB
    go_wp2_with fail
    refine (LV.out _ HB1.out).mono ?_
    rintro e wd ⟨rfl, hbd⟩
    have HBd : Hid (Below w.heap.size w wd) := lb_trans HB1.out hbd
    clear hbd
    go_wp2
    go_ret
    exact ⟨rfl, HBd.out⟩

end Go.Proofs.YtbckolkgncajfaaGreatDoor
