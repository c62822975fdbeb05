/-
  LinkStands, walked.
-/
import Derived.Test.YthpkekpojhmaaaaGreatDoorProg
import Derived.WalkKit
import Derived.WalkSpells
import Derived.WalkLawsBesides
import Derived.RowKit3
import Derived.Below
import Derived.Deep.QuietTactic
import Derived.BigQuiet
import Derived.WalkSmall
import Derived.Laws.Rows
import Derived.Test.YthpkekpojhmaaaaGreatDoorP36
import Derived.Deep.DeepCutAuto
import Derived.Deep.RegionHeld3
namespace Go.Proofs.YthpkekpojhmaaaaGreatDoor
open Go.RowKit

set_option maxHeartbeats 32000000 in
set_option maxRecDepth 100000 in
theorem lawStands (A : Option Addr) (ca : Nat) (q : Nat → Pl) (l : List Ob) (nm : ByteArray) (mem : Int) (w : World) (hA : ObsAt w A q l) (hO : ∀ i, i < l.length → OpenO w (q i) (ob l i)) (hT : w.cell? ⟨0, 0, none⟩ = some errT) (hm64 : -9223372036854775808 ≤ mem ∧ mem ≤ 9223372036854775807) :
    Calls Tryz.prog 4 #[.slice A l.length ca, .string nm, .int .i64 mem] w fun e w' => e = .returned (.bool true) ∧ Below w.heap.size w w' := by
  have LV : Hid (∀ wx, Below w.heap.size w wx → Calls Tryz.prog 6 #[] wx fun e w' => e = .returned (.bool true) ∧ Below wx.heap.size wx w') := fun wx _ => lives_any progL progB wx
  have CH := heavy_any A ca q l w hA (fun i hi => (hO i hi).sy) (fun i hi => (hO i hi).light)
  have HA : Hid (ObsAt w A q l) := hA
  have HO : Hid (∀ i, i < l.length → OpenO w (q i) (ob l i)) := hO
  have HT : Hid (w.cell? ⟨0, 0, none⟩ = some errT) := hT
  clear hA hO hT
  go_enter Tryz.func4, Tryz.ntmps4
  go_wp2_with fail
  refine CH.mono ?_
  rintro e w1 ⟨Bh, rfl, hB, hb1⟩
  have HBX : Hid (Below w.heap.size w w1) := hb1
  clear CH hb1
  cases Bh
  case true =>
    clear hB
    go_wp2_with fail
    refine (LV.out _ HBX.out).mono ?_
    rintro e wd ⟨rfl, hbd⟩
    have HBd : Hid (Below w.heap.size w wd) := lb_trans HBX.out hbd
    clear hbd
    go_wp2
    go_ret
    exact ⟨rfl, HBd.out⟩
  case false =>
    obtain ⟨hf, hwt⟩ := hB rfl
    have HI : Hid (ObsIn w A q l) := ⟨HA.out, fun i hi => (HO.out i hi).inn (hwt i hi), hf⟩
    clear hB hwt
    by_cases hn : 65536 < nm.size
    · have hn' : (65536 : Int) < (nm.size : Int) := by omega
      go_wp2_with fail
      refine (LV.out _ HBX.out).mono ?_
      rintro e wd ⟨rfl, hbd⟩
      have HBd : Hid (Below w.heap.size w wd) := lb_trans HBX.out hbd
      clear hbd
      go_wp2
      go_ret
      exact ⟨rfl, HBd.out⟩
    · have hn' : ¬ (65536 : Int) < (nm.size : Int) := by omega
      have CP : Hid (∀ wx, Below w.heap.size w wx → Calls Tryz.prog 19 #[.slice A l.length ca] wx (CopyL l wx)) := fun wx hx => copyobs_any A ca q l wx (HI.out.keep hx) (fun i hi => (HO.out i hi).none)
      go_wp2_with fail
      refine (CP.out _ HBX.out).mono ?_
      rintro e w2 ⟨A2, c2, q2, rfl, o2, p2, hb2⟩
      have HB2 : Hid (Below w.heap.size w w2) := lb_trans HBX.out hb2
      have C3 := progL A2 c2 q2 l nm mem w2 (copy_in HI.out o2 p2) (by omega)
      clear o2 p2 hb2 HBX
      go_wp2_with fail
      refine C3.mono ?_
      cases hE : lnkE l nm mem with
      | some x =>
        rintro e w3 ⟨T, M, cT, cM, rfl, -, -, hb3⟩
        have HB3 : Hid (Below w.heap.size w w3) := lb_trans HB2.out hb3
        have e1 : (lnkT l nm mem).length = 0 := by unfold lnkT; rw [hE]; rfl
        have e2 : (lnkM l nm mem).length = 0 := by unfold lnkM; rw [hE]; rfl
        have he : (x.1 != 0) = true := by simpa using lnk_nz hE
        have e3 : t1 (some x) = x.1 := rfl
        rw [e1, e2, hE, e3]
        generalize lnkN l nm mem = N
        generalize t2 (some x) = N2
        generalize t3 (some x) = N3
        have HB4 : Hid (Below w.heap.size w (w3.alloc (.cells #[.slice T 0 cT, .int .i64 N, .slice M 0 cM] 29))) := lb_alloc HB3.out _
        clear C3 hb3 e1 e2 e3 hE
        go_wp2_with fail
        refine (LV.out _ HB4.out).mono ?_
        rintro e wd ⟨rfl, hbd⟩
        have HBd : Hid (Below w.heap.size w wd) := lb_trans HB4.out hbd
        clear hbd
        go_wp2
        go_ret
        exact ⟨rfl, HBd.out⟩
      | none =>
        obtain ⟨x, hL⟩ := lnk_ok hE
        obtain ⟨m, rfl⟩ : ∃ m : Nat, mem = (m : Int) := ⟨mem.toNat, by have := hL.m0; omega⟩
        have HL : Hid (Lnk l nm (m : Int) x) := hL
        have HE : Hid (lnkE l nm (m : Int) = none) := hE
        intro e w3 h3
        obtain ⟨T, M, cT, cM, rfl, hM3, hb3⟩ := link_ok hE hL h3
        have hshort := hL.short
        have hm1 : m ≤ 4096 := by have := hL.m1; omega
        clear C3 hE hL h3
        obtain ⟨W3, hW3⟩ : ∃ W3, W3 = w3.alloc (.cells #[.slice T (bsF l l.length) cT, .int .i64 ((bsF l x.1 : Int) + x.2), .slice M m cM] 29) := ⟨_, rfl⟩
        have hbW : Below w3.heap.size w3 W3 := by rw [hW3]; exact lb_alloc (Below.refl _ _) _
        have HB3 : Hid (Below w.heap.size w W3) := lb_trans HB2.out (lb_trans hb3 hbW)
        have HM3 : Hid (Made l x m T M cT cM (datL l m) W3) := hM3.keep hbW
        have HX3 : Hid (W3.heap[w3.heap.size]? = some (.cells #[.slice T (bsF l l.length) cT, .int .i64 ((bsF l x.1 : Int) + x.2), .slice M m cM] 29 (0, 0))) := by rw [Hid, hW3]; exact heap_alloc_new _ _
        clear hM3 hb3 HB2
        obtain ⟨z0, z1, z2⟩ := zbox3_cell HX3.out
        have C4 := chk_ok HL.out HM3.out
        go_upto_region 6 with fail
        rw [← hW3]
        clear hW3 hbW
        go_wp2_with fail
        refine C4.mono ?_
        rintro e w4 ⟨T4, M4, cT4, cM4, rfl, hb4, hT4⟩
        have C5 := may_ok (M := M4) (cT := cT4) (cM := cM4) HL.out hT4 (fun i hi => (HO.out i hi).cr)
        have HK4 : Hid (Below W3.heap.size W3 w4) := hb4
        clear C4 hb4 hT4 z0 z1 z2
        go_wp2_with fail
        refine C5.mono ?_
        rintro e w5 ⟨rfl, hb5⟩
        have HK5 : Hid (Below W3.heap.size W3 w5) := lb_trans HK4.out hb5
        clear C5 hb5 HK4
        -- Bases
        go_wp2_with fail
        refine (CP.out _ (lb_trans HB3.out HK5.out)).mono ?_
        rintro e w6 ⟨A6, c6, q6, rfl, o6, p6, hb6⟩
        have HK6 : Hid (Below W3.heap.size W3 w6) := lb_trans HK5.out hb6
        have C6 := progB A6 c6 q6 l w6 (copy_in HI.out o6 p6)
        clear o6 p6 hb6 HK5
        go_wp2_with fail
        refine C6.mono ?_
        intro e w7 h7
        obtain ⟨B7, c7, rfl, r7, hb7⟩ := bas_all HL.out h7
        have HK7 : Hid (Below W3.heap.size W3 w7) := lb_trans HK6.out hb7
        have HB7 : Hid (IntsAt w7 B7 .i64 (basT l l.length)) := r7
        clear C6 h7 r7 hb7 HK6
        -- Resolve
        go_wp2_with fail
        refine (CP.out _ (lb_trans HB3.out HK7.out)).mono ?_
        rintro e w8 ⟨A8, c8, q8, rfl, o8, p8, hb8⟩
        have HK8 : Hid (Below W3.heap.size W3 w8) := lb_trans HK7.out hb8
        have HK78 : Hid (Below w7.heap.size w7 w8) := hb8
        have C8 := progR A8 c8 q8 l w8 (copy_in HI.out o8 p8)
        clear o8 p8 hb8
        go_wp2_with fail
        refine C8.mono ?_
        intro e w9 h9
        obtain ⟨D9, c9, rfl, r9, hb9⟩ := res_all HE.out HL.out h9
        have HK9 : Hid (Below W3.heap.size W3 w9) := lb_trans HK8.out hb9
        have HK79 : Hid (Below w7.heap.size w7 w9) := lb_trans HK78.out hb9
        have HD9 : Hid (RowsAt w9 D9 (rowsT l l.length)) := r9
        clear C8 h9 r9 hb9 HK8 HK78 HK7
        -- Find
        go_wp2_with fail
        refine (CP.out _ (lb_trans HB3.out HK9.out)).mono ?_
        rintro e wa ⟨Aa, cca, qa, rfl, oa, pa, hba⟩
        have HK9a : Hid (Below w9.heap.size w9 wa) := hba
        have Ca := progF Aa cca qa l nm wa (copy_in HI.out oa pa) (by omega)
        clear oa pa hba
        go_wp2_with fail
        refine Ca.mono ?_
        intro e wb hbx
        obtain ⟨rfl, hbb⟩ := fnd_all HL.out hbx
        obtain ⟨W5, hW5⟩ : ∃ W5, W5 = wb.alloc (.cells #[.int .i64 (x.1 : Int), .int .i64 x.2] 69) := ⟨_, rfl⟩
        have hbW5 : Below wb.heap.size wb W5 := by rw [hW5]; exact lb_alloc (Below.refl _ _) _
        have hb95 : Below w9.heap.size w9 W5 := lb_trans HK9a.out (lb_trans hbb hbW5)
        have HXi : Hid (W5.cell? ⟨wb.heap.size, 0, none⟩ = some (.int .i64 (x.1 : Int))) := by rw [Hid, hW5]; simp [go_sem]
        have HXa : Hid (W5.cell? ⟨wb.heap.size, 1, none⟩ = some (.int .i64 x.2)) := by rw [Hid, hW5]; simp [go_sem]
        have HB5 : Hid (Below w.heap.size w W5) := lb_trans HB3.out (lb_trans HK9.out hb95)
        have HX5 : Hid (W5.heap[w3.heap.size]? = some (.cells #[.slice T (bsF l l.length) cT, .int .i64 ((bsF l x.1 : Int) + x.2), .slice M m cM] 29 (0, 0))) := lb_box HX3.out (lb_trans HK9.out hb95)
        have HM5 : Hid (Made l x m T M cT cM (datL l m) W5) := HM3.out.keep (lb_trans HK9.out hb95)
        have HBs : Hid (IntsAt W5 B7 .i64 (basT l l.length)) := HB7.out.keep (lb_trans HK79.out hb95)
        have HDs : Hid (RowsAt W5 D9 (rowsT l l.length)) := HD9.out.keep hb95
        clear Ca hbx hbb
        obtain ⟨z0, z1, z2⟩ := zbox3_cell HX5.out
        go_upto_region 10 with fail
        rw [← hW5]
        clear hW5 hbW5 hb95 HB3 HM3 HX3 HB7 HD9 HK9 HK79 HK9a
        go_upto_region 12 with fail
        clear z0 z1 z2
        obtain ⟨hxl, hxa0, hxa1⟩ := HL.out.lt
        have hx16 : x.2 ≤ 16384 := by have := bsF_end l hxl; omega
        have hbxs : bsF l x.1 ≤ 16384 := by have := bsF_end l hxl; omega
        go_wp2
        go_loopw [21, 22, 23] (fun rd nx i wz => ∃ (k : Nat) (O : Option Addr) (c : Nat) (qr : Nat → Pl), i = .int .i64 k ∧ k ≤ l.length ∧ nx = .int .i64 (bsF l k : Int) ∧ rd = .slice O k c ∧ Hid (Grown 75 (ReadO W5.heap.size) wz W5.heap.size (.slice O k c) qr l k) ∧ Hid (Below W5.heap.size W5 wz)) (fun _ _ i _ => l.length - (intOf i).toNat)
        case atStart => exact ⟨0, none, 0, fun _ => plD, rfl, Nat.zero_le _, rfl, rfl, Grown.start _ _ _ _ _ _, Below.refl _ _⟩
        case round =>
          obtain ⟨k, O, c, qr, rfl, hk, rfl, rfl, HG, HK⟩ := hrel
          have HB : Hid (Below w.heap.size w wr) := lb_trans HB5.out HK.out
          by_cases hkl : k < l.length
          · have hkl' : (k : Int) < (l.length : Int) := by omega
            obtain ⟨a, ea, x0, x1, x2, x3, x4, x5⟩ := HA.out.six HB.out k hkl
            subst ea
            have CC := copyob2_any (ob l k) (q k) wr ((HI.out.each k hkl).keep HB.out) (HO.out k hkl).none
            go_wp2_with fail
            refine CC.mono ?_
            rintro e w6 ⟨po, rfl, hb6, hO6, hN6⟩
            obtain ⟨W6, hW6⟩ : ∃ W6, W6 = w6.alloc (.cells #[.string (ob l k).nm, .slice po.A1 (ob l k).code.length po.c1, .int .i64 (ob l k).dA, .slice po.A2 (ob l k).data.length po.c2, .slice po.A3 (ob l k).ss.length po.c3, .slice po.A4 (ob l k).rs.length po.c4] 75) := ⟨_, rfl⟩
            have hbW6 : Below w6.heap.size w6 W6 := by rw [hW6]; exact lb_alloc (Below.refl _ _) _
            have hrW6 : Below wr.heap.size wr W6 := lb_trans hb6 hbW6
            have HC6 : Hid (CopyAt W6 w6.heap.size po (ob l k)) := by rw [Hid, hW6]; exact heap_alloc_new _ _
            have HO6 : Hid (ObIn W6 po (ob l k)) := hO6.keep hbW6
            have HN6 : Hid (NoneO po) := hN6
            have HK6 : Hid (Below W5.heap.size W5 W6) := lb_trans HK.out hrW6
            have HG6 : Hid (Grown 75 (ReadO W5.heap.size) W6 W5.heap.size (.slice O k c) qr l k) := HG.out.keep readO_quiet hrW6
            clear CC hb6 hO6 hN6 hrW6 x0 x1 x2 x3 x4 x5 HG HK HB
            go_upto_region 18 with fail
            rw [← hW6]
            clear hW6 hbW6
            generalize w6.heap.size = Bo at HC6 ⊢
            obtain ⟨c0, c1, c2, c3, c4, c5⟩ := copy6 HC6.out
            obtain ⟨z0, z1, z2⟩ := zbox3_cell (lb_box HX5.out HK6.out)
            have t0 := lkeep HK6.out HXi.out
            have t1 := lkeep HK6.out HXa.out
            obtain ⟨aB, eB, k0⟩ := (HBs.out.keep HK6.out) k (by rw [basT_len]; exact hkl)
            have k0' : W6.cell? (aB.add k) = some (.int .i64 (bsF l k : Int)) := by rw [k0]; simp [basT, nth, hkl]
            obtain ⟨aD, RD, cD, eD, g0, g1⟩ := (HDs.out.keep HK6.out) k (by rw [rowsT_len]; exact hkl)
            rw [rowsT_at l hkl, rowT_len] at g0
            subst eB
            subst eD
            clear g1 k0
            have hend := bsF_end l hkl
            have hcl := (HI.out.each k hkl).hc
            have hssl := (HI.out.each k hkl).hs
            have hend' : ¬ (bsF l l.length : Int) ≤ (bsF l k : Int) + ((ob l k).code.length : Int) := by omega
            have hsf : bsF l k ≤ 16384 := by omega
            go_cut [192] (fun t wx => t = .bool false ∧ ∃ n, wx = W6.drewN n)
            case first =>
              by_cases hxk : x.1 = k
              · have hxk1 : (x.1 : Int) = (k : Int) := by omega
                have hxk2 : (bsF l x.1 : Int) = (bsF l k : Int) := by rw [hxk]
                rw [hxk1] at t0
                rw [hxk2] at z1
                clear hxk hxk1 hxk2
                as_aux_lemma =>
                  go_big_quiet (fail)
                  go_wp2
                  go_meet
                  case rel => exact ⟨rfl, _, rfl⟩
              · have hxk1 : ¬ (x.1 : Int) = (k : Int) := by omega
                have hxk2 : ((x.1 : Int) == (k : Int)) = false := beq_eq_false_iff_ne.2 hxk1
                as_aux_lemma =>
                  go_big_quiet (fail)
                  go_wp2
                  go_meet
                  case rel => exact ⟨rfl, _, rfl⟩
            case rest =>
              obtain ⟨rfl, nq, rfl⟩ := hcut
              have hq := below_drewN (Below.refl W6.heap.size W6) nq
              have HC7 : Hid (CopyAt (W6.drewN nq) Bo po (ob l k)) := HC6.out.keep hq
              have HO7 : Hid (ObIn (W6.drewN nq) po (ob l k)) := HO6.out.keep hq
              have HK7 : Hid (Below W5.heap.size W5 (W6.drewN nq)) := lb_trans HK6.out hq
              have HG7 : Hid (Grown 75 (ReadO W5.heap.size) (W6.drewN nq) W5.heap.size (.slice O k c) qr l k) := HG6.out.keep readO_quiet hq
              clear hq c0 c1 c2 c3 c4 c5 z0 z1 z2 t0 t1 k0' g0 HC6 HO6 HK6 HG6
              generalize W6.drewN nq = W7 at HC7 HO7 HK7 HG7 ⊢
              go_wp2
              go_loopw [25] (fun i wz => ∃ j : Nat, i = .int .i64 j ∧ j ≤ (ob l k).code.length ∧ Hid (Below W7.heap.size W7 wz)) (fun i _ => (ob l k).code.length - (intOf i).toNat)
              case atStart => exact ⟨0, rfl, Nat.zero_le _, Below.refl _ _⟩
              case round =>
                obtain ⟨j, rfl, hj, HJ⟩ := hrel
                obtain ⟨-, c1, -, -, -, -⟩ := copy6 (HC7.out.keep HJ.out)
                by_cases hjl : j < (ob l k).code.length
                · have hjl' : (j : Int) < ((ob l k).code.length : Int) := by omega
                  obtain ⟨p, hp⟩ : ∃ p : Nat, (bsF l k : Int) + (j : Int) = (p : Int) := ⟨bsF l k + j, by omega⟩
                  have HPp : Hid (bsF l k + j = p) := by rw [Hid]; omega
                  have hpn : p < bsF l l.length := by omega
                  have hpn' : (p : Int) < (bsF l l.length : Int) := by omega
                  obtain ⟨z0, -, -⟩ := zbox3_cell (lb_box HX5.out (lb_trans HK7.out HJ.out))
                  obtain ⟨aT, eT, y0⟩ := (HM5.out.keep (lb_trans HK7.out HJ.out)).t p (by rw [textF_len]; exact hpn)
                  rw [← HPp.out, text_word l hkl hjl, HPp.out] at y0
                  obtain ⟨a1, e1, y1⟩ := (HO7.out.keep HJ.out).cd j hjl
                  obtain ⟨v0, v1⟩ := HO7.out.cr j hjl
                  have CT := isatarget_any (nth (ob l k).code j) v0 v1 wr
                  subst eT
                  rw [e1] at c1
                  clear e1
                  cases ht : isT (nth (ob l k).code j)
                  · rw [ht] at CT
                    have hws : wordF l k j = nth (ob l k).code j := word_same ht
                    rw [hws] at y0
                    clear ht hws
                    go_wp2_with fail
                    refine CT.mono ?_
                    rintro e w8 ⟨rfl, hb8⟩
                    have HJ8 : Hid (Below W7.heap.size W7 w8) := lb_trans HJ.out hb8
                    have c1' := lkeep hb8 c1
                    have y1' := lkeep hb8 y1
                    clear CT hb8 c1 y0 y1 z0
                    go_wp2
                    go_roundw
                    case rel => exact ⟨j + 1, nat_up j, hjl, HJ8⟩
                    case measure => exact meas_up hjl
                  · rw [ht] at CT
                    obtain ⟨hTw, htg, hback, hto0, hto1⟩ := HL.out.word hkl hjl ht
                    obtain ⟨g0, g1⟩ := tg_pos ht
                    have HTw : Hid (isT (wordF l k j) = true) := hTw
                    have HTg : Hid (tgV (wordF l k j) = toF l k j) := htg
                    have HBk : Hid (aimV (wordF l k j) 0 = aimV (nth (ob l k).code j) 0) := hback
                    have HHt : Hid (isT (nth (ob l k).code j) = true) := ht
                    have HTo : Hid (toF l k j = toF l k j) := rfl
                    obtain ⟨r0, r1⟩ : 0 ≤ wordF l k j ∧ wordF l k j < 4294967296 := by
                      have := text_range (l := l) (fun i hi => (HO.out i hi).cr) p (by rw [textF_len]; exact hpn)
                      rw [← HPp.out, text_word l hkl hjl] at this
                      exact this
                    clear ht hTw htg hback
                    go_wp2_with fail
                    refine CT.mono ?_
                    rintro e w8 ⟨rfl, hb8⟩
                    have HJ8 : Hid (Below W7.heap.size W7 w8) := lb_trans HJ.out hb8
                    clear CT hb8 c1 y0 y1 z0 HJ
                    obtain ⟨d0, d1, d2, d3, d4, d5⟩ := copy6 (HC7.out.keep HJ8.out)
                    have CC := copyob2_any (ob l k) po w8 (HO7.out.keep HJ8.out) HN6.out
                    go_wp2_with fail
                    refine CC.mono ?_
                    rintro e w9 ⟨pq, rfl, hb9, hO9, -⟩
                    have HJ9 : Hid (Below W7.heap.size W7 w9) := lb_trans HJ8.out hb9
                    have CA := objat_any (ob l k).nm (ob l k).dA pq.A1 pq.A2 pq.A3 pq.A4 (ob l k).code.length pq.c1 (ob l k).data.length pq.c2 (ob l k).ss.length pq.c3 pq.c4 (ob l k).rs (j : Int) w9 hO9.rl hO9.hl
                    clear CC hb9 hO9 d0 d1 d2 d3 d4 d5 HJ8
                    go_wp2_with fail
                    refine CA.mono ?_
                    rintro e wa2 ⟨rfl, hba⟩
                    have HJa : Hid (Below W7.heap.size W7 wa2) := lb_trans HJ9.out hba
                    clear CA hba HJ9
                    obtain ⟨-, -, -, -, -, d5⟩ := copy6 (HC7.out.keep HJa.out)
                    have hrl := HO7.out.hl
                    have hra : atR (ob l k).rs (j : Int) < ((ob l k).rs.length : Int) := by
                      by_cases h : 0 ≤ atR (ob l k).rs (j : Int)
                      · have := atR_lt h; omega
                      · omega
                    have hrm : -1 ≤ atR (ob l k).rs (j : Int) := atR_ge _ _
                    obtain ⟨ra, hrae⟩ : ∃ ra, ra = atR (ob l k).rs (j : Int) := ⟨_, rfl⟩
                    rw [← hrae] at hra hrm ⊢
                    have HRa : Hid (ra = atR (ob l k).rs (j : Int)) := hrae
                    clear hrae
                    have hra' : ¬ ((ob l k).rs.length : Int) ≤ ra := by omega
                    go_upto_if 238 with fail
                    clear d5
                    go_cut [27] (fun t wx => t = .int .i64 (toF l k j) ∧ Hid (Below W7.heap.size W7 wx))
                    case first =>
                      as_aux_lemma =>
                        by_cases h0 : 0 ≤ ra
                        · obtain ⟨r, rfl⟩ : ∃ r : Nat, ra = (r : Int) := ⟨ra.toNat, by omega⟩
                          have hrl2 : r < (ob l k).rs.length := by omega
                          have hrl' : (r : Int) < ((ob l k).rs.length : Int) := by omega
                          obtain ⟨-, -, -, s0, s1, -, -⟩ := rel_parts.1 ((HL.out.res.may k hkl).2.2.1 r hrl2)
                          obtain ⟨sy, hsy⟩ : ∃ sy : Nat, rSym (ob l k).rs r = (sy : Int) := ⟨(rSym (ob l k).rs r).toNat, by omega⟩
                          have hsl : sy < (ob l k).ss.length := by omega
                          have hsl' : (sy : Int) < ((ob l k).ss.length : Int) := by omega
                          obtain ⟨xo, yo, est, hxo, hyo0, hyo1, -⟩ := HL.out.res.stand hkl hsl
                          have HToV : Hid (toF l k j = (bsF l xo : Int) + yo) := by
                            unfold Hid toF
                            rw [if_pos (by rw [← HRa.out]; exact h0), ← HRa.out]
                            simp [hsy, est]
                          have hxo' : (xo : Int) < (l.length : Int) := by omega
                          have hxo'' : ¬ (l.length : Int) ≤ (xo : Int) := by omega
                          have hyb : yo ≤ 16384 := by have := bsF_end l hxo; omega
                          have hxb : bsF l xo ≤ 16384 := by have := bsF_end l hxo; omega
                          obtain ⟨aD2, RD2, cD2, eD2, gg0, gg1⟩ := (HDs.out.keep (lb_trans HK7.out HJa.out)) k (by rw [rowsT_len]; exact hkl)
                          cases eD2
                          rw [rowsT_at l hkl] at gg0 gg1
                          rw [rowT_len] at gg0
                          obtain ⟨aE, eE, e0, e1⟩ := gg1 sy (by rw [rowT_len]; exact hsl)
                          rw [(rowT_at hsl).1, est] at e0
                          rw [(rowT_at hsl).2, est] at e1
                          subst eE
                          obtain ⟨-, -, -, -, -, d5⟩ := copy6 (HC7.out.keep HJa.out)
                          obtain ⟨a4, ea4, f0, f1⟩ := (HO7.out.keep HJa.out).rl r hrl2
                          rw [ea4] at d5
                          rw [hsy] at f1
                          clear ea4 f0 gg1 est hsy s0 s1
                          have hbd : Below wa2.heap.size wa2 wa2.drew := ⟨rfl, rfl, rfl, Nat.le_refl _, fun _ _ => rfl⟩
                          have HJd : Hid (Below W7.heap.size W7 wa2.drew) := lb_trans HJa.out hbd
                          have hS : (fun X : World => X.cell? (aD.add k) = some (.slice (some aE) (ob l k).ss.length cD2) ∧ X.cell? ⟨Bo, 5, none⟩ = some (.slice (some a4) (ob l k).rs.length po.c4) ∧ X.cell? ⟨(a4.add (r * 2)).block, (a4.add (r * 2)).off + 1, none⟩ = some (.int .i64 (sy : Int)) ∧ X.cell? (aE.add (sy * 2)) = some (.int .i64 (xo : Int)) ∧ X.cell? ⟨(aE.add (sy * 2)).block, (aE.add (sy * 2)).off + 1, none⟩ = some (.int .i64 yo)) wa2.drew := ⟨gg0, d5, f1, e0, e1⟩
                          clear gg0 d5 f1 e0 e1 hbd
                          go_upto_region 33 with fail
                          refine wp_region_held_drew (S := fun X : World => X.cell? (aD.add k) = some (.slice (some aE) (ob l k).ss.length cD2) ∧ X.cell? ⟨Bo, 5, none⟩ = some (.slice (some a4) (ob l k).rs.length po.c4) ∧ X.cell? ⟨(a4.add (r * 2)).block, (a4.add (r * 2)).off + 1, none⟩ = some (.int .i64 (sy : Int)) ∧ X.cell? (aE.add (sy * 2)) = some (.int .i64 (xo : Int)) ∧ X.cell? ⟨(aE.add (sy * 2)).block, (aE.add (sy * 2)).off + 1, none⟩ = some (.int .i64 yo)) (by kernel_rfl) hS (fun hHeld => ?_)
                          refine wpAnyH_take (i := 0) (oi := { dst := some 239, op := Op.move (Operand.tmp 15), type := 65, pos := "law.go:95", after := #[], guard := none }) (v := ?_) rfl (by kernel_rfl) (by kernel_rfl) (by kernel_rfl) (fun _ _ _ h => h) (Or.inl ⟨by rfl, ?_⟩) hHeld ?_
                          rotate_left
                          · intro X hSX
                            go_simp
                            first | done | with_reducible rfl
                          try simp only [Act.put, List.setIfInBounds_toArray, List.set_cons_zero, List.set_cons_succ]
                          refine wpAnyH_take (i := 1) (oi := { dst := some 240, op := Op.move (Operand.tmp 23), type := 3, pos := "law.go:95", after := #[], guard := none }) (v := ?_) rfl (by kernel_rfl) (by kernel_rfl) (by kernel_rfl) (fun _ _ _ h => h) (Or.inl ⟨by rfl, ?_⟩) hHeld ?_
                          rotate_left
                          · intro X hSX
                            go_simp
                            first | done | with_reducible rfl
                          try simp only [Act.put, List.setIfInBounds_toArray, List.set_cons_zero, List.set_cons_succ]
                          refine wpAnyH_take (i := 2) (oi := { dst := some 241, op := Op.indexAddr 65 (Operand.tmp 239) (Operand.tmp 240), type := 0, pos := "law.go:95", after := #[{ on := 0, ground := Ground.data }, { on := 1, ground := Ground.data }], guard := none }) (v := ?_) rfl (by kernel_rfl) (by kernel_rfl) (by kernel_rfl) (fun _ _ _ h => h) (Or.inl ⟨by rfl, ?_⟩) hHeld ?_
                          rotate_left
                          · intro X hSX
                            go_simp
                            first | done | with_reducible rfl
                          try simp only [Act.put, List.setIfInBounds_toArray, List.set_cons_zero, List.set_cons_succ]
                          refine wpAnyH_take (i := 3) (oi := { dst := some 242, op := Op.load 77 (Operand.tmp 241), type := 77, pos := "law.go:95", after := #[{ on := 2, ground := Ground.data }], guard := none }) (v := ?_) rfl (by kernel_rfl) (by kernel_rfl) (by kernel_rfl) (fun _ _ _ h => h) (Or.inl ⟨by rfl, ?_⟩) hHeld ?_
                          rotate_left
                          · intro X hSX
                            go_simp
                            first | done | with_reducible rfl
                          try simp only [Act.put, List.setIfInBounds_toArray, List.set_cons_zero, List.set_cons_succ]
                          refine wpAnyH_take (i := 4) (oi := { dst := some 243, op := Op.fieldAddr 75 (Operand.tmp 24) 5, type := 0, pos := "law.go:95", after := #[], guard := none }) (v := ?_) rfl (by kernel_rfl) (by kernel_rfl) (by kernel_rfl) (fun _ _ _ h => h) (Or.inl ⟨by rfl, ?_⟩) hHeld ?_
                          rotate_left
                          · intro X hSX
                            go_simp
                            first | done | with_reducible rfl
                          try simp only [Act.put, List.setIfInBounds_toArray, List.set_cons_zero, List.set_cons_succ]
                          refine wpAnyH_take (i := 5) (oi := { dst := some 244, op := Op.load 73 (Operand.tmp 243), type := 73, pos := "law.go:95", after := #[{ on := 4, ground := Ground.data }], guard := none }) (v := ?_) rfl (by kernel_rfl) (by kernel_rfl) (by kernel_rfl) (fun _ _ _ h => h) (Or.inl ⟨by rfl, ?_⟩) hHeld ?_
                          rotate_left
                          · intro X hSX
                            go_simp
                            first | done | with_reducible rfl
                          try simp only [Act.put, List.setIfInBounds_toArray, List.set_cons_zero, List.set_cons_succ]
                          refine wpAnyH_take (i := 6) (oi := { dst := some 245, op := Op.move (Operand.tmp 29), type := 3, pos := "law.go:95", after := #[], guard := none }) (v := ?_) rfl (by kernel_rfl) (by kernel_rfl) (by kernel_rfl) (fun _ _ _ h => h) (Or.inl ⟨by rfl, ?_⟩) hHeld ?_
                          rotate_left
                          · intro X hSX
                            go_simp
                            first | done | with_reducible rfl
                          try simp only [Act.put, List.setIfInBounds_toArray, List.set_cons_zero, List.set_cons_succ]
                          refine wpAnyH_take (i := 7) (oi := { dst := some 246, op := Op.indexAddr 73 (Operand.tmp 244) (Operand.tmp 245), type := 0, pos := "law.go:95", after := #[{ on := 5, ground := Ground.data }, { on := 6, ground := Ground.data }], guard := none }) (v := ?_) rfl (by kernel_rfl) (by kernel_rfl) (by kernel_rfl) (fun _ _ _ h => h) (Or.inl ⟨by rfl, ?_⟩) hHeld ?_
                          rotate_left
                          · intro X hSX
                            go_simp
                            first | done | with_reducible rfl
                          try simp only [Act.put, List.setIfInBounds_toArray, List.set_cons_zero, List.set_cons_succ]
                          refine wpAnyH_take (i := 8) (oi := { dst := some 247, op := Op.fieldAddr 83 (Operand.tmp 246) 1, type := 0, pos := "law.go:95", after := #[{ on := 7, ground := Ground.data }], guard := none }) (v := ?_) rfl (by kernel_rfl) (by kernel_rfl) (by kernel_rfl) (fun _ _ _ h => h) (Or.inl ⟨by rfl, ?_⟩) hHeld ?_
                          rotate_left
                          · intro X hSX
                            go_simp
                            first | done | with_reducible rfl
                          try simp only [Act.put, List.setIfInBounds_toArray, List.set_cons_zero, List.set_cons_succ]
                          refine wpAnyH_take (i := 9) (oi := { dst := some 248, op := Op.load 3 (Operand.tmp 247), type := 3, pos := "law.go:95", after := #[{ on := 8, ground := Ground.data }], guard := none }) (v := ?_) rfl (by kernel_rfl) (by kernel_rfl) (by kernel_rfl) (fun _ _ _ h => h) (Or.inl ⟨by rfl, ?_⟩) hHeld ?_
                          rotate_left
                          · intro X hSX
                            go_simp
                            first | done | with_reducible rfl
                          try simp only [Act.put, List.setIfInBounds_toArray, List.set_cons_zero, List.set_cons_succ]
                          refine wpAnyH_take (i := 10) (oi := { dst := some 249, op := Op.indexAddr 77 (Operand.tmp 242) (Operand.tmp 248), type := 0, pos := "law.go:95", after := #[{ on := 3, ground := Ground.data }, { on := 9, ground := Ground.data }], guard := none }) (v := ?_) rfl (by kernel_rfl) (by kernel_rfl) (by kernel_rfl) (fun _ _ _ h => h) (Or.inl ⟨by rfl, ?_⟩) hHeld ?_
                          rotate_left
                          · intro X hSX
                            go_simp
                            first | done | with_reducible rfl
                          try simp only [Act.put, List.setIfInBounds_toArray, List.set_cons_zero, List.set_cons_succ]
                          refine wpAnyH_take (i := 11) (oi := { dst := some 250, op := Op.load 69 (Operand.tmp 249), type := 69, pos := "law.go:95", after := #[{ on := 10, ground := Ground.data }], guard := none }) (v := ?_) rfl (by kernel_rfl) (by kernel_rfl) (by kernel_rfl) (fun _ _ _ h => h) (Or.inl ⟨by rfl, ?_⟩) hHeld ?_
                          rotate_left
                          · intro X hSX
                            go_simp
                            first | done | with_reducible rfl
                          try simp only [Act.put, List.setIfInBounds_toArray, List.set_cons_zero, List.set_cons_succ]
                          clear hS
                          generalize wa2.drew = X1 at hHeld HJd ⊢
                          refine wpAnyH_ready (rs := [12]) (by kernel_rfl) (by simp) (AllReadyH.cons (o := { dst := some 30, op := Op.alloc 69, type := 0, pos := "law.go:95", after := #[], guard := none }) rfl (fun K hK => ?_) AllReadyH.nil)
                          go_simp
                          refine hK.out _ _ ⟨lkeep (lb_alloc (Below.refl _ _) _) hHeld.1, lkeep (lb_alloc (Below.refl _ _) _) hHeld.2.1, lkeep (lb_alloc (Below.refl _ _) _) hHeld.2.2.1, lkeep (lb_alloc (Below.refl _ _) _) hHeld.2.2.2.1, lkeep (lb_alloc (Below.refl _ _) _) hHeld.2.2.2.2⟩ (fun hHeld2 => ?_)
                          clear hK K
                          try simp only [Act.put, List.setIfInBounds_toArray, List.set_cons_zero, List.set_cons_succ]
                          refine wpAnyH_ready (rs := [13]) (by kernel_rfl) (by simp) (AllReadyH.cons (o := { dst := none, op := Op.store 69 (Operand.tmp 30) (Operand.tmp 250), type := 0, pos := "law.go:95", after := #[{ on := 12, ground := Ground.data }, { on := 11, ground := Ground.data }, { on := 0, ground := Ground.phase }, { on := 1, ground := Ground.phase }, { on := 2, ground := Ground.phase }, { on := 3, ground := Ground.phase }, { on := 4, ground := Ground.phase }, { on := 5, ground := Ground.phase }, { on := 6, ground := Ground.phase }, { on := 7, ground := Ground.phase }, { on := 8, ground := Ground.phase }, { on := 9, ground := Ground.phase }, { on := 10, ground := Ground.phase }, { on := 11, ground := Ground.phase }, { on := 12, ground := Ground.phase }], guard := none }) rfl (fun K hK => ?_) AllReadyH.nil)
                          go_simp
                          refine hK.out _ _ ⟨lkeep (lb_alloc (Below.refl _ _) _) hHeld.1, lkeep (lb_alloc (Below.refl _ _) _) hHeld.2.1, lkeep (lb_alloc (Below.refl _ _) _) hHeld.2.2.1, lkeep (lb_alloc (Below.refl _ _) _) hHeld.2.2.2.1, lkeep (lb_alloc (Below.refl _ _) _) hHeld.2.2.2.2⟩ (fun hHeld3 => ?_)
                          clear hK K
                          try simp only [Act.put, List.setIfInBounds_toArray, List.set_cons_zero, List.set_cons_succ]
                          refine wpAnyH_done (by kernel_rfl) ?_ _
                          obtain ⟨X2, hX2⟩ : ∃ X2, X2 = X1.alloc (.cells #[.int .i64 (xo : Int), .int .i64 yo] 69) := ⟨_, rfl⟩
                          have HJ2 : Hid (Below W7.heap.size W7 X2) := by rw [Hid, hX2]; exact lb_alloc HJd.out _
                          have b0 : X2.cell? ⟨X1.heap.size, 0, none⟩ = some (.int .i64 (xo : Int)) := by rw [hX2]; simp [go_sem]
                          have b1 : X2.cell? ⟨X1.heap.size, 1, none⟩ = some (.int .i64 yo) := by rw [hX2]; simp [go_sem]
                          rw [← hX2]
                          clear hX2 hHeld hHeld2 hHeld3
                          obtain ⟨aB2, eB2, kk⟩ := (HBs.out.keep (lb_trans HK7.out HJ2.out)) xo (by rw [basT_len]; exact hxo)
                          cases eB2
                          have kk' : X2.cell? (aB.add xo) = some (.int .i64 (bsF l xo : Int)) := by rw [kk]; simp [basT, nth, hxo]
                          clear kk
                          go_upto_region 36 with fail
                          go_quiet (fail)
                          have HJq : Hid (Below W7.heap.size W7 (X2.drewN nq)) := below_drewN HJ2.out _
                          clear b0 b1 kk'
                          go_wp2
                          go_meet
                          case rel => exact ⟨by rw [HToV.out], HJq⟩
                        · have HToV : Hid (toF l k j = tgV (nth (ob l k).code j) + bsF l k) := by
                            unfold Hid toF
                            rw [if_neg (by rw [← HRa.out]; exact h0)]
                          have h0' : ¬ (0 : Int) ≤ ra := h0
                          go_wp2
                          go_meet
                          case rel => exact ⟨by rw [HToV.out], HJa⟩
                    case rest =>
                      obtain ⟨rfl, HJb⟩ := hcut
                      as_aux_lemma =>
                        have C37 := isatarget_any (wordF l k j) r0 r1 wc
                        rw [HTw.out, HTg.out] at C37
                        clear hra hra' hrm HRa
                        go_wp2_with fail
                        refine C37.mono ?_
                        rintro e wd ⟨rfl, hbd⟩
                        have HJc : Hid (Below W7.heap.size W7 wd) := lb_trans HJb.out hbd
                        have C38 := isaaim_any (wordF l k j) 0 r0 r1 wd
                        rw [HBk.out] at C38
                        generalize aimE (wordF l k j) 0 = E1 at C38
                        clear C37 hbd
                        go_wp2_with fail
                        refine C38.mono ?_
                        rintro e we ⟨rfl, hbe⟩
                        have HJe : Hid (Below W7.heap.size W7 we) := lb_trans HJc.out hbe
                        obtain ⟨-, c1, -, -, -, -⟩ := copy6 (HC7.out.keep HJe.out)
                        obtain ⟨a1, e1, y1⟩ := (HO7.out.keep HJe.out).cd j hjl
                        rw [e1] at c1
                        clear e1 C38 hbe
                        have C39 := isaaim_any (nth (ob l k).code j) 0 v0 v1 we
                        generalize aimE (nth (ob l k).code j) 0 = E2 at C39
                        go_wp2_with fail
                        refine C39.mono ?_
                        rintro e wf ⟨rfl, hbf⟩
                        have HJf : Hid (Below W7.heap.size W7 wf) := lb_trans HJe.out hbf
                        clear C39 hbf c1 y1
                        go_wp2
                        go_roundw
                        case rel => exact ⟨j + 1, nat_up j, hjl, HJf⟩
                        case measure => exact meas_up hjl
                · have hjl' : ¬ (j : Int) < ((ob l k).code.length : Int) := by omega
                  obtain rfl : j = (ob l k).code.length := by omega
                  have HJe := HJ
                  obtain ⟨p, hp⟩ : ∃ p : Nat, (bsF l k : Int) + ((ob l k).code.length : Int) = (p : Int) := ⟨bsF l k + (ob l k).code.length, by omega⟩
                  have HPp : Hid (bsF l k + (ob l k).code.length = p) := by rw [Hid]; omega
                  have hpn : p < bsF l l.length := by omega
                  have hpn' : (p : Int) < (bsF l l.length : Int) := by omega
                  obtain ⟨z0, -, -⟩ := zbox3_cell (lb_box HX5.out (lb_trans HK7.out HJ.out))
                  obtain ⟨aT, eT, y0⟩ := (HM5.out.keep (lb_trans HK7.out HJ.out)).t p (by rw [textF_len]; exact hpn)
                  rw [← HPp.out, text_trap l hkl, HPp.out] at y0
                  subst eT
                  go_upto_region 46 with fail
                  clear c1 z0 y0
                  obtain ⟨d0, d1, d2, d3, d4, d5⟩ := copy6 (HC7.out.keep HJ.out)
                  have hmay := HL.out.res.may k hkl
                  have hck : (checkC (ob l k).nm (ob l k).code (ob l k).dA (ob l k).data.length (ob l k).ss (ob l k).rs).1 = 0 := by rw [may_check hmay]
                  have HCk : Hid ((checkC (ob l k).nm (ob l k).code (ob l k).dA (ob l k).data.length (ob l k).ss (ob l k).rs).1 = 0) := hck
                  have hOj := HO7.out.keep HJ.out
                  have CW := write_any (ob l k).nm (ob l k).dA po.A1 po.A2 po.A3 po.A4 po.c1 po.c2 po.c3 po.c4 (ob l k).code (ob l k).data (ob l k).ss (ob l k).rs wr hOj.cd hOj.dt hOj.sy hOj.rl hOj.cr hOj.hc hOj.hd hOj.hs hOj.hl hOj.hN hOj.da
                  clear hmay hck hOj
                  go_wp2_with fail
                  refine CW.mono ?_
                  intro e w8 h8
                  obtain ⟨Ab, cb, rfl, -, hib, hcb, hb8⟩ := wrote_ok h8 HCk.out
                  have HJ8 : Hid (Below W7.heap.size W7 w8) := lb_trans HJ.out hb8
                  have hbl := may_len HCk.out
                  have CR := read_any Ab cb (bytesB (ob l k).nm (ob l k).code (ob l k).dA (ob l k).data (ob l k).ss (ob l k).rs) w8 hib (bytes_areB _ _ _ _ _ _) (by omega) hcb (lkeep (lb_trans HB5.out (lb_trans HK7.out HJ8.out)) HT.out)
                  generalize hbb : bytesB (ob l k).nm (ob l k).code (ob l k).dA (ob l k).data (ob l k).ss (ob l k).rs = bb at CR hbl hcb hib ⊢
                  have HBB : Hid (bytesB (ob l k).nm (ob l k).code (ob l k).dA (ob l k).data (ob l k).ss (ob l k).rs = bb) := hbb
                  clear CW h8 hb8 d0 d1 d2 d3 d4 d5 hib hcb hbl hbb
                  go_wp2_with fail
                  refine CR.mono ?_
                  intro e w9 h9
                  rw [← HBB.out] at h9
                  obtain ⟨Y1, Y2, Y3, Y4, y1, y2, y3, y4, rfl, hrows, hb9⟩ := read_ok h9 HCk.out HO7.out.cr (fun i hi => by have := HO7.out.dr i hi; exact ⟨this.1, by have := this.2; omega⟩)
                  obtain ⟨W9, hW9⟩ : ∃ W9, W9 = w9.alloc (.cells #[.string (ob l k).nm, .slice Y1 (ob l k).code.length y1, .int .i64 (ob l k).dA, .slice Y2 (ob l k).data.length y2, .slice Y3 (ob l k).ss.length y3, .slice Y4 (ob l k).rs.length y4] 75) := ⟨_, rfl⟩
                  have hbW9 : Below w9.heap.size w9 W9 := by rw [hW9]; exact lb_alloc (Below.refl _ _) _
                  have HJ9 : Hid (Below W7.heap.size W7 W9) := lb_trans HJ8.out (lb_trans hb9 hbW9)
                  have hs58 : W5.heap.size ≤ w8.heap.size := by have := HK7.out.size; have := HJ8.out.size; omega
                  have HRd : Hid (ReadO W5.heap.size W9 ⟨Y1, Y2, Y3, Y4, y1, y2, y3, y4⟩ (ob l k)) := (hrows.mono hs58).keep hbW9
                  have HC9 : Hid (CopyAt W9 w9.heap.size ⟨Y1, Y2, Y3, Y4, y1, y2, y3, y4⟩ (ob l k)) := by rw [Hid, hW9]; exact heap_alloc_new _ _
                  have HG9 : Hid (Grown 75 (ReadO W5.heap.size) W9 W5.heap.size (.slice O k c) qr l k) := HG7.out.keep readO_quiet HJ9.out
                  have HK9 : Hid (Below W5.heap.size W5 W9) := lb_trans HK7.out HJ9.out
                  clear CR h9 hrows hb9 HJ8 hs58 HJ HJe
                  go_upto_region 48 with fail
                  rw [← hW9]
                  clear hW9 hbW9
                  generalize w9.heap.size = By at HC9 ⊢
                  clear hp hpn hpn'
                  obtain ⟨d0, d1, d2, d3, d4, d5⟩ := copy6 HC9.out
                  obtain ⟨i0, hi0, hz0, hz1, hz2⟩ := info75
                  have hfew := hf
                  have HRW : Hid ((W9.alloc (.cells #[.string (ob l k).nm, .slice Y1 (ob l k).code.length y1, .int .i64 (ob l k).dA, .slice Y2 (ob l k).data.length y2, .slice Y3 (ob l k).ss.length y3, .slice Y4 (ob l k).rs.length y4] 75)).ownsRow W5.heap.size 75 6 (.slice O k c) k (gsCells qr l k)) := HG9.out.row.alloc _
                  have HN : Hid ((W9.alloc (.cells #[.string (ob l k).nm, .slice Y1 (ob l k).code.length y1, .int .i64 (ob l k).dA, .slice Y2 (ob l k).data.length y2, .slice Y3 (ob l k).ss.length y3, .slice Y4 (ob l k).rs.length y4] 75)).heap[W9.heap.size]? = some (.cells #[.string (ob l k).nm, .slice Y1 (ob l k).code.length y1, .int .i64 (ob l k).dA, .slice Y2 (ob l k).data.length y2, .slice Y3 (ob l k).ss.length y3, .slice Y4 (ob l k).rs.length y4] 75 (0, 0))) := heap_alloc_new _ _
                  have HBS : Hid (W5.heap.size ≤ (W9.alloc (.cells #[.string (ob l k).nm, .slice Y1 (ob l k).code.length y1, .int .i64 (ob l k).dA, .slice Y2 (ob l k).data.length y2, .slice Y3 (ob l k).ss.length y3, .slice Y4 (ob l k).rs.length y4] 75)).heap.size) := by have := HK9.out.size; rw [Hid]; simp; omega
                  have h63 : k + 1 ≤ maxLen := by unfold maxLen; omega
                  have hby : (k + 1) * 120 ≤ 140737488355328 := by omega
                  go_wp2_with (at_builtin; go_loud (refine wpList_append_own _ rfl (.tmp 330) (.tmp 332) 22 rfl W5.heap.size 75 i0 (.agg #[.string ⟨#[]⟩, .slice none 0 0, .int .i64 0, .slice none 0 0, .slice none 0 0, .slice none 0 0]) 6 120 Tryz.underlying22 hi0 hz0 hz1 hz2 rfl (by decide) (.slice O k c) k (gsCells qr l k) rfl HRW.out ⟨W9.heap.size, 0, none⟩ 1 1 (gCells ⟨Y1, Y2, Y3, Y4, y1, y2, y3, y4⟩ (ob l k)) rfl rfl (fun m u hu => World.news_of_block HN.out m u hu) one_g h63 hby HBS.out ?_; intro v3 W10 hown hgrow _; obtain ⟨gv, cv, rfl, HG10, HK10⟩ := read_step HG9.out HRd.out HK9.out _ hown hgrow; clear hown hgrow HRW HN HBS h63 hby))
                  clear d0 d1 d2 d3 d4 d5 hi0 hz0 hz1 hz2 hfew
                  go_roundw
                  case rel => exact ⟨k + 1, _, _, _, nat_up k, hkl, by rw [bsF, HPp.out]; exact nat_up p, rfl, HG10, HK10⟩
                  case measure => exact meas_up hkl
          · have hkl' : ¬ (k : Int) < (l.length : Int) := by omega
            obtain rfl : k = l.length := by omega
            as_aux_lemma =>
              have CL := progL O c qr l nm (m : Int) wr (grown_in HG.out HI.out) (by omega)
              go_wp2_with fail
              refine CL.mono ?_
              intro e w8 h8
              obtain ⟨T8, M8, cT8, cM8, rfl, hM8, hb8⟩ := link_ok HE.out HL.out h8
              obtain ⟨W9, hW9⟩ : ∃ W9, W9 = w8.alloc (.cells #[.slice T8 (bsF l l.length) cT8, .int .i64 ((bsF l x.1 : Int) + x.2), .slice M8 m cM8] 29) := ⟨_, rfl⟩
              have hbW9 : Below w8.heap.size w8 W9 := by rw [hW9]; exact lb_alloc (Below.refl _ _) _
              have HK9 : Hid (Below W5.heap.size W5 W9) := lb_trans HK.out (lb_trans hb8 hbW9)
              have HX9 : Hid (W9.heap[w8.heap.size]? = some (.cells #[.slice T8 (bsF l l.length) cT8, .int .i64 ((bsF l x.1 : Int) + x.2), .slice M8 m cM8] 29 (0, 0))) := by rw [Hid, hW9]; exact heap_alloc_new _ _
              have HM9 : Hid (Made l x m T8 M8 cT8 cM8 (datL l m) W9) := hM8.keep hbW9
              have HM9' : Hid (Made l x m T M cT cM (datL l m) W9) := HM5.out.keep HK9.out
              have hdl : (datL l m).length = m := by simp [datL]
              have CE := eqimg_same T M T8 M8 cT cM cT8 cM8 (textF l l.length) (datL l m) ((bsF l x.1 : Int) + x.2) W9 HM9'.out.t HM9'.out.m HM9.out.t HM9.out.m (by rw [textF_len]; omega) (by rw [hdl]; omega)
              rw [textF_len, hdl] at CE
              obtain ⟨z0, z1, z2⟩ := zbox3_cell (lb_box HX5.out HK9.out)
              obtain ⟨u0, u1, u2⟩ := zbox3_cell HX9.out
              clear CL h8 hM8 hb8 hdl
              go_upto_region 52 with fail
              rw [← hW9]
              clear hW9 hbW9
              go_wp2_with fail
              refine CE.mono ?_
              rintro e wa2 ⟨rfl, hba⟩
              have HBa : Hid (Below w.heap.size w wa2) := lb_trans HB5.out (lb_trans HK9.out hba)
              clear CE hba z0 z1 z2 u0 u1 u2
              go_wp2_with fail
              refine (LV.out _ HBa.out).mono ?_
              rintro e wd ⟨rfl, hbd⟩
              have HBd : Hid (Below w.heap.size w wd) := lb_trans HBa.out hbd
              clear hbd
              go_wp2
              go_ret
              exact ⟨rfl, HBd.out⟩

end Go.Proofs.YthpkekpojhmaaaaGreatDoor
