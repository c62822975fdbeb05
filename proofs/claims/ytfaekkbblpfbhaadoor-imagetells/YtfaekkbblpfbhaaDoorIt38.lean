/-
  The law on images: whether one may be, and its bytes, whatever it is.
-/
import Derived.Test.YtfaekkbblpfbhaaDoorProg
import Derived.WalkKit
import Derived.WalkSpells
import Derived.WalkLawsBesides
import Derived.RowKit3
import Derived.Below
import Derived.Deep.QuietTactic
import Derived.BigQuiet
import Derived.WalkSmall
import Derived.Laws.Rows
import Derived.Test.YtfaekkbblpfbhaaDoorIt28
import Derived.Test.YtfaekkbblpfbhaaDoorIt30
import Derived.Test.YtfaekkbblpfbhaaDoorIt29
import Derived.Test.YtfaekkbblpfbhaaDoorIt31
import Derived.Test.YtfaekkbblpfbhaaDoorIt32
import Derived.Test.YtfaekkbblpfbhaaDoorIt33
import Derived.Test.YtfaekkbblpfbhaaDoorIt37
namespace Go.Proofs.YtfaekkbblpfbhaaDoor
open Go.RowKit

set_option maxRecDepth 100000 in
set_option maxHeartbeats 4000000 in
theorem lawTells (A1 A2 : Option Addr) (c1 c2 : Nat) (text mem : List Int) (ent : Int) (w : World) (hG : Beg w) (hT : IntsAt w A1 .u32 text) (hM : IntsAt w A2 .i64 mem) (hR : ∀ i, i < text.length → 0 ≤ nth text i ∧ nth text i < 4294967296) (hR2 : ∀ i, i < mem.length → -9223372036854775808 ≤ nth mem i ∧ nth mem i < 9223372036854775808) :
    Calls Tryd.prog 3 #[.agg #[.slice A1 text.length c1, .int .i64 ent, .slice A2 mem.length c2]] w fun e w' => e = .returned (.bool true) ∧ Below w.heap.size w w' := by
  have LV := fun wx (hx : Below w.heap.size w wx) => lives_any wx (hG.below hx)
  have HB0 : Hid (Below w.heap.size w (w.alloc (.cells #[.slice A1 text.length c1, .int .i64 ent, .slice A2 mem.length c2] 25))) := lb_alloc (Below.refl _ _) _
  have hbx0 : Hid ((w.alloc (.cells #[.slice A1 text.length c1, .int .i64 ent, .slice A2 mem.length c2] 25)).heap[w.heap.size]? = some (.cells #[.slice A1 text.length c1, .int .i64 ent, .slice A2 mem.length c2] 25 (0, 0))) := heap_alloc_new _ _
  go_enter Tryd.func3, Tryd.ntmps3
  go_wp2_with fail
  refine (heavy_any A1 A2 text.length mem.length c1 c2 ent _).mono ?_
  rintro e w1 ⟨B, rfl, hv, hb1⟩
  have HB1 : Hid (Below w.heap.size w w1) := lb_trans HB0.out hb1
  have hbx1 : Hid _ := lb_box hbx0.out hb1
  obtain ⟨d0, d1, d2⟩ := box3_cell hbx1.out
  clear hb1
  cases B with
  | true =>
    clear hv
    go_wp2_with (go_at_call 7; refine (LV _ HB1.out).mono ?_; rintro e w2 ⟨rfl, hb2⟩)
    go_ret
    exact ⟨rfl, lb_trans HB1.out hb2⟩
  | false =>
    obtain ⟨bc, bd⟩ := hv rfl
    clear hv
    have hc : text.length ≤ 1048576 := by omega
    have hd : mem.length ≤ 1048576 := by omega
    go_wp2_with fail
    refine (wideimg_lies A1 A2 c1 c2 text mem ent _ (hT.keep HB1.out) (hM.keep HB1.out) hc hd).mono ?_
    rintro e w2 ⟨g1, g2, rfl, hb2, kT, m1, kM, m2⟩
    have HB2 : Hid (Below w.heap.size w w2) := lb_trans HB1.out hb2
    have hbx2 : Hid _ := lb_box hbx1.out hb2
    have HKT : Hid (IntsAt w2 (some ⟨g1, 0, none⟩) .u32 text) := kT
    have HKM : Hid (IntsAt w2 (some ⟨g2, 0, none⟩) .i64 mem) := kM
    have HM1 : Hid (MarkI w2 .u32 g1 text.length) := m1
    have HM2 : Hid (MarkI w2 .i64 g2 mem.length) := m2
    have hD3 : Hid (Below w2.heap.size w2 (w2.alloc (.cells #[.slice (some ⟨g1, 0, none⟩) text.length (text.length + 64), .int .i64 ent, .slice (some ⟨g2, 0, none⟩) mem.length (mem.length + 64)] 25))) := lb_alloc (Below.refl _ _) _
    have hin3 : Hid ((w2.alloc (.cells #[.slice (some ⟨g1, 0, none⟩) text.length (text.length + 64), .int .i64 ent, .slice (some ⟨g2, 0, none⟩) mem.length (mem.length + 64)] 25)).heap[w2.heap.size]? = some (.cells #[.slice (some ⟨g1, 0, none⟩) text.length (text.length + 64), .int .i64 ent, .slice (some ⟨g2, 0, none⟩) mem.length (mem.length + 64)] 25 (0, 0))) := heap_alloc_new _ _
    have K1 : Hid (∀ wx, Below w2.heap.size w2 wx → Calls Tryd.prog 9 #[.agg #[.slice (some ⟨g1, 0, none⟩) text.length (text.length + 64), .int .i64 ent, .slice (some ⟨g2, 0, none⟩) mem.length (mem.length + 64)]] wx (ChkP (checkI text mem.length ent).1 (checkI text mem.length ent).2 wx)) := fun wx h => check_any (some ⟨g1, 0, none⟩) (some ⟨g2, 0, none⟩) (text.length + 64) mem.length (mem.length + 64) ent text wx (HKT.out.keep h) hR hc hd
    have K2 : Hid (∀ wx, Below w.heap.size w wx → Calls Tryd.prog 10 #[.agg #[.slice A1 text.length c1, .int .i64 ent, .slice A2 mem.length c2]] wx (ChkP (checkI text mem.length ent).1 (checkI text mem.length ent).2 wx)) := fun wx h => refcheck_any A1 A2 c1 mem.length c2 ent text wx (hT.keep h) hR hc hd
    have hwl := wroteL_len text ent mem
    have W1 : Hid (∀ wx, Below w2.heap.size w2 wx → Calls Tryd.prog 11 #[.agg #[.slice (some ⟨g1, 0, none⟩) text.length (text.length + 64), .int .i64 ent, .slice (some ⟨g2, 0, none⟩) mem.length (mem.length + 64)]] wx (Wrote (wroteL text ent mem) (checkI text mem.length ent).1 wx)) := fun wx h => (write_any (some ⟨g1, 0, none⟩) (some ⟨g2, 0, none⟩) (text.length + 64) (mem.length + 64) text mem ent wx (hG.below (lb_trans HB2.out h)) (HKT.out.keep h) (HKM.out.keep h) hR hc hd).mono fun r w' h => wrote_all h
    have W2 : Hid (∀ wx, Below w.heap.size w wx → Calls Tryd.prog 12 #[.agg #[.slice A1 text.length c1, .int .i64 ent, .slice A2 mem.length c2]] wx (Wrote (wroteL text ent mem) (checkI text mem.length ent).1 wx)) := fun wx h => (refwrite_any A1 A2 c1 c2 text mem ent wx (hT.keep h) (hM.keep h) hR hR2 hc hd).mono fun r w' h => wrote_all h
    generalize wroteL text ent mem = l at hwl W1 W2
    generalize (checkI text mem.length ent).1 = E at W1 W2 K1 K2
    generalize (checkI text mem.length ent).2 = Nn at K1 K2
    have hE2 : (E != E) = false := by simp
    have hN2 : (Nn != Nn) = false := by simp
    clear hb2 kT kM m1 m2 d0 d1 d2
    go_wp2_with fail
    refine (K1.out _ hD3.out).mono ?_
    rintro r w3 ⟨rfl, hb3⟩
    have HD3 : Hid (Below w2.heap.size w2 w3) := lb_trans hD3.out hb3
    have HB3 : Hid (Below w.heap.size w w3) := lb_trans HB2.out HD3.out
    have hin4 : Hid _ := lb_box hin3.out hb3
    have hbx3 : Hid _ := lb_box hbx2.out HD3.out
    obtain ⟨d0, d1, d2⟩ := box3_cell hbx3.out
    clear hb3 hin3 hbx2
    go_wp2_with fail
    refine (K2.out _ HB3.out).mono ?_
    rintro r w4 ⟨rfl, hb4⟩
    have HD4 : Hid (Below w2.heap.size w2 w4) := lb_trans HD3.out hb4
    have hin5 : Hid _ := lb_box hin4.out hb4
    have hbx4 : Hid _ := lb_box hbx3.out hb4
    clear hb4 hin4 hbx3 d0 d1 d2
    obtain ⟨d0, d1, d2⟩ := box3_cell hin5.out
    go_wp2_with fail
    refine (W1.out _ HD4.out).mono ?_
    rintro r w5 ⟨Aa, ca, rfl, roa, ia, hb5⟩
    have HD5 : Hid (Below w2.heap.size w2 w5) := lb_trans HD4.out hb5
    have HRa : Hid (w5.ownsRow w.heap.size 5 1 (.slice Aa l.length ca) l.length (bNews l)) := ownsRow_mono roa (Nat.le_trans HB2.out.size HD4.out.size)
    have HIa : Hid (IntsAt w5 Aa .u8 l) := ia
    have hin6 : Hid _ := lb_box hin5.out hb5
    have hbx5 : Hid _ := lb_box hbx4.out hb5
    clear hb5 roa ia hin5 hbx4 d0 d1 d2
    obtain ⟨d0, d1, d2⟩ := box3_cell hin6.out
    go_wp2_with fail
    refine (W1.out _ HD5.out).mono ?_
    rintro r w6 ⟨Ab, cb, rfl, rob, ib, hb6⟩
    have HD6 : Hid (Below w2.heap.size w2 w6) := lb_trans HD5.out hb6
    have HB6 : Hid (Below w.heap.size w w6) := lb_trans HB2.out HD6.out
    have HOf : Hid (Off (Value.slice Aa l.length ca).ownBlock (Value.slice Ab l.length cb).ownBlock) := fun b h1 h2 => by
      have := own_lt HRa.out h1
      have := (rob.lt b h2).1
      omega
    have HRa6 : Hid (w6.ownsRow w.heap.size 5 1 (.slice Aa l.length ca) l.length (bNews l)) := row_keep HRa.out hb6
    have HRb6 : Hid (w6.ownsRow w.heap.size 5 1 (.slice Ab l.length cb) l.length (bNews l)) := ownsRow_mono rob (Nat.le_trans HB2.out.size HD5.out.size)
    have HIa6 : Hid (IntsAt w6 Aa .u8 l) := HIa.out.keep hb6
    have HIb6 : Hid (IntsAt w6 Ab .u8 l) := ib
    have hin7 : Hid _ := lb_box hin6.out hb6
    have hbx6 : Hid _ := lb_box hbx5.out hb6
    clear hb6 rob ib hin6 hbx5 HRa HIa d0 d1 d2
    obtain ⟨d0, d1, d2⟩ := box3_cell hbx6.out
    go_wp2_with fail
    refine (W2.out _ HB6.out).mono ?_
    rintro r w7 ⟨Ac, cc, rfl, roc, ic, hb7⟩
    have HD7 : Hid (Below w2.heap.size w2 w7) := lb_trans HD6.out hb7
    have HB7 : Hid (Below w.heap.size w w7) := lb_trans HB6.out hb7
    have HRa7 : Hid (w7.ownsRow w.heap.size 5 1 (.slice Aa l.length ca) l.length (bNews l)) := row_keep HRa6.out hb7
    have HRb7 : Hid (w7.ownsRow w.heap.size 5 1 (.slice Ab l.length cb) l.length (bNews l)) := row_keep HRb6.out hb7
    have HIa7 : Hid (IntsAt w7 Aa .u8 l) := HIa6.out.keep hb7
    have HIb7 : Hid (IntsAt w7 Ab .u8 l) := HIb6.out.keep hb7
    have HIc7 : Hid (IntsAt w7 Ac .u8 l) := ic
    have hin8 : Hid _ := lb_box hin7.out hb7
    have hbx7 : Hid _ := lb_box hbx6.out hb7
    have E1 := fun wx (h : Below w7.heap.size w7 wx) => eqbytes_any Aa Ac ca cc l l wx (HIa7.out.keep h) (HIc7.out.keep h) (by omega)
    have E2 := fun wx (h : Below w7.heap.size w7 wx) => eqbytes_any Ab Ac cb cc l l wx (HIb7.out.keep h) (HIc7.out.keep h) (by omega)
    simp only [decide_true] at E1 E2
    clear hb7 roc ic hin7 hbx6 HRa6 HRb6 HIa6 HIb6 d0 d1 d2 W1 W2 K1 K2
    go_wp2_with fail
    refine (E1 _ (Below.refl _ _)).mono ?_
    rintro r w8 ⟨rfl, hb8⟩
    have H78 : Hid (Below w7.heap.size w7 w8) := hb8
    clear hb8 E1
    go_wp2_with fail
    refine (E2 _ H78.out).mono ?_
    rintro r w9 ⟨rfl, hb9⟩
    have H79 : Hid (Below w7.heap.size w7 w9) := lb_trans H78.out hb9
    have HD9 : Hid (Below w2.heap.size w2 w9) := lb_trans HD7.out H79.out
    have HB9 : Hid (Below w.heap.size w w9) := lb_trans HB7.out H79.out
    have hin9 : Hid _ := lb_box hin8.out H79.out
    have hbx9 : Hid _ := lb_box hbx7.out H79.out
    obtain ⟨d0, d1, d2⟩ := box3_cell hin9.out
    obtain ⟨e0, e1, e2⟩ := box3_cell hbx9.out
    clear hb9 E2 hin8 hbx7 H78
    go_wp2_with fail
    refine (eqimg_same (some ⟨g1, 0, none⟩) (some ⟨g2, 0, none⟩) A1 A2 (text.length + 64) (mem.length + 64) c1 c2 text mem ent _ (HKT.out.keep HD9.out) (HKM.out.keep HD9.out) (hT.keep HB9.out) (hM.keep HB9.out) hc hd).mono ?_
    rintro r wa ⟨rfl, hba⟩
    have HDa : Hid (Below w2.heap.size w2 wa) := lb_trans HD9.out hba
    have H7a : Hid (Below w7.heap.size w7 wa) := lb_trans H79.out hba
    have hina : Hid _ := lb_box hin9.out hba
    clear d0 d1 d2 e0 e1 e2
    obtain ⟨d0, d1, d2⟩ := box3_cell hina.out
    clear hba hin9 hbx9 H79
    go_wp2_with fail
    refine (spareimg_any ent g1 text.length g2 mem.length _ (HM1.out.keep HDa.out) (HM2.out.keep HDa.out) hc hd).mono ?_
    rintro r wb ⟨rfl, hbb⟩
    have H7b : Hid (Below w7.heap.size w7 wb) := lb_trans H7a.out hbb
    have HBb : Hid (Below w.heap.size w wb) := lb_trans HB7.out H7b.out
    have HRab : Hid (wb.ownsRow w.heap.size 5 1 (.slice Aa l.length ca) l.length (bNews l)) := row_keep HRa7.out H7b.out
    have HRbb : Hid (wb.ownsRow w.heap.size 5 1 (.slice Ab l.length cb) l.length (bNews l)) := row_keep HRb7.out H7b.out
    have HGb : Hid (BagIs (wb.alloc (.cells #[.slice none 0 0, .slice none 0 0, .slice none 0 0, .slice none 0 0, .slice none 0 0, .slice none 0 0, .slice none 0 0, .slice none 0 0, .slice none 0 0, .slice none 0 0, .slice none 0 0, .slice none 0 0, .slice none 0 0, .slice none 0 0, .slice none 0 0, .slice none 0 0, .slice none 0 0] 56)) wb.heap.size (fun _ => .slice none 0 0)) := bag_new wb
    have HNb : Hid (Below wb.heap.size wb (wb.alloc (.cells #[.slice none 0 0, .slice none 0 0, .slice none 0 0, .slice none 0 0, .slice none 0 0, .slice none 0 0, .slice none 0 0, .slice none 0 0, .slice none 0 0, .slice none 0 0, .slice none 0 0, .slice none 0 0, .slice none 0 0, .slice none 0 0, .slice none 0 0, .slice none 0 0, .slice none 0 0] 56))) := lb_alloc (Below.refl _ _) _
    clear hbb hina H7a HRa7 HRb7 HIa7 HIb7 HIc7 d0 d1 d2 HKT HKM HM1 HM2 HD3 HD4 HD5 HD6 HD7 HD9 HDa
    go_wp2_with fail
    refine (addbytes_any wb.heap.size wb.heap.size _ [] Aa l.length ca _ (Nat.le_refl _) HGb.out (World.ownsRow_nil _ _ _ _) (by simp)).mono ?_
    rintro r wc ⟨rfl, V1, hg1, ho1, hb1, -⟩
    have HGc : Hid (BagIs wc wb.heap.size (upd (fun _ => .slice none 0 0) 0 V1)) := hg1
    have HOc : Hid (wc.ownsRow wb.heap.size 32 1 V1 1 [.slice Aa l.length ca]) := ho1
    have HNc : Hid (Below wb.heap.size wb wc) := Below.trans HNb.out hb1
    clear hg1 ho1 hb1 HGb HNb
    go_wp2_with fail
    refine (addbytes_any wb.heap.size wb.heap.size _ [.slice Aa l.length ca] Ab l.length cb _ (Nat.le_refl _) HGc.out HOc.out (by simp)).mono ?_
    rintro r wd ⟨rfl, V2, hg2, ho2, hb2, -⟩
    have HGd : Hid (BagIs wd wb.heap.size (upd (upd (fun _ => .slice none 0 0) 0 V1) 0 V2)) := hg2
    have HOd : Hid (wd.ownsRow wb.heap.size 32 1 V2 2 [.slice Aa l.length ca, .slice Ab l.length cb]) := ho2
    have HNd : Hid (Below wb.heap.size wb wd) := Below.trans HNc.out hb2
    have HBd : Hid (Below w.heap.size w wd) := lb_trans HBb.out HNd.out
    have HRad : Hid (wd.ownsRow w.heap.size 5 1 (.slice Aa l.length ca) l.length (bNews l)) := row_keep HRab.out HNd.out
    have HRbd : Hid (wd.ownsRow w.heap.size 5 1 (.slice Ab l.length cb) l.length (bNews l)) := row_keep HRbb.out HNd.out
    have AP : Hid _ := apartB wb.heap.size _ [(.slice Aa l.length ca, l.length), (.slice Ab l.length cb, l.length)] wd HGd.out (ownsRow_mono HOd.out (Nat.zero_le _)) (fun k h1 h2 => by unfold upd; rw [if_neg (by omega), if_neg (by omega)])
      (two_all ⟨_, ownsRow_mono HRad.out (Nat.zero_le _)⟩ ⟨_, ownsRow_mono HRbd.out (Nat.zero_le _)⟩) (sep_two HOf.out) (by simp) (rl_two (by omega) (by omega))
    have HQ : Hid (∀ m, m < 2 → ∀ b, (rv [(.slice Aa l.length ca, l.length), (.slice Ab l.length cb, l.length)] m).ownBlock = some b → w.heap.size ≤ b) := two_all (fun b hb => (HRad.out.lt b hb).1) (fun b hb => (HRbd.out.lt b hb).1)
    clear hg2 ho2 hb2 HGc HOc HNc HOd HRab HRbb HRad HRbd HOf HGd
    go_wp2_with fail
    refine (Calls.mono AP.out ?_)
    rintro r we ⟨rfl, hfr⟩
    have HBe : Hid (Below w.heap.size w we) := hfr.below HBd.out HBd.out.size HQ.out
    clear hfr AP
    go_wp2_with fail
    refine (LV _ HBe.out).mono ?_
    rintro r wf ⟨rfl, hbf⟩
    have HBf : Hid (Below w.heap.size w wf) := lb_trans HBe.out hbf
    clear hbf
    go_wp2
    go_ret
    exact ⟨rfl, HBf.out⟩

end Go.Proofs.YtfaekkbblpfbhaaDoor
