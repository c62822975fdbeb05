/-
  The statements' own small run. The law on images there and back, whatever they are.
-/
import Derived.Test.YtfaekkbblpfbhaaDoorProg
import Derived.WalkKit
import Derived.WalkSpells
import Derived.WalkLawsBesides
import Derived.RowKit3
import Derived.Below
import Derived.Deep.QuietTactic
import Derived.BigQuiet
import Derived.WalkSmall
import Derived.Laws.Rows
import Derived.Test.YtfaekkbblpfbhaaDoorIo23
import Derived.Test.YtfaekkbblpfbhaaDoorIo32
import Derived.Test.YtfaekkbblpfbhaaDoorIo27
import Derived.Test.YtfaekkbblpfbhaaDoorIo26
import Derived.Test.YtfaekkbblpfbhaaDoorIo17
import Derived.Test.YtfaekkbblpfbhaaDoorIo19
namespace Go.Proofs.YtfaekkbblpfbhaaDoor
open Go.RowKit

set_option maxRecDepth 100000 in
set_option maxHeartbeats 2000000 in
theorem lives_any (w : World) (hG : Beg w) : Calls Tryd.prog 7 #[] w fun e w' => e = .returned (.bool true) ∧ Below w.heap.size w w' := by
  have HK1 : Hid ((checkI haltC ([] : List Int).length 0).1 = 0) := by show (checkI haltC 0 0).1 = 0; rw [halt_check]
  have HL : Hid ((bytesI haltC 0 []).length = 24) := by rw [Hid, bytesI_len]; rfl
  obtain ⟨w0, hw0⟩ : ∃ w0, Hid ((w.alloc (.cells #[.int .u32 2818572288] 61)).alloc (.cells #[.slice (some ⟨w.heap.size, 0, none⟩) 1 1, .int .i64 0, .slice none 0 0] 25) = w0) := ⟨_, rfl⟩
  have HB0 : Hid (Below w.heap.size w w0) := by rw [Hid, ← hw0.out]; exact lb_alloc (lb_alloc (Below.refl _ _) _) _
  have HX0 : Hid (w0.heap[w.heap.size + 1]? = some (.cells #[.slice (some ⟨w.heap.size, 0, none⟩) 1 1, .int .i64 0, .slice none 0 0] 25 (0, 0))) := by rw [Hid, ← hw0.out]; exact new_at (by simp)
  have HC0 : Hid (IntsAt w0 (some ⟨w.heap.size, 0, none⟩) .u32 haltC) := fun i hi => by
    refine ⟨_, rfl, ?_⟩
    rw [← hw0.out, add0]
    have : i = 0 := by simp [haltC] at hi; omega
    subst this
    simp [go_sem, haltC, nth]
  have C1 := check_any (some ⟨w.heap.size, 0, none⟩) none 1 0 0 0 haltC ((w.alloc (.cells #[.int .u32 2818572288] 61)).alloc (.cells #[.slice (some ⟨w.heap.size, 0, none⟩) 1 1, .int .i64 0, .slice none 0 0] 25)) (by rw [hw0.out]; exact HC0.out) halt_range (by simp [haltC]) (by omega)
  rw [halt_check] at C1
  go_enter Tryd.func7, Tryd.ntmps7
  go_wp2_with fail
  refine C1.mono ?_
  rintro e w1 ⟨rfl, hb⟩
  rw [hw0.out] at hb
  have HB1 : Hid (Below w.heap.size w w1) := lb_trans HB0.out hb
  have HX1 : Hid _ := lb_box HX0.out hb
  have HC1 : Hid (IntsAt w1 (some ⟨w.heap.size, 0, none⟩) .u32 haltC) := HC0.out.keep hb
  obtain ⟨x0, x1, x2⟩ := box3_cell HX1.out
  clear hb C1 hw0
  go_wp2_with fail
  refine (write_any (some ⟨w.heap.size, 0, none⟩) none 1 0 haltC [] 0 _ (hG.below HB1.out) HC1.out (no_ints _ _) halt_range (by simp [haltC]) (by simp)).mono ?_
  intro r w2 hr
  obtain ⟨A, c, rfl, _, hI, hcap, hb⟩ := wrote_ok hr HK1.out
  have HB2 : Hid (Below w.heap.size w w2) := lb_trans HB1.out hb
  have HX2 : Hid _ := lb_box HX1.out hb
  have HC2 : Hid (IntsAt w2 (some ⟨w.heap.size, 0, none⟩) .u32 haltC) := HC1.out.keep hb
  have HI : Hid (IntsAt w2 A .u8 (bytesI haltC 0 [])) := hI
  have HCap : Hid _ := hcap
  clear hr hb hI hcap x0 x1 x2 HX1 HC1
  go_wp2_with fail
  refine (read_any A c (bytesI haltC 0 []) _ (hG.below HB2.out) HI.out (bytesI_areB _ _ _) (by rw [HL.out]; omega) HCap.out).mono ?_
  intro r w3 hr
  obtain ⟨A1, A2, c1, c2, rfl, rows, hb⟩ := read_ok hr HK1.out halt_range (fun i hi => by simp at hi)
  have HB3 : Hid (Below w.heap.size w (w3.alloc (.cells #[.slice A1 haltC.length c1, .int .i64 0, .slice A2 ([] : List Int).length c2] 25))) := lb_alloc (lb_trans HB2.out hb) _
  have HX3 : Hid _ := lb_box HX2.out (lb_alloc hb (.cells #[.slice A1 haltC.length c1, .int .i64 0, .slice A2 ([] : List Int).length c2] 25))
  have HY3 : Hid ((w3.alloc (.cells #[.slice A1 haltC.length c1, .int .i64 0, .slice A2 ([] : List Int).length c2] 25)).heap[w3.heap.size]? = some (.cells #[.slice A1 haltC.length c1, .int .i64 0, .slice A2 ([] : List Int).length c2] 25 (0, 0))) := heap_alloc_new _ _
  have HC3 : Hid (IntsAt (w3.alloc (.cells #[.slice A1 haltC.length c1, .int .i64 0, .slice A2 ([] : List Int).length c2] 25)) (some ⟨w.heap.size, 0, none⟩) .u32 haltC) := HC2.out.keep (lb_alloc hb (.cells #[.slice A1 haltC.length c1, .int .i64 0, .slice A2 ([] : List Int).length c2] 25))
  have HR3 : Hid _ := rows.keep (lb_alloc (Below.refl _ _) (.cells #[.slice A1 haltC.length c1, .int .i64 0, .slice A2 ([] : List Int).length c2] 25))
  rw [HL.out]
  have C4 := fun wx => check_any none none 0 0 0 0 [] wx (no_ints _ _) (fun i hi => by simp at hi) (by simp) (by omega)
  rw [nil_check] at C4
  clear hr hb rows HX2 HC2 HI HCap
  go_wp2_with fail
  refine (C4 _).mono ?_
  rintro e w4 ⟨rfl, hb⟩
  have HB4 : Hid (Below w.heap.size w w4) := lb_trans HB3.out hb
  have HX4 : Hid _ := lb_box HX3.out hb
  have HY4 : Hid _ := lb_box HY3.out hb
  have HC4 : Hid (IntsAt w4 (some ⟨w.heap.size, 0, none⟩) .u32 haltC) := HC3.out.keep hb
  have HR4 : Hid _ := HR3.out.keep hb
  obtain ⟨x0, x1, x2⟩ := box3_cell HX4.out
  obtain ⟨y0, y1, y2⟩ := box3_cell HY4.out
  clear hb C4 HX3 HY3 HC3 HR3
  go_wp2_with fail
  refine (eqimg_same A1 A2 (some ⟨w.heap.size, 0, none⟩) none c1 c2 1 0 haltC [] 0 _ (row_ints HR4.out.r1) (row_ints HR4.out.r2) HC4.out (no_ints _ _) (by simp [haltC]) (by simp)).mono ?_
  rintro e w5 ⟨rfl, hb⟩
  have HB5 : Hid (Below w.heap.size w w5) := lb_trans HB4.out hb
  clear hb
  go_wp2
  go_ret
  exact ⟨rfl, HB5.out⟩

end Go.Proofs.YtfaekkbblpfbhaaDoor

namespace Go.Proofs.YtfaekkbblpfbhaaDoor
open Go.RowKit

set_option maxRecDepth 100000 in
set_option maxHeartbeats 8000000 in
theorem lawRound (A1 A2 : Option Addr) (c1 c2 : Nat) (text mem : List Int) (ent pl tb : Int) (w : World) (hG : Beg w) (hT : IntsAt w A1 .u32 text) (hM : IntsAt w A2 .i64 mem) (hR : ∀ i, i < text.length → 0 ≤ nth text i ∧ nth text i < 4294967296) (hR2 : ∀ i, i < mem.length → -9223372036854775808 ≤ nth mem i ∧ nth mem i < 9223372036854775808)
    (u1 : A1 = none → c1 = 0) (u2 : A2 = none → c2 = 0) (ht : 0 ≤ tb ∧ tb < 256) :
    Calls Tryd.prog 5 #[.agg #[.slice A1 text.length c1, .int .i64 ent, .slice A2 mem.length c2], .int .i64 pl, .int .u8 tb] w fun e w' => e = .returned (.bool true) ∧ Below w.heap.size w w' := by
  have LV := fun wx (hx : Below w.heap.size w wx) => lives_any wx (hG.below hx)
  have HB0 : Hid (Below w.heap.size w (w.alloc (.cells #[.slice A1 text.length c1, .int .i64 ent, .slice A2 mem.length c2] 25))) := lb_alloc (Below.refl _ _) _
  have hbx0 : Hid ((w.alloc (.cells #[.slice A1 text.length c1, .int .i64 ent, .slice A2 mem.length c2] 25)).heap[w.heap.size]? = some (.cells #[.slice A1 text.length c1, .int .i64 ent, .slice A2 mem.length c2] 25 (0, 0))) := heap_alloc_new _ _
  go_enter Tryd.func5, Tryd.ntmps5
  go_wp2_with fail
  refine (heavy_any A1 A2 text.length mem.length c1 c2 ent _).mono ?_
  rintro e w1 ⟨B, rfl, hv, hb1⟩
  have HB1 : Hid (Below w.heap.size w w1) := lb_trans HB0.out hb1
  have hbx1 : Hid _ := lb_box hbx0.out hb1
  obtain ⟨d0, d1, d2⟩ := box3_cell hbx1.out
  clear hb1
  cases B with
  | true =>
    clear hv
    go_wp2_with (go_at_call 7; refine (LV _ HB1.out).mono ?_; rintro e w2 ⟨rfl, hb2⟩)
    go_ret
    exact ⟨rfl, lb_trans HB1.out hb2⟩
  | false =>
    obtain ⟨bc, bd⟩ := hv rfl
    clear hv
    have hc : text.length ≤ 1048576 := by omega
    have hd : mem.length ≤ 1048576 := by omega
    have CP : Hid (∀ wx, Below w.heap.size w wx → Calls Tryd.prog 25 #[.agg #[.slice A1 text.length c1, .int .i64 ent, .slice A2 mem.length c2]] wx (CopyI text mem ent wx)) := fun wx h => copyimg_any A1 A2 c1 c2 text mem ent wx (hT.keep h) (hM.keep h) u1 u2 hc hd
    go_wp2_with fail
    refine (CP.out _ HB1.out).mono ?_
    rintro r w2 ⟨Y1, Y2, y1, y2, rfl, rows, hb2⟩
    have HB2 : Hid (Below w.heap.size w w2) := lb_trans HB1.out hb2
    have hbx2 : Hid _ := lb_box hbx1.out hb2
    have KW := write_any Y1 Y2 y1 y2 text mem ent w2 (hG.below HB2.out) (row_ints rows.r1) (row_ints rows.r2) hR hc hd
    clear rows hb2
    go_wp2_with fail
    refine KW.mono ?_
    intro r w3 hr
    by_cases hk : (checkI text mem.length ent).1 = 0
    · obtain ⟨Ab, cb, rfl, _, hIb, hcb, hb3⟩ := wrote_ok hr hk
      have hub : Hid (Ab = none → cb = 0) := wrote_nil hr hk
      have hmay := check_mayI hk
      have hlen : (bytesI text ent mem).length ≤ 300000 := by
        rw [bytesI_len]
        have := hmay.past.len
        have := hmay.past.mem
        omega
      have he0 := hmay.past.ent0
      have he1 := hmay.past.ent1
      have HMay : Hid _ := hmay
      have HK : Hid _ := hk
      have HB3 : Hid (Below w.heap.size w w3) := lb_trans HB2.out hb3
      have hbx3 : Hid _ := lb_box hbx2.out hb3
      have HIb : Hid (IntsAt w3 Ab .u8 (bytesI text ent mem)) := hIb
      clear hr hb3 hIb KW hk hmay d0 d1 d2
      go_wp2_with fail
      refine (copybytes_any Ab cb (bytesI text ent mem) _ HIb.out hub.out (by omega)).mono ?_
      intro r w4 hr
      obtain ⟨Ac, cc, rfl, _, hIc, hcc, hb4⟩ := bcopied hr
      have HB4 : Hid (Below w.heap.size w w4) := lb_trans HB3.out hb4
      have hbx4 : Hid _ := lb_box hbx3.out hb4
      have HIb4 : Hid (IntsAt w4 Ab .u8 (bytesI text ent mem)) := HIb.out.keep hb4
      have HIc : Hid (IntsAt w4 Ac .u8 (bytesI text ent mem)) := hIc
      clear hr hb4 hIc HIb
      go_wp2_with fail
      refine (read_any Ac cc (bytesI text ent mem) _ (hG.below HB4.out) HIc.out (bytesI_areB _ _ _) (by omega) hcc).mono ?_
      intro r w5 hr
      obtain ⟨Z1, Z2, z1, z2, rfl, rows, hb5⟩ := read_ok hr HK.out hR hR2
      have HB5 : Hid (Below w.heap.size w (w5.alloc (.cells #[.slice Z1 text.length z1, .int .i64 ent, .slice Z2 mem.length z2] 25))) := lb_alloc (lb_trans HB4.out hb5) _
      have hbx5 : Hid _ := lb_box hbx4.out (lb_alloc hb5 (.cells #[.slice Z1 text.length z1, .int .i64 ent, .slice Z2 mem.length z2] 25))
      have hby5 : Hid ((w5.alloc (.cells #[.slice Z1 text.length z1, .int .i64 ent, .slice Z2 mem.length z2] 25)).heap[w5.heap.size]? = some (.cells #[.slice Z1 text.length z1, .int .i64 ent, .slice Z2 mem.length z2] 25 (0, 0))) := heap_alloc_new _ _
      have HIb5 : Hid (IntsAt (w5.alloc (.cells #[.slice Z1 text.length z1, .int .i64 ent, .slice Z2 mem.length z2] 25)) Ab .u8 (bytesI text ent mem)) := HIb4.out.keep (lb_alloc hb5 _)
      have R5 : Hid _ := rows.keep (lb_alloc (Below.refl _ w5) (.cells #[.slice Z1 text.length z1, .int .i64 ent, .slice Z2 mem.length z2] 25))
      obtain ⟨d0, d1, d2⟩ := box3_cell hbx5.out
      obtain ⟨q0, q1, q2⟩ := box3_cell hby5.out
      clear hr hb5 rows HIb4 HIc
      go_wp2_with fail
      refine (eqimg_same Z1 Z2 A1 A2 z1 z2 c1 c2 text mem ent _ (row_ints R5.out.r1) (row_ints R5.out.r2) (hT.keep HB5.out) (hM.keep HB5.out) hc hd).mono ?_
      rintro e w6 ⟨rfl, hb6⟩
      have HB6 : Hid (Below w.heap.size w w6) := lb_trans HB5.out hb6
      have hbx6 : Hid _ := lb_box hbx5.out hb6
      have HIb6 : Hid (IntsAt w6 Ab .u8 (bytesI text ent mem)) := HIb5.out.keep hb6
      clear hb6 d0 d1 d2 q0 q1 q2 HIb5 R5
      obtain ⟨d0, d1, d2⟩ := box3_cell hbx6.out
      go_wp2
      go_loopw [14] (fun i wr => ∃ k : Nat, i = .int .i64 k ∧ k ≤ text.length ∧ Hid (Below w6.heap.size w6 wr)) (fun i _ => text.length - (intOf i).toNat)
      case atStart => exact ⟨0, rfl, Nat.zero_le _, Below.refl _ _⟩
      case round =>
        clear d0 d1 d2
        obtain ⟨k, rfl, hkl, Hr⟩ := hrel
        have HBr : Hid (Below w.heap.size w wr) := lb_trans HB6.out Hr.out
        have hbxr : Hid _ := lb_box hbx6.out Hr.out
        obtain ⟨d0, d1, d2⟩ := box3_cell hbxr.out
        by_cases hlt : k < text.length
        · obtain ⟨a, ea, q⟩ := (hT.keep HBr.out) k hlt
          obtain ⟨hv0, hv1⟩ := hR k hlt
          have T1 := isatarget_any (nth text k) hv0 hv1 wr
          have F1 := fun wx => isafalls_any (nth text k) hv0 hv1 wx
          have D1 := fun wx => isadecode_any (nth text k) hv0 hv1 wx
          have HF : Hid (isT (nth text k) = true → 0 ≤ tgV (nth text k) ∧ tgV (nth text k) < text.length) := fun h => ⟨tg_pos h, far_in (HMay.out.far k hlt) h⟩
          have HLt : Hid (k + 1 = text.length → (!endsB (dOp (nth text k)) || dOp (nth text k) == 16) = false ∧ (dOp (nth text k) == 17) = false ∧ (dOp (nth text k) == 18) = false) := fun h => last_ends (by have := HMay.out.last; rwa [show text.length - 1 = k by omega] at this)
          generalize nth text k = v at *
          generalize isT v = tt at *
          generalize tgV v = tz at *
          generalize hfl : (!endsB (dOp v) || dOp v == 16) = fl at *
          clear hfl
          generalize dOp v = x at *
          generalize dD v = x1 at *
          generalize dA v = x2 at *
          generalize dB v = x3 at *
          generalize dN v = x4 at *
          subst ea
          by_cases hla : k + 1 = text.length
          · obtain ⟨rfl, h17, h18⟩ := HLt.out hla
            have hlb : ((k : Int) + 1 == (text.length : Int)) = true := by simp; omega
            cases tt with
            | true =>
              obtain ⟨hz0, hz1⟩ := HF.out rfl
              go_wp2_with fail
              refine T1.mono ?_
              rintro e w7 ⟨rfl, hb7⟩
              have Hr7 : Hid (Below w6.heap.size w6 w7) := lb_trans Hr.out hb7
              have q7 := lkeep hb7 q
              have hbx7 : Hid _ := lb_box hbxr.out hb7
              clear d0 d1 d2 hb7
              obtain ⟨d0, d1, d2⟩ := box3_cell hbx7.out
              go_wp2_with fail
              refine (F1 _).mono ?_
              rintro e w8 ⟨rfl, hb8⟩
              have Hr8 : Hid (Below w6.heap.size w6 w8) := lb_trans Hr7.out hb8
              have q8 := lkeep hb8 q7
              have hbx8 : Hid _ := lb_box hbx7.out hb8
              clear d0 d1 d2 hb8
              obtain ⟨d0, d1, d2⟩ := box3_cell hbx8.out
              go_wp2_with fail
              refine (D1 _).mono ?_
              rintro e w9 ⟨rfl, hb9⟩
              have Hr9 : Hid (Below w6.heap.size w6 w9) := lb_trans Hr8.out hb9
              clear hb9
              go_wp2
              go_roundw
              case rel => exact ⟨k + 1, by go_num, by omega, Hr9⟩
              case measure => simp [intOf]; omega
            | false =>
              go_wp2_with fail
              refine T1.mono ?_
              rintro e w7 ⟨rfl, hb7⟩
              have Hr7 : Hid (Below w6.heap.size w6 w7) := lb_trans Hr.out hb7
              have q7 := lkeep hb7 q
              have hbx7 : Hid _ := lb_box hbxr.out hb7
              clear d0 d1 d2 hb7
              obtain ⟨d0, d1, d2⟩ := box3_cell hbx7.out
              go_wp2_with fail
              refine (F1 _).mono ?_
              rintro e w8 ⟨rfl, hb8⟩
              have Hr8 : Hid (Below w6.heap.size w6 w8) := lb_trans Hr7.out hb8
              have q8 := lkeep hb8 q7
              have hbx8 : Hid _ := lb_box hbx7.out hb8
              clear d0 d1 d2 hb8
              obtain ⟨d0, d1, d2⟩ := box3_cell hbx8.out
              go_wp2_with fail
              refine (D1 _).mono ?_
              rintro e w9 ⟨rfl, hb9⟩
              have Hr9 : Hid (Below w6.heap.size w6 w9) := lb_trans Hr8.out hb9
              clear hb9
              go_wp2
              go_roundw
              case rel => exact ⟨k + 1, by go_num, by omega, Hr9⟩
              case measure => simp [intOf]; omega
          · have hlb : ((k : Int) + 1 == (text.length : Int)) = false := by simp; omega
            cases tt with
            | true =>
              obtain ⟨hz0, hz1⟩ := HF.out rfl
              go_wp2_with fail
              refine T1.mono ?_
              rintro e w7 ⟨rfl, hb7⟩
              have Hr7 : Hid (Below w6.heap.size w6 w7) := lb_trans Hr.out hb7
              have q7 := lkeep hb7 q
              have hbx7 : Hid _ := lb_box hbxr.out hb7
              clear d0 d1 d2 hb7
              obtain ⟨d0, d1, d2⟩ := box3_cell hbx7.out
              go_wp2_with fail
              refine (D1 _).mono ?_
              rintro e w9 ⟨rfl, hb9⟩
              have Hr9 : Hid (Below w6.heap.size w6 w9) := lb_trans Hr7.out hb9
              clear hb9
              go_wp2
              go_roundw
              case rel => exact ⟨k + 1, by go_num, by omega, Hr9⟩
              case measure => simp [intOf]; omega
            | false =>
              go_wp2_with fail
              refine T1.mono ?_
              rintro e w7 ⟨rfl, hb7⟩
              have Hr7 : Hid (Below w6.heap.size w6 w7) := lb_trans Hr.out hb7
              have q7 := lkeep hb7 q
              have hbx7 : Hid _ := lb_box hbxr.out hb7
              clear d0 d1 d2 hb7
              obtain ⟨d0, d1, d2⟩ := box3_cell hbx7.out
              go_wp2_with fail
              refine (D1 _).mono ?_
              rintro e w9 ⟨rfl, hb9⟩
              have Hr9 : Hid (Below w6.heap.size w6 w9) := lb_trans Hr7.out hb9
              clear hb9
              go_wp2
              go_roundw
              case rel => exact ⟨k + 1, by go_num, by omega, Hr9⟩
              case measure => simp [intOf]; omega
        · have HIbr : Hid (IntsAt wr Ab .u8 (bytesI text ent mem)) := HIb6.out.keep Hr.out
          by_cases hp0 : pl < 0
          · go_wp2_with (go_at_call 7; refine (LV _ HBr.out).mono ?_; rintro e w12 ⟨rfl, hb12⟩)
            go_ret
            exact ⟨rfl, lb_trans HBr.out hb12⟩
          by_cases hp1 : ((bytesI text ent mem).length : Int) ≤ pl
          · go_wp2_with (go_at_call 7; refine (LV _ HBr.out).mono ?_; rintro e w12 ⟨rfl, hb12⟩)
            go_ret
            exact ⟨rfl, lb_trans HBr.out hb12⟩
          obtain ⟨i, rfl⟩ := Int.eq_ofNat_of_zero_le (show 0 ≤ pl by omega)
          have hi : i < (bytesI text ent mem).length := by omega
          obtain ⟨a, rfl, q⟩ := HIbr.out i hi
          by_cases hq : nth (bytesI text ent mem) i = tb
          · have hqe : (nth (bytesI text ent mem) i == tb) = true := by simpa using hq
            clear hq
            go_wp2_with (go_at_call 7; refine (LV _ HBr.out).mono ?_; rintro e w12 ⟨rfl, hb12⟩)
            go_ret
            exact ⟨rfl, lb_trans HBr.out hb12⟩
          have HQ : Hid _ := hq
          have hqe : (nth (bytesI text ent mem) i == tb) = false := by simpa using hq
          clear hq
          go_wp2_with fail
          refine (copybytes_any (some a) cb (bytesI text ent mem) _ HIbr.out hub.out (by omega)).mono ?_
          intro r w12 hr
          obtain ⟨Ad, cd, rfl, ho, _, hcd, hb12⟩ := bcopied hr
          obtain ⟨gd, capd, hAd, _, hgd⟩ := ho.form (by omega)
          cases hAd
          have HB12 : Hid (Below w.heap.size w w12) := lb_trans HBr.out hb12
          have hcl : w12.cell? ⟨gd, i, none⟩ = some (.int .u8 (nth (bytesI text ent mem) i)) := by
            have := ho.cells rfl i _ (iVals_get hi)
            rwa [add0] at this
          have hfr := ho.frozenAt i
          obtain ⟨hst, hsg⟩ := ho.stored i (.int .u8 tb)
          rw [← iVals_set] at hst
          have HI13 : Hid (IntsAt (w12.setCell ⟨gd, i, none⟩ (.int .u8 tb)) (some ⟨gd, 0, none⟩) .u8 ((bytesI text ent mem).set i tb)) := row_ints (by rw [List.length_set]; exact hst)
          have hlt12 := ho.lt gd rfl
          have HB13 : Hid (Below w.heap.size w (w12.setCell ⟨gd, i, none⟩ (.int .u8 tb))) := HB12.out.setCell (by have := HBr.out.size; show w.heap.size ≤ gd; omega) _
          have had : (⟨gd, 0, none⟩ : Addr).add i = ⟨gd, i, none⟩ := add0 gd i
          have RD := read_any (some ⟨gd, 0, none⟩) cd ((bytesI text ent mem).set i tb) _ (hG.below HB13.out) HI13.out (set_areB (bytesI_areB _ _ _) ht) (by rw [List.length_set]; omega) (by rw [List.length_set]; exact hcd)
          rw [List.length_set] at RD
          clear hr ho hb12 hst hsg q HIbr
          go_wp2_with fail
          refine RD.mono ?_
          intro r w13 hr
          obtain ⟨E2, N2, hE2, rfl, hb13⟩ := changed hi ht HQ.out hr
          have hEb : (E2 != 0) = true := by simpa using hE2
          have HB14 : Hid (Below w.heap.size w (w13.alloc (.cells #[.slice none 0 0, .int .i64 0, .slice none 0 0] 25))) := lb_alloc (lb_trans HB13.out hb13) _
          clear hr hE2 hb13 RD
          go_wp2_with (go_at_call 7; refine (LV _ HB14.out).mono ?_; rintro e w14 ⟨rfl, hb14⟩)
          go_ret
          exact ⟨rfl, lb_trans HB14.out hb14⟩
    · obtain ⟨rfl, hb3⟩ := wrote_no hr hk
      have HB3 : Hid (Below w.heap.size w w3) := lb_trans HB2.out hb3
      have hbx3 : Hid _ := lb_box hbx2.out hb3
      have hkb : ((checkI text mem.length ent).1 != 0) = true := by simpa using hk
      have hkc : ((checkI text mem.length ent).1 == (checkI text mem.length ent).1) = true := by simp
      have KC : Hid (∀ (Y1 Y2 : Option Addr) (y1 y2 : Nat) wx, IntsAt wx Y1 .u32 text → Calls Tryd.prog 9 #[.agg #[.slice Y1 text.length y1, .int .i64 ent, .slice Y2 mem.length y2]] wx (ChkP (checkI text mem.length ent).1 (checkI text mem.length ent).2 wx)) := fun Y1 Y2 y1 y2 wx h => check_any Y1 Y2 y1 mem.length y2 ent text wx h hR hc hd
      clear hr hb3 KW hk d0 d1 d2
      obtain ⟨d0, d1, d2⟩ := box3_cell hbx3.out
      generalize (checkI text mem.length ent).1 = E at *
      generalize (checkI text mem.length ent).2 = Nn at *
      go_wp2_with fail
      refine (CP.out _ HB3.out).mono ?_
      rintro r w4 ⟨Y1, Y2, y1, y2, rfl, rows, hb4⟩
      have HB4 : Hid (Below w.heap.size w w4) := lb_trans HB3.out hb4
      have K := KC.out Y1 Y2 y1 y2 w4 (row_ints rows.r1)
      clear rows hb4 d0 d1 d2
      go_wp2_with fail
      refine K.mono ?_
      rintro r w5 ⟨rfl, hb5⟩
      have HB5 : Hid (Below w.heap.size w w5) := lb_trans HB4.out hb5
      clear hb5 K
      go_wp2_with (go_at_call 7; refine (LV _ HB5.out).mono ?_; rintro e w9 ⟨rfl, hb9⟩)
      go_ret
      exact ⟨rfl, lb_trans HB5.out hb9⟩

end Go.Proofs.YtfaekkbblpfbhaaDoor
