/-
  CopyImage of the statements, by what it returns; the lists have at most 2^20 items. Read of package image, by what it returns.
-/
import Derived.Test.YtfaekkbblpfbhaaDoorProg
import Derived.WalkKit
import Derived.WalkSpells
import Derived.WalkLawsBesides
import Derived.RowKit3
import Derived.Below
import Derived.Deep.QuietTactic
import Derived.BigQuiet
import Derived.WalkSmall
import Derived.Laws.Rows
import Derived.Test.YtfaekkbblpfbhaaDoorIo24
import Derived.Test.YtfaekkbblpfbhaaDoorIo25
import Derived.Test.YtfaekkbblpfbhaaDoorIo21
import Derived.Test.YtfaekkbblpfbhaaDoorIo09
import Derived.Test.YtfaekkbblpfbhaaDoorIo31
import Derived.Test.YtfaekkbblpfbhaaDoorIo23
import Derived.Test.YtfaekkbblpfbhaaDoorIo18
namespace Go.Proofs.YtfaekkbblpfbhaaDoor
open Go.RowKit

/-- What CopyImage answers. -/
def CopyI (text mem : List Int) (ent : Int) (w : World) (e : Ending) (w' : World) : Prop := ∃ (A1 A2 : Option Addr) (k1 k2 : Nat), e = .returned (.agg #[.slice A1 text.length k1, .int .i64 ent, .slice A2 mem.length k2]) ∧ RowsI w' w.heap.size A1 A2 k1 k2 text mem ∧ Below w.heap.size w w'
set_option maxRecDepth 100000 in
theorem copyimg_any (A1 A2 : Option Addr) (c1 c2 : Nat) (text mem : List Int) (ent : Int) (w : World) (hT : IntsAt w A1 .u32 text) (hM : IntsAt w A2 .i64 mem) (h01 : A1 = none → c1 = 0) (h02 : A2 = none → c2 = 0) (hl : text.length ≤ 1048576) (hm : mem.length ≤ 1048576) :
    Calls Tryd.prog 25 #[.agg #[.slice A1 text.length c1, .int .i64 ent, .slice A2 mem.length c2]] w (CopyI text mem ent w) := by
  have hB0 : Below w.heap.size w ((w.alloc (.cells #[.slice A1 text.length c1, .int .i64 ent, .slice A2 mem.length c2] 25)).alloc (.cells #[.slice none 0 0, .int .i64 0, .slice none 0 0] 25)) := lb_alloc (lb_alloc (Below.refl _ _) _) _
  have HX0 : Hid (((w.alloc (.cells #[.slice A1 text.length c1, .int .i64 ent, .slice A2 mem.length c2] 25)).alloc (.cells #[.slice none 0 0, .int .i64 0, .slice none 0 0] 25)).heap[w.heap.size]? = some (.cells #[.slice A1 text.length c1, .int .i64 ent, .slice A2 mem.length c2] 25 (0, 0))) := old_at (new_at rfl)
  have HY0 : Hid (((w.alloc (.cells #[.slice A1 text.length c1, .int .i64 ent, .slice A2 mem.length c2] 25)).alloc (.cells #[.slice none 0 0, .int .i64 0, .slice none 0 0] 25)).heap[w.heap.size + 1]? = some (.cells #[.slice none 0 0, .int .i64 0, .slice none 0 0] 25 (0, 0))) := new_at (by simp)
  have HB0 : Hid _ := hB0
  clear hB0
  go_enter Tryd.func25, Tryd.ntmps25
  go_wp2_with fail
  refine (copywords_any A1 c1 text _ (hT.keep HB0.out) h01 hl).mono ?_
  rintro e w1 ⟨O1, k1, rfl, hown, hg, hn⟩
  have hb : Below _ _ w1 := ⟨hg.os, hg.tape, hg.output, hg.size, fun k hk => hg.block k hk (by simp)⟩
  have HX1 : Hid _ := lb_box HX0.out hb
  have HY1 : Hid _ := lb_box HY0.out hb
  have HB1 : Hid (Below w.heap.size w w1) := lb_trans HB0.out hb
  rw [iNews_vals] at hown
  have HO1 : Hid (w1.ownsRow (w.heap.size + 2) 61 1 (.slice O1 text.length k1) text.length (iVals .u32 text)) := ownsRow_mono hown (by simp)
  have hs1 : w.heap.size + 2 ≤ w1.heap.size := by have := hb.size; simp at this; exact this
  have HS1 : Hid _ := hs1
  obtain ⟨x0, x1, x2⟩ := box3_cell HX1.out
  have f0 := box_fro HX1.out 0
  have HX2 : Hid _ := box_set HX1.out 0 (.slice O1 text.length k1)
  have HY2 : Hid _ := box_other HY1.out (show w.heap.size + 1 ≠ w.heap.size by omega) 0 (.slice O1 text.length k1)
  have HB2 : Hid (Below w.heap.size w (w1.setCell ⟨w.heap.size, 0, none⟩ (.slice O1 text.length k1))) := HB1.out.setCell (Nat.le_refl _) _
  have HO2 : Hid _ := row_setB HO1.out (show w.heap.size < w.heap.size + 2 by omega) 0 (.slice O1 text.length k1)
  clear hown hg hn hb hs1 HX0 HY0
  go_wp2_with fail
  refine (copylongs_any A2 c2 mem _ (hM.keep HB2.out) h02 hm).mono ?_
  rintro e w3 ⟨O2, k2, rfl, hown, hg, hn⟩
  have hb : Below _ _ w3 := ⟨hg.os, hg.tape, hg.output, hg.size, fun k hk => hg.block k hk (by simp)⟩
  have HX3 : Hid (w3.heap[w.heap.size]? = some (.cells #[.slice O1 text.length k1, .int .i64 ent, .slice A2 mem.length c2] 25 (0, 0))) := lb_box HX2.out hb
  have HY3 : Hid _ := lb_box HY2.out hb
  have HB3 : Hid (Below w.heap.size w w3) := lb_trans HB2.out hb
  rw [iNews_vals] at hown
  have HQ3 : Hid (RowsI w3 (w.heap.size + 2) O1 O2 k1 k2 text mem) := ⟨row_keep HO2.out hb, ownsRow_mono hown (by have := HS1.out; simpa using this)⟩
  clear hown hg hn hb x0 x1 x2 f0 HX1 HY1 HB1 HO1
  obtain ⟨x0, x1, x2⟩ := box3_cell HX3.out
  obtain ⟨y0, y1, y2⟩ := box3_cell HY3.out
  have f0 := box_fro HX3.out 0
  have f2 := box_fro HX3.out 2
  have g0 := box_fro HY3.out 0
  have g1 := box_fro HY3.out 1
  have g2 := box_fro HY3.out 2
  go_wp2
  refine bodyPost_ret (v := .agg #[.slice O1 text.length k1, .int .i64 ent, .slice O2 mem.length k2]) (by simp [results, Tryd.results25, go_sem, y0, y1, y2]) rfl ⟨O1, O2, k1, k2, rfl, ?_, ?_⟩
  · have h1 : w.heap.size < w.heap.size + 2 := by omega
    have h2 : w.heap.size + 1 < w.heap.size + 2 := by omega
    exact ((((HQ3.out.set h1 2 _).set h2 0 _).set h2 1 _).set h2 2 _).mono (by omega)
  · exact (((HB3.out.setCell (Nat.le_refl _) _).setCell (Nat.le_succ _) _).setCell (Nat.le_succ _) _).setCell (Nat.le_succ _) _

end Go.Proofs.YtfaekkbblpfbhaaDoor

namespace Go.Proofs.YtfaekkbblpfbhaaDoor
open Go.RowKit

set_option maxRecDepth 100000 in
set_option maxHeartbeats 4000000 in
theorem read_any (A : Option Addr) (c : Nat) (b : List Int) (w : World) (hG : Beg w) (hB : IntsAt w A .u8 b) (hA : AreB b) (hN : b.length ≤ 1048576) (hc : b.length ≤ c) :
    Calls Tryd.prog 19 #[.slice A b.length c] w (ReadP b w) := by
  have C := fun wx (hb : Below w.heap.size w wx) => taken_any A c b wx (hG.below hb) (hB.keep hb) hA hN hc
  have HBx : Hid (Below w.heap.size w (w.alloc (.cells #[.slice none 0 0, .int .i64 0, .slice none 0 0] 25))) := lb_alloc (Below.refl _ _) _
  have HXx : Hid ((w.alloc (.cells #[.slice none 0 0, .int .i64 0, .slice none 0 0] 25)).heap[w.heap.size]? = some (.cells #[.slice none 0 0, .int .i64 0, .slice none 0 0] 25 (0, 0))) := heap_alloc_new _ _
  go_enter Tryd.func19, Tryd.ntmps19
  go_wp2_with fail
  refine (C _ HBx.out).mono ?_
  intro r w1 hr
  obtain ⟨hb, ⟨hz, A1, A2, k1, k2, rfl, rows⟩ | ⟨hz, u, ⟨A1, A2, n1, n2, k1, k2, e, rfl⟩, rfl⟩⟩ := hr
  · obtain ⟨-, j1, j2, j3, j4, j5⟩ := tookI_write hA hz
    have HZ : Hid _ := hz
    have HR : Hid _ := rows
    have HB1 : Hid (Below w.heap.size w w1) := lb_trans HBx.out hb
    have HX1 : Hid _ := lb_box HXx.out hb
    have HS1 : Hid (w.heap.size + 1 ≤ w1.heap.size) := by have := hb.size; simp at this; exact this
    have HK : Hid (checkI (tookI b).text (tookI b).mem.length (s32 (tookI b).ent) = checkI (tookI b).text (tookI b).mem.length (tookI b).ent) := check_s32 j3.1 j3.2 j1
    have HM : Hid ((checkI (tookI b).text (tookI b).mem.length (tookI b).ent).1 = 0 → s32 (tookI b).ent = (tookI b).ent) := fun h => s32_may h
    have CK := fun wx (hx : Below w1.heap.size w1 wx) => check_any A1 A2 k1 (tookI b).mem.length k2 (s32 (tookI b).ent) (tookI b).text wx ((row_ints HR.out.r1).keep hx) (fun i hi => j2 _ (by simp [nth, List.getD, hi])) (by omega) (by omega)
    rw [HK.out] at CK
    generalize hTK : tookI b = T at *
    have HTK : Hid _ := hTK
    obtain ⟨text, ent, mem, t⟩ := T
    simp only at CK HM HR HZ
    clear hTK
    clear hb rows hz C j1 j2 j3 j4 j5 HK
    by_cases hE : (checkI text mem.length ent).1 = 0
    · have HE : Hid _ := hE
      have hEp := check_pair hE
      rw [hEp] at CK
      clear hE hEp
      rw [HM.out HE.out] at CK ⊢
      go_wp2_with fail
      refine (CK _ (lb_alloc (lb_alloc (Below.refl _ _) _) _)).mono ?_
      rintro r w2 ⟨rfl, hb2⟩
      have hbA := lb_alloc (lb_alloc (Below.refl _ w1) (.cells #[.slice A1 text.length k1, .int .i64 ent, .slice A2 mem.length k2] 25)) (.cells #[.int .i64 0, .int .i64 0] 85)
      have hbB := lb_trans hbA hb2
      have HX2 : Hid _ := lb_box HX1.out hbB
      have HV2 : Hid _ := lb_box (old_at (o' := .cells #[.int .i64 0, .int .i64 0] 85) (heap_alloc_new w1 (.cells #[.slice A1 text.length k1, .int .i64 ent, .slice A2 mem.length k2] 25))) hb2
      obtain ⟨x0, x1, x2⟩ := box3_cell HX2.out
      obtain ⟨v0, v1, v2⟩ := box3_cell HV2.out
      have f0 := box_fro HX2.out 0
      have f1 := box_fro HX2.out 1
      have f2 := box_fro HX2.out 2
      have HR2 : Hid _ := HR.out.keep hbB
      have HB2 : Hid (Below w.heap.size w w2) := lb_trans HB1.out hbB
      clear hbA hbB hb2
      go_wp2_with fail
      refine bodyPost_ret (v := .tuple #[.agg #[.slice A1 text.length k1, .int .i64 ent, .slice A2 mem.length k2], .int .i64 0, .int .i64 0]) (by simp [results, Tryd.results19, go_sem, x0, x1, x2]) rfl ?_
      unfold ReadP
      rw [HTK.out]
      have hs : w.heap.size < w.heap.size + 1 := Nat.lt_succ_self _
      have hr := (((HR2.out.mono (show w.heap.size + 1 ≤ _ by simp)).set hs 0 (.slice A1 text.length k1)).set hs 1 (.int .i64 ent)).set hs 2 (.slice A2 mem.length k2)
      exact ⟨((HB2.out.setCell (Nat.le_refl _) _).setCell (Nat.le_refl _) _).setCell (Nat.le_refl _) _, Or.inr (Or.inr ⟨HZ.out, HE.out, A1, A2, k1, k2, rfl, hr.mono (Nat.le_succ _)⟩)⟩
    · have HE : Hid _ := hE
      have hEb : ((checkI text mem.length ent).1 != 0) = true := by simpa using hE
      generalize hcE : (checkI text mem.length ent).1 = E at *
      generalize hcN : (checkI text mem.length ent).2 = Nn at *
      have hcE : Hid _ := hcE
      have hcN : Hid _ := hcN
      clear hE
      go_wp2_with fail
      refine (CK _ (lb_alloc (lb_alloc (Below.refl _ _) _) _)).mono ?_
      rintro r w2 ⟨rfl, hb2⟩
      have hbA := lb_alloc (lb_alloc (Below.refl _ w1) (.cells #[.slice A1 text.length k1, .int .i64 (s32 ent), .slice A2 mem.length k2] 25)) (.cells #[.int .i64 0, .int .i64 0] 85)
      have hbB := lb_trans hbA hb2
      have HX2 : Hid _ := lb_box HX1.out hbB
      obtain ⟨x0, x1, x2⟩ := box3_cell HX2.out
      have f0 := box_fro HX2.out 0
      have f1 := box_fro HX2.out 1
      have f2 := box_fro HX2.out 2
      have HB2 : Hid (Below w.heap.size w w2) := lb_trans HB1.out hbB
      clear hbA hbB hb2
      go_wp2_with fail
      refine bodyPost_ret (v := .tuple #[.agg #[.slice none 0 0, .int .i64 0, .slice none 0 0], .int .i64 E, .int .i64 Nn]) (by simp [results, Tryd.results19, go_sem, x0, x1, x2]) rfl ?_
      unfold ReadP
      rw [HTK.out]
      refine ⟨((HB2.out.setCell (Nat.le_refl _) _).setCell (Nat.le_refl _) _).setCell (Nat.le_refl _) _, Or.inr (Or.inl ⟨HZ.out, ?_, ?_⟩)⟩
      · simp only; rw [hcE.out]; exact HE.out
      · simp only; rw [hcE.out, hcN.out]
  · have HZ : Hid _ := hz
    have hzb : ((tookI b).t.bad != 0) = true := by simpa using hz
    have HB1 : Hid (Below w.heap.size w w1) := lb_trans HBx.out hb
    have HX1 : Hid _ := lb_box HXx.out hb
    have hs1 : w.heap.size + 1 ≤ w1.heap.size := by have := hb.size; simp at this; exact this
    have hn1 : w1.heap.size + 1 ≠ w.heap.size := by omega
    clear hs1
    generalize hTK : (tookI b).t = t at *
    have HTK : Hid _ := hTK
    have HXw : Hid _ := lb_box HX1.out (lb_alloc (lb_alloc (Below.refl _ w1) (.cells #[.slice A1 n1 k1, .int .i64 e, .slice A2 n2 k2] 25)) (.cells #[.int .i64 t.bad, .int .i64 t.place] 85))
    obtain ⟨x0, x1, x2⟩ := box3_cell HXw.out
    have f0 := box_fro HXw.out 0
    have f1 := box_fro HXw.out 1
    have f2 := box_fro HXw.out 2
    have HB2 : Hid _ := lb_trans HB1.out (lb_alloc (lb_alloc (Below.refl _ w1) (.cells #[.slice A1 n1 k1, .int .i64 e, .slice A2 n2 k2] 25)) (.cells #[.int .i64 t.bad, .int .i64 t.place] 85))
    clear hb hz C hTK
    go_wp2_with fail
    go_region
    all_goals go_wp2_with fail
    all_goals
      refine bodyPost_ret (v := .tuple #[.agg #[.slice none 0 0, .int .i64 0, .slice none 0 0], .int .i64 t.bad, .int .i64 t.place]) (by simp [results, Tryd.results19, go_sem, x0, x1, x2]) rfl ?_
      unfold ReadP
      rw [HTK.out]
      refine ⟨?_, Or.inl ⟨HZ.out, rfl⟩⟩
      have hbz := HB2.out
      repeat' (first | with_reducible assumption | with_reducible refine Below.setCell ?_ ?_ _ | with_reducible refine Below.drew ?_ | exact Nat.le_refl _)

end Go.Proofs.YtfaekkbblpfbhaaDoor
