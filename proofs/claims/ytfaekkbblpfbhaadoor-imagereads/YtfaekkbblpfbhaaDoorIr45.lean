/-
  Read of package image, by what it returns. The statements' own small run.
-/
import Derived.Test.YtfaekkbblpfbhaaDoorProg
import Derived.WalkKit
import Derived.WalkSpells
import Derived.WalkLawsBesides
import Derived.RowKit3
import Derived.Below
import Derived.Deep.QuietTactic
import Derived.BigQuiet
import Derived.WalkSmall
import Derived.Laws.Rows
import Derived.Test.YtfaekkbblpfbhaaDoorIr44
import Derived.Test.YtfaekkbblpfbhaaDoorIr23
import Derived.Test.YtfaekkbblpfbhaaDoorIr18
import Derived.Test.YtfaekkbblpfbhaaDoorIr41
namespace Go.Proofs.YtfaekkbblpfbhaaDoor
open Go.RowKit

set_option maxRecDepth 100000 in
set_option maxHeartbeats 4000000 in
theorem read_any (A : Option Addr) (c : Nat) (b : List Int) (w : World) (hG : Beg w) (hB : IntsAt w A .u8 b) (hA : AreB b) (hN : b.length ≤ 1048576) (hc : b.length ≤ c) :
    Calls Tryd.prog 19 #[.slice A b.length c] w (ReadP b w) := by
  have C := fun wx (hb : Below w.heap.size w wx) => taken_any A c b wx (hG.below hb) (hB.keep hb) hA hN hc
  have HBx : Hid (Below w.heap.size w (w.alloc (.cells #[.slice none 0 0, .int .i64 0, .slice none 0 0] 25))) := lb_alloc (Below.refl _ _) _
  have HXx : Hid ((w.alloc (.cells #[.slice none 0 0, .int .i64 0, .slice none 0 0] 25)).heap[w.heap.size]? = some (.cells #[.slice none 0 0, .int .i64 0, .slice none 0 0] 25 (0, 0))) := heap_alloc_new _ _
  go_enter Tryd.func19, Tryd.ntmps19
  go_wp2_with fail
  refine (C _ HBx.out).mono ?_
  intro r w1 hr
  obtain ⟨hb, ⟨hz, A1, A2, k1, k2, rfl, rows⟩ | ⟨hz, u, ⟨A1, A2, n1, n2, k1, k2, e, rfl⟩, rfl⟩⟩ := hr
  · obtain ⟨-, j1, j2, j3, j4, j5⟩ := tookI_write hA hz
    have HZ : Hid _ := hz
    have HR : Hid _ := rows
    have HB1 : Hid (Below w.heap.size w w1) := lb_trans HBx.out hb
    have HX1 : Hid _ := lb_box HXx.out hb
    have HS1 : Hid (w.heap.size + 1 ≤ w1.heap.size) := by have := hb.size; simp at this; exact this
    have HK : Hid (checkI (tookI b).text (tookI b).mem.length (s32 (tookI b).ent) = checkI (tookI b).text (tookI b).mem.length (tookI b).ent) := check_s32 j3.1 j3.2 j1
    have HM : Hid ((checkI (tookI b).text (tookI b).mem.length (tookI b).ent).1 = 0 → s32 (tookI b).ent = (tookI b).ent) := fun h => s32_may h
    have CK := fun wx (hx : Below w1.heap.size w1 wx) => check_any A1 A2 k1 (tookI b).mem.length k2 (s32 (tookI b).ent) (tookI b).text wx ((row_ints HR.out.r1).keep hx) (fun i hi => j2 _ (by simp [nth, List.getD, hi])) (by omega) (by omega)
    rw [HK.out] at CK
    generalize hTK : tookI b = T at *
    have HTK : Hid _ := hTK
    obtain ⟨text, ent, mem, t⟩ := T
    simp only at CK HM HR HZ
    clear hTK
    clear hb rows hz C j1 j2 j3 j4 j5 HK
    by_cases hE : (checkI text mem.length ent).1 = 0
    · have HE : Hid _ := hE
      have hEp := check_pair hE
      rw [hEp] at CK
      clear hE hEp
      rw [HM.out HE.out] at CK ⊢
      go_wp2_with fail
      refine (CK _ (lb_alloc (lb_alloc (Below.refl _ _) _) _)).mono ?_
      rintro r w2 ⟨rfl, hb2⟩
      have hbA := lb_alloc (lb_alloc (Below.refl _ w1) (.cells #[.slice A1 text.length k1, .int .i64 ent, .slice A2 mem.length k2] 25)) (.cells #[.int .i64 0, .int .i64 0] 85)
      have hbB := lb_trans hbA hb2
      have HX2 : Hid _ := lb_box HX1.out hbB
      have HV2 : Hid _ := lb_box (old_at (o' := .cells #[.int .i64 0, .int .i64 0] 85) (heap_alloc_new w1 (.cells #[.slice A1 text.length k1, .int .i64 ent, .slice A2 mem.length k2] 25))) hb2
      obtain ⟨x0, x1, x2⟩ := box3_cell HX2.out
      obtain ⟨v0, v1, v2⟩ := box3_cell HV2.out
      have f0 := box_fro HX2.out 0
      have f1 := box_fro HX2.out 1
      have f2 := box_fro HX2.out 2
      have HR2 : Hid _ := HR.out.keep hbB
      have HB2 : Hid (Below w.heap.size w w2) := lb_trans HB1.out hbB
      clear hbA hbB hb2
      go_wp2_with fail
      refine bodyPost_ret (v := .tuple #[.agg #[.slice A1 text.length k1, .int .i64 ent, .slice A2 mem.length k2], .int .i64 0, .int .i64 0]) (by simp [results, Tryd.results19, go_sem, x0, x1, x2]) rfl ?_
      unfold ReadP
      rw [HTK.out]
      have hs : w.heap.size < w.heap.size + 1 := Nat.lt_succ_self _
      have hr := (((HR2.out.mono (show w.heap.size + 1 ≤ _ by simp)).set hs 0 (.slice A1 text.length k1)).set hs 1 (.int .i64 ent)).set hs 2 (.slice A2 mem.length k2)
      exact ⟨((HB2.out.setCell (Nat.le_refl _) _).setCell (Nat.le_refl _) _).setCell (Nat.le_refl _) _, Or.inr (Or.inr ⟨HZ.out, HE.out, A1, A2, k1, k2, rfl, hr.mono (Nat.le_succ _)⟩)⟩
    · have HE : Hid _ := hE
      have hEb : ((checkI text mem.length ent).1 != 0) = true := by simpa using hE
      generalize hcE : (checkI text mem.length ent).1 = E at *
      generalize hcN : (checkI text mem.length ent).2 = Nn at *
      have hcE : Hid _ := hcE
      have hcN : Hid _ := hcN
      clear hE
      go_wp2_with fail
      refine (CK _ (lb_alloc (lb_alloc (Below.refl _ _) _) _)).mono ?_
      rintro r w2 ⟨rfl, hb2⟩
      have hbA := lb_alloc (lb_alloc (Below.refl _ w1) (.cells #[.slice A1 text.length k1, .int .i64 (s32 ent), .slice A2 mem.length k2] 25)) (.cells #[.int .i64 0, .int .i64 0] 85)
      have hbB := lb_trans hbA hb2
      have HX2 : Hid _ := lb_box HX1.out hbB
      obtain ⟨x0, x1, x2⟩ := box3_cell HX2.out
      have f0 := box_fro HX2.out 0
      have f1 := box_fro HX2.out 1
      have f2 := box_fro HX2.out 2
      have HB2 : Hid (Below w.heap.size w w2) := lb_trans HB1.out hbB
      clear hbA hbB hb2
      go_wp2_with fail
      refine bodyPost_ret (v := .tuple #[.agg #[.slice none 0 0, .int .i64 0, .slice none 0 0], .int .i64 E, .int .i64 Nn]) (by simp [results, Tryd.results19, go_sem, x0, x1, x2]) rfl ?_
      unfold ReadP
      rw [HTK.out]
      refine ⟨((HB2.out.setCell (Nat.le_refl _) _).setCell (Nat.le_refl _) _).setCell (Nat.le_refl _) _, Or.inr (Or.inl ⟨HZ.out, ?_, ?_⟩)⟩
      · simp only; rw [hcE.out]; exact HE.out
      · simp only; rw [hcE.out, hcN.out]
  · have HZ : Hid _ := hz
    have hzb : ((tookI b).t.bad != 0) = true := by simpa using hz
    have HB1 : Hid (Below w.heap.size w w1) := lb_trans HBx.out hb
    have HX1 : Hid _ := lb_box HXx.out hb
    have hs1 : w.heap.size + 1 ≤ w1.heap.size := by have := hb.size; simp at this; exact this
    have hn1 : w1.heap.size + 1 ≠ w.heap.size := by omega
    clear hs1
    generalize hTK : (tookI b).t = t at *
    have HTK : Hid _ := hTK
    have HXw : Hid _ := lb_box HX1.out (lb_alloc (lb_alloc (Below.refl _ w1) (.cells #[.slice A1 n1 k1, .int .i64 e, .slice A2 n2 k2] 25)) (.cells #[.int .i64 t.bad, .int .i64 t.place] 85))
    obtain ⟨x0, x1, x2⟩ := box3_cell HXw.out
    have f0 := box_fro HXw.out 0
    have f1 := box_fro HXw.out 1
    have f2 := box_fro HXw.out 2
    have HB2 : Hid _ := lb_trans HB1.out (lb_alloc (lb_alloc (Below.refl _ w1) (.cells #[.slice A1 n1 k1, .int .i64 e, .slice A2 n2 k2] 25)) (.cells #[.int .i64 t.bad, .int .i64 t.place] 85))
    clear hb hz C hTK
    go_wp2_with fail
    go_region
    all_goals go_wp2_with fail
    all_goals
      refine bodyPost_ret (v := .tuple #[.agg #[.slice none 0 0, .int .i64 0, .slice none 0 0], .int .i64 t.bad, .int .i64 t.place]) (by simp [results, Tryd.results19, go_sem, x0, x1, x2]) rfl ?_
      unfold ReadP
      rw [HTK.out]
      refine ⟨?_, Or.inl ⟨HZ.out, rfl⟩⟩
      have hbz := HB2.out
      repeat' (first | with_reducible assumption | with_reducible refine Below.setCell ?_ ?_ _ | with_reducible refine Below.drew ?_ | exact Nat.le_refl _)

end Go.Proofs.YtfaekkbblpfbhaaDoor

namespace Go.Proofs.YtfaekkbblpfbhaaDoor
open Go.RowKit

set_option maxRecDepth 100000 in
set_option maxHeartbeats 2000000 in
theorem lives_any (w : World) (hG : Beg w) : Calls Tryd.prog 7 #[] w fun e w' => e = .returned (.bool true) ∧ Below w.heap.size w w' := by
  have HK1 : Hid ((checkI haltC ([] : List Int).length 0).1 = 0) := by show (checkI haltC 0 0).1 = 0; rw [halt_check]
  have HL : Hid ((bytesI haltC 0 []).length = 24) := by rw [Hid, bytesI_len]; rfl
  obtain ⟨w0, hw0⟩ : ∃ w0, Hid ((w.alloc (.cells #[.int .u32 2818572288] 61)).alloc (.cells #[.slice (some ⟨w.heap.size, 0, none⟩) 1 1, .int .i64 0, .slice none 0 0] 25) = w0) := ⟨_, rfl⟩
  have HB0 : Hid (Below w.heap.size w w0) := by rw [Hid, ← hw0.out]; exact lb_alloc (lb_alloc (Below.refl _ _) _) _
  have HX0 : Hid (w0.heap[w.heap.size + 1]? = some (.cells #[.slice (some ⟨w.heap.size, 0, none⟩) 1 1, .int .i64 0, .slice none 0 0] 25 (0, 0))) := by rw [Hid, ← hw0.out]; exact new_at (by simp)
  have HC0 : Hid (IntsAt w0 (some ⟨w.heap.size, 0, none⟩) .u32 haltC) := fun i hi => by
    refine ⟨_, rfl, ?_⟩
    rw [← hw0.out, add0]
    have : i = 0 := by simp [haltC] at hi; omega
    subst this
    simp [go_sem, haltC, nth]
  have C1 := check_any (some ⟨w.heap.size, 0, none⟩) none 1 0 0 0 haltC ((w.alloc (.cells #[.int .u32 2818572288] 61)).alloc (.cells #[.slice (some ⟨w.heap.size, 0, none⟩) 1 1, .int .i64 0, .slice none 0 0] 25)) (by rw [hw0.out]; exact HC0.out) halt_range (by simp [haltC]) (by omega)
  rw [halt_check] at C1
  go_enter Tryd.func7, Tryd.ntmps7
  go_wp2_with fail
  refine C1.mono ?_
  rintro e w1 ⟨rfl, hb⟩
  rw [hw0.out] at hb
  have HB1 : Hid (Below w.heap.size w w1) := lb_trans HB0.out hb
  have HX1 : Hid _ := lb_box HX0.out hb
  have HC1 : Hid (IntsAt w1 (some ⟨w.heap.size, 0, none⟩) .u32 haltC) := HC0.out.keep hb
  obtain ⟨x0, x1, x2⟩ := box3_cell HX1.out
  clear hb C1 hw0
  go_wp2_with fail
  refine (write_any (some ⟨w.heap.size, 0, none⟩) none 1 0 haltC [] 0 _ (hG.below HB1.out) HC1.out (no_ints _ _) halt_range (by simp [haltC]) (by simp)).mono ?_
  intro r w2 hr
  obtain ⟨A, c, rfl, _, hI, hcap, hb⟩ := wrote_ok hr HK1.out
  have HB2 : Hid (Below w.heap.size w w2) := lb_trans HB1.out hb
  have HX2 : Hid _ := lb_box HX1.out hb
  have HC2 : Hid (IntsAt w2 (some ⟨w.heap.size, 0, none⟩) .u32 haltC) := HC1.out.keep hb
  have HI : Hid (IntsAt w2 A .u8 (bytesI haltC 0 [])) := hI
  have HCap : Hid _ := hcap
  clear hr hb hI hcap x0 x1 x2 HX1 HC1
  go_wp2_with fail
  refine (read_any A c (bytesI haltC 0 []) _ (hG.below HB2.out) HI.out (bytesI_areB _ _ _) (by rw [HL.out]; omega) HCap.out).mono ?_
  intro r w3 hr
  obtain ⟨A1, A2, c1, c2, rfl, rows, hb⟩ := read_ok hr HK1.out halt_range (fun i hi => by simp at hi)
  have HB3 : Hid (Below w.heap.size w (w3.alloc (.cells #[.slice A1 haltC.length c1, .int .i64 0, .slice A2 ([] : List Int).length c2] 25))) := lb_alloc (lb_trans HB2.out hb) _
  have HX3 : Hid _ := lb_box HX2.out (lb_alloc hb (.cells #[.slice A1 haltC.length c1, .int .i64 0, .slice A2 ([] : List Int).length c2] 25))
  have HY3 : Hid ((w3.alloc (.cells #[.slice A1 haltC.length c1, .int .i64 0, .slice A2 ([] : List Int).length c2] 25)).heap[w3.heap.size]? = some (.cells #[.slice A1 haltC.length c1, .int .i64 0, .slice A2 ([] : List Int).length c2] 25 (0, 0))) := heap_alloc_new _ _
  have HC3 : Hid (IntsAt (w3.alloc (.cells #[.slice A1 haltC.length c1, .int .i64 0, .slice A2 ([] : List Int).length c2] 25)) (some ⟨w.heap.size, 0, none⟩) .u32 haltC) := HC2.out.keep (lb_alloc hb (.cells #[.slice A1 haltC.length c1, .int .i64 0, .slice A2 ([] : List Int).length c2] 25))
  have HR3 : Hid _ := rows.keep (lb_alloc (Below.refl _ _) (.cells #[.slice A1 haltC.length c1, .int .i64 0, .slice A2 ([] : List Int).length c2] 25))
  rw [HL.out]
  have C4 := fun wx => check_any none none 0 0 0 0 [] wx (no_ints _ _) (fun i hi => by simp at hi) (by simp) (by omega)
  rw [nil_check] at C4
  clear hr hb rows HX2 HC2 HI HCap
  go_wp2_with fail
  refine (C4 _).mono ?_
  rintro e w4 ⟨rfl, hb⟩
  have HB4 : Hid (Below w.heap.size w w4) := lb_trans HB3.out hb
  have HX4 : Hid _ := lb_box HX3.out hb
  have HY4 : Hid _ := lb_box HY3.out hb
  have HC4 : Hid (IntsAt w4 (some ⟨w.heap.size, 0, none⟩) .u32 haltC) := HC3.out.keep hb
  have HR4 : Hid _ := HR3.out.keep hb
  obtain ⟨x0, x1, x2⟩ := box3_cell HX4.out
  obtain ⟨y0, y1, y2⟩ := box3_cell HY4.out
  clear hb C4 HX3 HY3 HC3 HR3
  go_wp2_with fail
  refine (eqimg_same A1 A2 (some ⟨w.heap.size, 0, none⟩) none c1 c2 1 0 haltC [] 0 _ (row_ints HR4.out.r1) (row_ints HR4.out.r2) HC4.out (no_ints _ _) (by simp [haltC]) (by simp)).mono ?_
  rintro e w5 ⟨rfl, hb⟩
  have HB5 : Hid (Below w.heap.size w w5) := lb_trans HB4.out hb
  clear hb
  go_wp2
  go_ret
  exact ⟨rfl, HB5.out⟩

end Go.Proofs.YtfaekkbblpfbhaaDoor
