/-
  The law on bytes as an image, whatever they are.
-/
import Derived.Test.YtfaekkbblpfbhaaDoorProg
import Derived.WalkKit
import Derived.WalkSpells
import Derived.WalkLawsBesides
import Derived.RowKit3
import Derived.Below
import Derived.Deep.QuietTactic
import Derived.BigQuiet
import Derived.WalkSmall
import Derived.Laws.Rows
import Derived.Test.YtfaekkbblpfbhaaDoorIr28
import Derived.Test.YtfaekkbblpfbhaaDoorIr35
import Derived.Test.YtfaekkbblpfbhaaDoorIr37
import Derived.Test.YtfaekkbblpfbhaaDoorIr40
import Derived.Test.YtfaekkbblpfbhaaDoorIr41
import Derived.Test.YtfaekkbblpfbhaaDoorIr42
import Derived.Test.YtfaekkbblpfbhaaDoorIr45
import Derived.Test.YtfaekkbblpfbhaaDoorIr08
import Derived.Test.YtfaekkbblpfbhaaDoorIr09
namespace Go.Proofs.YtfaekkbblpfbhaaDoor
open Go.RowKit

set_option maxRecDepth 100000 in
set_option maxHeartbeats 8000000 in
theorem lawReads (O : Option Addr) (cap : Nat) (zs : List Int) (w : World) (hG : Beg w) (hZ : IntsAt w O .u8 zs) (hAz : AreB zs) (hcap : zs.length ≤ cap) (hml : zs.length ≤ maxLen) :
    Calls Tryd.prog 4 #[.slice O zs.length cap] w fun e w' => e = .returned (.bool true) ∧ Below w.heap.size w w' := by
  unfold maxLen at hml
  have LV := fun wx (hx : Below w.heap.size w wx) => lives_any wx (hG.below hx)
  by_cases hbig : 262144 < zs.length
  · go_enter Tryd.func4, Tryd.ntmps4
    go_wp2_with (go_at_call 7; refine (LV _ (Below.refl _ _)).mono ?_; rintro e w2 ⟨rfl, hb2⟩)
    go_ret
    exact ⟨rfl, hb2⟩
  have hz : zs.length ≤ 262144 := by omega
  obtain ⟨text, mem, ent, E, N, hc, hd, GV⟩ := gave_all hAz
  have HGV : Hid _ := GV
  clear GV
  have hE2 : (E != E) = false := by simp
  have hN2 : (N != N) = false := by simp
  clear hbig
  go_enter Tryd.func4, Tryd.ntmps4
  go_wp2_with fail
  refine (widebytes_lies O cap zs _ hZ (by omega)).mono ?_
  rintro r w1 ⟨g, rfl, hb1, kI, kM⟩
  have HB1 : Hid (Below w.heap.size w w1) := hb1
  have HKI : Hid (IntsAt w1 (some ⟨g, 0, none⟩) .u8 zs) := kI
  have HKM : Hid (MarkB w1 g zs.length) := kM
  clear hb1 kI kM
  have RD : Hid (∀ wx, Below w1.heap.size w1 wx → Calls Tryd.prog 19 #[.slice (some ⟨g, 0, none⟩) zs.length (zs.length + 64)] wx (Gave text mem ent E N wx)) := fun wx h => (read_any (some ⟨g, 0, none⟩) (zs.length + 64) zs wx (hG.below (lb_trans HB1.out h)) (HKI.out.keep h) hAz (by omega) (by omega)).mono fun r w' h => HGV.out _ _ _ h
  have RR : Hid (∀ wx, Below w.heap.size w wx → Calls Tryd.prog 20 #[.slice O zs.length cap] wx (Gave text mem ent E N wx)) := fun wx h => (refread_any O cap zs wx (hZ.keep h) hAz (by omega) hcap).mono fun r w' h => HGV.out _ _ _ h
  go_wp2_with fail
  refine (RD.out _ (Below.refl _ _)).mono ?_
  rintro r w2 ⟨X1, X2, x1, x2, rfl, rowsX, hb2⟩
  have HB2 : Hid (Below w.heap.size w (w2.alloc (.cells #[.slice X1 text.length x1, .int .i64 ent, .slice X2 mem.length x2] 25))) := lb_alloc (lb_trans HB1.out hb2) _
  have HC2 : Hid (Below w1.heap.size w1 (w2.alloc (.cells #[.slice X1 text.length x1, .int .i64 ent, .slice X2 mem.length x2] 25))) := lb_alloc hb2 _
  have HX2 : Hid (RowsI w2 w.heap.size X1 X2 x1 x2 text mem) := rowsX.mono HB1.out.size
  have HX2' : Hid (RowsI (w2.alloc (.cells #[.slice X1 text.length x1, .int .i64 ent, .slice X2 mem.length x2] 25)) w.heap.size X1 X2 x1 x2 text mem) := HX2.out.keep (lb_alloc (Below.refl _ _) _)
  have hbx2 : Hid ((w2.alloc (.cells #[.slice X1 text.length x1, .int .i64 ent, .slice X2 mem.length x2] 25)).heap[w2.heap.size]? = some (.cells #[.slice X1 text.length x1, .int .i64 ent, .slice X2 mem.length x2] 25 (0, 0))) := heap_alloc_new _ _
  clear rowsX hb2
  go_wp2_with fail
  refine (RD.out _ HC2.out).mono ?_
  rintro r w3 ⟨Y1, Y2, y1, y2, rfl, rowsY, hb3⟩
  have HB3 : Hid (Below w.heap.size w (w3.alloc (.cells #[.slice Y1 text.length y1, .int .i64 ent, .slice Y2 mem.length y2] 25))) := lb_alloc (lb_trans HB2.out hb3) _
  have HC3 : Hid (Below w1.heap.size w1 (w3.alloc (.cells #[.slice Y1 text.length y1, .int .i64 ent, .slice Y2 mem.length y2] 25))) := lb_alloc (lb_trans HC2.out hb3) _
  have HF3 : Hid _ := RowsI.off HX2.out rowsY (by simp)
  have HX3 : Hid (RowsI (w3.alloc (.cells #[.slice Y1 text.length y1, .int .i64 ent, .slice Y2 mem.length y2] 25)) w.heap.size X1 X2 x1 x2 text mem) := HX2'.out.keep (lb_alloc hb3 _)
  have HY3 : Hid (RowsI (w3.alloc (.cells #[.slice Y1 text.length y1, .int .i64 ent, .slice Y2 mem.length y2] 25)) w.heap.size Y1 Y2 y1 y2 text mem) := (RowsI.mono rowsY (by have := HB2.out.size; omega)).keep (lb_alloc (Below.refl _ _) _)
  have hbx3 : Hid _ := lb_box hbx2.out (lb_alloc hb3 (.cells #[.slice Y1 text.length y1, .int .i64 ent, .slice Y2 mem.length y2] 25))
  have hby3 : Hid ((w3.alloc (.cells #[.slice Y1 text.length y1, .int .i64 ent, .slice Y2 mem.length y2] 25)).heap[w3.heap.size]? = some (.cells #[.slice Y1 text.length y1, .int .i64 ent, .slice Y2 mem.length y2] 25 (0, 0))) := heap_alloc_new _ _
  clear rowsY hb3 HX2 HX2' hbx2 HB2 HC2
  go_wp2_with fail
  refine (RR.out _ HB3.out).mono ?_
  rintro r w4 ⟨Z1, Z2, z1, z2, rfl, rowsZ, hb4⟩
  have HB4 : Hid (Below w.heap.size w (w4.alloc (.cells #[.slice Z1 text.length z1, .int .i64 ent, .slice Z2 mem.length z2] 25))) := lb_alloc (lb_trans HB3.out hb4) _
  have HC4 : Hid (Below w1.heap.size w1 (w4.alloc (.cells #[.slice Z1 text.length z1, .int .i64 ent, .slice Z2 mem.length z2] 25))) := lb_alloc (lb_trans HC3.out hb4) _
  have HX4 : Hid (RowsI (w4.alloc (.cells #[.slice Z1 text.length z1, .int .i64 ent, .slice Z2 mem.length z2] 25)) w.heap.size X1 X2 x1 x2 text mem) := HX3.out.keep (lb_alloc hb4 _)
  have HY4 : Hid (RowsI (w4.alloc (.cells #[.slice Z1 text.length z1, .int .i64 ent, .slice Z2 mem.length z2] 25)) w.heap.size Y1 Y2 y1 y2 text mem) := HY3.out.keep (lb_alloc hb4 _)
  have HZ4 : Hid (RowsI (w4.alloc (.cells #[.slice Z1 text.length z1, .int .i64 ent, .slice Z2 mem.length z2] 25)) w.heap.size Z1 Z2 z1 z2 text mem) := (RowsI.mono rowsZ (by have := HB3.out.size; omega)).keep (lb_alloc (Below.refl _ _) _)
  have hbx4 : Hid _ := lb_box hbx3.out (lb_alloc hb4 (.cells #[.slice Z1 text.length z1, .int .i64 ent, .slice Z2 mem.length z2] 25))
  have hby4 : Hid _ := lb_box hby3.out (lb_alloc hb4 (.cells #[.slice Z1 text.length z1, .int .i64 ent, .slice Z2 mem.length z2] 25))
  have hbz4 : Hid ((w4.alloc (.cells #[.slice Z1 text.length z1, .int .i64 ent, .slice Z2 mem.length z2] 25)).heap[w4.heap.size]? = some (.cells #[.slice Z1 text.length z1, .int .i64 ent, .slice Z2 mem.length z2] 25 (0, 0))) := heap_alloc_new _ _
  clear rowsZ hb4 HX3 HY3 hbx3 hby3 HB3 HC3 RD RR HGV
  obtain ⟨d0, d1, d2⟩ := box3_cell hbx4.out
  go_wp2_with fail
  refine (eqimg_same X1 X2 Z1 Z2 x1 x2 z1 z2 text mem ent _ (row_ints HX4.out.r1) (row_ints HX4.out.r2) (row_ints HZ4.out.r1) (row_ints HZ4.out.r2) (by omega) (by omega)).mono ?_
  rintro r w5 ⟨rfl, hb5⟩
  have HD5 : Hid (Below (w4.alloc (.cells #[.slice Z1 text.length z1, .int .i64 ent, .slice Z2 mem.length z2] 25)).heap.size (w4.alloc (.cells #[.slice Z1 text.length z1, .int .i64 ent, .slice Z2 mem.length z2] 25)) w5) := hb5
  have hby5 : Hid _ := lb_box hby4.out hb5
  have hbz5 : Hid _ := lb_box hbz4.out hb5
  have HY5 : Hid _ := HY4.out.keep hb5
  have HZ5 : Hid _ := HZ4.out.keep hb5
  clear hb5 d0 d1 d2
  obtain ⟨d0, d1, d2⟩ := box3_cell hby5.out
  obtain ⟨e0, e1, e2⟩ := box3_cell hbz5.out
  go_wp2_with fail
  refine (eqimg_same Y1 Y2 Z1 Z2 y1 y2 z1 z2 text mem ent _ (row_ints HY5.out.r1) (row_ints HY5.out.r2) (row_ints HZ5.out.r1) (row_ints HZ5.out.r2) (by omega) (by omega)).mono ?_
  rintro r w6 ⟨rfl, hb6⟩
  have HD6 : Hid (Below (w4.alloc (.cells #[.slice Z1 text.length z1, .int .i64 ent, .slice Z2 mem.length z2] 25)).heap.size (w4.alloc (.cells #[.slice Z1 text.length z1, .int .i64 ent, .slice Z2 mem.length z2] 25)) w6) := lb_trans HD5.out hb6
  have S1 := sum_any (some ⟨g, 0, none⟩) (zs.length + 64) zs w6 (HKI.out.keep (lb_trans HC4.out HD6.out)) hAz (by omega)
  have S2 := refsum_any O cap zs w6 (hZ.keep (lb_trans HB4.out HD6.out)) hAz (by omega)
  have EB := eqbytes_any (some ⟨g, 0, none⟩) O (zs.length + 64) cap zs zs w6 (HKI.out.keep (lb_trans HC4.out HD6.out)) (hZ.keep (lb_trans HB4.out HD6.out)) (by omega)
  rw [decide_eq_true rfl] at EB
  generalize sumB zs = s at S1 S2
  have hs2 : (s != s) = false := by simp
  clear hb6 d0 d1 d2 e0 e1 e2 hby5 hbz5 HY5 HZ5 HD5 hbz4 HZ4
  go_wp2_with fail
  refine S1.mono ?_
  rintro r w6' ⟨rfl, rfl⟩
  go_wp2_with fail
  refine S2.mono ?_
  rintro r w6'' ⟨rfl, rfl⟩
  go_wp2_with fail
  refine EB.mono ?_
  rintro r w7 ⟨rfl, hb7⟩
  have HD7 : Hid (Below (w4.alloc (.cells #[.slice Z1 text.length z1, .int .i64 ent, .slice Z2 mem.length z2] 25)).heap.size (w4.alloc (.cells #[.slice Z1 text.length z1, .int .i64 ent, .slice Z2 mem.length z2] 25)) w7) := lb_trans HD6.out hb7
  clear hb7 EB HD6 S1 S2
  go_wp2_with fail
  refine (sparebytes_any g zs.length w7 (HKM.out.keep (lb_trans HC4.out HD7.out)) (by omega)).mono ?_
  rintro r w8 ⟨rfl, rfl⟩
  have HB8 : Hid (Below w.heap.size w w8) := lb_trans HB4.out HD7.out
  have hbx8 : Hid _ := lb_box hbx4.out HD7.out
  have hby8 : Hid _ := lb_box hby4.out HD7.out
  have HX8 : Hid _ := HX4.out.keep HD7.out
  have HY8 : Hid _ := HY4.out.keep HD7.out
  clear hbx4 hby4 HX4 HY4 HD7 HC4 HB4 HKI HKM
  have HG8 : Hid (BagT w8.heap.size w8.heap.size (fun _ => .slice none 0 0) (w8.alloc (.cells #[.slice none 0 0, .slice none 0 0, .slice none 0 0, .slice none 0 0, .slice none 0 0, .slice none 0 0, .slice none 0 0, .slice none 0 0, .slice none 0 0, .slice none 0 0, .slice none 0 0, .slice none 0 0, .slice none 0 0, .slice none 0 0, .slice none 0 0, .slice none 0 0, .slice none 0 0] 56)) [] []) := ⟨bag_new w8, World.ownsRow_nil _ _ _ _, World.ownsRow_nil _ _ _ _⟩
  have HN8 : Hid (Below w8.heap.size w8 (w8.alloc (.cells #[.slice none 0 0, .slice none 0 0, .slice none 0 0, .slice none 0 0, .slice none 0 0, .slice none 0 0, .slice none 0 0, .slice none 0 0, .slice none 0 0, .slice none 0 0, .slice none 0 0, .slice none 0 0, .slice none 0 0, .slice none 0 0, .slice none 0 0, .slice none 0 0, .slice none 0 0] 56))) := lb_alloc (Below.refl _ _) _
  have hbx9 : Hid _ := lb_box hbx8.out HN8.out
  obtain ⟨d0, d1, d2⟩ := box3_cell hbx9.out
  go_wp2_with fail
  refine (addimg_any w8.heap.size w8.heap.size _ [] [] ent X1 X2 text.length mem.length x1 x2 _ (Nat.le_refl _) HG8.out (by simp) (by simp)).mono ?_
  rintro r wa ⟨rfl, f1, hg1, hf1, hb1⟩
  have HGa : Hid _ := hg1
  have HNa : Hid (Below w8.heap.size w8 wa) := Below.trans HN8.out hb1
  have hf1' : Hid _ := hf1
  have hbya : Hid _ := lb_box hby8.out HNa.out
  clear hg1 hb1 hf1 HG8 HN8 d0 d1 d2 hbx8 hbx9
  obtain ⟨d0, d1, d2⟩ := box3_cell hbya.out
  go_wp2_with fail
  refine (addimg_any w8.heap.size w8.heap.size _ _ _ ent Y1 Y2 text.length mem.length y1 y2 _ (Nat.le_refl _) HGa.out (by simp) (by simp)).mono ?_
  rintro r wb ⟨rfl, f2, hg2, hf2, hb2⟩
  have HNb : Hid (Below w8.heap.size w8 wb) := Below.trans HNa.out hb2
  have HBb : Hid (Below w.heap.size w wb) := lb_trans HB8.out HNb.out
  have HXb : Hid _ := HX8.out.keep HNb.out
  have HYb : Hid _ := HY8.out.keep HNb.out
  obtain ⟨F1, F2⟩ := HF3.out
  have AP : Hid _ := apartI w8.heap.size f2 [(.slice X2 mem.length x2, mem.length), (.slice Y2 mem.length y2, mem.length)] [(.slice X1 text.length x1, text.length), (.slice Y1 text.length y1, text.length)] wb hg2.bag (ownsRow_mono hg2.r4 (Nat.zero_le _)) (ownsRow_mono hg2.r5 (Nat.zero_le _))
    (fun k h0 h1 h2 => (hf2 k h1 h2).trans (hf1'.out k h1 h2))
    ⟨two_all ⟨_, ownsRow_mono HXb.out.r2 (Nat.zero_le _)⟩ ⟨_, ownsRow_mono HYb.out.r2 (Nat.zero_le _)⟩, two_all ⟨_, ownsRow_mono HXb.out.r1 (Nat.zero_le _)⟩ ⟨_, ownsRow_mono HYb.out.r1 (Nat.zero_le _)⟩, fun m hm => by simp at hm, fun m hm => by simp at hm⟩
    (sep_two F2) (sep_two F1) (by simp) (by simp) (rl_two (by omega) (by omega)) (rl_two (by omega) (by omega))
  have HQ : Hid (∀ b, Pk [(.slice X2 mem.length x2, mem.length), (.slice Y2 mem.length y2, mem.length)] [(.slice X1 text.length x1, text.length), (.slice Y1 text.length y1, text.length)] [] [] 17 b → w.heap.size ≤ b) := fun b hb => by
    rcases hb with ⟨-, h⟩ | ⟨-, h⟩ | ⟨-, h⟩ | ⟨-, h⟩
    · exact off_two (fun k e => (HXb.out.r2.lt k e).1) (fun k e => (HYb.out.r2.lt k e).1) b h
    · exact off_two (fun k e => (HXb.out.r1.lt k e).1) (fun k e => (HYb.out.r1.lt k e).1) b h
    · obtain ⟨m, hm, _⟩ := h; simp at hm
    · obtain ⟨m, hm, _⟩ := h; simp at hm
  clear hg2 hb2 hf2 HGa HNa hf1' d0 d1 d2 hbya hby8 HX8 HY8 HXb HYb F1 F2 HF3
  go_wp2_with fail
  refine (Calls.mono AP.out ?_)
  rintro r wc ⟨rfl, hfr⟩
  have HBc : Hid (Below w.heap.size w wc) := hfr.below HBb.out HBb.out.size HQ.out
  clear hfr AP HQ
  go_wp2_with fail
  refine (LV _ HBc.out).mono ?_
  rintro r wd ⟨rfl, hbd⟩
  have HBd : Hid (Below w.heap.size w wd) := lb_trans HBc.out hbd
  clear hbd
  go_wp2
  go_ret
  exact ⟨rfl, HBd.out⟩

end Go.Proofs.YtfaekkbblpfbhaaDoor
