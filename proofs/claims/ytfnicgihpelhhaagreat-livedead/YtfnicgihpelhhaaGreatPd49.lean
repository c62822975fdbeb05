/-
  Edges of the document, by what it answers. Blocks of the document: the least sets of live registers. leastSets of package live: the least sets of an image that may be. live.Blocks and live.Behind, by what they answer.
-/
import Derived.Test.YtfnicgihpelhhaaGreatProg
import Derived.WalkKit
import Derived.WalkSpells
import Derived.WalkLawsBesides
import Derived.RowKit3
import Derived.Below
import Derived.Deep.QuietTactic
import Derived.BigQuiet
import Derived.WalkSmall
import Derived.Laws.Rows
import Derived.Lib.QuietBelow
import Derived.Test.YtfnicgihpelhhaaGreatPd47
import Derived.Test.YtfnicgihpelhhaaGreatPd48
import Derived.Test.YtfnicgihpelhhaaGreatPd46
import Derived.Test.YtfnicgihpelhhaaGreatPd32
import Derived.Test.YtfnicgihpelhhaaGreatPd42
import Derived.Test.YtfnicgihpelhhaaGreatPd45
import Derived.Test.YtfnicgihpelhhaaGreatPd33
import Derived.Test.YtfnicgihpelhhaaGreatPd20
import Derived.Test.YtfnicgihpelhhaaGreatPd38
namespace Go.Proofs.YtfnicgihpelhhaaGreat
open Go.RowKit

open Go.Sort in
set_option maxRecDepth 100000 in
set_option maxHeartbeats 8000000 in
theorem refedges_any (A1 A2 : Option Addr) (c1 ml c2 : Nat) (ent : Int) (text : List Int) (w : World) (hT : IntsAt w A1 .u32 text) (hR : ∀ i, i < text.length → 0 ≤ nth text i ∧ nth text i < 4294967296) (hM : MayI text ml ent) :
    Calls Tryz.prog 28 #[.agg #[.slice A1 text.length c1, .int .i64 ent, .slice A2 ml c2]] w (ZP (edgT text ent (blkL text ent).length) w) := by
  obtain ⟨iI, hi, hz0, hz1, hz2⟩ := infoI
  obtain ⟨iS, hy, hy0, hy1, hy2⟩ := infoS
  have hl : text.length ≤ 16384 := hM.past.len
  have hLt := blk_len_le text ent
  obtain ⟨W, HW⟩ : ∃ W, Hid (w.alloc (.cells #[.slice A1 text.length c1, .int .i64 ent, .slice A2 ml c2] 25) = W) := ⟨_, rfl⟩
  have HB : Hid (Below w.heap.size w W) := by unfold Hid; rw [← HW.out]; exact lb_alloc (Below.refl _ _) _
  have i0 : W.cell? ⟨w.heap.size, 0, none⟩ = some (.slice A1 text.length c1) := by rw [← HW.out]; simp [go_sem]
  have i1 : W.cell? ⟨w.heap.size, 1, none⟩ = some (.int .i64 ent) := by rw [← HW.out]; simp [go_sem]
  have i2 : W.cell? ⟨w.heap.size, 2, none⟩ = some (.slice A2 ml c2) := by rw [← HW.out]; simp [go_sem]
  have C1 := refblocks_any A1 A2 c1 ml c2 ent text W (hT.keep HB.out) hR hM
  have C2 := fun wx (hx : Below w.heap.size w wx) => refmark1_any A1 A2 c1 ml c2 ent text wx (hT.keep hx) hR hM
  have C3 := fun wx (hx : Below w.heap.size w wx) => refmark2_any A1 A2 c1 ml c2 ent text wx (hT.keep hx) hR hM
  have HT : Hid (IntsAt w A1 .u32 text) := hT
  have HR : Hid _ := hR
  clear hT hR hM
  go_enter Tryz.func28, Tryz.ntmps28
  go_upto_region 1 with fail
  rw [HW.out]
  clear HW
  go_upto_region 4 with (first
    | (go_at_call 27; refine C1.mono ?_; rintro e w1 ⟨B, cB, rfl, hrl, hb1⟩; have HB1 : Hid (Below w.heap.size w w1) := lb_trans HB.out hb1; have HL1 : Hid (RelsAt w1 B (blkL text ent)) := hrl; have m0 := lkeep hb1 i0; have m1 := lkeep hb1 i1; have m2 := lkeep hb1 i2; clear hrl hb1 i0 i1 i2 C1)
    | (go_at_call 55; refine (C2 _ HB1.out).mono ?_; rintro e w2 ⟨g1, rfl, hm1, hb2⟩; have HB2 : Hid (Below w.heap.size w w2) := lb_trans HB1.out hb2; have HL2 : Hid (RelsAt w2 B (blkL text ent)) := HL1.out.keep hb2; have HK2 : Hid (BlsAt w2 g1 text.length (takF text)) := hm1; have n0 := lkeep hb2 m0; have n1 := lkeep hb2 m1; have n2 := lkeep hb2 m2; clear hm1 hb2 m0 m1 m2 C2 HL1)
    | (go_at_call 55; refine (C3 _ HB2.out).mono ?_; rintro e w3 ⟨g2, rfl, hm2, hb3⟩; have HBw : Hid (Below w.heap.size w w3) := lb_trans HB2.out hb3; have HBl : Hid (RelsAt w3 B (blkL text ent)) := HL2.out.keep hb3; have HTk : Hid (BlsAt w3 g1 text.length (takF text)) := HK2.out.keep hb3; have HSt : Hid (BlsAt w3 g2 text.length (sitF text)) := hm2; have HX3 : Hid (w3.cell? ⟨w.heap.size, 0, none⟩ = some (.slice A1 text.length c1)) := lkeep hb3 n0; clear hm2 hb3 n0 n1 n2 C3 HL2 HK2))
  have HT3 : Hid (IntsAt w3 A1 .u32 text) := HT.out.keep HBw.out
  clear HB HB1 HB2 HT
  go_wp2
  go_loopw [6, 7] (fun v i wr => ∃ (k : Nat) (O : Option Addr) (c : Nat) (vs : List Value), i = .int .i64 k ∧ v = .slice O k c ∧ k ≤ (blkL text ent).length ∧ Hid (RowsZ wr w3.heap.size v vs (edgT text ent k)) ∧ Hid (Below w3.heap.size w3 wr)) (fun _ i _ => (blkL text ent).length - (intOf i).toNat)
  case atStart => exact ⟨0, none, 0, [], rfl, rfl, Nat.zero_le _, RowsZ.nil _ _, Below.refl _ _⟩
  case round =>
    obtain ⟨k, O, c, vs, rfl, rfl, hk, HZ, HB⟩ := hrel
    by_cases hlt : k < (blkL text ent).length
    · have hlt' : (k : Int) < ((blkL text ent).length : Int) := by omega
      have HLk : Hid ((edgT text ent k).length = k) := edgT_len text ent k
      have HT1 : Hid (edgT text ent (k + 1) = edgT text ent k ++ [plcT (edgR text ent k) (blkL text ent).length]) := edgT_succ text ent k
      obtain ⟨b, eb, q0, q1⟩ := (HBl.out.keep HB.out) k hlt
      subst eb
      obtain ⟨f0, f1, f2⟩ := blk_in hlt
      obtain ⟨m, hm⟩ : ∃ m : Nat, rSym (blkL text ent) k = (m : Int) + 1 := ⟨(rSym (blkL text ent) k - 1).toNat, by omega⟩
      have hml : m < text.length := by omega
      have hml' : (m : Int) < (text.length : Int) := by omega
      obtain ⟨a, ea, qt⟩ := (HT3.out.keep HB.out) m hml
      subst ea
      obtain ⟨v0, v1⟩ := HR.out m hml
      have HV : Hid (nth text m = lastW text ent k) := by unfold Hid lastW; rw [hm, show ((m : Int) + 1 - 1).toNat = m by omega]
      have x0 := lkeep HB.out HX3.out
      replace q1 : wr.cell? ⟨(b.add (k * 2)).block, (b.add (k * 2)).off + 1, none⟩ = some (.int .i64 ((m : Int) + 1)) := by rw [← hm]; exact q1
      generalize edgT text ent k = LL at *
      generalize nth text m = lw at *
      clear hm f0 f1 f2
      have hwr : IntKind.i64.wrap (m : Int) = (m : Int) := by simp [IntKind.wrap, IntKind.signed, IntKind.bits]; omega
      have hwr2 : IntKind.i64.wrap ((m : Int) + 1 - 1) = (m : Int) := by rw [show (m : Int) + 1 - 1 = m by omega]; exact hwr
      go_upto_region 9 with fail
      go_quiet (fail)
      clear q0 q1 qt x0
      go_wp2
      go_loopw [8, 10] (fun v i wr => ∃ (j : Nat) (O2 : Option Addr) (c2 : Nat), i = .int .i64 j ∧ v = .slice O2 (plcT (edgR text ent k) j).length c2 ∧ j ≤ (blkL text ent).length ∧ Hid (wr.ownsRow w3.heap.size 3 1 v (plcT (edgR text ent k) j).length (iVals .i64 (plcT (edgR text ent k) j))) ∧ Hid (RowsZ wr w3.heap.size (.slice O k c) vs LL) ∧ Hid (Offs vs k v) ∧ Hid (Below w3.heap.size w3 wr)) (fun _ i _ => (blkL text ent).length - (intOf i).toNat)
      case atStart => exact ⟨0, none, 0, rfl, rfl, Nat.zero_le _, World.ownsRow_nil _ _ _ _, (by first | exact HZ | exact HZ.out.keep (below_drewN (Below.refl _ _) _)), offs_nil _ _, (by first | exact HB | exact below_drewN HB.out _)⟩
      case round =>
        clear HZ HB
        obtain ⟨j, O2, c2, rfl, rfl, hj, HRw, HZ, HOf, HB⟩ := hrel
        have hpl := plcT_len (edgR text ent k) j
        by_cases hjl : j < (blkL text ent).length
        · have hjl' : (j : Int) < ((blkL text ent).length : Int) := by omega
          obtain ⟨b2, eb, d0, _⟩ := (HBl.out.keep HB.out) j hjl
          obtain rfl : b = b2 := by injection eb
          clear eb
          obtain ⟨p0, p1, p2⟩ := blk_in hjl
          have p3 : rAt (blkL text ent) j < (text.length : Int) := by omega
          have hk0 := (HTk.out.keep HB.out).cell p0 p3
          have hs0 := (HSt.out.keep HB.out).cell p0 p3
          have C := fun wx => goes_any lw (rAt (blkL text ent) j) ((j : Int) == (k : Int) + 1) (takF text (rAt (blkL text ent) j) || sitF text (rAt (blkL text ent) j)) v0 v1 wx
          have HBk : Hid (edgR text ent k (j : Int) = goesF (dOp lw) (dN lw) ((j : Int) == (k : Int) + 1) (rAt (blkL text ent) j) (takF text (rAt (blkL text ent) j) || sitF text (rAt (blkL text ent) j))) := by
            unfold Hid edgR edgB
            rw [show ((j : Int)).toNat = j by omega, ← HV.out]
          clear p1 p2
          have hwk : IntKind.i64.wrap ((k : Int) + 1) = (k : Int) + 1 := by simp [IntKind.wrap, IntKind.signed, IntKind.bits]; omega
          generalize rAt (blkL text ent) j = F at *
          generalize sitF text F = st at *
          generalize goesF (dOp lw) (dN lw) ((j : Int) == (k : Int) + 1) F (takF text F || st) = t at *
          cases t with
          | false =>
            have HP : Hid (plcT (edgR text ent k) (j + 1) = plcT (edgR text ent k) j) := plcT_no HBk.out
            clear HBk
            go_upto_region 13 with fail
            cases hq : takF text F with
            | true =>
              rw [hq] at hk0 C
              simp only [Bool.true_or] at C
              clear hq
              have d0 := cell_regrown d0
              have hk0 := cell_regrown hk0
              have hs0 := cell_regrown hs0
              have cC := fun d os => Calls.regrown_of (C (grow (redrawn wr d) os))
              clear C
              refine wp_region_quiet_below (by kernel_rfl) (by kernel_rfl) ?_
              repeat (go_big_quiet_step (exact cC _ _))
              refine wpQuiet_nil ?_
              intro w5 hw5
              obtain ⟨pw, hw5⟩ := hw5
              have HB5 : Hid (Below wr.heap.size wr w5) := by unfold Hid; rw [hw5]; exact below_regrown wr pw.d pw.os
              clear hw5 pw d0 hk0 hs0 cC
              go_wp2_with fail
              go_roundw
              case rel => exact ⟨j + 1, O2, c2, by go_num, by rw [HP.out], by omega, by rw [HP.out]; exact row_keep HRw.out HB5.out, HZ.out.keep HB5.out, HOf, lb_trans HB.out HB5.out⟩
              case measure => simp [intOf]; omega
            | false =>
              rw [hq] at hk0 C
              simp only [Bool.false_or] at C
              clear hq
              have d0 := cell_regrown d0
              have hk0 := cell_regrown hk0
              have hs0 := cell_regrown hs0
              have cC := fun d os => Calls.regrown_of (C (grow (redrawn wr d) os))
              clear C
              refine wp_region_quiet_below (by kernel_rfl) (by kernel_rfl) ?_
              repeat (go_big_quiet_step (exact cC _ _))
              refine wpQuiet_nil ?_
              intro w5 hw5
              obtain ⟨pw, hw5⟩ := hw5
              have HB5 : Hid (Below wr.heap.size wr w5) := by unfold Hid; rw [hw5]; exact below_regrown wr pw.d pw.os
              clear hw5 pw d0 hk0 hs0 cC
              go_wp2_with fail
              go_roundw
              case rel => exact ⟨j + 1, O2, c2, by go_num, by rw [HP.out], by omega, by rw [HP.out]; exact row_keep HRw.out HB5.out, HZ.out.keep HB5.out, HOf, lb_trans HB.out HB5.out⟩
              case measure => simp [intOf]; omega
          | true =>
            have HP : Hid (plcT (edgR text ent k) (j + 1) = plcT (edgR text ent k) j ++ [(j : Int)]) := plcT_yes HBk.out
            clear HBk
            go_upto_region 13 with fail
            cases hq : takF text F with
            | true =>
              rw [hq] at hk0 C
              simp only [Bool.true_or] at C
              clear hq
              have d0 := cell_regrown d0
              have hk0 := cell_regrown hk0
              have hs0 := cell_regrown hs0
              have cC := fun d os => Calls.regrown_of (C (grow (redrawn wr d) os))
              clear C
              refine wp_region_quiet_below (by kernel_rfl) (by kernel_rfl) ?_
              repeat (go_big_quiet_step (exact cC _ _))
              refine wpQuiet_nil ?_
              intro w5 hw5
              obtain ⟨pw, hw5⟩ := hw5
              have HB5 : Hid (Below wr.heap.size wr w5) := by unfold Hid; rw [hw5]; exact below_regrown wr pw.d pw.os
              clear hw5 pw d0 hk0 hs0 cC
              have HBx : Hid (Below wr.heap.size wr (w5.alloc (.cells #[.int .i64 (j : Int)] 3))) := lb_alloc HB5.out _
              have HBa : Hid (Below w3.heap.size w3 (w5.alloc (.cells #[.int .i64 (j : Int)] 3))) := lb_trans HB.out HBx.out
              have HRa : Hid ((w5.alloc (.cells #[.int .i64 (j : Int)] 3)).ownsRow w3.heap.size 3 1 (.slice O2 (plcT (edgR text ent k) j).length c2) (plcT (edgR text ent k) j).length (iVals .i64 (plcT (edgR text ent k) j))) := row_keep HRw.out HBx.out
              have HZa : Hid (RowsZ (w5.alloc (.cells #[.int .i64 (j : Int)] 3)) w3.heap.size (.slice O k c) vs LL) := HZ.out.keep HBx.out
              have HOfL : Hid (Offs vs LL.length (.slice O2 (plcT (edgR text ent k) j).length c2)) := offs_at HOf.out HLk.out.symm
              generalize plcT (edgR text ent k) j = P at *
              go_upto_region 12 with (at_builtin; go_loud (refine wpList_append_at _ rfl (.tmp 68) (.tmp 70) 72 rfl w3.heap.size 3 iI (.int .i64 0) 1 8 Tryz.underlying72 hi hz0 hz1 hz2 rfl (by decide) (.slice O2 P.length c2) P.length (iVals .i64 P) rfl HRa.out ⟨w5.heap.size, 0, none⟩ 1 1 [.int .i64 (j : Int)] rfl rfl (fun j u hu => World.news_of_block (newAtK rfl) j u hu) one_oneI (by omega) (by unfold maxLen; omega) (by omega) HBa.out.size ?_; intro g3 cap3 w4 hown hgrow hloc; have HR3 : Hid (w4.ownsRow w3.heap.size 3 1 (.slice (some ⟨g3, 0, none⟩) (P.length + 1) cap3) (plcT (edgR text ent k) (j + 1)).length (iVals .i64 (plcT (edgR text ent k) (j + 1)))) := (by rw [Hid, HP.out, iVals_snoc, List.length_append]; exact hown); have HLn : Hid ((plcT (edgR text ent k) (j + 1)).length = P.length + 1) := (by rw [Hid, HP.out, List.length_append]; rfl); have HB3 : Hid (Below w3.heap.size w3 w4) := HBa.out.grown hgrow HBa.out.size (fun b hb => (HRa.out.lt b hb).1); have HZ4 : Hid (RowsZ w4 w3.heap.size (.slice O k c) vs LL) := HZa.out.row_other HRa.out HOfL.out hgrow; have HO4 : Hid (Offs vs k (.slice (some ⟨g3, 0, none⟩) (P.length + 1) cap3)) := offs_at (offs_grow HZa.out HOfL.out hloc) HLk.out; clear hown hgrow hloc))
              go_wp2
              go_roundw
              case rel => exact ⟨j + 1, some ⟨g3, 0, none⟩, cap3, by go_num, by rw [HLn.out], by omega, HR3, HZ4, HO4, HB3⟩
              case measure => simp [intOf]; omega
            | false =>
              rw [hq] at hk0 C
              simp only [Bool.false_or] at C
              clear hq
              have d0 := cell_regrown d0
              have hk0 := cell_regrown hk0
              have hs0 := cell_regrown hs0
              have cC := fun d os => Calls.regrown_of (C (grow (redrawn wr d) os))
              clear C
              refine wp_region_quiet_below (by kernel_rfl) (by kernel_rfl) ?_
              repeat (go_big_quiet_step (exact cC _ _))
              refine wpQuiet_nil ?_
              intro w5 hw5
              obtain ⟨pw, hw5⟩ := hw5
              have HB5 : Hid (Below wr.heap.size wr w5) := by unfold Hid; rw [hw5]; exact below_regrown wr pw.d pw.os
              clear hw5 pw d0 hk0 hs0 cC
              have HBx : Hid (Below wr.heap.size wr (w5.alloc (.cells #[.int .i64 (j : Int)] 3))) := lb_alloc HB5.out _
              have HBa : Hid (Below w3.heap.size w3 (w5.alloc (.cells #[.int .i64 (j : Int)] 3))) := lb_trans HB.out HBx.out
              have HRa : Hid ((w5.alloc (.cells #[.int .i64 (j : Int)] 3)).ownsRow w3.heap.size 3 1 (.slice O2 (plcT (edgR text ent k) j).length c2) (plcT (edgR text ent k) j).length (iVals .i64 (plcT (edgR text ent k) j))) := row_keep HRw.out HBx.out
              have HZa : Hid (RowsZ (w5.alloc (.cells #[.int .i64 (j : Int)] 3)) w3.heap.size (.slice O k c) vs LL) := HZ.out.keep HBx.out
              have HOfL : Hid (Offs vs LL.length (.slice O2 (plcT (edgR text ent k) j).length c2)) := offs_at HOf.out HLk.out.symm
              generalize plcT (edgR text ent k) j = P at *
              go_upto_region 12 with (at_builtin; go_loud (refine wpList_append_at _ rfl (.tmp 68) (.tmp 70) 72 rfl w3.heap.size 3 iI (.int .i64 0) 1 8 Tryz.underlying72 hi hz0 hz1 hz2 rfl (by decide) (.slice O2 P.length c2) P.length (iVals .i64 P) rfl HRa.out ⟨w5.heap.size, 0, none⟩ 1 1 [.int .i64 (j : Int)] rfl rfl (fun j u hu => World.news_of_block (newAtK rfl) j u hu) one_oneI (by omega) (by unfold maxLen; omega) (by omega) HBa.out.size ?_; intro g3 cap3 w4 hown hgrow hloc; have HR3 : Hid (w4.ownsRow w3.heap.size 3 1 (.slice (some ⟨g3, 0, none⟩) (P.length + 1) cap3) (plcT (edgR text ent k) (j + 1)).length (iVals .i64 (plcT (edgR text ent k) (j + 1)))) := (by rw [Hid, HP.out, iVals_snoc, List.length_append]; exact hown); have HLn : Hid ((plcT (edgR text ent k) (j + 1)).length = P.length + 1) := (by rw [Hid, HP.out, List.length_append]; rfl); have HB3 : Hid (Below w3.heap.size w3 w4) := HBa.out.grown hgrow HBa.out.size (fun b hb => (HRa.out.lt b hb).1); have HZ4 : Hid (RowsZ w4 w3.heap.size (.slice O k c) vs LL) := HZa.out.row_other HRa.out HOfL.out hgrow; have HO4 : Hid (Offs vs k (.slice (some ⟨g3, 0, none⟩) (P.length + 1) cap3)) := offs_at (offs_grow HZa.out HOfL.out hloc) HLk.out; clear hown hgrow hloc))
              go_wp2
              go_roundw
              case rel => exact ⟨j + 1, some ⟨g3, 0, none⟩, cap3, by go_num, by rw [HLn.out], by omega, HR3, HZ4, HO4, HB3⟩
              case measure => simp [intOf]; omega
        · obtain rfl : j = (blkL text ent).length := by omega
          have HBx : Hid (Below wr.heap.size wr (wr.alloc (.cells #[.slice O2 (plcT (edgR text ent k) (blkL text ent).length).length c2] 72))) := lb_alloc (Below.refl _ _) _
          have HBa : Hid (Below w3.heap.size w3 (wr.alloc (.cells #[.slice O2 (plcT (edgR text ent k) (blkL text ent).length).length c2] 72))) := lb_alloc HB.out _
          have HRa : Hid ((wr.alloc (.cells #[.slice O2 (plcT (edgR text ent k) (blkL text ent).length).length c2] 72)).ownsRow w3.heap.size 3 1 (.slice O2 (plcT (edgR text ent k) (blkL text ent).length).length c2) (plcT (edgR text ent k) (blkL text ent).length).length (iVals .i64 (plcT (edgR text ent k) (blkL text ent).length))) := row_keep HRw.out HBx.out
          have HZa : Hid (RowsZ (wr.alloc (.cells #[.slice O2 (plcT (edgR text ent k) (blkL text ent).length).length c2] 72)) w3.heap.size (.slice O k c) vs LL) := HZ.out.keep HBx.out
          have HVs : Hid (vs.length = k) := by rw [Hid, HZa.out.len, HLk.out]
          have HBg : Hid ((wr.alloc (.cells #[.slice O2 (plcT (edgR text ent k) (blkL text ent).length).length c2] 72)).ownsRow w3.heap.size 72 1 (.slice O k c) k vs) := by have := HZa.out.bag; rwa [HLk.out] at this
          generalize plcT (edgR text ent k) (blkL text ent).length = P at *
          go_upto_region 7 with (at_builtin; go_loud (refine wpList_append_own _ rfl (.tmp 72) (.tmp 74) 70 rfl w3.heap.size 72 iS (.slice none 0 0) 1 24 Tryz.underlying70 hy hy0 hy1 hy2 rfl (by decide) (.slice O k c) k vs rfl HBg.out ⟨wr.heap.size, 0, none⟩ 1 1 [.slice O2 P.length c2] rfl rfl (fun j u hu => World.news_of_block (newAtK rfl) j u hu) one_slice (by unfold maxLen; omega) (by omega) HBa.out.size ?_; intro v3 w4 hown hgrow _; have HZ4 : Hid (RowsZ w4 w3.heap.size v3 (vs ++ [.slice O2 P.length c2]) (LL ++ [P])) := HZa.out.add HRa.out (by rw [HLk.out]; exact hown) hgrow; have HV4 : Hid (w4.ownsRow w3.heap.size 72 1 v3 (k + 1) (vs ++ [.slice O2 P.length c2])) := hown; have HB3 : Hid (Below w3.heap.size w3 w4) := HBa.out.grown hgrow HBa.out.size (fun b hb => (HBg.out.lt b hb).1); clear hown hgrow))
          obtain ⟨A5, c5, e5⟩ := own_sl HV4.out
          subst e5
          go_wp2
          go_roundw
          case rel => exact ⟨k + 1, A5, c5, _, by go_num, rfl, by omega, by rw [HT1.out]; exact HZ4, HB3⟩
          case measure => simp [intOf]; omega
    · obtain rfl : k = (blkL text ent).length := by omega
      go_wp2
      go_ret
      exact ⟨O, c, vs, by rw [edgT_len]; rfl, by rw [edgT_len]; exact HZ.out.mono HBw.out.size, lb_trans HBw.out HB.out⟩



end Go.Proofs.YtfnicgihpelhhaaGreat

namespace Go.Proofs.YtfnicgihpelhhaaGreat
open Go.RowKit

set_option maxRecDepth 100000 in
set_option maxHeartbeats 8000000 in
theorem refsets_any (A1 A2 : Option Addr) (c1 ml c2 : Nat) (ent : Int) (text : List Int) (w : World) (hT : IntsAt w A1 .u32 text) (hR : ∀ i, i < text.length → 0 ≤ nth text i ∧ nth text i < 4294967296) (hM : MayI text ml ent) (hc : text.length ≤ c1) :
    Calls Tryz.prog 11 #[.agg #[.slice A1 text.length c1, .int .i64 ent, .slice A2 ml c2]] w (SetP text ent w) := by
  have hl : text.length ≤ 16384 := hM.past.len
  have hLt := blk_len_le text ent
  obtain ⟨a1, ea1, _⟩ := hT 0 hM.past.pos
  subst ea1
  have HEl : Hid ((edgT text ent (blkL text ent).length).length = (blkL text ent).length) := edgT_len text ent _
  have HEi : Hid (Inn (edgT text ent (blkL text ent).length) (blkL text ent).length) := fun k t hk ht => edg_in hk ht
  have HEr : Hid (∀ k, k < (blkL text ent).length → (rowZ (edgT text ent (blkL text ent).length) k).length ≤ 65536) := fun k hk => by
    rw [edg_row hk]
    have := plcT_len (edgR text ent k) (blkL text ent).length
    omega
  have HBi : Hid (∀ i, i < (blkL text ent).length → 0 ≤ rAt (blkL text ent) i ∧ rAt (blkL text ent) i < rSym (blkL text ent) i ∧ rSym (blkL text ent) i ≤ (text.length : Int)) := fun i hi => blk_in hi
  have HRl : Hid (∀ j, blR text ent j < 65536) := fun j => blR_lt text ent j
  have HWl : Hid (∀ j, blW text ent j < 65536) := fun j => blW_lt text ent j
  obtain ⟨W, HW⟩ : ∃ W, Hid (w.alloc (.cells #[.slice (some a1) text.length c1, .int .i64 ent, .slice A2 ml c2] 25) = W) := ⟨_, rfl⟩
  have HB : Hid (Below w.heap.size w W) := by unfold Hid; rw [← HW.out]; exact lb_alloc (Below.refl _ _) _
  have i0 : W.cell? ⟨w.heap.size, 0, none⟩ = some (.slice (some a1) text.length c1) := by rw [← HW.out]; simp [go_sem]
  have i1 : W.cell? ⟨w.heap.size, 1, none⟩ = some (.int .i64 ent) := by rw [← HW.out]; simp [go_sem]
  have i2 : W.cell? ⟨w.heap.size, 2, none⟩ = some (.slice A2 ml c2) := by rw [← HW.out]; simp [go_sem]
  have C1 := refblocks_any (some a1) A2 c1 ml c2 ent text W (hT.keep HB.out) hR hM
  have C2 := fun wx (hx : Below w.heap.size w wx) => refedges_any (some a1) A2 c1 ml c2 ent text wx (hT.keep hx) hR hM
  have C3 : ∀ (i : Nat), i < (blkL text ent).length → ∀ (c : Nat) (wx : World), Below w.heap.size w wx → Calls Tryz.prog 29 #[.slice (some (a1.add (rAt (blkL text ent) i).toNat)) (rSym (blkL text ent) i - rAt (blkL text ent) i).toNat c] wx fun e w' => e = .returned (.tuple #[.int .u16 ((blR text ent i : Nat) : Int), .int .u16 ((blW text ent i : Nat) : Int)]) ∧ Below wx.heap.size wx w' := fun i hi c wx hx => by
    obtain ⟨f0, f1, f2⟩ := blk_in hi
    have hln := cutL_len f0 (by omega) f2
    have h := refall_any (some (a1.add (rAt (blkL text ent) i).toNat)) c (cutL text (rAt (blkL text ent) i) (rSym (blkL text ent) i)) wx (cutL_ints (hT.keep hx) f0 (by omega) f2) (fun j hj => by
      rw [cutL_nth f0 (by omega) f2 hj]
      rw [hln] at hj
      exact hR _ (by omega)) (by omega)
    rw [hln] at h
    exact h
  unfold SetP
  clear hT hR hM
  generalize blR text ent = RR at *
  generalize blW text ent = WW at *
  generalize edgT text ent (blkL text ent).length = EE at *
  generalize blkL text ent = L at *
  have hmk := make_us L.length (by omega)
  go_enter Tryz.func11, Tryz.ntmps11
  go_upto_region 1 with fail
  rw [HW.out]
  clear HW
  go_upto_region 3 with (first
    | (go_at_call 27; refine C1.mono ?_; rintro e w1 ⟨B, cB, rfl, hrl, hb1⟩; have HB1 : Hid (Below w.heap.size w w1) := lb_trans HB.out hb1; have HL1 : Hid (RelsAt w1 B L) := hrl; have m0 := lkeep hb1 i0; have m1 := lkeep hb1 i1; have m2 := lkeep hb1 i2; clear hrl hb1 i0 i1 i2 C1)
    | (go_at_call 28; refine (C2 _ HB1.out).mono ?_; rintro e w2 ⟨A, cA, vs, rfl, hz, hb2⟩; have HB2 : Hid (Below w.heap.size w w2) := lb_trans HB1.out hb2; have HL2 : Hid (RelsAt w2 B L) := HL1.out.keep hb2; have HE : Hid (IntsZ w2 A EE) := hz.ints; have HX0 : Hid (w2.cell? ⟨w.heap.size, 0, none⟩ = some (.slice (some a1) text.length c1)) := lkeep hb2 m0; clear hz hb2 m0 m1 m2 C2 HL1))
  obtain ⟨X, HX⟩ : ∃ X, Hid (w2.alloc (.cells (madeCells #[.int .u16 0] L.length) 43) = X) := ⟨_, rfl⟩
  have HBX : Hid (Below w2.heap.size w2 X) := by unfold Hid; rw [← HX.out]; exact lb_alloc (Below.refl _ _) _
  have HSX : Hid (UsAt X w2.heap.size L.length zeroS) := by unfold Hid; rw [← HX.out]; exact UsAt.made w2 L.length
  have hgx : w2.heap.size < X.heap.size := HSX.out.lt
  go_upto_region 4 with fail
  rw [HX.out]
  clear HX
  obtain ⟨Y, HY⟩ : ∃ Y, Hid (X.alloc (.cells (madeCells #[.int .u16 0] L.length) 43) = Y) := ⟨_, rfl⟩
  have HBY : Hid (Below w2.heap.size w2 Y) := by unfold Hid; rw [← HY.out]; exact lb_alloc HBX.out _
  have HS1 : Hid (UsAt Y w2.heap.size L.length zeroS) := by unfold Hid; rw [← HY.out]; exact HSX.out.keep (lb_alloc (Below.refl _ _) _)
  have HS2 : Hid (UsAt Y X.heap.size L.length zeroS) := by unfold Hid; rw [← HY.out]; exact UsAt.made X L.length
  go_upto_region 5 with fail
  rw [HY.out]
  clear HY hmk HSX HBX
  generalize X.heap.size = g2 at *
  have hne : w2.heap.size ≠ g2 := by omega
  go_wp2
  go_loopw [8] (fun v wr => ∃ (m : Bool) (F G : Int → Nat), v = .bool m ∧ Hid (UsAt wr w2.heap.size L.length F) ∧ Hid (UsAt wr g2 L.length G) ∧ Hid (Grw EE RR WW L.length F G) ∧ Hid (m = false → Lst EE RR WW L.length F G) ∧ Hid (Below w2.heap.size w2 wr)) (fun v wr => 2 * (lowS (cellU wr w2.heap.size) L.length + lowS (cellU wr g2) L.length) + bolOf v)
  case atStart => exact ⟨true, _, _, rfl, HS1, HS2, Grw.zero _ _ _ _, fun h => (by cases h), HBY⟩
  case round =>
    clear HS1 HS2 HBY
    obtain ⟨m, F, G, rfl, HS1, HS2, HN, HC, HBr⟩ := hrel
    cases m with
    | false =>
      go_wp2
      go_ret2
      exact ⟨w2.heap.size, g2, F, G, rfl, HS1.out, HS2.out, (by first | exact HC.out rfl | exact HC.out trivial), fun x => (HN.out.lt x).2, lb_trans HB2.out HBr.out⟩
    | true =>
      have HM0 : Hid (lowS (cellU wr w2.heap.size) L.length + lowS (cellU wr g2) L.length = lowS F L.length + lowS G L.length) := by unfold Hid; rw [HS1.out.low, HS2.out.low]
      clear HC
      go_wp2
      go_loopw [8, 9] (fun v i wr => ∃ (m : Bool) (k : Nat) (x : Int) (F' G' : Int → Nat), v = .bool m ∧ i = .int .i64 x ∧ x = (k : Int) - 1 ∧ k ≤ L.length ∧ Hid (UsAt wr w2.heap.size L.length F') ∧ Hid (UsAt wr g2 L.length G') ∧ Hid (Grw EE RR WW L.length F' G') ∧ Hid (OnS EE RR WW L.length F G F' G' m k) ∧ Hid (Below w2.heap.size w2 wr)) (fun _ i _ => (intOf i + 1).toNat)
      case atStart => exact ⟨false, L.length, (L.length : Int) - 1, F, G, rfl, by go_num, rfl, Nat.le_refl _, HS1, HS2, HN, OnS.zero _ _ _ _ _ _, HBr⟩
      case round =>
        clear HS1 HS2 HN HBr
        obtain ⟨m, kk, x, F', G', rfl, rfl, hx, hk, HS1, HS2, HN, HO, HBr⟩ := hrel
        cases kk with
        | zero =>
          have hx0 : x < 0 := by omega
          have hx1 : ¬ 0 ≤ x := by omega
          have hx2 : decide (0 ≤ x) = false := decide_eq_false hx1
          clear hx
          go_wp2
          go_roundw
          case rel => exact ⟨m, F', G', rfl, HS1, HS2, HN, fun e => HO.out.done HN.out e, HBr⟩
          case measure =>
            rw [HS1.out.low, HS2.out.low, HM0.out]
            cases m with
            | true => have := HO.out.2 rfl; simp [bolOf]; omega
            | false => obtain ⟨e1, e2, _⟩ := HO.out.1 rfl; rw [e1, e2]; simp [bolOf]
        | succ k =>
          have hx2 : x = (k : Int) := by omega
          clear hx
          subst hx2
          have hlt : k < L.length := by omega
          have hlt' : (k : Int) < (L.length : Int) := by omega
          have hkE : k < EE.length := by rw [HEl.out]; exact hlt
          have hkE' : (k : Int) < (EE.length : Int) := by omega
          obtain ⟨a, R, kr, ea, q, qr⟩ := HE.out k hkE
          subst ea
          have HQ : Hid (w2.cell? (a.add k) = some (.slice R (rowZ EE k).length kr)) := q
          have HQr : Hid (IntsAt w2 R .i64 (rowZ EE k)) := qr
          have hrl := HEr.out k hlt
          clear q qr
          go_wp2
          go_loopw [10, 11] (fun o i ws => ∃ j : Nat, i = .int .i64 j ∧ o = .int .u16 ((orE F' (rowZ EE k) j : Nat) : Int) ∧ j ≤ (rowZ EE k).length ∧ Hid (Below wr.heap.size wr ws)) (fun _ i _ => (rowZ EE k).length - (intOf i).toNat)
          case atStart => exact ⟨0, rfl, rfl, Nat.zero_le _, Below.refl _ _⟩
          case round =>
            obtain ⟨j, rfl, rfl, hj, HBs⟩ := hrel
            have HB3 : Hid (Below w2.heap.size w2 _) := lb_trans HBr.out HBs.out
            have q := lkeep HB3.out HQ.out
            by_cases hjl : j < (rowZ EE k).length
            · have hjl' : (j : Int) < ((rowZ EE k).length : Int) := by omega
              obtain ⟨b, eb2, r⟩ := HQr.out j hjl
              subst eb2
              replace r := lkeep HB3.out r
              obtain ⟨z0, z1⟩ := HEi.out k j hlt hjl
              have t0 := (HS1.out.keep HBs.out).cell z0 z1
              have hor := orI (orE_lt (rowZ EE k) (fun x => (HN.out.lt x).1) j) (HN.out.lt (nth (rowZ EE k) j)).1
              have HSt : Hid (orE F' (rowZ EE k) (j + 1) = orE F' (rowZ EE k) j ||| F' (nth (rowZ EE k) j)) := rfl
              generalize orE F' (rowZ EE k) j ||| F' (nth (rowZ EE k) j) = o2 at *
              generalize orE F' (rowZ EE k) j = o at *
              generalize nth (rowZ EE k) j = x at *
              go_wp2
              go_roundw
              case rel => exact ⟨j + 1, by go_num, by rw [HSt.out], by omega, HBs⟩
              case measure => simp [intOf]; omega
            · obtain rfl : j = (rowZ EE k).length := by omega
              obtain ⟨b, eb, q0, q1⟩ := (HL2.out.keep HB3.out) k hlt
              subst eb
              obtain ⟨f0, f1, f2⟩ := HBi.out k hlt
              have x0 := lkeep HB3.out HX0.out
              have hcut := cut_run a1 text.length c1 f0 f1 f2 hc
              have C := fun c wx hw => C3 k hlt c wx hw
              have HG2 : Hid (Grw EE RR WW L.length (putS F' (k : Int) (insN (RR k) (WW k) (orE F' (rowZ EE k) (rowZ EE k).length))) (putS G' (k : Int) (orE F' (rowZ EE k) (rowZ EE k).length))) := HN.out.more HRl.out HWl.out HEi.out hlt
              have HOa : Hid (insN (RR k) (WW k) (orE F' (rowZ EE k) (rowZ EE k).length) = F' (k : Int) → orE F' (rowZ EE k) (rowZ EE k).length = G' (k : Int) → OnS EE RR WW L.length F G (putS F' (k : Int) (insN (RR k) (WW k) (orE F' (rowZ EE k) (rowZ EE k).length))) (putS G' (k : Int) (orE F' (rowZ EE k) (rowZ EE k).length)) m k) := fun e1 e2 => HO.out.keep e1 e2
              have HOb : Hid (insN (RR k) (WW k) (orE F' (rowZ EE k) (rowZ EE k).length) ≠ F' (k : Int) ∨ orE F' (rowZ EE k) (rowZ EE k).length ≠ G' (k : Int) → OnS EE RR WW L.length F G (putS F' (k : Int) (insN (RR k) (WW k) (orE F' (rowZ EE k) (rowZ EE k).length))) (putS G' (k : Int) (orE F' (rowZ EE k) (rowZ EE k).length)) true k) := fun e => HO.out.new HN.out HRl.out HWl.out hlt e
              have hol := orE_lt (rowZ EE k) (fun x => (HN.out.lt x).1) (rowZ EE k).length
              have hless := lessI hol (HWl.out k)
              have hor : bits .or .u16 ((RR k : Nat) : Int) ((lessN (orE F' (rowZ EE k) (rowZ EE k).length) (WW k) : Nat) : Int) = ((insN (RR k) (WW k) (orE F' (rowZ EE k) (rowZ EE k).length) : Nat) : Int) := orI (HRl.out k) (lessN_lt hol)
              generalize insN (RR k) (WW k) (orE F' (rowZ EE k) (rowZ EE k).length) = v at *
              generalize orE F' (rowZ EE k) (rowZ EE k).length = o at *
              generalize RR k = rk at *
              generalize WW k = wk at *
              generalize lessN o wk = lo at *
              generalize rAt L k = fr at *
              generalize rSym L k = tt at *
              go_upto_region 16 with fail
              clear q
              have hXX := Below.refl wr.heap.size wr
              go_region_held3 (fun Z => Below wr.heap.size wr Z ∧ Z.cell? ⟨w.heap.size, 0, none⟩ = some (.slice (some a1) text.length c1) ∧ Z.cell? (b.add (k * 2)) = some (.int .i64 fr) ∧ Z.cell? ⟨(b.add (k * 2)).block, (b.add (k * 2)).off + 1, none⟩ = some (.int .i64 tt)) (first | exact ⟨hXX, x0, q0, q1⟩ | exact ⟨hXX.drew, x0, q0, q1⟩ | exact ⟨hY, lkeep hY x0, lkeep hY q0, lkeep hY q1⟩ | exact ⟨hY.drew, lkeep hY.drew x0, lkeep hY.drew q0, lkeep hY.drew q1⟩)
                (first | (go_at_call 29; refine (C _ _ (by first | exact lb_trans HB2.out HB3.out | exact lb_trans HB2.out (lb_trans HB3.out hXX.drew))).mono ?_; rintro e w5 ⟨rfl, hb5⟩; have hY : Below wr.heap.size wr w5 := (by first | exact hb5 | exact lb_trans hXX.drew hb5); clear hb5))
              rename_i hS
              clear hS hcut C x0 q0 q1 hXX
              have HT1 : Hid (UsAt w5 w2.heap.size L.length F') := HS1.out.keep (lb_trans HBs.out hY)
              have HT2 : Hid (UsAt w5 g2 L.length G') := HS2.out.keep (lb_trans HBs.out hY)
              have HB5 : Hid (Below w2.heap.size w2 w5) := lb_trans HB3.out hY
              clear hY
              have s1 := HT1.out.cellN hlt
              have s2 := HT2.out.cellN hlt
              have s3 := HT1.out.fro k
              obtain ⟨Z, HZ⟩ : ∃ Z, Hid (w5.setCell ⟨w2.heap.size, k, none⟩ (.int .u16 (v : Int)) = Z) := ⟨_, rfl⟩
              have HU1 : Hid (UsAt Z w2.heap.size L.length (putS F' (k : Int) v)) := by unfold Hid; rw [← HZ.out]; exact HT1.out.put hlt v
              have HU2 : Hid (UsAt Z g2 L.length G') := by unfold Hid; rw [← HZ.out]; exact HT2.out.other (Ne.symm hne)
              have HBZ : Hid (Below w2.heap.size w2 Z) := by unfold Hid; rw [← HZ.out]; exact below_setAt HB5.out (Nat.le_refl _) HB5.out.size
              have z2 := HU2.out.cellN hlt
              have z3 := HU2.out.fro k
              have HV1 : Hid (UsAt (Z.setCell ⟨g2, k, none⟩ (.int .u16 (o : Int))) w2.heap.size L.length (putS F' (k : Int) v)) := HU1.out.other hne
              have HV2 : Hid (UsAt (Z.setCell ⟨g2, k, none⟩ (.int .u16 (o : Int))) g2 L.length (putS G' (k : Int) o)) := HU2.out.put hlt o
              have HBV : Hid (Below w2.heap.size w2 (Z.setCell ⟨g2, k, none⟩ (.int .u16 (o : Int)))) := grown_belowR HBZ.out (gset11 _ _ _ _) (by omega) HBZ.out.size
              by_cases e1 : v = F' (k : Int)
              · have d1 : (((v : Nat) : Int) != ((F' (k : Int) : Nat) : Int)) = false := by simp [e1]
                have d2 : (((v : Nat) : Int) == ((F' (k : Int) : Nat) : Int)) = true := by simp [e1]
                by_cases e2 : o = G' (k : Int)
                · have HOc : Hid (OnS EE RR WW L.length F G (putS F' (k : Int) v) (putS G' (k : Int) o) m k) := HOa.out e1 e2
                  have d3 : (((o : Nat) : Int) != ((G' (k : Int) : Nat) : Int)) = false := by simp [e2]
                  have d4 : (((o : Nat) : Int) == ((G' (k : Int) : Nat) : Int)) = true := by simp [e2]
                  clear e1 e2 HOa HOb
                  go_upto_region 21 with fail
                  rw [HZ.out]
                  go_wp2
                  go_roundw
                  case rel => exact ⟨m, k, (k : Int) - 1, _, _, rfl, by go_num, rfl, by omega, HV1, HV2, HG2, HOc, HBV⟩
                  case measure => simp [intOf]
                · have HOc : Hid (OnS EE RR WW L.length F G (putS F' (k : Int) v) (putS G' (k : Int) o) true k) := HOb.out (.inr e2)
                  have d3 : (((o : Nat) : Int) != ((G' (k : Int) : Nat) : Int)) = true := by simp; omega
                  have d4 : (((o : Nat) : Int) == ((G' (k : Int) : Nat) : Int)) = false := by simp; omega
                  clear e1 e2 HOa HOb
                  go_upto_region 21 with fail
                  rw [HZ.out]
                  go_wp2
                  go_roundw
                  case rel => exact ⟨true, k, (k : Int) - 1, _, _, rfl, by go_num, rfl, by omega, HV1, HV2, HG2, HOc, HBV⟩
                  case measure => simp [intOf]
              · have HOc : Hid (OnS EE RR WW L.length F G (putS F' (k : Int) v) (putS G' (k : Int) o) true k) := HOb.out (.inl e1)
                have d1 : (((v : Nat) : Int) != ((F' (k : Int) : Nat) : Int)) = true := by simp; omega
                have d2 : (((v : Nat) : Int) == ((F' (k : Int) : Nat) : Int)) = false := by simp; omega
                clear e1 HOa HOb
                go_upto_region 21 with fail
                rw [HZ.out]
                go_wp2
                go_roundw
                case rel => exact ⟨true, k, (k : Int) - 1, _, _, rfl, by go_num, rfl, by omega, HV1, HV2, HG2, HOc, HBV⟩
                case measure => simp [intOf]


end Go.Proofs.YtfnicgihpelhhaaGreat

namespace Go.Proofs.YtfnicgihpelhhaaGreat
open Go.RowKit

theorem cell_setN {X : World} {g p : Nat} {u v : Value} {a : Addr} (h : X.cell? a = some v) (hne : a.block ≠ g) : (X.setCell ⟨g, p, none⟩ u).cell? a = some v := by
  rw [World.cell?_of_block (Below.heap_setCell _ _ _ _ hne)]; exact h
/-- What leastSets answers. -/
def LsP (text : List Int) (ent : Int) (w : World) (e : Ending) (w' : World) : Prop := ∃ (gi go : Nat) (F G : Int → Nat), e = .returned (.tuple #[.slice (some ⟨gi, 0, none⟩) (blkL text ent).length (blkL text ent).length, .slice (some ⟨go, 0, none⟩) (blkL text ent).length (blkL text ent).length]) ∧ IntsAt w' (some ⟨gi, 0, none⟩) .u16 (setL F (blkL text ent).length) ∧ IntsAt w' (some ⟨go, 0, none⟩) .u16 (setL G (blkL text ent).length) ∧ LstI text ent F G ∧ (∀ x, G x < 65536) ∧ Below w.heap.size w w'
theorem setL_less {w : World} {g n : Nat} {F : Int → Nat} (h : UsAt w g (n + 1) F) : IntsAt w (some ⟨g, 0, none⟩) .u16 (setL F n) := fun i hi => by
  rw [setL_len] at hi
  exact ⟨_, rfl, by rw [add0, setL_nth hi]; exact h.cellN (by omega)⟩
/-- What the first k blocks read, as it is filled in. -/
def filN (R : Nat → Nat) (k : Nat) (x : Int) : Nat := if 0 ≤ x ∧ x < (k : Int) then R x.toNat else 0
theorem filN_zero (R : Nat → Nat) : filN R 0 = zeroS := funext fun x => if_neg (by omega)
theorem filN_step (R : Nat → Nat) (k : Nat) : putS (filN R k) (k : Int) (R k) = filN R (k + 1) := funext fun x => by
  by_cases e : x = (k : Int)
  · subst e
    rw [putS_here]
    unfold filN
    rw [if_pos (by omega), show ((k : Int)).toNat = k by omega]
  · rw [putS_else _ _ e]
    unfold filN
    by_cases h : 0 ≤ x ∧ x < (k : Int)
    · rw [if_pos h, if_pos (by omega)]
    · rw [if_neg h, if_neg (by omega)]
theorem filN_lt {R : Nat → Nat} (k : Nat) (h : ∀ j, R j < 65536) (x : Int) : filN R k x < 65536 := by
  unfold filN
  split
  · exact h _
  · omega
theorem filN_hub (R : Nat → Nat) (n : Nat) : (fun j : Nat => filN R n (j : Int)) = hubN R n := funext fun j => by
  unfold filN hubN
  by_cases h : j < n
  · rw [if_pos (by omega), if_pos h, show ((j : Int)).toNat = j by omega]
  · rw [if_neg (by omega), if_neg h]
theorem blk_pos {text : List Int} {ent : Int} (hn : 0 < text.length) : 0 < (blkL text ent).length := by
  obtain ⟨i, hi, _⟩ := blk_all (ent := ent) hn hn
  omega
set_option maxRecDepth 100000 in
set_option maxHeartbeats 8000000 in
theorem least_any (a1 : Addr) (A2 B : Option Addr) (c1 ml c2 cB : Nat) (ent : Int) (text : List Int) (w : World) (hT : IntsAt w (some a1) .u32 text) (hR : ∀ i, i < text.length → 0 ≤ nth text i ∧ nth text i < 4294967296) (hM : MayI text ml ent) (hc : text.length ≤ c1) (hB : RelsAt w B (blkL text ent)) :
    Calls Tryz.prog 22 #[.agg #[.slice (some a1) text.length c1, .int .i64 ent, .slice A2 ml c2], .slice B (blkL text ent).length cB] w (LsP text ent w) := by
  have hl4 : text.length ≤ 16384 := hM.past.len
  have hLt := blk_len_le text ent
  have hn0 := blk_pos (ent := ent) hM.past.pos
  have HBi : Hid (∀ i, i < (blkL text ent).length → 0 ≤ rAt (blkL text ent) i ∧ rAt (blkL text ent) i < rSym (blkL text ent) i ∧ rSym (blkL text ent) i ≤ (text.length : Int)) := fun i hi => blk_in hi
  have HRl : Hid (∀ j, blR text ent j < 65536) := fun j => blR_lt text ent j
  have HWl : Hid (∀ j, blW text ent j < 65536) := fun j => blW_lt text ent j
  obtain ⟨W, HW⟩ : ∃ W, Hid (w.alloc (.cells #[.slice (some a1) text.length c1, .int .i64 ent, .slice A2 ml c2] 25) = W) := ⟨_, rfl⟩
  have HB : Hid (Below w.heap.size w W) := by unfold Hid; rw [← HW.out]; exact lb_alloc (Below.refl _ _) _
  have i0 : W.cell? ⟨w.heap.size, 0, none⟩ = some (.slice (some a1) text.length c1) := by rw [← HW.out]; simp [go_sem]
  have i1 : W.cell? ⟨w.heap.size, 1, none⟩ = some (.int .i64 ent) := by rw [← HW.out]; simp [go_sem]
  have i2 : W.cell? ⟨w.heap.size, 2, none⟩ = some (.slice A2 ml c2) := by rw [← HW.out]; simp [go_sem]
  have C1 := lflow_any a1 A2 B c1 ml c2 cB ent text W (hT.keep HB.out) hR hM (hB.keep HB.out)
  have C3 : ∀ (i : Nat), i < (blkL text ent).length → ∀ (c : Nat) (wx : World), Below w.heap.size w wx → Calls Tryz.prog 50 #[.slice (some (a1.add (rAt (blkL text ent) i).toNat)) (rSym (blkL text ent) i - rAt (blkL text ent) i).toNat c] wx fun e w' => e = .returned (.tuple #[.int .u16 ((blR text ent i : Nat) : Int), .int .u16 ((blW text ent i : Nat) : Int)]) ∧ Below wx.heap.size wx w' := fun i hi c wx hx => by
    obtain ⟨f0, f1, f2⟩ := blk_in hi
    have hln := cutL_len f0 (by omega) f2
    have h := allOK (some (a1.add (rAt (blkL text ent) i).toNat)) c (cutL text (rAt (blkL text ent) i) (rSym (blkL text ent) i)) wx (cutL_ints (hT.keep hx) f0 (by omega) f2) (fun j hj => by
      rw [cutL_nth f0 (by omega) f2 hj]
      rw [hln] at hj
      exact hR _ (by omega)) (by omega)
    rw [hln] at h
    exact h
  have HEn : Hid (Inn (edgT text ent (blkL text ent).length) (blkL text ent).length) := edgT_inn text ent
  have HRel : Hid (RelsAt w B (blkL text ent)) := hB
  have HFin : Hid (∀ M F G, Hub (edgT text ent (blkL text ent).length) M (blkL text ent).length (lpB text ent) → Lst M (hubN (blR text ent) (blkL text ent).length) (hubN (blW text ent) (blkL text ent).length) ((blkL text ent).length + 1) F G → LstI text ent F G) := fun M F G h1 h2 => h1.lst (fun j => blR_lt text ent j) (edgT_inn text ent) h2
  clear hT hR hM hB
  go_enter Tryz.func22, Tryz.ntmps22
  go_upto_region 1 with fail
  rw [HW.out]
  clear HW
  go_upto_region 2 with (first
    | (go_at_call 49; refine C1.mono ?_; rintro e w1 ⟨A, c, M, rfl, hz1, hh1, hr1, hb1⟩; have HZ1 : Hid (IntsZ w1 A M) := hz1; have HH1 : Hid (Hub (edgT text ent (blkL text ent).length) M (blkL text ent).length (lpB text ent)) := hh1; have HR1 : Hid (∀ k, k < M.length → (rowZ M k).length ≤ 65536) := hr1; have HB1 : Hid (Below w.heap.size w w1) := lb_trans HB.out hb1; have HX1 : Hid (w1.cell? ⟨w.heap.size, 0, none⟩ = some (.slice (some a1) text.length c1)) := lkeep hb1 i0; clear hz1 hh1 hr1 hb1 i0 i1 i2)
    | (go_at_call 48; refine (back_any A c M w1 HZ1.out (by rw [HH1.out.len]; omega) HR1.out).mono ?_; rintro e w2 ⟨A2', c2', rfl, hz2, hb2⟩; rw [backT_len, HH1.out.len] at *; have HZ2 : Hid (IntsZ w2 A2' (backT M ((blkL text ent).length + 1))) := hz2; have HB2 : Hid (Below w.heap.size w w2) := lb_trans HB1.out hb2; have HX2 : Hid (w2.cell? ⟨w.heap.size, 0, none⟩ = some (.slice (some a1) text.length c1)) := lkeep hb2 HX1.out; clear hz2 hb2)
    | (go_at_call 47; refine (empties_any A2' ((blkL text ent).length + 1) c2' (by omega) w2).mono ?_; rintro e w3 ⟨P, gr, gw, gi, go, rfl, hs3, l1, l2, l3, l4, hb3⟩; have HS3 : Hid (SetsAt w3 P A2' c2' ((blkL text ent).length + 1) gr gw gi go zeroS zeroS zeroS zeroS) := hs3; have HL3 : Hid (w2.heap.size ≤ gr ∧ w2.heap.size ≤ gw ∧ w2.heap.size ≤ gi ∧ w2.heap.size ≤ go) := ⟨l1, l2, l3, l4⟩; have HB3 : Hid (Below w2.heap.size w2 w3) := hb3; clear hs3 l1 l2 l3 l4 hb3))
  clear C1
  have HMl : Hid (M.length = (blkL text ent).length + 1) := HH1.out.len
  have HIM : Hid (Inn M ((blkL text ent).length + 1)) := HH1.out.innM HEn.out
  have HS0 : Hid (SetsAt w3 P A2' c2' ((blkL text ent).length + 1) gr gw gi go (filN (blR text ent) 0) (filN (blW text ent) 0) zeroS zeroS) := by
    unfold Hid
    rw [filN_zero, filN_zero]
    exact HS3.out
  have CG := fun wx hs hb => grow_any w2 M P A2' c2' ((blkL text ent).length + 1) gr gw gi go (filN (blR text ent) (blkL text ent).length) (filN (blW text ent) (blkL text ent).length) wx HZ2.out HMl.out HIM.out (by omega) hs hb (filN_lt _ HRl.out) (filN_lt _ HWl.out) HL3.out.2.2
  unfold GrP at CG
  rw [filN_hub, filN_hub] at CG
  have HFin : Hid (∀ F G, Lst M (hubN (blR text ent) (blkL text ent).length) (hubN (blW text ent) (blkL text ent).length) ((blkL text ent).length + 1) F G → LstI text ent F G) := fun F G h => HFin.out M F G HH1.out h
  clear HS3 HEn HH1 HZ1 HR1 HX1 HMl HIM HZ2
  go_wp2
  go_loopw [17] (fun i wr => ∃ k : Nat, i = .int .i64 k ∧ k ≤ (blkL text ent).length ∧ Hid (SetsAt wr P A2' c2' ((blkL text ent).length + 1) gr gw gi go (filN (blR text ent) k) (filN (blW text ent) k) zeroS zeroS) ∧ Hid (Below w2.heap.size w2 wr)) (fun i _ => (blkL text ent).length - (intOf i).toNat)
  case atStart => exact ⟨0, rfl, Nat.zero_le _, HS0, HB3⟩
  case round =>
    clear HS0 HB3
    obtain ⟨k, rfl, hk, HS, HBr⟩ := hrel
    by_cases hlt : k < (blkL text ent).length
    · have hlt' : (k : Int) < ((blkL text ent).length : Int) := by omega
      have hltN : (k : Int) < ((blkL text ent).length : Int) + 1 := by omega
      obtain ⟨b, eb, q0, q1⟩ := HRel.out k hlt
      subst eb
      have HBw : Hid (Below w.heap.size w wr) := lb_trans HB2.out HBr.out
      have t0 := lkeep HBw.out q0
      have t1 : wr.cell? ⟨(b.add (k * 2)).block, (b.add (k * 2)).off + 1, none⟩ = some (.int .i64 (rSym (blkL text ent) k)) := lkeep HBw.out q1
      clear q0 q1
      obtain ⟨f0, f1, f2⟩ := HBi.out k hlt
      have C := C3 k hlt
      obtain ⟨V, HV⟩ : ∃ V, Hid (wr.alloc (.cells #[.int .i64 (rAt (blkL text ent) k), .int .i64 (rSym (blkL text ent) k)] 67) = V) := ⟨_, rfl⟩
      have HBV : Hid (Below wr.heap.size wr V) := by unfold Hid; rw [← HV.out]; exact lb_alloc (Below.refl _ _) _
      have b0 : V.cell? ⟨wr.heap.size, 0, none⟩ = some (.int .i64 (rAt (blkL text ent) k)) := by rw [← HV.out]; simp [go_sem]
      have b1 : V.cell? ⟨wr.heap.size, 1, none⟩ = some (.int .i64 (rSym (blkL text ent) k)) := by rw [← HV.out]; simp [go_sem]
      have x0 := lkeep (lb_trans HBr.out HBV.out) HX2.out
      have HSV : Hid (SetsAt V P A2' c2' ((blkL text ent).length + 1) gr gw gi go (filN (blR text ent) k) (filN (blW text ent) k) zeroS zeroS) := HS.out.keep HBV.out
      have HBx : Hid (Below w2.heap.size w2 V) := lb_trans HBr.out HBV.out
      have HBwV : Hid (Below w.heap.size w V) := lb_trans HBw.out HBV.out
      obtain ⟨p0, p1, -, -, -⟩ := HSV.out.cells
      have hcut := cut_run a1 text.length c1 f0 f1 f2 hc
      have HSt : Hid (∀ wx, Below V.heap.size V wx → SetsAt ((wx.setCell ⟨gr, k, none⟩ (.int .u16 ((blR text ent k : Nat) : Int))).setCell ⟨gw, k, none⟩ (.int .u16 ((blW text ent k : Nat) : Int))) P A2' c2' ((blkL text ent).length + 1) gr gw gi go (filN (blR text ent) (k + 1)) (filN (blW text ent) (k + 1)) zeroS zeroS) := fun wx hx => by
        have h := ((HSV.out.keep hx).putR (k := k) (by omega) (blR text ent k)).putW (k := k) (by omega) (blW text ent k)
        rw [filN_step, filN_step] at h
        exact h
      have HCl : Hid (∀ wx, Below V.heap.size V wx → (wx.frozen? ⟨gr, k, none⟩ = false ∧ wx.cell? ⟨gr, k, none⟩ = some (.int .u16 ((filN (blR text ent) k (k : Int) : Nat) : Int))) ∧ ((wx.setCell ⟨gr, k, none⟩ (.int .u16 ((blR text ent k : Nat) : Int))).frozen? ⟨gw, k, none⟩ = false ∧ (wx.setCell ⟨gr, k, none⟩ (.int .u16 ((blR text ent k : Nat) : Int))).cell? ⟨gw, k, none⟩ = some (.int .u16 ((filN (blW text ent) k (k : Int) : Nat) : Int)))) := fun wx hx => by
        have h := HSV.out.keep hx
        have h2 := h.putR (k := k) (by omega) (blR text ent k)
        exact ⟨⟨h.rd.fro k, h.rd.cellN (by omega)⟩, ⟨h2.wt.fro k, h2.wt.cellN (by omega)⟩⟩
      have HBs : Hid (∀ wx (v1 v2 : Value), Below V.heap.size V wx → Below w2.heap.size w2 ((wx.setCell ⟨gr, k, none⟩ v1).setCell ⟨gw, k, none⟩ v2)) := fun wx v1 v2 hx => by
        have h := lb_trans HBx.out hx
        exact (h.setCell (p := ⟨gr, k, none⟩) HL3.out.1 v1).setCell (p := ⟨gw, k, none⟩) HL3.out.2.1 v2
      have n0 : P ≠ gr := HSV.out.rd.neP HSV.out.box
      have n1 : P ≠ gw := HSV.out.wt.neP HSV.out.box
      have nx : w.heap.size ≠ gr := by have := HL3.out.1; have := World.block_lt_of_cell? _ _ HX2.out; simp at this; omega
      have ny : w.heap.size ≠ gw := by have := HL3.out.2.1; have := World.block_lt_of_cell? _ _ HX2.out; simp at this; omega
      have nb : wr.heap.size ≠ gr := by have := HS.out.rd.lt; omega
      have nc : wr.heap.size ≠ gw := by have := HS.out.wt.lt; omega
      clear HSV HS
      generalize blR text ent k = rk at *
      generalize blW text ent k = wk at *
      generalize filN (blR text ent) k (k : Int) = r9 at *
      generalize filN (blW text ent) k (k : Int) = w9 at *
      generalize rAt (blkL text ent) k = fr at *
      generalize rSym (blkL text ent) k = tt at *
      go_upto_region 5 with fail
      rw [HV.out]
      clear HV t0 t1
      have hXX := Below.refl V.heap.size V
      go_region_held3 (fun Y => Y.cell? ⟨P, 0, none⟩ = some (.slice (some ⟨gr, 0, none⟩) ((blkL text ent).length + 1) ((blkL text ent).length + 1)) ∧ Y.cell? ⟨P, 1, none⟩ = some (.slice (some ⟨gw, 0, none⟩) ((blkL text ent).length + 1) ((blkL text ent).length + 1)) ∧ Y.cell? ⟨w.heap.size, 0, none⟩ = some (.slice (some a1) text.length c1) ∧ Y.cell? ⟨wr.heap.size, 0, none⟩ = some (.int .i64 fr) ∧ Y.cell? ⟨wr.heap.size, 1, none⟩ = some (.int .i64 tt)) (first
          | exact ⟨p0, p1, x0, b0, b1⟩
          | exact ⟨lkeep hY p0, lkeep hY p1, lkeep hY x0, lkeep hY b0, lkeep hY b1⟩
          | exact ⟨cell_setN (lkeep hY p0) n0, cell_setN (lkeep hY p1) n0, cell_setN (lkeep hY x0) nx, cell_setN (lkeep hY b0) nb, cell_setN (lkeep hY b1) nb⟩
          | exact ⟨cell_setN (cell_setN (lkeep hY p0) n0) n1, cell_setN (cell_setN (lkeep hY p1) n0) n1, cell_setN (cell_setN (lkeep hY x0) nx) ny, cell_setN (cell_setN (lkeep hY b0) nb) nc, cell_setN (cell_setN (lkeep hY b1) nb) nc⟩)
        (first | (go_at_call 50; refine (C _ _ (by first | exact HBwV.out | exact Below.drew HBwV.out)).mono ?_; rintro e w5 ⟨rfl, hb5⟩; have hY : Below V.heap.size V w5 := (by first | exact hb5 | exact lb_trans hXX.drew hb5); clear hb5; have z0 := (HCl.out w5 hY).1.1; have z1 := (HCl.out w5 hY).1.2; have z2 := (HCl.out w5 hY).2.1; have z3 := (HCl.out w5 hY).2.2))
      all_goals (rename_i hS; clear hS; go_wp2_with fail)
      exact ⟨⟨k + 1, by go_num, by omega, HSt.out w5 hY, HBs.out w5 _ _ hY⟩, by simp [intOf]; omega⟩
    · obtain rfl : k = (blkL text ent).length := by omega
      have C := CG wr HS.out HBr.out
      clear C3 CG
      go_upto_region 9 with (go_at_call 51; refine C.mono ?_; rintro e w6 ⟨F, G, rfl, hs6, hl6, hg6, hb6⟩; have HS6 : Hid (SetsAt w6 P A2' c2' ((blkL text ent).length + 1) gr gw gi go (filN (blR text ent) (blkL text ent).length) (filN (blW text ent) (blkL text ent).length) F G) := hs6; have HL6 : Hid (LstI text ent F G) := HFin.out F G hl6; have HG6 : Hid (∀ x, G x < 65536) := hg6; have HB6 : Hid (Below w2.heap.size w2 w6) := hb6; clear hs6 hl6 hg6 hb6)
      clear C
      obtain ⟨-, -, p2, p3, -⟩ := HS6.out.cells
      have HE : Hid (∀ wx, Below w6.heap.size w6 wx → LsP text ent w (.returned (.tuple #[.slice (some ⟨gi, 0, none⟩) (blkL text ent).length (blkL text ent).length, .slice (some ⟨go, 0, none⟩) (blkL text ent).length (blkL text ent).length])) wx) := fun wx hx => ⟨gi, go, F, G, rfl, setL_less (HS6.out.keep hx).inn, setL_less (HS6.out.keep hx).out, HL6.out, HG6.out, lb_trans HB2.out (lb_trans HB6.out hx)⟩
      have hn1 : ¬ (blkL text ent).length = 0 := by omega
      clear HS6 HL6 HG6 HFin
      go_quiet (fail)
      all_goals (
        go_wp2
        go_ret2
        exact HE.out _ (by first | exact Below.refl _ _ | exact below_drewN (Below.refl _ _) _ | exact Below.drew (Below.refl _ _)))

end Go.Proofs.YtfnicgihpelhhaaGreat

namespace Go.Proofs.YtfnicgihpelhhaaGreat
open Go.RowKit

set_option maxRecDepth 100000 in
set_option maxHeartbeats 4000000 in
theorem lblocks_no (A1 A2 : Option Addr) (c1 ml c2 : Nat) (ent : Int) (text : List Int) (w : World) (hT : IntsAt w A1 .u32 text) (hR : ∀ i, i < text.length → 0 ≤ nth text i ∧ nth text i < 4294967296) (_hc : text.length ≤ c1) (hl : text.length ≤ 1048576) (hm : ml ≤ 1048576) (hE : (checkI text ml ent).1 ≠ 0) :
    Calls Tryz.prog 8 #[.agg #[.slice A1 text.length c1, .int .i64 ent, .slice A2 ml c2]] w (SN (checkI text ml ent).1 w) := by
  obtain ⟨W, HW⟩ : ∃ W, Hid (w.alloc (.cells #[.slice A1 text.length c1, .int .i64 ent, .slice A2 ml c2] 25) = W) := ⟨_, rfl⟩
  have HB : Hid (Below w.heap.size w W) := by unfold Hid; rw [← HW.out]; exact lb_alloc (Below.refl _ _) _
  have i0 : W.cell? ⟨w.heap.size, 0, none⟩ = some (.slice A1 text.length c1) := by rw [← HW.out]; simp [go_sem]
  have i1 : W.cell? ⟨w.heap.size, 1, none⟩ = some (.int .i64 ent) := by rw [← HW.out]; simp [go_sem]
  have i2 : W.cell? ⟨w.heap.size, 2, none⟩ = some (.slice A2 ml c2) := by rw [← HW.out]; simp [go_sem]
  have C := blocks_any A1 A2 c1 ml c2 ent text W (hT.keep HB.out) hR hl hm
  have hne : ((checkI text ml ent).1 == 0) = false := by simpa using hE
  have hne2 : ((checkI text ml ent).1 != 0) = true := by simpa using hE
  clear hT hR hE
  generalize (checkI text ml ent).1 = E at *
  go_enter Tryz.func8, Tryz.ntmps8
  go_upto_region 1 with fail
  rw [HW.out]
  clear HW
  go_wp2_with (go_at_call 21; refine C.mono ?_; rintro e w1 ⟨A, c, rfl, hown, hb1⟩)
  refine bodyPost_ret (v := .tuple #[.slice none 0 0, .slice none 0 0, .int .i64 E]) (by simp [results, Tryz.results8, go_sem]) rfl ⟨none, none, 0, 0, rfl, lb_trans HB.out hb1⟩

set_option maxRecDepth 100000 in
set_option maxHeartbeats 4000000 in
theorem lbehind_no (A1 A2 : Option Addr) (c1 ml c2 : Nat) (ent : Int) (text : List Int) (w : World) (hT : IntsAt w A1 .u32 text) (hR : ∀ i, i < text.length → 0 ≤ nth text i ∧ nth text i < 4294967296) (_hc : text.length ≤ c1) (hl : text.length ≤ 1048576) (hm : ml ≤ 1048576) (hE : (checkI text ml ent).1 ≠ 0) :
    Calls Tryz.prog 10 #[.agg #[.slice A1 text.length c1, .int .i64 ent, .slice A2 ml c2]] w (HN (checkI text ml ent).1 w) := by
  obtain ⟨W, HW⟩ : ∃ W, Hid (w.alloc (.cells #[.slice A1 text.length c1, .int .i64 ent, .slice A2 ml c2] 25) = W) := ⟨_, rfl⟩
  have HB : Hid (Below w.heap.size w W) := by unfold Hid; rw [← HW.out]; exact lb_alloc (Below.refl _ _) _
  have i0 : W.cell? ⟨w.heap.size, 0, none⟩ = some (.slice A1 text.length c1) := by rw [← HW.out]; simp [go_sem]
  have i1 : W.cell? ⟨w.heap.size, 1, none⟩ = some (.int .i64 ent) := by rw [← HW.out]; simp [go_sem]
  have i2 : W.cell? ⟨w.heap.size, 2, none⟩ = some (.slice A2 ml c2) := by rw [← HW.out]; simp [go_sem]
  have C := blocks_any A1 A2 c1 ml c2 ent text W (hT.keep HB.out) hR hl hm
  have hne : ((checkI text ml ent).1 == 0) = false := by simpa using hE
  have hne2 : ((checkI text ml ent).1 != 0) = true := by simpa using hE
  clear hT hR hE
  generalize (checkI text ml ent).1 = E at *
  go_enter Tryz.func10, Tryz.ntmps10
  go_upto_region 1 with fail
  rw [HW.out]
  clear HW
  go_wp2_with (go_at_call 21; refine C.mono ?_; rintro e w1 ⟨A, c, rfl, hown, hb1⟩)
  go_ret2
  exact ⟨none, 0, rfl, lb_trans HB.out hb1⟩

set_option maxRecDepth 100000 in
set_option maxHeartbeats 4000000 in
theorem lblocks_ok (A1 A2 : Option Addr) (c1 ml c2 : Nat) (ent : Int) (text : List Int) (w : World) (hT : IntsAt w A1 .u32 text) (hR : ∀ i, i < text.length → 0 ≤ nth text i ∧ nth text i < 4294967296) (hc : text.length ≤ c1) (hl : text.length ≤ 1048576) (hm : ml ≤ 1048576) (hE : (checkI text ml ent).1 = 0) :
    Calls Tryz.prog 8 #[.agg #[.slice A1 text.length c1, .int .i64 ent, .slice A2 ml c2]] w (SR text ent w) := by
  have hM := check_mayI hE
  obtain ⟨a1, ea, -⟩ := hT 0 hM.past.pos
  subst ea
  obtain ⟨W, HW⟩ : ∃ W, Hid (w.alloc (.cells #[.slice (some a1) text.length c1, .int .i64 ent, .slice A2 ml c2] 25) = W) := ⟨_, rfl⟩
  have HB : Hid (Below w.heap.size w W) := by unfold Hid; rw [← HW.out]; exact lb_alloc (Below.refl _ _) _
  have i0 : W.cell? ⟨w.heap.size, 0, none⟩ = some (.slice (some a1) text.length c1) := by rw [← HW.out]; simp [go_sem]
  have i1 : W.cell? ⟨w.heap.size, 1, none⟩ = some (.int .i64 ent) := by rw [← HW.out]; simp [go_sem]
  have i2 : W.cell? ⟨w.heap.size, 2, none⟩ = some (.slice A2 ml c2) := by rw [← HW.out]; simp [go_sem]
  have C := blocks_any (some a1) A2 c1 ml c2 ent text W (hT.keep HB.out) hR hl hm
  have C2 := fun (B : Option Addr) (cB : Nat) (wx : World) (hx : Below w.heap.size w wx) (hr : RelsAt wx B (blkL text ent)) => least_any a1 A2 B c1 ml c2 cB ent text wx (hT.keep hx) hR hM hc hr
  rw [show outB text ml ent = blkL text ent from if_pos hE, hE] at C
  clear hT hR hE hM hc
  go_enter Tryz.func8, Tryz.ntmps8
  go_upto_region 1 with fail
  rw [HW.out]
  clear HW
  go_wp2_with (first
    | (go_at_call 21; refine C.mono ?_; rintro e w1 ⟨B, cB, rfl, hown, hb1⟩; have HRl : Hid (RelsAt w1 B (blkL text ent)) := drow_rels hown; have HB1 : Hid (Below w.heap.size w w1) := lb_trans HB.out hb1; have j0 := lkeep hb1 i0; have j1 := lkeep hb1 i1; have j2 := lkeep hb1 i2; clear hown hb1 i0 i1 i2)
    | (go_at_call 22; refine (C2 _ _ _ HB1.out HRl.out).mono ?_; rintro e w2 ⟨gi, go, F, G, rfl, h1, h2, h3, h4, hb2⟩; have HE : Hid (∀ wx, wx = w2 → SR text ent w (.returned (.tuple #[.slice (some ⟨gi, 0, none⟩) (blkL text ent).length (blkL text ent).length, .slice (some ⟨go, 0, none⟩) (blkL text ent).length (blkL text ent).length, .int .i64 0])) wx) := (fun wx e => by subst e; exact ⟨_, _, _, _, F, G, rfl, h1, h2, h3, lb_trans HB1.out hb2⟩); clear h1 h2 h3 h4 hb2))
  refine bodyPost_ret (v := .tuple #[.slice (some ⟨gi, 0, none⟩) (blkL text ent).length (blkL text ent).length, .slice (some ⟨go, 0, none⟩) (blkL text ent).length (blkL text ent).length, .int .i64 0]) (by simp [results, Tryz.results8, go_sem]) rfl (HE.out _ rfl)

set_option maxRecDepth 100000 in
set_option maxHeartbeats 8000000 in
theorem lbehind_ok (A1 A2 : Option Addr) (c1 ml c2 : Nat) (ent : Int) (text : List Int) (w : World) (hT : IntsAt w A1 .u32 text) (hR : ∀ i, i < text.length → 0 ≤ nth text i ∧ nth text i < 4294967296) (hc : text.length ≤ c1) (hl : text.length ≤ 1048576) (hm : ml ≤ 1048576) (hE : (checkI text ml ent).1 = 0) :
    Calls Tryz.prog 10 #[.agg #[.slice A1 text.length c1, .int .i64 ent, .slice A2 ml c2]] w (HR text ent w) := by
  have hM := check_mayI hE
  obtain ⟨a1, ea, -⟩ := hT 0 hM.past.pos
  subst ea
  have hl4 : text.length ≤ 16384 := hM.past.len
  have hLt := blk_len_le text ent
  have hpos := hM.past.pos
  have HBi : Hid (∀ i, i < (blkL text ent).length → 0 ≤ rAt (blkL text ent) i ∧ rAt (blkL text ent) i < rSym (blkL text ent) i ∧ rSym (blkL text ent) i ≤ (text.length : Int)) := fun i hi => blk_in hi
  have HMo : Hid (∀ k, k < (blkL text ent).length → ∀ i, i < k → rSym (blkL text ent) i ≤ rAt (blkL text ent) k) := fun k hk => blkRise hpos hk
  obtain ⟨W, HW⟩ : ∃ W, Hid (w.alloc (.cells #[.slice (some a1) text.length c1, .int .i64 ent, .slice A2 ml c2] 25) = W) := ⟨_, rfl⟩
  have HB : Hid (Below w.heap.size w W) := by unfold Hid; rw [← HW.out]; exact lb_alloc (Below.refl _ _) _
  have i0 : W.cell? ⟨w.heap.size, 0, none⟩ = some (.slice (some a1) text.length c1) := by rw [← HW.out]; simp [go_sem]
  have i1 : W.cell? ⟨w.heap.size, 1, none⟩ = some (.int .i64 ent) := by rw [← HW.out]; simp [go_sem]
  have i2 : W.cell? ⟨w.heap.size, 2, none⟩ = some (.slice A2 ml c2) := by rw [← HW.out]; simp [go_sem]
  have C := blocks_any (some a1) A2 c1 ml c2 ent text W (hT.keep HB.out) hR hl hm
  have C2 := fun (B : Option Addr) (cB : Nat) (wx : World) (hx : Below w.heap.size w wx) (hr : RelsAt wx B (blkL text ent)) => least_any a1 A2 B c1 ml c2 cB ent text wx (hT.keep hx) hR hM hc hr
  rw [show outB text ml ent = blkL text ent from if_pos hE, hE] at C
  have HT : Hid (IntsAt w (some a1) .u32 text) := hT
  have HRr : Hid (∀ i, i < text.length → 0 ≤ nth text i ∧ nth text i < 4294967296) := hR
  have hmk := make_us text.length (by omega)
  clear hT hR hE hM hc hpos
  go_enter Tryz.func10, Tryz.ntmps10
  go_upto_region 1 with fail
  rw [HW.out]
  clear HW
  go_upto_region 5 with (first
    | (go_at_call 21; refine C.mono ?_; rintro e w1 ⟨B, cB, rfl, hown, hb1⟩; have HRl : Hid (RelsAt w1 B (blkL text ent)) := drow_rels hown; have HB1 : Hid (Below w.heap.size w w1) := lb_trans HB.out hb1; have j0 := lkeep hb1 i0; have j1 := lkeep hb1 i1; have j2 := lkeep hb1 i2; clear hown hb1 i0 i1 i2)
    | (go_at_call 22; refine (C2 _ _ _ HB1.out HRl.out).mono ?_; rintro e w2 ⟨gi, go, F, G, rfl, h1, h2, h3, h4, hb2⟩; have HG : Hid (IntsAt w2 (some ⟨go, 0, none⟩) .u16 (setL G (blkL text ent).length)) := h2; have HLs : Hid (LstI text ent F G) := h3; have HGl : Hid (∀ x, G x < 65536) := h4; have HB2 : Hid (Below w.heap.size w w2) := lb_trans HB1.out hb2; have HL2 : Hid (RelsAt w2 B (blkL text ent)) := HRl.out.keep hb2; have n0 := lkeep hb2 j0; clear h1 h2 h3 h4 hb2 j0 j1 j2))
  clear C C2
  have HX0 : Hid (w2.cell? ⟨w.heap.size, 0, none⟩ = some (.slice (some a1) text.length c1)) := n0
  obtain ⟨X, HX⟩ : ∃ X, Hid (w2.alloc (.cells (madeCells #[.int .u16 0] text.length) 43) = X) := ⟨_, rfl⟩
  have HBX : Hid (Below w2.heap.size w2 X) := by unfold Hid; rw [← HX.out]; exact lb_alloc (Below.refl _ _) _
  have HSX : Hid (UsAt X w2.heap.size text.length zeroS) := by unfold Hid; rw [← HX.out]; exact UsAt.made w2 text.length
  go_upto_region 6 with fail
  rw [HX.out]
  clear HX hmk n0
  have HLs2 : Hid (LstI text ent F G) := HLs
  go_wp2
  go_loopw [34] (fun i wr => ∃ (k : Nat) (H : Int → Nat), i = .int .i64 k ∧ k ≤ (blkL text ent).length ∧ Hid (UsAt wr w2.heap.size text.length H) ∧ Hid (Dn text (blkL text ent) G H k) ∧ Hid (Below w2.heap.size w2 wr)) (fun i _ => (blkL text ent).length - (intOf i).toNat)
  case atStart => exact ⟨0, _, rfl, Nat.zero_le _, HSX, fun i hi => absurd hi (Nat.not_lt_zero _), HBX⟩
  case round =>
    clear HSX HBX
    obtain ⟨k, H, rfl, hk, HS, HD, HBr⟩ := hrel
    by_cases hlt : k < (blkL text ent).length
    · have hlt' : (k : Int) < ((blkL text ent).length : Int) := by omega
      obtain ⟨ag, eg, qg⟩ := HG.out k (by rw [setL_len]; exact hlt)
      obtain rfl := Option.some.inj eg
      rw [setL_nth hlt, add0] at qg
      obtain ⟨b, eb, q0, q1⟩ := HL2.out k hlt
      subst eb
      have t0 := lkeep HBr.out q0
      have t1 : wr.cell? ⟨(b.add (k * 2)).block, (b.add (k * 2)).off + 1, none⟩ = some (.int .i64 (rSym (blkL text ent) k)) := lkeep HBr.out q1
      clear q0 q1
      obtain ⟨V, HV⟩ : ∃ V, Hid (wr.alloc (.cells #[.int .i64 (rAt (blkL text ent) k), .int .i64 (rSym (blkL text ent) k)] 67) = V) := ⟨_, rfl⟩
      have HBV : Hid (Below wr.heap.size wr V) := by unfold Hid; rw [← HV.out]; exact lb_alloc (Below.refl _ _) _
      have HB0 : Hid (V.cell? ⟨wr.heap.size, 0, none⟩ = some (.int .i64 (rAt (blkL text ent) k))) := by unfold Hid; rw [← HV.out]; simp [go_sem]
      have b1 : V.cell? ⟨wr.heap.size, 1, none⟩ = some (.int .i64 (rSym (blkL text ent) k)) := by rw [← HV.out]; simp [go_sem]
      have s0 := lkeep (lb_trans HBr.out HBV.out) qg
      have HSV : Hid (UsAt V w2.heap.size text.length H) := HS.out.keep HBV.out
      have HBrV : Hid (Below w2.heap.size w2 V) := lb_trans HBr.out HBV.out
      have hzr : w2.heap.size < wr.heap.size := HS.out.lt
      have HZr : Hid (w2.heap.size < wr.heap.size) := hzr
      clear qg
      obtain ⟨f0, f1, f2⟩ := HBi.out k hlt
      have HM : Hid (∀ i, i < k → rSym (blkL text ent) i ≤ rAt (blkL text ent) k) := HMo.out k hlt
      have HD0 : Hid (Dp text (blkL text ent) G H k (rSym (blkL text ent) k - 1)) := Dp.start HD.out
      have HDd : Hid (∀ H' x, Dp text (blkL text ent) G H' k x → x < rAt (blkL text ent) k → Dn text (blkL text ent) G H' (k + 1)) := fun H' x h hx => h.done hx
      have HDp : Hid (∀ H' (x : Nat) s, Dp text (blkL text ent) G H' k (x : Int) → rAt (blkL text ent) k ≤ (x : Int) → s = setB text (rSym (blkL text ent) k) (G (k : Int)) (rSym (blkL text ent) k - 1 - (x : Int)).toNat → Dp text (blkL text ent) G (putS H' (x : Int) s) k ((x : Int) - 1)) := fun H' x s h hx hs => h.put HM.out hx s hs
      have hgk := HGl.out (k : Int)
      clear HS HBr
      generalize G (k : Int) = gk at *
      generalize rAt (blkL text ent) k = fr at *
      generalize rSym (blkL text ent) k = tt at *
      have hwr : IntKind.i64.wrap (tt - 1) = tt - 1 := by simp [IntKind.wrap, IntKind.signed, IntKind.bits]; omega
      go_upto_region 9 with fail
      rw [HV.out]
      clear HV t0 t1 HBV
      generalize wr.heap.size = zr at *
      go_wp2
      go_loopw [11, 12] (fun s i wr => ∃ (j : Nat) (x : Int) (H' : Int → Nat), s = .int .u16 ((setB text tt gk j : Nat) : Int) ∧ i = .int .i64 x ∧ x = tt - 1 - (j : Int) ∧ fr - 1 ≤ x ∧ Hid (UsAt wr w2.heap.size text.length H') ∧ Hid (Dp text (blkL text ent) G H' k x) ∧ Hid (Below w2.heap.size w2 wr) ∧ Hid (wr.cell? ⟨zr, 0, none⟩ = some (.int .i64 fr))) (fun _ i _ => (intOf i - fr + 1).toNat)
      case atStart => exact ⟨0, tt - 1, H, rfl, by go_num, by omega, by omega, HSV, HD0, HBrV, HB0⟩
      case round =>
        clear HSV HD HD0 HBrV s0 b1 HB0
        obtain ⟨j, x, H', rfl, rfl, hx, hxf, HS, HD, HBr, HQ0⟩ := hrel
        have q0 := HQ0.out
        by_cases hge : fr ≤ x
        · obtain ⟨p, hp⟩ : ∃ p : Nat, x = (p : Int) := ⟨x.toNat, by omega⟩
          have hj : (tt - 1 - (p : Int)).toNat = j := by omega
          have hpl : p < text.length := by omega
          have HSt : Hid (setB text tt gk (j + 1) = insN (rdN (nth text p)) (wrN (nth text p)) (setB text tt gk j)) := by
            show insN _ _ _ = _
            rw [show (tt - 1 - (j : Int)).toNat = p by omega]
          have hxj : x - 1 = tt - 1 - ((j + 1 : Nat) : Int) := by omega
          subst hp
          have HD2 : Hid (Dp text (blkL text ent) G (putS H' (p : Int) (setB text tt gk j)) k ((p : Int) - 1)) := HDp.out H' p _ HD.out hge (by rw [hj])
          have HJ : Hid ((p : Int) - 1 = tt - 1 - ((j + 1 : Nat) : Int)) := hxj
          clear hx hxj hj
          have hpl' : (p : Int) < (text.length : Int) := by omega
          obtain ⟨a, ea, qt⟩ := (HT.out.keep HB2.out) p hpl
          obtain rfl := Option.some.inj ea
          have HQt : Hid (w2.cell? (a1.add p) = some (.int .u32 (nth text p))) := qt
          clear qt
          obtain ⟨v0, v1⟩ := HRr.out p hpl
          have D1 := fun wx => readsOK (nth text p) wx v0 v1
          have D2 := fun wx => writesOK (nth text p) wx v0 v1
          have hsl := setB_lt text tt hgk j
          have hless := lessI hsl (wrN_lt (nth text p))
          have hor : bits .or .u16 ((rdN (nth text p) : Nat) : Int) ((lessN (setB text tt gk j) (wrN (nth text p)) : Nat) : Int) = ((insN (rdN (nth text p)) (wrN (nth text p)) (setB text tt gk j) : Nat) : Int) := orI (rdN_lt _) (lessN_lt hsl)
          have s0 := HS.out.cellN hpl
          have s1 := HS.out.fro p
          generalize insN (rdN (nth text p)) (wrN (nth text p)) (setB text tt gk j) = s2 at *
          generalize lessN (setB text tt gk j) (wrN (nth text p)) = lo at *
          generalize rdN (nth text p) = rd at *
          generalize wrN (nth text p) = wt at *
          generalize nth text p = v at *
          generalize setB text tt gk j = sj at *
          obtain ⟨Z, HZ⟩ : ∃ Z, Hid (wr.setCell ⟨w2.heap.size, p, none⟩ (.int .u16 (sj : Int)) = Z) := ⟨_, rfl⟩
          have HU : Hid (UsAt Z w2.heap.size text.length (putS H' (p : Int) sj)) := by unfold Hid; rw [← HZ.out]; exact HS.out.put hpl sj
          have HBZ : Hid (Below w2.heap.size w2 Z) := by unfold Hid; rw [← HZ.out]; exact below_setAt HBr.out (Nat.le_refl _) HBr.out.size
          have HQZ : Hid (Z.cell? ⟨zr, 0, none⟩ = some (.int .i64 fr)) := by unfold Hid; rw [← HZ.out]; exact cell_setN HQ0.out (by have := HZr.out; simp; omega)
          go_upto_region 14 with fail
          rw [HZ.out]
          clear s0 s1 q0 HZ
          have x0 := lkeep HBZ.out HX0.out
          have qt := lkeep HBZ.out HQt.out
          go_wp2_with (first
            | (go_at_call 25; refine (D1 _).mono ?_; rintro e w5 ⟨rfl, hb5⟩; have HB5 : Hid (Below Z.heap.size Z w5) := hb5; clear hb5)
            | (go_at_call 26; refine (D2 _).mono ?_; rintro e w6 ⟨rfl, hb6⟩; have HB6 : Hid (Below Z.heap.size Z w6) := lb_trans HB5.out hb6; clear hb6))
          go_roundw
          case rel => exact ⟨j + 1, (p : Int) - 1, _, by rw [HSt.out], by go_num, HJ.out, by omega, HU.out.keep HB6.out, HD2, lb_trans HBZ.out HB6.out, lkeep HB6.out HQZ.out⟩
          case measure => simp [intOf]; omega
        · have hge' : ¬ fr ≤ x := hge
          have hlt2 : x < fr := by omega
          have HD2 : Hid (Dn text (blkL text ent) G H' (k + 1)) := HDd.out H' x HD.out hlt2
          have hxx : decide (fr ≤ x) = false := decide_eq_false hge
          clear hx
          go_wp2
          go_roundw
          case rel => exact ⟨k + 1, H', by go_num, by omega, HS, HD2, HBr⟩
          case measure => simp [intOf]; omega
    · obtain rfl : k = (blkL text ent).length := by omega
      go_wp2
      go_ret2
      exact ⟨_, _, H, rfl, HS.out.ints, ⟨F, G, HLs.out, fun i hi p a b => HD.out i hi p a b⟩, lb_trans HB2.out HBr.out⟩
theorem blocksOK : BlocksOK := ⟨lblocks_ok, lblocks_no⟩
theorem behindOK : BehindOK := ⟨lbehind_ok, lbehind_no⟩

end Go.Proofs.YtfnicgihpelhhaaGreat
