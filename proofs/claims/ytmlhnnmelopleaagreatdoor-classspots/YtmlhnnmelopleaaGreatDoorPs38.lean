/-
  Edges of the document, by what it answers. Blocks of the document: the least sets of live registers.
-/
import Derived.Test.YtmlhnnmelopleaaGreatDoorProg
import Derived.WalkKit
import Derived.WalkSpells
import Derived.WalkLawsBesides
import Derived.RowKit3
import Derived.Below
import Derived.Deep.QuietTactic
import Derived.BigQuiet
import Derived.WalkSmall
import Derived.Laws.Rows
import Derived.Lib.QuietBelow
import Derived.Test.YtmlhnnmelopleaaGreatDoorPs36
import Derived.Test.YtmlhnnmelopleaaGreatDoorPs37
import Derived.Test.YtmlhnnmelopleaaGreatDoorPs14
import Derived.Test.YtmlhnnmelopleaaGreatDoorPs13
namespace Go.Proofs.YtmlhnnmelopleaaGreatDoor
open Go.RowKit

open Go.Sort in
set_option maxRecDepth 100000 in
set_option maxHeartbeats 8000000 in
theorem refedges_any (A1 A2 : Option Addr) (c1 ml c2 : Nat) (ent : Int) (text : List Int) (w : World) (hT : IntsAt w A1 .u32 text) (hR : ∀ i, i < text.length → 0 ≤ nth text i ∧ nth text i < 4294967296) (hM : MayI text ml ent) :
    Calls Tryz.prog 81 #[.agg #[.slice A1 text.length c1, .int .i64 ent, .slice A2 ml c2]] w (ZP (edgT text ent (blkL text ent).length) w) := by
  obtain ⟨iI, hi, hz0, hz1, hz2⟩ := infoI
  obtain ⟨iS, hy, hy0, hy1, hy2⟩ := infoS
  have hl : text.length ≤ 16384 := hM.past.len
  have hLt := blk_len_le text ent
  obtain ⟨W, HW⟩ : ∃ W, Hid (w.alloc (.cells #[.slice A1 text.length c1, .int .i64 ent, .slice A2 ml c2] 31) = W) := ⟨_, rfl⟩
  have HB : Hid (Below w.heap.size w W) := by unfold Hid; rw [← HW.out]; exact lb_alloc (Below.refl _ _) _
  have i0 : W.cell? ⟨w.heap.size, 0, none⟩ = some (.slice A1 text.length c1) := by rw [← HW.out]; simp [go_sem]
  have i1 : W.cell? ⟨w.heap.size, 1, none⟩ = some (.int .i64 ent) := by rw [← HW.out]; simp [go_sem]
  have i2 : W.cell? ⟨w.heap.size, 2, none⟩ = some (.slice A2 ml c2) := by rw [← HW.out]; simp [go_sem]
  have C1 := refblocks_any A1 A2 c1 ml c2 ent text W (hT.keep HB.out) hR hM
  have C2 := fun wx (hx : Below w.heap.size w wx) => refmark1_any A1 A2 c1 ml c2 ent text wx (hT.keep hx) hR hM
  have C3 := fun wx (hx : Below w.heap.size w wx) => refmark2_any A1 A2 c1 ml c2 ent text wx (hT.keep hx) hR hM
  have HT : Hid (IntsAt w A1 .u32 text) := hT
  have HR : Hid _ := hR
  clear hT hR hM
  go_enter Tryz.func81, Tryz.ntmps81
  go_upto_region 1 with fail
  rw [HW.out]
  clear HW
  go_upto_region 4 with (first
    | (go_at_call 37; refine C1.mono ?_; rintro e w1 ⟨B, cB, rfl, hrl, hb1⟩; have HB1 : Hid (Below w.heap.size w w1) := lb_trans HB.out hb1; have HL1 : Hid (RelsAt w1 B (blkL text ent)) := hrl; have m0 := lkeep hb1 i0; have m1 := lkeep hb1 i1; have m2 := lkeep hb1 i2; clear hrl hb1 i0 i1 i2 C1)
    | (go_at_call 59; refine (C2 _ HB1.out).mono ?_; rintro e w2 ⟨g1, rfl, hm1, hb2⟩; have HB2 : Hid (Below w.heap.size w w2) := lb_trans HB1.out hb2; have HL2 : Hid (RelsAt w2 B (blkL text ent)) := HL1.out.keep hb2; have HK2 : Hid (BlsAt w2 g1 text.length (takF text)) := hm1; have n0 := lkeep hb2 m0; have n1 := lkeep hb2 m1; have n2 := lkeep hb2 m2; clear hm1 hb2 m0 m1 m2 C2 HL1)
    | (go_at_call 59; refine (C3 _ HB2.out).mono ?_; rintro e w3 ⟨g2, rfl, hm2, hb3⟩; have HBw : Hid (Below w.heap.size w w3) := lb_trans HB2.out hb3; have HBl : Hid (RelsAt w3 B (blkL text ent)) := HL2.out.keep hb3; have HTk : Hid (BlsAt w3 g1 text.length (takF text)) := HK2.out.keep hb3; have HSt : Hid (BlsAt w3 g2 text.length (sitF text)) := hm2; have HX3 : Hid (w3.cell? ⟨w.heap.size, 0, none⟩ = some (.slice A1 text.length c1)) := lkeep hb3 n0; clear hm2 hb3 n0 n1 n2 C3 HL2 HK2))
  have HT3 : Hid (IntsAt w3 A1 .u32 text) := HT.out.keep HBw.out
  clear HB HB1 HB2 HT
  go_wp2
  go_loopw [6, 7] (fun v i wr => ∃ (k : Nat) (O : Option Addr) (c : Nat) (vs : List Value), i = .int .i64 k ∧ v = .slice O k c ∧ k ≤ (blkL text ent).length ∧ Hid (RowsZ wr w3.heap.size v vs (edgT text ent k)) ∧ Hid (Below w3.heap.size w3 wr)) (fun _ i _ => (blkL text ent).length - (intOf i).toNat)
  case atStart => exact ⟨0, none, 0, [], rfl, rfl, Nat.zero_le _, RowsZ.nil _ _, Below.refl _ _⟩
  case round =>
    obtain ⟨k, O, c, vs, rfl, rfl, hk, HZ, HB⟩ := hrel
    by_cases hlt : k < (blkL text ent).length
    · have hlt' : (k : Int) < ((blkL text ent).length : Int) := by omega
      have HLk : Hid ((edgT text ent k).length = k) := edgT_len text ent k
      have HT1 : Hid (edgT text ent (k + 1) = edgT text ent k ++ [plcT (edgR text ent k) (blkL text ent).length]) := edgT_succ text ent k
      obtain ⟨b, eb, q0, q1⟩ := (HBl.out.keep HB.out) k hlt
      subst eb
      obtain ⟨f0, f1, f2⟩ := blk_in hlt
      obtain ⟨m, hm⟩ : ∃ m : Nat, rSym (blkL text ent) k = (m : Int) + 1 := ⟨(rSym (blkL text ent) k - 1).toNat, by omega⟩
      have hml : m < text.length := by omega
      have hml' : (m : Int) < (text.length : Int) := by omega
      obtain ⟨a, ea, qt⟩ := (HT3.out.keep HB.out) m hml
      subst ea
      obtain ⟨v0, v1⟩ := HR.out m hml
      have HV : Hid (nth text m = lastW text ent k) := by unfold Hid lastW; rw [hm, show ((m : Int) + 1 - 1).toNat = m by omega]
      have x0 := lkeep HB.out HX3.out
      replace q1 : wr.cell? ⟨(b.add (k * 2)).block, (b.add (k * 2)).off + 1, none⟩ = some (.int .i64 ((m : Int) + 1)) := by rw [← hm]; exact q1
      generalize edgT text ent k = LL at *
      generalize nth text m = lw at *
      clear hm f0 f1 f2
      have hwr : IntKind.i64.wrap (m : Int) = (m : Int) := by simp [IntKind.wrap, IntKind.signed, IntKind.bits]; omega
      have hwr2 : IntKind.i64.wrap ((m : Int) + 1 - 1) = (m : Int) := by rw [show (m : Int) + 1 - 1 = m by omega]; exact hwr
      go_upto_region 9 with fail
      go_quiet (fail)
      clear q0 q1 qt x0
      go_wp2
      go_loopw [8, 10] (fun v i wr => ∃ (j : Nat) (O2 : Option Addr) (c2 : Nat), i = .int .i64 j ∧ v = .slice O2 (plcT (edgR text ent k) j).length c2 ∧ j ≤ (blkL text ent).length ∧ Hid (wr.ownsRow w3.heap.size 3 1 v (plcT (edgR text ent k) j).length (iVals .i64 (plcT (edgR text ent k) j))) ∧ Hid (RowsZ wr w3.heap.size (.slice O k c) vs LL) ∧ Hid (Offs vs k v) ∧ Hid (Below w3.heap.size w3 wr)) (fun _ i _ => (blkL text ent).length - (intOf i).toNat)
      case atStart => exact ⟨0, none, 0, rfl, rfl, Nat.zero_le _, World.ownsRow_nil _ _ _ _, (by first | exact HZ | exact HZ.out.keep (below_drewN (Below.refl _ _) _)), offs_nil _ _, (by first | exact HB | exact below_drewN HB.out _)⟩
      case round =>
        clear HZ HB
        obtain ⟨j, O2, c2, rfl, rfl, hj, HRw, HZ, HOf, HB⟩ := hrel
        have hpl := plcT_len (edgR text ent k) j
        by_cases hjl : j < (blkL text ent).length
        · have hjl' : (j : Int) < ((blkL text ent).length : Int) := by omega
          obtain ⟨b2, eb, d0, _⟩ := (HBl.out.keep HB.out) j hjl
          obtain rfl : b = b2 := by injection eb
          clear eb
          obtain ⟨p0, p1, p2⟩ := blk_in hjl
          have p3 : rAt (blkL text ent) j < (text.length : Int) := by omega
          have hk0 := (HTk.out.keep HB.out).cell p0 p3
          have hs0 := (HSt.out.keep HB.out).cell p0 p3
          have C := fun wx => goes_any lw (rAt (blkL text ent) j) ((j : Int) == (k : Int) + 1) (takF text (rAt (blkL text ent) j) || sitF text (rAt (blkL text ent) j)) v0 v1 wx
          have HBk : Hid (edgR text ent k (j : Int) = goesF (dOp lw) (dN lw) ((j : Int) == (k : Int) + 1) (rAt (blkL text ent) j) (takF text (rAt (blkL text ent) j) || sitF text (rAt (blkL text ent) j))) := by
            unfold Hid edgR edgB
            rw [show ((j : Int)).toNat = j by omega, ← HV.out]
          clear p1 p2
          have hwk : IntKind.i64.wrap ((k : Int) + 1) = (k : Int) + 1 := by simp [IntKind.wrap, IntKind.signed, IntKind.bits]; omega
          generalize rAt (blkL text ent) j = F at *
          generalize sitF text F = st at *
          generalize goesF (dOp lw) (dN lw) ((j : Int) == (k : Int) + 1) F (takF text F || st) = t at *
          cases t with
          | false =>
            have HP : Hid (plcT (edgR text ent k) (j + 1) = plcT (edgR text ent k) j) := plcT_no HBk.out
            clear HBk
            go_upto_region 13 with fail
            cases hq : takF text F with
            | true =>
              rw [hq] at hk0 C
              simp only [Bool.true_or] at C
              clear hq
              have d0 := cell_regrown d0
              have hk0 := cell_regrown hk0
              have hs0 := cell_regrown hs0
              have cC := fun d os => Calls.regrown_of (C (grow (redrawn wr d) os))
              clear C
              refine wp_region_quiet_below (by kernel_rfl) (by kernel_rfl) ?_
              repeat (go_big_quiet_step (exact cC _ _))
              refine wpQuiet_nil ?_
              intro w5 hw5
              obtain ⟨pw, hw5⟩ := hw5
              have HB5 : Hid (Below wr.heap.size wr w5) := by unfold Hid; rw [hw5]; exact below_regrown wr pw.d pw.os
              clear hw5 pw d0 hk0 hs0 cC
              go_wp2_with fail
              go_roundw
              case rel => exact ⟨j + 1, O2, c2, by go_num, by rw [HP.out], by omega, by rw [HP.out]; exact row_keep HRw.out HB5.out, HZ.out.keep HB5.out, HOf, lb_trans HB.out HB5.out⟩
              case measure => simp [intOf]; omega
            | false =>
              rw [hq] at hk0 C
              simp only [Bool.false_or] at C
              clear hq
              have d0 := cell_regrown d0
              have hk0 := cell_regrown hk0
              have hs0 := cell_regrown hs0
              have cC := fun d os => Calls.regrown_of (C (grow (redrawn wr d) os))
              clear C
              refine wp_region_quiet_below (by kernel_rfl) (by kernel_rfl) ?_
              repeat (go_big_quiet_step (exact cC _ _))
              refine wpQuiet_nil ?_
              intro w5 hw5
              obtain ⟨pw, hw5⟩ := hw5
              have HB5 : Hid (Below wr.heap.size wr w5) := by unfold Hid; rw [hw5]; exact below_regrown wr pw.d pw.os
              clear hw5 pw d0 hk0 hs0 cC
              go_wp2_with fail
              go_roundw
              case rel => exact ⟨j + 1, O2, c2, by go_num, by rw [HP.out], by omega, by rw [HP.out]; exact row_keep HRw.out HB5.out, HZ.out.keep HB5.out, HOf, lb_trans HB.out HB5.out⟩
              case measure => simp [intOf]; omega
          | true =>
            have HP : Hid (plcT (edgR text ent k) (j + 1) = plcT (edgR text ent k) j ++ [(j : Int)]) := plcT_yes HBk.out
            clear HBk
            go_upto_region 13 with fail
            cases hq : takF text F with
            | true =>
              rw [hq] at hk0 C
              simp only [Bool.true_or] at C
              clear hq
              have d0 := cell_regrown d0
              have hk0 := cell_regrown hk0
              have hs0 := cell_regrown hs0
              have cC := fun d os => Calls.regrown_of (C (grow (redrawn wr d) os))
              clear C
              refine wp_region_quiet_below (by kernel_rfl) (by kernel_rfl) ?_
              repeat (go_big_quiet_step (exact cC _ _))
              refine wpQuiet_nil ?_
              intro w5 hw5
              obtain ⟨pw, hw5⟩ := hw5
              have HB5 : Hid (Below wr.heap.size wr w5) := by unfold Hid; rw [hw5]; exact below_regrown wr pw.d pw.os
              clear hw5 pw d0 hk0 hs0 cC
              have HBx : Hid (Below wr.heap.size wr (w5.alloc (.cells #[.int .i64 (j : Int)] 3))) := lb_alloc HB5.out _
              have HBa : Hid (Below w3.heap.size w3 (w5.alloc (.cells #[.int .i64 (j : Int)] 3))) := lb_trans HB.out HBx.out
              have HRa : Hid ((w5.alloc (.cells #[.int .i64 (j : Int)] 3)).ownsRow w3.heap.size 3 1 (.slice O2 (plcT (edgR text ent k) j).length c2) (plcT (edgR text ent k) j).length (iVals .i64 (plcT (edgR text ent k) j))) := row_keep HRw.out HBx.out
              have HZa : Hid (RowsZ (w5.alloc (.cells #[.int .i64 (j : Int)] 3)) w3.heap.size (.slice O k c) vs LL) := HZ.out.keep HBx.out
              have HOfL : Hid (Offs vs LL.length (.slice O2 (plcT (edgR text ent k) j).length c2)) := offs_at HOf.out HLk.out.symm
              generalize plcT (edgR text ent k) j = P at *
              go_upto_region 12 with (at_builtin; go_loud (refine wpList_append_at _ rfl (.tmp 68) (.tmp 70) 32 rfl w3.heap.size 3 iI (.int .i64 0) 1 8 Tryz.underlying32 hi hz0 hz1 hz2 rfl (by decide) (.slice O2 P.length c2) P.length (iVals .i64 P) rfl HRa.out ⟨w5.heap.size, 0, none⟩ 1 1 [.int .i64 (j : Int)] rfl rfl (fun j u hu => World.news_of_block (newAtK rfl) j u hu) one_oneI (by omega) (by unfold maxLen; omega) (by omega) HBa.out.size ?_; intro g3 cap3 w4 hown hgrow hloc; have HR3 : Hid (w4.ownsRow w3.heap.size 3 1 (.slice (some ⟨g3, 0, none⟩) (P.length + 1) cap3) (plcT (edgR text ent k) (j + 1)).length (iVals .i64 (plcT (edgR text ent k) (j + 1)))) := (by rw [Hid, HP.out, iVals_snoc, List.length_append]; exact hown); have HLn : Hid ((plcT (edgR text ent k) (j + 1)).length = P.length + 1) := (by rw [Hid, HP.out, List.length_append]; rfl); have HB3 : Hid (Below w3.heap.size w3 w4) := HBa.out.grown hgrow HBa.out.size (fun b hb => (HRa.out.lt b hb).1); have HZ4 : Hid (RowsZ w4 w3.heap.size (.slice O k c) vs LL) := HZa.out.row_other HRa.out HOfL.out hgrow; have HO4 : Hid (Offs vs k (.slice (some ⟨g3, 0, none⟩) (P.length + 1) cap3)) := offs_at (offs_grow HZa.out HOfL.out hloc) HLk.out; clear hown hgrow hloc))
              go_wp2
              go_roundw
              case rel => exact ⟨j + 1, some ⟨g3, 0, none⟩, cap3, by go_num, by rw [HLn.out], by omega, HR3, HZ4, HO4, HB3⟩
              case measure => simp [intOf]; omega
            | false =>
              rw [hq] at hk0 C
              simp only [Bool.false_or] at C
              clear hq
              have d0 := cell_regrown d0
              have hk0 := cell_regrown hk0
              have hs0 := cell_regrown hs0
              have cC := fun d os => Calls.regrown_of (C (grow (redrawn wr d) os))
              clear C
              refine wp_region_quiet_below (by kernel_rfl) (by kernel_rfl) ?_
              repeat (go_big_quiet_step (exact cC _ _))
              refine wpQuiet_nil ?_
              intro w5 hw5
              obtain ⟨pw, hw5⟩ := hw5
              have HB5 : Hid (Below wr.heap.size wr w5) := by unfold Hid; rw [hw5]; exact below_regrown wr pw.d pw.os
              clear hw5 pw d0 hk0 hs0 cC
              have HBx : Hid (Below wr.heap.size wr (w5.alloc (.cells #[.int .i64 (j : Int)] 3))) := lb_alloc HB5.out _
              have HBa : Hid (Below w3.heap.size w3 (w5.alloc (.cells #[.int .i64 (j : Int)] 3))) := lb_trans HB.out HBx.out
              have HRa : Hid ((w5.alloc (.cells #[.int .i64 (j : Int)] 3)).ownsRow w3.heap.size 3 1 (.slice O2 (plcT (edgR text ent k) j).length c2) (plcT (edgR text ent k) j).length (iVals .i64 (plcT (edgR text ent k) j))) := row_keep HRw.out HBx.out
              have HZa : Hid (RowsZ (w5.alloc (.cells #[.int .i64 (j : Int)] 3)) w3.heap.size (.slice O k c) vs LL) := HZ.out.keep HBx.out
              have HOfL : Hid (Offs vs LL.length (.slice O2 (plcT (edgR text ent k) j).length c2)) := offs_at HOf.out HLk.out.symm
              generalize plcT (edgR text ent k) j = P at *
              go_upto_region 12 with (at_builtin; go_loud (refine wpList_append_at _ rfl (.tmp 68) (.tmp 70) 32 rfl w3.heap.size 3 iI (.int .i64 0) 1 8 Tryz.underlying32 hi hz0 hz1 hz2 rfl (by decide) (.slice O2 P.length c2) P.length (iVals .i64 P) rfl HRa.out ⟨w5.heap.size, 0, none⟩ 1 1 [.int .i64 (j : Int)] rfl rfl (fun j u hu => World.news_of_block (newAtK rfl) j u hu) one_oneI (by omega) (by unfold maxLen; omega) (by omega) HBa.out.size ?_; intro g3 cap3 w4 hown hgrow hloc; have HR3 : Hid (w4.ownsRow w3.heap.size 3 1 (.slice (some ⟨g3, 0, none⟩) (P.length + 1) cap3) (plcT (edgR text ent k) (j + 1)).length (iVals .i64 (plcT (edgR text ent k) (j + 1)))) := (by rw [Hid, HP.out, iVals_snoc, List.length_append]; exact hown); have HLn : Hid ((plcT (edgR text ent k) (j + 1)).length = P.length + 1) := (by rw [Hid, HP.out, List.length_append]; rfl); have HB3 : Hid (Below w3.heap.size w3 w4) := HBa.out.grown hgrow HBa.out.size (fun b hb => (HRa.out.lt b hb).1); have HZ4 : Hid (RowsZ w4 w3.heap.size (.slice O k c) vs LL) := HZa.out.row_other HRa.out HOfL.out hgrow; have HO4 : Hid (Offs vs k (.slice (some ⟨g3, 0, none⟩) (P.length + 1) cap3)) := offs_at (offs_grow HZa.out HOfL.out hloc) HLk.out; clear hown hgrow hloc))
              go_wp2
              go_roundw
              case rel => exact ⟨j + 1, some ⟨g3, 0, none⟩, cap3, by go_num, by rw [HLn.out], by omega, HR3, HZ4, HO4, HB3⟩
              case measure => simp [intOf]; omega
        · obtain rfl : j = (blkL text ent).length := by omega
          have HBx : Hid (Below wr.heap.size wr (wr.alloc (.cells #[.slice O2 (plcT (edgR text ent k) (blkL text ent).length).length c2] 32))) := lb_alloc (Below.refl _ _) _
          have HBa : Hid (Below w3.heap.size w3 (wr.alloc (.cells #[.slice O2 (plcT (edgR text ent k) (blkL text ent).length).length c2] 32))) := lb_alloc HB.out _
          have HRa : Hid ((wr.alloc (.cells #[.slice O2 (plcT (edgR text ent k) (blkL text ent).length).length c2] 32)).ownsRow w3.heap.size 3 1 (.slice O2 (plcT (edgR text ent k) (blkL text ent).length).length c2) (plcT (edgR text ent k) (blkL text ent).length).length (iVals .i64 (plcT (edgR text ent k) (blkL text ent).length))) := row_keep HRw.out HBx.out
          have HZa : Hid (RowsZ (wr.alloc (.cells #[.slice O2 (plcT (edgR text ent k) (blkL text ent).length).length c2] 32)) w3.heap.size (.slice O k c) vs LL) := HZ.out.keep HBx.out
          have HVs : Hid (vs.length = k) := by rw [Hid, HZa.out.len, HLk.out]
          have HBg : Hid ((wr.alloc (.cells #[.slice O2 (plcT (edgR text ent k) (blkL text ent).length).length c2] 32)).ownsRow w3.heap.size 32 1 (.slice O k c) k vs) := by have := HZa.out.bag; rwa [HLk.out] at this
          generalize plcT (edgR text ent k) (blkL text ent).length = P at *
          go_upto_region 7 with (at_builtin; go_loud (refine wpList_append_own _ rfl (.tmp 72) (.tmp 74) 127 rfl w3.heap.size 32 iS (.slice none 0 0) 1 24 Tryz.underlying127 hy hy0 hy1 hy2 rfl (by decide) (.slice O k c) k vs rfl HBg.out ⟨wr.heap.size, 0, none⟩ 1 1 [.slice O2 P.length c2] rfl rfl (fun j u hu => World.news_of_block (newAtK rfl) j u hu) one_slice (by unfold maxLen; omega) (by omega) HBa.out.size ?_; intro v3 w4 hown hgrow _; have HZ4 : Hid (RowsZ w4 w3.heap.size v3 (vs ++ [.slice O2 P.length c2]) (LL ++ [P])) := HZa.out.add HRa.out (by rw [HLk.out]; exact hown) hgrow; have HV4 : Hid (w4.ownsRow w3.heap.size 32 1 v3 (k + 1) (vs ++ [.slice O2 P.length c2])) := hown; have HB3 : Hid (Below w3.heap.size w3 w4) := HBa.out.grown hgrow HBa.out.size (fun b hb => (HBg.out.lt b hb).1); clear hown hgrow))
          obtain ⟨A5, c5, e5⟩ := own_sl HV4.out
          subst e5
          go_wp2
          go_roundw
          case rel => exact ⟨k + 1, A5, c5, _, by go_num, rfl, by omega, by rw [HT1.out]; exact HZ4, HB3⟩
          case measure => simp [intOf]; omega
    · obtain rfl : k = (blkL text ent).length := by omega
      go_wp2
      go_ret
      exact ⟨O, c, vs, by rw [edgT_len]; rfl, by rw [edgT_len]; exact HZ.out.mono HBw.out.size, lb_trans HBw.out HB.out⟩




end Go.Proofs.YtmlhnnmelopleaaGreatDoor

namespace Go.Proofs.YtmlhnnmelopleaaGreatDoor
open Go.RowKit

set_option maxRecDepth 100000 in
set_option maxHeartbeats 8000000 in
theorem refsets_any (A1 A2 : Option Addr) (c1 ml c2 : Nat) (ent : Int) (text : List Int) (w : World) (hT : IntsAt w A1 .u32 text) (hR : ∀ i, i < text.length → 0 ≤ nth text i ∧ nth text i < 4294967296) (hM : MayI text ml ent) (hc : text.length ≤ c1) :
    Calls Tryz.prog 60 #[.agg #[.slice A1 text.length c1, .int .i64 ent, .slice A2 ml c2]] w (SetP text ent w) := by
  have hl : text.length ≤ 16384 := hM.past.len
  have hLt := blk_len_le text ent
  obtain ⟨a1, ea1, _⟩ := hT 0 hM.past.pos
  subst ea1
  have HEl : Hid ((edgT text ent (blkL text ent).length).length = (blkL text ent).length) := edgT_len text ent _
  have HEi : Hid (Inn (edgT text ent (blkL text ent).length) (blkL text ent).length) := fun k t hk ht => edg_in hk ht
  have HEr : Hid (∀ k, k < (blkL text ent).length → (rowZ (edgT text ent (blkL text ent).length) k).length ≤ 65536) := fun k hk => by
    rw [edg_row hk]
    have := plcT_len (edgR text ent k) (blkL text ent).length
    omega
  have HBi : Hid (∀ i, i < (blkL text ent).length → 0 ≤ rAt (blkL text ent) i ∧ rAt (blkL text ent) i < rSym (blkL text ent) i ∧ rSym (blkL text ent) i ≤ (text.length : Int)) := fun i hi => blk_in hi
  have HRl : Hid (∀ j, blR text ent j < 65536) := fun j => blR_lt text ent j
  have HWl : Hid (∀ j, blW text ent j < 65536) := fun j => blW_lt text ent j
  obtain ⟨W, HW⟩ : ∃ W, Hid (w.alloc (.cells #[.slice (some a1) text.length c1, .int .i64 ent, .slice A2 ml c2] 31) = W) := ⟨_, rfl⟩
  have HB : Hid (Below w.heap.size w W) := by unfold Hid; rw [← HW.out]; exact lb_alloc (Below.refl _ _) _
  have i0 : W.cell? ⟨w.heap.size, 0, none⟩ = some (.slice (some a1) text.length c1) := by rw [← HW.out]; simp [go_sem]
  have i1 : W.cell? ⟨w.heap.size, 1, none⟩ = some (.int .i64 ent) := by rw [← HW.out]; simp [go_sem]
  have i2 : W.cell? ⟨w.heap.size, 2, none⟩ = some (.slice A2 ml c2) := by rw [← HW.out]; simp [go_sem]
  have C1 := refblocks_any (some a1) A2 c1 ml c2 ent text W (hT.keep HB.out) hR hM
  have C2 := fun wx (hx : Below w.heap.size w wx) => refedges_any (some a1) A2 c1 ml c2 ent text wx (hT.keep hx) hR hM
  have C3 : ∀ (i : Nat), i < (blkL text ent).length → ∀ (c : Nat) (wx : World), Below w.heap.size w wx → Calls Tryz.prog 43 #[.slice (some (a1.add (rAt (blkL text ent) i).toNat)) (rSym (blkL text ent) i - rAt (blkL text ent) i).toNat c] wx fun e w' => e = .returned (.tuple #[.int .u16 ((blR text ent i : Nat) : Int), .int .u16 ((blW text ent i : Nat) : Int)]) ∧ Below wx.heap.size wx w' := fun i hi c wx hx => by
    obtain ⟨f0, f1, f2⟩ := blk_in hi
    have hln := cutL_len f0 (by omega) f2
    have h := refall_any (some (a1.add (rAt (blkL text ent) i).toNat)) c (cutL text (rAt (blkL text ent) i) (rSym (blkL text ent) i)) wx (cutL_ints (hT.keep hx) f0 (by omega) f2) (fun j hj => by
      rw [cutL_nth f0 (by omega) f2 hj]
      rw [hln] at hj
      exact hR _ (by omega)) (by omega)
    rw [hln] at h
    exact h
  unfold SetP
  clear hT hR hM
  generalize blR text ent = RR at *
  generalize blW text ent = WW at *
  generalize edgT text ent (blkL text ent).length = EE at *
  generalize blkL text ent = L at *
  have hmk := make_us L.length (by omega)
  go_enter Tryz.func60, Tryz.ntmps60
  go_upto_region 1 with fail
  rw [HW.out]
  clear HW
  go_upto_region 3 with (first
    | (go_at_call 37; refine C1.mono ?_; rintro e w1 ⟨B, cB, rfl, hrl, hb1⟩; have HB1 : Hid (Below w.heap.size w w1) := lb_trans HB.out hb1; have HL1 : Hid (RelsAt w1 B L) := hrl; have m0 := lkeep hb1 i0; have m1 := lkeep hb1 i1; have m2 := lkeep hb1 i2; clear hrl hb1 i0 i1 i2 C1)
    | (go_at_call 81; refine (C2 _ HB1.out).mono ?_; rintro e w2 ⟨A, cA, vs, rfl, hz, hb2⟩; have HB2 : Hid (Below w.heap.size w w2) := lb_trans HB1.out hb2; have HL2 : Hid (RelsAt w2 B L) := HL1.out.keep hb2; have HE : Hid (IntsZ w2 A EE) := hz.ints; have HX0 : Hid (w2.cell? ⟨w.heap.size, 0, none⟩ = some (.slice (some a1) text.length c1)) := lkeep hb2 m0; clear hz hb2 m0 m1 m2 C2 HL1))
  obtain ⟨X, HX⟩ : ∃ X, Hid (w2.alloc (.cells (madeCells #[.int .u16 0] L.length) 85) = X) := ⟨_, rfl⟩
  have HBX : Hid (Below w2.heap.size w2 X) := by unfold Hid; rw [← HX.out]; exact lb_alloc (Below.refl _ _) _
  have HSX : Hid (UsAt X w2.heap.size L.length zeroS) := by unfold Hid; rw [← HX.out]; exact UsAt.made w2 L.length
  have hgx : w2.heap.size < X.heap.size := HSX.out.lt
  go_upto_region 4 with fail
  rw [HX.out]
  clear HX
  obtain ⟨Y, HY⟩ : ∃ Y, Hid (X.alloc (.cells (madeCells #[.int .u16 0] L.length) 85) = Y) := ⟨_, rfl⟩
  have HBY : Hid (Below w2.heap.size w2 Y) := by unfold Hid; rw [← HY.out]; exact lb_alloc HBX.out _
  have HS1 : Hid (UsAt Y w2.heap.size L.length zeroS) := by unfold Hid; rw [← HY.out]; exact HSX.out.keep (lb_alloc (Below.refl _ _) _)
  have HS2 : Hid (UsAt Y X.heap.size L.length zeroS) := by unfold Hid; rw [← HY.out]; exact UsAt.made X L.length
  go_upto_region 5 with fail
  rw [HY.out]
  clear HY hmk HSX HBX
  generalize X.heap.size = g2 at *
  have hne : w2.heap.size ≠ g2 := by omega
  go_wp2
  go_loopw [8] (fun v wr => ∃ (m : Bool) (F G : Int → Nat), v = .bool m ∧ Hid (UsAt wr w2.heap.size L.length F) ∧ Hid (UsAt wr g2 L.length G) ∧ Hid (Grw EE RR WW L.length F G) ∧ Hid (m = false → Lst EE RR WW L.length F G) ∧ Hid (Below w2.heap.size w2 wr)) (fun v wr => 2 * (lowS (cellU wr w2.heap.size) L.length + lowS (cellU wr g2) L.length) + bolOf v)
  case atStart => exact ⟨true, _, _, rfl, HS1, HS2, Grw.zero _ _ _ _, fun h => (by cases h), HBY⟩
  case round =>
    clear HS1 HS2 HBY
    obtain ⟨m, F, G, rfl, HS1, HS2, HN, HC, HBr⟩ := hrel
    cases m with
    | false =>
      go_wp2
      go_ret2
      exact ⟨w2.heap.size, g2, F, G, rfl, HS1.out, HS2.out, (by first | exact HC.out rfl | exact HC.out trivial), fun x => (HN.out.lt x).2, lb_trans HB2.out HBr.out⟩
    | true =>
      have HM0 : Hid (lowS (cellU wr w2.heap.size) L.length + lowS (cellU wr g2) L.length = lowS F L.length + lowS G L.length) := by unfold Hid; rw [HS1.out.low, HS2.out.low]
      clear HC
      go_wp2
      go_loopw [8, 9] (fun v i wr => ∃ (m : Bool) (k : Nat) (x : Int) (F' G' : Int → Nat), v = .bool m ∧ i = .int .i64 x ∧ x = (k : Int) - 1 ∧ k ≤ L.length ∧ Hid (UsAt wr w2.heap.size L.length F') ∧ Hid (UsAt wr g2 L.length G') ∧ Hid (Grw EE RR WW L.length F' G') ∧ Hid (OnS EE RR WW L.length F G F' G' m k) ∧ Hid (Below w2.heap.size w2 wr)) (fun _ i _ => (intOf i + 1).toNat)
      case atStart => exact ⟨false, L.length, (L.length : Int) - 1, F, G, rfl, by go_num, rfl, Nat.le_refl _, HS1, HS2, HN, OnS.zero _ _ _ _ _ _, HBr⟩
      case round =>
        clear HS1 HS2 HN HBr
        obtain ⟨m, kk, x, F', G', rfl, rfl, hx, hk, HS1, HS2, HN, HO, HBr⟩ := hrel
        cases kk with
        | zero =>
          have hx0 : x < 0 := by omega
          have hx1 : ¬ 0 ≤ x := by omega
          have hx2 : decide (0 ≤ x) = false := decide_eq_false hx1
          clear hx
          go_wp2
          go_roundw
          case rel => exact ⟨m, F', G', rfl, HS1, HS2, HN, fun e => HO.out.done HN.out e, HBr⟩
          case measure =>
            rw [HS1.out.low, HS2.out.low, HM0.out]
            cases m with
            | true => have := HO.out.2 rfl; simp [bolOf]; omega
            | false => obtain ⟨e1, e2, _⟩ := HO.out.1 rfl; rw [e1, e2]; simp [bolOf]
        | succ k =>
          have hx2 : x = (k : Int) := by omega
          clear hx
          subst hx2
          have hlt : k < L.length := by omega
          have hlt' : (k : Int) < (L.length : Int) := by omega
          have hkE : k < EE.length := by rw [HEl.out]; exact hlt
          have hkE' : (k : Int) < (EE.length : Int) := by omega
          obtain ⟨a, R, kr, ea, q, qr⟩ := HE.out k hkE
          subst ea
          have HQ : Hid (w2.cell? (a.add k) = some (.slice R (rowZ EE k).length kr)) := q
          have HQr : Hid (IntsAt w2 R .i64 (rowZ EE k)) := qr
          have hrl := HEr.out k hlt
          clear q qr
          go_wp2
          go_loopw [10, 11] (fun o i ws => ∃ j : Nat, i = .int .i64 j ∧ o = .int .u16 ((orE F' (rowZ EE k) j : Nat) : Int) ∧ j ≤ (rowZ EE k).length ∧ Hid (Below wr.heap.size wr ws)) (fun _ i _ => (rowZ EE k).length - (intOf i).toNat)
          case atStart => exact ⟨0, rfl, rfl, Nat.zero_le _, Below.refl _ _⟩
          case round =>
            obtain ⟨j, rfl, rfl, hj, HBs⟩ := hrel
            have HB3 : Hid (Below w2.heap.size w2 _) := lb_trans HBr.out HBs.out
            have q := lkeep HB3.out HQ.out
            by_cases hjl : j < (rowZ EE k).length
            · have hjl' : (j : Int) < ((rowZ EE k).length : Int) := by omega
              obtain ⟨b, eb2, r⟩ := HQr.out j hjl
              subst eb2
              replace r := lkeep HB3.out r
              obtain ⟨z0, z1⟩ := HEi.out k j hlt hjl
              have t0 := (HS1.out.keep HBs.out).cell z0 z1
              have hor := orI (orE_lt (rowZ EE k) (fun x => (HN.out.lt x).1) j) (HN.out.lt (nth (rowZ EE k) j)).1
              have HSt : Hid (orE F' (rowZ EE k) (j + 1) = orE F' (rowZ EE k) j ||| F' (nth (rowZ EE k) j)) := rfl
              generalize orE F' (rowZ EE k) j ||| F' (nth (rowZ EE k) j) = o2 at *
              generalize orE F' (rowZ EE k) j = o at *
              generalize nth (rowZ EE k) j = x at *
              go_wp2
              go_roundw
              case rel => exact ⟨j + 1, by go_num, by rw [HSt.out], by omega, HBs⟩
              case measure => simp [intOf]; omega
            · obtain rfl : j = (rowZ EE k).length := by omega
              obtain ⟨b, eb, q0, q1⟩ := (HL2.out.keep HB3.out) k hlt
              subst eb
              obtain ⟨f0, f1, f2⟩ := HBi.out k hlt
              have x0 := lkeep HB3.out HX0.out
              have hcut := cut_run a1 text.length c1 f0 f1 f2 hc
              have C := fun c wx hw => C3 k hlt c wx hw
              have HG2 : Hid (Grw EE RR WW L.length (putS F' (k : Int) (insN (RR k) (WW k) (orE F' (rowZ EE k) (rowZ EE k).length))) (putS G' (k : Int) (orE F' (rowZ EE k) (rowZ EE k).length))) := HN.out.more HRl.out HWl.out HEi.out hlt
              have HOa : Hid (insN (RR k) (WW k) (orE F' (rowZ EE k) (rowZ EE k).length) = F' (k : Int) → orE F' (rowZ EE k) (rowZ EE k).length = G' (k : Int) → OnS EE RR WW L.length F G (putS F' (k : Int) (insN (RR k) (WW k) (orE F' (rowZ EE k) (rowZ EE k).length))) (putS G' (k : Int) (orE F' (rowZ EE k) (rowZ EE k).length)) m k) := fun e1 e2 => HO.out.keep e1 e2
              have HOb : Hid (insN (RR k) (WW k) (orE F' (rowZ EE k) (rowZ EE k).length) ≠ F' (k : Int) ∨ orE F' (rowZ EE k) (rowZ EE k).length ≠ G' (k : Int) → OnS EE RR WW L.length F G (putS F' (k : Int) (insN (RR k) (WW k) (orE F' (rowZ EE k) (rowZ EE k).length))) (putS G' (k : Int) (orE F' (rowZ EE k) (rowZ EE k).length)) true k) := fun e => HO.out.new HN.out HRl.out HWl.out hlt e
              have hol := orE_lt (rowZ EE k) (fun x => (HN.out.lt x).1) (rowZ EE k).length
              have hless := lessI hol (HWl.out k)
              have hor : bits .or .u16 ((RR k : Nat) : Int) ((lessN (orE F' (rowZ EE k) (rowZ EE k).length) (WW k) : Nat) : Int) = ((insN (RR k) (WW k) (orE F' (rowZ EE k) (rowZ EE k).length) : Nat) : Int) := orI (HRl.out k) (lessN_lt hol)
              generalize insN (RR k) (WW k) (orE F' (rowZ EE k) (rowZ EE k).length) = v at *
              generalize orE F' (rowZ EE k) (rowZ EE k).length = o at *
              generalize RR k = rk at *
              generalize WW k = wk at *
              generalize lessN o wk = lo at *
              generalize rAt L k = fr at *
              generalize rSym L k = tt at *
              go_upto_region 16 with fail
              clear q
              have hXX := Below.refl wr.heap.size wr
              go_region_held3 (fun Z => Below wr.heap.size wr Z ∧ Z.cell? ⟨w.heap.size, 0, none⟩ = some (.slice (some a1) text.length c1) ∧ Z.cell? (b.add (k * 2)) = some (.int .i64 fr) ∧ Z.cell? ⟨(b.add (k * 2)).block, (b.add (k * 2)).off + 1, none⟩ = some (.int .i64 tt)) (first | exact ⟨hXX, x0, q0, q1⟩ | exact ⟨hXX.drew, x0, q0, q1⟩ | exact ⟨hY, lkeep hY x0, lkeep hY q0, lkeep hY q1⟩ | exact ⟨hY.drew, lkeep hY.drew x0, lkeep hY.drew q0, lkeep hY.drew q1⟩)
                (first | (go_at_call 43; refine (C _ _ (by first | exact lb_trans HB2.out HB3.out | exact lb_trans HB2.out (lb_trans HB3.out hXX.drew))).mono ?_; rintro e w5 ⟨rfl, hb5⟩; have hY : Below wr.heap.size wr w5 := (by first | exact hb5 | exact lb_trans hXX.drew hb5); clear hb5))
              rename_i hS
              clear hS hcut C x0 q0 q1 hXX
              have HT1 : Hid (UsAt w5 w2.heap.size L.length F') := HS1.out.keep (lb_trans HBs.out hY)
              have HT2 : Hid (UsAt w5 g2 L.length G') := HS2.out.keep (lb_trans HBs.out hY)
              have HB5 : Hid (Below w2.heap.size w2 w5) := lb_trans HB3.out hY
              clear hY
              have s1 := HT1.out.cellN hlt
              have s2 := HT2.out.cellN hlt
              have s3 := HT1.out.fro k
              obtain ⟨Z, HZ⟩ : ∃ Z, Hid (w5.setCell ⟨w2.heap.size, k, none⟩ (.int .u16 (v : Int)) = Z) := ⟨_, rfl⟩
              have HU1 : Hid (UsAt Z w2.heap.size L.length (putS F' (k : Int) v)) := by unfold Hid; rw [← HZ.out]; exact HT1.out.put hlt v
              have HU2 : Hid (UsAt Z g2 L.length G') := by unfold Hid; rw [← HZ.out]; exact HT2.out.other (Ne.symm hne)
              have HBZ : Hid (Below w2.heap.size w2 Z) := by unfold Hid; rw [← HZ.out]; exact below_setAt HB5.out (Nat.le_refl _) HB5.out.size
              have z2 := HU2.out.cellN hlt
              have z3 := HU2.out.fro k
              have HV1 : Hid (UsAt (Z.setCell ⟨g2, k, none⟩ (.int .u16 (o : Int))) w2.heap.size L.length (putS F' (k : Int) v)) := HU1.out.other hne
              have HV2 : Hid (UsAt (Z.setCell ⟨g2, k, none⟩ (.int .u16 (o : Int))) g2 L.length (putS G' (k : Int) o)) := HU2.out.put hlt o
              have HBV : Hid (Below w2.heap.size w2 (Z.setCell ⟨g2, k, none⟩ (.int .u16 (o : Int)))) := grown_belowR HBZ.out (gset11 _ _ _ _) (by omega) HBZ.out.size
              by_cases e1 : v = F' (k : Int)
              · have d1 : (((v : Nat) : Int) != ((F' (k : Int) : Nat) : Int)) = false := by simp [e1]
                have d2 : (((v : Nat) : Int) == ((F' (k : Int) : Nat) : Int)) = true := by simp [e1]
                by_cases e2 : o = G' (k : Int)
                · have HOc : Hid (OnS EE RR WW L.length F G (putS F' (k : Int) v) (putS G' (k : Int) o) m k) := HOa.out e1 e2
                  have d3 : (((o : Nat) : Int) != ((G' (k : Int) : Nat) : Int)) = false := by simp [e2]
                  have d4 : (((o : Nat) : Int) == ((G' (k : Int) : Nat) : Int)) = true := by simp [e2]
                  clear e1 e2 HOa HOb
                  go_upto_region 21 with fail
                  rw [HZ.out]
                  go_wp2
                  go_roundw
                  case rel => exact ⟨m, k, (k : Int) - 1, _, _, rfl, by go_num, rfl, by omega, HV1, HV2, HG2, HOc, HBV⟩
                  case measure => simp [intOf]
                · have HOc : Hid (OnS EE RR WW L.length F G (putS F' (k : Int) v) (putS G' (k : Int) o) true k) := HOb.out (.inr e2)
                  have d3 : (((o : Nat) : Int) != ((G' (k : Int) : Nat) : Int)) = true := by simp; omega
                  have d4 : (((o : Nat) : Int) == ((G' (k : Int) : Nat) : Int)) = false := by simp; omega
                  clear e1 e2 HOa HOb
                  go_upto_region 21 with fail
                  rw [HZ.out]
                  go_wp2
                  go_roundw
                  case rel => exact ⟨true, k, (k : Int) - 1, _, _, rfl, by go_num, rfl, by omega, HV1, HV2, HG2, HOc, HBV⟩
                  case measure => simp [intOf]
              · have HOc : Hid (OnS EE RR WW L.length F G (putS F' (k : Int) v) (putS G' (k : Int) o) true k) := HOb.out (.inl e1)
                have d1 : (((v : Nat) : Int) != ((F' (k : Int) : Nat) : Int)) = true := by simp; omega
                have d2 : (((v : Nat) : Int) == ((F' (k : Int) : Nat) : Int)) = false := by simp; omega
                clear e1 HOa HOb
                go_upto_region 21 with fail
                rw [HZ.out]
                go_wp2
                go_roundw
                case rel => exact ⟨true, k, (k : Int) - 1, _, _, rfl, by go_num, rfl, by omega, HV1, HV2, HG2, HOc, HBV⟩
                case measure => simp [intOf]



end Go.Proofs.YtmlhnnmelopleaaGreatDoor
