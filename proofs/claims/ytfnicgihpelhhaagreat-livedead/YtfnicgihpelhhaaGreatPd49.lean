/-
  has of the document, by what it returns. Back of the document, by what it answers. goes of the document, by what it returns; the word is of 32 bits. Edges of the document, by what it answers.
-/
import Derived.Test.YtfnicgihpelhhaaGreatProg
import Derived.WalkKit
import Derived.WalkSpells
import Derived.WalkLawsBesides
import Derived.RowKit3
import Derived.Below
import Derived.Deep.QuietTactic
import Derived.BigQuiet
import Derived.WalkSmall
import Derived.Laws.Rows
import Derived.Test.YtfnicgihpelhhaaGreatPd12
import Derived.Test.YtfnicgihpelhhaaGreatPd18
import Derived.Test.YtfnicgihpelhhaaGreatPd36
import Derived.Lib.QuietBelow
import Derived.Test.YtfnicgihpelhhaaGreatPd48
namespace Go.Proofs.YtfnicgihpelhhaaGreat
open Go.RowKit


end Go.Proofs.YtfnicgihpelhhaaGreat

namespace Go.Proofs.YtfnicgihpelhhaaGreat
open Go.RowKit

theorem offs_at {vs : List Value} {n m : Nat} {v : Value} (h : Offs vs n v) (e : n = m) : Offs vs m v := by subst e; exact h

end Go.Proofs.YtfnicgihpelhhaaGreat

namespace Go.Proofs.YtfnicgihpelhhaaGreat
open Go.RowKit

set_option maxRecDepth 100000 in
set_option maxHeartbeats 4000000 in
theorem goes_any (v place : Int) (next known : Bool) (h0 : 0 ≤ v) (h1 : v < 4294967296) (w : World) :
    Calls Tryz.prog 56 #[.int .u32 v, .bool next, .int .i64 place, .bool known] w fun e w' => e = .returned (.bool (goesF (dOp v) (dN v) next place known)) ∧ Below w.heap.size w w' := by
  have C := refdecode_any v h0 h1 w
  unfold goesF
  generalize dOp v = x at *
  generalize dD v = x1 at *
  generalize dA v = x2 at *
  generalize dB v = x3 at *
  generalize dN v = n at *
  by_cases g1 : x = -1 ∨ x = 0 ∨ x = 21
  · rw [if_pos g1]
    rcases g1 with rfl | rfl | rfl
    all_goals (
      go_enter Tryz.func56, Tryz.ntmps56
      go_wp2_with (go_at_call 20; refine C.mono ?_; rintro e w1 ⟨rfl, hb⟩)
      go_ret
      exact ⟨rfl, lb_alloc hb _⟩)
  rw [if_neg g1]
  have e1 : (x == -1) = false := by simpa using fun h => g1 (.inl h)
  have e2 : (x == 0) = false := by simpa using fun h => g1 (.inr (.inl h))
  have e3 : (x == 21) = false := by simpa using fun h => g1 (.inr (.inr h))
  by_cases g2 : x = 15 ∨ x = 17
  · rw [if_pos g2]
    clear g1
    rcases g2 with rfl | rfl
    all_goals (
      go_enter Tryz.func56, Tryz.ntmps56
      go_wp2_with (go_at_call 20; refine C.mono ?_; rintro e w1 ⟨rfl, hb⟩)
      go_ret
      exact ⟨rfl, lb_alloc hb _⟩)
  rw [if_neg g2]
  have e4 : (x == 15) = false := by simpa using fun h => g2 (.inl h)
  have e5 : (x == 17) = false := by simpa using fun h => g2 (.inr h)
  by_cases g3 : x = 16
  · rw [if_pos g3]
    clear g1 g2
    subst g3
    cases hp : (n == place)
    all_goals (
      go_enter Tryz.func56, Tryz.ntmps56
      go_wp2_with (go_at_call 20; refine C.mono ?_; rintro e w1 ⟨rfl, hb⟩)
      go_ret
      exact ⟨by first | rfl | simp, lb_alloc hb _⟩)
  rw [if_neg g3]
  have e6 : (x == 16) = false := by simpa using g3
  by_cases g4 : x = 18 ∨ x = 19
  · rw [if_pos g4]
    clear g1 g2 g3
    rcases g4 with rfl | rfl
    all_goals (
      go_enter Tryz.func56, Tryz.ntmps56
      go_wp2_with (go_at_call 20; refine C.mono ?_; rintro e w1 ⟨rfl, hb⟩)
      go_ret
      exact ⟨rfl, lb_alloc hb _⟩)
  rw [if_neg g4]
  have e7 : (x == 18) = false := by simpa using fun h => g4 (.inl h)
  have e8 : (x == 19) = false := by simpa using fun h => g4 (.inr h)
  clear g1 g2 g3 g4
  go_enter Tryz.func56, Tryz.ntmps56
  go_wp2_with (go_at_call 20; refine C.mono ?_; rintro e w1 ⟨rfl, hb⟩)
  go_ret
  exact ⟨rfl, lb_alloc hb _⟩



end Go.Proofs.YtfnicgihpelhhaaGreat

namespace Go.Proofs.YtfnicgihpelhhaaGreat
open Go.RowKit

open Go.Sort in
set_option maxRecDepth 100000 in
set_option maxHeartbeats 8000000 in
theorem refedges_any (A1 A2 : Option Addr) (c1 ml c2 : Nat) (ent : Int) (text : List Int) (w : World) (hT : IntsAt w A1 .u32 text) (hR : ∀ i, i < text.length → 0 ≤ nth text i ∧ nth text i < 4294967296) (hM : MayI text ml ent) :
    Calls Tryz.prog 28 #[.agg #[.slice A1 text.length c1, .int .i64 ent, .slice A2 ml c2]] w (ZP (edgT text ent (blkL text ent).length) w) := by
  obtain ⟨iI, hi, hz0, hz1, hz2⟩ := infoI
  obtain ⟨iS, hy, hy0, hy1, hy2⟩ := infoS
  have hl : text.length ≤ 16384 := hM.past.len
  have hLt := blk_len_le text ent
  obtain ⟨W, HW⟩ : ∃ W, Hid (w.alloc (.cells #[.slice A1 text.length c1, .int .i64 ent, .slice A2 ml c2] 25) = W) := ⟨_, rfl⟩
  have HB : Hid (Below w.heap.size w W) := by unfold Hid; rw [← HW.out]; exact lb_alloc (Below.refl _ _) _
  have i0 : W.cell? ⟨w.heap.size, 0, none⟩ = some (.slice A1 text.length c1) := by rw [← HW.out]; simp [go_sem]
  have i1 : W.cell? ⟨w.heap.size, 1, none⟩ = some (.int .i64 ent) := by rw [← HW.out]; simp [go_sem]
  have i2 : W.cell? ⟨w.heap.size, 2, none⟩ = some (.slice A2 ml c2) := by rw [← HW.out]; simp [go_sem]
  have C1 := refblocks_any A1 A2 c1 ml c2 ent text W (hT.keep HB.out) hR hM
  have C2 := fun wx (hx : Below w.heap.size w wx) => refmark1_any A1 A2 c1 ml c2 ent text wx (hT.keep hx) hR hM
  have C3 := fun wx (hx : Below w.heap.size w wx) => refmark2_any A1 A2 c1 ml c2 ent text wx (hT.keep hx) hR hM
  have HT : Hid (IntsAt w A1 .u32 text) := hT
  have HR : Hid _ := hR
  clear hT hR hM
  go_enter Tryz.func28, Tryz.ntmps28
  go_upto_region 1 with fail
  rw [HW.out]
  clear HW
  go_upto_region 4 with (first
    | (go_at_call 27; refine C1.mono ?_; rintro e w1 ⟨B, cB, rfl, hrl, hb1⟩; have HB1 : Hid (Below w.heap.size w w1) := lb_trans HB.out hb1; have HL1 : Hid (RelsAt w1 B (blkL text ent)) := hrl; have m0 := lkeep hb1 i0; have m1 := lkeep hb1 i1; have m2 := lkeep hb1 i2; clear hrl hb1 i0 i1 i2 C1)
    | (go_at_call 55; refine (C2 _ HB1.out).mono ?_; rintro e w2 ⟨g1, rfl, hm1, hb2⟩; have HB2 : Hid (Below w.heap.size w w2) := lb_trans HB1.out hb2; have HL2 : Hid (RelsAt w2 B (blkL text ent)) := HL1.out.keep hb2; have HK2 : Hid (BlsAt w2 g1 text.length (takF text)) := hm1; have n0 := lkeep hb2 m0; have n1 := lkeep hb2 m1; have n2 := lkeep hb2 m2; clear hm1 hb2 m0 m1 m2 C2 HL1)
    | (go_at_call 55; refine (C3 _ HB2.out).mono ?_; rintro e w3 ⟨g2, rfl, hm2, hb3⟩; have HBw : Hid (Below w.heap.size w w3) := lb_trans HB2.out hb3; have HBl : Hid (RelsAt w3 B (blkL text ent)) := HL2.out.keep hb3; have HTk : Hid (BlsAt w3 g1 text.length (takF text)) := HK2.out.keep hb3; have HSt : Hid (BlsAt w3 g2 text.length (sitF text)) := hm2; have HX3 : Hid (w3.cell? ⟨w.heap.size, 0, none⟩ = some (.slice A1 text.length c1)) := lkeep hb3 n0; clear hm2 hb3 n0 n1 n2 C3 HL2 HK2))
  have HT3 : Hid (IntsAt w3 A1 .u32 text) := HT.out.keep HBw.out
  clear HB HB1 HB2 HT
  go_wp2
  go_loopw [6, 7] (fun v i wr => ∃ (k : Nat) (O : Option Addr) (c : Nat) (vs : List Value), i = .int .i64 k ∧ v = .slice O k c ∧ k ≤ (blkL text ent).length ∧ Hid (RowsZ wr w3.heap.size v vs (edgT text ent k)) ∧ Hid (Below w3.heap.size w3 wr)) (fun _ i _ => (blkL text ent).length - (intOf i).toNat)
  case atStart => exact ⟨0, none, 0, [], rfl, rfl, Nat.zero_le _, RowsZ.nil _ _, Below.refl _ _⟩
  case round =>
    obtain ⟨k, O, c, vs, rfl, rfl, hk, HZ, HB⟩ := hrel
    by_cases hlt : k < (blkL text ent).length
    · have hlt' : (k : Int) < ((blkL text ent).length : Int) := by omega
      have HLk : Hid ((edgT text ent k).length = k) := edgT_len text ent k
      have HT1 : Hid (edgT text ent (k + 1) = edgT text ent k ++ [plcT (edgR text ent k) (blkL text ent).length]) := edgT_succ text ent k
      obtain ⟨b, eb, q0, q1⟩ := (HBl.out.keep HB.out) k hlt
      subst eb
      obtain ⟨f0, f1, f2⟩ := blk_in hlt
      obtain ⟨m, hm⟩ : ∃ m : Nat, rSym (blkL text ent) k = (m : Int) + 1 := ⟨(rSym (blkL text ent) k - 1).toNat, by omega⟩
      have hml : m < text.length := by omega
      have hml' : (m : Int) < (text.length : Int) := by omega
      obtain ⟨a, ea, qt⟩ := (HT3.out.keep HB.out) m hml
      subst ea
      obtain ⟨v0, v1⟩ := HR.out m hml
      have HV : Hid (nth text m = lastW text ent k) := by unfold Hid lastW; rw [hm, show ((m : Int) + 1 - 1).toNat = m by omega]
      have x0 := lkeep HB.out HX3.out
      replace q1 : wr.cell? ⟨(b.add (k * 2)).block, (b.add (k * 2)).off + 1, none⟩ = some (.int .i64 ((m : Int) + 1)) := by rw [← hm]; exact q1
      generalize edgT text ent k = LL at *
      generalize nth text m = lw at *
      clear hm f0 f1 f2
      have hwr : IntKind.i64.wrap (m : Int) = (m : Int) := by simp [IntKind.wrap, IntKind.signed, IntKind.bits]; omega
      have hwr2 : IntKind.i64.wrap ((m : Int) + 1 - 1) = (m : Int) := by rw [show (m : Int) + 1 - 1 = m by omega]; exact hwr
      go_upto_region 9 with fail
      go_quiet (fail)
      clear q0 q1 qt x0
      go_wp2
      go_loopw [8, 10] (fun v i wr => ∃ (j : Nat) (O2 : Option Addr) (c2 : Nat), i = .int .i64 j ∧ v = .slice O2 (plcT (edgR text ent k) j).length c2 ∧ j ≤ (blkL text ent).length ∧ Hid (wr.ownsRow w3.heap.size 3 1 v (plcT (edgR text ent k) j).length (iVals .i64 (plcT (edgR text ent k) j))) ∧ Hid (RowsZ wr w3.heap.size (.slice O k c) vs LL) ∧ Hid (Offs vs k v) ∧ Hid (Below w3.heap.size w3 wr)) (fun _ i _ => (blkL text ent).length - (intOf i).toNat)
      case atStart => exact ⟨0, none, 0, rfl, rfl, Nat.zero_le _, World.ownsRow_nil _ _ _ _, (by first | exact HZ | exact HZ.out.keep (below_drewN (Below.refl _ _) _)), offs_nil _ _, (by first | exact HB | exact below_drewN HB.out _)⟩
      case round =>
        clear HZ HB
        obtain ⟨j, O2, c2, rfl, rfl, hj, HRw, HZ, HOf, HB⟩ := hrel
        have hpl := plcT_len (edgR text ent k) j
        by_cases hjl : j < (blkL text ent).length
        · have hjl' : (j : Int) < ((blkL text ent).length : Int) := by omega
          obtain ⟨b2, eb, d0, _⟩ := (HBl.out.keep HB.out) j hjl
          obtain rfl : b = b2 := by injection eb
          clear eb
          obtain ⟨p0, p1, p2⟩ := blk_in hjl
          have p3 : rAt (blkL text ent) j < (text.length : Int) := by omega
          have hk0 := (HTk.out.keep HB.out).cell p0 p3
          have hs0 := (HSt.out.keep HB.out).cell p0 p3
          have C := fun wx => goes_any lw (rAt (blkL text ent) j) ((j : Int) == (k : Int) + 1) (takF text (rAt (blkL text ent) j) || sitF text (rAt (blkL text ent) j)) v0 v1 wx
          have HBk : Hid (edgR text ent k (j : Int) = goesF (dOp lw) (dN lw) ((j : Int) == (k : Int) + 1) (rAt (blkL text ent) j) (takF text (rAt (blkL text ent) j) || sitF text (rAt (blkL text ent) j))) := by
            unfold Hid edgR edgB
            rw [show ((j : Int)).toNat = j by omega, ← HV.out]
          clear p1 p2
          have hwk : IntKind.i64.wrap ((k : Int) + 1) = (k : Int) + 1 := by simp [IntKind.wrap, IntKind.signed, IntKind.bits]; omega
          generalize rAt (blkL text ent) j = F at *
          generalize sitF text F = st at *
          generalize goesF (dOp lw) (dN lw) ((j : Int) == (k : Int) + 1) F (takF text F || st) = t at *
          cases t with
          | false =>
            have HP : Hid (plcT (edgR text ent k) (j + 1) = plcT (edgR text ent k) j) := plcT_no HBk.out
            clear HBk
            go_upto_region 13 with fail
            cases hq : takF text F with
            | true =>
              rw [hq] at hk0 C
              simp only [Bool.true_or] at C
              clear hq
              have d0 := cell_regrown d0
              have hk0 := cell_regrown hk0
              have hs0 := cell_regrown hs0
              have cC := fun d os => Calls.regrown_of (C (grow (redrawn wr d) os))
              clear C
              refine wp_region_quiet_below (by kernel_rfl) (by kernel_rfl) ?_
              repeat (go_big_quiet_step (exact cC _ _))
              refine wpQuiet_nil ?_
              intro w5 hw5
              obtain ⟨pw, hw5⟩ := hw5
              have HB5 : Hid (Below wr.heap.size wr w5) := by unfold Hid; rw [hw5]; exact below_regrown wr pw.d pw.os
              clear hw5 pw d0 hk0 hs0 cC
              go_wp2_with fail
              go_roundw
              case rel => exact ⟨j + 1, O2, c2, by go_num, by rw [HP.out], by omega, by rw [HP.out]; exact row_keep HRw.out HB5.out, HZ.out.keep HB5.out, HOf, lb_trans HB.out HB5.out⟩
              case measure => simp [intOf]; omega
            | false =>
              rw [hq] at hk0 C
              simp only [Bool.false_or] at C
              clear hq
              have d0 := cell_regrown d0
              have hk0 := cell_regrown hk0
              have hs0 := cell_regrown hs0
              have cC := fun d os => Calls.regrown_of (C (grow (redrawn wr d) os))
              clear C
              refine wp_region_quiet_below (by kernel_rfl) (by kernel_rfl) ?_
              repeat (go_big_quiet_step (exact cC _ _))
              refine wpQuiet_nil ?_
              intro w5 hw5
              obtain ⟨pw, hw5⟩ := hw5
              have HB5 : Hid (Below wr.heap.size wr w5) := by unfold Hid; rw [hw5]; exact below_regrown wr pw.d pw.os
              clear hw5 pw d0 hk0 hs0 cC
              go_wp2_with fail
              go_roundw
              case rel => exact ⟨j + 1, O2, c2, by go_num, by rw [HP.out], by omega, by rw [HP.out]; exact row_keep HRw.out HB5.out, HZ.out.keep HB5.out, HOf, lb_trans HB.out HB5.out⟩
              case measure => simp [intOf]; omega
          | true =>
            have HP : Hid (plcT (edgR text ent k) (j + 1) = plcT (edgR text ent k) j ++ [(j : Int)]) := plcT_yes HBk.out
            clear HBk
            go_upto_region 13 with fail
            cases hq : takF text F with
            | true =>
              rw [hq] at hk0 C
              simp only [Bool.true_or] at C
              clear hq
              have d0 := cell_regrown d0
              have hk0 := cell_regrown hk0
              have hs0 := cell_regrown hs0
              have cC := fun d os => Calls.regrown_of (C (grow (redrawn wr d) os))
              clear C
              refine wp_region_quiet_below (by kernel_rfl) (by kernel_rfl) ?_
              repeat (go_big_quiet_step (exact cC _ _))
              refine wpQuiet_nil ?_
              intro w5 hw5
              obtain ⟨pw, hw5⟩ := hw5
              have HB5 : Hid (Below wr.heap.size wr w5) := by unfold Hid; rw [hw5]; exact below_regrown wr pw.d pw.os
              clear hw5 pw d0 hk0 hs0 cC
              have HBx : Hid (Below wr.heap.size wr (w5.alloc (.cells #[.int .i64 (j : Int)] 3))) := lb_alloc HB5.out _
              have HBa : Hid (Below w3.heap.size w3 (w5.alloc (.cells #[.int .i64 (j : Int)] 3))) := lb_trans HB.out HBx.out
              have HRa : Hid ((w5.alloc (.cells #[.int .i64 (j : Int)] 3)).ownsRow w3.heap.size 3 1 (.slice O2 (plcT (edgR text ent k) j).length c2) (plcT (edgR text ent k) j).length (iVals .i64 (plcT (edgR text ent k) j))) := row_keep HRw.out HBx.out
              have HZa : Hid (RowsZ (w5.alloc (.cells #[.int .i64 (j : Int)] 3)) w3.heap.size (.slice O k c) vs LL) := HZ.out.keep HBx.out
              have HOfL : Hid (Offs vs LL.length (.slice O2 (plcT (edgR text ent k) j).length c2)) := offs_at HOf.out HLk.out.symm
              generalize plcT (edgR text ent k) j = P at *
              go_upto_region 12 with (at_builtin; go_loud (refine wpList_append_at _ rfl (.tmp 68) (.tmp 70) 72 rfl w3.heap.size 3 iI (.int .i64 0) 1 8 Tryz.underlying72 hi hz0 hz1 hz2 rfl (by decide) (.slice O2 P.length c2) P.length (iVals .i64 P) rfl HRa.out ⟨w5.heap.size, 0, none⟩ 1 1 [.int .i64 (j : Int)] rfl rfl (fun j u hu => World.news_of_block (newAtK rfl) j u hu) one_oneI (by omega) (by unfold maxLen; omega) (by omega) HBa.out.size ?_; intro g3 cap3 w4 hown hgrow hloc; have HR3 : Hid (w4.ownsRow w3.heap.size 3 1 (.slice (some ⟨g3, 0, none⟩) (P.length + 1) cap3) (plcT (edgR text ent k) (j + 1)).length (iVals .i64 (plcT (edgR text ent k) (j + 1)))) := (by rw [Hid, HP.out, iVals_snoc, List.length_append]; exact hown); have HLn : Hid ((plcT (edgR text ent k) (j + 1)).length = P.length + 1) := (by rw [Hid, HP.out, List.length_append]; rfl); have HB3 : Hid (Below w3.heap.size w3 w4) := HBa.out.grown hgrow HBa.out.size (fun b hb => (HRa.out.lt b hb).1); have HZ4 : Hid (RowsZ w4 w3.heap.size (.slice O k c) vs LL) := HZa.out.row_other HRa.out HOfL.out hgrow; have HO4 : Hid (Offs vs k (.slice (some ⟨g3, 0, none⟩) (P.length + 1) cap3)) := offs_at (offs_grow HZa.out HOfL.out hloc) HLk.out; clear hown hgrow hloc))
              go_wp2
              go_roundw
              case rel => exact ⟨j + 1, some ⟨g3, 0, none⟩, cap3, by go_num, by rw [HLn.out], by omega, HR3, HZ4, HO4, HB3⟩
              case measure => simp [intOf]; omega
            | false =>
              rw [hq] at hk0 C
              simp only [Bool.false_or] at C
              clear hq
              have d0 := cell_regrown d0
              have hk0 := cell_regrown hk0
              have hs0 := cell_regrown hs0
              have cC := fun d os => Calls.regrown_of (C (grow (redrawn wr d) os))
              clear C
              refine wp_region_quiet_below (by kernel_rfl) (by kernel_rfl) ?_
              repeat (go_big_quiet_step (exact cC _ _))
              refine wpQuiet_nil ?_
              intro w5 hw5
              obtain ⟨pw, hw5⟩ := hw5
              have HB5 : Hid (Below wr.heap.size wr w5) := by unfold Hid; rw [hw5]; exact below_regrown wr pw.d pw.os
              clear hw5 pw d0 hk0 hs0 cC
              have HBx : Hid (Below wr.heap.size wr (w5.alloc (.cells #[.int .i64 (j : Int)] 3))) := lb_alloc HB5.out _
              have HBa : Hid (Below w3.heap.size w3 (w5.alloc (.cells #[.int .i64 (j : Int)] 3))) := lb_trans HB.out HBx.out
              have HRa : Hid ((w5.alloc (.cells #[.int .i64 (j : Int)] 3)).ownsRow w3.heap.size 3 1 (.slice O2 (plcT (edgR text ent k) j).length c2) (plcT (edgR text ent k) j).length (iVals .i64 (plcT (edgR text ent k) j))) := row_keep HRw.out HBx.out
              have HZa : Hid (RowsZ (w5.alloc (.cells #[.int .i64 (j : Int)] 3)) w3.heap.size (.slice O k c) vs LL) := HZ.out.keep HBx.out
              have HOfL : Hid (Offs vs LL.length (.slice O2 (plcT (edgR text ent k) j).length c2)) := offs_at HOf.out HLk.out.symm
              generalize plcT (edgR text ent k) j = P at *
              go_upto_region 12 with (at_builtin; go_loud (refine wpList_append_at _ rfl (.tmp 68) (.tmp 70) 72 rfl w3.heap.size 3 iI (.int .i64 0) 1 8 Tryz.underlying72 hi hz0 hz1 hz2 rfl (by decide) (.slice O2 P.length c2) P.length (iVals .i64 P) rfl HRa.out ⟨w5.heap.size, 0, none⟩ 1 1 [.int .i64 (j : Int)] rfl rfl (fun j u hu => World.news_of_block (newAtK rfl) j u hu) one_oneI (by omega) (by unfold maxLen; omega) (by omega) HBa.out.size ?_; intro g3 cap3 w4 hown hgrow hloc; have HR3 : Hid (w4.ownsRow w3.heap.size 3 1 (.slice (some ⟨g3, 0, none⟩) (P.length + 1) cap3) (plcT (edgR text ent k) (j + 1)).length (iVals .i64 (plcT (edgR text ent k) (j + 1)))) := (by rw [Hid, HP.out, iVals_snoc, List.length_append]; exact hown); have HLn : Hid ((plcT (edgR text ent k) (j + 1)).length = P.length + 1) := (by rw [Hid, HP.out, List.length_append]; rfl); have HB3 : Hid (Below w3.heap.size w3 w4) := HBa.out.grown hgrow HBa.out.size (fun b hb => (HRa.out.lt b hb).1); have HZ4 : Hid (RowsZ w4 w3.heap.size (.slice O k c) vs LL) := HZa.out.row_other HRa.out HOfL.out hgrow; have HO4 : Hid (Offs vs k (.slice (some ⟨g3, 0, none⟩) (P.length + 1) cap3)) := offs_at (offs_grow HZa.out HOfL.out hloc) HLk.out; clear hown hgrow hloc))
              go_wp2
              go_roundw
              case rel => exact ⟨j + 1, some ⟨g3, 0, none⟩, cap3, by go_num, by rw [HLn.out], by omega, HR3, HZ4, HO4, HB3⟩
              case measure => simp [intOf]; omega
        · obtain rfl : j = (blkL text ent).length := by omega
          have HBx : Hid (Below wr.heap.size wr (wr.alloc (.cells #[.slice O2 (plcT (edgR text ent k) (blkL text ent).length).length c2] 72))) := lb_alloc (Below.refl _ _) _
          have HBa : Hid (Below w3.heap.size w3 (wr.alloc (.cells #[.slice O2 (plcT (edgR text ent k) (blkL text ent).length).length c2] 72))) := lb_alloc HB.out _
          have HRa : Hid ((wr.alloc (.cells #[.slice O2 (plcT (edgR text ent k) (blkL text ent).length).length c2] 72)).ownsRow w3.heap.size 3 1 (.slice O2 (plcT (edgR text ent k) (blkL text ent).length).length c2) (plcT (edgR text ent k) (blkL text ent).length).length (iVals .i64 (plcT (edgR text ent k) (blkL text ent).length))) := row_keep HRw.out HBx.out
          have HZa : Hid (RowsZ (wr.alloc (.cells #[.slice O2 (plcT (edgR text ent k) (blkL text ent).length).length c2] 72)) w3.heap.size (.slice O k c) vs LL) := HZ.out.keep HBx.out
          have HVs : Hid (vs.length = k) := by rw [Hid, HZa.out.len, HLk.out]
          have HBg : Hid ((wr.alloc (.cells #[.slice O2 (plcT (edgR text ent k) (blkL text ent).length).length c2] 72)).ownsRow w3.heap.size 72 1 (.slice O k c) k vs) := by have := HZa.out.bag; rwa [HLk.out] at this
          generalize plcT (edgR text ent k) (blkL text ent).length = P at *
          go_upto_region 7 with (at_builtin; go_loud (refine wpList_append_own _ rfl (.tmp 72) (.tmp 74) 70 rfl w3.heap.size 72 iS (.slice none 0 0) 1 24 Tryz.underlying70 hy hy0 hy1 hy2 rfl (by decide) (.slice O k c) k vs rfl HBg.out ⟨wr.heap.size, 0, none⟩ 1 1 [.slice O2 P.length c2] rfl rfl (fun j u hu => World.news_of_block (newAtK rfl) j u hu) one_slice (by unfold maxLen; omega) (by omega) HBa.out.size ?_; intro v3 w4 hown hgrow _; have HZ4 : Hid (RowsZ w4 w3.heap.size v3 (vs ++ [.slice O2 P.length c2]) (LL ++ [P])) := HZa.out.add HRa.out (by rw [HLk.out]; exact hown) hgrow; have HV4 : Hid (w4.ownsRow w3.heap.size 72 1 v3 (k + 1) (vs ++ [.slice O2 P.length c2])) := hown; have HB3 : Hid (Below w3.heap.size w3 w4) := HBa.out.grown hgrow HBa.out.size (fun b hb => (HBg.out.lt b hb).1); clear hown hgrow))
          obtain ⟨A5, c5, e5⟩ := own_sl HV4.out
          subst e5
          go_wp2
          go_roundw
          case rel => exact ⟨k + 1, A5, c5, _, by go_num, rfl, by omega, by rw [HT1.out]; exact HZ4, HB3⟩
          case measure => simp [intOf]; omega
    · obtain rfl : k = (blkL text ent).length := by omega
      go_wp2
      go_ret
      exact ⟨O, c, vs, by rw [edgT_len]; rfl, by rw [edgT_len]; exact HZ.out.mono HBw.out.size, lb_trans HBw.out HB.out⟩



end Go.Proofs.YtfnicgihpelhhaaGreat
