/-
  gather of return sites. Labels, Taken and Sites of package block, by what they answer; each word is of 32 bits. The flow as it is made; no Go in sight.
-/
import Derived.Test.YtfnicgihpelhhaaGreatProg
import Derived.WalkKit
import Derived.WalkSpells
import Derived.WalkLawsBesides
import Derived.RowKit3
import Derived.Below
import Derived.Deep.QuietTactic
import Derived.BigQuiet
import Derived.WalkSmall
import Derived.Laws.Rows
import Derived.Test.YtfnicgihpelhhaaGreatPl17
import Derived.Test.YtfnicgihpelhhaaGreatPl30
import Derived.Test.YtfnicgihpelhhaaGreatPl28
import Derived.Test.YtfnicgihpelhhaaGreatPl27
import Derived.Test.YtfnicgihpelhhaaGreatPl29
namespace Go.Proofs.YtfnicgihpelhhaaGreat
open Go.RowKit

set_option maxRecDepth 100000 in
set_option maxHeartbeats 4000000 in
theorem gather_sit (A1 A2 : Option Addr) (c1 ml c2 : Nat) (ent : Int) (text : List Int) (w : World) (hT : IntsAt w A1 .u32 text) (hR : ∀ i, i < text.length → 0 ≤ nth text i ∧ nth text i < 4294967296) (hl : text.length ≤ 1048576) (hm : ml ≤ 1048576) :
    Calls Tryz.prog 45 #[.agg #[.slice A1 text.length c1, .int .i64 ent, .slice A2 ml c2], .func (.func 124) #[] #[]] w (GatP (checkI text ml ent).1 (outL text ml ent (sitF text)) w) := by
  have hmm := mkM
  obtain ⟨iI, hi, hz0, hz1, hz2⟩ := infoI
  obtain ⟨W, HW⟩ : ∃ W, Hid (w.alloc (.cells #[.slice A1 text.length c1, .int .i64 ent, .slice A2 ml c2] 25) = W) := ⟨_, rfl⟩
  have HB : Hid (Below w.heap.size w W) := by unfold Hid; rw [← HW.out]; exact lb_alloc (Below.refl _ _) _
  have i0 : W.cell? ⟨w.heap.size, 0, none⟩ = some (.slice A1 text.length c1) := by rw [← HW.out]; simp [go_sem]
  have i1 : W.cell? ⟨w.heap.size, 1, none⟩ = some (.int .i64 ent) := by rw [← HW.out]; simp [go_sem]
  have i2 : W.cell? ⟨w.heap.size, 2, none⟩ = some (.slice A2 ml c2) := by rw [← HW.out]; simp [go_sem]
  have HT : Hid (IntsAt w A1 .u32 text) := hT
  have HR : Hid (∀ i, i < text.length → 0 ≤ nth text i ∧ nth text i < 4294967296) := hR
  have C := check_any A1 A2 c1 ml c2 ent text W (hT.keep HB.out) hR hl hm
  clear hT hR
  by_cases hE : (checkI text ml ent).1 = 0
  · have HE : Hid ((checkI text ml ent).1 = 0) := hE
    have HM : Hid (MayI text ml ent) := check_mayI hE
    rw [check_pair hE] at C
    have hent0 := HM.out.past.ent0
    have hent1 := HM.out.past.ent1
    have HO : Hid (outL text ml ent (sitF text) = plcT (sitF text) text.length) := outL_ok hE
    clear hE
    have C : Calls Tryz.prog 35 #[.agg #[.slice A1 text.length c1, .int .i64 ent, .slice A2 ml c2]] W (ChkP 0 0 W) := C
    go_enter Tryz.func45, Tryz.ntmps45
    go_upto_region 1 with fail
    rw [HW.out]
    clear HW
    go_wp2_with fail
    refine C.mono ?_
    rintro e w1 ⟨rfl, hb1⟩
    have j0 := lkeep hb1 i0
    have j1 := lkeep hb1 i1
    have j2 := lkeep hb1 i2
    have HB1 : Hid (Below w.heap.size w w1) := lb_trans HB.out hb1
    clear i0 i1 i2 hb1 C
    obtain ⟨W2, HW2⟩ : ∃ W2, Hid (w1.alloc (.map #[] 0) = W2) := ⟨_, rfl⟩
    have HB2 : Hid (Below w1.heap.size w1 W2) := by unfold Hid; rw [← HW2.out]; exact lb_alloc (Below.refl _ _) _
    have HK2 : Hid (Mks W2 w1.heap.size 0 noF) := by unfold Hid; rw [← HW2.out]; exact Mks.made w1
    have k0 := lkeep HB2.out j0
    have k1 := lkeep HB2.out j1
    have k2 := lkeep HB2.out j2
    have HB02 : Hid (Below w.heap.size w W2) := lb_trans HB1.out HB2.out
    have hz : w.heap.size ≤ w1.heap.size := HB1.out.size
    clear j0 j1 j2
    go_upto_region 5 with fail
    rw [HW2.out]
    clear HW2
    go_wp2_with fail
    refine (marksites_any A1 A2 c1 ml c2 ent text w1.heap.size 0 noF W2 (HT.out.keep HB02.out) HR.out hl HK2.out (by omega)).mono ?_
    rintro e w3 ⟨rfl, hk3, hg3⟩
    have l0 := HK2.out.cell hg3 k0
    have HK3 : Hid (Mks w3 w1.heap.size (0 + text.length) (sitF text)) := hk3
    have HB3 : Hid (Below w.heap.size w w3) := HB02.out.grown hg3 HB02.out.size (fun j hj => by cases hj; exact hz)
    clear k0 k1 k2 hk3 hg3
    go_wp2
    go_loopw [9, 29] (fun v i wr => ∃ (k : Nat) (O : Option Addr) (c : Nat), i = .int .i64 k ∧ v = .slice O (plcT (sitF text) k).length c ∧ k ≤ text.length ∧ Hid (wr.ownsRow w.heap.size 3 1 v (plcT (sitF text) k).length (iVals .i64 (plcT (sitF text) k))) ∧ Hid (Mks wr w1.heap.size (0 + text.length) (sitF text)) ∧ Hid (Below w.heap.size w wr)) (fun _ i _ => text.length - (intOf i).toNat)
    case atStart => exact ⟨0, none, 0, rfl, rfl, Nat.zero_le _, World.ownsRow_nil _ _ _ _, HK3, HB3⟩
    case round =>
      clear HK3 HB3 l0
      obtain ⟨k, O, c, rfl, rfl, hk, HRw, HK, HBr⟩ := hrel
      have hpl := plcT_len (sitF text) k
      by_cases hlt : k < text.length
      · have hlk := HK.out.look (x := (k : Int)) (by omega) (by omega)
        have HZ : Hid (wr.heap.size ≤ (wr.alloc (.cells #[] 123)).heap.size) := by unfold Hid; simp
        cases ht : (sitF text) (k : Int) with
        | false =>
          have HP : Hid (plcT (sitF text) (k + 1) = plcT (sitF text) k) := plcT_no ht
          rw [ht] at hlk
          clear ht
          go_wp2
          go_roundw
          case rel => exact ⟨k + 1, O, c, by go_num, by rw [HP.out], by omega, by rw [HP.out]; exact row_keep HRw.out (lb_alloc (Below.refl _ _) _), HK.out.keep (lb_alloc (Below.refl _ _) _), lb_alloc HBr.out _⟩
          case measure => simp [intOf]; omega
        | true =>
          have HP : Hid (plcT (sitF text) (k + 1) = plcT (sitF text) k ++ [(k : Int)]) := plcT_yes ht
          rw [ht] at hlk
          clear ht
          have HBa : Hid (Below w.heap.size w ((wr.alloc (.cells #[] 123)).alloc (.cells #[.int .i64 (k : Int)] 3))) := lb_alloc (lb_alloc HBr.out _) _
          have HBx : Hid (Below wr.heap.size wr ((wr.alloc (.cells #[] 123)).alloc (.cells #[.int .i64 (k : Int)] 3))) := lb_alloc (lb_alloc (Below.refl _ _) _) _
          have HRa : Hid (((wr.alloc (.cells #[] 123)).alloc (.cells #[.int .i64 (k : Int)] 3)).ownsRow w.heap.size 3 1 (.slice O (plcT (sitF text) k).length c) (plcT (sitF text) k).length (iVals .i64 (plcT (sitF text) k))) := row_keep HRw.out HBx.out
          have HKa : Hid (Mks ((wr.alloc (.cells #[] 123)).alloc (.cells #[.int .i64 (k : Int)] 3)) w1.heap.size (0 + text.length) (sitF text)) := HK.out.keep HBx.out
          generalize plcT (sitF text) k = P at *
          go_upto_region 13 with (at_builtin; go_loud (refine wpList_append_own _ rfl (.tmp 39) (.tmp 41) 72 rfl w.heap.size 3 iI (.int .i64 0) 1 8 Tryz.underlying72 hi hz0 hz1 hz2 rfl (by decide) (.slice O P.length c) P.length (iVals .i64 P) rfl HRa.out ⟨wr.heap.size + 1, 0, none⟩ 1 1 [.int .i64 (k : Int)] rfl rfl (fun j u hu => World.news_of_block (newAtK (by simp)) j u hu) one_oneI (by unfold maxLen; omega) (by omega) HBa.out.size ?_; intro v3 w4 hown hgrow _; have HR3 : Hid (w4.ownsRow w.heap.size 3 1 v3 (plcT (sitF text) (k + 1)).length (iVals .i64 (plcT (sitF text) (k + 1)))) := (by rw [Hid, HP.out, iVals_snoc, List.length_append]; exact hown); have HB3 : Hid (Below w.heap.size w w4) := HBa.out.grown hgrow HBa.out.size (fun b hb => (HRa.out.lt b hb).1); have HK4 : Hid (Mks w4 w1.heap.size (0 + text.length) (sitF text)) := HKa.out.kept hgrow (HKa.out.notrow HRa.out); clear hown hgrow))
          obtain ⟨A5, c5, e5⟩ := own_sl HR3.out
          subst e5
          go_wp2
          go_roundw
          case rel => exact ⟨k + 1, A5, c5, by go_num, rfl, by omega, HR3, HK4, HB3⟩
          case measure => simp [intOf]; omega
      · obtain rfl : k = text.length := by omega
        go_wp2
        go_ret2
        refine ⟨O, c, ?_, ?_, HBr.out⟩
        · rw [HO.out, HE.out]; rfl
        · rw [HO.out]; exact HRw.out
  · have HX : Hid (∀ w', Below w.heap.size w w' → GatP (checkI text ml ent).1 (outL text ml ent (sitF text)) w (.returned (.tuple #[.slice none 0 0, .int .i64 (checkI text ml ent).1])) w') := fun w' hb => gat_no hE hb
    have hne : ((checkI text ml ent).1 == 0) = false := by simpa using hE
    have hne2 : ((checkI text ml ent).1 != 0) = true := by simpa using hE
    clear hE
    generalize (checkI text ml ent).1 = E at *
    generalize (checkI text ml ent).2 = E2 at *
    go_enter Tryz.func45, Tryz.ntmps45
    go_upto_region 1 with fail
    rw [HW.out]
    clear HW
    go_wp2_with fail
    refine C.mono ?_
    rintro e w1 ⟨rfl, hb1⟩
    go_wp2
    go_ret2
    exact HX.out _ (lb_trans HB.out hb1)



end Go.Proofs.YtfnicgihpelhhaaGreat

namespace Go.Proofs.YtfnicgihpelhhaaGreat
open Go.RowKit

set_option maxHeartbeats 1000000 in
theorem taken_any (A1 A2 : Option Addr) (c1 ml c2 : Nat) (ent : Int) (text : List Int) (w : World) (hT : IntsAt w A1 .u32 text) (hR : ∀ i, i < text.length → 0 ≤ nth text i ∧ nth text i < 4294967296) (hl : text.length ≤ 1048576) (hm : ml ≤ 1048576) :
    Calls Tryz.prog 110 #[.agg #[.slice A1 text.length c1, .int .i64 ent, .slice A2 ml c2]] w (GatP (checkI text ml ent).1 (outL text ml ent (takF text)) w) := by
  have HB : Hid (Below w.heap.size w (w.alloc (.cells #[.slice A1 text.length c1, .int .i64 ent, .slice A2 ml c2] 25))) := lb_alloc (Below.refl _ _) _
  have C := gather_tak A1 A2 c1 ml c2 ent text (w.alloc (.cells #[.slice A1 text.length c1, .int .i64 ent, .slice A2 ml c2] 25)) (hT.keep HB.out) hR hl hm
  generalize outL text ml ent (takF text) = ps at *
  generalize (checkI text ml ent).1 = E at *
  clear hT hR
  go_enter Tryz.func110, Tryz.ntmps110
  go_wp2_with fail
  refine C.mono ?_
  rintro e w1 ⟨A, c, rfl, hown, hb⟩
  go_wp2
  go_ret2
  exact ⟨A, c, rfl, ownsRow_mono hown HB.out.size, lb_trans HB.out hb⟩

set_option maxHeartbeats 1000000 in
theorem sites_any (A1 A2 : Option Addr) (c1 ml c2 : Nat) (ent : Int) (text : List Int) (w : World) (hT : IntsAt w A1 .u32 text) (hR : ∀ i, i < text.length → 0 ≤ nth text i ∧ nth text i < 4294967296) (hl : text.length ≤ 1048576) (hm : ml ≤ 1048576) :
    Calls Tryz.prog 111 #[.agg #[.slice A1 text.length c1, .int .i64 ent, .slice A2 ml c2]] w (GatP (checkI text ml ent).1 (outL text ml ent (sitF text)) w) := by
  have HB : Hid (Below w.heap.size w (w.alloc (.cells #[.slice A1 text.length c1, .int .i64 ent, .slice A2 ml c2] 25))) := lb_alloc (Below.refl _ _) _
  have C := gather_sit A1 A2 c1 ml c2 ent text (w.alloc (.cells #[.slice A1 text.length c1, .int .i64 ent, .slice A2 ml c2] 25)) (hT.keep HB.out) hR hl hm
  generalize outL text ml ent (sitF text) = ps at *
  generalize (checkI text ml ent).1 = E at *
  clear hT hR
  go_enter Tryz.func111, Tryz.ntmps111
  go_wp2_with fail
  refine C.mono ?_
  rintro e w1 ⟨A, c, rfl, hown, hb⟩
  go_wp2
  go_ret2
  exact ⟨A, c, rfl, ownsRow_mono hown HB.out.size, lb_trans HB.out hb⟩



end Go.Proofs.YtfnicgihpelhhaaGreat

namespace Go.Proofs.YtfnicgihpelhhaaGreat
open Go.RowKit

theorem infoN : ∃ i, Tryz.prog.info? 50 = some i ∧ i.zero = some (.agg #[.int .i8 0, .int .i8 0, .int .i8 0, .int .i8 0, .int .i64 0]) ∧ i.size = 5 ∧ i.bytes = 16 :=
  ⟨(Tryz.prog.info? 50).get (by kernel_rfl), by kernel_rfl, by kernel_rfl, by kernel_rfl, by kernel_rfl⟩
theorem cell_setO {X : World} {g p : Nat} {u v : Value} {a : Addr} (h : X.cell? a = some v) (hne : a.block ≠ g) : (X.setCell ⟨g, p, none⟩ u).drew.cell? a = some v := by
  have h1 : (X.setCell ⟨g, p, none⟩ u).cell? a = some v := by
    rw [World.cell?_of_block (Below.heap_setCell _ _ _ _ hne)]; exact h
  exact h1
/-- The flow while the blocks are gone through: k last words, m numbers. -/
structure Fl1 (w1 wr : World) (gN gf k m : Nat) (text : List Int) (ent : Int) (O : Option Addr) (c : Nat) (F : Int → Int) : Prop where
  box : wr.heap[gf]? = some (.cells #[.slice O k c, .slice (some ⟨gN, 0, none⟩) text.length text.length, .slice none 0 0] 149 (0, 0))
  row : wr.ownsRow w1.heap.size 50 5 (.slice O k c) k (lstV (lastL text ent k))
  nums : NumsAt wr gN text.length F
  num : NumF text ent m F
  below : Below w1.heap.size w1 wr
  hN : w1.heap.size ≤ gN
  hf : w1.heap.size ≤ gf
section
variable {w1 wr w2 : World} {gN gf k m : Nat} {text : List Int} {ent : Int} {O : Option Addr} {c : Nat} {F : Int → Int}
theorem Fl1.keep (h : Fl1 w1 wr gN gf k m text ent O c F) (hb : Below wr.heap.size wr w2) : Fl1 w1 w2 gN gf k m text ent O c F :=
  ⟨lb_box h.box hb, row_keep h.row hb, h.nums.keep hb, h.num, lb_trans h.below hb, h.hN, h.hf⟩
theorem Fl1.ne (h : Fl1 w1 wr gN gf k m text ent O c F) : gf ≠ gN := fun e => by
  obtain ⟨cs, hb, _⟩ := h.nums
  rw [← e, h.box] at hb
  injection hb with hb
  injection hb with _ hh
  exact absurd hh (by decide)
theorem Fl1.cells (h : Fl1 w1 wr gN gf k m text ent O c F) : wr.cell? ⟨gf, 0, none⟩ = some (.slice O k c) ∧ wr.cell? ⟨gf, 1, none⟩ = some (.slice (some ⟨gN, 0, none⟩) text.length text.length) ∧ wr.frozen? ⟨gf, 0, none⟩ = false :=
  ⟨by simp [World.cell?, h.box], by simp [World.cell?, h.box], box_fro h.box 0⟩
/-- A number is written. -/
theorem Fl1.number (h : Fl1 w1 wr gN gf k m text ent O c F) (hm : m < (blkL text ent).length) : Fl1 w1 (wr.setCell ⟨gN, (rAt (blkL text ent) m).toNat, none⟩ (.int .i64 (m : Int))) gN gf k (m + 1) text ent O c (fun y => if y = rAt (blkL text ent) m then (m : Int) else F y) := by
  have hin := blk_in hm
  have hoff : (Value.slice O k c).ownBlock ≠ some gN := by
    obtain ⟨cs, hb, _⟩ := h.nums
    exact blk_off h.row hb (by decide)
  refine ⟨?_, ownsRow_setCell_other h.row hoff _, h.nums.set hin.1 (by omega) _, h.num.more hm, grown_belowR h.below (gset11 _ _ _ _) h.hN h.below.size, h.hN, h.hf⟩
  rw [Below.heap_setCell _ _ _ _ h.ne]
  exact h.box
/-- A last word is added. -/
theorem Fl1.add {O' : Option Addr} {c' : Nat} (h : Fl1 w1 wr gN gf k m text ent O c F) (ho : w2.ownsRow w1.heap.size 50 5 (.slice O' (k + 1) c') (k + 1) (lstV (lastL text ent k) ++ insC (lastW text ent k))) (hg : wr.grownBy w2 (Value.slice O k c).ownBlock) : Fl1 w1 (w2.setCell ⟨gf, 0, none⟩ (.slice O' (k + 1) c')) gN gf (k + 1) m text ent O' c' F ∧ w2.cell? ⟨gf, 0, none⟩ = some (.slice O k c) ∧ w2.frozen? ⟨gf, 0, none⟩ = false := by
  have hlt : gf < wr.heap.size := (Array.getElem?_eq_some_iff.1 h.box).1
  have hbox2 : w2.heap[gf]? = some (.cells #[.slice O k c, .slice (some ⟨gN, 0, none⟩) text.length text.length, .slice none 0 0] 149 (0, 0)) := by
    rw [hg.block gf hlt (fun e => blk_off h.row h.box (by decide) e.symm)]
    exact h.box
  have hoffN : (Value.slice O k c).ownBlock ≠ some gN := by
    obtain ⟨cs, hb, _⟩ := h.nums
    exact blk_off h.row hb (by decide)
  have hn2 := h.nums.kept hg hoffN
  have hb2 : Below w1.heap.size w1 w2 := h.below.grown hg h.below.size (fun b hb => (h.row.lt b hb).1)
  refine ⟨⟨?_, ?_, ?_, h.num, grown_belowR hb2 (gset11 _ _ _ _) h.hf hb2.size, h.hN, h.hf⟩, by simp [World.cell?, hbox2], box_fro hbox2 0⟩
  · rw [box_set hbox2]; rfl
  · rw [lastL_succ, lstV_snoc]
    exact ownsRow_setCell_other ho (blk_off ho hbox2 (by decide)) _
  · exact hn2.kept (gset11 _ _ _ _) (fun e => h.ne (by injection e))
end


end Go.Proofs.YtfnicgihpelhhaaGreat
