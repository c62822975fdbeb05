/-
  Blocks of the document, by what it answers, of an image that may be. The document's Blocks, the row its own. CopyImage of the statements, by what it returns; the lists have at most 2^20 items. What words read and write, as sets of registers; no Go in sight.
-/
import Derived.Test.YtokhclindfipbaaGreatDoorProg
import Derived.WalkKit
import Derived.WalkSpells
import Derived.WalkLawsBesides
import Derived.RowKit3
import Derived.Below
import Derived.Deep.QuietTactic
import Derived.BigQuiet
import Derived.WalkSmall
import Derived.Laws.Rows
import Derived.Test.YtokhclindfipbaaGreatDoorPa04
import Derived.Test.YtokhclindfipbaaGreatDoorPa26
import Derived.Test.YtokhclindfipbaaGreatDoorPa18
import Derived.Test.YtokhclindfipbaaGreatDoorPa06
import Derived.Laws.BitsAllLaws
import Derived.Test.YtokhclindfipbaaGreatDoorPa03
import Derived.Test.YtokhclindfipbaaGreatDoorPa01
namespace Go.Proofs.YtokhclindfipbaaGreatDoor
open Go.RowKit

theorem zip_more {f : Int → Bool} {k : Nat} {L : List Rel} {fr : Int} (h0 : f 0 = true) (h : ∀ x, L ++ [(fr, x)] = zipN (plcT f (k + 1)) x) (hf : f ((k : Int) + 1) = true) (x : Int) : (L ++ [(fr, (k : Int) + 1)]) ++ [((k : Int) + 1, x)] = zipN (plcT f (k + 1 + 1)) x := by
  have hn : plcT f (k + 1) ≠ [] := fun e => by
    have := (plc_first (f := f) (n := k + 1) (by omega) h0).1
    rw [e] at this
    simp at this
  rw [h, plcT_yes (k := k + 1) (by rw [← hf]; rfl), show (((k + 1 : Nat)) : Int) = (k : Int) + 1 by omega, zipN_snoc _ _ _ hn]
theorem zip_same {f : Int → Bool} {k : Nat} {L : List Rel} {fr : Int} (h : ∀ x, L ++ [(fr, x)] = zipN (plcT f (k + 1)) x) (hf : f ((k : Int) + 1) = false) (x : Int) : L ++ [(fr, x)] = zipN (plcT f (k + 1 + 1)) x := by
  rw [h, plcT_no (k := k + 1) (by rw [← hf]; rfl)]
/-- How far the document has come. -/
def Come (text : List Int) (ent : Int) (L : List Rel) (fr : Int) (k : Nat) : Prop := (k < text.length ∧ ∀ x, L ++ [(fr, x)] = zipN (plcT (begF text ent) (k + 1)) x) ∨ (k = text.length ∧ L = blkL text ent)
theorem come_zero (text : List Int) (ent : Int) (h : 0 < text.length) : Come text ent [] 0 0 := .inl ⟨h, fun x => by rw [plcT_yes (k := 0) (beg_zero text ent)]; rfl⟩
theorem come_len {text : List Int} {ent : Int} {L : List Rel} {fr : Int} {k : Nat} (h : Come text ent L fr k) (hk : k < text.length) : L.length ≤ k := by
  rcases h with ⟨_, h⟩ | ⟨h, _⟩
  · have e := congrArg List.length (h 0)
    rw [zipN_len] at e
    have := plcT_len (begF text ent) (k + 1)
    simp at e
    omega
  · omega
theorem come_end {text : List Int} {ent : Int} {L : List Rel} {fr : Int} {k : Nat} (h : Come text ent L fr k) (hk : k + 1 = text.length) : Come text ent (L ++ [(fr, (k : Int) + 1)]) ((k : Int) + 1) (k + 1) := by
  rcases h with ⟨_, h⟩ | ⟨h, _⟩
  · refine .inr ⟨hk, ?_⟩
    rw [h]
    unfold blkL
    rw [← hk, show (((k + 1 : Nat)) : Int) = (k : Int) + 1 by omega]
  · omega
theorem come_more {text : List Int} {ent : Int} {L : List Rel} {fr : Int} {k : Nat} (h : Come text ent L fr k) (hk : k + 1 < text.length) (hf : begF text ent ((k : Int) + 1) = true) : Come text ent (L ++ [(fr, (k : Int) + 1)]) ((k : Int) + 1) (k + 1) := by
  rcases h with ⟨_, h⟩ | ⟨h, _⟩
  · exact .inl ⟨hk, zip_more (beg_zero text ent) h hf⟩
  · omega
theorem come_same {text : List Int} {ent : Int} {L : List Rel} {fr : Int} {k : Nat} (h : Come text ent L fr k) (hk : k + 1 < text.length) (hf : begF text ent ((k : Int) + 1) = false) : Come text ent L fr (k + 1) := by
  rcases h with ⟨_, h⟩ | ⟨h, _⟩
  · exact .inl ⟨hk, zip_same h hf⟩
  · omega
set_option maxRecDepth 100000 in
set_option maxHeartbeats 4000000 in
theorem refblocks_any (A1 A2 : Option Addr) (c1 ml c2 : Nat) (ent : Int) (text : List Int) (w : World) (hT : IntsAt w A1 .u32 text) (hR : ∀ i, i < text.length → 0 ≤ nth text i ∧ nth text i < 4294967296) (hM : MayI text ml ent) :
    Calls Tryz.prog 68 #[.agg #[.slice A1 text.length c1, .int .i64 ent, .slice A2 ml c2]] w (RelP (blkL text ent) w) := by
  obtain ⟨iB, hi, hz0, hz1, hz2⟩ := infoB
  have hl : text.length ≤ 16384 := hM.past.len
  have hpos : 0 < text.length := hM.past.pos
  obtain ⟨W, HW⟩ : ∃ W, Hid (w.alloc (.cells #[.slice A1 text.length c1, .int .i64 ent, .slice A2 ml c2] 25) = W) := ⟨_, rfl⟩
  have HB : Hid (Below w.heap.size w W) := by unfold Hid; rw [← HW.out]; exact lb_alloc (Below.refl _ _) _
  have i0 : W.cell? ⟨w.heap.size, 0, none⟩ = some (.slice A1 text.length c1) := by rw [← HW.out]; simp [go_sem]
  have i1 : W.cell? ⟨w.heap.size, 1, none⟩ = some (.int .i64 ent) := by rw [← HW.out]; simp [go_sem]
  have i2 : W.cell? ⟨w.heap.size, 2, none⟩ = some (.slice A2 ml c2) := by rw [← HW.out]; simp [go_sem]
  have hZ : w.heap.size < W.heap.size := by rw [← HW.out]; simp
  have C := refmark0_any A1 A2 c1 ml c2 ent text W (hT.keep HB.out) hR hM
  have HT : Hid (IntsAt w A1 .u32 text) := hT
  have HR : Hid _ := hR
  clear hT hR hM
  go_enter Tryz.func68, Tryz.ntmps68
  go_upto_region 2 with fail
  rw [HW.out]
  clear HW
  go_wp2_with fail
  refine C.mono ?_
  rintro e w1 ⟨g, rfl, hbls, hb1⟩
  have HB1 : Hid (Below w.heap.size w w1) := lb_trans HB.out hb1
  have HS1 : Hid (BlsAt w1 g text.length (labF text ent)) := hbls
  have HX1 : Hid (w1.cell? ⟨w.heap.size, 0, none⟩ = some (.slice A1 text.length c1)) := lkeep hb1 i0
  have HZ1 : Hid (w.heap.size < w1.heap.size) := Nat.lt_of_lt_of_le hZ hb1.size
  clear C hb1 hbls i0 i1 i2
  go_wp2
  go_loopw [3, 5, 6] (fun v fv i wr => ∃ (k : Nat) (O : Option Addr) (c : Nat) (L : List Rel) (fr : Int), i = .int .i64 ((k : Int) + 1) ∧ fv = .int .i64 fr ∧ v = .slice O L.length c ∧ k ≤ text.length ∧ Hid (Come text ent L fr k) ∧ Hid (wr.ownsRow (w.heap.size + 1) 117 2 v L.length (dNews L)) ∧ Hid (BlsAt wr g text.length (labF text ent)) ∧ Hid (Below (w.heap.size + 1) w1 wr)) (fun _ _ i _ => text.length + 1 - (intOf i).toNat)
  case atStart => exact ⟨0, none, 0, [], 0, rfl, rfl, rfl, Nat.zero_le _, come_zero text ent hpos, World.ownsRow_nil _ _ _ _, HS1, Below.refl _ _⟩
  case round =>
    clear HS1
    obtain ⟨k, O, c, L, fr, rfl, rfl, rfl, hk, HC, HRw, HS, HBr⟩ := hrel
    have x0 : wr.cell? ⟨w.heap.size, 0, none⟩ = some (.slice A1 text.length c1) := by rw [HBr.out.cell (p := ⟨w.heap.size, 0, none⟩) (Nat.lt_succ_self _)]; exact HX1.out
    have HBw : Hid (Below w.heap.size w wr) := HB1.out.trans (HBr.out.mono (Nat.le_succ _))
    have HQ : Hid (w.heap.size + 1 ≤ wr.heap.size) := Nat.le_trans HZ1.out HBr.out.size
    by_cases hlt : k < text.length
    · have hLl := come_len HC.out hlt
      obtain ⟨a, rfl, q⟩ := (HT.out.keep HBw.out) k hlt
      by_cases he : k + 1 = text.length
      · have he' : ((k : Int) + 1 == (text.length : Int)) = true := by rw [beq_iff_eq]; omega
        have HC2 : Hid (Come text ent (L ++ [(fr, (k : Int) + 1)]) ((k : Int) + 1) (k + 1)) := come_end HC.out he
        have HBx : Hid (Below wr.heap.size wr (wr.alloc (.cells #[.int .i64 fr, .int .i64 ((k : Int) + 1)] 117))) := lb_alloc (Below.refl _ _) _; have HBa : Hid (Below (w.heap.size + 1) w1 (wr.alloc (.cells #[.int .i64 fr, .int .i64 ((k : Int) + 1)] 117))) := HBr.out.trans (HBx.out.mono HQ.out); have HQa : Hid (w.heap.size + 1 ≤ (wr.alloc (.cells #[.int .i64 fr, .int .i64 ((k : Int) + 1)] 117)).heap.size) := Nat.le_trans HQ.out HBx.out.size; have HRa : Hid ((wr.alloc (.cells #[.int .i64 fr, .int .i64 ((k : Int) + 1)] 117)).ownsRow (w.heap.size + 1) 117 2 (.slice O L.length c) L.length (dNews L)) := row_keep HRw.out HBx.out; have HSa : Hid (BlsAt (wr.alloc (.cells #[.int .i64 fr, .int .i64 ((k : Int) + 1)] 117)) g text.length (labF text ent)) := HS.out.keep HBx.out
        clear he
        go_upto_region 6 with (at_builtin; go_loud (refine wpList_append_own _ rfl (.tmp 36) (.tmp 40) 103 rfl (w.heap.size + 1) 117 iB (.agg #[.int .i64 0, .int .i64 0]) 2 16 Tryz.underlying103 hi hz0 hz1 hz2 rfl (by decide) (.slice O L.length c) L.length (dNews L) rfl HRa.out ⟨wr.heap.size, 0, none⟩ 1 1 [.int .i64 fr, .int .i64 ((k : Int) + 1)] rfl rfl (fun j u hu => World.news_of_block (newAtK rfl) j u hu) two_oneI (by unfold maxLen; omega) (by omega) HQa.out ?_; intro v3 w4 hown hgrow _; have HR3 : Hid (w4.ownsRow (w.heap.size + 1) 117 2 v3 (L ++ [(fr, (k : Int) + 1)]).length (dNews (L ++ [(fr, (k : Int) + 1)]))) := (by rw [Hid, dNews_snoc, List.length_append]; exact hown); have HB3 : Hid (Below (w.heap.size + 1) w1 w4) := HBa.out.grown hgrow HQa.out (fun b hb => (HRa.out.lt b hb).1); have HS4 : Hid (BlsAt w4 g text.length (labF text ent)) := HSa.out.kept HRa.out (by decide) hgrow; clear hown hgrow))
        obtain ⟨A5, c5, e5⟩ := own_sl HR3.out
        subst e5
        go_wp2
        go_roundw
        case rel => exact ⟨k + 1, A5, c5, _, _, by go_num, rfl, rfl, by omega, HC2, HR3, HS4, HB3⟩
        case measure => simp [intOf]; omega
      · have he' : ((k : Int) + 1 == (text.length : Int)) = false := by rw [beq_eq_false_iff_ne]; omega
        have hlt2 : (k : Int) + 1 < (text.length : Int) := by omega
        have hlt3 : k + 1 < text.length := by omega
        have s0 := HS.out.cellN hlt3
        rw [show (((k + 1 : Nat)) : Int) = (k : Int) + 1 by omega] at s0
        clear he
        cases hb : labF text ent ((k : Int) + 1) with
        | true =>
          have HC2 : Hid (Come text ent (L ++ [(fr, (k : Int) + 1)]) ((k : Int) + 1) (k + 1)) := come_more HC.out hlt3 (beg_lab hb)
          rw [hb] at s0
          clear hb
          have HBx : Hid (Below wr.heap.size wr (wr.alloc (.cells #[.int .i64 fr, .int .i64 ((k : Int) + 1)] 117))) := lb_alloc (Below.refl _ _) _; have HBa : Hid (Below (w.heap.size + 1) w1 (wr.alloc (.cells #[.int .i64 fr, .int .i64 ((k : Int) + 1)] 117))) := HBr.out.trans (HBx.out.mono HQ.out); have HQa : Hid (w.heap.size + 1 ≤ (wr.alloc (.cells #[.int .i64 fr, .int .i64 ((k : Int) + 1)] 117)).heap.size) := Nat.le_trans HQ.out HBx.out.size; have HRa : Hid ((wr.alloc (.cells #[.int .i64 fr, .int .i64 ((k : Int) + 1)] 117)).ownsRow (w.heap.size + 1) 117 2 (.slice O L.length c) L.length (dNews L)) := row_keep HRw.out HBx.out; have HSa : Hid (BlsAt (wr.alloc (.cells #[.int .i64 fr, .int .i64 ((k : Int) + 1)] 117)) g text.length (labF text ent)) := HS.out.keep HBx.out
          go_upto_region 6 with (at_builtin; go_loud (refine wpList_append_own _ rfl (.tmp 36) (.tmp 40) 103 rfl (w.heap.size + 1) 117 iB (.agg #[.int .i64 0, .int .i64 0]) 2 16 Tryz.underlying103 hi hz0 hz1 hz2 rfl (by decide) (.slice O L.length c) L.length (dNews L) rfl HRa.out ⟨wr.heap.size, 0, none⟩ 1 1 [.int .i64 fr, .int .i64 ((k : Int) + 1)] rfl rfl (fun j u hu => World.news_of_block (newAtK rfl) j u hu) two_oneI (by unfold maxLen; omega) (by omega) HQa.out ?_; intro v3 w4 hown hgrow _; have HR3 : Hid (w4.ownsRow (w.heap.size + 1) 117 2 v3 (L ++ [(fr, (k : Int) + 1)]).length (dNews (L ++ [(fr, (k : Int) + 1)]))) := (by rw [Hid, dNews_snoc, List.length_append]; exact hown); have HB3 : Hid (Below (w.heap.size + 1) w1 w4) := HBa.out.grown hgrow HQa.out (fun b hb => (HRa.out.lt b hb).1); have HS4 : Hid (BlsAt w4 g text.length (labF text ent)) := HSa.out.kept HRa.out (by decide) hgrow; clear hown hgrow))
          obtain ⟨A5, c5, e5⟩ := own_sl HR3.out
          subst e5
          go_wp2
          go_roundw
          case rel => exact ⟨k + 1, A5, c5, _, _, by go_num, rfl, rfl, by omega, HC2, HR3, HS4, HB3⟩
          case measure => simp [intOf]; omega
        | false =>
          have HF : Hid (begF text ent ((k : Int) + 1) = endsB (dOp (nth text k))) := by rw [Hid, beg_succ hlt, hb, Bool.false_or]
          rw [hb] at s0
          clear hb
          obtain ⟨hv0, hv1⟩ := HR.out k hlt
          have C := refends_any (nth text k) hv0 hv1 wr
          generalize nth text k = v at *
          generalize endsB (dOp v) = t at *
          cases t with
          | true =>
            have HC2 : Hid (Come text ent (L ++ [(fr, (k : Int) + 1)]) ((k : Int) + 1) (k + 1)) := come_more HC.out hlt3 HF.out
            go_upto_region 6 with (first
              | (go_at_call 93; refine C.mono ?_; rintro e w5 ⟨rfl, hb5⟩; have HBx : Hid (Below wr.heap.size wr (w5.alloc (.cells #[.int .i64 fr, .int .i64 ((k : Int) + 1)] 117))) := lb_alloc hb5 _; have HBa : Hid (Below (w.heap.size + 1) w1 (w5.alloc (.cells #[.int .i64 fr, .int .i64 ((k : Int) + 1)] 117))) := HBr.out.trans (HBx.out.mono HQ.out); have HQa : Hid (w.heap.size + 1 ≤ (w5.alloc (.cells #[.int .i64 fr, .int .i64 ((k : Int) + 1)] 117)).heap.size) := Nat.le_trans HQ.out HBx.out.size; have HRa : Hid ((w5.alloc (.cells #[.int .i64 fr, .int .i64 ((k : Int) + 1)] 117)).ownsRow (w.heap.size + 1) 117 2 (.slice O L.length c) L.length (dNews L)) := row_keep HRw.out HBx.out; have HSa : Hid (BlsAt (w5.alloc (.cells #[.int .i64 fr, .int .i64 ((k : Int) + 1)] 117)) g text.length (labF text ent)) := HS.out.keep HBx.out)
              | (at_builtin; go_loud (refine wpList_append_own _ rfl (.tmp 36) (.tmp 40) 103 rfl (w.heap.size + 1) 117 iB (.agg #[.int .i64 0, .int .i64 0]) 2 16 Tryz.underlying103 hi hz0 hz1 hz2 rfl (by decide) (.slice O L.length c) L.length (dNews L) rfl HRa.out ⟨w5.heap.size, 0, none⟩ 1 1 [.int .i64 fr, .int .i64 ((k : Int) + 1)] rfl rfl (fun j u hu => World.news_of_block (newAtK rfl) j u hu) two_oneI (by unfold maxLen; omega) (by omega) HQa.out ?_; intro v3 w4 hown hgrow _; have HR3 : Hid (w4.ownsRow (w.heap.size + 1) 117 2 v3 (L ++ [(fr, (k : Int) + 1)]).length (dNews (L ++ [(fr, (k : Int) + 1)]))) := (by rw [Hid, dNews_snoc, List.length_append]; exact hown); have HB3 : Hid (Below (w.heap.size + 1) w1 w4) := HBa.out.grown hgrow HQa.out (fun b hb => (HRa.out.lt b hb).1); have HS4 : Hid (BlsAt w4 g text.length (labF text ent)) := HSa.out.kept HRa.out (by decide) hgrow; clear hown hgrow)))
            obtain ⟨A5, c5, e5⟩ := own_sl HR3.out
            subst e5
            go_wp2
            go_roundw
            case rel => exact ⟨k + 1, A5, c5, _, _, by go_num, rfl, rfl, by omega, HC2, HR3, HS4, HB3⟩
            case measure => simp [intOf]; omega
          | false =>
            have HC2 : Hid (Come text ent L fr (k + 1)) := come_same HC.out hlt3 HF.out
            go_wp2_with (go_at_call 93; refine C.mono ?_; rintro e w5 ⟨rfl, hb5⟩)
            go_roundw
            case rel => exact ⟨k + 1, O, c, _, _, by go_num, rfl, rfl, by omega, HC2, row_keep HRw.out hb5, HS.out.keep hb5, HBr.out.trans (hb5.mono HQ.out)⟩
            case measure => simp [intOf]; omega
    · obtain rfl : k = text.length := by omega
      have HL : Hid (L = blkL text ent) := by
        rcases HC.out with ⟨h, _⟩ | ⟨_, h⟩
        · omega
        · exact h
      go_wp2
      go_ret
      refine ⟨O, c, by rw [← HL.out]; rfl, by rw [← HL.out]; exact drow_rels HRw.out, HBw.out⟩



end Go.Proofs.YtokhclindfipbaaGreatDoor

namespace Go.Proofs.YtokhclindfipbaaGreatDoor
open Go.RowKit

def RelO (l : List Rel) (w : World) (e : Ending) (w' : World) : Prop := ∃ (A : Option Addr) (c : Nat), e = .returned (.slice A l.length c) ∧ w'.ownsRow w.heap.size 117 2 (.slice A l.length c) l.length (dNews l) ∧ Below w.heap.size w w'
set_option maxRecDepth 100000 in
set_option maxHeartbeats 4000000 in
theorem refblocks_own (A1 A2 : Option Addr) (c1 ml c2 : Nat) (ent : Int) (text : List Int) (w : World) (hT : IntsAt w A1 .u32 text) (hR : ∀ i, i < text.length → 0 ≤ nth text i ∧ nth text i < 4294967296) (hM : MayI text ml ent) :
    Calls Tryz.prog 68 #[.agg #[.slice A1 text.length c1, .int .i64 ent, .slice A2 ml c2]] w (RelO (blkL text ent) w) := by
  obtain ⟨iB, hi, hz0, hz1, hz2⟩ := infoB
  have hl : text.length ≤ 16384 := hM.past.len
  have hpos : 0 < text.length := hM.past.pos
  obtain ⟨W, HW⟩ : ∃ W, Hid (w.alloc (.cells #[.slice A1 text.length c1, .int .i64 ent, .slice A2 ml c2] 25) = W) := ⟨_, rfl⟩
  have HB : Hid (Below w.heap.size w W) := by unfold Hid; rw [← HW.out]; exact lb_alloc (Below.refl _ _) _
  have i0 : W.cell? ⟨w.heap.size, 0, none⟩ = some (.slice A1 text.length c1) := by rw [← HW.out]; simp [go_sem]
  have i1 : W.cell? ⟨w.heap.size, 1, none⟩ = some (.int .i64 ent) := by rw [← HW.out]; simp [go_sem]
  have i2 : W.cell? ⟨w.heap.size, 2, none⟩ = some (.slice A2 ml c2) := by rw [← HW.out]; simp [go_sem]
  have hZ : w.heap.size < W.heap.size := by rw [← HW.out]; simp
  have C := refmark0_any A1 A2 c1 ml c2 ent text W (hT.keep HB.out) hR hM
  have HT : Hid (IntsAt w A1 .u32 text) := hT
  have HR : Hid _ := hR
  clear hT hR hM
  go_enter Tryz.func68, Tryz.ntmps68
  go_upto_region 2 with fail
  rw [HW.out]
  clear HW
  go_wp2_with fail
  refine C.mono ?_
  rintro e w1 ⟨g, rfl, hbls, hb1⟩
  have HB1 : Hid (Below w.heap.size w w1) := lb_trans HB.out hb1
  have HS1 : Hid (BlsAt w1 g text.length (labF text ent)) := hbls
  have HX1 : Hid (w1.cell? ⟨w.heap.size, 0, none⟩ = some (.slice A1 text.length c1)) := lkeep hb1 i0
  have HZ1 : Hid (w.heap.size < w1.heap.size) := Nat.lt_of_lt_of_le hZ hb1.size
  clear C hb1 hbls i0 i1 i2
  go_wp2
  go_loopw [3, 5, 6] (fun v fv i wr => ∃ (k : Nat) (O : Option Addr) (c : Nat) (L : List Rel) (fr : Int), i = .int .i64 ((k : Int) + 1) ∧ fv = .int .i64 fr ∧ v = .slice O L.length c ∧ k ≤ text.length ∧ Hid (Come text ent L fr k) ∧ Hid (wr.ownsRow (w.heap.size + 1) 117 2 v L.length (dNews L)) ∧ Hid (BlsAt wr g text.length (labF text ent)) ∧ Hid (Below (w.heap.size + 1) w1 wr)) (fun _ _ i _ => text.length + 1 - (intOf i).toNat)
  case atStart => exact ⟨0, none, 0, [], 0, rfl, rfl, rfl, Nat.zero_le _, come_zero text ent hpos, World.ownsRow_nil _ _ _ _, HS1, Below.refl _ _⟩
  case round =>
    clear HS1
    obtain ⟨k, O, c, L, fr, rfl, rfl, rfl, hk, HC, HRw, HS, HBr⟩ := hrel
    have x0 : wr.cell? ⟨w.heap.size, 0, none⟩ = some (.slice A1 text.length c1) := by rw [HBr.out.cell (p := ⟨w.heap.size, 0, none⟩) (Nat.lt_succ_self _)]; exact HX1.out
    have HBw : Hid (Below w.heap.size w wr) := HB1.out.trans (HBr.out.mono (Nat.le_succ _))
    have HQ : Hid (w.heap.size + 1 ≤ wr.heap.size) := Nat.le_trans HZ1.out HBr.out.size
    by_cases hlt : k < text.length
    · have hLl := come_len HC.out hlt
      obtain ⟨a, rfl, q⟩ := (HT.out.keep HBw.out) k hlt
      by_cases he : k + 1 = text.length
      · have he' : ((k : Int) + 1 == (text.length : Int)) = true := by rw [beq_iff_eq]; omega
        have HC2 : Hid (Come text ent (L ++ [(fr, (k : Int) + 1)]) ((k : Int) + 1) (k + 1)) := come_end HC.out he
        have HBx : Hid (Below wr.heap.size wr (wr.alloc (.cells #[.int .i64 fr, .int .i64 ((k : Int) + 1)] 117))) := lb_alloc (Below.refl _ _) _; have HBa : Hid (Below (w.heap.size + 1) w1 (wr.alloc (.cells #[.int .i64 fr, .int .i64 ((k : Int) + 1)] 117))) := HBr.out.trans (HBx.out.mono HQ.out); have HQa : Hid (w.heap.size + 1 ≤ (wr.alloc (.cells #[.int .i64 fr, .int .i64 ((k : Int) + 1)] 117)).heap.size) := Nat.le_trans HQ.out HBx.out.size; have HRa : Hid ((wr.alloc (.cells #[.int .i64 fr, .int .i64 ((k : Int) + 1)] 117)).ownsRow (w.heap.size + 1) 117 2 (.slice O L.length c) L.length (dNews L)) := row_keep HRw.out HBx.out; have HSa : Hid (BlsAt (wr.alloc (.cells #[.int .i64 fr, .int .i64 ((k : Int) + 1)] 117)) g text.length (labF text ent)) := HS.out.keep HBx.out
        clear he
        go_upto_region 6 with (at_builtin; go_loud (refine wpList_append_own _ rfl (.tmp 36) (.tmp 40) 103 rfl (w.heap.size + 1) 117 iB (.agg #[.int .i64 0, .int .i64 0]) 2 16 Tryz.underlying103 hi hz0 hz1 hz2 rfl (by decide) (.slice O L.length c) L.length (dNews L) rfl HRa.out ⟨wr.heap.size, 0, none⟩ 1 1 [.int .i64 fr, .int .i64 ((k : Int) + 1)] rfl rfl (fun j u hu => World.news_of_block (newAtK rfl) j u hu) two_oneI (by unfold maxLen; omega) (by omega) HQa.out ?_; intro v3 w4 hown hgrow _; have HR3 : Hid (w4.ownsRow (w.heap.size + 1) 117 2 v3 (L ++ [(fr, (k : Int) + 1)]).length (dNews (L ++ [(fr, (k : Int) + 1)]))) := (by rw [Hid, dNews_snoc, List.length_append]; exact hown); have HB3 : Hid (Below (w.heap.size + 1) w1 w4) := HBa.out.grown hgrow HQa.out (fun b hb => (HRa.out.lt b hb).1); have HS4 : Hid (BlsAt w4 g text.length (labF text ent)) := HSa.out.kept HRa.out (by decide) hgrow; clear hown hgrow))
        obtain ⟨A5, c5, e5⟩ := own_sl HR3.out
        subst e5
        go_wp2
        go_roundw
        case rel => exact ⟨k + 1, A5, c5, _, _, by go_num, rfl, rfl, by omega, HC2, HR3, HS4, HB3⟩
        case measure => simp [intOf]; omega
      · have he' : ((k : Int) + 1 == (text.length : Int)) = false := by rw [beq_eq_false_iff_ne]; omega
        have hlt2 : (k : Int) + 1 < (text.length : Int) := by omega
        have hlt3 : k + 1 < text.length := by omega
        have s0 := HS.out.cellN hlt3
        rw [show (((k + 1 : Nat)) : Int) = (k : Int) + 1 by omega] at s0
        clear he
        cases hb : labF text ent ((k : Int) + 1) with
        | true =>
          have HC2 : Hid (Come text ent (L ++ [(fr, (k : Int) + 1)]) ((k : Int) + 1) (k + 1)) := come_more HC.out hlt3 (beg_lab hb)
          rw [hb] at s0
          clear hb
          have HBx : Hid (Below wr.heap.size wr (wr.alloc (.cells #[.int .i64 fr, .int .i64 ((k : Int) + 1)] 117))) := lb_alloc (Below.refl _ _) _; have HBa : Hid (Below (w.heap.size + 1) w1 (wr.alloc (.cells #[.int .i64 fr, .int .i64 ((k : Int) + 1)] 117))) := HBr.out.trans (HBx.out.mono HQ.out); have HQa : Hid (w.heap.size + 1 ≤ (wr.alloc (.cells #[.int .i64 fr, .int .i64 ((k : Int) + 1)] 117)).heap.size) := Nat.le_trans HQ.out HBx.out.size; have HRa : Hid ((wr.alloc (.cells #[.int .i64 fr, .int .i64 ((k : Int) + 1)] 117)).ownsRow (w.heap.size + 1) 117 2 (.slice O L.length c) L.length (dNews L)) := row_keep HRw.out HBx.out; have HSa : Hid (BlsAt (wr.alloc (.cells #[.int .i64 fr, .int .i64 ((k : Int) + 1)] 117)) g text.length (labF text ent)) := HS.out.keep HBx.out
          go_upto_region 6 with (at_builtin; go_loud (refine wpList_append_own _ rfl (.tmp 36) (.tmp 40) 103 rfl (w.heap.size + 1) 117 iB (.agg #[.int .i64 0, .int .i64 0]) 2 16 Tryz.underlying103 hi hz0 hz1 hz2 rfl (by decide) (.slice O L.length c) L.length (dNews L) rfl HRa.out ⟨wr.heap.size, 0, none⟩ 1 1 [.int .i64 fr, .int .i64 ((k : Int) + 1)] rfl rfl (fun j u hu => World.news_of_block (newAtK rfl) j u hu) two_oneI (by unfold maxLen; omega) (by omega) HQa.out ?_; intro v3 w4 hown hgrow _; have HR3 : Hid (w4.ownsRow (w.heap.size + 1) 117 2 v3 (L ++ [(fr, (k : Int) + 1)]).length (dNews (L ++ [(fr, (k : Int) + 1)]))) := (by rw [Hid, dNews_snoc, List.length_append]; exact hown); have HB3 : Hid (Below (w.heap.size + 1) w1 w4) := HBa.out.grown hgrow HQa.out (fun b hb => (HRa.out.lt b hb).1); have HS4 : Hid (BlsAt w4 g text.length (labF text ent)) := HSa.out.kept HRa.out (by decide) hgrow; clear hown hgrow))
          obtain ⟨A5, c5, e5⟩ := own_sl HR3.out
          subst e5
          go_wp2
          go_roundw
          case rel => exact ⟨k + 1, A5, c5, _, _, by go_num, rfl, rfl, by omega, HC2, HR3, HS4, HB3⟩
          case measure => simp [intOf]; omega
        | false =>
          have HF : Hid (begF text ent ((k : Int) + 1) = endsB (dOp (nth text k))) := by rw [Hid, beg_succ hlt, hb, Bool.false_or]
          rw [hb] at s0
          clear hb
          obtain ⟨hv0, hv1⟩ := HR.out k hlt
          have C := refends_any (nth text k) hv0 hv1 wr
          generalize nth text k = v at *
          generalize endsB (dOp v) = t at *
          cases t with
          | true =>
            have HC2 : Hid (Come text ent (L ++ [(fr, (k : Int) + 1)]) ((k : Int) + 1) (k + 1)) := come_more HC.out hlt3 HF.out
            go_upto_region 6 with (first
              | (go_at_call 93; refine C.mono ?_; rintro e w5 ⟨rfl, hb5⟩; have HBx : Hid (Below wr.heap.size wr (w5.alloc (.cells #[.int .i64 fr, .int .i64 ((k : Int) + 1)] 117))) := lb_alloc hb5 _; have HBa : Hid (Below (w.heap.size + 1) w1 (w5.alloc (.cells #[.int .i64 fr, .int .i64 ((k : Int) + 1)] 117))) := HBr.out.trans (HBx.out.mono HQ.out); have HQa : Hid (w.heap.size + 1 ≤ (w5.alloc (.cells #[.int .i64 fr, .int .i64 ((k : Int) + 1)] 117)).heap.size) := Nat.le_trans HQ.out HBx.out.size; have HRa : Hid ((w5.alloc (.cells #[.int .i64 fr, .int .i64 ((k : Int) + 1)] 117)).ownsRow (w.heap.size + 1) 117 2 (.slice O L.length c) L.length (dNews L)) := row_keep HRw.out HBx.out; have HSa : Hid (BlsAt (w5.alloc (.cells #[.int .i64 fr, .int .i64 ((k : Int) + 1)] 117)) g text.length (labF text ent)) := HS.out.keep HBx.out)
              | (at_builtin; go_loud (refine wpList_append_own _ rfl (.tmp 36) (.tmp 40) 103 rfl (w.heap.size + 1) 117 iB (.agg #[.int .i64 0, .int .i64 0]) 2 16 Tryz.underlying103 hi hz0 hz1 hz2 rfl (by decide) (.slice O L.length c) L.length (dNews L) rfl HRa.out ⟨w5.heap.size, 0, none⟩ 1 1 [.int .i64 fr, .int .i64 ((k : Int) + 1)] rfl rfl (fun j u hu => World.news_of_block (newAtK rfl) j u hu) two_oneI (by unfold maxLen; omega) (by omega) HQa.out ?_; intro v3 w4 hown hgrow _; have HR3 : Hid (w4.ownsRow (w.heap.size + 1) 117 2 v3 (L ++ [(fr, (k : Int) + 1)]).length (dNews (L ++ [(fr, (k : Int) + 1)]))) := (by rw [Hid, dNews_snoc, List.length_append]; exact hown); have HB3 : Hid (Below (w.heap.size + 1) w1 w4) := HBa.out.grown hgrow HQa.out (fun b hb => (HRa.out.lt b hb).1); have HS4 : Hid (BlsAt w4 g text.length (labF text ent)) := HSa.out.kept HRa.out (by decide) hgrow; clear hown hgrow)))
            obtain ⟨A5, c5, e5⟩ := own_sl HR3.out
            subst e5
            go_wp2
            go_roundw
            case rel => exact ⟨k + 1, A5, c5, _, _, by go_num, rfl, rfl, by omega, HC2, HR3, HS4, HB3⟩
            case measure => simp [intOf]; omega
          | false =>
            have HC2 : Hid (Come text ent L fr (k + 1)) := come_same HC.out hlt3 HF.out
            go_wp2_with (go_at_call 93; refine C.mono ?_; rintro e w5 ⟨rfl, hb5⟩)
            go_roundw
            case rel => exact ⟨k + 1, O, c, _, _, by go_num, rfl, rfl, by omega, HC2, row_keep HRw.out hb5, HS.out.keep hb5, HBr.out.trans (hb5.mono HQ.out)⟩
            case measure => simp [intOf]; omega
    · obtain rfl : k = text.length := by omega
      have HL : Hid (L = blkL text ent) := by
        rcases HC.out with ⟨h, _⟩ | ⟨_, h⟩
        · omega
        · exact h
      go_wp2
      go_ret
      refine ⟨O, c, by rw [← HL.out]; rfl, by rw [← HL.out]; exact ownsRow_mono HRw.out (Nat.le_succ _), HBw.out⟩


end Go.Proofs.YtokhclindfipbaaGreatDoor

namespace Go.Proofs.YtokhclindfipbaaGreatDoor
open Go.RowKit

theorem old_at {w : World} {o o' : Obj} {n : Nat} (h : w.heap[n]? = some o) : (w.alloc o').heap[n]? = some o := by
  rw [Below.heap_alloc w o' n (Array.getElem?_eq_some_iff.1 h).1]; exact h
theorem new_at {w : World} {o : Obj} {n : Nat} (h : n = w.heap.size) : (w.alloc o).heap[n]? = some o := by subst h; exact heap_alloc_new w o
theorem box_other {w : World} {B P : Nat} {o : Obj} (h : w.heap[B]? = some o) (hB : B ≠ P) (i : Nat) (v : Value) : (w.setCell ⟨P, i, none⟩ v).heap[B]? = some o := (Below.heap_setCell _ _ _ _ hB).trans h
theorem zbox3_cell {w : World} {B : Nat} {x y z : Value} {t : TypeId} (h : w.heap[B]? = some (.cells #[x, y, z] t (0, 0))) : w.cell? ⟨B, 0, none⟩ = some x ∧ w.cell? ⟨B, 1, none⟩ = some y ∧ w.cell? ⟨B, 2, none⟩ = some z := by
  refine ⟨?_, ?_, ?_⟩ <;> simp [World.cell?, h]
theorem zNews_vals (K : IntKind) (zs : List Int) : iNews K zs = iVals K zs := by
  apply List.ext_getElem?
  intro i
  unfold iNews iVals
  by_cases h : i < zs.length
  · simp [h, wInt, nth, List.getD]
  · simp [h]


/-- What CopyImage answers. -/
def CopyI (text mem : List Int) (ent : Int) (w : World) (e : Ending) (w' : World) : Prop := ∃ (A1 A2 : Option Addr) (k1 k2 : Nat), e = .returned (.agg #[.slice A1 text.length k1, .int .i64 ent, .slice A2 mem.length k2]) ∧ RowsI w' w.heap.size A1 A2 k1 k2 text mem ∧ Below w.heap.size w w'

end Go.Proofs.YtokhclindfipbaaGreatDoor

namespace Go.Proofs.YtokhclindfipbaaGreatDoor
open Go.RowKit

theorem dD_reg (v : Int) : 0 ≤ dD v ∧ dD v ≤ 15 := by
  unfold dD
  split
  · unfold wD; omega
  · omega
theorem dA_reg (v : Int) : 0 ≤ dA v ∧ dA v ≤ 15 := by
  unfold dA
  split
  · unfold wA; omega
  · omega
theorem dB_reg (v : Int) : 0 ≤ dB v ∧ dB v ≤ 15 := by
  unfold dB
  split
  · unfold wB; omega
  · omega
/-- A register as a set of registers. -/
def bitN (h : Bool) (r : Int) : Nat := if h = true then 2 ^ r.toNat else 0
theorem bitN_lt (h : Bool) {r : Int} (h1 : r ≤ 15) : bitN h r < 65536 := by
  unfold bitN
  split
  · have : 2 ^ r.toNat ≤ 2 ^ 15 := Nat.pow_le_pow_right (by omega) (by omega)
    omega
  · omega
/-- What is in the first set and not in the second one. -/
def lessN (a b : Nat) : Nat := a &&& (65535 - b)
theorem lessN_bit {a b : Nat} (hb : b < 65536) (i : Nat) : (lessN a b).testBit i = (a.testBit i && (decide (i < 16) && !b.testBit i)) := by
  unfold lessN
  rw [Nat.testBit_and, show 65535 - b = 2 ^ 16 - (b + 1) by omega, Nat.testBit_two_pow_sub_succ hb]
theorem lessN_lt {a b : Nat} (h : a < 65536) : lessN a b < 65536 := Nat.lt_of_le_of_lt Nat.and_le_left h
theorem orN_lt {a b : Nat} (h : a < 65536) (k : b < 65536) : a ||| b < 65536 := Nat.or_lt_two_pow (n := 16) h k
/-- What a word reads, what it writes. -/
def rdN (v : Int) : Nat := bitN (hA (dOp v)) (dA v) ||| bitN (hB (dOp v)) (dB v)
def wrN (v : Int) : Nat := if dOp v = 17 ∨ dOp v = 18 then 32768 else bitN (hD (dOp v)) (dD v)
theorem rdN_lt (v : Int) : rdN v < 65536 := orN_lt (bitN_lt _ (dA_reg v).2) (bitN_lt _ (dB_reg v).2)
theorem wrN_lt (v : Int) : wrN v < 65536 := by
  unfold wrN
  split
  · omega
  · exact bitN_lt _ (dD_reg v).2
/-- Is the link register in one of both? -/
def lnB (v : Int) : Bool := decide ((rdN v ||| wrN v) / 32768 = 1)
def alB (v : Int) : Bool := if dOp v = -1 ∨ dOp v = 16 then true else if dOp v = 19 ∨ dOp v = 17 then false else if dOp v = 18 then dA v == 15 else lnB v
/-- What the first k words of a row read, and what they write. -/
def allW (l : List Int) : Nat → Nat
  | 0 => 0
  | k + 1 => allW l k ||| wrN (nth l k)
def allR (l : List Int) : Nat → Nat
  | 0 => 0
  | k + 1 => allR l k ||| lessN (rdN (nth l k)) (allW l k)
theorem allW_lt (l : List Int) : ∀ k, allW l k < 65536
  | 0 => by show 0 < 65536; decide
  | k + 1 => orN_lt (allW_lt l k) (wrN_lt _)
theorem allR_lt (l : List Int) : ∀ k, allR l k < 65536
  | 0 => by show 0 < 65536; decide
  | k + 1 => orN_lt (allR_lt l k) (lessN_lt (rdN_lt _))
theorem nth_left {a b : List Int} {k : Nat} (h : k < a.length) : nth (a ++ b) k = nth a k := by
  unfold nth
  rw [List.getD_eq_getElem?_getD, List.getElem?_append_left h, ← List.getD_eq_getElem?_getD]
theorem nth_right {a b : List Int} {j : Nat} : nth (a ++ b) (a.length + j) = nth b j := by
  unfold nth
  rw [List.getD_eq_getElem?_getD, List.getElem?_append_right (by omega), Nat.add_sub_cancel_left, ← List.getD_eq_getElem?_getD]
theorem allW_left (a b : List Int) : ∀ k, k ≤ a.length → allW (a ++ b) k = allW a k
  | 0, _ => rfl
  | k + 1, h => by
    show allW (a ++ b) k ||| wrN (nth (a ++ b) k) = allW a k ||| wrN (nth a k)
    rw [allW_left a b k (by omega), nth_left (by omega)]
theorem allR_left (a b : List Int) : ∀ k, k ≤ a.length → allR (a ++ b) k = allR a k
  | 0, _ => rfl
  | k + 1, h => by
    show allR (a ++ b) k ||| lessN (rdN (nth (a ++ b) k)) (allW (a ++ b) k) = allR a k ||| lessN (rdN (nth a k)) (allW a k)
    rw [allR_left a b k (by omega), allW_left a b k (by omega), nth_left (by omega)]
theorem allW_two (a b : List Int) : ∀ j, allW (a ++ b) (a.length + j) = allW a a.length ||| allW b j
  | 0 => by
    show allW (a ++ b) a.length = allW a a.length ||| 0
    rw [allW_left a b _ (Nat.le_refl _), Nat.or_zero]
  | j + 1 => by
    show allW (a ++ b) (a.length + j) ||| wrN (nth (a ++ b) (a.length + j)) = allW a a.length ||| (allW b j ||| wrN (nth b j))
    rw [allW_two a b j, nth_right, Nat.or_assoc]
theorem less_or {x w y : Nat} (hw : w < 65536) (hy : y < 65536) : lessN x (w ||| y) = lessN (lessN x y) w := by
  apply Nat.eq_of_testBit_eq
  intro i
  rw [lessN_bit (orN_lt hw hy), lessN_bit hw, lessN_bit hy, Nat.testBit_or]
  cases x.testBit i <;> cases w.testBit i <;> cases y.testBit i <;> cases decide (i < 16) <;> rfl
theorem or_less {x y w : Nat} (hw : w < 65536) : lessN (x ||| y) w = lessN x w ||| lessN y w := by
  apply Nat.eq_of_testBit_eq
  intro i
  rw [lessN_bit hw, Nat.testBit_or, Nat.testBit_or, lessN_bit hw, lessN_bit hw]
  cases x.testBit i <;> cases w.testBit i <;> cases y.testBit i <;> cases decide (i < 16) <;> rfl
theorem allR_two (a b : List Int) : ∀ j, allR (a ++ b) (a.length + j) = allR a a.length ||| lessN (allR b j) (allW a a.length)
  | 0 => by
    show allR (a ++ b) a.length = allR a a.length ||| lessN 0 (allW a a.length)
    rw [allR_left a b _ (Nat.le_refl _), show lessN 0 (allW a a.length) = 0 from Nat.zero_and _, Nat.or_zero]
  | j + 1 => by
    show allR (a ++ b) (a.length + j) ||| lessN (rdN (nth (a ++ b) (a.length + j))) (allW (a ++ b) (a.length + j)) = allR a a.length ||| lessN (allR b j ||| lessN (rdN (nth b j)) (allW b j)) (allW a a.length)
    rw [allR_two a b j, allW_two a b j, nth_right, or_less (allW_lt _ _), less_or (allW_lt _ _) (allW_lt _ _), Nat.or_assoc]
/-- Sets as the machine's numbers. -/
theorem orI {a b : Nat} (h : a < 65536) (k : b < 65536) : bits .or .u16 (a : Int) (b : Int) = ((a ||| b : Nat) : Int) := by
  rw [u16_or _ _ (by omega) (by omega) (by omega) (by omega)]
  simp
theorem lessI {a b : Nat} (h : a < 65536) (k : b < 65536) : bits .andNot .u16 (a : Int) (b : Int) = ((lessN a b : Nat) : Int) := by
  rw [u16_andNot _ _ (by omega) (by omega) (by omega) (by omega)]
  simp [lessN]
theorem linkI {n : Nat} (_h : n < 65536) : (((n : Int) / 32768) == 1) = decide (n / 32768 = 1) := by
  by_cases e : n / 32768 = 1
  · rw [decide_eq_true e, beq_iff_eq]; omega
  · rw [decide_eq_false e, beq_eq_false_iff_ne]; omega






end Go.Proofs.YtokhclindfipbaaGreatDoor
