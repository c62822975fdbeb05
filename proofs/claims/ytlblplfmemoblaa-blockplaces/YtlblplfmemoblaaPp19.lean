/-
  Places of the document, by what it answers, of an image that may be. Blocks of the document, by what it answers, of an image that may be. The document looks at an image; each word is of 32 bits.
-/
import Derived.Test.YtlblplfmemoblaaProg
import Derived.WalkKit
import Derived.WalkSpells
import Derived.WalkLawsBesides
import Derived.RowKit3
import Derived.Below
import Derived.Deep.QuietTactic
import Derived.BigQuiet
import Derived.WalkSmall
import Derived.Laws.Rows
import Derived.Test.YtlblplfmemoblaaPp18
import Derived.Test.YtlblplfmemoblaaPp14
import Derived.Test.YtlblplfmemoblaaPp12
namespace Go.Proofs.Ytlblplfmemoblaa
open Go.RowKit

set_option maxRecDepth 100000 in
set_option maxHeartbeats 2000000 in
theorem refplaces0_any (A1 A2 : Option Addr) (c1 ml c2 : Nat) (ent : Int) (text : List Int) (w : World) (hT : IntsAt w A1 .u32 text) (hR : ∀ i, i < text.length → 0 ≤ nth text i ∧ nth text i < 4294967296) (hM : MayI text ml ent) :
    Calls Try.prog 16 #[.agg #[.slice A1 text.length c1, .int .i64 ent, .slice A2 ml c2], .int .i64 0] w (PlcP (plcT (labF text ent) text.length) w) := by
  obtain ⟨iI, hi, hz0, hz1, hz2⟩ := infoI
  have hl : text.length ≤ 16384 := hM.past.len
  have HB : Hid (Below w.heap.size w (w.alloc (.cells #[.slice A1 text.length c1, .int .i64 ent, .slice A2 ml c2] 25))) := lb_alloc (Below.refl _ _) _
  have C := refmark0_any A1 A2 c1 ml c2 ent text (w.alloc (.cells #[.slice A1 text.length c1, .int .i64 ent, .slice A2 ml c2] 25)) (hT.keep HB.out) hR hM
  clear hT hR hM
  generalize labF text ent = f at *
  go_enter Try.func16, Try.ntmps16
  go_wp2_with fail
  refine C.mono ?_
  rintro e w1 ⟨g, rfl, hbls, hb1⟩
  have HB1 : Hid (Below w.heap.size w w1) := lb_trans HB.out hb1
  have HS1 : Hid (BlsAt w1 g text.length f) := hbls
  clear C hb1 hbls
  go_wp2
  go_loopw [5, 7] (fun v i wr => ∃ (k : Nat) (O : Option Addr) (c : Nat), i = .int .i64 k ∧ v = .slice O (plcT f k).length c ∧ k ≤ text.length ∧ Hid (wr.ownsRow w.heap.size 3 1 v (plcT f k).length (iVals .i64 (plcT f k))) ∧ Hid (BlsAt wr g text.length f) ∧ Hid (Below w.heap.size w wr)) (fun _ i _ => text.length - (intOf i).toNat)
  case atStart => exact ⟨0, none, 0, rfl, rfl, Nat.zero_le _, World.ownsRow_nil _ _ _ _, HS1, HB1⟩
  case round =>
    clear HS1 HB1
    obtain ⟨k, O, c, rfl, rfl, hk, HRw, HS, HBr⟩ := hrel
    have hpl := plcT_len f k
    by_cases hlt : k < text.length
    · have s0 := HS.out.cellN hlt
      cases ht : f (k : Int) with
      | false =>
        have HP : Hid (plcT f (k + 1) = plcT f k) := plcT_no ht
        rw [ht] at s0
        clear ht
        go_wp2
        go_roundw
        case rel => exact ⟨k + 1, O, c, by go_num, by rw [HP.out], by omega, by rw [HP.out]; exact HRw, HS, HBr⟩
        case measure => simp [intOf]; omega
      | true =>
        have HP : Hid (plcT f (k + 1) = plcT f k ++ [(k : Int)]) := plcT_yes ht
        rw [ht] at s0
        clear ht
        have HBx : Hid (Below wr.heap.size wr (wr.alloc (.cells #[.int .i64 (k : Int)] 3))) := lb_alloc (Below.refl _ _) _
        have HBa : Hid (Below w.heap.size w (wr.alloc (.cells #[.int .i64 (k : Int)] 3))) := lb_alloc HBr.out _
        have HRa : Hid ((wr.alloc (.cells #[.int .i64 (k : Int)] 3)).ownsRow w.heap.size 3 1 (.slice O (plcT f k).length c) (plcT f k).length (iVals .i64 (plcT f k))) := row_keep HRw.out HBx.out
        have HSa : Hid (BlsAt (wr.alloc (.cells #[.int .i64 (k : Int)] 3)) g text.length f) := HS.out.keep HBx.out
        generalize plcT f k = P at *
        go_upto_region 5 with (at_builtin; go_loud (refine wpList_append_own _ rfl (.tmp 21) (.tmp 23) 32 rfl w.heap.size 3 iI (.int .i64 0) 1 8 Try.underlying32 hi hz0 hz1 hz2 rfl (by decide) (.slice O P.length c) P.length (iVals .i64 P) rfl HRa.out ⟨wr.heap.size, 0, none⟩ 1 1 [.int .i64 (k : Int)] rfl rfl (fun j u hu => World.news_of_block (newAtK rfl) j u hu) one_oneI (by unfold maxLen; omega) (by omega) HBa.out.size ?_; intro v3 w4 hown hgrow _; have HR3 : Hid (w4.ownsRow w.heap.size 3 1 v3 (plcT f (k + 1)).length (iVals .i64 (plcT f (k + 1)))) := (by rw [Hid, HP.out, iVals_snoc, List.length_append]; exact hown); have HB3 : Hid (Below w.heap.size w w4) := HBa.out.grown hgrow HBa.out.size (fun b hb => (HRa.out.lt b hb).1); have HS4 : Hid (BlsAt w4 g text.length f) := HSa.out.kept HRa.out (by decide) hgrow; clear hown hgrow))
        obtain ⟨A5, c5, e5⟩ := own_sl HR3.out
        subst e5
        go_wp2
        go_roundw
        case rel => exact ⟨k + 1, A5, c5, by go_num, rfl, by omega, HR3, HS4, HB3⟩
        case measure => simp [intOf]; omega
    · obtain rfl : k = text.length := by omega
      go_wp2
      go_ret
      exact ⟨O, c, rfl, row_ints HRw.out, HBr.out⟩

set_option maxRecDepth 100000 in
set_option maxHeartbeats 2000000 in
theorem refplaces1_any (A1 A2 : Option Addr) (c1 ml c2 : Nat) (ent : Int) (text : List Int) (w : World) (hT : IntsAt w A1 .u32 text) (hR : ∀ i, i < text.length → 0 ≤ nth text i ∧ nth text i < 4294967296) (hM : MayI text ml ent) :
    Calls Try.prog 16 #[.agg #[.slice A1 text.length c1, .int .i64 ent, .slice A2 ml c2], .int .i64 1] w (PlcP (plcT (takF text) text.length) w) := by
  obtain ⟨iI, hi, hz0, hz1, hz2⟩ := infoI
  have hl : text.length ≤ 16384 := hM.past.len
  have HB : Hid (Below w.heap.size w (w.alloc (.cells #[.slice A1 text.length c1, .int .i64 ent, .slice A2 ml c2] 25))) := lb_alloc (Below.refl _ _) _
  have C := refmark1_any A1 A2 c1 ml c2 ent text (w.alloc (.cells #[.slice A1 text.length c1, .int .i64 ent, .slice A2 ml c2] 25)) (hT.keep HB.out) hR hM
  clear hT hR hM
  generalize takF text = f at *
  go_enter Try.func16, Try.ntmps16
  go_wp2_with fail
  refine C.mono ?_
  rintro e w1 ⟨g, rfl, hbls, hb1⟩
  have HB1 : Hid (Below w.heap.size w w1) := lb_trans HB.out hb1
  have HS1 : Hid (BlsAt w1 g text.length f) := hbls
  clear C hb1 hbls
  go_wp2
  go_loopw [5, 7] (fun v i wr => ∃ (k : Nat) (O : Option Addr) (c : Nat), i = .int .i64 k ∧ v = .slice O (plcT f k).length c ∧ k ≤ text.length ∧ Hid (wr.ownsRow w.heap.size 3 1 v (plcT f k).length (iVals .i64 (plcT f k))) ∧ Hid (BlsAt wr g text.length f) ∧ Hid (Below w.heap.size w wr)) (fun _ i _ => text.length - (intOf i).toNat)
  case atStart => exact ⟨0, none, 0, rfl, rfl, Nat.zero_le _, World.ownsRow_nil _ _ _ _, HS1, HB1⟩
  case round =>
    clear HS1 HB1
    obtain ⟨k, O, c, rfl, rfl, hk, HRw, HS, HBr⟩ := hrel
    have hpl := plcT_len f k
    by_cases hlt : k < text.length
    · have s0 := HS.out.cellN hlt
      cases ht : f (k : Int) with
      | false =>
        have HP : Hid (plcT f (k + 1) = plcT f k) := plcT_no ht
        rw [ht] at s0
        clear ht
        go_wp2
        go_roundw
        case rel => exact ⟨k + 1, O, c, by go_num, by rw [HP.out], by omega, by rw [HP.out]; exact HRw, HS, HBr⟩
        case measure => simp [intOf]; omega
      | true =>
        have HP : Hid (plcT f (k + 1) = plcT f k ++ [(k : Int)]) := plcT_yes ht
        rw [ht] at s0
        clear ht
        have HBx : Hid (Below wr.heap.size wr (wr.alloc (.cells #[.int .i64 (k : Int)] 3))) := lb_alloc (Below.refl _ _) _
        have HBa : Hid (Below w.heap.size w (wr.alloc (.cells #[.int .i64 (k : Int)] 3))) := lb_alloc HBr.out _
        have HRa : Hid ((wr.alloc (.cells #[.int .i64 (k : Int)] 3)).ownsRow w.heap.size 3 1 (.slice O (plcT f k).length c) (plcT f k).length (iVals .i64 (plcT f k))) := row_keep HRw.out HBx.out
        have HSa : Hid (BlsAt (wr.alloc (.cells #[.int .i64 (k : Int)] 3)) g text.length f) := HS.out.keep HBx.out
        generalize plcT f k = P at *
        go_upto_region 5 with (at_builtin; go_loud (refine wpList_append_own _ rfl (.tmp 21) (.tmp 23) 32 rfl w.heap.size 3 iI (.int .i64 0) 1 8 Try.underlying32 hi hz0 hz1 hz2 rfl (by decide) (.slice O P.length c) P.length (iVals .i64 P) rfl HRa.out ⟨wr.heap.size, 0, none⟩ 1 1 [.int .i64 (k : Int)] rfl rfl (fun j u hu => World.news_of_block (newAtK rfl) j u hu) one_oneI (by unfold maxLen; omega) (by omega) HBa.out.size ?_; intro v3 w4 hown hgrow _; have HR3 : Hid (w4.ownsRow w.heap.size 3 1 v3 (plcT f (k + 1)).length (iVals .i64 (plcT f (k + 1)))) := (by rw [Hid, HP.out, iVals_snoc, List.length_append]; exact hown); have HB3 : Hid (Below w.heap.size w w4) := HBa.out.grown hgrow HBa.out.size (fun b hb => (HRa.out.lt b hb).1); have HS4 : Hid (BlsAt w4 g text.length f) := HSa.out.kept HRa.out (by decide) hgrow; clear hown hgrow))
        obtain ⟨A5, c5, e5⟩ := own_sl HR3.out
        subst e5
        go_wp2
        go_roundw
        case rel => exact ⟨k + 1, A5, c5, by go_num, rfl, by omega, HR3, HS4, HB3⟩
        case measure => simp [intOf]; omega
    · obtain rfl : k = text.length := by omega
      go_wp2
      go_ret
      exact ⟨O, c, rfl, row_ints HRw.out, HBr.out⟩

set_option maxRecDepth 100000 in
set_option maxHeartbeats 2000000 in
theorem refplaces2_any (A1 A2 : Option Addr) (c1 ml c2 : Nat) (ent : Int) (text : List Int) (w : World) (hT : IntsAt w A1 .u32 text) (hR : ∀ i, i < text.length → 0 ≤ nth text i ∧ nth text i < 4294967296) (hM : MayI text ml ent) :
    Calls Try.prog 16 #[.agg #[.slice A1 text.length c1, .int .i64 ent, .slice A2 ml c2], .int .i64 2] w (PlcP (plcT (sitF text) text.length) w) := by
  obtain ⟨iI, hi, hz0, hz1, hz2⟩ := infoI
  have hl : text.length ≤ 16384 := hM.past.len
  have HB : Hid (Below w.heap.size w (w.alloc (.cells #[.slice A1 text.length c1, .int .i64 ent, .slice A2 ml c2] 25))) := lb_alloc (Below.refl _ _) _
  have C := refmark2_any A1 A2 c1 ml c2 ent text (w.alloc (.cells #[.slice A1 text.length c1, .int .i64 ent, .slice A2 ml c2] 25)) (hT.keep HB.out) hR hM
  clear hT hR hM
  generalize sitF text = f at *
  go_enter Try.func16, Try.ntmps16
  go_wp2_with fail
  refine C.mono ?_
  rintro e w1 ⟨g, rfl, hbls, hb1⟩
  have HB1 : Hid (Below w.heap.size w w1) := lb_trans HB.out hb1
  have HS1 : Hid (BlsAt w1 g text.length f) := hbls
  clear C hb1 hbls
  go_wp2
  go_loopw [5, 7] (fun v i wr => ∃ (k : Nat) (O : Option Addr) (c : Nat), i = .int .i64 k ∧ v = .slice O (plcT f k).length c ∧ k ≤ text.length ∧ Hid (wr.ownsRow w.heap.size 3 1 v (plcT f k).length (iVals .i64 (plcT f k))) ∧ Hid (BlsAt wr g text.length f) ∧ Hid (Below w.heap.size w wr)) (fun _ i _ => text.length - (intOf i).toNat)
  case atStart => exact ⟨0, none, 0, rfl, rfl, Nat.zero_le _, World.ownsRow_nil _ _ _ _, HS1, HB1⟩
  case round =>
    clear HS1 HB1
    obtain ⟨k, O, c, rfl, rfl, hk, HRw, HS, HBr⟩ := hrel
    have hpl := plcT_len f k
    by_cases hlt : k < text.length
    · have s0 := HS.out.cellN hlt
      cases ht : f (k : Int) with
      | false =>
        have HP : Hid (plcT f (k + 1) = plcT f k) := plcT_no ht
        rw [ht] at s0
        clear ht
        go_wp2
        go_roundw
        case rel => exact ⟨k + 1, O, c, by go_num, by rw [HP.out], by omega, by rw [HP.out]; exact HRw, HS, HBr⟩
        case measure => simp [intOf]; omega
      | true =>
        have HP : Hid (plcT f (k + 1) = plcT f k ++ [(k : Int)]) := plcT_yes ht
        rw [ht] at s0
        clear ht
        have HBx : Hid (Below wr.heap.size wr (wr.alloc (.cells #[.int .i64 (k : Int)] 3))) := lb_alloc (Below.refl _ _) _
        have HBa : Hid (Below w.heap.size w (wr.alloc (.cells #[.int .i64 (k : Int)] 3))) := lb_alloc HBr.out _
        have HRa : Hid ((wr.alloc (.cells #[.int .i64 (k : Int)] 3)).ownsRow w.heap.size 3 1 (.slice O (plcT f k).length c) (plcT f k).length (iVals .i64 (plcT f k))) := row_keep HRw.out HBx.out
        have HSa : Hid (BlsAt (wr.alloc (.cells #[.int .i64 (k : Int)] 3)) g text.length f) := HS.out.keep HBx.out
        generalize plcT f k = P at *
        go_upto_region 5 with (at_builtin; go_loud (refine wpList_append_own _ rfl (.tmp 21) (.tmp 23) 32 rfl w.heap.size 3 iI (.int .i64 0) 1 8 Try.underlying32 hi hz0 hz1 hz2 rfl (by decide) (.slice O P.length c) P.length (iVals .i64 P) rfl HRa.out ⟨wr.heap.size, 0, none⟩ 1 1 [.int .i64 (k : Int)] rfl rfl (fun j u hu => World.news_of_block (newAtK rfl) j u hu) one_oneI (by unfold maxLen; omega) (by omega) HBa.out.size ?_; intro v3 w4 hown hgrow _; have HR3 : Hid (w4.ownsRow w.heap.size 3 1 v3 (plcT f (k + 1)).length (iVals .i64 (plcT f (k + 1)))) := (by rw [Hid, HP.out, iVals_snoc, List.length_append]; exact hown); have HB3 : Hid (Below w.heap.size w w4) := HBa.out.grown hgrow HBa.out.size (fun b hb => (HRa.out.lt b hb).1); have HS4 : Hid (BlsAt w4 g text.length f) := HSa.out.kept HRa.out (by decide) hgrow; clear hown hgrow))
        obtain ⟨A5, c5, e5⟩ := own_sl HR3.out
        subst e5
        go_wp2
        go_roundw
        case rel => exact ⟨k + 1, A5, c5, by go_num, rfl, by omega, HR3, HS4, HB3⟩
        case measure => simp [intOf]; omega
    · obtain rfl : k = text.length := by omega
      go_wp2
      go_ret
      exact ⟨O, c, rfl, row_ints HRw.out, HBr.out⟩

end Go.Proofs.Ytlblplfmemoblaa

namespace Go.Proofs.Ytlblplfmemoblaa
open Go.RowKit

theorem zip_more {f : Int → Bool} {k : Nat} {L : List Rel} {fr : Int} (h0 : f 0 = true) (h : ∀ x, L ++ [(fr, x)] = zipN (plcT f (k + 1)) x) (hf : f ((k : Int) + 1) = true) (x : Int) : (L ++ [(fr, (k : Int) + 1)]) ++ [((k : Int) + 1, x)] = zipN (plcT f (k + 1 + 1)) x := by
  have hn : plcT f (k + 1) ≠ [] := fun e => by
    have := (plc_first (f := f) (n := k + 1) (by omega) h0).1
    rw [e] at this
    simp at this
  rw [h, plcT_yes (k := k + 1) (by rw [← hf]; rfl), show (((k + 1 : Nat)) : Int) = (k : Int) + 1 by omega, zipN_snoc _ _ _ hn]
theorem zip_same {f : Int → Bool} {k : Nat} {L : List Rel} {fr : Int} (h : ∀ x, L ++ [(fr, x)] = zipN (plcT f (k + 1)) x) (hf : f ((k : Int) + 1) = false) (x : Int) : L ++ [(fr, x)] = zipN (plcT f (k + 1 + 1)) x := by
  rw [h, plcT_no (k := k + 1) (by rw [← hf]; rfl)]
/-- How far the document has come. -/
def Come (text : List Int) (ent : Int) (L : List Rel) (fr : Int) (k : Nat) : Prop := (k < text.length ∧ ∀ x, L ++ [(fr, x)] = zipN (plcT (begF text ent) (k + 1)) x) ∨ (k = text.length ∧ L = blkL text ent)
theorem come_zero (text : List Int) (ent : Int) (h : 0 < text.length) : Come text ent [] 0 0 := .inl ⟨h, fun x => by rw [plcT_yes (k := 0) (beg_zero text ent)]; rfl⟩
theorem come_len {text : List Int} {ent : Int} {L : List Rel} {fr : Int} {k : Nat} (h : Come text ent L fr k) (hk : k < text.length) : L.length ≤ k := by
  rcases h with ⟨_, h⟩ | ⟨h, _⟩
  · have e := congrArg List.length (h 0)
    rw [zipN_len] at e
    have := plcT_len (begF text ent) (k + 1)
    simp at e
    omega
  · omega
theorem come_end {text : List Int} {ent : Int} {L : List Rel} {fr : Int} {k : Nat} (h : Come text ent L fr k) (hk : k + 1 = text.length) : Come text ent (L ++ [(fr, (k : Int) + 1)]) ((k : Int) + 1) (k + 1) := by
  rcases h with ⟨_, h⟩ | ⟨h, _⟩
  · refine .inr ⟨hk, ?_⟩
    rw [h]
    unfold blkL
    rw [← hk, show (((k + 1 : Nat)) : Int) = (k : Int) + 1 by omega]
  · omega
theorem come_more {text : List Int} {ent : Int} {L : List Rel} {fr : Int} {k : Nat} (h : Come text ent L fr k) (hk : k + 1 < text.length) (hf : begF text ent ((k : Int) + 1) = true) : Come text ent (L ++ [(fr, (k : Int) + 1)]) ((k : Int) + 1) (k + 1) := by
  rcases h with ⟨_, h⟩ | ⟨h, _⟩
  · exact .inl ⟨hk, zip_more (beg_zero text ent) h hf⟩
  · omega
theorem come_same {text : List Int} {ent : Int} {L : List Rel} {fr : Int} {k : Nat} (h : Come text ent L fr k) (hk : k + 1 < text.length) (hf : begF text ent ((k : Int) + 1) = false) : Come text ent L fr (k + 1) := by
  rcases h with ⟨_, h⟩ | ⟨h, _⟩
  · exact .inl ⟨hk, zip_same h hf⟩
  · omega
set_option maxRecDepth 100000 in
set_option maxHeartbeats 4000000 in
theorem refblocks_any (A1 A2 : Option Addr) (c1 ml c2 : Nat) (ent : Int) (text : List Int) (w : World) (hT : IntsAt w A1 .u32 text) (hR : ∀ i, i < text.length → 0 ≤ nth text i ∧ nth text i < 4294967296) (hM : MayI text ml ent) :
    Calls Try.prog 18 #[.agg #[.slice A1 text.length c1, .int .i64 ent, .slice A2 ml c2]] w (RelP (blkL text ent) w) := by
  obtain ⟨iB, hi, hz0, hz1, hz2⟩ := infoB
  have hl : text.length ≤ 16384 := hM.past.len
  have hpos : 0 < text.length := hM.past.pos
  obtain ⟨W, HW⟩ : ∃ W, Hid (w.alloc (.cells #[.slice A1 text.length c1, .int .i64 ent, .slice A2 ml c2] 25) = W) := ⟨_, rfl⟩
  have HB : Hid (Below w.heap.size w W) := by unfold Hid; rw [← HW.out]; exact lb_alloc (Below.refl _ _) _
  have i0 : W.cell? ⟨w.heap.size, 0, none⟩ = some (.slice A1 text.length c1) := by rw [← HW.out]; simp [go_sem]
  have i1 : W.cell? ⟨w.heap.size, 1, none⟩ = some (.int .i64 ent) := by rw [← HW.out]; simp [go_sem]
  have i2 : W.cell? ⟨w.heap.size, 2, none⟩ = some (.slice A2 ml c2) := by rw [← HW.out]; simp [go_sem]
  have hZ : w.heap.size < W.heap.size := by rw [← HW.out]; simp
  have C := refmark0_any A1 A2 c1 ml c2 ent text W (hT.keep HB.out) hR hM
  have HT : Hid (IntsAt w A1 .u32 text) := hT
  have HR : Hid _ := hR
  clear hT hR hM
  go_enter Try.func18, Try.ntmps18
  go_upto_region 2 with fail
  rw [HW.out]
  clear HW
  go_wp2_with fail
  refine C.mono ?_
  rintro e w1 ⟨g, rfl, hbls, hb1⟩
  have HB1 : Hid (Below w.heap.size w w1) := lb_trans HB.out hb1
  have HS1 : Hid (BlsAt w1 g text.length (labF text ent)) := hbls
  have HX1 : Hid (w1.cell? ⟨w.heap.size, 0, none⟩ = some (.slice A1 text.length c1)) := lkeep hb1 i0
  have HZ1 : Hid (w.heap.size < w1.heap.size) := Nat.lt_of_lt_of_le hZ hb1.size
  clear C hb1 hbls i0 i1 i2
  go_wp2
  go_loopw [3, 5, 6] (fun v fv i wr => ∃ (k : Nat) (O : Option Addr) (c : Nat) (L : List Rel) (fr : Int), i = .int .i64 ((k : Int) + 1) ∧ fv = .int .i64 fr ∧ v = .slice O L.length c ∧ k ≤ text.length ∧ Hid (Come text ent L fr k) ∧ Hid (wr.ownsRow (w.heap.size + 1) 47 2 v L.length (dNews L)) ∧ Hid (BlsAt wr g text.length (labF text ent)) ∧ Hid (Below (w.heap.size + 1) w1 wr)) (fun _ _ i _ => text.length + 1 - (intOf i).toNat)
  case atStart => exact ⟨0, none, 0, [], 0, rfl, rfl, rfl, Nat.zero_le _, come_zero text ent hpos, World.ownsRow_nil _ _ _ _, HS1, Below.refl _ _⟩
  case round =>
    clear HS1
    obtain ⟨k, O, c, L, fr, rfl, rfl, rfl, hk, HC, HRw, HS, HBr⟩ := hrel
    have x0 : wr.cell? ⟨w.heap.size, 0, none⟩ = some (.slice A1 text.length c1) := by rw [HBr.out.cell (p := ⟨w.heap.size, 0, none⟩) (Nat.lt_succ_self _)]; exact HX1.out
    have HBw : Hid (Below w.heap.size w wr) := HB1.out.trans (HBr.out.mono (Nat.le_succ _))
    have HQ : Hid (w.heap.size + 1 ≤ wr.heap.size) := Nat.le_trans HZ1.out HBr.out.size
    by_cases hlt : k < text.length
    · have hLl := come_len HC.out hlt
      obtain ⟨a, rfl, q⟩ := (HT.out.keep HBw.out) k hlt
      by_cases he : k + 1 = text.length
      · have he' : ((k : Int) + 1 == (text.length : Int)) = true := by rw [beq_iff_eq]; omega
        have HC2 : Hid (Come text ent (L ++ [(fr, (k : Int) + 1)]) ((k : Int) + 1) (k + 1)) := come_end HC.out he
        have HBx : Hid (Below wr.heap.size wr (wr.alloc (.cells #[.int .i64 fr, .int .i64 ((k : Int) + 1)] 47))) := lb_alloc (Below.refl _ _) _; have HBa : Hid (Below (w.heap.size + 1) w1 (wr.alloc (.cells #[.int .i64 fr, .int .i64 ((k : Int) + 1)] 47))) := HBr.out.trans (HBx.out.mono HQ.out); have HQa : Hid (w.heap.size + 1 ≤ (wr.alloc (.cells #[.int .i64 fr, .int .i64 ((k : Int) + 1)] 47)).heap.size) := Nat.le_trans HQ.out HBx.out.size; have HRa : Hid ((wr.alloc (.cells #[.int .i64 fr, .int .i64 ((k : Int) + 1)] 47)).ownsRow (w.heap.size + 1) 47 2 (.slice O L.length c) L.length (dNews L)) := row_keep HRw.out HBx.out; have HSa : Hid (BlsAt (wr.alloc (.cells #[.int .i64 fr, .int .i64 ((k : Int) + 1)] 47)) g text.length (labF text ent)) := HS.out.keep HBx.out
        clear he
        go_upto_region 6 with (at_builtin; go_loud (refine wpList_append_own _ rfl (.tmp 36) (.tmp 40) 35 rfl (w.heap.size + 1) 47 iB (.agg #[.int .i64 0, .int .i64 0]) 2 16 Try.underlying35 hi hz0 hz1 hz2 rfl (by decide) (.slice O L.length c) L.length (dNews L) rfl HRa.out ⟨wr.heap.size, 0, none⟩ 1 1 [.int .i64 fr, .int .i64 ((k : Int) + 1)] rfl rfl (fun j u hu => World.news_of_block (newAtK rfl) j u hu) two_oneI (by unfold maxLen; omega) (by omega) HQa.out ?_; intro v3 w4 hown hgrow _; have HR3 : Hid (w4.ownsRow (w.heap.size + 1) 47 2 v3 (L ++ [(fr, (k : Int) + 1)]).length (dNews (L ++ [(fr, (k : Int) + 1)]))) := (by rw [Hid, dNews_snoc, List.length_append]; exact hown); have HB3 : Hid (Below (w.heap.size + 1) w1 w4) := HBa.out.grown hgrow HQa.out (fun b hb => (HRa.out.lt b hb).1); have HS4 : Hid (BlsAt w4 g text.length (labF text ent)) := HSa.out.kept HRa.out (by decide) hgrow; clear hown hgrow))
        obtain ⟨A5, c5, e5⟩ := own_sl HR3.out
        subst e5
        go_wp2
        go_roundw
        case rel => exact ⟨k + 1, A5, c5, _, _, by go_num, rfl, rfl, by omega, HC2, HR3, HS4, HB3⟩
        case measure => simp [intOf]; omega
      · have he' : ((k : Int) + 1 == (text.length : Int)) = false := by rw [beq_eq_false_iff_ne]; omega
        have hlt2 : (k : Int) + 1 < (text.length : Int) := by omega
        have hlt3 : k + 1 < text.length := by omega
        have s0 := HS.out.cellN hlt3
        rw [show (((k + 1 : Nat)) : Int) = (k : Int) + 1 by omega] at s0
        clear he
        cases hb : labF text ent ((k : Int) + 1) with
        | true =>
          have HC2 : Hid (Come text ent (L ++ [(fr, (k : Int) + 1)]) ((k : Int) + 1) (k + 1)) := come_more HC.out hlt3 (beg_lab hb)
          rw [hb] at s0
          clear hb
          have HBx : Hid (Below wr.heap.size wr (wr.alloc (.cells #[.int .i64 fr, .int .i64 ((k : Int) + 1)] 47))) := lb_alloc (Below.refl _ _) _; have HBa : Hid (Below (w.heap.size + 1) w1 (wr.alloc (.cells #[.int .i64 fr, .int .i64 ((k : Int) + 1)] 47))) := HBr.out.trans (HBx.out.mono HQ.out); have HQa : Hid (w.heap.size + 1 ≤ (wr.alloc (.cells #[.int .i64 fr, .int .i64 ((k : Int) + 1)] 47)).heap.size) := Nat.le_trans HQ.out HBx.out.size; have HRa : Hid ((wr.alloc (.cells #[.int .i64 fr, .int .i64 ((k : Int) + 1)] 47)).ownsRow (w.heap.size + 1) 47 2 (.slice O L.length c) L.length (dNews L)) := row_keep HRw.out HBx.out; have HSa : Hid (BlsAt (wr.alloc (.cells #[.int .i64 fr, .int .i64 ((k : Int) + 1)] 47)) g text.length (labF text ent)) := HS.out.keep HBx.out
          go_upto_region 6 with (at_builtin; go_loud (refine wpList_append_own _ rfl (.tmp 36) (.tmp 40) 35 rfl (w.heap.size + 1) 47 iB (.agg #[.int .i64 0, .int .i64 0]) 2 16 Try.underlying35 hi hz0 hz1 hz2 rfl (by decide) (.slice O L.length c) L.length (dNews L) rfl HRa.out ⟨wr.heap.size, 0, none⟩ 1 1 [.int .i64 fr, .int .i64 ((k : Int) + 1)] rfl rfl (fun j u hu => World.news_of_block (newAtK rfl) j u hu) two_oneI (by unfold maxLen; omega) (by omega) HQa.out ?_; intro v3 w4 hown hgrow _; have HR3 : Hid (w4.ownsRow (w.heap.size + 1) 47 2 v3 (L ++ [(fr, (k : Int) + 1)]).length (dNews (L ++ [(fr, (k : Int) + 1)]))) := (by rw [Hid, dNews_snoc, List.length_append]; exact hown); have HB3 : Hid (Below (w.heap.size + 1) w1 w4) := HBa.out.grown hgrow HQa.out (fun b hb => (HRa.out.lt b hb).1); have HS4 : Hid (BlsAt w4 g text.length (labF text ent)) := HSa.out.kept HRa.out (by decide) hgrow; clear hown hgrow))
          obtain ⟨A5, c5, e5⟩ := own_sl HR3.out
          subst e5
          go_wp2
          go_roundw
          case rel => exact ⟨k + 1, A5, c5, _, _, by go_num, rfl, rfl, by omega, HC2, HR3, HS4, HB3⟩
          case measure => simp [intOf]; omega
        | false =>
          have HF : Hid (begF text ent ((k : Int) + 1) = endsB (dOp (nth text k))) := by rw [Hid, beg_succ hlt, hb, Bool.false_or]
          rw [hb] at s0
          clear hb
          obtain ⟨hv0, hv1⟩ := HR.out k hlt
          have C := refends_any (nth text k) hv0 hv1 wr
          generalize nth text k = v at *
          generalize endsB (dOp v) = t at *
          cases t with
          | true =>
            have HC2 : Hid (Come text ent (L ++ [(fr, (k : Int) + 1)]) ((k : Int) + 1) (k + 1)) := come_more HC.out hlt3 HF.out
            go_upto_region 6 with (first
              | (go_at_call 34; refine C.mono ?_; rintro e w5 ⟨rfl, hb5⟩; have HBx : Hid (Below wr.heap.size wr (w5.alloc (.cells #[.int .i64 fr, .int .i64 ((k : Int) + 1)] 47))) := lb_alloc hb5 _; have HBa : Hid (Below (w.heap.size + 1) w1 (w5.alloc (.cells #[.int .i64 fr, .int .i64 ((k : Int) + 1)] 47))) := HBr.out.trans (HBx.out.mono HQ.out); have HQa : Hid (w.heap.size + 1 ≤ (w5.alloc (.cells #[.int .i64 fr, .int .i64 ((k : Int) + 1)] 47)).heap.size) := Nat.le_trans HQ.out HBx.out.size; have HRa : Hid ((w5.alloc (.cells #[.int .i64 fr, .int .i64 ((k : Int) + 1)] 47)).ownsRow (w.heap.size + 1) 47 2 (.slice O L.length c) L.length (dNews L)) := row_keep HRw.out HBx.out; have HSa : Hid (BlsAt (w5.alloc (.cells #[.int .i64 fr, .int .i64 ((k : Int) + 1)] 47)) g text.length (labF text ent)) := HS.out.keep HBx.out)
              | (at_builtin; go_loud (refine wpList_append_own _ rfl (.tmp 36) (.tmp 40) 35 rfl (w.heap.size + 1) 47 iB (.agg #[.int .i64 0, .int .i64 0]) 2 16 Try.underlying35 hi hz0 hz1 hz2 rfl (by decide) (.slice O L.length c) L.length (dNews L) rfl HRa.out ⟨w5.heap.size, 0, none⟩ 1 1 [.int .i64 fr, .int .i64 ((k : Int) + 1)] rfl rfl (fun j u hu => World.news_of_block (newAtK rfl) j u hu) two_oneI (by unfold maxLen; omega) (by omega) HQa.out ?_; intro v3 w4 hown hgrow _; have HR3 : Hid (w4.ownsRow (w.heap.size + 1) 47 2 v3 (L ++ [(fr, (k : Int) + 1)]).length (dNews (L ++ [(fr, (k : Int) + 1)]))) := (by rw [Hid, dNews_snoc, List.length_append]; exact hown); have HB3 : Hid (Below (w.heap.size + 1) w1 w4) := HBa.out.grown hgrow HQa.out (fun b hb => (HRa.out.lt b hb).1); have HS4 : Hid (BlsAt w4 g text.length (labF text ent)) := HSa.out.kept HRa.out (by decide) hgrow; clear hown hgrow)))
            obtain ⟨A5, c5, e5⟩ := own_sl HR3.out
            subst e5
            go_wp2
            go_roundw
            case rel => exact ⟨k + 1, A5, c5, _, _, by go_num, rfl, rfl, by omega, HC2, HR3, HS4, HB3⟩
            case measure => simp [intOf]; omega
          | false =>
            have HC2 : Hid (Come text ent L fr (k + 1)) := come_same HC.out hlt3 HF.out
            go_wp2_with (go_at_call 34; refine C.mono ?_; rintro e w5 ⟨rfl, hb5⟩)
            go_roundw
            case rel => exact ⟨k + 1, O, c, _, _, by go_num, rfl, rfl, by omega, HC2, row_keep HRw.out hb5, HS.out.keep hb5, HBr.out.trans (hb5.mono HQ.out)⟩
            case measure => simp [intOf]; omega
    · obtain rfl : k = text.length := by omega
      have HL : Hid (L = blkL text ent) := by
        rcases HC.out with ⟨h, _⟩ | ⟨_, h⟩
        · omega
        · exact h
      go_wp2
      go_ret
      refine ⟨O, c, by rw [← HL.out]; rfl, by rw [← HL.out]; exact drow_rels HRw.out, HBw.out⟩

end Go.Proofs.Ytlblplfmemoblaa

namespace Go.Proofs.Ytlblplfmemoblaa
open Go.RowKit

set_option maxRecDepth 100000 in
set_option maxHeartbeats 1000000 in
theorem refcheck_any (A1 A2 : Option Addr) (c1 ml c2 : Nat) (ent : Int) (text : List Int) (w : World) (hT : IntsAt w A1 .u32 text) (hR : ∀ i, i < text.length → 0 ≤ nth text i ∧ nth text i < 4294967296) (hl : text.length ≤ 1048576) (hm : ml ≤ 1048576) :
    Calls Try.prog 9 #[.agg #[.slice A1 text.length c1, .int .i64 ent, .slice A2 ml c2]] w (ChkP (checkI text ml ent).1 (checkI text ml ent).2 w) := by
  by_cases h0 : text.length = 0
  · rw [check0 h0, h0]
    go_enter Try.func9, Try.ntmps9
    go_wp2
    go_ret2
    exact ⟨rfl, lb_alloc (Below.refl _ _) _⟩
  have n0 : ((text.length : Int) == 0) = false := by simpa using h0
  by_cases h1 : 16384 < text.length
  · rw [check1 h0 h1]
    go_enter Try.func9, Try.ntmps9
    go_wp2
    go_ret2
    exact ⟨rfl, lb_alloc (Below.refl _ _) _⟩
  by_cases h2 : 4096 < ml
  · rw [check2 h0 h1 h2]
    go_enter Try.func9, Try.ntmps9
    go_wp2
    go_ret2
    exact ⟨rfl, lb_alloc (Below.refl _ _) _⟩
  by_cases h3 : ent < 0
  · rw [check3 h0 h1 h2 (.inl h3)]
    go_enter Try.func9, Try.ntmps9
    go_wp2
    go_ret2
    exact ⟨rfl, lb_alloc (Below.refl _ _) _⟩
  by_cases h4 : (text.length : Int) ≤ ent
  · rw [check3 h0 h1 h2 (.inr h4)]
    go_enter Try.func9, Try.ntmps9
    go_wp2
    go_ret2
    exact ⟨rfl, lb_alloc (Below.refl _ _) _⟩
  have HP : Hid (Past text ml ent) := ⟨by omega, by omega, by omega, by omega, by omega⟩
  have HB0 : Hid (Below w.heap.size w (w.alloc (.cells #[.slice A1 text.length c1, .int .i64 ent, .slice A2 ml c2] 25))) := lb_alloc (Below.refl _ _) _
  have HX : Hid ((w.alloc (.cells #[.slice A1 text.length c1, .int .i64 ent, .slice A2 ml c2] 25)).heap[w.heap.size]? = some (.cells #[.slice A1 text.length c1, .int .i64 ent, .slice A2 ml c2] 25 (0, 0))) := heap_alloc_new _ _
  clear h1 h2 h3 h4
  have hlen : text.length ≤ 16384 := HP.out.len
  have hml := HP.out.mem
  have hpos := HP.out.pos
  have he0 := HP.out.ent0
  have he1 := HP.out.ent1
  go_enter Try.func9, Try.ntmps9
  go_wp2
  go_loopw [5] (fun i wr => ∃ k : Nat, i = .int .i64 k ∧ k ≤ text.length ∧ Hid (∀ j, j < k → farT text j = false) ∧ Hid (Below (w.alloc (.cells #[.slice A1 text.length c1, .int .i64 ent, .slice A2 ml c2] 25)).heap.size (w.alloc (.cells #[.slice A1 text.length c1, .int .i64 ent, .slice A2 ml c2] 25)) wr)) (fun i _ => text.length - (intOf i).toNat)
  case atStart => exact ⟨0, rfl, by omega, fun j hj => by omega, Below.refl _ _⟩
  case round =>
    obtain ⟨k, rfl, hk, hj, hb⟩ := hrel
    have HBr : Hid (Below w.heap.size w wr) := lb_trans HB0.out hb.out
    have hx := lb_box0 HX.out hb.out
    by_cases hlt : k < text.length
    · obtain ⟨a, rfl, q⟩ := (hT.keep HBr.out) k hlt
      have x0 : wr.cell? ⟨w.heap.size, 0, none⟩ = some (.slice (some a) text.length c1) := by simp [World.cell?, hx]
      obtain ⟨hv0, hv1⟩ := hR k hlt
      have C := reftarget_any (nth text k) hv0 hv1 wr
      have HF : Hid (farT text k = (isT (nth text k) && decide ((text.length : Int) ≤ tgV (nth text k)))) := rfl
      generalize nth text k = v at *
      generalize isT v = t at *
      generalize tgV v = z at *
      clear hx
      cases t with
      | false =>
        go_wp2_with (go_at_call 24; refine C.mono ?_; rintro e w1 ⟨rfl, hb1⟩)
        go_roundw
        case rel => exact ⟨k + 1, by go_num, by omega, fun j hj1 => by
          by_cases hjk : j = k
          · subst hjk; rw [HF.out]; rfl
          · exact hj.out j (by omega), lb_trans hb.out hb1⟩
        case measure => simp [intOf]; omega
      | true =>
        by_cases hz : (text.length : Int) ≤ z
        · go_wp2_with (go_at_call 24; refine C.mono ?_; rintro e w1 ⟨rfl, hb1⟩)
          go_ret2
          have e := check_far HP.out hlt hj.out (by rw [HF.out]; simpa using hz)
          rw [e]
          exact ⟨rfl, lb_trans HBr.out hb1⟩
        · go_wp2_with (go_at_call 24; refine C.mono ?_; rintro e w1 ⟨rfl, hb1⟩)
          go_roundw
          case rel => exact ⟨k + 1, by go_num, by omega, fun j hj1 => by
            by_cases hjk : j = k
            · subst hjk; rw [HF.out]; simpa using hz
            · exact hj.out j (by omega), lb_trans hb.out hb1⟩
          case measure => simp [intOf]; omega
    · obtain rfl : k = text.length := by omega
      obtain ⟨a, rfl, q⟩ := (hT.keep HBr.out) (text.length - 1) (by omega)
      have x0 : wr.cell? ⟨w.heap.size, 0, none⟩ = some (.slice (some a) text.length c1) := by simp [World.cell?, hx]
      obtain ⟨hv0, hv1⟩ := hR (text.length - 1) (by omega)
      have C := refdecode_any (nth text (text.length - 1)) hv0 hv1 wr
      have HE : Hid _ := check_end HP.out hj.out
      have HL : Hid (lastOK (nth text (text.length - 1)) = decide (dOp (nth text (text.length - 1)) = 0 ∨ dOp (nth text (text.length - 1)) = 15 ∨ dOp (nth text (text.length - 1)) = 19 ∨ dOp (nth text (text.length - 1)) = 21)) := rfl
      have hc : ((text.length - 1 : Nat) : Int) = (text.length : Int) - 1 := by omega
      generalize nth text (text.length - 1) = v at *
      generalize dOp v = x at *
      generalize dD v = x1 at *
      generalize dA v = x2 at *
      generalize dB v = x3 at *
      generalize dN v = x4 at *
      generalize lastOK v = t at *
      clear hx
      go_wp2_with (go_at_call 25; refine C.mono ?_; rintro e w1 ⟨rfl, hb1⟩)
      all_goals (
        go_ret2
        rw [HE.out, HL.out]
        refine ⟨?_, lb_trans HBr.out hb1⟩
        by_cases hd : x = 0 ∨ x = 15 ∨ x = 19 ∨ x = 21
        · rw [decide_eq_true hd]
          first
            | rfl
            | (exfalso; simp_all)
        · rw [decide_eq_false hd]
          first
            | (exfalso; simp_all; done)
            | (simp; omega))


end Go.Proofs.Ytlblplfmemoblaa
