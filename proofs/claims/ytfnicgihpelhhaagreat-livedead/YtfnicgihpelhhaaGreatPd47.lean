/-
  The program: Reads, Writes, Links, Alone, All, each by what it answers; each word is of 32 bits. The document marks labels. What Places and Blocks of the document answer. Blocks of the document, by what it answers, of an image that may be.
-/
import Derived.Test.YtfnicgihpelhhaaGreatProg
import Derived.WalkKit
import Derived.WalkSpells
import Derived.WalkLawsBesides
import Derived.RowKit3
import Derived.Below
import Derived.Deep.QuietTactic
import Derived.BigQuiet
import Derived.WalkSmall
import Derived.Laws.Rows
import Derived.Test.YtfnicgihpelhhaaGreatPd46
import Derived.Test.YtfnicgihpelhhaaGreatPd19
import Derived.Test.YtfnicgihpelhhaaGreatPd22
import Derived.Test.YtfnicgihpelhhaaGreatPd14
import Derived.Test.YtfnicgihpelhhaaGreatPd08
namespace Go.Proofs.YtfnicgihpelhhaaGreat
open Go.RowKit

theorem mkFnT : ∀ (fn : Fn) (first cap : Array Value) (w : World), (Instr.makeFunc fn first cap).run Tryz.prog w = .ok (.func fn first cap) w := fun _ _ _ _ => rfl
theorem dOp_le7 (v : Int) (h0 : 0 ≤ v) (h1 : v < 4294967296) : dOp v ≤ 127 := by
  unfold dOp
  split
  · unfold wOp; omega
  · omega
set_option maxHeartbeats 2000000 in
theorem readsOK : ReadsOK := fun v w h0 h1 => by
  have C := fun wx => decoded_any v h0 h1 wx
  have C1 := fun wx => ireads_any (dOp v) (dD v) (dA v) (dB v) (dN v) (dOp_le7 v h0 h1) (dA_reg v) (dB_reg v) wx
  rw [rdN_is]
  generalize irdN (dOp v) (dA v) (dB v) = x at *
  generalize dOp v = op at *
  generalize dD v = dd at *
  generalize dA v = da at *
  generalize dB v = db at *
  generalize dN v = dn at *
  go_enter Tryz.func25, Tryz.ntmps25
  go_wp2_with (first
    | (go_at_call 52; refine (C _).mono ?_; rintro e w1 ⟨rfl, hb1⟩)
    | (go_at_call 53; refine (C1 _).mono ?_; rintro e w2 ⟨rfl, hb2⟩))
  go_ret
  exact ⟨rfl, lb_trans hb1 hb2⟩
set_option maxHeartbeats 2000000 in
theorem writesOK : WritesOK := fun v w h0 h1 => by
  have C := fun wx => decoded_any v h0 h1 wx
  have C1 := fun wx => iwrites_any (dOp v) (dD v) (dA v) (dB v) (dN v) (dOp_le7 v h0 h1) (dD_reg v) wx
  rw [wrN_is]
  generalize iwrN (dOp v) (dD v) = x at *
  generalize dOp v = op at *
  generalize dD v = dd at *
  generalize dA v = da at *
  generalize dB v = db at *
  generalize dN v = dn at *
  go_enter Tryz.func26, Tryz.ntmps26
  go_wp2_with (first
    | (go_at_call 52; refine (C _).mono ?_; rintro e w1 ⟨rfl, hb1⟩)
    | (go_at_call 54; refine (C1 _).mono ?_; rintro e w2 ⟨rfl, hb2⟩))
  go_ret
  exact ⟨rfl, lb_trans hb1 hb2⟩
theorem lnB_is (v : Int) : lnB v = decide ((irdN (dOp v) (dA v) (dB v) ||| iwrN (dOp v) (dD v)) / 32768 = 1) := by
  unfold lnB
  rw [rdN_is, wrN_is]
set_option maxHeartbeats 2000000 in
theorem allOK : AllOK := fun A c l w hA hR hl => by
  have HA : Hid (IntsAt w A .u32 l) := hA
  have HR : Hid (∀ i, i < l.length → 0 ≤ nth l i ∧ nth l i < 4294967296) := hR
  clear hA hR
  go_enter Tryz.func50, Tryz.ntmps50
  go_wp2
  go_loopw [2, 3, 9] (fun r x i wr => ∃ k : Nat, i = .int .i64 k ∧ r = .int .u16 ((allR l k : Nat) : Int) ∧ x = .int .u16 ((allW l k : Nat) : Int) ∧ k ≤ l.length ∧ Hid (Below w.heap.size w wr)) (fun _ _ i _ => l.length - (intOf i).toNat)
  case atStart => exact ⟨0, rfl, rfl, rfl, Nat.zero_le _, Below.refl _ _⟩
  case round =>
    obtain ⟨k, rfl, rfl, rfl, hk, HB⟩ := hrel
    by_cases hlt : k < l.length
    · have hlt' : (k : Int) < (l.length : Int) := by omega
      obtain ⟨a, ea, q⟩ := HA.out k hlt
      subst ea
      replace q := lkeep HB.out q
      obtain ⟨v0, v1⟩ := HR.out k hlt
      have C := fun wx => decoded_any (nth l k) v0 v1 wx
      have C1 := fun wx => ireads_any (dOp (nth l k)) (dD (nth l k)) (dA (nth l k)) (dB (nth l k)) (dN (nth l k)) (dOp_le7 _ v0 v1) (dA_reg _) (dB_reg _) wx
      have C2 := fun wx => iwrites_any (dOp (nth l k)) (dD (nth l k)) (dA (nth l k)) (dB (nth l k)) (dN (nth l k)) (dOp_le7 _ v0 v1) (dD_reg _) wx
      have hless := lessI (rdN_lt (nth l k)) (allW_lt l k)
      have hor := orI (allR_lt l k) (lessN_lt (b := allW l k) (rdN_lt (nth l k)))
      have hor2 := orI (allW_lt l k) (wrN_lt (nth l k))
      have HS1 : Hid (allR l (k + 1) = allR l k ||| lessN (rdN (nth l k)) (allW l k)) := rfl
      have HS2 : Hid (allW l (k + 1) = allW l k ||| wrN (nth l k)) := rfl
      rw [← rdN_is] at C1
      rw [← wrN_is] at C2
      generalize rdN (nth l k) = x at *
      generalize wrN (nth l k) = y at *
      generalize nth l k = v at *
      generalize lessN x (allW l k) = z at *
      generalize dOp v = op at *
      generalize dD v = dd at *
      generalize dA v = da at *
      generalize dB v = db at *
      generalize dN v = dn at *
      go_upto_region 5 with (go_at_call 52; refine (C _).mono ?_; rintro e w1 ⟨rfl, hb1⟩; have HB1 : Hid (Below w.heap.size w w1) := lb_trans HB.out hb1; clear hb1)
      obtain ⟨X, HX⟩ : ∃ X, Hid (w1.alloc (.cells #[.int .i8 op, .int .i8 dd, .int .i8 da, .int .i8 db, .int .i64 dn] 105) = X) := ⟨_, rfl⟩
      have HBX : Hid (Below w.heap.size w X) := by unfold Hid; rw [← HX.out]; exact lb_alloc HB1.out _
      have c0 : X.cell? ⟨w1.heap.size, 0, none⟩ = some (.int .i8 op) := by rw [← HX.out]; simp [go_sem]
      have c1 : X.cell? ⟨w1.heap.size, 1, none⟩ = some (.int .i8 dd) := by rw [← HX.out]; simp [go_sem]
      have c2 : X.cell? ⟨w1.heap.size, 2, none⟩ = some (.int .i8 da) := by rw [← HX.out]; simp [go_sem]
      have c3 : X.cell? ⟨w1.heap.size, 3, none⟩ = some (.int .i8 db) := by rw [← HX.out]; simp [go_sem]
      have c4 : X.cell? ⟨w1.heap.size, 4, none⟩ = some (.int .i64 dn) := by rw [← HX.out]; simp [go_sem]
      rw [HX.out]
      clear HX
      go_upto_region 6 with (go_at_call 53; refine (C1 _).mono ?_; rintro e w2 ⟨rfl, hb2⟩; have HB2 : Hid (Below w.heap.size w w2) := lb_trans HBX.out hb2; have d0 := lkeep hb2 c0; have d1 := lkeep hb2 c1; have d2 := lkeep hb2 c2; have d3 := lkeep hb2 c3; have d4 := lkeep hb2 c4; clear hb2)
      go_wp2_with (go_at_call 54; refine (C2 _).mono ?_; rintro e w3 ⟨rfl, hb3⟩; have HB3 : Hid (Below w.heap.size w w3) := lb_trans HB2.out hb3; clear hb3)
      go_roundw
      case rel => exact ⟨k + 1, by go_num, by rw [HS1.out], by rw [HS2.out], by omega, HB3⟩
      case measure => simp [intOf]; omega
    · obtain rfl : k = l.length := by omega
      go_wp2
      go_ret2
      exact ⟨rfl, HB.out⟩


end Go.Proofs.YtfnicgihpelhhaaGreat

namespace Go.Proofs.YtfnicgihpelhhaaGreat
open Go.RowKit

theorem fieldIns0R (a b c d e : Value) (w : World) : (Instr.field 50 (.agg #[a, b, c, d, e]) 0).run Tryz.prog w = .ok a w := by kernel_rfl

set_option maxRecDepth 100000 in
set_option maxHeartbeats 4000000 in
theorem refmark0_any (A1 A2 : Option Addr) (c1 ml c2 : Nat) (ent : Int) (text : List Int) (w : World) (hT : IntsAt w A1 .u32 text) (hR : ∀ i, i < text.length → 0 ≤ nth text i ∧ nth text i < 4294967296) (hM : MayI text ml ent) :
    Calls Tryz.prog 55 #[.agg #[.slice A1 text.length c1, .int .i64 ent, .slice A2 ml c2], .int .i64 0] w (MarkP text.length (labF text ent) w) := by
  have hfl := fieldIns0R
  have hl : text.length ≤ 16384 := hM.past.len
  have he0 := hM.past.ent0
  have he1 := hM.past.ent1
  have hmk := make_bls text.length (by omega)
  obtain ⟨W, HW⟩ : ∃ W, Hid ((w.alloc (.cells #[.slice A1 text.length c1, .int .i64 ent, .slice A2 ml c2] 25)).alloc (.cells (madeCells #[.bool false] text.length) 4) = W) := ⟨_, rfl⟩
  have HB : Hid (Below w.heap.size w W) := by unfold Hid; rw [← HW.out]; exact lb_alloc (lb_alloc (Below.refl _ _) _) _
  have HS : Hid (BlsAt W (w.heap.size + 1) text.length noF) := by
    have := BlsAt.made (w.alloc (.cells #[.slice A1 text.length c1, .int .i64 ent, .slice A2 ml c2] 25)) text.length
    rw [HW.out] at this
    simpa [Hid] using this
  have i0 : W.cell? ⟨w.heap.size, 0, none⟩ = some (.slice A1 text.length c1) := by rw [← HW.out]; simp [go_sem]
  have i1 : W.cell? ⟨w.heap.size, 1, none⟩ = some (.int .i64 ent) := by rw [← HW.out]; simp [go_sem]
  have hZ : w.heap.size + 1 < W.heap.size := by rw [← HW.out]; simp
  have HT : Hid (IntsAt w A1 .u32 text) := hT
  have HM : Hid (MayI text ml ent) := hM
  have HR : Hid _ := hR
  clear hT hR hM
  go_enter Tryz.func55, Tryz.ntmps55
  go_upto_region 2 with fail
  rw [HW.out]
  clear HW hmk
  go_wp2
  go_loopw [6] (fun i wr => ∃ k : Nat, i = .int .i64 k ∧ k ≤ text.length ∧ Hid (BlsAt wr (w.heap.size + 1) text.length (addK noF (gLab text) k)) ∧ Hid (W.grownBy wr (some (w.heap.size + 1)))) (fun i _ => text.length - (intOf i).toNat)
  case atStart => exact ⟨0, rfl, Nat.zero_le _, HS.out.fit fun y => (addK_zero _ _ y).symm, World.grownBy.refl _ _⟩
  case round =>
    clear HS
    obtain ⟨k, rfl, hk, HS, HG⟩ := hrel
    have j0 := cell_other HG.out i0 (show w.heap.size ≠ w.heap.size + 1 by omega)
    have j1 := cell_other HG.out i1 (show w.heap.size ≠ w.heap.size + 1 by omega)
    have HBr : Hid (Below w.heap.size w wr) := grown_belowR HB.out HG.out (by omega) HB.out.size
    by_cases hlt : k < text.length
    · obtain ⟨a, rfl, q⟩ := (HT.out.keep HBr.out) k hlt
      obtain ⟨hv0, hv1⟩ := HR.out k hlt
      have C1 := refdecode_any (nth text k) hv0 hv1 wr
      have C2 := fun wx => reftarget_any (nth text k) hv0 hv1 wx

      have HY : Hid (isT (nth text k) = true → gLab text k = some (tgV (nth text k)) ∧ 0 ≤ tgV (nth text k) ∧ tgV (nth text k) < (text.length : Int)) := fun h => ⟨gLab_yes h, (tg_pos h).1, far_in (HM.out.far k hlt) h⟩
      have HN : Hid (isT (nth text k) = false → gLab text k = none) := gLab_no
      generalize nth text k = v at *
      generalize isT v = t at *
      generalize tgV v = z at *
      generalize dOp v = x at *
      generalize dD v = x1 at *
      generalize dA v = x2 at *
      generalize dB v = x3 at *
      generalize dN v = x4 at *
      cases t with
      | false =>
        have HG0 : Hid (gLab text k = none) := HN.out rfl
        clear HY HN
        go_wp2_with (first
          | (go_at_call 20; refine C1.mono ?_; rintro e w2 ⟨rfl, hb2⟩; have m0 := lkeep hb2 j0; have m1 := lkeep hb2 q)
          | (go_at_call 16; refine (C2 _).mono ?_; rintro e w3 ⟨rfl, hb3⟩))
        go_roundw
        case rel => exact ⟨k + 1, by go_num, by omega, ((HS.out.keep hb2).keep hb3).fit (addK_none HG0.out), grown_on (grown_on HG.out hb2) hb3⟩
        case measure => simp [intOf]; omega
      | true =>
        obtain ⟨hg, hz0, hz1⟩ := HY.out rfl
        have HG0 : Hid (gLab text k = some z) := hg
        clear HY HN hg
        go_wp2_with (first
          | (go_at_call 20; refine C1.mono ?_; rintro e w2 ⟨rfl, hb2⟩; have m0 := lkeep hb2 j0; have m1 := lkeep hb2 q)
          | (go_at_call 16; refine (C2 _).mono ?_; rintro e w3 ⟨rfl, hb3⟩; have HS3 : Hid (BlsAt w3 (w.heap.size + 1) text.length (addK noF (gLab text) k)) := (HS.out.keep hb2).keep hb3; have s0 := HS3.out.cell hz0 hz1; have s1 := HS3.out.fro z.toNat))
        go_roundw
        case rel => exact ⟨k + 1, by go_num, by omega, (HS3.out.set hz0 hz1).fit (addK_some HG0.out), (grown_on (grown_on HG.out hb2) hb3).trans (gset11 _ _ _ _)⟩
        case measure => simp [intOf]; omega
    · obtain rfl : k = text.length := by omega
      have s0 := HS.out.cell he0 he1
      have s1 := HS.out.fro ent.toNat
      go_wp2
      go_ret
      exact ⟨w.heap.size + 1, rfl, (HS.out.set he0 he1).fit (lab_set text ent), HBr.out.setCell (by simp) _⟩



end Go.Proofs.YtfnicgihpelhhaaGreat

namespace Go.Proofs.YtfnicgihpelhhaaGreat
open Go.RowKit

def PlcP (ps : List Int) (w : World) (e : Ending) (w' : World) : Prop := ∃ (A : Option Addr) (c : Nat), e = .returned (.slice A ps.length c) ∧ IntsAt w' A .i64 ps ∧ Below w.heap.size w w'
def RelP (l : List Rel) (w : World) (e : Ending) (w' : World) : Prop := ∃ (A : Option Addr) (c : Nat), e = .returned (.slice A l.length c) ∧ RelsAt w' A l ∧ Below w.heap.size w w'
theorem BlsAt.kept {w w1 : World} {g n : Nat} {F : Int → Bool} {base : Nat} {e : TypeId} {sz : Nat} {v : Value} {m : Nat} {xs : List Value} (h : BlsAt w g n F) (hr : w.ownsRow base e sz v m xs) (he : e ≠ 4) (hg : w.grownBy w1 v.ownBlock) : BlsAt w1 g n F := by
  obtain ⟨cs, h1, h2⟩ := h
  refine ⟨cs, ?_, h2⟩
  rw [hg.block g (Array.getElem?_eq_some_iff.1 h1).1 ?_]
  · exact h1
  · rcases hr.2 with ⟨rfl, _⟩ | ⟨g2, cap, cur, rfl, _, hg2, _⟩
    · intro e; cases e
    · intro e
      cases e
      rw [h1] at hg2
      injection hg2 with hg2
      injection hg2 with a b
      exact he b.symm



end Go.Proofs.YtfnicgihpelhhaaGreat

namespace Go.Proofs.YtfnicgihpelhhaaGreat
open Go.RowKit

theorem zip_more {f : Int → Bool} {k : Nat} {L : List Rel} {fr : Int} (h0 : f 0 = true) (h : ∀ x, L ++ [(fr, x)] = zipN (plcT f (k + 1)) x) (hf : f ((k : Int) + 1) = true) (x : Int) : (L ++ [(fr, (k : Int) + 1)]) ++ [((k : Int) + 1, x)] = zipN (plcT f (k + 1 + 1)) x := by
  have hn : plcT f (k + 1) ≠ [] := fun e => by
    have := (plc_first (f := f) (n := k + 1) (by omega) h0).1
    rw [e] at this
    simp at this
  rw [h, plcT_yes (k := k + 1) (by rw [← hf]; rfl), show (((k + 1 : Nat)) : Int) = (k : Int) + 1 by omega, zipN_snoc _ _ _ hn]
theorem zip_same {f : Int → Bool} {k : Nat} {L : List Rel} {fr : Int} (h : ∀ x, L ++ [(fr, x)] = zipN (plcT f (k + 1)) x) (hf : f ((k : Int) + 1) = false) (x : Int) : L ++ [(fr, x)] = zipN (plcT f (k + 1 + 1)) x := by
  rw [h, plcT_no (k := k + 1) (by rw [← hf]; rfl)]
/-- How far the document has come. -/
def Come (text : List Int) (ent : Int) (L : List Rel) (fr : Int) (k : Nat) : Prop := (k < text.length ∧ ∀ x, L ++ [(fr, x)] = zipN (plcT (begF text ent) (k + 1)) x) ∨ (k = text.length ∧ L = blkL text ent)
theorem come_zero (text : List Int) (ent : Int) (h : 0 < text.length) : Come text ent [] 0 0 := .inl ⟨h, fun x => by rw [plcT_yes (k := 0) (beg_zero text ent)]; rfl⟩
theorem come_len {text : List Int} {ent : Int} {L : List Rel} {fr : Int} {k : Nat} (h : Come text ent L fr k) (hk : k < text.length) : L.length ≤ k := by
  rcases h with ⟨_, h⟩ | ⟨h, _⟩
  · have e := congrArg List.length (h 0)
    rw [zipN_len] at e
    have := plcT_len (begF text ent) (k + 1)
    simp at e
    omega
  · omega
theorem come_end {text : List Int} {ent : Int} {L : List Rel} {fr : Int} {k : Nat} (h : Come text ent L fr k) (hk : k + 1 = text.length) : Come text ent (L ++ [(fr, (k : Int) + 1)]) ((k : Int) + 1) (k + 1) := by
  rcases h with ⟨_, h⟩ | ⟨h, _⟩
  · refine .inr ⟨hk, ?_⟩
    rw [h]
    unfold blkL
    rw [← hk, show (((k + 1 : Nat)) : Int) = (k : Int) + 1 by omega]
  · omega
theorem come_more {text : List Int} {ent : Int} {L : List Rel} {fr : Int} {k : Nat} (h : Come text ent L fr k) (hk : k + 1 < text.length) (hf : begF text ent ((k : Int) + 1) = true) : Come text ent (L ++ [(fr, (k : Int) + 1)]) ((k : Int) + 1) (k + 1) := by
  rcases h with ⟨_, h⟩ | ⟨h, _⟩
  · exact .inl ⟨hk, zip_more (beg_zero text ent) h hf⟩
  · omega
theorem come_same {text : List Int} {ent : Int} {L : List Rel} {fr : Int} {k : Nat} (h : Come text ent L fr k) (hk : k + 1 < text.length) (hf : begF text ent ((k : Int) + 1) = false) : Come text ent L fr (k + 1) := by
  rcases h with ⟨_, h⟩ | ⟨h, _⟩
  · exact .inl ⟨hk, zip_same h hf⟩
  · omega
set_option maxRecDepth 100000 in
set_option maxHeartbeats 4000000 in
theorem refblocks_any (A1 A2 : Option Addr) (c1 ml c2 : Nat) (ent : Int) (text : List Int) (w : World) (hT : IntsAt w A1 .u32 text) (hR : ∀ i, i < text.length → 0 ≤ nth text i ∧ nth text i < 4294967296) (hM : MayI text ml ent) :
    Calls Tryz.prog 27 #[.agg #[.slice A1 text.length c1, .int .i64 ent, .slice A2 ml c2]] w (RelP (blkL text ent) w) := by
  obtain ⟨iB, hi, hz0, hz1, hz2⟩ := infoB
  have hl : text.length ≤ 16384 := hM.past.len
  have hpos : 0 < text.length := hM.past.pos
  obtain ⟨W, HW⟩ : ∃ W, Hid (w.alloc (.cells #[.slice A1 text.length c1, .int .i64 ent, .slice A2 ml c2] 25) = W) := ⟨_, rfl⟩
  have HB : Hid (Below w.heap.size w W) := by unfold Hid; rw [← HW.out]; exact lb_alloc (Below.refl _ _) _
  have i0 : W.cell? ⟨w.heap.size, 0, none⟩ = some (.slice A1 text.length c1) := by rw [← HW.out]; simp [go_sem]
  have i1 : W.cell? ⟨w.heap.size, 1, none⟩ = some (.int .i64 ent) := by rw [← HW.out]; simp [go_sem]
  have i2 : W.cell? ⟨w.heap.size, 2, none⟩ = some (.slice A2 ml c2) := by rw [← HW.out]; simp [go_sem]
  have hZ : w.heap.size < W.heap.size := by rw [← HW.out]; simp
  have C := refmark0_any A1 A2 c1 ml c2 ent text W (hT.keep HB.out) hR hM
  have HT : Hid (IntsAt w A1 .u32 text) := hT
  have HR : Hid _ := hR
  clear hT hR hM
  go_enter Tryz.func27, Tryz.ntmps27
  go_upto_region 2 with fail
  rw [HW.out]
  clear HW
  go_wp2_with fail
  refine C.mono ?_
  rintro e w1 ⟨g, rfl, hbls, hb1⟩
  have HB1 : Hid (Below w.heap.size w w1) := lb_trans HB.out hb1
  have HS1 : Hid (BlsAt w1 g text.length (labF text ent)) := hbls
  have HX1 : Hid (w1.cell? ⟨w.heap.size, 0, none⟩ = some (.slice A1 text.length c1)) := lkeep hb1 i0
  have HZ1 : Hid (w.heap.size < w1.heap.size) := Nat.lt_of_lt_of_le hZ hb1.size
  clear C hb1 hbls i0 i1 i2
  go_wp2
  go_loopw [3, 5, 6] (fun v fv i wr => ∃ (k : Nat) (O : Option Addr) (c : Nat) (L : List Rel) (fr : Int), i = .int .i64 ((k : Int) + 1) ∧ fv = .int .i64 fr ∧ v = .slice O L.length c ∧ k ≤ text.length ∧ Hid (Come text ent L fr k) ∧ Hid (wr.ownsRow (w.heap.size + 1) 67 2 v L.length (dNews L)) ∧ Hid (BlsAt wr g text.length (labF text ent)) ∧ Hid (Below (w.heap.size + 1) w1 wr)) (fun _ _ i _ => text.length + 1 - (intOf i).toNat)
  case atStart => exact ⟨0, none, 0, [], 0, rfl, rfl, rfl, Nat.zero_le _, come_zero text ent hpos, World.ownsRow_nil _ _ _ _, HS1, Below.refl _ _⟩
  case round =>
    clear HS1
    obtain ⟨k, O, c, L, fr, rfl, rfl, rfl, hk, HC, HRw, HS, HBr⟩ := hrel
    have x0 : wr.cell? ⟨w.heap.size, 0, none⟩ = some (.slice A1 text.length c1) := by rw [HBr.out.cell (p := ⟨w.heap.size, 0, none⟩) (Nat.lt_succ_self _)]; exact HX1.out
    have HBw : Hid (Below w.heap.size w wr) := HB1.out.trans (HBr.out.mono (Nat.le_succ _))
    have HQ : Hid (w.heap.size + 1 ≤ wr.heap.size) := Nat.le_trans HZ1.out HBr.out.size
    by_cases hlt : k < text.length
    · have hLl := come_len HC.out hlt
      obtain ⟨a, rfl, q⟩ := (HT.out.keep HBw.out) k hlt
      by_cases he : k + 1 = text.length
      · have he' : ((k : Int) + 1 == (text.length : Int)) = true := by rw [beq_iff_eq]; omega
        have HC2 : Hid (Come text ent (L ++ [(fr, (k : Int) + 1)]) ((k : Int) + 1) (k + 1)) := come_end HC.out he
        have HBx : Hid (Below wr.heap.size wr (wr.alloc (.cells #[.int .i64 fr, .int .i64 ((k : Int) + 1)] 67))) := lb_alloc (Below.refl _ _) _; have HBa : Hid (Below (w.heap.size + 1) w1 (wr.alloc (.cells #[.int .i64 fr, .int .i64 ((k : Int) + 1)] 67))) := HBr.out.trans (HBx.out.mono HQ.out); have HQa : Hid (w.heap.size + 1 ≤ (wr.alloc (.cells #[.int .i64 fr, .int .i64 ((k : Int) + 1)] 67)).heap.size) := Nat.le_trans HQ.out HBx.out.size; have HRa : Hid ((wr.alloc (.cells #[.int .i64 fr, .int .i64 ((k : Int) + 1)] 67)).ownsRow (w.heap.size + 1) 67 2 (.slice O L.length c) L.length (dNews L)) := row_keep HRw.out HBx.out; have HSa : Hid (BlsAt (wr.alloc (.cells #[.int .i64 fr, .int .i64 ((k : Int) + 1)] 67)) g text.length (labF text ent)) := HS.out.keep HBx.out
        clear he
        go_upto_region 6 with (at_builtin; go_loud (refine wpList_append_own _ rfl (.tmp 36) (.tmp 40) 60 rfl (w.heap.size + 1) 67 iB (.agg #[.int .i64 0, .int .i64 0]) 2 16 Tryz.underlying60 hi hz0 hz1 hz2 rfl (by decide) (.slice O L.length c) L.length (dNews L) rfl HRa.out ⟨wr.heap.size, 0, none⟩ 1 1 [.int .i64 fr, .int .i64 ((k : Int) + 1)] rfl rfl (fun j u hu => World.news_of_block (newAtK rfl) j u hu) two_oneI (by unfold maxLen; omega) (by omega) HQa.out ?_; intro v3 w4 hown hgrow _; have HR3 : Hid (w4.ownsRow (w.heap.size + 1) 67 2 v3 (L ++ [(fr, (k : Int) + 1)]).length (dNews (L ++ [(fr, (k : Int) + 1)]))) := (by rw [Hid, dNews_snoc, List.length_append]; exact hown); have HB3 : Hid (Below (w.heap.size + 1) w1 w4) := HBa.out.grown hgrow HQa.out (fun b hb => (HRa.out.lt b hb).1); have HS4 : Hid (BlsAt w4 g text.length (labF text ent)) := HSa.out.kept HRa.out (by decide) hgrow; clear hown hgrow))
        obtain ⟨A5, c5, e5⟩ := own_sl HR3.out
        subst e5
        go_wp2
        go_roundw
        case rel => exact ⟨k + 1, A5, c5, _, _, by go_num, rfl, rfl, by omega, HC2, HR3, HS4, HB3⟩
        case measure => simp [intOf]; omega
      · have he' : ((k : Int) + 1 == (text.length : Int)) = false := by rw [beq_eq_false_iff_ne]; omega
        have hlt2 : (k : Int) + 1 < (text.length : Int) := by omega
        have hlt3 : k + 1 < text.length := by omega
        have s0 := HS.out.cellN hlt3
        rw [show (((k + 1 : Nat)) : Int) = (k : Int) + 1 by omega] at s0
        clear he
        cases hb : labF text ent ((k : Int) + 1) with
        | true =>
          have HC2 : Hid (Come text ent (L ++ [(fr, (k : Int) + 1)]) ((k : Int) + 1) (k + 1)) := come_more HC.out hlt3 (beg_lab hb)
          rw [hb] at s0
          clear hb
          have HBx : Hid (Below wr.heap.size wr (wr.alloc (.cells #[.int .i64 fr, .int .i64 ((k : Int) + 1)] 67))) := lb_alloc (Below.refl _ _) _; have HBa : Hid (Below (w.heap.size + 1) w1 (wr.alloc (.cells #[.int .i64 fr, .int .i64 ((k : Int) + 1)] 67))) := HBr.out.trans (HBx.out.mono HQ.out); have HQa : Hid (w.heap.size + 1 ≤ (wr.alloc (.cells #[.int .i64 fr, .int .i64 ((k : Int) + 1)] 67)).heap.size) := Nat.le_trans HQ.out HBx.out.size; have HRa : Hid ((wr.alloc (.cells #[.int .i64 fr, .int .i64 ((k : Int) + 1)] 67)).ownsRow (w.heap.size + 1) 67 2 (.slice O L.length c) L.length (dNews L)) := row_keep HRw.out HBx.out; have HSa : Hid (BlsAt (wr.alloc (.cells #[.int .i64 fr, .int .i64 ((k : Int) + 1)] 67)) g text.length (labF text ent)) := HS.out.keep HBx.out
          go_upto_region 6 with (at_builtin; go_loud (refine wpList_append_own _ rfl (.tmp 36) (.tmp 40) 60 rfl (w.heap.size + 1) 67 iB (.agg #[.int .i64 0, .int .i64 0]) 2 16 Tryz.underlying60 hi hz0 hz1 hz2 rfl (by decide) (.slice O L.length c) L.length (dNews L) rfl HRa.out ⟨wr.heap.size, 0, none⟩ 1 1 [.int .i64 fr, .int .i64 ((k : Int) + 1)] rfl rfl (fun j u hu => World.news_of_block (newAtK rfl) j u hu) two_oneI (by unfold maxLen; omega) (by omega) HQa.out ?_; intro v3 w4 hown hgrow _; have HR3 : Hid (w4.ownsRow (w.heap.size + 1) 67 2 v3 (L ++ [(fr, (k : Int) + 1)]).length (dNews (L ++ [(fr, (k : Int) + 1)]))) := (by rw [Hid, dNews_snoc, List.length_append]; exact hown); have HB3 : Hid (Below (w.heap.size + 1) w1 w4) := HBa.out.grown hgrow HQa.out (fun b hb => (HRa.out.lt b hb).1); have HS4 : Hid (BlsAt w4 g text.length (labF text ent)) := HSa.out.kept HRa.out (by decide) hgrow; clear hown hgrow))
          obtain ⟨A5, c5, e5⟩ := own_sl HR3.out
          subst e5
          go_wp2
          go_roundw
          case rel => exact ⟨k + 1, A5, c5, _, _, by go_num, rfl, rfl, by omega, HC2, HR3, HS4, HB3⟩
          case measure => simp [intOf]; omega
        | false =>
          have HF : Hid (begF text ent ((k : Int) + 1) = endsB (dOp (nth text k))) := by rw [Hid, beg_succ hlt, hb, Bool.false_or]
          rw [hb] at s0
          clear hb
          obtain ⟨hv0, hv1⟩ := HR.out k hlt
          have C := refends_any (nth text k) hv0 hv1 wr
          generalize nth text k = v at *
          generalize endsB (dOp v) = t at *
          cases t with
          | true =>
            have HC2 : Hid (Come text ent (L ++ [(fr, (k : Int) + 1)]) ((k : Int) + 1) (k + 1)) := come_more HC.out hlt3 HF.out
            go_upto_region 6 with (first
              | (go_at_call 14; refine C.mono ?_; rintro e w5 ⟨rfl, hb5⟩; have HBx : Hid (Below wr.heap.size wr (w5.alloc (.cells #[.int .i64 fr, .int .i64 ((k : Int) + 1)] 67))) := lb_alloc hb5 _; have HBa : Hid (Below (w.heap.size + 1) w1 (w5.alloc (.cells #[.int .i64 fr, .int .i64 ((k : Int) + 1)] 67))) := HBr.out.trans (HBx.out.mono HQ.out); have HQa : Hid (w.heap.size + 1 ≤ (w5.alloc (.cells #[.int .i64 fr, .int .i64 ((k : Int) + 1)] 67)).heap.size) := Nat.le_trans HQ.out HBx.out.size; have HRa : Hid ((w5.alloc (.cells #[.int .i64 fr, .int .i64 ((k : Int) + 1)] 67)).ownsRow (w.heap.size + 1) 67 2 (.slice O L.length c) L.length (dNews L)) := row_keep HRw.out HBx.out; have HSa : Hid (BlsAt (w5.alloc (.cells #[.int .i64 fr, .int .i64 ((k : Int) + 1)] 67)) g text.length (labF text ent)) := HS.out.keep HBx.out)
              | (at_builtin; go_loud (refine wpList_append_own _ rfl (.tmp 36) (.tmp 40) 60 rfl (w.heap.size + 1) 67 iB (.agg #[.int .i64 0, .int .i64 0]) 2 16 Tryz.underlying60 hi hz0 hz1 hz2 rfl (by decide) (.slice O L.length c) L.length (dNews L) rfl HRa.out ⟨w5.heap.size, 0, none⟩ 1 1 [.int .i64 fr, .int .i64 ((k : Int) + 1)] rfl rfl (fun j u hu => World.news_of_block (newAtK rfl) j u hu) two_oneI (by unfold maxLen; omega) (by omega) HQa.out ?_; intro v3 w4 hown hgrow _; have HR3 : Hid (w4.ownsRow (w.heap.size + 1) 67 2 v3 (L ++ [(fr, (k : Int) + 1)]).length (dNews (L ++ [(fr, (k : Int) + 1)]))) := (by rw [Hid, dNews_snoc, List.length_append]; exact hown); have HB3 : Hid (Below (w.heap.size + 1) w1 w4) := HBa.out.grown hgrow HQa.out (fun b hb => (HRa.out.lt b hb).1); have HS4 : Hid (BlsAt w4 g text.length (labF text ent)) := HSa.out.kept HRa.out (by decide) hgrow; clear hown hgrow)))
            obtain ⟨A5, c5, e5⟩ := own_sl HR3.out
            subst e5
            go_wp2
            go_roundw
            case rel => exact ⟨k + 1, A5, c5, _, _, by go_num, rfl, rfl, by omega, HC2, HR3, HS4, HB3⟩
            case measure => simp [intOf]; omega
          | false =>
            have HC2 : Hid (Come text ent L fr (k + 1)) := come_same HC.out hlt3 HF.out
            go_wp2_with (go_at_call 14; refine C.mono ?_; rintro e w5 ⟨rfl, hb5⟩)
            go_roundw
            case rel => exact ⟨k + 1, O, c, _, _, by go_num, rfl, rfl, by omega, HC2, row_keep HRw.out hb5, HS.out.keep hb5, HBr.out.trans (hb5.mono HQ.out)⟩
            case measure => simp [intOf]; omega
    · obtain rfl : k = text.length := by omega
      have HL : Hid (L = blkL text ent) := by
        rcases HC.out with ⟨h, _⟩ | ⟨_, h⟩
        · omega
        · exact h
      go_wp2
      go_ret
      refine ⟨O, c, by rw [← HL.out]; rfl, by rw [← HL.out]; exact drow_rels HRw.out, HBw.out⟩



end Go.Proofs.YtfnicgihpelhhaaGreat
