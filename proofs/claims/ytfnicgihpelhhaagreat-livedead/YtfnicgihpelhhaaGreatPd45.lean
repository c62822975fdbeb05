/-
  leaping of package live: the blocks that end in Calls or Go, rising; images of at most 1048576 words. flow of package live: the edges, and the hub behind them. Back of package edge, by what it answers; at most 65536 lists, each of at most 65536 numbers. The document on what a word reads and writes; each word is of 32 bits.
-/
import Derived.Test.YtfnicgihpelhhaaGreatProg
import Derived.WalkKit
import Derived.WalkSpells
import Derived.WalkLawsBesides
import Derived.RowKit3
import Derived.Below
import Derived.Deep.QuietTactic
import Derived.BigQuiet
import Derived.WalkSmall
import Derived.Laws.Rows
import Derived.Test.YtfnicgihpelhhaaGreatPd20
import Derived.Test.YtfnicgihpelhhaaGreatPd36
import Derived.Test.YtfnicgihpelhhaaGreatPd22
import Derived.Test.YtfnicgihpelhhaaGreatPd16
import Derived.Test.YtfnicgihpelhhaaGreatPd14
import Derived.Test.YtfnicgihpelhhaaGreatPd17
import Derived.Test.YtfnicgihpelhhaaGreatPd42
import Derived.Test.YtfnicgihpelhhaaGreatPd44
import Derived.Test.YtfnicgihpelhhaaGreatPd33
import Derived.WalkMore
import Derived.Deep.RegionHeld3
import Derived.Test.YtfnicgihpelhhaaGreatPd04
import Derived.Test.YtfnicgihpelhhaaGreatPd09
namespace Go.Proofs.YtfnicgihpelhhaaGreat
open Go.RowKit

set_option maxRecDepth 100000 in
set_option maxHeartbeats 4000000 in
theorem leaping_any (A1 A2 B : Option Addr) (c1 ml c2 cB : Nat) (ent : Int) (text : List Int) (w : World) (hT : IntsAt w A1 .u32 text) (hR : ∀ i, i < text.length → 0 ≤ nth text i ∧ nth text i < 4294967296) (hl : text.length ≤ 1048576) (hB : RelsAt w B (blkL text ent)) :
    Calls Tryz.prog 74 #[.agg #[.slice A1 text.length c1, .int .i64 ent, .slice A2 ml c2], .slice B (blkL text ent).length cB] w (RowP (lpL text ent) w) := by
  obtain ⟨iI, hi, hz0, hz1, hz2⟩ := infoI
  have hLt := blk_len_le text ent
  obtain ⟨W, HW⟩ : ∃ W, Hid (w.alloc (.cells #[.slice A1 text.length c1, .int .i64 ent, .slice A2 ml c2] 25) = W) := ⟨_, rfl⟩
  have HB : Hid (Below w.heap.size w W) := by unfold Hid; rw [← HW.out]; exact lb_alloc (Below.refl _ _) _
  have i0 : Hid (W.cell? ⟨w.heap.size, 0, none⟩ = some (.slice A1 text.length c1)) := by unfold Hid; rw [← HW.out]; simp [go_sem]
  have HT : Hid (IntsAt W A1 .u32 text) := hT.keep HB.out
  have HR : Hid (∀ i, i < text.length → 0 ≤ nth text i ∧ nth text i < 4294967296) := hR
  have HRl : Hid (RelsAt W B (blkL text ent)) := hB.keep HB.out
  have HLn : Hid (∀ k, (plcT (lpF text ent) k).length ≤ k) := fun k => plcT_len _ k
  clear hT hR hB
  go_enter Tryz.func74, Tryz.ntmps74
  go_upto_region 1 with fail
  rw [HW.out]
  clear HW
  go_wp2
  go_loopw [5, 10] (fun v i wr => ∃ (k : Nat) (O : Option Addr) (c : Nat), i = .int .i64 k ∧ v = .slice O (plcT (lpF text ent) k).length c ∧ k ≤ (blkL text ent).length ∧ Hid (wr.ownsRow W.heap.size 3 1 v (plcT (lpF text ent) k).length (iVals .i64 (plcT (lpF text ent) k))) ∧ Hid (Below W.heap.size W wr)) (fun _ i _ => (blkL text ent).length - (intOf i).toNat)
  case atStart => exact ⟨0, none, 0, rfl, rfl, Nat.zero_le _, World.ownsRow_nil _ _ _ _, Below.refl _ _⟩
  case round =>
    obtain ⟨k, O, c, rfl, rfl, hk, HRw, HBr⟩ := hrel
    have hpl := HLn.out k
    by_cases hlt : k < (blkL text ent).length
    · have hlt' : (k : Int) < ((blkL text ent).length : Int) := by omega
      obtain ⟨b, eb, q0, q1⟩ := HRl.out k hlt
      subst eb
      have t0 := lkeep HBr.out q0
      have t1 : wr.cell? ⟨(b.add (k * 2)).block, (b.add (k * 2)).off + 1, none⟩ = some (.int .i64 (rSym (blkL text ent) k)) := lkeep HBr.out q1
      clear q0 q1
      obtain ⟨V, HV⟩ : ∃ V, Hid (wr.alloc (.cells #[.int .i64 (rAt (blkL text ent) k), .int .i64 (rSym (blkL text ent) k)] 67) = V) := ⟨_, rfl⟩
      have HBV : Hid (Below wr.heap.size wr V) := by unfold Hid; rw [← HV.out]; exact lb_alloc (Below.refl _ _) _
      have HBx : Hid (Below W.heap.size W V) := lb_trans HBr.out HBV.out
      have b1 : V.cell? ⟨wr.heap.size, 1, none⟩ = some (.int .i64 (rSym (blkL text ent) k)) := by rw [← HV.out]; simp [go_sem]
      obtain ⟨p, hpl', hpe, hlw⟩ := last_at hlt
      obtain ⟨a, ea, tv⟩ := (HT.out.keep HBx.out) p hpl'
      subst ea
      have hv := HR.out p hpl'
      have x0 := lkeep HBx.out i0.out
      have HLb : Hid (lpF text ent (k : Int) = (dOp (lastW text ent k) == 18 || dOp (lastW text ent k) == 19)) := lpF_at text ent k
      have HRV : Hid (V.ownsRow W.heap.size 3 1 (.slice O (plcT (lpF text ent) k).length c) (plcT (lpF text ent) k).length (iVals .i64 (plcT (lpF text ent) k))) := row_keep HRw.out HBV.out
      rw [← hlw] at tv hv
      rw [hpe] at b1
      have CD := fun wx => isadecode_any (lastW text ent k) hv.1 hv.2 wx
      have hwr : IntKind.i64.wrap ((p : Int) + 1 - 1) = (p : Int) := by rw [IntKind.wrap_i64]; omega
      have hwr2 : IntKind.i64.wrap (p : Int) = (p : Int) := by rw [IntKind.wrap_i64]; omega
      have p1 : (p : Int) < (text.length : Int) := by omega
      clear hlw hv
      have HPe : Hid (rSym (blkL text ent) k = (p : Int) + 1) := hpe
      clear hpe
      go_upto_region 5 with fail
      rw [HV.out]
      clear HV t0 t1
      generalize dOp (lastW text ent k) = op at *
      generalize dD (lastW text ent k) = dd at *
      generalize dA (lastW text ent k) = da at *
      generalize dB (lastW text ent k) = db at *
      generalize dN (lastW text ent k) = dn at *
      generalize lastW text ent k = v at *
      go_upto_region 6 with (go_at_call 36; refine (CD _).mono ?_; rintro r w4 ⟨rfl, hb4⟩; have HB4 : Hid (Below W.heap.size W w4) := lb_trans HBx.out hb4; have HR4 : Hid (w4.ownsRow W.heap.size 3 1 (.slice O (plcT (lpF text ent) k).length c) (plcT (lpF text ent) k).length (iVals .i64 (plcT (lpF text ent) k))) := row_keep HRV.out hb4; clear hb4)
      clear CD tv b1 x0 HRw HBr HRV HBV HBx
      by_cases h18 : op = 18
      · subst h18
        have HP : Hid (plcT (lpF text ent) (k + 1) = plcT (lpF text ent) k ++ [(k : Int)]) := plcT_yes (by rw [HLb.out]; rfl)
        have HBa : Hid (Below W.heap.size W (w4.alloc (.cells #[.int .i64 (k : Int)] 3))) := lb_alloc HB4.out _
        have HRa : Hid ((w4.alloc (.cells #[.int .i64 (k : Int)] 3)).ownsRow W.heap.size 3 1 (.slice O (plcT (lpF text ent) k).length c) (plcT (lpF text ent) k).length (iVals .i64 (plcT (lpF text ent) k))) := row_keep HR4.out (lb_alloc (Below.refl _ _) _)
        generalize plcT (lpF text ent) k = P at *
        go_upto_region 9 with (at_builtin; go_loud (refine wpList_append_own _ rfl (.tmp 27) (.tmp 29) 72 rfl W.heap.size 3 iI (.int .i64 0) 1 8 Tryz.underlying72 hi hz0 hz1 hz2 rfl (by decide) (.slice O P.length c) P.length (iVals .i64 P) rfl HRa.out ⟨w4.heap.size, 0, none⟩ 1 1 [.int .i64 (k : Int)] rfl rfl (fun j u hu => World.news_of_block (newAtK (by simp)) j u hu) one_oneI (by unfold maxLen; omega) (by omega) HBa.out.size ?_; intro v3 w5 hown hgrow _; have HR3 : Hid (w5.ownsRow W.heap.size 3 1 v3 (plcT (lpF text ent) (k + 1)).length (iVals .i64 (plcT (lpF text ent) (k + 1)))) := (by rw [Hid, HP.out, iVals_snoc, List.length_append]; exact hown); have HB3 : Hid (Below W.heap.size W w5) := HBa.out.grown hgrow HBa.out.size (fun b hb => (HRa.out.lt b hb).1); clear hown hgrow))
        obtain ⟨A5, c5, e5⟩ := own_sl HR3.out
        subst e5
        go_wp2
        go_roundw
        case rel => exact ⟨k + 1, A5, c5, by go_num, rfl, by omega, HR3, HB3⟩
        case measure => simp [intOf]; omega
      · by_cases h19 : op = 19
        · subst h19
          have HP : Hid (plcT (lpF text ent) (k + 1) = plcT (lpF text ent) k ++ [(k : Int)]) := plcT_yes (by rw [HLb.out]; rfl)
          have HBa : Hid (Below W.heap.size W (w4.alloc (.cells #[.int .i64 (k : Int)] 3))) := lb_alloc HB4.out _
          have HRa : Hid ((w4.alloc (.cells #[.int .i64 (k : Int)] 3)).ownsRow W.heap.size 3 1 (.slice O (plcT (lpF text ent) k).length c) (plcT (lpF text ent) k).length (iVals .i64 (plcT (lpF text ent) k))) := row_keep HR4.out (lb_alloc (Below.refl _ _) _)
          generalize plcT (lpF text ent) k = P at *
          go_upto_region 9 with (at_builtin; go_loud (refine wpList_append_own _ rfl (.tmp 27) (.tmp 29) 72 rfl W.heap.size 3 iI (.int .i64 0) 1 8 Tryz.underlying72 hi hz0 hz1 hz2 rfl (by decide) (.slice O P.length c) P.length (iVals .i64 P) rfl HRa.out ⟨w4.heap.size, 0, none⟩ 1 1 [.int .i64 (k : Int)] rfl rfl (fun j u hu => World.news_of_block (newAtK (by simp)) j u hu) one_oneI (by unfold maxLen; omega) (by omega) HBa.out.size ?_; intro v3 w5 hown hgrow _; have HR3 : Hid (w5.ownsRow W.heap.size 3 1 v3 (plcT (lpF text ent) (k + 1)).length (iVals .i64 (plcT (lpF text ent) (k + 1)))) := (by rw [Hid, HP.out, iVals_snoc, List.length_append]; exact hown); have HB3 : Hid (Below W.heap.size W w5) := HBa.out.grown hgrow HBa.out.size (fun b hb => (HRa.out.lt b hb).1); clear hown hgrow))
          obtain ⟨A5, c5, e5⟩ := own_sl HR3.out
          subst e5
          go_wp2
          go_roundw
          case rel => exact ⟨k + 1, A5, c5, by go_num, rfl, by omega, HR3, HB3⟩
          case measure => simp [intOf]; omega
        · have e1 : (op == 18) = false := by simpa using h18
          have e2 : (op == 19) = false := by simpa using h19
          have HP : Hid (plcT (lpF text ent) (k + 1) = plcT (lpF text ent) k) := plcT_no (by rw [HLb.out, e1, e2]; rfl)
          clear h18 h19
          go_wp2
          go_roundw
          case rel => exact ⟨k + 1, O, c, by go_num, by rw [HP.out], by omega, by rw [HP.out]; exact HR4, HB4⟩
          case measure => simp [intOf]; omega
    · obtain rfl : k = (blkL text ent).length := by omega
      go_wp2
      go_ret
      exact ⟨O, c, rfl, ownsRow_mono HRw.out HB.out.size, lb_trans HB.out HBr.out⟩

end Go.Proofs.YtfnicgihpelhhaaGreat

namespace Go.Proofs.YtfnicgihpelhhaaGreat
open Go.RowKit

theorem made_one {w : World} {base : Nat} (hb : base ≤ w.heap.size) (x : Int) : (w.alloc (.cells #[.int .i64 x] 3)).ownsRow base 3 1 (.slice (some ⟨w.heap.size, 0, none⟩) 1 1) [x].length (iVals .i64 [x]) :=
  ⟨rfl, .inr ⟨w.heap.size, 1, #[.int .i64 x], rfl, hb, heap_alloc_new _ _, Nat.le_refl _, by unfold maxLen; omega, rfl, rfl⟩⟩
set_option maxRecDepth 100000 in
set_option maxHeartbeats 8000000 in
theorem lflow_any (a : Addr) (A2 B : Option Addr) (c1 ml c2 cB : Nat) (ent : Int) (text : List Int) (w : World) (hT : IntsAt w (some a) .u32 text) (hR : ∀ i, i < text.length → 0 ≤ nth text i ∧ nth text i < 4294967296) (hM : MayI text ml ent) (hB : RelsAt w B (blkL text ent)) :
    Calls Tryz.prog 49 #[.agg #[.slice (some a) text.length c1, .int .i64 ent, .slice A2 ml c2], .slice B (blkL text ent).length cB] w (LfP text ent w) := by
  obtain ⟨iZ, hi, hz0, hz1, hz2⟩ := infoZ
  have hl4 : text.length ≤ 16384 := hM.past.len
  have hml : ml ≤ 4096 := hM.past.mem
  have hLt := blk_len_le text ent
  have hLl : (lpL text ent).length ≤ (blkL text ent).length := plcT_len _ _
  obtain ⟨W, HW⟩ : ∃ W, Hid (w.alloc (.cells #[.slice (some a) text.length c1, .int .i64 ent, .slice A2 ml c2] 25) = W) := ⟨_, rfl⟩
  have HB : Hid (Below w.heap.size w W) := by unfold Hid; rw [← HW.out]; exact lb_alloc (Below.refl _ _) _
  have i0 : W.cell? ⟨w.heap.size, 0, none⟩ = some (.slice (some a) text.length c1) := by rw [← HW.out]; simp [go_sem]
  have i1 : W.cell? ⟨w.heap.size, 1, none⟩ = some (.int .i64 ent) := by rw [← HW.out]; simp [go_sem]
  have i2 : W.cell? ⟨w.heap.size, 2, none⟩ = some (.slice A2 ml c2) := by rw [← HW.out]; simp [go_sem]
  have C1 := leaping_any (some a) A2 B c1 ml c2 cB ent text W (hT.keep HB.out) hR (by omega) (hB.keep HB.out)
  have C2 := fun (Ls : Option Addr) (cL : Nat) (wx : World) (hx : Below w.heap.size w wx) (h1 : IntsAt wx Ls .i64 (lpL text ent)) (h2 : (lpL text ent).length ≤ cL) => onel_any a A2 B Ls c1 ml c2 cB cL ent text wx (hT.keep hx) hR (by omega) hM.past.pos (hB.keep hx) h1 h2
  have C3 := fun (g cap : Nat) (T : List Int) (wx : World) (h1 : IntsAt wx (some ⟨g, 0, none⟩) .u32 T) (h2 : OneL text T) => edges_own (some ⟨g, 0, none⟩) A2 cap ml c2 ent T wx h1 (h2.range hR) (by rw [h2.len]; omega) (by omega) (by rw [may_zero (h2.may hM)])
  clear hT hR hB hM
  go_enter Tryz.func49, Tryz.ntmps49
  go_upto_region 1 with fail
  rw [HW.out]
  clear HW
  go_upto_region 2 with (go_at_call 74; refine C1.mono ?_; rintro e w1 ⟨Ls, cL, rfl, ho1, hb1⟩; have HL1 : Hid (IntsAt w1 Ls .i64 (lpL text ent)) := row_ints ho1; have HC1 : Hid ((lpL text ent).length ≤ cL) := own_cap ho1; have HB1 : Hid (Below w.heap.size w w1) := lb_trans HB.out hb1; have j0 := lkeep hb1 i0; have j1 := lkeep hb1 i1; have j2 := lkeep hb1 i2; clear ho1 hb1 i0 i1 i2)
  clear C1
  go_upto_region 3 with (first
    | (go_at_call 76; refine (C2 _ _ _ HB1.out HL1.out HC1.out).mono ?_; rintro e w2 ⟨gT, capT, T, rfl, hT2, hJ2, hb2⟩; have HT2 : Hid (IntsAt w2 (some ⟨gT, 0, none⟩) .u32 T) := hT2; have HJ2 : Hid (OneJ text ent T ((lpL text ent).length - 1)) := hJ2; have HB2 : Hid (Below w.heap.size w w2) := lb_trans HB1.out hb2; have HL2 : Hid (IntsAt w2 Ls .i64 (lpL text ent)) := HL1.out.keep hb2; clear hT2 hJ2 hb2 j0 j1 j2)
    | (go_at_call 75; refine (C3 _ _ _ _ HT2.out HJ2.out.one).mono ?_; rintro e w3 ⟨g3, vs3, rfl, hr3, hg3, hb3⟩; rw [HJ2.out.one.blk] at hr3 ⊢; have HR3 : Hid (RowsW w3 g3 g3 (blkL text ent).length vs3 (edgT T ent (blkL text ent).length)) := hr3; have HG3 : Hid (w2.heap.size ≤ g3) := hg3; have HB3 : Hid (Below w2.heap.size w2 w3) := hb3; clear hr3 hg3 hb3))
  clear C2 C3
  have HEl : Hid ((edgT T ent (blkL text ent).length).length = (blkL text ent).length) := edgT_len _ _ _
  have HZ3 : Hid (RowsZ w3 g3 (.slice (some ⟨g3, 0, none⟩) (blkL text ent).length (blkL text ent).length) vs3 (edgT T ent (blkL text ent).length)) := by
    have := HR3.out.rows
    rw [HEl.out] at this
    exact this
  have HZa : Hid (RowsZ (w3.alloc (.cells #[.slice none 0 0] 72)) g3 (.slice (some ⟨g3, 0, none⟩) (blkL text ent).length (blkL text ent).length) vs3 (edgT T ent (blkL text ent).length)) := HZ3.out.keep (lb_alloc (Below.refl _ _) _)
  have HRa : Hid ((w3.alloc (.cells #[.slice none 0 0] 72)).ownsRow g3 72 1 (.slice (some ⟨g3, 0, none⟩) (blkL text ent).length (blkL text ent).length) (blkL text ent).length vs3) := by
    have := HZa.out.bag
    rw [HEl.out] at this
    exact this
  have HBa : Hid (Below w2.heap.size w2 (w3.alloc (.cells #[.slice none 0 0] 72))) := lb_alloc HB3.out _
  have HGa : Hid (g3 ≤ (w3.alloc (.cells #[.slice none 0 0] 72)).heap.size) := by
    have := HR3.out.lt
    unfold Hid
    simp
    omega
  have HM0 : Hid (0 < (lpL text ent).length → FlJ text ent T ((edgT T ent (blkL text ent).length ++ [[]]).set (blkL text ent).length (rowZ (edgT T ent (blkL text ent).length) (nth (lpL text ent) 0).toNat)) 0) := FlJ.start1
  have HM1 : Hid (¬ 0 < (lpL text ent).length → FlJ text ent T (edgT T ent (blkL text ent).length ++ [[]]) 0) := FlJ.start0
  have HMk : Hid (∀ wx A c vs M, RowsZ wx g3 (.slice A ((blkL text ent).length + 1) c) vs M → FlJ text ent T M (lpL text ent).length → Below w2.heap.size w2 wx → LfP text ent w (.returned (.slice A ((blkL text ent).length + 1) c)) wx) := fun wx A c vs M h1 h2 h3 => LfP.mk (by omega) h1 h2 HJ2.out (lb_trans HB2.out h3)
  have HLp : Hid (∀ t, t < (lpL text ent).length → ∃ k : Nat, k < (blkL text ent).length ∧ nth (lpL text ent) t = (k : Int)) := fun t ht => by
    obtain ⟨k, h1, h2, _⟩ := lp_at ht
    exact ⟨k, h1, h2⟩
  have HFs : Hid (∀ M j, FlJ text ent T M j → j < (lpL text ent).length → FlJ text ent T (M.set (nth (lpL text ent) j).toNat [((blkL text ent).length : Int)]) (j + 1)) := fun M j h hj => h.step hj
  have HFl : Hid (∀ M j, FlJ text ent T M j → M.length = (blkL text ent).length + 1) := fun M j h => h.len
  have HRw : Hid (∀ k : Nat, k < (blkL text ent).length → rowZ (edgT T ent (blkL text ent).length ++ [[]]) k = rowZ (edgT T ent (blkL text ent).length) k) := fun k hk => rowZ_left (by rw [HEl.out]; exact hk)
  clear HZ3 HR3 HT2 HJ2
  generalize edgT T ent (blkL text ent).length = E at *
  go_upto_region 5 with (at_builtin; go_loud (refine wpList_append_own _ rfl (.tmp 24) (.tmp 25) 70 rfl g3 72 iZ (.slice none 0 0) 1 24 Tryz.underlying70 hi hz0 hz1 hz2 rfl (by decide) (.slice (some ⟨g3, 0, none⟩) (blkL text ent).length (blkL text ent).length) (blkL text ent).length vs3 rfl HRa.out ⟨w3.heap.size, 0, none⟩ 1 1 [.slice none 0 0] rfl rfl (fun j u hu => World.news_of_block (newAtK (by simp)) j u hu) one_slice (by unfold maxLen; omega) (by omega) HGa.out ?_; intro v4 w4 hown hgrow hnil))
  obtain ⟨g4, c4, rfl, HO4⟩ : ∃ g4 c4, v4 = .slice (some ⟨g4, 0, none⟩) ((blkL text ent).length + 1) c4 ∧ Hid (w4.ownsRow g3 72 1 (.slice (some ⟨g4, 0, none⟩) ((blkL text ent).length + 1) c4) ((blkL text ent).length + 1) (vs3 ++ [.slice none 0 0])) := by
    rcases hown.2 with ⟨e, h0⟩ | ⟨g4, c4, cur, e, _⟩
    · omega
    · exact ⟨g4, c4, e, by rw [← e]; exact hown⟩
  have HZ4 : Hid (RowsZ w4 g3 (.slice (some ⟨g4, 0, none⟩) ((blkL text ent).length + 1) c4) (vs3 ++ [.slice none 0 0]) (E ++ [[]])) := by
    refine RowsZ.add HZa.out (World.ownsRow_nil _ _ _ _) ?_ hgrow
    rw [HEl.out]
    exact HO4.out
  have HB4 : Hid (Below w2.heap.size w2 w4) := HBa.out.grown hgrow HBa.out.size (fun b hb => Nat.le_trans HG3.out (HRa.out.lt b hb).1)
  have HE4 : Hid ((E ++ [[]]).length = (blkL text ent).length + 1) := by unfold Hid; rw [List.length_append, HEl.out]; rfl
  have HG4 : Hid (w2.heap.size ≤ g4) := Nat.le_trans HG3.out (HZ4.out.box HE4.out).1
  clear hown hgrow hnil HZa HRa HBa HGa HO4 HG3 HB3
  obtain ⟨vs4, hvs4⟩ : ∃ vs4, vs3 ++ [Value.slice none 0 0] = vs4 := ⟨_, rfl⟩
  rw [hvs4] at HZ4
  clear hvs4
  by_cases h0 : 0 < (lpL text ent).length
  · obtain ⟨k0, hk0, ek0⟩ := HLp.out 0 h0
    obtain ⟨l0, el0, q0⟩ := (HL2.out.keep HB4.out) 0 h0
    subst el0
    rw [ek0] at q0
    have q0 : w4.cell? l0 = some (.int .i64 (k0 : Int)) := by simpa [Addr.add] using q0
    have hF := HM0.out h0
    rw [ek0, show ((k0 : Int)).toNat = k0 by omega] at hF
    have HF : Hid _ := hF
    have b0 := ((HZ4.out.box HE4.out).2 k0 (by omega)).1
    have b1 := ((HZ4.out.box HE4.out).2 (blkL text ent).length (by omega))
    have b2 := b1.1
    have b3 := b1.2
    have hrow := HZ4.out.row k0 (by rw [HE4.out]; omega)
    rw [HRw.out k0 hk0] at hrow
    have HP : Hid (RowsZ (w4.setCell ⟨g4, (blkL text ent).length, none⟩ (vn vs4 k0)) g3 (.slice (some ⟨g4, 0, none⟩) ((blkL text ent).length + 1) c4) (vs4.set (blkL text ent).length (vn vs4 k0)) ((E ++ [[]]).set (blkL text ent).length (rowZ E k0))) := HZ4.out.put HE4.out (by omega) hrow
    have HBp : Hid (Below w2.heap.size w2 (w4.setCell ⟨g4, (blkL text ent).length, none⟩ (vn vs4 k0))) := below_putZ HB4.out HG4.out
    have h0' : (0 : Int) < ((lpL text ent).length : Int) := by omega
    have hk0' : (k0 : Int) < ((blkL text ent).length : Int) := by omega
    obtain ⟨A5, c5, hu0⟩ := own_form hrow
    rw [hu0] at b0 HP HBp
    obtain ⟨vsp, hvs⟩ : ∃ vsp, vs4.set (blkL text ent).length (.slice A5 (rowZ E k0).length c5) = vsp := ⟨_, rfl⟩
    rw [hvs] at HP
    generalize (E ++ [[]]).set (blkL text ent).length (rowZ E k0) = Mp at *
    generalize (rowZ E k0).length = rn at *
    clear hu0 hvs hrow b1 HM0 HM1 HZ4 HRw ek0 hF
    go_upto_region 7 with fail
    go_wp2
    go_loopw [41] (fun i wr => ∃ (j : Nat) (vs : List Value) (M : List (List Int)), i = .int .i64 j ∧ j ≤ (lpL text ent).length ∧ Hid (RowsZ wr g3 (.slice (some ⟨g4, 0, none⟩) ((blkL text ent).length + 1) c4) vs M) ∧ Hid (FlJ text ent T M j) ∧ Hid (Below w2.heap.size w2 wr)) (fun i _ => (lpL text ent).length - (intOf i).toNat)
    case atStart => exact ⟨0, vsp, Mp, rfl, Nat.zero_le _, HP, HF, HBp⟩
    case round =>
      clear HP HF HBp b0 b2 b3 q0
      obtain ⟨j, vs, M, rfl, hj, HZ, HF, HBr⟩ := hrel
      by_cases hlt : j < (lpL text ent).length
      · have hlt' : (j : Int) < ((lpL text ent).length : Int) := by omega
        obtain ⟨k, hk, ek⟩ := HLp.out j hlt
        obtain ⟨l1, el1, q1⟩ := (HL2.out.keep HBr.out) j hlt
        obtain rfl := Option.some.inj el1
        rw [ek] at q1
        have HF2 : Hid (FlJ text ent T (M.set k [((blkL text ent).length : Int)]) (j + 1)) := by
          have := HFs.out M j HF.out hlt
          rw [ek, show ((k : Int)).toNat = k by omega] at this
          exact this
        have HMl : Hid (M.length = (blkL text ent).length + 1) := HFl.out M j HF.out
        have hk' : (k : Int) < ((blkL text ent).length : Int) := by omega
        clear ek
        have HZa : Hid (RowsZ (wr.alloc (.cells #[.int .i64 ((blkL text ent).length : Int)] 3)) g3 (.slice (some ⟨g4, 0, none⟩) ((blkL text ent).length + 1) c4) vs M) := HZ.out.keep (lb_alloc (Below.refl _ _) _)
        have HBa : Hid (Below w2.heap.size w2 (wr.alloc (.cells #[.int .i64 ((blkL text ent).length : Int)] 3))) := lb_alloc HBr.out _
        have b1 := (HZa.out.box HMl.out).2 k (by omega)
        have b2 := b1.1
        have b3 := b1.2
        have HgR : Hid (g3 ≤ wr.heap.size) := Nat.le_of_lt (Nat.lt_of_le_of_lt (HZ.out.box HMl.out).1 (World.block_lt_of_cell? _ _ ((HZ.out.box HMl.out).2 k (by omega)).1))
        have HRn : Hid ((wr.alloc (.cells #[.int .i64 ((blkL text ent).length : Int)] 3)).ownsRow g3 3 1 (.slice (some ⟨wr.heap.size, 0, none⟩) 1 1) [((blkL text ent).length : Int)].length (iVals .i64 [((blkL text ent).length : Int)])) := made_one HgR.out _
        clear b1
        go_wp2
        go_roundw
        case rel => exact ⟨j + 1, _, _, by go_num, by omega, HZa.out.put HMl.out (by omega) HRn.out, HF2, below_putZ HBa.out HG4.out⟩
        case measure => simp [intOf]; omega
      · obtain rfl : j = (lpL text ent).length := by omega
        have HE := HMk.out wr _ _ vs M HZ.out HF.out HBr.out
        have HE : Hid (LfP text ent w (.returned (.slice (some ⟨g4, 0, none⟩) ((blkL text ent).length + 1) c4)) wr) := HE
        go_wp2
        go_ret
        exact HE.out
  · have HF := HM1.out h0
    have hN : (lpL text ent).length = 0 := by omega
    rw [show (0 : Nat) = (lpL text ent).length from hN.symm] at HF
    have HE := HMk.out w4 _ _ vs4 _ HZ4.out HF HB4.out
    have HE : Hid (LfP text ent w (.returned (.slice (some ⟨g4, 0, none⟩) ((blkL text ent).length + 1) c4)) w4) := HE
    rw [hN]
    clear HF HMk HFs HFl HM0 HM1 HL2 hLl HC1 HLp hN h0
    go_wp2
    refine wp_loop_rounds 1 ?_
    rw [rounds_succ]
    go_wp2
    go_ret
    exact HE.out

end Go.Proofs.YtfnicgihpelhhaaGreat

namespace Go.Proofs.YtfnicgihpelhhaaGreat
open Go.RowKit

set_option maxHeartbeats 1000000 in
theorem endsin_any (R : Option Addr) (k : Nat) (l : List Int) (x : Int) (w : World) (hR : IntsAt w R .i64 l) (hl : l.length ≤ 1048576) :
    Calls Tryz.prog 73 #[.slice R l.length k, .int .i64 x] w fun e w' => e = .returned (.bool (endZ l x)) ∧ w' = w := by
  by_cases h0 : l.length = 0
  · have HE : Hid (endZ l x = false) := by
      unfold Hid endZ
      rw [decide_eq_false_iff_not]
      omega
    rw [h0]
    clear hR h0
    go_enter Tryz.func73, Tryz.ntmps73
    go_wp2
    go_ret
    exact ⟨by rw [HE.out]; rfl, rfl⟩
  · obtain ⟨m, hm⟩ : ∃ m, l.length = m + 1 := ⟨l.length - 1, by omega⟩
    obtain ⟨a, ea, q⟩ := hR m (by omega)
    subst ea
    have HE : Hid (endZ l x = (nth l m == x)) := by
      unfold Hid endZ
      rw [hm, show m + 1 - 1 = m by omega]
      by_cases e : nth l m = x
      · rw [e]; simp
      · rw [decide_eq_false (fun h => e h.2)]
        symm
        rw [beq_eq_false_iff_ne]
        exact e
    rw [hm]
    have hg : (0 : Int) < (m : Int) + 1 := by omega
    have hmb : (m : Int) ≤ 1048576 := by omega
    have hz : (m : Int) + 1 - 1 = (m : Int) := by omega
    clear hR h0 hm
    generalize nth l m = y at *
    go_enter Tryz.func73, Tryz.ntmps73
    go_wp2
    all_goals (go_ret; exact ⟨by rw [HE.out]; first | rfl | simp_all, rfl⟩)

set_option maxRecDepth 100000 in
set_option maxHeartbeats 4000000 in
theorem back_any (A : Option Addr) (ca : Nat) (L : List (List Int)) (w : World) (hA : IntsZ w A L) (hn : L.length ≤ 65536) (hr : ∀ i, i < L.length → (rowZ L i).length ≤ 65536) :
    Calls Tryz.prog 48 #[.slice A L.length ca] w (ZR (backT L L.length) w) := by
  obtain ⟨iI, hi, hz0, hz1, hz2⟩ := infoI
  have HA : Hid (IntsZ w A L) := hA
  have HR : Hid _ := hr
  clear hA hr
  have hmk := make_sl L.length (by omega)
  have HB0 : Hid (Below w.heap.size w (w.alloc (.cells (madeCells #[.slice none 0 0] L.length) 72))) := lb_alloc (Below.refl _ _) _
  have HW0 : Hid (RowsW (w.alloc (.cells (madeCells #[.slice none 0 0] L.length) 72)) w.heap.size w.heap.size L.length (List.replicate L.length (.slice none 0 0)) (bst L 0 0)) := by
    unfold Hid
    rw [bst_zero]
    exact RowsW.made w L.length (by omega)
  go_enter Tryz.func48, Tryz.ntmps48
  go_wp2
  go_loopw [13] (fun i wr => ∃ (k : Nat) (vs : List Value), i = .int .i64 k ∧ k ≤ L.length ∧ Hid (RowsW wr w.heap.size w.heap.size L.length vs (bst L k 0)) ∧ Hid (Below w.heap.size w wr)) (fun i _ => L.length - (intOf i).toNat)
  case atStart => exact ⟨0, _, rfl, Nat.zero_le _, HW0, HB0⟩
  case round =>
    clear HW0 HB0 hmk
    obtain ⟨k, vs, rfl, hk, HW, HB⟩ := hrel
    by_cases hlt : k < L.length
    · have hlt' : (k : Int) < (L.length : Int) := by omega
      obtain ⟨a, R, kr, ea, q, qr⟩ := (HA.out.keep HB.out) k hlt
      subst ea
      have hrl := HR.out k hlt
      have HQ : Hid (∀ wx, Below w.heap.size w wx → IntsAt wx R .i64 (rowZ L k)) := fun wx hx => by
        obtain ⟨a2, R2, kr2, ea2, q2, qr2⟩ := (HA.out.keep HB.out) k hlt
        obtain rfl := Option.some.inj ea2
        rw [q] at q2
        cases q2
        obtain ⟨a3, R3, kr3, ea3, q3, qr3⟩ := HA.out k hlt
        obtain rfl := Option.some.inj ea3
        rw [lkeep HB.out q3] at q
        cases q
        exact qr3.keep hx
      clear qr
      go_wp2
      go_loopw [20] (fun i wr => ∃ (j : Nat) (vs : List Value), i = .int .i64 j ∧ j ≤ (rowZ L k).length ∧ Hid (RowsW wr w.heap.size w.heap.size L.length vs (bst L k j)) ∧ Hid (Below w.heap.size w wr)) (fun i _ => (rowZ L k).length - (intOf i).toNat)
      case atStart => exact ⟨0, vs, rfl, Nat.zero_le _, HW, HB⟩
      case round =>
        clear HW HB q
        obtain ⟨j, vs, rfl, hj, HW, HB⟩ := hrel
        by_cases hjl : j < (rowZ L k).length
        · have hjl' : (j : Int) < ((rowZ L k).length : Int) := by omega
          obtain ⟨b, eb, q⟩ := (HQ.out wr HB.out) j hjl
          subst eb
          by_cases hx0 : nth (rowZ L k) j < 0
          · have HS : Hid (bst L k (j + 1) = bst L k j) := bst_skip hjl (.inl hx0)
            have hx0' : ¬ (0 : Int) ≤ nth (rowZ L k) j := by omega
            generalize nth (rowZ L k) j = x at *
            go_wp2
            go_roundw
            case rel => exact ⟨j + 1, vs, by go_num, by omega, by rw [HS.out]; exact HW, HB⟩
            case measure => simp [intOf]; omega
          · by_cases hx1 : (L.length : Int) ≤ nth (rowZ L k) j
            · have HS : Hid (bst L k (j + 1) = bst L k j) := bst_skip hjl (.inr (.inl hx1))
              have hx0' : (0 : Int) ≤ nth (rowZ L k) j := by omega
              have hx1' : ¬ nth (rowZ L k) j < (L.length : Int) := by omega
              generalize nth (rowZ L k) j = x at *
              go_wp2
              go_roundw
              case rel => exact ⟨j + 1, vs, by go_num, by omega, by rw [HS.out]; exact HW, HB⟩
              case measure => simp [intOf]; omega
            · obtain ⟨i, ei⟩ : ∃ i : Nat, nth (rowZ L k) j = (i : Int) := ⟨(nth (rowZ L k) j).toNat, by omega⟩
              have hil : i < L.length := by omega
              have hil' : (i : Int) < (L.length : Int) := by omega
              have hi0 : (0 : Int) ≤ (i : Int) := by omega
              have hrow := HW.out.row i hil
              have hcell := HW.out.cell hil
              have hfro := HW.out.fro i
              obtain ⟨O, c, ev⟩ := own_form hrow
              rw [ev] at hcell hrow
              have hcl := curB_len L k j i
              rw [← bst_row hil] at hcl
              have C := endsin_any O c (rowZ (bst L k j) i) (k : Int) wr (row_ints hrow) (by omega)
              rw [bst_row hil, curB_ends, ← bst_row hil] at C
              by_cases hin : (i : Int) ∈ (rowZ L k).take j
              · have HS : Hid (bst L k (j + 1) = bst L k j) := bst_skip hjl (.inr (.inr (by rw [ei]; exact hin)))
                rw [decide_eq_true hin] at C
                clear hin hrow
                rw [ei] at q
                clear ei hx0 hx1
                generalize (rowZ (bst L k j) i).length = rn at *
                go_wp2_with (go_at_call 73; refine C.mono ?_; rintro e w2 ⟨rfl, rfl⟩)
                go_roundw
                case rel => exact ⟨j + 1, vs, by go_num, by omega, by rw [HS.out]; exact HW, HB⟩
                case measure => simp [intOf]; omega
              · have HS : Hid (bst L k (j + 1) = (bst L k j).set i (rowZ (bst L k j) i ++ [(k : Int)])) := bst_add hjl hil ei hin
                rw [decide_eq_false hin] at C
                rw [ei] at q
                clear ei hx0 hx1 hin
                have HBx : Hid (Below wr.heap.size wr (wr.alloc (.cells #[.int .i64 (k : Int)] 3))) := lb_alloc (Below.refl _ _) _
                have HBa : Hid (Below w.heap.size w (wr.alloc (.cells #[.int .i64 (k : Int)] 3))) := lb_alloc HB.out _
                have HRa : Hid ((wr.alloc (.cells #[.int .i64 (k : Int)] 3)).ownsRow w.heap.size 3 1 (.slice O (rowZ (bst L k j) i).length c) (rowZ (bst L k j) i).length (iVals .i64 (rowZ (bst L k j) i))) := row_keep hrow HBx.out
                have HWa : Hid (RowsW (wr.alloc (.cells #[.int .i64 (k : Int)] 3)) w.heap.size w.heap.size L.length vs (bst L k j)) := HW.out.keep HBx.out
                have HEv : Hid (vn vs i = .slice O (rowZ (bst L k j) i).length c) := ev
                clear hrow ev
                generalize rowZ (bst L k j) i = P at *
                go_upto_region 10 with (first
                  | (go_at_call 73; refine C.mono ?_; rintro e w2 ⟨rfl, rfl⟩)
                  | (at_builtin; go_loud (refine wpList_append_at _ rfl (.tmp 46) (.tmp 48) 72 rfl w.heap.size 3 iI (.int .i64 0) 1 8 Tryz.underlying72 hi hz0 hz1 hz2 rfl (by decide) (.slice O P.length c) P.length (iVals .i64 P) rfl HRa.out ⟨w2.heap.size, 0, none⟩ 1 1 [.int .i64 (k : Int)] rfl rfl (fun j u hu => World.news_of_block (newAtK rfl) j u hu) one_oneI (by omega) (by unfold maxLen; omega) (by omega) HBa.out.size ?_; intro g3 cap3 w4 hown hgrow hloc; rw [← HEv.out] at hgrow hloc; have HW4 : Hid (RowsW (w4.setCell ⟨w.heap.size, i, none⟩ (.slice (some ⟨g3, 0, none⟩) (P.length + 1) cap3)) w.heap.size w.heap.size L.length (vs.set i (.slice (some ⟨g3, 0, none⟩) (P.length + 1) cap3)) ((bst L k j).set i (P ++ [(k : Int)]))) := HWa.out.put hil (by rw [iVals_snoc, List.length_append]; exact hown) hgrow (fun q hq => by cases hq; exact hloc); have HB4 : Hid (Below w.heap.size w (w4.setCell ⟨w.heap.size, i, none⟩ (.slice (some ⟨g3, 0, none⟩) (P.length + 1) cap3))) := HWa.out.below hil (Nat.le_refl _) HBa.out HBa.out.size hgrow _; have hcf := HWa.out.grown hil hgrow; have hcell4 := hcf.1; have hfro4 := hcf.2; clear hcf; clear hown hgrow hloc)))
                go_wp2
                go_roundw
                case rel => exact ⟨j + 1, _, by go_num, by omega, by rw [HS.out]; exact HW4, HB4⟩
                case measure => simp [intOf]; omega
        · obtain rfl : j = (rowZ L k).length := by omega
          go_wp2
          go_roundw
          case rel => exact ⟨k + 1, vs, by go_num, by omega, by rw [← bst_next]; exact HW, HB⟩
          case measure => simp [intOf]; omega
    · obtain rfl : k = L.length := by omega
      go_wp2
      go_ret
      have h := HW.out
      rw [bst_end] at h
      have h2 := h.rows
      exact ⟨_, _, by rw [h.mlen]; rfl, h2.ints, HB.out⟩
theorem backOK : BackOK := back_any


end Go.Proofs.YtfnicgihpelhhaaGreat

namespace Go.Proofs.YtfnicgihpelhhaaGreat
open Go.RowKit

set_option maxHeartbeats 2000000 in
theorem bit_any (h : Bool) (r : Int) (h0 : 0 ≤ r) (h1 : r ≤ 15) (w : World) : Calls Tryz.prog 57 #[.bool h, .int .i8 r] w fun e w' => e = .returned (.int .u16 ((bitN h r : Nat) : Int)) ∧ w' = w := by
  cases h with
  | false =>
    go_enter Tryz.func57, Tryz.ntmps57
    go_wp2
    go_ret
    exact ⟨rfl, rfl⟩
  | true =>
    rcases (show r = 0 ∨ r = 1 ∨ r = 2 ∨ r = 3 ∨ r = 4 ∨ r = 5 ∨ r = 6 ∨ r = 7 ∨ r = 8 ∨ r = 9 ∨ r = 10 ∨ r = 11 ∨ r = 12 ∨ r = 13 ∨ r = 14 ∨ r = 15 by omega) with rfl | rfl | rfl | rfl | rfl | rfl | rfl | rfl | rfl | rfl | rfl | rfl | rfl | rfl | rfl | rfl
    all_goals (
      go_enter Tryz.func57, Tryz.ntmps57
      go_wp2
      go_ret
      exact ⟨rfl, rfl⟩)
set_option maxRecDepth 100000 in
set_option maxHeartbeats 2000000 in
theorem refreads_any (v : Int) (h0 : 0 ≤ v) (h1 : v < 4294967296) (w : World) : Calls Tryz.prog 30 #[.int .u32 v] w fun e w' => e = .returned (.int .u16 ((rdN v : Nat) : Int)) ∧ Below w.heap.size w w' := by
  have C := refdecode_any v h0 h1 w
  have ha := dA_reg v
  have hb := dB_reg v
  have B1 := fun wx => bit_any (hA (dOp v)) (dA v) ha.1 ha.2 wx
  have B2 := fun wx => bit_any (hB (dOp v)) (dB v) hb.1 hb.2 wx
  have CH := fun wx => refhas_any (dOp v) wx
  have hor := orI (bitN_lt (hA (dOp v)) ha.2) (bitN_lt (hB (dOp v)) hb.2)
  have HR : Hid (rdN v = bitN (hA (dOp v)) (dA v) ||| bitN (hB (dOp v)) (dB v)) := rfl
  rw [HR.out]
  clear HR ha hb
  generalize bitN (hA (dOp v)) (dA v) = x at *
  generalize bitN (hB (dOp v)) (dB v) = y at *
  generalize dOp v = op at *
  generalize dD v = dd at *
  generalize dA v = da at *
  generalize dB v = db at *
  generalize dN v = dn at *
  generalize hD op = p1 at *
  generalize hA op = p2 at *
  generalize hB op = p3 at *
  generalize hN op = p4 at *
  generalize hP op = p5 at *
  go_enter Tryz.func30, Tryz.ntmps30
  go_upto_region 3 with (first
    | (go_at_call 20; refine C.mono ?_; rintro e w1 ⟨rfl, hb1⟩; have HB1 : Hid (Below w.heap.size w w1) := hb1; clear hb1)
    | (go_at_call 32; refine (CH _).mono ?_; rintro e w2 ⟨rfl, rfl⟩))
  obtain ⟨X, HX⟩ : ∃ X, Hid ((((w1.alloc (.cells #[.int .i8 op, .int .i8 dd, .int .i8 da, .int .i8 db, .int .i64 dn] 50)).alloc (.cells #[.bool p1, .bool p2, .bool p3, .bool p4, .bool p5] 76)).alloc (.cells #[.bool p1, .bool p2, .bool p3, .bool p4, .bool p5] 76)) = X) := ⟨_, rfl⟩
  have HBX : Hid (Below w.heap.size w X) := by unfold Hid; rw [← HX.out]; exact lb_alloc (lb_alloc (lb_alloc HB1.out _) _) _
  have c2 : X.cell? ⟨w1.heap.size, 2, none⟩ = some (.int .i8 da) := by rw [← HX.out]; simp [go_sem]
  have c3 : X.cell? ⟨w1.heap.size, 3, none⟩ = some (.int .i8 db) := by rw [← HX.out]; simp [go_sem]
  have f1 : X.cell? ⟨w1.heap.size + 1 + 1, 1, none⟩ = some (.bool p2) := by rw [← HX.out]; simp [go_sem]
  have f2 : X.cell? ⟨w1.heap.size + 1 + 1, 2, none⟩ = some (.bool p3) := by rw [← HX.out]; simp [go_sem]
  rw [HX.out]
  clear HX
  go_region_held3 (fun Y => Below w.heap.size w Y ∧ Y.cell? ⟨w1.heap.size, 2, none⟩ = some (.int .i8 da) ∧ Y.cell? ⟨w1.heap.size, 3, none⟩ = some (.int .i8 db) ∧ Y.cell? ⟨w1.heap.size + 1 + 1, 1, none⟩ = some (.bool p2) ∧ Y.cell? ⟨w1.heap.size + 1 + 1, 2, none⟩ = some (.bool p3)) (first | exact ⟨HBX.out, c2, c3, f1, f2⟩ | exact ⟨HBX.out.drew, c2, c3, f1, f2⟩ | (simp [*]; done))
    ((go_at_call 57; first | (refine (B1 _).mono ?_; rintro e w5 ⟨rfl, hw5⟩; have hw5 := hw5.symm; subst hw5) | (refine (B2 _).mono ?_; rintro e w5 ⟨rfl, hw5⟩; have hw5 := hw5.symm; subst hw5)))
  all_goals (
    rename_i hS
    clear hS
    go_wp2_with fail
    go_ret
    exact ⟨by first | rfl | (rw [← hor]), by first | exact HBX.out | exact HBX.out.drew⟩)


end Go.Proofs.YtfnicgihpelhhaaGreat
