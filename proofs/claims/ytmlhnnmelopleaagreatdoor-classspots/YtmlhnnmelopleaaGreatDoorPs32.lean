/-
  flow of package live: the edges, and the hub behind them.
-/
import Derived.Test.YtmlhnnmelopleaaGreatDoorProg
import Derived.WalkKit
import Derived.WalkSpells
import Derived.WalkLawsBesides
import Derived.RowKit3
import Derived.Below
import Derived.Deep.QuietTactic
import Derived.BigQuiet
import Derived.WalkSmall
import Derived.Laws.Rows
import Derived.Test.YtmlhnnmelopleaaGreatDoorPs21
import Derived.Test.YtmlhnnmelopleaaGreatDoorPs28
import Derived.Test.YtmlhnnmelopleaaGreatDoorPs29
import Derived.Test.YtmlhnnmelopleaaGreatDoorPs31
namespace Go.Proofs.YtmlhnnmelopleaaGreatDoor
open Go.RowKit

theorem made_one {w : World} {base : Nat} (hb : base ≤ w.heap.size) (x : Int) : (w.alloc (.cells #[.int .i64 x] 3)).ownsRow base 3 1 (.slice (some ⟨w.heap.size, 0, none⟩) 1 1) [x].length (iVals .i64 [x]) :=
  ⟨rfl, .inr ⟨w.heap.size, 1, #[.int .i64 x], rfl, hb, heap_alloc_new _ _, Nat.le_refl _, by unfold maxLen; omega, rfl, rfl⟩⟩
set_option maxRecDepth 100000 in
set_option maxHeartbeats 8000000 in
theorem lflow_any (a : Addr) (A2 B : Option Addr) (c1 ml c2 cB : Nat) (ent : Int) (text : List Int) (w : World) (hT : IntsAt w (some a) .u32 text) (hR : ∀ i, i < text.length → 0 ≤ nth text i ∧ nth text i < 4294967296) (hM : MayI text ml ent) (hB : RelsAt w B (blkL text ent)) :
    Calls Tryz.prog 101 #[.agg #[.slice (some a) text.length c1, .int .i64 ent, .slice A2 ml c2], .slice B (blkL text ent).length cB] w (LfP text ent w) := by
  obtain ⟨iZ, hi, hz0, hz1, hz2⟩ := infoZ
  have hl4 : text.length ≤ 16384 := hM.past.len
  have hml : ml ≤ 4096 := hM.past.mem
  have hLt := blk_len_le text ent
  have hLl : (lpL text ent).length ≤ (blkL text ent).length := plcT_len _ _
  obtain ⟨W, HW⟩ : ∃ W, Hid (w.alloc (.cells #[.slice (some a) text.length c1, .int .i64 ent, .slice A2 ml c2] 31) = W) := ⟨_, rfl⟩
  have HB : Hid (Below w.heap.size w W) := by unfold Hid; rw [← HW.out]; exact lb_alloc (Below.refl _ _) _
  have i0 : W.cell? ⟨w.heap.size, 0, none⟩ = some (.slice (some a) text.length c1) := by rw [← HW.out]; simp [go_sem]
  have i1 : W.cell? ⟨w.heap.size, 1, none⟩ = some (.int .i64 ent) := by rw [← HW.out]; simp [go_sem]
  have i2 : W.cell? ⟨w.heap.size, 2, none⟩ = some (.slice A2 ml c2) := by rw [← HW.out]; simp [go_sem]
  have C1 := leaping_any (some a) A2 B c1 ml c2 cB ent text W (hT.keep HB.out) hR (by omega) (hB.keep HB.out)
  have C2 := fun (Ls : Option Addr) (cL : Nat) (wx : World) (hx : Below w.heap.size w wx) (h1 : IntsAt wx Ls .i64 (lpL text ent)) (h2 : (lpL text ent).length ≤ cL) => onel_any a A2 B Ls c1 ml c2 cB cL ent text wx (hT.keep hx) hR (by omega) hM.past.pos (hB.keep hx) h1 h2
  have C3 := fun (g cap : Nat) (T : List Int) (wx : World) (h1 : IntsAt wx (some ⟨g, 0, none⟩) .u32 T) (h2 : OneL text T) => edges_own (some ⟨g, 0, none⟩) A2 cap ml c2 ent T wx h1 (h2.range hR) (by rw [h2.len]; omega) (by omega) (by rw [may_zero (h2.may hM)])
  clear hT hR hB hM
  go_enter Tryz.func101, Tryz.ntmps101
  go_upto_region 1 with fail
  rw [HW.out]
  clear HW
  go_upto_region 2 with (go_at_call 105; refine C1.mono ?_; rintro e w1 ⟨Ls, cL, rfl, ho1, hb1⟩; have HL1 : Hid (IntsAt w1 Ls .i64 (lpL text ent)) := row_ints ho1; have HC1 : Hid ((lpL text ent).length ≤ cL) := own_cap ho1; have HB1 : Hid (Below w.heap.size w w1) := lb_trans HB.out hb1; have j0 := lkeep hb1 i0; have j1 := lkeep hb1 i1; have j2 := lkeep hb1 i2; clear ho1 hb1 i0 i1 i2)
  clear C1
  go_upto_region 3 with (first
    | (go_at_call 107; refine (C2 _ _ _ HB1.out HL1.out HC1.out).mono ?_; rintro e w2 ⟨gT, capT, T, rfl, hT2, hJ2, hb2⟩; have HT2 : Hid (IntsAt w2 (some ⟨gT, 0, none⟩) .u32 T) := hT2; have HJ2 : Hid (OneJ text ent T ((lpL text ent).length - 1)) := hJ2; have HB2 : Hid (Below w.heap.size w w2) := lb_trans HB1.out hb2; have HL2 : Hid (IntsAt w2 Ls .i64 (lpL text ent)) := HL1.out.keep hb2; clear hT2 hJ2 hb2 j0 j1 j2)
    | (go_at_call 106; refine (C3 _ _ _ _ HT2.out HJ2.out.one).mono ?_; rintro e w3 ⟨g3, vs3, rfl, hr3, hg3, hb3⟩; rw [HJ2.out.one.blk] at hr3 ⊢; have HR3 : Hid (RowsW w3 g3 g3 (blkL text ent).length vs3 (edgT T ent (blkL text ent).length)) := hr3; have HG3 : Hid (w2.heap.size ≤ g3) := hg3; have HB3 : Hid (Below w2.heap.size w2 w3) := hb3; clear hr3 hg3 hb3))
  clear C2 C3
  have HEl : Hid ((edgT T ent (blkL text ent).length).length = (blkL text ent).length) := edgT_len _ _ _
  have HZ3 : Hid (RowsZ w3 g3 (.slice (some ⟨g3, 0, none⟩) (blkL text ent).length (blkL text ent).length) vs3 (edgT T ent (blkL text ent).length)) := by
    have := HR3.out.rows
    rw [HEl.out] at this
    exact this
  have HZa : Hid (RowsZ (w3.alloc (.cells #[.slice none 0 0] 32)) g3 (.slice (some ⟨g3, 0, none⟩) (blkL text ent).length (blkL text ent).length) vs3 (edgT T ent (blkL text ent).length)) := HZ3.out.keep (lb_alloc (Below.refl _ _) _)
  have HRa : Hid ((w3.alloc (.cells #[.slice none 0 0] 32)).ownsRow g3 32 1 (.slice (some ⟨g3, 0, none⟩) (blkL text ent).length (blkL text ent).length) (blkL text ent).length vs3) := by
    have := HZa.out.bag
    rw [HEl.out] at this
    exact this
  have HBa : Hid (Below w2.heap.size w2 (w3.alloc (.cells #[.slice none 0 0] 32))) := lb_alloc HB3.out _
  have HGa : Hid (g3 ≤ (w3.alloc (.cells #[.slice none 0 0] 32)).heap.size) := by
    have := HR3.out.lt
    unfold Hid
    simp
    omega
  have HM0 : Hid (0 < (lpL text ent).length → FlJ text ent T ((edgT T ent (blkL text ent).length ++ [[]]).set (blkL text ent).length (rowZ (edgT T ent (blkL text ent).length) (nth (lpL text ent) 0).toNat)) 0) := FlJ.start1
  have HM1 : Hid (¬ 0 < (lpL text ent).length → FlJ text ent T (edgT T ent (blkL text ent).length ++ [[]]) 0) := FlJ.start0
  have HMk : Hid (∀ wx A c vs M, RowsZ wx g3 (.slice A ((blkL text ent).length + 1) c) vs M → FlJ text ent T M (lpL text ent).length → Below w2.heap.size w2 wx → LfP text ent w (.returned (.slice A ((blkL text ent).length + 1) c)) wx) := fun wx A c vs M h1 h2 h3 => LfP.mk (by omega) h1 h2 HJ2.out (lb_trans HB2.out h3)
  have HLp : Hid (∀ t, t < (lpL text ent).length → ∃ k : Nat, k < (blkL text ent).length ∧ nth (lpL text ent) t = (k : Int)) := fun t ht => by
    obtain ⟨k, h1, h2, _⟩ := lp_at ht
    exact ⟨k, h1, h2⟩
  have HFs : Hid (∀ M j, FlJ text ent T M j → j < (lpL text ent).length → FlJ text ent T (M.set (nth (lpL text ent) j).toNat [((blkL text ent).length : Int)]) (j + 1)) := fun M j h hj => h.step hj
  have HFl : Hid (∀ M j, FlJ text ent T M j → M.length = (blkL text ent).length + 1) := fun M j h => h.len
  have HRw : Hid (∀ k : Nat, k < (blkL text ent).length → rowZ (edgT T ent (blkL text ent).length ++ [[]]) k = rowZ (edgT T ent (blkL text ent).length) k) := fun k hk => rowZ_left (by rw [HEl.out]; exact hk)
  clear HZ3 HR3 HT2 HJ2
  generalize edgT T ent (blkL text ent).length = E at *
  go_upto_region 5 with (at_builtin; go_loud (refine wpList_append_own _ rfl (.tmp 24) (.tmp 25) 127 rfl g3 32 iZ (.slice none 0 0) 1 24 Tryz.underlying127 hi hz0 hz1 hz2 rfl (by decide) (.slice (some ⟨g3, 0, none⟩) (blkL text ent).length (blkL text ent).length) (blkL text ent).length vs3 rfl HRa.out ⟨w3.heap.size, 0, none⟩ 1 1 [.slice none 0 0] rfl rfl (fun j u hu => World.news_of_block (newAtK (by simp)) j u hu) one_slice (by unfold maxLen; omega) (by omega) HGa.out ?_; intro v4 w4 hown hgrow hnil))
  obtain ⟨g4, c4, rfl, HO4⟩ : ∃ g4 c4, v4 = .slice (some ⟨g4, 0, none⟩) ((blkL text ent).length + 1) c4 ∧ Hid (w4.ownsRow g3 32 1 (.slice (some ⟨g4, 0, none⟩) ((blkL text ent).length + 1) c4) ((blkL text ent).length + 1) (vs3 ++ [.slice none 0 0])) := by
    rcases hown.2 with ⟨e, h0⟩ | ⟨g4, c4, cur, e, _⟩
    · omega
    · exact ⟨g4, c4, e, by rw [← e]; exact hown⟩
  have HZ4 : Hid (RowsZ w4 g3 (.slice (some ⟨g4, 0, none⟩) ((blkL text ent).length + 1) c4) (vs3 ++ [.slice none 0 0]) (E ++ [[]])) := by
    refine RowsZ.add HZa.out (World.ownsRow_nil _ _ _ _) ?_ hgrow
    rw [HEl.out]
    exact HO4.out
  have HB4 : Hid (Below w2.heap.size w2 w4) := HBa.out.grown hgrow HBa.out.size (fun b hb => Nat.le_trans HG3.out (HRa.out.lt b hb).1)
  have HE4 : Hid ((E ++ [[]]).length = (blkL text ent).length + 1) := by unfold Hid; rw [List.length_append, HEl.out]; rfl
  have HG4 : Hid (w2.heap.size ≤ g4) := Nat.le_trans HG3.out (HZ4.out.box HE4.out).1
  clear hown hgrow hnil HZa HRa HBa HGa HO4 HG3 HB3
  obtain ⟨vs4, hvs4⟩ : ∃ vs4, vs3 ++ [Value.slice none 0 0] = vs4 := ⟨_, rfl⟩
  rw [hvs4] at HZ4
  clear hvs4
  by_cases h0 : 0 < (lpL text ent).length
  · obtain ⟨k0, hk0, ek0⟩ := HLp.out 0 h0
    obtain ⟨l0, el0, q0⟩ := (HL2.out.keep HB4.out) 0 h0
    subst el0
    rw [ek0] at q0
    have q0 : w4.cell? l0 = some (.int .i64 (k0 : Int)) := by simpa [Addr.add] using q0
    have hF := HM0.out h0
    rw [ek0, show ((k0 : Int)).toNat = k0 by omega] at hF
    have HF : Hid _ := hF
    have b0 := ((HZ4.out.box HE4.out).2 k0 (by omega)).1
    have b1 := ((HZ4.out.box HE4.out).2 (blkL text ent).length (by omega))
    have b2 := b1.1
    have b3 := b1.2
    have hrow := HZ4.out.row k0 (by rw [HE4.out]; omega)
    rw [HRw.out k0 hk0] at hrow
    have HP : Hid (RowsZ (w4.setCell ⟨g4, (blkL text ent).length, none⟩ (vn vs4 k0)) g3 (.slice (some ⟨g4, 0, none⟩) ((blkL text ent).length + 1) c4) (vs4.set (blkL text ent).length (vn vs4 k0)) ((E ++ [[]]).set (blkL text ent).length (rowZ E k0))) := HZ4.out.put HE4.out (by omega) hrow
    have HBp : Hid (Below w2.heap.size w2 (w4.setCell ⟨g4, (blkL text ent).length, none⟩ (vn vs4 k0))) := below_putZ HB4.out HG4.out
    have h0' : (0 : Int) < ((lpL text ent).length : Int) := by omega
    have hk0' : (k0 : Int) < ((blkL text ent).length : Int) := by omega
    obtain ⟨A5, c5, hu0⟩ := own_form hrow
    rw [hu0] at b0 HP HBp
    obtain ⟨vsp, hvs⟩ : ∃ vsp, vs4.set (blkL text ent).length (.slice A5 (rowZ E k0).length c5) = vsp := ⟨_, rfl⟩
    rw [hvs] at HP
    generalize (E ++ [[]]).set (blkL text ent).length (rowZ E k0) = Mp at *
    generalize (rowZ E k0).length = rn at *
    clear hu0 hvs hrow b1 HM0 HM1 HZ4 HRw ek0 hF
    go_upto_region 7 with fail
    go_wp2
    go_loopw [41] (fun i wr => ∃ (j : Nat) (vs : List Value) (M : List (List Int)), i = .int .i64 j ∧ j ≤ (lpL text ent).length ∧ Hid (RowsZ wr g3 (.slice (some ⟨g4, 0, none⟩) ((blkL text ent).length + 1) c4) vs M) ∧ Hid (FlJ text ent T M j) ∧ Hid (Below w2.heap.size w2 wr)) (fun i _ => (lpL text ent).length - (intOf i).toNat)
    case atStart => exact ⟨0, vsp, Mp, rfl, Nat.zero_le _, HP, HF, HBp⟩
    case round =>
      clear HP HF HBp b0 b2 b3 q0
      obtain ⟨j, vs, M, rfl, hj, HZ, HF, HBr⟩ := hrel
      by_cases hlt : j < (lpL text ent).length
      · have hlt' : (j : Int) < ((lpL text ent).length : Int) := by omega
        obtain ⟨k, hk, ek⟩ := HLp.out j hlt
        obtain ⟨l1, el1, q1⟩ := (HL2.out.keep HBr.out) j hlt
        obtain rfl := Option.some.inj el1
        rw [ek] at q1
        have HF2 : Hid (FlJ text ent T (M.set k [((blkL text ent).length : Int)]) (j + 1)) := by
          have := HFs.out M j HF.out hlt
          rw [ek, show ((k : Int)).toNat = k by omega] at this
          exact this
        have HMl : Hid (M.length = (blkL text ent).length + 1) := HFl.out M j HF.out
        have hk' : (k : Int) < ((blkL text ent).length : Int) := by omega
        clear ek
        have HZa : Hid (RowsZ (wr.alloc (.cells #[.int .i64 ((blkL text ent).length : Int)] 3)) g3 (.slice (some ⟨g4, 0, none⟩) ((blkL text ent).length + 1) c4) vs M) := HZ.out.keep (lb_alloc (Below.refl _ _) _)
        have HBa : Hid (Below w2.heap.size w2 (wr.alloc (.cells #[.int .i64 ((blkL text ent).length : Int)] 3))) := lb_alloc HBr.out _
        have b1 := (HZa.out.box HMl.out).2 k (by omega)
        have b2 := b1.1
        have b3 := b1.2
        have HgR : Hid (g3 ≤ wr.heap.size) := Nat.le_of_lt (Nat.lt_of_le_of_lt (HZ.out.box HMl.out).1 (World.block_lt_of_cell? _ _ ((HZ.out.box HMl.out).2 k (by omega)).1))
        have HRn : Hid ((wr.alloc (.cells #[.int .i64 ((blkL text ent).length : Int)] 3)).ownsRow g3 3 1 (.slice (some ⟨wr.heap.size, 0, none⟩) 1 1) [((blkL text ent).length : Int)].length (iVals .i64 [((blkL text ent).length : Int)])) := made_one HgR.out _
        clear b1
        go_wp2
        go_roundw
        case rel => exact ⟨j + 1, _, _, by go_num, by omega, HZa.out.put HMl.out (by omega) HRn.out, HF2, below_putZ HBa.out HG4.out⟩
        case measure => simp [intOf]; omega
      · obtain rfl : j = (lpL text ent).length := by omega
        have HE := HMk.out wr _ _ vs M HZ.out HF.out HBr.out
        have HE : Hid (LfP text ent w (.returned (.slice (some ⟨g4, 0, none⟩) ((blkL text ent).length + 1) c4)) wr) := HE
        go_wp2
        go_ret
        exact HE.out
  · have HF := HM1.out h0
    have hN : (lpL text ent).length = 0 := by omega
    rw [show (0 : Nat) = (lpL text ent).length from hN.symm] at HF
    have HE := HMk.out w4 _ _ vs4 _ HZ4.out HF HB4.out
    have HE : Hid (LfP text ent w (.returned (.slice (some ⟨g4, 0, none⟩) ((blkL text ent).length + 1) c4)) w4) := HE
    rw [hN]
    clear HF HMk HFs HFl HM0 HM1 HL2 hLl HC1 HLp hN h0
    go_wp2
    refine wp_loop_rounds 1 ?_
    rw [rounds_succ]
    go_wp2
    go_ret
    exact HE.out


end Go.Proofs.YtmlhnnmelopleaaGreatDoor
