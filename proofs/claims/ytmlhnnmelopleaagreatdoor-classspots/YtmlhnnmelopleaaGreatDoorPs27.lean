/-
  flowOf of package edge, by what it answers; each word is of 32 bits.
-/
import Derived.Test.YtmlhnnmelopleaaGreatDoorProg
import Derived.WalkKit
import Derived.WalkSpells
import Derived.WalkLawsBesides
import Derived.RowKit3
import Derived.Below
import Derived.Deep.QuietTactic
import Derived.BigQuiet
import Derived.WalkSmall
import Derived.Laws.Rows
import Derived.Deep.DeepCutAuto
import Derived.Test.YtmlhnnmelopleaaGreatDoorPs26
namespace Go.Proofs.YtmlhnnmelopleaaGreatDoor
open Go.RowKit

set_option maxRecDepth 100000 in
set_option maxHeartbeats 4000000 in
theorem flow_no (A1 A2 : Option Addr) (c1 ml c2 : Nat) (ent : Int) (text : List Int) (w : World) (hT : IntsAt w A1 .u32 text) (hR : ∀ i, i < text.length → 0 ≤ nth text i ∧ nth text i < 4294967296) (hl : text.length ≤ 1048576) (hm : ml ≤ 1048576) (hE : ¬ (checkI text ml ent).1 = 0) :
    Calls Tryz.prog 110 #[.agg #[.slice A1 text.length c1, .int .i64 ent, .slice A2 ml c2]] w fun e w' => e = .returned (.tuple #[.pointer none, .int .i64 (checkI text ml ent).1]) ∧ Below w.heap.size w w' := by
  obtain ⟨W, HW⟩ : ∃ W, Hid (w.alloc (.cells #[.slice A1 text.length c1, .int .i64 ent, .slice A2 ml c2] 31) = W) := ⟨_, rfl⟩
  have HB : Hid (Below w.heap.size w W) := by unfold Hid; rw [← HW.out]; exact lb_alloc (Below.refl _ _) _
  have i0 : W.cell? ⟨w.heap.size, 0, none⟩ = some (.slice A1 text.length c1) := by rw [← HW.out]; simp [go_sem]
  have i1 : W.cell? ⟨w.heap.size, 1, none⟩ = some (.int .i64 ent) := by rw [← HW.out]; simp [go_sem]
  have i2 : W.cell? ⟨w.heap.size, 2, none⟩ = some (.slice A2 ml c2) := by rw [← HW.out]; simp [go_sem]
  have C := blocks_any A1 A2 c1 ml c2 ent text W (hT.keep HB.out) hR hl hm
  have hne : ((checkI text ml ent).1 == 0) = false := by simpa using hE
  have hne2 : ((checkI text ml ent).1 != 0) = true := by simpa using hE
  clear hT hR hE
  generalize (checkI text ml ent).1 = E at *
  go_enter Tryz.func110, Tryz.ntmps110
  go_upto_region 1 with fail
  rw [HW.out]
  clear HW
  go_wp2_with (go_at_call 54; refine C.mono ?_; rintro e w1 ⟨A, c, rfl, hown, hb1⟩)
  go_ret2
  exact ⟨rfl, lb_trans HB.out hb1⟩

set_option maxRecDepth 100000 in
set_option maxHeartbeats 8000000 in
theorem flow_ok (A1 A2 : Option Addr) (c1 ml c2 : Nat) (ent : Int) (text : List Int) (w : World) (hT : IntsAt w A1 .u32 text) (hR : ∀ i, i < text.length → 0 ≤ nth text i ∧ nth text i < 4294967296) (hl : text.length ≤ 1048576) (hm : ml ≤ 1048576) (hE : (checkI text ml ent).1 = 0) :
    Calls Tryz.prog 110 #[.agg #[.slice A1 text.length c1, .int .i64 ent, .slice A2 ml c2]] w fun e w' => ∃ gf, e = .returned (.tuple #[.pointer (some ⟨gf, 0, none⟩), .int .i64 0]) ∧ FlowAt w' gf text ent ∧ Below w.heap.size w w' := by
  obtain ⟨W, HW⟩ : ∃ W, Hid (w.alloc (.cells #[.slice A1 text.length c1, .int .i64 ent, .slice A2 ml c2] 31) = W) := ⟨_, rfl⟩
  have HB : Hid (Below w.heap.size w W) := by unfold Hid; rw [← HW.out]; exact lb_alloc (Below.refl _ _) _
  have i0 : W.cell? ⟨w.heap.size, 0, none⟩ = some (.slice A1 text.length c1) := by rw [← HW.out]; simp [go_sem]
  have i1 : W.cell? ⟨w.heap.size, 1, none⟩ = some (.int .i64 ent) := by rw [← HW.out]; simp [go_sem]
  have i2 : W.cell? ⟨w.heap.size, 2, none⟩ = some (.slice A2 ml c2) := by rw [← HW.out]; simp [go_sem]
  have C := blocks_any A1 A2 c1 ml c2 ent text W (hT.keep HB.out) hR hl hm
  have CT := fun wx (hx : Below w.heap.size w wx) => taken_any A1 A2 c1 ml c2 ent text wx (hT.keep hx) hR hl hm
  have CS := fun wx (hx : Below w.heap.size w wx) => sites_any A1 A2 c1 ml c2 ent text wx (hT.keep hx) hR hl hm
  have HM : Hid (MayI text ml ent) := check_mayI hE
  have HT : Hid (IntsAt w A1 .u32 text) := hT
  have HR : Hid (∀ i, i < text.length → 0 ≤ nth text i ∧ nth text i < 4294967296) := hR
  have hl4 : text.length ≤ 16384 := HM.out.past.len
  have hLt := blk_len_le text ent
  rw [show outB text ml ent = blkL text ent from if_pos hE, hE] at C
  rw [outL_ok hE, hE] at CT CS
  clear hT hR hE
  obtain ⟨iN, hi, hz0, hz1, hz2⟩ := infoN
  have hmk := make_nums text.length (by omega)
  go_enter Tryz.func110, Tryz.ntmps110
  go_upto_region 1 with fail
  rw [HW.out]
  clear HW
  go_upto_region 4 with (go_at_call 54; refine C.mono ?_; rintro e w1 ⟨B, cB, rfl, hown, hb1⟩)
  have HRl : Hid (RelsAt w1 B (blkL text ent)) := drow_rels hown
  have HB1 : Hid (Below w.heap.size w w1) := lb_trans HB.out hb1
  have j0 := lkeep hb1 i0
  have j1 := lkeep hb1 i1
  have j2 := lkeep hb1 i2
  clear hown hb1 i0 i1 i2 C
  obtain ⟨X, HX⟩ : ∃ X, Hid ((w1.alloc (.cells (madeCells #[.int .i64 0] text.length) 3)).alloc (.cells #[.slice none 0 0, .slice (some ⟨w1.heap.size, 0, none⟩) text.length text.length, .slice none 0 0] 165) = X) := ⟨_, rfl⟩
  have HF0 : Hid (Fl1 w1 X w1.heap.size (w1.heap.size + 1) 0 0 text ent none 0 (fun _ => 0)) := by
    unfold Hid
    rw [← HX.out]
    refine ⟨?_, ?_, (NumsAt.made w1 text.length).keep (lb_alloc (Below.refl _ _) _), fun j hj => absurd hj (Nat.not_lt_zero _), lb_alloc (lb_alloc (Below.refl _ _) _) _, Nat.le_refl _, Nat.le_succ _⟩
    · rw [show w1.heap.size + 1 = (w1.alloc (.cells (madeCells #[.int .i64 0] text.length) 3)).heap.size by simp]
      exact heap_alloc_new _ _
    · exact World.ownsRow_nil _ _ _ _
  have HJ : Hid (∀ wx, Below w1.heap.size w1 wx → wx.cell? ⟨w.heap.size, 0, none⟩ = some (.slice A1 text.length c1) ∧ wx.cell? ⟨w.heap.size, 1, none⟩ = some (.int .i64 ent) ∧ wx.cell? ⟨w.heap.size, 2, none⟩ = some (.slice A2 ml c2)) := fun wx hx => ⟨lkeep hx j0, lkeep hx j1, lkeep hx j2⟩
  go_upto_region 5 with fail
  rw [HX.out]
  clear HX hmk j0 j1 j2
  go_wp2
  go_loopw [31] (fun i wr => ∃ (k : Nat) (O : Option Addr) (c : Nat) (F : Int → Int), i = .int .i64 k ∧ k ≤ (blkL text ent).length ∧ Hid (Fl1 w1 wr w1.heap.size (w1.heap.size + 1) k k text ent O c F)) (fun i _ => (blkL text ent).length - (intOf i).toNat)
  case atStart => exact ⟨0, none, 0, _, rfl, Nat.zero_le _, HF0⟩
  case round =>
    clear HF0
    obtain ⟨k, O, c, F, rfl, hk, HF⟩ := hrel
    by_cases hlt : k < (blkL text ent).length
    · have hlt' : (k : Int) < ((blkL text ent).length : Int) := by omega
      obtain ⟨b, eb, q0, q1⟩ := HRl.out k hlt
      subst eb
      have t0 := lkeep HF.out.below q0
      have t1 : wr.cell? ⟨(b.add (k * 2)).block, (b.add (k * 2)).off + 1, none⟩ = some (.int .i64 (rSym (blkL text ent) k)) := lkeep HF.out.below q1
      clear q0 q1
      obtain ⟨V, HV⟩ : ∃ V, Hid (wr.alloc (.cells #[.int .i64 (rAt (blkL text ent) k), .int .i64 (rSym (blkL text ent) k)] 84) = V) := ⟨_, rfl⟩
      have HBV : Hid (Below wr.heap.size wr V) := by unfold Hid; rw [← HV.out]; exact lb_alloc (Below.refl _ _) _
      have HFV : Hid (Fl1 w1 V w1.heap.size (w1.heap.size + 1) k k text ent O c F) := HF.out.keep HBV.out
      have hbx : V.heap[wr.heap.size]? = some (.cells #[.int .i64 (rAt (blkL text ent) k), .int .i64 (rSym (blkL text ent) k)] 84 (0, 0)) := by rw [← HV.out]; exact heap_alloc_new _ _
      have HX2 : Hid (V.heap[wr.heap.size]? = some (.cells #[.int .i64 (rAt (blkL text ent) k), .int .i64 (rSym (blkL text ent) k)] 84 (0, 0))) := hbx
      have hin := blk_in hlt
      have b0 : V.cell? ⟨wr.heap.size, 0, none⟩ = some (.int .i64 (rAt (blkL text ent) k)) := by simp [World.cell?, hbx]
      have b1 : V.cell? ⟨wr.heap.size, 1, none⟩ = some (.int .i64 (rSym (blkL text ent) k)) := by simp [World.cell?, hbx]
      have f1 := HFV.out.cells.2.1
      have n0 := HFV.out.nums.cell hin.1 (show rAt (blkL text ent) k < (text.length : Int) by omega)
      have n1 := HFV.out.nums.fro (rAt (blkL text ent) k).toNat
      have hn1 : rAt (blkL text ent) k < (text.length : Int) := by omega
      have hn0 := hin.1
      have hne1 : w1.heap.size + 1 ≠ w1.heap.size := by omega
      have hwz : w1.heap.size < wr.heap.size := HF.out.nums.lt
      have hne2 : wr.heap.size ≠ w1.heap.size := by omega
      clear hbx
      go_upto_region 8 with fail
      rw [HV.out]
      clear HV t0 t1
      go_cut [] (fun wc => Hid (wc = (V.setCell ⟨w1.heap.size, (rAt (blkL text ent) k).toNat, none⟩ (.int .i64 (k : Int))).drew))
      case first =>
        go_region_held3 (fun Y => Y.cell? ⟨w1.heap.size + 1, 1, none⟩ = some (.slice (some ⟨w1.heap.size, 0, none⟩) text.length text.length) ∧ Y.cell? ⟨wr.heap.size, 0, none⟩ = some (.int .i64 (rAt (blkL text ent) k))) (first | exact ⟨f1, b0⟩ | exact ⟨cell_setO f1 hne1, cell_setO b0 hne2⟩ | (simp [*]; done)) (fail)
        all_goals (rename_i hS; clear hS; go_wp2_with fail; go_meet; exact rfl)
      case rest =>
        have HW3 : Hid (wc = (V.setCell ⟨w1.heap.size, (rAt (blkL text ent) k).toNat, none⟩ (.int .i64 (k : Int))).drew) := hcut
        have HF3 : Hid (Fl1 w1 wc w1.heap.size (w1.heap.size + 1) k (k + 1) text ent O c (fun y => if y = rAt (blkL text ent) k then (k : Int) else F y)) := by
          rw [Hid, HW3.out]
          exact (HFV.out.number hlt).keep (Below.drew (Below.refl _ _))
        have hbx3 : wc.heap[wr.heap.size]? = some (.cells #[.int .i64 (rAt (blkL text ent) k), .int .i64 (rSym (blkL text ent) k)] 84 (0, 0)) := by
          rw [HW3.out]
          exact (Below.heap_setCell _ _ _ _ hne2).trans HX2.out
        have c1' : wc.cell? ⟨wr.heap.size, 1, none⟩ = some (.int .i64 (rSym (blkL text ent) k)) := by simp [World.cell?, hbx3]
        clear hcut HW3 HFV HX2 HBV b0 b1 f1 n0 n1 HF
        generalize HG : (fun y => if y = rAt (blkL text ent) k then (k : Int) else F y) = G at HF3
        clear HG
        have hBc := HF3.out.below
        have HBw : Hid (Below w.heap.size w wc) := lb_trans HB1.out hBc
        obtain ⟨x0, -, -⟩ := HJ.out wc hBc
        obtain ⟨f0, -, f2⟩ := HF3.out.cells
        obtain ⟨p, hpl, hpe, hlw⟩ := last_at hlt
        obtain ⟨a, ea, tv⟩ := (HT.out.keep HBw.out) p hpl
        subst ea
        have hv := HR.out p hpl
        rw [← hlw] at tv hv
        rw [hpe] at c1' hin
        have HPe : Hid (rSym (blkL text ent) k = (p : Int) + 1) := hpe
        clear hlw hpe hbx3
        have hwr : IntKind.i64.wrap ((p : Int) + 1 - 1) = (p : Int) := by rw [IntKind.wrap_i64]; omega
        have hwr2 : IntKind.i64.wrap (p : Int) = (p : Int) := by rw [IntKind.wrap_i64]; omega
        have p1 : (p : Int) < (text.length : Int) := by omega
        have CD := fun wx => isadecode_any (lastW text ent k) hv.1 hv.2 wx
        have hkb : k ≤ 16384 := by omega
        have HLs : Hid (lstV (lastL text ent (k + 1)) = lstV (lastL text ent k) ++ insC (lastW text ent k)) := by unfold Hid; rw [lastL_succ, lstV_snoc]
        have HIn : Hid (insC (lastW text ent k) = [.int .i8 (dOp (lastW text ent k)), .int .i8 (dD (lastW text ent k)), .int .i8 (dA (lastW text ent k)), .int .i8 (dB (lastW text ent k)), .int .i64 (dN (lastW text ent k))]) := rfl
        have HOne : Hid (∀ u ∈ insC (lastW text ent k), u.oneCell' = true) := insC_one _
        clear hBc hv
        generalize dOp (lastW text ent k) = op at *
        generalize dD (lastW text ent k) = dd at *
        generalize dA (lastW text ent k) = da at *
        generalize dB (lastW text ent k) = db at *
        generalize dN (lastW text ent k) = dn at *
        generalize hWv : lastW text ent k = v at *
        have HWv : Hid (lastW text ent k = v) := hWv
        clear hWv
        go_upto_region 9 with fail
        go_region_law
            (first
              | (revert HR4; intro HR4; refine step_append_lies _ rfl (.tmp 48) (.tmp 57) 163 rfl w1.heap.size 67 iN (.agg #[.int .i8 0, .int .i8 0, .int .i8 0, .int .i8 0, .int .i64 0]) 5 16 Tryz.underlying163 hi hz0 hz1 hz2 rfl (by decide) (.slice O k c) k (lstV (lastL text ent k)) rfl HR4.out ⟨w4.heap.size, 0, none⟩ 1 1 [.int .i8 op, .int .i8 dd, .int .i8 da, .int .i8 db, .int .i64 dn] rfl rfl (fun j u hu => World.news_of_block HNw.out j u hu) (by rw [← HIn.out]; exact HOne.out) (by omega) (by unfold maxLen; omega) (by omega) HSz.out (w4.heap.size + 1) (by simp) ?_; intro g3 cap3 we hown hgrow hlie hlt3; have hA := HF5.out.add (O' := some ⟨g3, 0, none⟩) (c' := cap3) (by rw [HWv.out, HIn.out]; exact hown) hgrow; have HA : Hid (Fl1 w1 (we.setCell ⟨w1.heap.size + 1, 0, none⟩ (.slice (some ⟨g3, 0, none⟩) (k + 1) cap3)) w1.heap.size (w1.heap.size + 1) (k + 1) (k + 1) text ent (some ⟨g3, 0, none⟩) cap3 G) := hA.1; have cE := hA.2.1; have fE := hA.2.2; clear hA hown hgrow hlie hlt3)
              | (go_simp; go_at_call 28; refine (CD _).mono ?_; rintro r w4 ⟨rfl, hb4⟩; have HB4 : Hid (Below wc.heap.size wc w4) := lb_trans (Below.drew (Below.refl _ _)) hb4; have HF4 : Hid (Fl1 w1 w4 w1.heap.size (w1.heap.size + 1) k (k + 1) text ent O c G) := HF3.out.keep HB4.out; have HF5 : Hid (Fl1 w1 (w4.alloc (.cells #[.int .i8 op, .int .i8 dd, .int .i8 da, .int .i8 db, .int .i64 dn] 67)) w1.heap.size (w1.heap.size + 1) k (k + 1) text ent O c G) := HF4.out.keep (lb_alloc (Below.refl _ _) _); have HR4 : Hid ((w4.alloc (.cells #[.int .i8 op, .int .i8 dd, .int .i8 da, .int .i8 db, .int .i64 dn] 67)).ownsRow w1.heap.size 67 5 (.slice O k c) k (lstV (lastL text ent k))) := HF5.out.row; have HSz : Hid (w1.heap.size ≤ (w4.alloc (.cells #[.int .i8 op, .int .i8 dd, .int .i8 da, .int .i8 db, .int .i64 dn] 67)).heap.size) := HF5.out.below.size; have HNw : Hid ((w4.alloc (.cells #[.int .i8 op, .int .i8 dd, .int .i8 da, .int .i8 db, .int .i64 dn] 67)).heap[w4.heap.size]? = some (.cells #[.int .i8 op, .int .i8 dd, .int .i8 da, .int .i8 db, .int .i64 dn] 67 (0, 0))) := heap_alloc_new _ _; have g0 := HF4.out.cells.1; have g1 := HF5.out.cells.1; clear hb4))
        all_goals (
            go_wp2_with fail
            go_roundw
            (case rel => exact ⟨k + 1, _, _, G, by go_num, by omega, HA⟩)
            (case measure => simp [intOf]; omega))
    · obtain rfl : k = (blkL text ent).length := by omega
      obtain ⟨x0, x1, x2⟩ := HJ.out wr HF.out.below
      have HBw : Hid (Below w.heap.size w wr) := lb_trans HB1.out HF.out.below
      have HG : Hid (Fl2 w1 wr w1.heap.size (w1.heap.size + 1) text ent O c F w1.heap.size none 0 []) := HF.out.two
      have C2 := CT wr HBw.out
      have hpt := plcT_len (takF text) text.length
      have hps := plcT_len (sitF text) text.length
      have HKn : Hid (risZ ((plcT (takF text) text.length ++ plcT (sitF text) text.length).map F) = knL text ent) := known_plc HM.out HF.out.num
      have HPl : Hid (∀ p, p ∈ plcT (takF text) text.length ++ plcT (sitF text) text.length → 0 ≤ p ∧ p < (text.length : Int)) := fun p hp => by
        rw [List.mem_append] at hp
        rcases hp with hp | hp
        · exact ⟨(plcT_mem.1 hp).1, (plcT_mem.1 hp).2.1⟩
        · exact ⟨(plcT_mem.1 hp).1, (plcT_mem.1 hp).2.1⟩
      clear HF
      generalize plcT (takF text) text.length = tk at *
      generalize plcT (sitF text) text.length = st at *
      go_upto_region 12 with (go_at_call 115; refine C2.mono ?_; rintro e w2 ⟨At, ct, rfl, hot, hb2⟩; have HO2 : Hid (w2.ownsRow wr.heap.size 3 1 (.slice At tk.length ct) tk.length (iVals .i64 tk)) := hot; have HG2 : Hid (Fl2 w1 w2 w1.heap.size (w1.heap.size + 1) text ent O c F w1.heap.size none 0 []) := HG.out.keep hb2; have HB2 : Hid (Below w.heap.size w w2) := lb_trans HBw.out hb2; have y0 := lkeep hb2 x0; have y1 := lkeep hb2 x1; have y2 := lkeep hb2 x2; clear hot hb2 x0 x1 x2 HG HBw)
      clear C2
      have C3 := CS w2 HB2.out
      go_upto_region 13 with (go_at_call 116; refine C3.mono ?_; rintro e w3 ⟨As, cs, rfl, hos, hb3⟩; have HO3 : Hid (w3.ownsRow w2.heap.size 3 1 (.slice As st.length cs) st.length (iVals .i64 st)) := hos; have HO2' : Hid (w3.ownsRow wr.heap.size 3 1 (.slice At tk.length ct) tk.length (iVals .i64 tk)) := row_keep HO2.out hb3; have HG3 : Hid (Fl2 w1 w3 w1.heap.size (w1.heap.size + 1) text ent O c F w1.heap.size none 0 []) := HG2.out.keep hb3; have HB3 : Hid (Below w.heap.size w w3) := lb_trans HB2.out hb3; clear hos hb3 y0 y1 y2 HG2 HB2 HO2)
      clear C3 CT CS
      have C4 := concat_any 0 w3.heap.size 2 _ [tk, st] _ (two_rows HO2'.out HO3.out) (by simp) (fun i hi => by
        have hi : i = 0 ∨ i = 1 := by simp at hi; omega
        rcases hi with rfl | rfl
        · show tk.length ≤ 65536; omega
        · show st.length ≤ 65536; omega)
      have C4 : Calls Tryz.prog 117 #[.slice (some ⟨w3.heap.size, 0, none⟩) 2 2] (w3.alloc (.cells #[.slice At tk.length ct, .slice As st.length cs] 32)) (RowP (catT [tk, st] 2) (w3.alloc (.cells #[.slice At tk.length ct, .slice As st.length cs] 32))) := C4
      rw [cat_two] at C4
      have hpc : (tk ++ st).length ≤ 32768 := by rw [List.length_append]; omega
      generalize tk ++ st = ps at *
      have HB3a : Hid (Below w3.heap.size w3 (w3.alloc (.cells #[.slice At tk.length ct, .slice As st.length cs] 32))) := lb_alloc (Below.refl _ _) _
      have HGl : Hid (w1.heap.size + 1 < (w3.alloc (.cells #[.slice At tk.length ct, .slice As st.length cs] 32)).heap.size) := by
        have := (Array.getElem?_eq_some_iff.1 HG3.out.box).1
        unfold Hid
        simp
        omega
      go_wp2_with (go_at_call 117; refine C4.mono ?_; rintro e w4 ⟨Ac, cc, rfl, hoc, hb4⟩; have HOc : Hid (w4.ownsRow (w3.alloc (.cells #[.slice At tk.length ct, .slice As st.length cs] 32)).heap.size 3 1 (.slice Ac ps.length cc) ps.length (iVals .i64 ps)) := hoc; have HG4 : Hid (Fl2 w1 w4 w1.heap.size (w1.heap.size + 1) text ent O c F w4.heap.size none 0 ((ps.take 0).map F)) := (HG3.out.keep (lb_trans HB3a.out hb4)).base (HG3.out.keep (lb_trans HB3a.out hb4)).below.size; have HB4 : Hid (Below w.heap.size w w4) := lb_trans HB3.out (lb_trans HB3a.out hb4); clear hoc hb4 HG3 HB3 HB3a)
      clear C4
      obtain ⟨iI, hi', hz0', hz1', hz2'⟩ := infoI
      go_loopw [77] (fun i wr => ∃ (j : Nat) (A : Option Addr) (ca : Nat), i = .int .i64 j ∧ j ≤ ps.length ∧ Hid (Fl2 w1 wr w1.heap.size (w1.heap.size + 1) text ent O c F w4.heap.size A ca ((ps.take j).map F)) ∧ Hid (But (w1.heap.size + 1) w4 wr)) (fun i _ => ps.length - (intOf i).toNat)
      case atStart => exact ⟨0, none, 0, rfl, Nat.zero_le _, HG4, But.refl _ _⟩
      case round =>
        clear HG4
        obtain ⟨j, A, ca, rfl, hj, HG, HBt⟩ := hrel
        have HLn : Hid (((ps.take j).map F).length = j) := map_take_len hj
        by_cases hjl : j < ps.length
        · have hjl' : (j : Int) < (ps.length : Int) := by omega
          obtain ⟨a, ea, q⟩ := (row_ints (row_but HOc.out HGl.out HBt.out)) j hjl
          subst ea
          have HSn : Hid ((ps.take (j + 1)).map F = (ps.take j).map F ++ [F (nth ps j)]) := map_snoc hjl
          obtain ⟨z0, z1⟩ := HPl.out _ (nth_mem hjl)
          have n0 := HG.out.nums.cell z0 z1
          obtain ⟨f1, f2, f3⟩ := HG.out.cells
          have hll : ((ps.take j).map F).length ≤ 32768 := by have := HLn.out; omega
          generalize (ps.take j).map F = l at *
          generalize nth ps j = x at *
          generalize F x = y at *
          obtain ⟨U, HU⟩ : ∃ U, Hid ((wr.alloc (.cells #[.int .i64 y] 3)).drew = U) := ⟨_, rfl⟩
          have HBU : Hid (Below wr.heap.size wr (wr.alloc (.cells #[.int .i64 y] 3)).drew) := Below.drew (lb_alloc (Below.refl _ _) _)
          have HF5 : Hid (Fl2 w1 (wr.alloc (.cells #[.int .i64 y] 3)).drew w1.heap.size (w1.heap.size + 1) text ent O c F w4.heap.size A ca l) := HG.out.keep HBU.out
          have HR5 : Hid ((wr.alloc (.cells #[.int .i64 y] 3)).drew.ownsRow w4.heap.size 3 1 (.slice A l.length ca) l.length (iVals .i64 l)) := HF5.out.kn
          have HS5 : Hid (w4.heap.size ≤ (wr.alloc (.cells #[.int .i64 y] 3)).drew.heap.size) := Nat.le_trans HBt.out.2.2.2.1 HBU.out.size
          have HNw : Hid ((wr.alloc (.cells #[.int .i64 y] 3)).drew.heap[wr.heap.size]? = some (.cells #[.int .i64 y] 3 (0, 0))) := heap_alloc_new wr _
          have HBt5 : Hid (But (w1.heap.size + 1) w4 (wr.alloc (.cells #[.int .i64 y] 3)).drew) := HBt.out.on HBU.out
          have g2 := HF5.out.cells.2.1
          clear HU
          go_upto_region 16 with fail
          go_region_law
            (first
              | (revert HR5; intro HR5; refine step_append_lies _ rfl (.tmp 85) (.tmp 93) 32 rfl w4.heap.size 3 iI (.int .i64 0) 1 8 Tryz.underlying32 hi' hz0' hz1' hz2' rfl (by decide) (.slice A l.length ca) l.length (iVals .i64 l) rfl HR5.out ⟨wr.heap.size, 0, none⟩ 1 1 [.int .i64 y] rfl rfl (fun j u hu => World.news_of_block HNw.out j u hu) one_oneI (by omega) (by unfold maxLen; omega) (by omega) HS5.out (wr.heap.size + 1) (by simp) ?_; intro g3 cap3 we hown hgrow hlie hlt3; have hA := HF5.out.put (A' := some ⟨g3, 0, none⟩) (ca' := cap3) (l' := l ++ [y]) (by rw [iVals_snoc, List.length_append]; exact hown) hgrow (fun q hq => by cases hq; rcases hlie with h | h; exact .inl h; exact .inr (by rw [h]; simp)); rw [show (l ++ [y]).length = l.length + 1 by simp] at hA; have HA : Hid (Fl2 w1 (we.setCell ⟨w1.heap.size + 1, 2, none⟩ (.slice (some ⟨g3, 0, none⟩) (l.length + 1) cap3)) w1.heap.size (w1.heap.size + 1) text ent O c F w4.heap.size (some ⟨g3, 0, none⟩) cap3 (l ++ [y])) := hA.1; have cE := hA.2.1; have fE := hA.2.2; have HT9 : Hid (But (w1.heap.size + 1) w4 (we.setCell ⟨w1.heap.size + 1, 2, none⟩ (.slice (some ⟨g3, 0, none⟩) (l.length + 1) cap3))) := (but_grown HBt5.out hgrow (fun b hb => (HR5.out.lt b hb).1)).set _ _; clear hA hown hgrow hlie hlt3))
          all_goals (
            go_wp2_with fail
            go_roundw
            (case rel => exact ⟨j + 1, _, _, by go_num, by omega, by rw [HSn.out]; exact HA, HT9⟩)
            (case measure => simp [intOf]; omega))
        · obtain rfl : j = ps.length := by omega
          have f2 := HG.out.cells.2.1
          have C5 := rising_any w4.heap.size A ca ((ps.take ps.length).map F) wr HG.out.kn (by rw [HLn.out]; omega)
          rw [List.take_length] at C5 f2
          have HG : Hid (Fl2 w1 wr w1.heap.size (w1.heap.size + 1) text ent O c F w4.heap.size A ca (ps.map F)) := by have := HG.out; rwa [List.take_length] at this
          rw [HKn.out] at C5
          have HBr : Hid (Below w.heap.size w wr) := HBt.out.below HB4.out (by have := HB1.out.size; omega)
          clear HLn HKn
          generalize ps.map F = l at *
          have HKl : Hid (knL text ent = knL text ent) := rfl
          generalize hkn : knL text ent = kl at C5
          have HKe : Hid (knL text ent = kl) := hkn
          clear hkn HKl
          go_upto_region 19 with (go_at_call 118; refine C5.mono ?_; rintro e w5 ⟨A5, c5, rfl, ho5, hb5⟩; have hA := HG.out.put (A' := A5) (ca' := c5) (l' := kl) (ownsRow_mono ho5 HBt.out.2.2.2.1) (grown_of hb5) (fun q hq => .inr (ho5.lt q hq).1); have HA : Hid (FlowAt (w5.setCell ⟨w1.heap.size + 1, 2, none⟩ (.slice A5 kl.length c5)) (w1.heap.size + 1) text ent) := hA.1.flow HKe.out.symm; have cE := hA.2.1; have fE := hA.2.2; have HB9 : Hid (Below w.heap.size w (w5.setCell ⟨w1.heap.size + 1, 2, none⟩ (.slice A5 kl.length c5))) := grown_belowR (lb_trans HBr.out hb5) (gset11 _ _ _ _) (by have := HB1.out.size; omega) (lb_trans HBr.out hb5).size; clear hA ho5 hb5)
          go_wp2
          go_ret2
          exact ⟨_, rfl, HA.out, HB9.out⟩



end Go.Proofs.YtmlhnnmelopleaaGreatDoor
