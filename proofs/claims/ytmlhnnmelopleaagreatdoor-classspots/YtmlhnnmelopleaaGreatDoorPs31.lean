/-
  withOneLeap of package live: the image with its first leap alone.
-/
import Derived.Test.YtmlhnnmelopleaaGreatDoorProg
import Derived.WalkKit
import Derived.WalkSpells
import Derived.WalkLawsBesides
import Derived.RowKit3
import Derived.Below
import Derived.Deep.QuietTactic
import Derived.BigQuiet
import Derived.WalkSmall
import Derived.Laws.Rows
import Derived.Test.YtmlhnnmelopleaaGreatDoorPs21
import Derived.Test.YtmlhnnmelopleaaGreatDoorPs30
import Derived.Test.YtmlhnnmelopleaaGreatDoorPs20
import Derived.Test.YtmlhnnmelopleaaGreatDoorPs23
namespace Go.Proofs.YtmlhnnmelopleaaGreatDoor
open Go.RowKit

theorem enc_call : encV 17 0 0 0 0 = 2281701376 := by decide
theorem enc_jump : encV 15 0 0 0 0 = 2013265920 := by decide
theorem addAny (b o j : Nat) : (⟨b, o, none⟩ : Addr).add j = ⟨b, o + j, none⟩ := by
  unfold Addr.add
  split <;> simp_all
def OnP (text : List Int) (ent : Int) (A2 : Option Addr) (ml c2 : Nat) (w : World) (e : Ending) (w' : World) : Prop := ∃ (g cap : Nat) (T : List Int), e = .returned (.agg #[.slice (some ⟨g, 0, none⟩) T.length cap, .int .i64 ent, .slice A2 ml c2]) ∧ IntsAt w' (some ⟨g, 0, none⟩) .u32 T ∧ OneJ text ent T ((lpL text ent).length - 1) ∧ Below w.heap.size w w'
set_option maxRecDepth 100000 in
set_option maxHeartbeats 4000000 in
theorem onel_any (a : Addr) (A2 B Ls : Option Addr) (c1 ml c2 cB cL : Nat) (ent : Int) (text : List Int) (w : World) (hT : IntsAt w (some a) .u32 text) (hR : ∀ i, i < text.length → 0 ≤ nth text i ∧ nth text i < 4294967296) (hl : text.length ≤ 1048576) (hp : 0 < text.length) (hB : RelsAt w B (blkL text ent)) (hLs : IntsAt w Ls .i64 (lpL text ent)) (hcL : (lpL text ent).length ≤ cL) :
    Calls Tryz.prog 107 #[.agg #[.slice (some a) text.length c1, .int .i64 ent, .slice A2 ml c2], .slice B (blkL text ent).length cB, .slice Ls (lpL text ent).length cL] w (OnP text ent A2 ml c2 w) := by
  have hLt := blk_len_le text ent
  have hLl : (lpL text ent).length ≤ (blkL text ent).length := plcT_len _ _
  obtain ⟨W, HW⟩ : ∃ W, Hid ((w.alloc (.cells #[.slice (some a) text.length c1, .int .i64 ent, .slice A2 ml c2] 31)).alloc (.cells #[.slice none 0 0, .int .i64 0, .slice none 0 0] 31) = W) := ⟨_, rfl⟩
  have HB : Hid (Below w.heap.size w W) := by unfold Hid; rw [← HW.out]; exact lb_alloc (lb_alloc (Below.refl _ _) _) _
  have HX0 : Hid (W.heap[w.heap.size]? = some (.cells #[.slice (some a) text.length c1, .int .i64 ent, .slice A2 ml c2] 31 (0, 0))) := by unfold Hid; rw [← HW.out]; exact old_at (new_at rfl)
  have HY0 : Hid (W.heap[w.heap.size + 1]? = some (.cells #[.slice none 0 0, .int .i64 0, .slice none 0 0] 31 (0, 0))) := by unfold Hid; rw [← HW.out]; exact new_at (by simp)
  have HZ0 : Hid (W.heap.size = w.heap.size + 2) := by unfold Hid; rw [← HW.out]; simp
  have i0 := (zbox3_cell HX0.out).1
  have C1 := clone32_any a c1 text W (hT.keep HB.out) hl
  have HR : Hid (∀ i, i < text.length → 0 ≤ nth text i ∧ nth text i < 4294967296) := hR
  have HRl : Hid (RelsAt w B (blkL text ent)) := hB
  have HLs : Hid (IntsAt w Ls .i64 (lpL text ent)) := hLs
  have HcL : Hid ((lpL text ent).length ≤ cL) := hcL
  have Hp : Hid (0 < text.length) := hp
  clear hT hR hB hLs hcL hp
  go_enter Tryz.func107, Tryz.ntmps107
  go_upto_region 1 with fail
  rw [HW.out]
  clear HW
  have f0 := box_fro HX0.out 0
  go_upto_region 2 with (go_at_call 113; refine C1.mono ?_; rintro e w1 ⟨g, cap, rfl, hcap, hw1, hg1, hb1⟩; have HX1 : Hid (w1.heap[w.heap.size]? = some (.cells #[.slice (some a) text.length c1, .int .i64 ent, .slice A2 ml c2] 31 (0, 0))) := lb_box HX0.out hb1; have HY1 : Hid (w1.heap[w.heap.size + 1]? = some (.cells #[.slice none 0 0, .int .i64 0, .slice none 0 0] 31 (0, 0))) := lb_box HY0.out hb1; have HW1 : Hid (WdAt w1 g text) := hw1; have HG1 : Hid (w.heap.size + 2 ≤ g) := (by rw [Hid, ← HZ0.out]; exact hg1); have HB1 : Hid (Below W.heap.size W w1) := hb1; clear hw1 hg1 hb1 i0 f0; have x0 := (zbox3_cell HX1.out).1; have f1 := box_fro HX1.out 0)
  clear C1
  obtain ⟨X, HX⟩ : ∃ X, Hid (w1.setCell ⟨w.heap.size, 0, none⟩ (.slice (some ⟨g, 0, none⟩) text.length cap) = X) := ⟨_, rfl⟩
  rw [HX.out]
  have HX2 : Hid (X.heap[w.heap.size]? = some (.cells #[.slice (some ⟨g, 0, none⟩) text.length cap, .int .i64 ent, .slice A2 ml c2] 31 (0, 0))) := by unfold Hid; rw [← HX.out]; exact box_set HX1.out 0 _
  have HY2 : Hid (X.heap[w.heap.size + 1]? = some (.cells #[.slice none 0 0, .int .i64 0, .slice none 0 0] 31 (0, 0))) := by unfold Hid; rw [← HX.out]; exact box_other HY1.out (by omega) 0 _
  have HB2 : Hid (Below w.heap.size w X) := by unfold Hid; rw [← HX.out]; exact (lb_trans HB.out HB1.out).setCell (Nat.le_refl _) _
  have HW2 : Hid (WdAt X g text) := by unfold Hid; rw [← HX.out]; exact HW1.out.other (by have := HG1.out; omega)
  clear HX HX1 HY1 HW1 HB1 HX0 HY0 x0 f1
  have HE : Hid (∀ T wr, WdAt wr g T → OneJ text ent T ((lpL text ent).length - 1) → But g X wr → OnP text ent A2 ml c2 w (.returned (.agg #[.slice (some ⟨g, 0, none⟩) text.length cap, .int .i64 ent, .slice A2 ml c2])) (((wr.setCell ⟨w.heap.size + 1, 0, none⟩ (.slice (some ⟨g, 0, none⟩) text.length cap)).setCell ⟨w.heap.size + 1, 1, none⟩ (.int .i64 ent)).setCell ⟨w.heap.size + 1, 2, none⟩ (.slice A2 ml c2))) := fun T wr h1 h2 h3 => by
    have hg := HG1.out
    have hb := h3.below HB2.out (by omega)
    refine ⟨g, cap, T, by rw [h2.one.len], (((h1.other (by omega)).other (by omega)).other (by omega)).ints, h2, ?_⟩
    exact ((hb.setCell (Nat.le_succ _) _).setCell (Nat.le_succ _) _).setCell (Nat.le_succ _) _
  have HEc : Hid (∀ wr, But g X wr → wr.heap[w.heap.size]? = some (.cells #[.slice (some ⟨g, 0, none⟩) text.length cap, .int .i64 ent, .slice A2 ml c2] 31 (0, 0)) ∧ wr.heap[w.heap.size + 1]? = some (.cells #[.slice none 0 0, .int .i64 0, .slice none 0 0] 31 (0, 0))) := fun wr h => by
    have hg := HG1.out
    exact ⟨(h.2.2.2.2 _ (Array.getElem?_eq_some_iff.1 HX2.out).1 (by omega)).trans HX2.out, (h.2.2.2.2 _ (Array.getElem?_eq_some_iff.1 HY2.out).1 (by omega)).trans HY2.out⟩
  by_cases hN : (lpL text ent).length ≤ 1
  · have HF : Hid (OneJ text ent text ((lpL text ent).length - 1)) := by
      unfold Hid
      rw [show (lpL text ent).length - 1 = 0 by omega]
      exact OneJ.zero _ _
    obtain ⟨x0, x1, x2⟩ := zbox3_cell HX2.out
    obtain ⟨y0, y1, y2⟩ := zbox3_cell HY2.out
    have g0 := box_fro HY2.out 0
    have g1 := box_fro HY2.out 1
    have g2 := box_fro HY2.out 2
    have h01 : (lpL text ent).length = 0 ∨ (lpL text ent).length = 1 := by omega
    clear HEc hN HLs HRl
    have hcl := HcL.out
    clear HcL
    generalize (lpL text ent).length = N at *
    rcases h01 with rfl | rfl
    · go_wp2
      all_goals (refine wp_loop_rounds 1 ?_; rw [rounds_succ]; go_wp2; exact bodyPost_ret (v := .agg #[.slice (some ⟨g, 0, none⟩) text.length cap, .int .i64 ent, .slice A2 ml c2]) (by simp [results, Tryz.results107, go_sem, y0, y1, y2]) rfl (HE.out text X HW2.out HF.out (But.refl _ _)))
    · go_wp2
      all_goals (refine wp_loop_rounds 1 ?_; rw [rounds_succ]; go_wp2; exact bodyPost_ret (v := .agg #[.slice (some ⟨g, 0, none⟩) text.length cap, .int .i64 ent, .slice A2 ml c2]) (by simp [results, Tryz.results107, go_sem, y0, y1, y2]) rfl (HE.out text X HW2.out HF.out (But.refl _ _)))
  · obtain ⟨m, hm⟩ : ∃ m, (lpL text ent).length = m + 2 := ⟨(lpL text ent).length - 2, by omega⟩
    have HN : Hid ((lpL text ent).length = m + 2) := hm
    have hcl := HcL.out
    obtain ⟨l0, el0, -⟩ := HLs.out 0 (by omega)
    subst el0
    rw [hm] at hcl hLl
    have hc1 : ¬ cL = 1 := by omega
    have hm1 : ¬ ((m : Int) + 2 < 1) := by omega
    have hmin : min (1 : Int) ((m : Int) + 2) = 1 := by omega
    have hmin2 : min (1 : Int) ((m : Int) + 2) ≤ (m : Int) + 2 := by omega
    clear hN HcL
    rw [hm]
    clear hm
    go_upto_region 3 with fail
    have HOld : Hid (∀ wr, But g X wr → Below w.heap.size w wr) := fun wr h => h.below HB2.out (by have := HG1.out; omega)
    go_loopw [21] (fun i wr => ∃ (j : Nat) (T : List Int), i = .int .i64 j ∧ j ≤ m + 1 ∧ Hid (WdAt wr g T) ∧ Hid (OneJ text ent T j) ∧ Hid (But g X wr)) (fun i _ => m + 1 - (intOf i).toNat)
    case atStart => exact ⟨0, text, rfl, Nat.zero_le _, HW2, OneJ.zero _ _, But.refl _ _⟩
    case round =>
      clear HW2 HX2 HY2
      obtain ⟨j, T, rfl, hj, HW, HJ, HBt⟩ := hrel
      obtain ⟨HXr, HYr⟩ := HEc.out wr HBt.out
      by_cases hlt : j < m + 1
      · have hlt' : (j : Int) < (m : Int) + 1 := by omega
        obtain ⟨k, hk, ek, lk⟩ := lp_at (text := text) (ent := ent) (t := j + 1) (by rw [HN.out]; omega)
        obtain ⟨a2, ea2, ql⟩ := HLs.out (j + 1) (by rw [HN.out]; omega)
        obtain rfl := Option.some.inj ea2
        rw [ek, show j + 1 = 1 + j by omega, ← addTwo l0 1 j] at ql
        have ql : wr.cell? ((⟨l0.block, l0.off + 1, none⟩ : Addr).add j) = some (.int .i64 (k : Int)) := lkeep (HOld.out wr HBt.out) ql
        rw [addAny] at ql
        have hk' : (k : Int) < ((blkL text ent).length : Int) := by omega
        obtain ⟨b, eb, q0, q1⟩ := HRl.out k hk
        subst eb
        have t1 : wr.cell? ⟨(b.add (k * 2)).block, (b.add (k * 2)).off + 1, none⟩ = some (.int .i64 (rSym (blkL text ent) k)) := lkeep (HOld.out wr HBt.out) q1
        clear q0 q1
        obtain ⟨p1, p2, p3⟩ := lpP_at hk ek
        have HSt : Hid (OneJ text ent (T.set (lpP text ent (j + 1)) (cutW (nth T (lpP text ent (j + 1))))) (j + 1)) := HJ.out.step Hp.out (by rw [HN.out]; omega)
        have hTn : nth T (lpP text ent (j + 1)) = lastW text ent k := by rw [HJ.out.rest (j + 1) (by rw [HN.out]; omega) (.inr (by omega)), p3]
        have hTl := HJ.out.one.len
        have hpT : lpP text ent (j + 1) < T.length := by omega
        have hv := HR.out _ p2
        rw [p3] at hv
        have hop := lp_ops lk
        have tv := HW.out.cell hpT
        have HPu : Hid (∀ wx, WdAt wx g T → WdAt (wx.setCell ⟨g, lpP text ent (j + 1), none⟩ (.int .u32 (cutW (lastW text ent k)))) g (T.set (lpP text ent (j + 1)) (cutW (lastW text ent k)))) := fun wx h => h.put hpT _
        rw [hTn] at tv
        rw [hTn] at HSt
        have hrs : rSym (blkL text ent) k = (lpP text ent (j + 1) : Int) + 1 := by omega
        rw [hrs] at t1
        have CD := fun wx => isadecode_any (lastW text ent k) hv.1 hv.2 wx
        have h18 : Hid (dOp (lastW text ent k) = 18 → cutW (lastW text ent k) = 2281701376) := cutW18
        have h19 : Hid (dOp (lastW text ent k) = 19 → cutW (lastW text ent k) = 2013265920) := cutW19
        have HFr : Hid (∀ wx, WdAt wx g T → wx.cell? ⟨g, lpP text ent (j + 1), none⟩ = some (.int .u32 (nth T (lpP text ent (j + 1)))) ∧ wx.frozen? ⟨g, lpP text ent (j + 1), none⟩ = false) := fun wx h => ⟨h.cell hpT, h.fro _⟩
        have hpl : (lpP text ent (j + 1) : Int) < (text.length : Int) := by omega
        clear p1 p2 p3 hTn hpT hv lk hrs ek
        generalize lpP text ent (j + 1) = P at *
        generalize cutW (lastW text ent k) = nw at *
        generalize dOp (lastW text ent k) = op at *
        generalize dD (lastW text ent k) = dd at *
        generalize dA (lastW text ent k) = da at *
        generalize dB (lastW text ent k) = db at *
        generalize dN (lastW text ent k) = dn at *
        generalize lastW text ent k = v at *
        have hwr : IntKind.i64.wrap ((P : Int) + 1 - 1) = (P : Int) := by rw [IntKind.wrap_i64]; omega
        have hwr2 : IntKind.i64.wrap (P : Int) = (P : Int) := by rw [IntKind.wrap_i64]; omega
        have x0 := (zbox3_cell HXr).1
        have HX9 : Hid _ := HXr
        clear HXr HYr hTl
        rcases hop with rfl | rfl
        · have CE := fun wx => isaencode_any 17 0 0 0 0 (by omega) wx
          rw [enc_call] at CE
          obtain rfl := (h18.out rfl).symm
          go_upto_region 9 with (go_at_call 28; refine (CD _).mono ?_; rintro r w4 ⟨rfl, hb4⟩; have HB4 : Hid (But g X w4) := HBt.out.on hb4; have HW4 : Hid (WdAt w4 g T) := HW.out.keep hb4; have y0 := lkeep hb4 x0; clear hb4)
          clear CD
          go_region_law (go_simp; go_at_call 50; refine (CE _).mono ?_; rintro r w5 ⟨rfl, hb5⟩; have HB5 : Hid (But g X w5) := HB4.out.on (lb_trans (Below.drew (Below.refl _ _)) hb5); have HW5 : Hid (WdAt w5 g T) := HW4.out.keep (lb_trans (Below.drew (Below.refl _ _)) hb5); have z0 := lkeep (lb_trans (Below.drew (Below.refl _ _)) hb5) y0; have z1 := (HFr.out w5 HW5.out).1; have z2 := (HFr.out w5 HW5.out).2; clear hb5)
          all_goals (
            go_wp2_with fail
            go_roundw
            (case rel => exact ⟨j + 1, _, by go_num, by omega, HPu.out _ HW5.out, HSt, HB5.out.set _ _⟩)
            (case measure => simp [intOf]; omega))
        · have CE := fun wx => isaencode_any 15 0 0 0 0 (by omega) wx
          rw [enc_jump] at CE
          obtain rfl := (h19.out rfl).symm
          go_upto_region 9 with (go_at_call 28; refine (CD _).mono ?_; rintro r w4 ⟨rfl, hb4⟩; have HB4 : Hid (But g X w4) := HBt.out.on hb4; have HW4 : Hid (WdAt w4 g T) := HW.out.keep hb4; have y0 := lkeep hb4 x0; clear hb4)
          clear CD
          go_region_law (go_simp; go_at_call 50; refine (CE _).mono ?_; rintro r w5 ⟨rfl, hb5⟩; have HB5 : Hid (But g X w5) := HB4.out.on (lb_trans (Below.drew (Below.refl _ _)) hb5); have HW5 : Hid (WdAt w5 g T) := HW4.out.keep (lb_trans (Below.drew (Below.refl _ _)) hb5); have z0 := lkeep (lb_trans (Below.drew (Below.refl _ _)) hb5) y0; have z1 := (HFr.out w5 HW5.out).1; have z2 := (HFr.out w5 HW5.out).2; clear hb5)
          all_goals (
            go_wp2_with fail
            go_roundw
            (case rel => exact ⟨j + 1, _, by go_num, by omega, HPu.out _ HW5.out, HSt, HB5.out.set _ _⟩)
            (case measure => simp [intOf]; omega))
      · obtain rfl : j = m + 1 := by omega
        have HJ : Hid (OneJ text ent T ((lpL text ent).length - 1)) := by unfold Hid; rw [HN.out]; exact HJ.out
        have HP := HE.out T wr HW.out HJ.out HBt.out
        have HP : Hid (OnP text ent A2 ml c2 w (.returned (.agg #[.slice (some ⟨g, 0, none⟩) text.length cap, .int .i64 ent, .slice A2 ml c2])) (((wr.setCell ⟨w.heap.size + 1, 0, none⟩ (.slice (some ⟨g, 0, none⟩) text.length cap)).setCell ⟨w.heap.size + 1, 1, none⟩ (.int .i64 ent)).setCell ⟨w.heap.size + 1, 2, none⟩ (.slice A2 ml c2))) := HP
        obtain ⟨x0, x1, x2⟩ := zbox3_cell HXr
        obtain ⟨y0, y1, y2⟩ := zbox3_cell HYr
        have g0 := box_fro HYr 0
        have g1 := box_fro HYr 1
        have g2 := box_fro HYr 2
        clear HXr HYr
        go_wp2
        exact bodyPost_ret (v := .agg #[.slice (some ⟨g, 0, none⟩) text.length cap, .int .i64 ent, .slice A2 ml c2]) (by simp [results, Tryz.results107, go_sem, y0, y1, y2]) rfl HP.out


end Go.Proofs.YtmlhnnmelopleaaGreatDoor
