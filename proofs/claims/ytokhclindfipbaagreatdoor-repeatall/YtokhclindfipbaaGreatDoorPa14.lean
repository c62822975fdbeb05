/-
  Of.
-/
import Derived.Test.YtokhclindfipbaaGreatDoorProg
import Derived.WalkKit
import Derived.WalkSpells
import Derived.WalkLawsBesides
import Derived.RowKit3
import Derived.Below
import Derived.Deep.QuietTactic
import Derived.BigQuiet
import Derived.WalkSmall
import Derived.Laws.Rows
import Derived.Deep.RegionHeld3
import Derived.Deep.DeepCutAuto
import Derived.Laws.EntriesVeiled
import Derived.Test.YtokhclindfipbaaGreatDoorPa13
namespace Go.Proofs.YtokhclindfipbaaGreatDoor
open Go.RowKit

set_option maxRecDepth 100000 in
set_option maxHeartbeats 8000000 in
theorem of_try (A : Addr) (c : Nat) (l : List Int) (w : World) (hA : IntsAt w (some A) .i64 l) (hl0 : 0 < l.length) (hl : l.length ≤ 2048) : Calls Tryz.prog 62 #[.slice (some A) l.length c] w (OfR l (cstI l) w) := by
  have h0 : ((l.length : Int) == 0) = false := by simp; intro e; subst e; simp at hl0
  have h1 : ¬ (l.length : Int) = 0 := by omega
  have hm := make_row l.length (by omega)
  have RS := fun W => rising_any l.length W (by omega)
  have HA : Hid (IntsAt w (some A) .i64 l) := hA
  clear hA
  go_enter Tryz.func62, Tryz.ntmps62
  go_upto_region 3 with fail
  go_step3
  go_upto_region 3 with fail
  obtain ⟨X, HX⟩ : ∃ X, Hid ((w.alloc (.cells #[.slice (some A) l.length c] 36)).alloc (.cells #[.slice none 0 0, .slice none 0 0, .int .i64 0] 107) = X) := ⟨_, rfl⟩
  have HI : Hid (∀ W, Below X.heap.size X W → W.cell? ⟨w.heap.size, 0, none⟩ = some (.slice (some A) l.length c)) := fun W h => lkeep h (by rw [← HX.out]; simp [go_sem])
  have HO : Hid (X.heap[w.heap.size + 1]? = some (.cells #[.slice none 0 0, .slice none 0 0, .int .i64 0] 107)) := by
    unfold Hid
    rw [← HX.out, show w.heap.size + 1 = (w.alloc (.cells #[.slice (some A) l.length c] 36)).heap.size by simp]
    exact heap_alloc_new _ _
  have HL : Hid (X.heap[w.heap.size]? = some (.cells #[.slice (some A) l.length c] 36)) := by
    unfold Hid
    rw [← HX.out]
    exact two_old _ _ _
  have HBX : Hid (Below w.heap.size w X) := by unfold Hid; rw [← HX.out]; exact lb_alloc (lb_alloc (Below.refl _ _) _) _
  have hXs : X.heap.size = w.heap.size + 2 := by rw [← HX.out]; simp
  rw [HX.out]
  clear HX
  have BX : Below X.heap.size X X.drew := (Below.refl _ _).drew
  go_cut [3, 4] (fun va vs wc => ∃ g h : Nat, va = .slice (some ⟨g, 0, none⟩) l.length l.length ∧ vs = .slice (some ⟨h, 0, none⟩) l.length l.length ∧ Hid (Fst X wc g h l.length))
  case first =>
    clear hXs
    go_region_held3 (fun W => Below X.heap.size X W ∧ W.cell? ⟨w.heap.size, 0, none⟩ = some (.slice (some A) l.length c)) (first | exact ⟨lb_trans (‹Below _ _ _ ∧ _›).1 hb, HI.out _ (lb_trans (‹Below _ _ _ ∧ _›).1 hb)⟩ | exact ⟨lb_alloc (‹Below _ _ _ ∧ _›).1 _, HI.out _ (lb_alloc (‹Below _ _ _ ∧ _›).1 _)⟩ | exact ⟨BX, HI.out _ BX⟩ | (simp [*]; done)) (first | (go_at_call 80; refine (RS _).mono ?_; rintro e w5 ⟨rfl, hr, hb⟩; have HR : Hid (RwP w5 _ l.length (fun j => j)) := hr; clear hr))
    · go_wp2_with fail
      go_meet
      exact ⟨_, _, rfl, rfl, fst_a HR.out (lb_trans BX hb)⟩
    · go_wp2_with fail
      go_meet
      exact ⟨_, _, rfl, rfl, fst_b (Below.drew (lb_alloc (Below.refl _ _) _)) (RwN.made X l.length fun _ => 0) (by simp) HR.out hb⟩
  case rest =>
    obtain ⟨g, h, rfl, rfl, HF⟩ := hcut
    have HIY : Hid (∀ W, Below wc.heap.size wc W → W.cell? ⟨w.heap.size, 0, none⟩ = some (.slice (some A) l.length c)) := fun W h => HI.out W (lb_trans HF.out.bel h)
    have HAY : Hid (IntsAt wc (some A) .i64 l) := HA.out.keep (lb_trans HBX.out HF.out.bel)
    have CL := fun W (h : Below wc.heap.size wc W) => clone_ints A c l W (HAY.out.keep h) hl0 (by omega)
    have BY : Below wc.heap.size wc wc.drew := (Below.refl _ _).drew
    clear RS BX HI HA
    go_upto_region 4 with fail
    go_cut [5] (fun vr wd => ∃ br x0 x1 N0 : Nat, vr = .pointer (some ⟨br, 0, none⟩) ∧ Hid (Snd wc wd br x0 x1 N0 l.length l))
    case first =>
      go_region_held3 (fun W => Below wc.heap.size wc W ∧ W.cell? ⟨w.heap.size, 0, none⟩ = some (.slice (some A) l.length c)) (first | exact ⟨H6, HIY.out _ H6⟩ | exact ⟨lb_alloc (‹Below _ _ _ ∧ _›).1 _, HIY.out _ (lb_alloc (‹Below _ _ _ ∧ _›).1 _)⟩ | exact ⟨BY, HIY.out _ BY⟩ | exact ⟨lb_alloc H6 _, HIY.out _ (lb_alloc H6 _)⟩ | exact ⟨lb_alloc (lb_alloc H6 _) _, HIY.out _ (lb_alloc (lb_alloc H6 _) _)⟩ | exact ⟨set2_below (‹Below _ _ _ ∧ _›).1 (by omega), HIY.out _ (set2_below (‹Below _ _ _ ∧ _›).1 (by omega))⟩ | (simp [*]; done)) (first | (go_at_call 81; refine (CL _ (by first | assumption | exact (‹Below _ _ _ ∧ _›).1)).mono ?_; rintro e w6 ⟨x0, N0, rfl, hx, hr, hcp, hb⟩; have HR : Hid (RwL w6 x0 N0 l.length (nth l)) := hr; have H6 : Below wc.heap.size wc w6 := lb_trans (‹Below wc.heap.size wc _ ∧ _›).1 hb; (first | (have Q0 : w6.heap[wc.heap.size]? = some (.cells #[.slice none 0 0, .slice none 0 0] 164) := arr_kept hb (by first | exact heap_alloc_new _ _ | exact two_old _ _ _ | exact two_new _ _ _); obtain ⟨q1, q2, q3, q4, q5⟩ := arr_four Q0; obtain ⟨q6, q7, q8, q9⟩ := arr_more Q0; have HQ : Hid (w6.heap[wc.heap.size]? = some (.cells #[.slice none 0 0, .slice none 0 0] 164)) := Q0; clear Q0) | (have Q0 : w6.heap[wc.heap.size + 1]? = some (.cells #[.slice none 0 0, .slice none 0 0] 164) := arr_kept hb (by first | exact heap_alloc_new _ _ | exact two_old _ _ _ | exact two_new _ _ _); obtain ⟨q1, q2, q3, q4, q5⟩ := arr_four Q0; obtain ⟨q6, q7, q8, q9⟩ := arr_more Q0; have HQ : Hid (w6.heap[wc.heap.size + 1]? = some (.cells #[.slice none 0 0, .slice none 0 0] 164)) := Q0; clear Q0) | skip); clear hr))
      · go_wp2_with fail
        go_meet
        exact ⟨_, _, _, _, rfl, snd1 H6 HR.out hcp (Nat.le_trans (by simp) hx)⟩
      · go_wp2_with fail
        go_meet
        exact ⟨_, _, _, _, rfl, snd2 H6 HR.out hcp (Nat.le_trans (by simp) hx)⟩
      · have hx2 : wc.heap.size + 1 ≤ x0 := Nat.le_trans (by simp) hx
        go_wp2_with fail
        go_meet
        exact ⟨_, _, _, _, rfl, snd3 H6 HR.out (arr_kept hb (heap_alloc_new _ _)) hcp (by omega) (Nat.le_refl _) (by omega)⟩
      · have hx2 : wc.heap.size + 2 ≤ x0 := Nat.le_trans (by simp) hx
        go_wp2_with fail
        go_meet
        exact ⟨_, _, _, _, rfl, snd_set H6 HR.out (arr_kept hb (two_old _ _ _)) hcp HQ.out (by omega) (by omega) (by omega) (by omega) (by omega) (by omega)⟩
      · have hx2 : wc.heap.size + 1 ≤ x0 := Nat.le_trans (by simp) hx
        have hx3 := HR.out.lt
        go_wp2_with fail
        go_meet
        exact ⟨_, _, _, _, rfl, snd_set (lb_alloc H6 _) (HR.out.below (lb_alloc (Below.refl _ _) _)) (RwN.made _ _ _) hcp (arr_kept (lb_alloc (Below.refl _ _) _) HQ.out) (by omega) (by omega) (by omega) (by omega) (by omega) (by omega)⟩
      · have hx2 : wc.heap.size + 2 ≤ x0 := Nat.le_trans (by simp) hx
        go_wp2_with fail
        go_meet
        exact ⟨_, _, _, _, rfl, snd_set H6 HR.out (arr_kept hb (two_new _ _ _)) hcp HQ.out (by omega) (by omega) (by omega) (by omega) (by omega) (by omega)⟩
    case rest =>
      obtain ⟨br, x0, x1, N0, rfl, HS⟩ := hcut
      have HM0 := of_start hl HBX.out hXs HO.out HL.out HF.out HS.out
      have HM : Hid (OfM w _ x0 x1 (wc.heap.size + 2) br (wc.heap.size + 1) w.heap.size wc.heap.size g h (w.heap.size + 1) N0 l.length 1 0 c l.length A (nth l) (fun _ => 0) (List.range l.length)) := HM0
      have HN : Hid (OfN l l (List.range l.length) 1 0 l.length) := OfN.start l hl0
      clear HM0 HBX HO HL HF HS CL BY HIY HAY hm
      go_upto_region 6 with fail
      obtain ⟨W1, HW1⟩ : ∃ W1, Hid ((wc.alloc (.cells #[.int .i64 0] 3)).alloc (.cells #[.int .i64 1] 3) = W1) := ⟨_, rfl⟩
      have hs1 : W1.heap.size = wc.heap.size + 2 := by rw [← HW1.out]; simp
      rw [HW1.out] at HM
      rw [HW1.out]
      rw [← hs1] at HM
      clear HW1 hs1
      go_wp2
      obtain ⟨V, HV⟩ : ∃ V, Hid (W1.alloc (.cells #[.func (.func 82) #[] #[.pointer (some ⟨wc.heap.size, 0, none⟩)]] 94) = V) := ⟨_, rfl⟩
      rw [HV.out] at HM
      rw [HV.out]
      clear HV
      generalize W1.heap.size = bk at *
      generalize wc.heap.size + 1 = bs at *
      generalize wc.heap.size = bc at *
      go_step3
      go_wp2
      go_loopw [10] (fun _ wr => ∃ (x0 x1 N0 N1 s cc fuel : Nat) (r : List Int) (f1 : Nat → Int) (P : List Nat), Hid (OfM w wr x0 x1 bk br bs w.heap.size bc g h (w.heap.size + 1) N0 N1 s cc c l.length A (nth r) f1 P) ∧ Hid (OfN l r P s cc fuel)) (fun _ wr => l.length - (intOf ((wr.cell? ⟨bs, 0, none⟩).getD (.int .i64 0))).toNat)
      case atStart => exact ⟨x0, x1, N0, l.length, 1, 0, l.length, l, _, _, HM, HN⟩
      case round =>
        clear HM HN
        obtain ⟨x0, x1, N0, N1, s, cc, fuel, r, f1, P, HM, HN⟩ := hrel
        have HSG : seg (snth P) 0 l.length = P := seg_is HN.out.pl.len fun j _ => by rw [Nat.zero_add]
        have hcost := Nat.le_trans HN.out.cost (cst_low hl0 hl)
        have hsl := HN.out.sl
        obtain ⟨fs, hfs⟩ := HM.out.rh
        have CS := sortby_any bk br bs w.heap.size bc x0 g h r l.length s l.length l.length l.length (by omega) (by omega) (Nat.le_refl _) l.length 0 cc l.length (snth P) fs wr (HM.out.ask hl hsl) HM.out.cs HM.out.rg hfs (fun j hj => by rw [Nat.zero_add]; exact HN.out.pl.lt hj) (by omega) (Nat.le_refl _) (Nat.le_refl _) (by rw [HSG]; unfold nxC at hcost; omega)
        rw [HSG] at CS
        unfold ordF at CS
        clear hfs
        go_wp2_with fail
        refine CS.mono ?_
        rintro e w2 ⟨rfl, f', fs2, hg2, hf2, -, hh2, hc2, hb2⟩
        have HM2 : Hid (OfM w w2 x0 x1 bk br bs w.heap.size bc g h (w.heap.size + 1) N0 N1 s (cc + srtC (ordV r l.length s) (ordC r l.length s) P) c l.length A (nth r) f1 (nxA l.length r s P)) := HM.out.sort hb2 (RwN.same hg2 fun i hi => by have := hf2 i hi; rw [Nat.zero_add] at this; rw [this]; rfl) ⟨_, hh2⟩ hc2
        have CR := rank_any bk br bs w.heap.size bc x0 x1 w2.heap.size r N1 l.length s g (cc + srtC (ordV r l.length s) (ordC r l.length s) P) l.length N1 f1 (nxA l.length r s P) w2 (HM2.out.ask2 hl hsl) HM2.out.cs HM2.out.r1 HM2.out.rg (HM2.out.ne' 1 7 (by omega) (by omega)) (Nat.ne_of_lt (RwN.lt HM2.out.rg)) (HM2.out.ne' 6 7 (by omega) (by omega)) (HN.out.pl.next _ _) hl0 (by unfold nxC at hcost; omega)
        unfold ordF at CR
        obtain ⟨-, b1, -, -, -⟩ := arr_four HM2.out.rb
        clear CS hg2 hf2 hh2 hc2 hb2 hcost HSG
        go_wp2_with fail
        refine CR.mono ?_
        rintro e w3 ⟨rfl, rf, hx3, hrf, hc3, hb3⟩
        have HM3 : Hid (OfM w w3 x0 x1 bk br bs w.heap.size bc g h (w.heap.size + 1) N0 N1 s (cc + nxC l.length r s P) c l.length A (nth r) (nth (nxR l.length r s P)) (nxA l.length r s P)) := HM2.out.rank hb3 (hx3.same fun i hi => by rw [hrf i hi, nxR_nth hi]) (by unfold nxC; rw [← Nat.add_assoc]; exact hc3)
        have eU : unl (ordV r l.length s) (nxA l.length r s P) (l.length - 1) + 1 = nxU l.length r s P := rfl
        rw [eU]
        obtain ⟨p1, p2, p3, p4, -⟩ := arr_four HM3.out.rb
        clear CR hx3 hrf hc3 hb3 HM2 b1 eU
        go_upto_region 11 with fail
        obtain ⟨w4, HV⟩ : ∃ w4, Hid ((w3.setCell ⟨br, 0, none⟩ (.slice (some ⟨x1, 0, none⟩) l.length N1)).setCell ⟨br, 1, none⟩ (.slice (some ⟨x0, 0, none⟩) l.length N0) = w4) := ⟨_, rfl⟩
        have HM4 : Hid (OfM w w4 x1 x0 bk br bs w.heap.size bc g h (w.heap.size + 1) N1 N0 s (cc + nxC l.length r s P) c l.length A (nth (nxR l.length r s P)) (nth r) (nxA l.length r s P)) := by
          have h := HM3.out.swap
          rw [HV.out] at h
          exact h
        rw [HV.out]
        clear HV HM3 p1 p2 p3 p4
        have l4 : w4.cell? ⟨w.heap.size, 0, none⟩ = some (.slice (some A) l.length c) := by rw [cell_of_row w4 _ 0 _ _ _ HM4.out.ln]; rfl
        by_cases hu : nxU l.length r s P = l.length
        · have HD := HN.out.done hu
          have hu1 : ((nxU l.length r s P : Nat) : Int) = (l.length : Int) := by rw [hu]
          rw [hu1]
          have e1 : ((l.length : Int) == (l.length : Int)) = true := by simp
          obtain ⟨d1, d2, d3⟩ := HD
          rw [d1, d2, d3] at HM4
          clear hu hu1 d1 d2 d3
          obtain ⟨p1, -, -, -, -⟩ := arr_four HM4.out.rb
          have p2 := HM4.out.cs.cell
          obtain ⟨o1, o2, o3, o4, o5, o6⟩ := arr_three HM4.out.ou
          have HE : Hid (OfR l (cstI l) w (.returned (.agg #[.slice (some ⟨g, 0, none⟩) l.length l.length, .slice (some ⟨x1, 0, none⟩) l.length N1, .int .i64 (cstN l : Int)])) (((w4.setCell ⟨w.heap.size + 1, 0, none⟩ (.slice (some ⟨g, 0, none⟩) l.length l.length)).setCell ⟨w.heap.size + 1, 1, none⟩ (.slice (some ⟨x1, 0, none⟩) l.length N1)).setCell ⟨w.heap.size + 1, 2, none⟩ (.int .i64 (cstN l : Int)))) := HM4.out.ends hl
          have HZ := arr_three (set3_cells (u := .slice (some ⟨g, 0, none⟩) l.length l.length) (v := .slice (some ⟨x1, 0, none⟩) l.length N1) (z := .int .i64 (cstN l : Int)) HM4.out.ou)
          clear HM4 HN
          go_wp2
          obtain ⟨W5, HV⟩ : ∃ W5, Hid (((w4.setCell ⟨w.heap.size + 1, 0, none⟩ (.slice (some ⟨g, 0, none⟩) l.length l.length)).setCell ⟨w.heap.size + 1, 1, none⟩ (.slice (some ⟨x1, 0, none⟩) l.length N1)).setCell ⟨w.heap.size + 1, 2, none⟩ (.int .i64 (cstN l : Int)) = W5) := ⟨_, rfl⟩
          rw [HV.out] at HE HZ
          rw [HV.out]
          obtain ⟨z1, z2, z3, -, -, -⟩ := HZ
          refine bodyPost_ret (v := .agg #[.slice (some ⟨g, 0, none⟩) l.length l.length, .slice (some ⟨x1, 0, none⟩) l.length N1, .int .i64 (cstN l : Int)]) (by simp [results, Tryz.results62, go_sem, z1, z2, z3]) rfl ?_
          exact HE.out
        · have hu1 : (((nxU l.length r s P : Nat) : Int) == (l.length : Int)) = false := by simp; omega
          obtain ⟨HN2, h2s⟩ := HN.out.next hu
          have p2 := HM4.out.st.cell
          have p3 := HM4.out.st.frz
          have HE : Hid (OfM w (w4.setCell ⟨bs, 0, none⟩ (.int .i64 ((s : Int) * 2))) x1 x0 bk br bs w.heap.size bc g h (w.heap.size + 1) N1 N0 (2 * s) (cc + nxC l.length r s P) c l.length A (nth (nxR l.length r s P)) (nth r) (nxA l.length r s P)) := by
            have h := HM4.out.two (2 * s)
            rw [show ((2 * s : Nat) : Int) = (s : Int) * 2 by omega] at h
            exact h
          have HN3 : Hid (OfN l (nxR l.length r s P) (nxA l.length r s P) (2 * s) (cc + nxC l.length r s P) (fuel - 1)) := HN2
          have hs0 := HN.out.s0
          have hst := HM.out.st.cell
          clear HM4 HN HN2 HM
          generalize nxU l.length r s P = U at *
          go_wp2
          go_roundw
          case rel => exact ⟨x1, x0, N1, N0, 2 * s, _, fuel - 1, _, _, _, HE, HN3⟩
          case measure =>
            have h3 := HE.out.st.cell
            simp only [h3, hst]
            simp [intOf]
            omega




end Go.Proofs.YtokhclindfipbaaGreatDoor
