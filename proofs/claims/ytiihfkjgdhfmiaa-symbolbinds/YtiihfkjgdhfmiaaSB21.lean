/-
  resolveAll: what each symbol stands for. Which bytes a name of package object may hold: no condition. Package object: Name answers as the plain function does; no condition. The small functions of package object; no condition.
-/
import Derived.Test.YtiihfkjgdhfmiaaProg
import Derived.WalkKit
import Derived.WalkSpells
import Derived.WalkLawsBesides
import Derived.RowKit3
import Derived.Below
import Derived.Deep.QuietTactic
import Derived.BigQuiet
import Derived.WalkSmall
import Derived.Laws.Rows
import Derived.Test.YtiihfkjgdhfmiaaSB19
import Derived.Deep.RegionWith
import Derived.Deep.RegionHeld3
import Derived.Test.YtiihfkjgdhfmiaaSB01
namespace Go.Proofs.Ytiihfkjgdhfmiaa
open Go.RowKit

open Go.Maps Go.WideMaps
/-- An answer of resolveAll. -/
def AllP (l : List Ob) (w : World) (e : Ending) (w' : World) : Prop :=
  (∃ x, fstN (unO l) l.length = some x ∧ e = .returned (.tuple #[.slice none 0 0, .int .i64 x.1, .int .i64 x.2.1, .int .i64 x.2.2]) ∧ Below w.heap.size w w') ∨
  (fstN (unO l) l.length = none ∧ ∃ (O : Option Addr) (c : Nat) (vs : List Value), e = .returned (.tuple #[.slice O l.length c, .int .i64 0, .int .i64 0, .int .i64 0]) ∧ RowsD w' w.heap.size 41 34 (.slice O l.length c) vs (rowsT l l.length) ∧ Below w.heap.size w w')

set_option maxHeartbeats 8000000 in
set_option maxRecDepth 100000 in
theorem pall_any (A : Option Addr) (ca : Nat) (q : Nat → Pl) (l : List Ob) (b n g : Nat) (w : World) (hA : ObsIn w A q l) (hkn : Knows w b n (seenA l l.length 0)) (hc : w.cell? ⟨g, 0, none⟩ = some (.map (some b))) (hkd : ∀ i, i < l.length → ∀ j, j < (ob l i).ss.length → 0 ≤ sKind (ob l i).ss j ∧ sKind (ob l i).ss j ≤ 3) :
    Calls Try.prog 23 #[.slice A l.length ca, .agg #[F0, F1 g, F1 g, F1 g]] w (AllP l w) := by
  have hf := hA.few
  have hm1 := make26 l.length hf
  obtain ⟨w0, hw0⟩ : ∃ w0, w0 = (w.alloc (.cells #[F0, F1 g, F1 g, F1 g] 68)).alloc (.cells (fillA [] (.slice none 0 0) l.length) 41) := ⟨_, rfl⟩
  have HB0 : Hid (Below w.heap.size w w0) := by rw [Hid, hw0]; exact lb_alloc (lb_alloc (Below.refl _ _) _) _
  have HF0 : Hid (Fil w0 w.heap.size g l 0 []) := by
    rw [Hid, hw0]
    refine ⟨blk_keep (heap_alloc_new w _) (lb_alloc (Below.refl _ _) _), rfl, ?_, fun i hi => absurd hi (Nat.not_lt_zero _)⟩
    have := heap_alloc_new (w.alloc (.cells #[F0, F1 g, F1 g, F1 g] 68)) (.cells (fillA [] (.slice none 0 0) l.length) 41)
    simpa using this
  have HA : Hid (ObsIn w A q l) := hA
  have HKn : Hid (Knows w b n (seenA l l.length 0)) := hkn
  have HC : Hid (w.cell? ⟨g, 0, none⟩ = some (.map (some b))) := hc
  have HKd : Hid (∀ i, i < l.length → ∀ j, j < (ob l i).ss.length → 0 ≤ sKind (ob l i).ss j ∧ sKind (ob l i).ss j ≤ 3) := hkd
  clear hA hkn hc hkd
  go_enter Try.func23, Try.ntmps23
  go_wp2
  rw [← hw0]
  go_loopw [20] (fun i wr => ∃ (k : Nat) (vs : List Value), i = .int .i64 k ∧ k ≤ l.length ∧ Hid (Fil wr w.heap.size g l k vs) ∧ Hid (∀ i, i < k → unO l i = none) ∧ Hid (Below w.heap.size w wr)) (fun i _ => l.length - (intOf i).toNat)
  case atStart => exact ⟨0, [], rfl, Nat.zero_le _, HF0, fun i hi => absurd hi (Nat.not_lt_zero _), HB0⟩
  case round =>
    clear hm1
    obtain ⟨k, vs, rfl, hk, HF, HN, HB⟩ := hrel
    by_cases hkl : k < l.length
    · have hkl' : (k : Int) < (l.length : Int) := by omega
      obtain ⟨a, ea, x0, x1, x2, x3, x4, x5⟩ := HA.out.cells.six HB.out k hkl
      subst ea
      have hss := (HA.out.each k hkl).hs
      have hm2 := make41 (ob l k).ss.length hss
      obtain ⟨W, hW⟩ : ∃ W, W = wr.alloc (.cells #[.string (ob l k).nm, .slice (q k).A1 (ob l k).code.length (q k).c1, .int .i64 (ob l k).dA, .slice (q k).A2 (ob l k).data.length (q k).c2, .slice (q k).A3 (ob l k).ss.length (q k).c3, .slice (q k).A4 (ob l k).rs.length (q k).c4] 49) := ⟨_, rfl⟩
      have HFW : Hid (Fil W w.heap.size g l k vs) := by rw [Hid, hW]; exact HF.out.keep (lb_alloc (Below.refl _ _) _)
      have HBW : Hid (Below w.heap.size w W) := by rw [Hid, hW]; exact lb_alloc HB.out _
      have y0 : W.cell? ⟨wr.heap.size, 4, none⟩ = some (.slice (q k).A3 (ob l k).ss.length (q k).c3) := by rw [hW]; simp [go_sem]
      have HL : Hid (Below W.heap.size W (W.alloc (.cells (fillA [] (.int .i64 0) ((ob l k).ss.length * 2)) 34))) := lb_alloc (Below.refl _ _) _
      have HG : Hid ((W.alloc (.cells (fillA [] (.int .i64 0) ((ob l k).ss.length * 2)) 34)).heap[w.heap.size + 1]? = some (.cells (fillA vs (.slice none 0 0) l.length) 41 (0, 0))) := blk_keep HFW.out.bag HL.out
      have z0 : (W.alloc (.cells (fillA [] (.int .i64 0) ((ob l k).ss.length * 2)) 34)).cell? ⟨w.heap.size + 1, k, none⟩ = some (.slice none 0 0) := cell_of HG.out (fill_z (by rw [HFW.out.len]; exact Nat.le_refl _) hkl)
      have z1 : (W.alloc (.cells (fillA [] (.int .i64 0) ((ob l k).ss.length * 2)) 34)).frozen? ⟨w.heap.size + 1, k, none⟩ = false := froz_of HG.out
      obtain ⟨V, hV⟩ : ∃ V, V = (W.alloc (.cells (fillA [] (.int .i64 0) ((ob l k).ss.length * 2)) 34)).setCell ⟨w.heap.size + 1, k, none⟩ (.slice (some ⟨W.heap.size, 0, none⟩) (ob l k).ss.length (ob l k).ss.length) := ⟨_, rfl⟩
      have HFV : Hid (RowF V w.heap.size g l k 0 W.heap.size vs) := by rw [Hid, hV]; exact HFW.out.start hkl
      have HBV : Hid (Below w.heap.size w V) := by rw [Hid, hV]; exact (lb_alloc HBW.out _).setCell (Nat.le_succ _) _
      have y1 : V.cell? ⟨wr.heap.size, 4, none⟩ = some (.slice (q k).A3 (ob l k).ss.length (q k).c3) := by
        rw [hV]
        refine cell_grown (lkeep HL.out y0) (grown_set _ _ _ _) ?_
        have := lt_of_blk HF.out.bag
        show wr.heap.size ≠ w.heap.size + 1
        omega
      go_upto_region 5 with fail
      rw [← hW]
      have HW : Hid (W = _) := hW
      clear hW
      have HV : Hid (V = _) := hV
      clear hV
      go_upto_region 6 with fail
      rw [← HV.out]
      clear hm2 z0 z1 y0 HV HW x0 x1 x2 x3 x4 x5 HG HL
      go_wp2
      go_loopw [35] (fun i wr => ∃ (j : Nat), i = .int .i64 j ∧ j ≤ (ob l k).ss.length ∧ Hid (RowF wr w.heap.size g l k j W.heap.size vs) ∧ Hid (∀ m, m < j → unS l k m = none) ∧ Hid (Below w.heap.size w wr)) (fun i _ => (ob l k).ss.length - (intOf i).toNat)
      case atStart => exact ⟨0, rfl, Nat.zero_le _, HFV, fun i hi => absurd hi (Nat.not_lt_zero _), HBV⟩
      case round =>
        clear HF HFW HFV HB HBW HBV y1
        obtain ⟨j, rfl, hj, HF, HS, HB⟩ := hrel
        by_cases hjl : j < (ob l k).ss.length
        · have hjl' : (j : Int) < ((ob l k).ss.length : Int) := by omega
          obtain ⟨a3, e3, s0, s1, s2⟩ := (HA.out.each k hkl).sy j hjl
          have t0 := lkeep HB.out s0
          have t1 : wr.cell? ⟨(a3.add (j * 3)).block, (a3.add (j * 3)).off + 1, none⟩ = some (.int .i8 (sKind (ob l k).ss j)) := lkeep HB.out s1
          have t2 : wr.cell? ⟨(a3.add (j * 3)).block, (a3.add (j * 3)).off + 2, none⟩ = some (.int .i64 (sAt (ob l k).ss j)) := lkeep HB.out s2
          rw [e3]
          clear s0 s1 s2
          obtain ⟨kd, hkd⟩ : ∃ kd, kd = sKind (ob l k).ss j := ⟨_, rfl⟩
          have HKD : Hid (kd = sKind (ob l k).ss j) := hkd
          have hk03 := HKd.out k hkl j hjl
          rw [← hkd] at t1 hk03
          clear hkd
          by_cases hk0 : kd = 0
          · subst hk0
            clear hk03
            obtain ⟨W5, hW5⟩ : ∃ W5, W5 = wr.alloc (.cells #[.string (sName (ob l k).ss j), .int .i8 0, .int .i64 (sAt (ob l k).ss j)] 52) := ⟨_, rfl⟩
            have c0 : W5.cell? ⟨wr.heap.size, 0, none⟩ = some (.string (sName (ob l k).ss j)) := by rw [hW5]; simp [go_sem]
            have c1 : W5.cell? ⟨wr.heap.size, 1, none⟩ = some (.int .i8 0) := by rw [hW5]; simp [go_sem]
            have c2 : W5.cell? ⟨wr.heap.size, 2, none⟩ = some (.int .i64 (sAt (ob l k).ss j)) := by rw [hW5]; simp [go_sem]
            have cB : W5.cell? ⟨w.heap.size, 0, none⟩ = some (.func (.func 37) #[] #[]) := by rw [hW5]; exact lkeep (lb_alloc (Below.refl _ _) _) (cell_of HF.out.box rfl)
            have HBK : Hid (Below w.heap.size w W5) := by rw [Hid, hW5]; exact lb_alloc HB.out _
            have HF5 : Hid (RowF W5 w.heap.size g l k j W.heap.size vs) := by rw [Hid, hW5]; exact HF.out.keep (lb_alloc (Below.refl _ _) _)
            have hL := lb_alloc (Below.refl W5.heap.size W5) (.cells #[.int .i64 0, .int .i64 0] 34)
            have d0 := lkeep hL c0
            have d1 := lkeep hL c1
            have d2 := lkeep hL c2
            have dB := lkeep hL cB
            clear hL
            have C := fown_any k (sName (ob l k).ss j) 0 (sAt (ob l k).ss j)
            go_upto_region 9 with fail
            rw [← hW5]
            clear hW5 HF HB
            go_cut [13, 14] (fun x y wx => ∃ p, x = .pointer (some ⟨p, 0, none⟩) ∧ y = .bool true ∧ wx.cell? ⟨p, 0, none⟩ = some (.int .i64 k) ∧ wx.cell? ⟨p, 1, none⟩ = some (.int .i64 (sAt (ob l k).ss j)) ∧ Hid (Below W5.heap.size W5 wx))
            case first =>
              have hWW := Below.refl W5.heap.size W5
              go_region_held3 (fun W' => Below W5.heap.size W5 W' ∧ W'.cell? ⟨wr.heap.size, 0, none⟩ = some (.string (sName (ob l k).ss j)) ∧ W'.cell? ⟨wr.heap.size, 1, none⟩ = some (.int .i8 0) ∧ W'.cell? ⟨wr.heap.size, 2, none⟩ = some (.int .i64 (sAt (ob l k).ss j)) ∧ W'.cell? ⟨w.heap.size, 0, none⟩ = some (.func (.func 37) #[] #[]))
                (first | (refine ⟨?_, lkeep ?_ c0, lkeep ?_ c1, lkeep ?_ c2, lkeep ?_ cB⟩ <;> ((repeat (first | assumption | exact (‹Below _ _ _ ∧ _›).1 | apply Below.drew | apply lb_alloc)); done)))
                (first | (go_at_call 37; refine (C _).mono ?_; rintro e w1 ⟨rfl, rfl⟩))
              all_goals (go_wp2_with fail; go_meet; refine ⟨_, rfl, rfl, by simp [go_sem], by simp [go_sem], ?_⟩; unfold Hid; repeat (first | exact Below.refl _ _ | apply Below.drew | apply lb_alloc))
            case rest =>
              obtain ⟨p, rfl, rfl, p0, p1, HBc⟩ := hcut
              clear c0 c1 c2 cB d0 d1 d2 dB C
              have HFc : Hid (RowF wc w.heap.size g l k j W.heap.size vs) := HF5.out.keep HBc.out
              have HBw : Hid (Below w.heap.size w wc) := lb_trans HBK.out HBc.out
              have HUN : Hid (unS l k j = none) := unS_no (Or.inl (by rw [← HKD.out]; rfl))
              have HST : Hid (standS l k j = ((k : Int), sAt (ob l k).ss j)) := by unfold Hid standS; rw [← HKD.out]; rfl
              have b0 : wc.cell? ⟨w.heap.size + 1, k, none⟩ = some (.slice (some ⟨W.heap.size, 0, none⟩) (ob l k).ss.length (ob l k).ss.length) := cell_of HFc.out.bag (by rw [fill_at (by rw [List.length_append, HFc.out.len]; simp), ← HFc.out.len]; simp)
              have q0 : wc.cell? ⟨W.heap.size, j * 2, none⟩ = some (.int .i64 0) := cell_of HFc.out.cur (fill_z (by rw [rowD_len]; exact Nat.le_refl _) (by omega))
              have q1 : wc.cell? ⟨W.heap.size, j * 2 + 1, none⟩ = some (.int .i64 0) := cell_of HFc.out.cur (fill_z (by rw [rowD_len]; omega) (by omega))
              have q2 : wc.frozen? ⟨W.heap.size, j * 2, none⟩ = false := froz_of HFc.out.cur
              have q3 : wc.frozen? ⟨W.heap.size, j * 2 + 1, none⟩ = false := froz_of HFc.out.cur
              have HF6 : Hid (RowF ((wc.setCell ⟨W.heap.size, j * 2, none⟩ (.int .i64 k)).setCell ⟨W.heap.size, j * 2 + 1, none⟩ (.int .i64 (sAt (ob l k).ss j))) w.heap.size g l k (j + 1) W.heap.size vs) := HFc.out.set hjl HST.out
              have HB6 : Hid (Below w.heap.size w ((wc.setCell ⟨W.heap.size, j * 2, none⟩ (.int .i64 k)).setCell ⟨W.heap.size, j * 2 + 1, none⟩ (.int .i64 (sAt (ob l k).ss j)))) := (HBw.out.setCell (by have := HFc.out.hB; show w.heap.size ≤ W.heap.size; omega) _).setCell (by have := HFc.out.hB; show w.heap.size ≤ W.heap.size; omega) _
              have HS2 : Hid (∀ m, m < j + 1 → unS l k m = none) := fst_step HS.out HUN.out
              go_upto_region 12 with fail
              go_region_with (fail)
              all_goals (go_wp2_with fail; go_roundw; (case rel => exact ⟨j + 1, by go_num, by omega, RowF.keep HF6.out (by repeat (first | exact Below.refl _ _ | apply Below.drew)), HS2, lb_trans HB6.out (by repeat (first | exact Below.refl _ _ | apply Below.drew))⟩); (case measure => simp [intOf]; omega))
          · have hk1 : 0 ≤ kd := by omega
            have hk4 : kd < 4 := by omega
            have hbx : (#[F0, F1 g, F1 g, F1 g] : Array Value)[kd.toNat]? = some (F1 g) := by
              rcases (show kd = 1 ∨ kd = 2 ∨ kd = 3 by omega) with rfl | rfl | rfl <;> rfl
            obtain ⟨W5, hW5⟩ : ∃ W5, W5 = wr.alloc (.cells #[.string (sName (ob l k).ss j), .int .i8 kd, .int .i64 (sAt (ob l k).ss j)] 52) := ⟨_, rfl⟩
            have c0 : W5.cell? ⟨wr.heap.size, 0, none⟩ = some (.string (sName (ob l k).ss j)) := by rw [hW5]; simp [go_sem]
            have c1 : W5.cell? ⟨wr.heap.size, 1, none⟩ = some (.int .i8 kd) := by rw [hW5]; simp [go_sem]
            have c2 : W5.cell? ⟨wr.heap.size, 2, none⟩ = some (.int .i64 (sAt (ob l k).ss j)) := by rw [hW5]; simp [go_sem]
            have cB : W5.cell? ⟨w.heap.size, kd.toNat, none⟩ = some (.func (.func 38) #[] #[.pointer (some ⟨g, 0, none⟩)]) := by rw [hW5]; exact lkeep (lb_alloc (Below.refl _ _) _) (cell_of HF.out.box hbx)
            have HBK : Hid (Below w.heap.size w W5) := by rw [Hid, hW5]; exact lb_alloc HB.out _
            have HF5 : Hid (RowF W5 w.heap.size g l k j W.heap.size vs) := by rw [Hid, hW5]; exact HF.out.keep (lb_alloc (Below.refl _ _) _)
            have hL := lb_alloc (Below.refl W5.heap.size W5) (.cells #[.int .i64 0, .int .i64 0] 34)
            have d0 := lkeep hL c0
            have d1 := lkeep hL c1
            have d2 := lkeep hL c2
            have dB := lkeep hL cB
            clear hL
            have C : ∀ wx, Below w.heap.size w wx → _ := fun wx hx => fnamed_any k (sName (ob l k).ss j) kd (sAt (ob l k).ss j) b n g (seenA l l.length 0) wx (HKn.out.keep hx) ((HA.out.each k hkl).hN j) (lkeep hx HC.out)
            obtain ⟨v, hv⟩ : ∃ v, v = seenA l l.length 0 (sName (ob l k).ss j) := ⟨_, rfl⟩
            rw [← hv] at C
            have HT : Hid (Tells v (findF (sName (ob l k).ss j) l)) := by rw [Hid, hv]; exact tells_full _ l
            clear hv
            go_upto_region 9 with fail
            rw [← hW5]
            clear hW5 HF HB
            go_cut [13, 14] (fun x y wx => ∃ p, x = .pointer (some ⟨p, 0, none⟩) ∧ y = .bool v.isSome ∧ wx.cell? ⟨p, 0, none⟩ = some (.int .i64 (mI v)) ∧ wx.cell? ⟨p, 1, none⟩ = some (.int .i64 (mA v)) ∧ Hid (Below W5.heap.size W5 wx))
            case first =>
              have hWW := Below.refl W5.heap.size W5
              go_region_held3 (fun W' => Below W5.heap.size W5 W' ∧ W'.cell? ⟨wr.heap.size, 0, none⟩ = some (.string (sName (ob l k).ss j)) ∧ W'.cell? ⟨wr.heap.size, 1, none⟩ = some (.int .i8 kd) ∧ W'.cell? ⟨wr.heap.size, 2, none⟩ = some (.int .i64 (sAt (ob l k).ss j)) ∧ W'.cell? ⟨w.heap.size, kd.toNat, none⟩ = some (.func (.func 38) #[] #[.pointer (some ⟨g, 0, none⟩)]))
                (first | (refine ⟨?_, lkeep ?_ c0, lkeep ?_ c1, lkeep ?_ c2, lkeep ?_ cB⟩ <;> ((repeat (first | assumption | exact (‹Below _ _ _ ∧ _›).1 | apply Below.drew | apply lb_alloc)); done)))
                (first | (go_at_call 38; refine (C _ (by repeat (first | exact HBK.out | exact lb_trans HBK.out (‹Below _ _ _ ∧ _›).1 | apply Below.drew | apply lb_alloc))).mono ?_; rintro e w1 ⟨rfl, rfl⟩))
              all_goals (go_wp2_with fail; go_meet; refine ⟨_, rfl, rfl, by simp [go_sem], by simp [go_sem], ?_⟩; unfold Hid; repeat (first | exact Below.refl _ _ | apply Below.drew | apply lb_alloc))
            case rest =>
              obtain ⟨p, rfl, rfl, p0, p1, HBc⟩ := hcut
              clear c0 c1 c2 cB d0 d1 d2 dB C
              have HFc : Hid (RowF wc w.heap.size g l k j W.heap.size vs) := HF5.out.keep HBc.out
              have HBw : Hid (Below w.heap.size w wc) := lb_trans HBK.out HBc.out
              cases hv : v.isSome
              · have HUN : Hid (unS l k j = some (40, (k : Int), (j : Int))) := by
                  have hfi : (findF (sName (ob l k).ss j) l).isSome = false := by rw [← HT.out.1]; exact hv
                  refine unS_yes ?_ hfi
                  rw [← HKD.out]
                  rcases (show kd = 1 ∨ kd = 2 ∨ kd = 3 by omega) with e | e | e
                  · have := find_own hkl hjl (Or.inl (by rw [← HKD.out, e]; rfl))
                    rw [hfi] at this; cases this
                  · have := find_own hkl hjl (Or.inr (by rw [← HKD.out, e]; rfl))
                    rw [hfi] at this; cases this
                  · rw [e]; rfl
                have HX : Hid (fstN (unO l) l.length = some (40, (k : Int), (j : Int))) := fst_hit HN.out (fst_hit HS.out HUN.out hjl) hkl
                go_wp2
                refine bodyPost_ret (v := .tuple #[.slice none 0 0, .int .i64 40, .int .i64 k, .int .i64 j]) (by simp [results, Try.results23, go_sem]) rfl (Or.inl ⟨_, HX.out, rfl, HBw.out⟩)
              · have HUN : Hid (unS l k j = none) := unS_no (Or.inr (by rw [← HT.out.1]; exact hv))
                have HST : Hid (standS l k j = ((mI v : Int), mA v)) := by
                  unfold Hid standS
                  rw [← HKD.out, if_pos (by simpa using hk0), HT.out.2.1, HT.out.2.2]
                have b0 : wc.cell? ⟨w.heap.size + 1, k, none⟩ = some (.slice (some ⟨W.heap.size, 0, none⟩) (ob l k).ss.length (ob l k).ss.length) := cell_of HFc.out.bag (by rw [fill_at (by rw [List.length_append, HFc.out.len]; simp), ← HFc.out.len]; simp)
                have q0 : wc.cell? ⟨W.heap.size, j * 2, none⟩ = some (.int .i64 0) := cell_of HFc.out.cur (fill_z (by rw [rowD_len]; exact Nat.le_refl _) (by omega))
                have q1 : wc.cell? ⟨W.heap.size, j * 2 + 1, none⟩ = some (.int .i64 0) := cell_of HFc.out.cur (fill_z (by rw [rowD_len]; omega) (by omega))
                have q2 : wc.frozen? ⟨W.heap.size, j * 2, none⟩ = false := froz_of HFc.out.cur
                have q3 : wc.frozen? ⟨W.heap.size, j * 2 + 1, none⟩ = false := froz_of HFc.out.cur
                have HF6 : Hid (RowF ((wc.setCell ⟨W.heap.size, j * 2, none⟩ (.int .i64 (mI v))).setCell ⟨W.heap.size, j * 2 + 1, none⟩ (.int .i64 (mA v))) w.heap.size g l k (j + 1) W.heap.size vs) := HFc.out.set hjl HST.out
                have HB6 : Hid (Below w.heap.size w ((wc.setCell ⟨W.heap.size, j * 2, none⟩ (.int .i64 (mI v))).setCell ⟨W.heap.size, j * 2 + 1, none⟩ (.int .i64 (mA v)))) := (HBw.out.setCell (by have := HFc.out.hB; show w.heap.size ≤ W.heap.size; omega) _).setCell (by have := HFc.out.hB; show w.heap.size ≤ W.heap.size; omega) _
                have HS2 : Hid (∀ m, m < j + 1 → unS l k m = none) := fst_step HS.out HUN.out
                go_upto_region 12 with fail
                go_region_with (fail)
                all_goals (go_wp2_with fail; go_roundw; (case rel => exact ⟨j + 1, by go_num, by omega, RowF.keep HF6.out (by repeat (first | exact Below.refl _ _ | apply Below.drew)), HS2, lb_trans HB6.out (by repeat (first | exact Below.refl _ _ | apply Below.drew))⟩); (case measure => simp [intOf]; omega))
        · have hjl' : ¬ (j : Int) < ((ob l k).ss.length : Int) := by omega
          obtain rfl : j = (ob l k).ss.length := by omega
          have HF2 : Hid (Fil wr w.heap.size g l (k + 1) (vs ++ [.slice (some ⟨W.heap.size, 0, none⟩) (ob l k).ss.length (ob l k).ss.length])) := HF.out.done hss
          have HU : Hid (unO l k = none) := fst_none HS.out
          go_wp2
          go_roundw
          case rel => exact ⟨k + 1, _, by go_num, by omega, HF2, fst_step HN.out HU.out, HB⟩
          case measure => simp [intOf]; omega
    · have hkl' : ¬ (k : Int) < (l.length : Int) := by omega
      obtain rfl : k = l.length := by omega
      have HX : Hid (fstN (unO l) l.length = none) := fst_none HN.out
      have HR : Hid (RowsD wr w.heap.size 41 34 (.slice (some ⟨w.heap.size + 1, 0, none⟩) l.length l.length) vs (rowsT l l.length)) := HF.out.end hf
      go_wp2
      refine bodyPost_ret (v := .tuple #[.slice (some ⟨w.heap.size + 1, 0, none⟩) l.length l.length, .int .i64 0, .int .i64 0, .int .i64 0]) (by simp [results, Try.results23, go_sem]) rfl (Or.inr ⟨HX.out, _, _, _, rfl, HR.out, HB.out⟩)

end Go.Proofs.Ytiihfkjgdhfmiaa

namespace Go.Proofs.Ytiihfkjgdhfmiaa
open Go.RowKit

theorem begins_any (b : Int) (h0 : 0 ≤ b) (h1 : b ≤ 255) (w : World) : Calls Try.prog 75 #[.int .u8 b] w fun e w' => e = .returned (.bool (ltrI b)) ∧ w' = w := by
  by_cases h1 : 97 ≤ b
  · by_cases h2 : b ≤ 122
    · rw [show ltrI b = true from decide_eq_true (by omega)]
      go_enter Try.func75, Try.ntmps75
      go_wp2
      go_ret
      exact ⟨by first | rfl | (simp [*]; done), rfl⟩
    · rw [show ltrI b = false from decide_eq_false (by omega)]
      have h3 : 65 ≤ b := by omega
      have h4 : ¬ b ≤ 90 := by omega
      have h5 : (b == 95) = false := by simp; omega
      go_enter Try.func75, Try.ntmps75
      go_wp2
      go_ret
      exact ⟨by first | rfl | (simp [*]; done), rfl⟩
  · by_cases h3 : 65 ≤ b
    · by_cases h4 : b ≤ 90
      · rw [show ltrI b = true from decide_eq_true (by omega)]
        go_enter Try.func75, Try.ntmps75
        go_wp2
        go_ret
        exact ⟨by first | rfl | (simp [*]; done), rfl⟩
      · by_cases h5 : b = 95
        · rw [show ltrI b = true from decide_eq_true (by omega)]
          have h6 : (b == 95) = true := by simpa using h5
          clear h5
          go_enter Try.func75, Try.ntmps75
          go_wp2
          go_ret
          exact ⟨by first | rfl | (simp [*]; done), rfl⟩
        · rw [show ltrI b = false from decide_eq_false (by omega)]
          have h6 : (b == 95) = false := by simpa using h5
          go_enter Try.func75, Try.ntmps75
          go_wp2
          go_ret
          exact ⟨by first | rfl | (simp [*]; done), rfl⟩
    · rw [show ltrI b = false from decide_eq_false (by omega)]
      have h6 : (b == 95) = false := by simp; omega
      go_enter Try.func75, Try.ntmps75
      go_wp2
      go_ret
      exact ⟨by first | rfl | (simp [*]; done), rfl⟩



def conI (b : Int) : Bool := dgtI b || b == 46
theorem continues_any (b : Int) (h0 : 0 ≤ b) (h1 : b ≤ 255) (w : World) : Calls Try.prog 76 #[.int .u8 b] w fun e w' => e = .returned (.bool (conI b)) ∧ w' = w := by
  by_cases h2 : 48 ≤ b
  · by_cases h3 : b ≤ 57
    · rw [show conI b = true by unfold conI; rw [show dgtI b = true from decide_eq_true (by omega)]; rfl]
      go_enter Try.func76, Try.ntmps76
      go_wp2
      go_ret
      exact ⟨by first | rfl | (simp [*]; done), rfl⟩
    · rw [show conI b = false by unfold conI; rw [show dgtI b = false from decide_eq_false (by omega)]; simp; omega]
      have h4 : (b == 46) = false := by simp; omega
      go_enter Try.func76, Try.ntmps76
      go_wp2
      go_ret
      exact ⟨by first | rfl | (simp [*]; done), rfl⟩
  · by_cases h3 : b = 46
    · rw [show conI b = true by unfold conI; simp [h3]]
      have h4 : (b == 46) = true := by simpa using h3
      clear h3
      go_enter Try.func76, Try.ntmps76
      go_wp2
      go_ret
      exact ⟨by first | rfl | (simp [*]; done), rfl⟩
    · rw [show conI b = false by unfold conI; rw [show dgtI b = false from decide_eq_false (by omega)]; simp; omega]
      have h4 : (b == 46) = false := by simpa using h3
      go_enter Try.func76, Try.ntmps76
      go_wp2
      go_ret
      exact ⟨by first | rfl | (simp [*]; done), rfl⟩
theorem beg_at (s : ByteArray) (k : Nat) (h : k < s.size) (x : Bool) (e : ltrI s[k].toNat = x) (w : World) : Calls Try.prog 75 #[.int .u8 s[k].toNat] w fun e w' => e = .returned (.bool x) ∧ w' = w := by
  have := begins_any s[k].toNat (by omega) (by have := s[k].toNat_lt; omega) w
  rw [e] at this; exact this
theorem con_at (s : ByteArray) (k : Nat) (h : k < s.size) (x : Bool) (e : conI s[k].toNat = x) (w : World) : Calls Try.prog 76 #[.int .u8 s[k].toNat] w fun e w' => e = .returned (.bool x) ∧ w' = w := by
  have := continues_any s[k].toNat (by omega) (by have := s[k].toNat_lt; omega) w
  rw [e] at this; exact this
set_option maxRecDepth 100000 in
set_option maxHeartbeats 1000000 in
theorem objname_raw (s : ByteArray) (w : World) : Calls Try.prog 59 #[.string s] w fun e w' => e = .returned (.bool (nameOK s)) ∧ w' = w := by
  by_cases h0 : s.size < 1
  · have HN : Hid (nameOK s = false) := name_nil s (by omega)
    go_enter Try.func59, Try.ntmps59
    go_wp2
    go_ret
    exact ⟨retB HN.out.symm, rfl⟩
  have hp : 0 < s.size := by omega
  have hN := name_cons s hp
  by_cases h1 : 24 < s.size
  · rw [decide_eq_false (by omega)] at hN
    have HN : Hid _ := hN
    clear hN
    go_enter Try.func59, Try.ntmps59
    go_wp2
    go_ret
    exact ⟨retB HN.out.symm, rfl⟩
  rw [decide_eq_true (by omega)] at hN
  have HN : Hid _ := hN
  clear hN
  go_enter Try.func59, Try.ntmps59
  go_wp2
  go_loop [3] (fun i => ∃ k : Nat, i = .int .i64 k ∧ k ≤ s.size ∧ Hid (1 ≤ k → goodL (s.data.toList.drop k) = nameOK s)) (fun i => s.size - (intOf i).toNat)
  case atStart => exact ⟨0, rfl, by omega, fun h => by omega⟩
  case round =>
    obtain ⟨k, rfl, hk, HT⟩ := hrel
    by_cases hlt : k < s.size
    · cases h3 : ltrI s[k].toNat with
      | true =>
        have C := beg_at s k hlt true h3
        have HG : Hid (goodL (s.data.toList.drop (k + 1)) = nameOK s) := by
          by_cases hk0 : k = 0
          · subst hk0
            rw [Hid, HN.out, h3]; simp
          · rw [Hid, ← good_on hlt (show goodI s[k].toNat = true by unfold goodI; rw [h3]; rfl)]; exact HT.out (by omega)
        clear h3
        go_wp2_with fail
        refine (C _).mono ?_
        rintro e w1 ⟨rfl, rfl⟩
        clear C
        go_wp2
        go_round
        case rel => exact ⟨k + 1, by go_num, by omega, fun _ => HG.out⟩
        case measure => simp [intOf]; omega
      | false =>
        have C := beg_at s k hlt false h3
        by_cases hk0 : k = 0
        · subst hk0
          have HF : Hid (nameOK s = false) := by rw [Hid, HN.out, h3]; rfl
          clear h3
          go_wp2_with fail
          refine (C _).mono ?_
          rintro e w1 ⟨rfl, rfl⟩
          clear C
          go_wp2
          go_ret
          exact ⟨retB HF.out.symm, rfl⟩
        have hk1 : ((k : Int) == 0) = false := by simpa using hk0
        cases h4 : conI s[k].toNat with
        | true =>
          have C2 := con_at s k hlt true h4
          have HG : Hid (goodL (s.data.toList.drop (k + 1)) = nameOK s) := by
            rw [Hid, ← good_on hlt (show goodI s[k].toNat = true by unfold goodI; rw [h3, Bool.false_or]; exact h4)]; exact HT.out (by omega)
          clear h3 h4 hk0
          go_wp2_with fail
          refine (C _).mono ?_
          rintro e w1 ⟨rfl, rfl⟩
          clear C
          go_wp2_with fail
          refine (C2 _).mono ?_
          rintro e w1 ⟨rfl, rfl⟩
          clear C2
          go_wp2
          go_round
          case rel => exact ⟨k + 1, by go_num, by omega, fun _ => HG.out⟩
          case measure => simp [intOf]; omega
        | false =>
          have C2 := con_at s k hlt false h4
          have HF : Hid (nameOK s = false) := by
            rw [Hid, ← HT.out (by omega)]; exact good_no hlt (show goodI s[k].toNat = false by unfold goodI; rw [h3, Bool.false_or]; exact h4)
          clear h3 h4 hk0
          go_wp2_with fail
          refine (C _).mono ?_
          rintro e w1 ⟨rfl, rfl⟩
          clear C
          go_wp2_with fail
          refine (C2 _).mono ?_
          rintro e w1 ⟨rfl, rfl⟩
          clear C2
          go_wp2
          go_ret
          exact ⟨retB HF.out.symm, rfl⟩
    · have HG : Hid (nameOK s = true) := by rw [Hid, ← HT.out (by omega)]; exact good_end (by omega)
      go_wp2
      go_ret
      exact ⟨retB HG.out.symm, rfl⟩
theorem objname_any (s : ByteArray) (w : World) : Calls Try.prog 59 #[.string s] w fun e w' => e = .returned (.bool (nameOK s)) ∧ Below w.heap.size w w' := by
  refine (objname_raw s w).mono ?_
  rintro e w1 ⟨rfl, rfl⟩
  exact ⟨rfl, Below.refl _ _⟩




end Go.Proofs.Ytiihfkjgdhfmiaa

namespace Go.Proofs.Ytiihfkjgdhfmiaa
open Go.RowKit

/-- A number, or 0. -/
def rfs (b : Bool) (e : Int) : Int := match b with
  | true => e
  | false => 0
theorem refuse_yes (e n : Int) (w : World) : Calls Try.prog 58 #[.bool true, .int .i64 e, .int .i64 n] w fun r w' => r = .returned (.tuple #[.int .i64 (rfs true e), .int .i64 (rfs true n)]) ∧ w' = w := by
  go_enter Try.func58, Try.ntmps58
  go_wp2
  go_ret2
  exact ⟨rfl, rfl⟩
theorem refuse_no (e n : Int) (w : World) : Calls Try.prog 58 #[.bool false, .int .i64 e, .int .i64 n] w fun r w' => r = .returned (.tuple #[.int .i64 (rfs false e), .int .i64 (rfs false n)]) ∧ w' = w := by
  go_enter Try.func58, Try.ntmps58
  go_wp2
  go_ret2
  exact ⟨rfl, rfl⟩
theorem fits_any (a n : Int) (ha : -9223372036854775808 ≤ a) (ha2 : a ≤ 9223372036854775807) (w : World) : Calls Try.prog 64 #[.int .i64 a, .int .i64 n] w fun r w' => r = .returned (.bool (decide (0 ≤ a ∧ n ≤ 4096 - a))) ∧ w' = w := by
  by_cases h0 : 0 ≤ a
  · by_cases h1 : n ≤ 4096 - a
    · rw [decide_eq_true ⟨h0, h1⟩]
      go_enter Try.func64, Try.ntmps64
      go_wp2
      go_ret
      exact ⟨by first | rfl | (simp [*]; done), rfl⟩
    · rw [decide_eq_false (by omega)]
      go_enter Try.func64, Try.ntmps64
      go_wp2
      go_ret
      exact ⟨by first | rfl | (simp [*]; done), rfl⟩
  · rw [decide_eq_false (by omega)]
    go_enter Try.func64, Try.ntmps64
    go_wp2
    go_ret
    exact ⟨by first | rfl | (simp [*]; done), rfl⟩
def lastP (kd : Int) (nc : Nat) : Int := if kd = 3 then 0 else nc
theorem last_any (nm : ByteArray) (dA kd : Int) (A1 A2 A3 A4 : Option Addr) (nc c1 nd c2 ns c3 nr c4 : Nat) (w : World) : Calls Try.prog 77 #[.agg #[.string nm, .slice A1 nc c1, .int .i64 dA, .slice A2 nd c2, .slice A3 ns c3, .slice A4 nr c4], .int .i8 kd] w fun r w' => r = .returned (.int .i64 (lastP kd nc)) ∧ Below w.heap.size w w' := by
  cases h : (kd == 3) with
  | true =>
    rw [show lastP kd nc = 0 by unfold lastP; rw [if_pos (by simpa using h)]]
    go_enter Try.func77, Try.ntmps77
    go_wp2
    go_ret
    exact ⟨rfl, lb_alloc (Below.refl _ _) _⟩
  | false =>
    rw [show lastP kd nc = nc by unfold lastP; rw [if_neg (by simpa using h)]]
    go_enter Try.func77, Try.ntmps77
    go_wp2
    go_ret
    exact ⟨rfl, lb_alloc (Below.refl _ _) _⟩




end Go.Proofs.Ytiihfkjgdhfmiaa
