/-
  Spots as marks; AddSpots, apartSpots; a bag of spots.
-/
import Derived.Test.YtkdafkdogmemcaaDoorProg
import Derived.WalkKit
import Derived.WalkSpells
import Derived.WalkLawsBesides
import Derived.RowKit3
import Derived.Below
import Derived.Deep.QuietTactic
import Derived.BigQuiet
import Derived.WalkSmall
import Derived.Laws.Rows
import Derived.Test.YtkdafkdogmemcaaDoorPs17
import Derived.Test.YtkdafkdogmemcaaDoorPs03
import Derived.Deep.DeepCutAuto
import Derived.Deep.RegionWith
namespace Go.Proofs.YtkdafkdogmemcaaDoor
open Go.RowKit

def mkSp (n i : Nat) : List Value := [.int .i64 (1048576 * (n : Int) + (i : Int) + 1), .int .i8 0, .int .i8 0]
theorem mkSp_len (n i : Nat) : (mkSp n i).length = 3 := rfl
theorem mkSp_one (n i : Nat) : ∀ u ∈ mkSp n i, u.oneCell' = true := by simp [mkSp, Value.oneCell']
theorem infoOS : ∃ i, Tryd.prog.info? 22 = some i ∧ i.zero = some (.slice none 0 0) ∧ i.size = 1 ∧ i.bytes = 24 :=
  ⟨(Tryd.prog.info? 22).get (by kernel_rfl), by kernel_rfl, by kernel_rfl, by kernel_rfl, by kernel_rfl⟩
theorem Fr.trans {rs : List (Value × Nat)} {w0 w w' : World} (h : Fr rs w0 w) (hb : Below w.heap.size w w') : Fr rs w0 w' :=
  ⟨hb.os.trans h.os, hb.tape.trans h.tape, hb.output.trans h.output, Nat.le_trans h.size hb.size, fun b h1 h2 => (hb.block b (Nat.lt_of_lt_of_le h1 h.size)).trans (h.block b h1 h2)⟩
set_option maxRecDepth 100000 in
set_option maxHeartbeats 1000000 in
theorem addspots_any (n B : Nat) (f : Nat → Value) (l : List Value) (A : Option Addr) (m c : Nat) (w : World) (hn : n ≤ B) (hb : BagIs w B f) (ho : w.ownsRow n 22 1 (f 12) l.length l) (hl : l.length < 300) :
    Calls Tryd.prog 12 #[.pointer (some ⟨B, 0, none⟩), .slice A m c] w (Added n B 12 22 f l (.slice A m c) w) := by
  obtain ⟨i1, hy, hy0, hy1, hy2⟩ := infoOS
  have h0 := hb.cell 12 (by omega)
  obtain ⟨A0, c0, e0, -⟩ := own_any ho
  have HE : Hid (f 12 = .slice A0 l.length c0) := e0
  have hx := fun v w1 (h1 : w1.ownsRow n 22 1 v (l.length + 1) (l ++ [.slice A m c])) (h2 : (w.alloc (.cells #[.slice A m c] 22)).grownBy w1 (f 12).ownBlock) => added (V := v) (by decide) (by omega) hn hb ho (.cells #[.slice A m c] 22) h1 h2
  have HX : Hid _ := hx
  have ho1 := ho.alloc (.cells #[.slice A m c] 22)
  have HF : Hid (BagIs w B f) := hb
  have hlt := hb.lt
  have hlo := fun k (hk : (f 12).ownBlock = some k) => (ho.lt k hk).2
  have hne := hb.off ho (by decide)
  rw [e0] at h0 ho1
  have HL : Hid _ := hlt
  have HL2 : Hid _ := hne
  clear e0 hb ho hx hlt hlo hne
  go_enter Tryd.func12, Tryd.ntmps12
  go_wp2_with (at_builtin; go_loud (refine wpList_append_own _ rfl (.tmp 14) (.tmp 16) 42 rfl n 22 i1 (.slice none 0 0) 1 24 Tryd.underlying42 hy hy0 hy1 hy2 rfl (by decide) _ l.length l rfl ho1 ⟨w.heap.size, 0, none⟩ 1 1 [.slice A m c] rfl rfl (fun j u hu => World.news_of_block (heap_alloc_new _ _) j u hu) (fun u hu => by cases hu with | head => rfl | tail _ h => cases h) (by unfold maxLen; omega) (by omega) (by have := HL.out; simp; omega) ?_; intro v1 w1 hown hgrow _; rw [← HE.out] at hgrow; have HP : Hid _ := HX.out v1 w1 hown hgrow; have hB1 := HF.out.keep (show w1.heap[B]? = w.heap[B]? by rw [hgrow.block B (by have := HL.out; simp; omega) (fun e => HL2.out e.symm), Below.heap_alloc w _ B HL.out]); have hfr := hB1.fro 12; have hce := hB1.cell 12 (by omega); obtain ⟨Av, cv, ev, -⟩ := own_any hown; subst ev; clear hown hgrow hB1 ho1 HX))
  go_end0
  exact ⟨rfl, HP.out.2⟩

set_option maxRecDepth 100000 in
set_option maxHeartbeats 4000000 in
theorem apartspots_any (B : Nat) (A : Option Addr) (cV : Nat) (rs : List (Value × Nat)) (w0 : World)
    (hbag : w0.cell? ⟨B, 12, none⟩ = some (.slice A rs.length cV)) (hV : w0.ownsRow 0 22 1 (.slice A rs.length cV) rs.length (rs.map Prod.fst))
    (hR : ∀ m, m < rs.length → ∃ xs, w0.ownsRow 0 53 3 (rv rs m) (rl rs m) xs) (hS : Sep rs) (hB : ∀ m, m < rs.length → (rv rs m).ownBlock ≠ some B)
    (hN : rs.length ≤ 300) (hL : ∀ m, rl rs m ≤ 1048576) :
    Calls Tryd.prog 35 #[.pointer (some ⟨B, 0, none⟩)] w0 fun r w' => r = .returned (.bool true) ∧ Fr rs w0 w' := by
  obtain ⟨i0, hi, hz0, hz1, hz2⟩ := infoSp
  obtain ⟨i1, hy, hy0, hy1, hy2⟩ := infoOS
  have HB : Hid (∀ w, Fr rs w0 w → w.cell? ⟨B, 12, none⟩ = some (.slice A rs.length cV)) := fun w h => h.cell hbag hB
  have HW : Hid (Wm 53 22 3 mkSp rs (.slice A rs.length cV) w0 w0 0 0) := Wm.start hV hR
  clear hbag hV hR hB
  go_enter Tryd.func35, Tryd.ntmps35
  go_wp2
  go_loopw [3] (fun n wr => ∃ k : Nat, n = .int .i64 k ∧ k ≤ rs.length ∧ Hid (Wm 53 22 3 mkSp rs (.slice A rs.length cV) w0 wr k 0)) (fun n _ => rs.length - (intOf n).toNat)
  case atStart => exact ⟨0, rfl, Nat.zero_le _, HW⟩
  case round =>
    clear HW
    obtain ⟨k, rfl, hk, HW⟩ := hrel
    have hb := HB.out _ HW.out.fr
    by_cases hlt : k < rs.length
    · have hLk := hL k
      obtain ⟨a, ea, q⟩ := bag_at HW.out.bag k hlt
      obtain ⟨xs, hx⟩ := HW.out.row hlt
      obtain ⟨A1, c1, e1, -⟩ := own_any hx
      rw [e1] at q
      have HE1 : Hid _ := e1
      clear hx e1
      go_wp2
      go_loopw [4] (fun i wr => ∃ j : Nat, i = .int .i64 j ∧ j ≤ rl rs k ∧ Hid (Wm 53 22 3 mkSp rs (.slice A rs.length cV) w0 wr k j)) (fun i _ => rl rs k - (intOf i).toNat)
      case atStart => exact ⟨0, rfl, Nat.zero_le _, HW⟩
      case round =>
        clear HW hb q
        obtain ⟨j, rfl, hj, HW⟩ := hrel
        have hb := HB.out _ HW.out.fr
        obtain ⟨a', ea', q⟩ := bag_at HW.out.bag k hlt
        rw [ea] at ea'
        cases ea'
        rw [HE1.out] at q
        by_cases hlj : j < rl rs k
        · obtain ⟨xs, hx⟩ := HW.out.row hlt
          rw [HE1.out] at hx
          obtain ⟨g, cap, e2, -, -⟩ := hx.form (by omega)
          cases e2
          obtain ⟨u0, hu0⟩ := row_cell0 hx (j * 3) (by omega)
          have hfr0 := hx.frozenAt (j * 3)
          obtain ⟨u1, hu1⟩ := row_cell0 hx (j * 3 + 1) (by omega)
          have hfr1 := hx.frozenAt (j * 3 + 1)
          obtain ⟨u2, hu2⟩ := row_cell0 hx (j * 3 + 2) (by omega)
          have hfr2 := hx.frozenAt (j * 3 + 2)
          clear hx
          subst ea
          go_upto_region 7 with fail
          go_region_with (go_at_call 14; refine (num_wide k j (by omega) (by omega) (by omega) (by omega) _).mono ?_; rintro r wx ⟨rfl, rfl⟩)
          all_goals (
            go_wp2_with fail
            go_roundw
            case rel => exact ⟨j + 1, by go_num, by omega, HW.out.drew.step3 hS (by decide) hlt hlj HE1.out rfl⟩
            case measure => simp [intOf]; omega)
        · obtain rfl : j = rl rs k := by omega
          subst ea
          go_wp2
          go_roundw
          case rel => exact ⟨k + 1, by go_num, by omega, HW.out.next⟩
          case measure => simp [intOf]; omega
    · obtain rfl : k = rs.length := by omega
      have HO : Hid _ := Wm.out hS HW.out
      clear HW
      go_wp2
      go_loopw [7, 5, 6] (fun n one more wr => ∃ (k : Nat) (os ms : List Value), n = .int .i64 k ∧ k ≤ rs.length ∧ os.length = k ∧ ms.length = k ∧ Hid (Out 53 22 3 mkSp rs w0 wr k (.slice A rs.length cV) one more os ms)) (fun n _ _ _ => rs.length - (intOf n).toNat)
      case atStart => exact ⟨0, [], [], rfl, Nat.zero_le _, rfl, rfl, HO⟩
      case round =>
        clear HO hb hlt hk
        obtain ⟨k, os, ms, rfl, hk, hos', hms', HO⟩ := hrel
        have hos : Hid _ := hos'
        have hms : Hid _ := hms'
        clear hos' hms'
        have hb := HB.out _ HO.out.fr
        by_cases hlt : k < rs.length
        · have hLk := hL k
          obtain ⟨a, ea, q⟩ := bag_at HO.out.three.bag k hlt
          obtain ⟨A1, c1, e1, -⟩ := own_any (HO.out.row k hlt)
          have HA : Hid _ := HO.out.take hS hlt
          rw [e1] at q HA
          have HE1 : Hid _ := e1
          clear e1 HO
          go_wp2
          go_loopw [9, 8, 5] (fun i l one wr => ∃ (j : Nat) (os : List Value), i = .int .i64 j ∧ rl rs k ≤ j ∧ j ≤ rl rs k + 70 ∧ (j = rl rs k → os.length = k) ∧ (rl rs k < j → os.length = k + 1) ∧ Hid (Ap 53 22 3 mkSp rs w0 wr k (.slice A rs.length cV) one u6 os ms l j)) (fun i _ _ _ => rl rs k + 70 - (intOf i).toNat)
          case atStart => exact ⟨rl rs k, os, rfl, Nat.le_refl _, by omega, fun _ => hos.out, fun h => by omega, HA⟩
          case round =>
            clear HA hb q hos os
            obtain ⟨j, os, rfl, hj0, hj1, ho0', ho1', HA⟩ := hrel
            have ho0 : Hid _ := ho0'
            have ho1 : Hid _ := ho1'
            clear ho0' ho1'
            have hb := HB.out _ HA.out.out.fr
            obtain ⟨a', ea', q⟩ := bag_at HA.out.out.three.bag k hlt
            rw [ea] at ea'
            cases ea'
            rw [HE1.out] at q
            by_cases hlj : j < rl rs k + 70
            · have HA2 : Hid _ := HA.out.alloc (.cells #[.int .i64 (1048576 * (k : Int) + (j : Int) + 1), .int .i8 0, .int .i8 0] 53)
              by_cases hjl : j = rl rs k
              · have hOS : Hid _ := ho0.out hjl
                subst hjl
                go_wp2_with fail
                refine (num_wide k (rl rs k) (by omega) (by omega) (by omega) (by omega) _).mono ?_
                rintro r wr ⟨rfl, rfl⟩
                go_wp2_with (first | (at_builtin; refine wpList_append_two _ rfl (.tmp 79) (.tmp 84) 22 rfl 53 i0 (.agg #[.int .i64 0, .int .i8 0, .int .i8 0]) 3 16 Tryd.underlying22 hi hz0 hz1 hz2 rfl (by decide) _ (rl rs k) (marks mkSp k (rl rs k)) rfl HA2.out.cur ⟨wr.heap.size, 0, none⟩ 1 1 (mkSp k (rl rs k)) rfl rfl (fun j u hu => World.news_of_block (heap_alloc_new _ _) j u hu) (mkSp_one _ _) (by omega) (by unfold maxLen; omega) (by omega) ?_; intro g cap w2 hown hgrow hat; have HA3 : Hid _ := Ap.grow mkSp_len (by decide) (by decide) HA2.out hown hgrow hat; clear hown hgrow hat HA2 HA hb q; have hb := HB.out _ HA3.out.out.fr; obtain ⟨a', ea', q⟩ := bag_at HA3.out.out.three.bag k hlt; rw [ea] at ea'; cases ea'; rw [HE1.out] at q) | (at_builtin; refine wpList_append_two _ rfl (.tmp 96) (.tmp 98) 42 rfl 22 i1 (.slice none 0 0) 1 24 Tryd.underlying42 hy hy0 hy1 hy2 rfl (by decide) _ os.length os rfl (HA3.out.alloc _).out.three.one ⟨w2.heap.size, 0, none⟩ 1 1 [.slice (some ⟨g, 0, none⟩) (rl rs k + 1) cap] rfl rfl (fun j u hu => World.news_of_block (heap_alloc_new _ _) j u hu) (fun u hu => by cases hu with | head => rfl | tail _ h => cases h) (by omega) (by have := hOS.out; unfold maxLen; omega) (by have := hOS.out; omega) ?_; intro g2 cap2 w3 hown hgrow hat; have HA4 : Hid _ := Ap.addOne (by decide) (HA3.out.alloc _) rfl hOS.out hown hgrow hat; clear hown hgrow hat HA3 hb q))
                subst ea
                go_roundw
                case rel => exact ⟨rl rs k + 1, _, by go_num, by omega, by omega, fun h => by omega, fun _ => by rw [List.length_append, hOS.out]; rfl, HA4⟩
                case measure => simp [intOf]
              · have hx : ((j : Int) == (rl rs k : Int)) = false := by simpa using (fun h => hjl (by omega))
                go_wp2_with fail
                refine (num_wide k j (by omega) (by omega) (by omega) (by omega) _).mono ?_
                rintro r wr ⟨rfl, rfl⟩
                go_wp2_with (first | (at_builtin; refine wpList_append_two _ rfl (.tmp 79) (.tmp 84) 22 rfl 53 i0 (.agg #[.int .i64 0, .int .i8 0, .int .i8 0]) 3 16 Tryd.underlying22 hi hz0 hz1 hz2 rfl (by decide) _ j (marks mkSp k j) rfl HA2.out.cur ⟨wr.heap.size, 0, none⟩ 1 1 (mkSp k j) rfl rfl (fun j u hu => World.news_of_block (heap_alloc_new _ _) j u hu) (mkSp_one _ _) (by omega) (by unfold maxLen; omega) (by omega) ?_; intro g cap w2 hown hgrow hat; have HA3 : Hid _ := Ap.grow mkSp_len (by decide) (by decide) HA2.out hown hgrow hat; clear hown hgrow hat HA2 HA hb q; have hb := HB.out _ HA3.out.out.fr; obtain ⟨a', ea', q⟩ := bag_at HA3.out.out.three.bag k hlt; rw [ea] at ea'; cases ea'; rw [HE1.out] at q))
                subst ea
                go_roundw
                case rel => exact ⟨j + 1, os, by go_num, by omega, by omega, fun h => by omega, fun _ => ho1.out (by omega), HA3⟩
                case measure => simp [intOf]; omega
            · obtain rfl : j = rl rs k + 70 := by omega
              obtain ⟨Al, cl, rfl, -⟩ := own_any HA.out.cur
              go_wp2_with (at_builtin; refine wpList_append_two _ rfl (.tmp 100) (.tmp 102) 42 rfl 22 i1 (.slice none 0 0) 1 24 Tryd.underlying42 hy hy0 hy1 hy2 rfl (by decide) _ ms.length ms rfl (HA.out.alloc _).out.three.more ⟨wr.heap.size, 0, none⟩ 1 1 [.slice Al (rl rs k + 70) cl] rfl rfl (fun j u hu => World.news_of_block (heap_alloc_new _ _) j u hu) (fun u hu => by cases hu with | head => rfl | tail _ h => cases h) (by omega) (by have := hms.out; unfold maxLen; omega) (by have := hms.out; omega) ?_; intro g2 cap2 w3 hown hgrow hat; have HO : Hid _ := Ap.addMore (by decide) (HA.out.alloc _) rfl hms.out hown hgrow hat; clear hown hgrow hat HA hb q)
              subst ea
              go_roundw
              case rel => exact ⟨k + 1, os, _, by go_num, by omega, ho1.out (by omega), by rw [List.length_append, hms.out]; rfl, HO⟩
              case measure => simp [intOf]; omega
        · obtain rfl : k = rs.length := by omega
          clear hlt hk
          have h5 := HO.out.three.one
          have h6 := HO.out.three.more
          rw [hos.out] at h5
          rw [hms.out] at h6
          obtain ⟨A5, c5, rfl, -⟩ := own_any h5
          obtain ⟨A6, c6, rfl, -⟩ := own_any h6
          have H5 : Hid _ := h5
          have H6 : Hid _ := h6
          clear h5 h6
          go_wp2
          obtain ⟨wE, hwE⟩ : ∃ wE, wE = wr := ⟨_, rfl⟩
          subst hwE
          go_loopw [10] (fun n w2 => ∃ (k : Nat), n = .int .i64 k ∧ k ≤ rs.length ∧ Hid (Below wE.heap.size wE w2)) (fun n _ => rs.length - (intOf n).toNat)
          case atStart => exact ⟨0, rfl, Nat.zero_le _, Below.refl _ _⟩
          case round =>
            obtain ⟨k, rfl, hk, HBk⟩ := hrel
            by_cases hlt : k < rs.length
            · have hLk := hL k
              obtain ⟨a6, ea6, q6⟩ := outer_at H6.out k hlt
              obtain ⟨gm, cm, em, HM⟩ := cells_of mkSp_len (HO.out.mores k (by rw [hms.out]; exact hlt)) (by omega)
              obtain ⟨a5, ea5, q5⟩ := outer_at H5.out k hlt
              obtain ⟨go, co, eo, HO5⟩ := cells_of mkSp_len (HO.out.ones k (by rw [hos.out]; exact hlt)) (by omega)
              obtain ⟨a, ea, q⟩ := bag_at HO.out.three.bag k hlt
              obtain ⟨A1, c1, e1, -⟩ := own_any (HO.out.row k hlt)
              rw [em] at q6
              rw [eo] at q5
              rw [e1] at q
              have HE1 : Hid _ := e1
              have Q6 : Hid _ := q6
              have Q5 : Hid _ := q5
              have Q : Hid _ := q
              have QB : Hid _ := hb
              clear em eo e1
              have q6k := lkeep HBk.out q6
              go_wp2
              go_loopw [11] (fun i w2 => ∃ (j : Nat), i = .int .i64 j ∧ j ≤ rl rs k + 70 ∧ Hid (Below wE.heap.size wE w2)) (fun i _ => rl rs k + 70 - (intOf i).toNat)
              case atStart => exact ⟨0, rfl, Nat.zero_le _, HBk⟩
              case round =>
                clear q6k HBk
                obtain ⟨j, rfl, hj, HBk⟩ := hrel
                have k6 := lkeep HBk.out Q6.out
                have k5 := lkeep HBk.out Q5.out
                have kq := lkeep HBk.out Q.out
                have kb := lkeep HBk.out QB.out
                clear q6 q5 q hb
                by_cases hlj : j < rl rs k + 70
                · have m60 := lkeep HBk.out (HM.out j hlj 0 (by omega) _ rfl)
                  have m61 := lkeep HBk.out (HM.out j hlj 1 (by omega) _ rfl)
                  have m62 := lkeep HBk.out (HM.out j hlj 2 (by omega) _ rfl)
                  rw [Nat.add_zero] at m60
                  have HBA : Hid (Below wE.heap.size wE (wr.alloc (.cells #[.int .i64 (1048576 * (k : Int) + (j : Int) + 1), .int .i8 0, .int .i8 0] 53))) := lb_alloc HBk.out _
                  have k6A := lkeep HBA.out Q6.out
                  have k5A := lkeep HBA.out Q5.out
                  have kqA := lkeep HBA.out Q.out
                  have kbA := lkeep HBA.out QB.out
                  have n60 := lkeep HBA.out (HM.out j hlj 0 (by omega) _ rfl)
                  have n61 := lkeep HBA.out (HM.out j hlj 1 (by omega) _ rfl)
                  have n62 := lkeep HBA.out (HM.out j hlj 2 (by omega) _ rfl)
                  rw [Nat.add_zero] at n60
                  rcases Nat.lt_trichotomy j (rl rs k) with h1 | h1 | h1
                  · have hx : ((j : Int) == (rl rs k : Int)) = false := by simpa using (fun h => absurd h1 (by omega))
                    obtain ⟨g1, c1', e1, H1⟩ := cells_of mkSp_len (HO.out.row k hlt) (by omega)
                    rw [HE1.out] at e1
                    cases e1
                    have m10 := lkeep HBA.out (H1.out j h1 0 (by omega) _ rfl)
                    have m11 := lkeep HBA.out (H1.out j h1 1 (by omega) _ rfl)
                    have m12 := lkeep HBA.out (H1.out j h1 2 (by omega) _ rfl)
                    rw [Nat.add_zero] at m10
                    subst ea ea5 ea6
                    go_upto_region 31 with fail
                    (go_quiet ((go_at_call 14; exact Calls.quiet_of_same (num_wide k j (by omega) (by omega) (by omega) (by omega) _))))
                    go_upto_region 33 with fail
                    (go_quiet ((go_at_call 14; exact Calls.quiet_of_same (num_wide k j (by omega) (by omega) (by omega) (by omega) _))))
                    go_wp2
                    go_roundw
                    case rel => exact ⟨j + 1, by go_num, by omega, by have hs := HBk.out.size; repeat' (first | exact HBA.out | exact hs | refine below_drewN ?_ _ | refine Below.setCell ?_ ?_ _)⟩
                    case measure => simp [intOf]; omega
                  · have m50 := lkeep HBA.out (HO5.out j (by omega) 0 (by omega) _ rfl)
                    have m51 := lkeep HBA.out (HO5.out j (by omega) 1 (by omega) _ rfl)
                    have m52 := lkeep HBA.out (HO5.out j (by omega) 2 (by omega) _ rfl)
                    rw [Nat.add_zero] at m50
                    subst ea ea5 ea6 h1
                    go_upto_region 31 with fail
                    (go_quiet ((go_at_call 14; exact Calls.quiet_of_same (num_wide k (rl rs k) (by omega) (by omega) (by omega) (by omega) _))))
                    go_upto_region 33 with fail
                    (go_quiet ((go_at_call 14; exact Calls.quiet_of_same (num_wide k (rl rs k) (by omega) (by omega) (by omega) (by omega) _))))
                    go_wp2
                    go_roundw
                    case rel => exact ⟨rl rs k + 1, by go_num, by omega, by have hs := HBk.out.size; repeat' (first | exact HBA.out | exact hs | refine below_drewN ?_ _ | refine Below.setCell ?_ ?_ _)⟩
                    case measure => simp [intOf]
                  · have hx : ((j : Int) == (rl rs k : Int)) = false := by simpa using (fun h => absurd h1 (by omega))
                    subst ea ea5 ea6
                    go_upto_region 31 with fail
                    (go_quiet ((go_at_call 14; exact Calls.quiet_of_same (num_wide k j (by omega) (by omega) (by omega) (by omega) _))))
                    go_upto_region 33 with fail
                    (go_quiet ((go_at_call 14; exact Calls.quiet_of_same (num_wide k j (by omega) (by omega) (by omega) (by omega) _))))
                    go_wp2
                    go_roundw
                    case rel => exact ⟨j + 1, by go_num, by omega, by have hs := HBk.out.size; repeat' (first | exact HBA.out | exact hs | refine below_drewN ?_ _ | refine Below.setCell ?_ ?_ _)⟩
                    case measure => simp [intOf]; omega
                · obtain rfl : j = rl rs k + 70 := by omega
                  subst ea ea5 ea6
                  go_wp2
                  go_roundw
                  case rel => exact ⟨k + 1, by go_num, by omega, HBk⟩
                  case measure => simp [intOf]; omega
            · obtain rfl : k = rs.length := by omega
              go_wp2
              go_ret
              exact ⟨rfl, HO.out.fr.trans HBk.out⟩
theorem apartS (B : Nat) (f : Nat → Value) (rs : List (Value × Nat)) (w1 : World) (hb : BagIs w1 B f) (h0 : w1.ownsRow 0 22 1 (f 12) rs.length (rs.map Prod.fst)) (hnil : ∀ k, k ≠ 12 → k < 17 → f k = .slice none 0 0)
    (hR : ∀ m, m < rs.length → ∃ xs, w1.ownsRow 0 53 3 (rv rs m) (rl rs m) xs) (hS : Sep rs) (hN : rs.length ≤ 300) (hL : ∀ m, rl rs m ≤ 1048576) :
    Calls Tryd.prog 13 #[.pointer (some ⟨B, 0, none⟩)] w1 fun r w' => r = .returned (.bool true) ∧ Fr rs w1 w' := by
  have hB : ∀ m, m < rs.length → (rv rs m).ownBlock ≠ some B := fun m hm => by
    obtain ⟨xs, hx⟩ := hR m hm
    exact hb.off hx (by decide)
  have HN : ∀ w, Fr rs w1 w → ∀ k, k ≠ 12 → k < 17 → w.cell? ⟨B, k, none⟩ = some (.slice none 0 0) := fun w h k h1 h2 => h.cell (by rw [hb.cell k h2, hnil k h1 h2]) hB
  refine (apart_any B (fun k w => Fr rs w1 w ∧ (k ≤ 12 → w = w1)) ?_ w1 ⟨Fr.refl rs w1, fun _ => rfl⟩).mono fun r w' h => ⟨h.1, h.2.1⟩
  intro k hk w hF
  have hq : k = 0 ∨ k = 1 ∨ k = 2 ∨ k = 3 ∨ k = 4 ∨ k = 5 ∨ k = 6 ∨ k = 7 ∨ k = 8 ∨ k = 9 ∨ k = 10 ∨ k = 11 ∨ k = 12 ∨ k = 13 ∨ k = 14 ∨ k = 15 ∨ k = 16 := by omega
  rcases hq with rfl | rfl | rfl | rfl | rfl | rfl | rfl | rfl | rfl | rfl | rfl | rfl | rfl | rfl | rfl | rfl | rfl
  · obtain rfl := hF.2 (by omega)
    exact ((none_42 B w (HN w hF.1 0 (by omega) (by omega))).mono fun r w' h => ⟨h.1, by rw [h.2]; exact hF.1, fun _ => h.2⟩)
  · obtain rfl := hF.2 (by omega)
    exact ((none_43 B w (HN w hF.1 1 (by omega) (by omega))).mono fun r w' h => ⟨h.1, by rw [h.2]; exact hF.1, fun _ => h.2⟩)
  · obtain rfl := hF.2 (by omega)
    exact ((none_44 B w (HN w hF.1 2 (by omega) (by omega))).mono fun r w' h => ⟨h.1, by rw [h.2]; exact hF.1, fun _ => h.2⟩)
  · obtain rfl := hF.2 (by omega)
    exact ((none_45 B w (HN w hF.1 3 (by omega) (by omega))).mono fun r w' h => ⟨h.1, by rw [h.2]; exact hF.1, fun _ => h.2⟩)
  · obtain rfl := hF.2 (by omega)
    exact ((none_46 B w (HN w hF.1 4 (by omega) (by omega))).mono fun r w' h => ⟨h.1, by rw [h.2]; exact hF.1, fun _ => h.2⟩)
  · obtain rfl := hF.2 (by omega)
    exact ((none_47 B w (HN w hF.1 5 (by omega) (by omega))).mono fun r w' h => ⟨h.1, by rw [h.2]; exact hF.1, fun _ => h.2⟩)
  · obtain rfl := hF.2 (by omega)
    exact ((none_48 B w (HN w hF.1 6 (by omega) (by omega))).mono fun r w' h => ⟨h.1, by rw [h.2]; exact hF.1, fun _ => h.2⟩)
  · obtain rfl := hF.2 (by omega)
    exact ((none_49 B w (HN w hF.1 7 (by omega) (by omega))).mono fun r w' h => ⟨h.1, by rw [h.2]; exact hF.1, fun _ => h.2⟩)
  · obtain rfl := hF.2 (by omega)
    exact ((none_50 B w (HN w hF.1 8 (by omega) (by omega))).mono fun r w' h => ⟨h.1, by rw [h.2]; exact hF.1, fun _ => h.2⟩)
  · obtain rfl := hF.2 (by omega)
    exact ((none_51 B w (HN w hF.1 9 (by omega) (by omega))).mono fun r w' h => ⟨h.1, by rw [h.2]; exact hF.1, fun _ => h.2⟩)
  · obtain rfl := hF.2 (by omega)
    exact ((none_52 B w (HN w hF.1 10 (by omega) (by omega))).mono fun r w' h => ⟨h.1, by rw [h.2]; exact hF.1, fun _ => h.2⟩)
  · obtain rfl := hF.2 (by omega)
    exact ((none_53 B w (HN w hF.1 11 (by omega) (by omega))).mono fun r w' h => ⟨h.1, by rw [h.2]; exact hF.1, fun _ => h.2⟩)
  · obtain rfl := hF.2 (by omega)
    obtain ⟨A, c, e, -⟩ := own_any h0
    have hc := hb.cell 12 (by omega)
    rw [e] at hc h0
    exact (apartspots_any B A c rs w hc h0 hR hS hB hN hL).mono fun r w' h => ⟨h.1, h.2, fun e => by omega⟩
  · exact ((none_55 B w (HN w hF.1 13 (by omega) (by omega))).mono fun r w' h => ⟨h.1, by rw [h.2]; exact hF.1, fun e => by omega⟩)
  · exact ((none_56 B w (HN w hF.1 14 (by omega) (by omega))).mono fun r w' h => ⟨h.1, by rw [h.2]; exact hF.1, fun e => by omega⟩)
  · exact ((none_57 B w (HN w hF.1 15 (by omega) (by omega))).mono fun r w' h => ⟨h.1, by rw [h.2]; exact hF.1, fun e => by omega⟩)
  · exact ((none_58 B w (HN w hF.1 16 (by omega) (by omega))).mono fun r w' h => ⟨h.1, by rw [h.2]; exact hF.1, fun e => by omega⟩)

end Go.Proofs.YtkdafkdogmemcaaDoor
