/-
  A bag of lists of ints: one more, apart.
-/
import Derived.Test.YtkdafkdogmemcaaDoorProg
import Derived.Deep.Cut
import Derived.Deep.RegionWith
import Derived.WalkKit
import Derived.WalkSpells
import Derived.WalkLawsBesides
import Derived.RowKit3
import Derived.Below
import Derived.Deep.QuietTactic
import Derived.BigQuiet
import Derived.WalkSmall
import Derived.Laws.Rows
import Derived.Test.YtkdafkdogmemcaaDoorPs14
import Derived.Test.YtkdafkdogmemcaaDoorPs15
import Derived.Test.YtkdafkdogmemcaaDoorPs16
import Derived.Test.YtkdafkdogmemcaaDoorPs13
namespace Go.Proofs.YtkdafkdogmemcaaDoor
open Go.RowKit

theorem infoO30 : ∃ i, Tryd.prog.info? 55 = some i ∧ i.zero = some (.slice none 0 0) ∧ i.size = 1 ∧ i.bytes = 24 :=
  ⟨(Tryd.prog.info? 55).get (by kernel_rfl), by kernel_rfl, by kernel_rfl, by kernel_rfl, by kernel_rfl⟩
set_option maxRecDepth 100000 in
set_option maxHeartbeats 4000000 in
theorem apartints_any (B : Nat) (A : Option Addr) (cV : Nat) (rs : List (Value × Nat)) (w0 : World)
    (hbag : w0.cell? ⟨B, 1, none⟩ = some (.slice A rs.length cV)) (hV : w0.ownsRow 0 55 1 (.slice A rs.length cV) rs.length (rs.map Prod.fst))
    (hR : ∀ m, m < rs.length → ∃ xs, w0.ownsRow 0 3 1 (rv rs m) (rl rs m) xs) (hS : Sep rs) (hB : ∀ m, m < rs.length → (rv rs m).ownBlock ≠ some B)
    (hN : rs.length ≤ 300) (hL : ∀ m, rl rs m ≤ 1048576) :
    Calls Tryd.prog 24 #[.pointer (some ⟨B, 0, none⟩)] w0 fun r w' => r = .returned (.bool true) ∧ Fr rs w0 w' := by
  obtain ⟨i0, hi, hz0, hz1, hz2⟩ := infoI3
  obtain ⟨i1, hy, hy0, hy1, hy2⟩ := infoO30
  have HB : Hid (∀ w, Fr rs w0 w → w.cell? ⟨B, 1, none⟩ = some (.slice A rs.length cV)) := fun w h => h.cell hbag hB
  have HW : Hid (Wm 3 55 1 mkL rs (.slice A rs.length cV) w0 w0 0 0) := Wm.start hV hR
  clear hbag hV hR hB
  go_enter Tryd.func24, Tryd.ntmps24
  go_wp2
  go_loopw [3] (fun n wr => ∃ k : Nat, n = .int .i64 k ∧ k ≤ rs.length ∧ Hid (Wm 3 55 1 mkL rs (.slice A rs.length cV) w0 wr k 0)) (fun n _ => rs.length - (intOf n).toNat)
  case atStart => exact ⟨0, rfl, Nat.zero_le _, HW⟩
  case round =>
    clear HW
    obtain ⟨k, rfl, hk, HW⟩ := hrel
    have hb := HB.out _ HW.out.fr
    by_cases hlt : k < rs.length
    · have hLk := hL k
      obtain ⟨a, ea, q⟩ := bag_at HW.out.bag k hlt
      obtain ⟨xs, hx⟩ := HW.out.row hlt
      obtain ⟨A1, c1, e1, -⟩ := own_any hx
      rw [e1] at q
      have HE1 : Hid _ := e1
      clear hx e1
      go_wp2
      go_loopw [4] (fun i wr => ∃ j : Nat, i = .int .i64 j ∧ j ≤ rl rs k ∧ Hid (Wm 3 55 1 mkL rs (.slice A rs.length cV) w0 wr k j)) (fun i _ => rl rs k - (intOf i).toNat)
      case atStart => exact ⟨0, rfl, Nat.zero_le _, HW⟩
      case round =>
        clear HW hb q
        obtain ⟨j, rfl, hj, HW⟩ := hrel
        have hb := HB.out _ HW.out.fr
        obtain ⟨a', ea', q⟩ := bag_at HW.out.bag k hlt
        rw [ea] at ea'
        cases ea'
        rw [HE1.out] at q
        by_cases hlj : j < rl rs k
        · obtain ⟨xs, hx⟩ := HW.out.row hlt
          rw [HE1.out] at hx
          obtain ⟨g, cap, e2, -, -⟩ := hx.form (by omega)
          cases e2
          obtain ⟨u, hu⟩ := row_cell0 hx j (by omega)
          have hfr := hx.frozenAt j
          clear hx
          subst ea
          go_upto_region 7 with fail
          go_region_with (go_at_call 14; refine (num_wide k j (by omega) (by omega) (by omega) (by omega) _).mono ?_; rintro r wx ⟨rfl, rfl⟩)
          all_goals (
            go_wp2_with fail
            go_roundw
            case rel => exact ⟨j + 1, by go_num, by omega, HW.out.drew.step1 hS (by decide) hlt hlj HE1.out rfl⟩
            case measure => simp [intOf]; omega)
        · obtain rfl : j = rl rs k := by omega
          subst ea
          go_wp2
          go_roundw
          case rel => exact ⟨k + 1, by go_num, by omega, HW.out.next⟩
          case measure => simp [intOf]; omega
    · obtain rfl : k = rs.length := by omega
      have HO : Hid _ := Wm.out hS HW.out
      clear HW
      go_wp2
      go_loopw [7, 5, 6] (fun n one more wr => ∃ (k : Nat) (os ms : List Value), n = .int .i64 k ∧ k ≤ rs.length ∧ os.length = k ∧ ms.length = k ∧ Hid (Out 3 55 1 mkL rs w0 wr k (.slice A rs.length cV) one more os ms)) (fun n _ _ _ => rs.length - (intOf n).toNat)
      case atStart => exact ⟨0, [], [], rfl, Nat.zero_le _, rfl, rfl, HO⟩
      case round =>
        clear HO hb hlt hk
        obtain ⟨k, os, ms, rfl, hk, hos', hms', HO⟩ := hrel
        have hos : Hid _ := hos'
        have hms : Hid _ := hms'
        clear hos' hms'
        have hb := HB.out _ HO.out.fr
        by_cases hlt : k < rs.length
        · have hLk := hL k
          obtain ⟨a, ea, q⟩ := bag_at HO.out.three.bag k hlt
          obtain ⟨A1, c1, e1, -⟩ := own_any (HO.out.row k hlt)
          have HA : Hid _ := HO.out.take hS hlt
          rw [e1] at q HA
          have HE1 : Hid _ := e1
          clear e1 HO
          go_wp2
          go_loopw [9, 8, 5] (fun i l one wr => ∃ (j : Nat) (os : List Value), i = .int .i64 j ∧ rl rs k ≤ j ∧ j ≤ rl rs k + 70 ∧ (j = rl rs k → os.length = k) ∧ (rl rs k < j → os.length = k + 1) ∧ Hid (Ap 3 55 1 mkL rs w0 wr k (.slice A rs.length cV) one u6 os ms l j)) (fun i _ _ _ => rl rs k + 70 - (intOf i).toNat)
          case atStart => exact ⟨rl rs k, os, rfl, Nat.le_refl _, by omega, fun _ => hos.out, fun h => by omega, HA⟩
          case round =>
            clear HA hb q hos os
            obtain ⟨j, os, rfl, hj0, hj1, ho0', ho1', HA⟩ := hrel
            have ho0 : Hid _ := ho0'
            have ho1 : Hid _ := ho1'
            clear ho0' ho1'
            have hb := HB.out _ HA.out.out.fr
            obtain ⟨a', ea', q⟩ := bag_at HA.out.out.three.bag k hlt
            rw [ea] at ea'
            cases ea'
            rw [HE1.out] at q
            by_cases hlj : j < rl rs k + 70
            · have HA2 : Hid _ := HA.out.alloc (.cells #[.int .i64 (1048576 * (k : Int) + (j : Int) + 1)] 3)
              by_cases hjl : j = rl rs k
              · have hOS : Hid _ := ho0.out hjl
                subst hjl
                go_wp2_with fail
                refine (num_wide k (rl rs k) (by omega) (by omega) (by omega) (by omega) _).mono ?_
                rintro r wr ⟨rfl, rfl⟩
                go_wp2_with (first | (at_builtin; refine wpList_append_two _ rfl (.tmp 78) (.tmp 82) 55 rfl 3 i0 (.int .i64 0) 1 8 Tryd.underlying55 hi hz0 hz1 hz2 rfl (by decide) _ (rl rs k) (marks mkL k (rl rs k)) rfl HA2.out.cur ⟨wr.heap.size, 0, none⟩ 1 1 (mkL k (rl rs k)) rfl rfl (fun j u hu => World.news_of_block (heap_alloc_new _ _) j u hu) (fun u hu => by cases hu with | head => rfl | tail _ h => cases h) (by omega) (by unfold maxLen; omega) (by omega) ?_; intro g cap w2 hown hgrow hat; have HA3 : Hid _ := Ap.grow mkL_len (by decide) (by decide) HA2.out hown hgrow hat; clear hown hgrow hat HA2 HA hb q; have hb := HB.out _ HA3.out.out.fr; obtain ⟨a', ea', q⟩ := bag_at HA3.out.out.three.bag k hlt; rw [ea] at ea'; cases ea'; rw [HE1.out] at q) | (at_builtin; refine wpList_append_two _ rfl (.tmp 94) (.tmp 96) 31 rfl 55 i1 (.slice none 0 0) 1 24 Tryd.underlying31 hy hy0 hy1 hy2 rfl (by decide) _ os.length os rfl (HA3.out.alloc _).out.three.one ⟨w2.heap.size, 0, none⟩ 1 1 [.slice (some ⟨g, 0, none⟩) (rl rs k + 1) cap] rfl rfl (fun j u hu => World.news_of_block (heap_alloc_new _ _) j u hu) (fun u hu => by cases hu with | head => rfl | tail _ h => cases h) (by omega) (by have := hOS.out; unfold maxLen; omega) (by have := hOS.out; omega) ?_; intro g2 cap2 w3 hown hgrow hat; have HA4 : Hid _ := Ap.addOne (by decide) (HA3.out.alloc _) rfl hOS.out hown hgrow hat; clear hown hgrow hat HA3 hb q))
                subst ea
                go_roundw
                case rel => exact ⟨rl rs k + 1, _, by go_num, by omega, by omega, fun h => by omega, fun _ => by rw [List.length_append, hOS.out]; rfl, HA4⟩
                case measure => simp [intOf]
              · have hx : ((j : Int) == (rl rs k : Int)) = false := by simpa using (fun h => hjl (by omega))
                go_wp2_with fail
                refine (num_wide k j (by omega) (by omega) (by omega) (by omega) _).mono ?_
                rintro r wr ⟨rfl, rfl⟩
                go_wp2_with (first | (at_builtin; refine wpList_append_two _ rfl (.tmp 78) (.tmp 82) 55 rfl 3 i0 (.int .i64 0) 1 8 Tryd.underlying55 hi hz0 hz1 hz2 rfl (by decide) _ j (marks mkL k j) rfl HA2.out.cur ⟨wr.heap.size, 0, none⟩ 1 1 (mkL k j) rfl rfl (fun j u hu => World.news_of_block (heap_alloc_new _ _) j u hu) (fun u hu => by cases hu with | head => rfl | tail _ h => cases h) (by omega) (by unfold maxLen; omega) (by omega) ?_; intro g cap w2 hown hgrow hat; have HA3 : Hid _ := Ap.grow mkL_len (by decide) (by decide) HA2.out hown hgrow hat; clear hown hgrow hat HA2 HA hb q; have hb := HB.out _ HA3.out.out.fr; obtain ⟨a', ea', q⟩ := bag_at HA3.out.out.three.bag k hlt; rw [ea] at ea'; cases ea'; rw [HE1.out] at q))
                subst ea
                go_roundw
                case rel => exact ⟨j + 1, os, by go_num, by omega, by omega, fun h => by omega, fun _ => ho1.out (by omega), HA3⟩
                case measure => simp [intOf]; omega
            · obtain rfl : j = rl rs k + 70 := by omega
              obtain ⟨Al, cl, rfl, -⟩ := own_any HA.out.cur
              go_wp2_with (at_builtin; refine wpList_append_two _ rfl (.tmp 98) (.tmp 100) 31 rfl 55 i1 (.slice none 0 0) 1 24 Tryd.underlying31 hy hy0 hy1 hy2 rfl (by decide) _ ms.length ms rfl (HA.out.alloc _).out.three.more ⟨wr.heap.size, 0, none⟩ 1 1 [.slice Al (rl rs k + 70) cl] rfl rfl (fun j u hu => World.news_of_block (heap_alloc_new _ _) j u hu) (fun u hu => by cases hu with | head => rfl | tail _ h => cases h) (by omega) (by have := hms.out; unfold maxLen; omega) (by have := hms.out; omega) ?_; intro g2 cap2 w3 hown hgrow hat; have HO : Hid _ := Ap.addMore (by decide) (HA.out.alloc _) rfl hms.out hown hgrow hat; clear hown hgrow hat HA hb q)
              subst ea
              go_roundw
              case rel => exact ⟨k + 1, os, _, by go_num, by omega, ho1.out (by omega), by rw [List.length_append, hms.out]; rfl, HO⟩
              case measure => simp [intOf]; omega
        · obtain rfl : k = rs.length := by omega
          clear hlt hk
          have h5 := HO.out.three.one
          have h6 := HO.out.three.more
          rw [hos.out] at h5
          rw [hms.out] at h6
          obtain ⟨A5, c5, rfl, -⟩ := own_any h5
          obtain ⟨A6, c6, rfl, -⟩ := own_any h6
          have H5 : Hid _ := h5
          have H6 : Hid _ := h6
          clear h5 h6
          go_wp2
          go_loopw [10] (fun n w2 => ∃ (k d : Nat), n = .int .i64 k ∧ k ≤ rs.length ∧ w2 = wr.drewN d) (fun n _ => rs.length - (intOf n).toNat)
          case atStart => exact ⟨0, 0, rfl, Nat.zero_le _, rfl⟩
          case round =>
            obtain ⟨k, d, rfl, hk, rfl⟩ := hrel
            by_cases hlt : k < rs.length
            · have hLk := hL k
              obtain ⟨a6, ea6, q6⟩ := outer_at H6.out k hlt
              obtain ⟨gm, cm, em, HM⟩ := cells_of mkL_len (HO.out.mores k (by rw [hms.out]; exact hlt)) (by omega)
              obtain ⟨a5, ea5, q5⟩ := outer_at H5.out k hlt
              obtain ⟨go, co, eo, HO5⟩ := cells_of mkL_len (HO.out.ones k (by rw [hos.out]; exact hlt)) (by omega)
              obtain ⟨a, ea, q⟩ := bag_at HO.out.three.bag k hlt
              obtain ⟨A1, c1, e1, -⟩ := own_any (HO.out.row k hlt)
              rw [em] at q6
              rw [eo] at q5
              rw [e1] at q
              have HE1 : Hid _ := e1
              clear em eo e1
              go_wp2
              go_loopw [11] (fun i w2 => ∃ (j d : Nat), i = .int .i64 j ∧ j ≤ rl rs k + 70 ∧ w2 = wr.drewN d) (fun i _ => rl rs k + 70 - (intOf i).toNat)
              case atStart => exact ⟨0, d, rfl, Nat.zero_le _, rfl⟩
              case round =>
                obtain ⟨j, d, rfl, hj, rfl⟩ := hrel
                by_cases hlj : j < rl rs k + 70
                · have m6 := HM.out j hlj 0 (by omega) _ rfl
                  rw [Nat.mul_one, Nat.add_zero] at m6
                  rcases Nat.lt_trichotomy j (rl rs k) with h1 | h1 | h1
                  · obtain ⟨g1, c1', e1, H1⟩ := cells_of mkL_len (HO.out.row k hlt) (by omega)
                    rw [HE1.out] at e1
                    cases e1
                    have m1 := H1.out j h1 0 (by omega) _ rfl
                    rw [Nat.mul_one, Nat.add_zero] at m1
                    have hx : ((j : Int) == (rl rs k : Int)) = false := by simpa using (fun h => absurd h1 (by omega))
                    subst ea ea5 ea6
                    go_wp2_with fail
                    refine (num_wide k j (by omega) (by omega) (by omega) (by omega) _).mono ?_
                    rintro r wx ⟨rfl, rfl⟩
                    go_wp2_with fail
                    refine (num_wide k j (by omega) (by omega) (by omega) (by omega) _).mono ?_
                    rintro r wx ⟨rfl, rfl⟩
                    go_wp2
                    go_roundw
                    case rel => exact ⟨j + 1, _, by go_num, by omega, rfl⟩
                    case measure => simp [intOf]; omega
                  · have m5 := HO5.out j (by omega) 0 (by omega) _ rfl
                    rw [Nat.mul_one, Nat.add_zero] at m5
                    subst ea ea5 ea6 h1
                    go_wp2_with fail
                    refine (num_wide k (rl rs k) (by omega) (by omega) (by omega) (by omega) _).mono ?_
                    rintro r wx ⟨rfl, rfl⟩
                    go_wp2_with fail
                    refine (num_wide k (rl rs k) (by omega) (by omega) (by omega) (by omega) _).mono ?_
                    rintro r wx ⟨rfl, rfl⟩
                    go_wp2
                    go_roundw
                    case rel => exact ⟨rl rs k + 1, _, by go_num, by omega, rfl⟩
                    case measure => simp [intOf]
                  · have hx : ((j : Int) == (rl rs k : Int)) = false := by simpa using (fun h => absurd h1 (by omega))
                    subst ea ea5 ea6
                    go_wp2_with fail
                    refine (num_wide k j (by omega) (by omega) (by omega) (by omega) _).mono ?_
                    rintro r wx ⟨rfl, rfl⟩
                    go_wp2_with fail
                    refine (num_wide k j (by omega) (by omega) (by omega) (by omega) _).mono ?_
                    rintro r wx ⟨rfl, rfl⟩
                    go_wp2
                    go_roundw
                    case rel => exact ⟨j + 1, _, by go_num, by omega, rfl⟩
                    case measure => simp [intOf]; omega
                · obtain rfl : j = rl rs k + 70 := by omega
                  subst ea ea5 ea6
                  go_wp2
                  go_roundw
                  case rel => exact ⟨k + 1, _, by go_num, by omega, rfl⟩
                  case measure => simp [intOf]; omega
            · obtain rfl : k = rs.length := by omega
              go_wp2
              go_ret
              exact ⟨rfl, HO.out.fr.os, HO.out.fr.tape, HO.out.fr.output, HO.out.fr.size, HO.out.fr.block⟩


theorem apartN (B : Nat) (f : Nat → Value) (rs : List (Value × Nat)) (w1 : World) (hb : BagIs w1 B f) (h0 : w1.ownsRow 0 55 1 (f 1) rs.length (rs.map Prod.fst)) (hnil : ∀ k, k ≠ 1 → k < 17 → f k = .slice none 0 0)
    (hR : ∀ m, m < rs.length → ∃ xs, w1.ownsRow 0 3 1 (rv rs m) (rl rs m) xs) (hS : Sep rs) (hN : rs.length ≤ 300) (hL : ∀ m, rl rs m ≤ 1048576) :
    Calls Tryd.prog 13 #[.pointer (some ⟨B, 0, none⟩)] w1 fun r w' => r = .returned (.bool true) ∧ Fr rs w1 w' := by
  have hB : ∀ m, m < rs.length → (rv rs m).ownBlock ≠ some B := fun m hm => by
    obtain ⟨xs, hx⟩ := hR m hm
    exact hb.off hx (by decide)
  have HN : ∀ w, Fr rs w1 w → ∀ k, k ≠ 1 → k < 17 → w.cell? ⟨B, k, none⟩ = some (.slice none 0 0) := fun w h k h1 h2 => h.cell (by rw [hb.cell k h2, hnil k h1 h2]) hB
  refine (apart_any B (fun k w => Fr rs w1 w ∧ (k ≤ 1 → w = w1)) ?_ w1 ⟨Fr.refl rs w1, fun _ => rfl⟩).mono fun r w' h => ⟨h.1, h.2.1⟩
  intro k hk w hF
  have hq : k = 0 ∨ k = 1 ∨ k = 2 ∨ k = 3 ∨ k = 4 ∨ k = 5 ∨ k = 6 ∨ k = 7 ∨ k = 8 ∨ k = 9 ∨ k = 10 ∨ k = 11 ∨ k = 12 ∨ k = 13 ∨ k = 14 ∨ k = 15 ∨ k = 16 := by omega
  rcases hq with rfl | rfl | rfl | rfl | rfl | rfl | rfl | rfl | rfl | rfl | rfl | rfl | rfl | rfl | rfl | rfl | rfl
  · obtain rfl := hF.2 (by omega)
    exact ((none_42 B w (HN w hF.1 0 (by omega) (by omega))).mono fun r w' h => ⟨h.1, by rw [h.2]; exact hF.1, fun _ => h.2⟩)
  · obtain rfl := hF.2 (by omega)
    obtain ⟨A, c, e, -⟩ := own_any h0
    have hc := hb.cell 1 (by omega)
    rw [e] at hc h0
    exact (apartints_any B A c rs w hc h0 hR hS hB hN hL).mono fun r w' h => ⟨h.1, h.2, fun e => by omega⟩
  · exact ((none_44 B w (HN w hF.1 2 (by omega) (by omega))).mono fun r w' h => ⟨h.1, by rw [h.2]; exact hF.1, fun e => by omega⟩)
  · exact ((none_45 B w (HN w hF.1 3 (by omega) (by omega))).mono fun r w' h => ⟨h.1, by rw [h.2]; exact hF.1, fun e => by omega⟩)
  · exact ((none_46 B w (HN w hF.1 4 (by omega) (by omega))).mono fun r w' h => ⟨h.1, by rw [h.2]; exact hF.1, fun e => by omega⟩)
  · exact ((none_47 B w (HN w hF.1 5 (by omega) (by omega))).mono fun r w' h => ⟨h.1, by rw [h.2]; exact hF.1, fun e => by omega⟩)
  · exact ((none_48 B w (HN w hF.1 6 (by omega) (by omega))).mono fun r w' h => ⟨h.1, by rw [h.2]; exact hF.1, fun e => by omega⟩)
  · exact ((none_49 B w (HN w hF.1 7 (by omega) (by omega))).mono fun r w' h => ⟨h.1, by rw [h.2]; exact hF.1, fun e => by omega⟩)
  · exact ((none_50 B w (HN w hF.1 8 (by omega) (by omega))).mono fun r w' h => ⟨h.1, by rw [h.2]; exact hF.1, fun e => by omega⟩)
  · exact ((none_51 B w (HN w hF.1 9 (by omega) (by omega))).mono fun r w' h => ⟨h.1, by rw [h.2]; exact hF.1, fun e => by omega⟩)
  · exact ((none_52 B w (HN w hF.1 10 (by omega) (by omega))).mono fun r w' h => ⟨h.1, by rw [h.2]; exact hF.1, fun e => by omega⟩)
  · exact ((none_53 B w (HN w hF.1 11 (by omega) (by omega))).mono fun r w' h => ⟨h.1, by rw [h.2]; exact hF.1, fun e => by omega⟩)
  · exact ((none_54 B w (HN w hF.1 12 (by omega) (by omega))).mono fun r w' h => ⟨h.1, by rw [h.2]; exact hF.1, fun e => by omega⟩)
  · exact ((none_55 B w (HN w hF.1 13 (by omega) (by omega))).mono fun r w' h => ⟨h.1, by rw [h.2]; exact hF.1, fun e => by omega⟩)
  · exact ((none_56 B w (HN w hF.1 14 (by omega) (by omega))).mono fun r w' h => ⟨h.1, by rw [h.2]; exact hF.1, fun e => by omega⟩)
  · exact ((none_57 B w (HN w hF.1 15 (by omega) (by omega))).mono fun r w' h => ⟨h.1, by rw [h.2]; exact hF.1, fun e => by omega⟩)
  · exact ((none_58 B w (HN w hF.1 16 (by omega) (by omega))).mono fun r w' h => ⟨h.1, by rw [h.2]; exact hF.1, fun e => by omega⟩)






end Go.Proofs.YtkdafkdogmemcaaDoor
