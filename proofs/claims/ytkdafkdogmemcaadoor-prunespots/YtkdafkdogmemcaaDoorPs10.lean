/-
  The document's Apart.
-/
import Derived.Test.YtkdafkdogmemcaaDoorProg
import Derived.WalkKit
import Derived.WalkSpells
import Derived.WalkLawsBesides
import Derived.RowKit3
import Derived.Below
import Derived.Deep.QuietTactic
import Derived.BigQuiet
import Derived.WalkSmall
import Derived.Laws.Rows
import Derived.Test.YtkdafkdogmemcaaDoorPs09
import Derived.OwnWalk
import Derived.Deep.RegionHeld3
import Derived.Deep.AppendLies
namespace Go.Proofs.YtkdafkdogmemcaaDoor
open Go.RowKit

def SpsP (L : List Spt) (w : World) (e : Ending) (w' : World) : Prop := ∃ (A : Option Addr) (c : Nat), e = .returned (.slice A L.length c) ∧ w'.ownsRow w.heap.size 53 3 (.slice A L.length c) L.length (spNews L) ∧ Below w.heap.size w w'
set_option maxRecDepth 100000 in
set_option maxHeartbeats 8000000 in
theorem refapart_any (n : Int) (A : Option Addr) (c : Nat) (l : List Spt) (w : World) (hA : SpAt w A l) (hl : l.length ≤ 1048576) :
    Calls Tryd.prog 8 #[.int .i64 n, .slice A l.length c] w (SpsP (apR n l) w) := by
  have CW := within_any n A c l w hA hl
  obtain ⟨iB, hi, hz0, hz1, hz2⟩ := infoSp
  cases hwi : wiB n l with
  | false =>
    have HR : Hid (apR n l = []) := by unfold Hid apR; rw [hwi, if_neg (by simp)]
    rw [hwi] at CW
    rw [HR.out]
    clear hA HR hwi
    go_enter Tryd.func8, Tryd.ntmps8
    go_wp2_with fail
    refine CW.mono ?_
    rintro e w1 ⟨rfl, rfl⟩
    go_wp2
    go_ret
    exact ⟨none, 0, rfl, World.ownsRow_nil _ _ _ _, Below.refl _ _⟩
  | true =>
    obtain ⟨hm, hn1, hn2⟩ := wi_mem hwi
    have HM : Hid (∀ s ∈ l, 0 ≤ s.1 ∧ s.1 ≤ 16384) := hm
    have HR : Hid (apR n l = apG n [] l) := by unfold Hid apR; rw [hwi, if_pos rfl]
    rw [hwi] at CW
    rw [HR.out]
    have HA : Hid (SpAt w A l) := hA
    clear hA HR hwi hm
    go_enter Tryd.func8, Tryd.ntmps8
    go_wp2_with fail
    refine CW.mono ?_
    rintro e w1 ⟨rfl, rfl⟩
    clear CW
    go_wp2
    go_loopw [5, 6] (fun vo vi wr => ∃ (i : Nat) (O : List Spt) (X : Option Addr) (ko : Nat), vi = .int .i64 (i : Int) ∧ vo = .slice X O.length ko ∧ i ≤ l.length ∧ O.length ≤ i ∧ Hid (apG n O (l.drop i) = apG n [] l) ∧ Hid (∀ s ∈ O, s ∈ l) ∧ Hid (wr.ownsRow w1.heap.size 53 3 (.slice X O.length ko) O.length (spNews O)) ∧ Hid (Below w1.heap.size w1 wr)) (fun _ vi _ => l.length - (intOf vi).toNat)
    case atStart => exact ⟨0, [], none, 0, rfl, rfl, Nat.zero_le _, Nat.le_refl _, rfl, (fun s h => by cases h), World.ownsRow_nil _ _ _ _, Below.refl _ _⟩
    case round =>
      obtain ⟨i, O, X, ko, rfl, rfl, hin, hOi, HG, HS, HO, HB⟩ := hrel
      by_cases hlt : i < l.length
      · have hlt' : (i : Int) < (l.length : Int) := by omega
        have HX : Hid (SpAt wr X O) := row_sps HO.out
        have hsm := HM.out _ (spt_mem hlt)
        have HGy : Hid (O.any (fun o => ovl n o (spt l i)) = false → apG n (O ++ [spt l i]) (l.drop (i + 1)) = apG n [] l) := fun h => by rw [← apG_yes hlt h]; exact HG.out
        have HGn : Hid (O.any (fun o => ovl n o (spt l i)) = true → apG n O (l.drop (i + 1)) = apG n [] l) := fun h => by rw [← apG_no hlt h]; exact HG.out
        have HSm : Hid (spt l i ∈ l) := spt_mem hlt
        have HAc : Hid (∀ Z, Below w1.heap.size w1 Z → ∃ a : Addr, A = some a ∧ Z.cell? (a.add (i * 3)) = some (.int .i64 (spt l i).1) ∧ Z.cell? ⟨(a.add (i * 3)).block, (a.add (i * 3)).off + 1, none⟩ = some (.int .i8 (spt l i).2.1) ∧ Z.cell? ⟨(a.add (i * 3)).block, (a.add (i * 3)).off + 2, none⟩ = some (.int .i8 (spt l i).2.2)) := fun Z hZ => (HA.out.keep hZ) i hlt
        clear HG
        generalize spt l i = s at *
        obtain ⟨s0, s1, s2⟩ := s
        simp only at hsm
        go_wp2
        go_loopw [7, 8] (fun vf vk ws => ∃ (k : Nat) (b : Bool), vk = .int .i64 (k : Int) ∧ vf = .bool b ∧ k ≤ O.length ∧ Hid (b = !((O.take k).any fun o => ovl n o (s0, s1, s2))) ∧ Hid (Below wr.heap.size wr ws)) (fun _ vk _ => O.length - (intOf vk).toNat)
        case atStart => exact ⟨0, true, rfl, rfl, Nat.zero_le _, rfl, Below.refl _ _⟩
        case round =>
          obtain ⟨k, b, rfl, rfl, hk, Hb, HW⟩ := hrel
          obtain ⟨ws, hws⟩ : ∃ ws, ws = wr := ⟨_, rfl⟩
          subst hws
          by_cases hlk : k < O.length
          · have hlk' : (k : Int) < (O.length : Int) := by omega
            obtain ⟨x, ex, o1, o2, o3⟩ := (HX.out.keep HW.out) k hlk
            subst ex
            obtain ⟨a, ea, p1, p2, p3⟩ := HAc.out ws (lb_trans HB.out HW.out)
            subst ea
            have HAn := any_step (n := n) (s := (s0, s1, s2)) hlk
            have hom := HM.out _ (HS.out _ (spt_mem hlk))
            cases b with
            | false =>
              have HT : Hid (false = !((O.take (k + 1)).any fun o => ovl n o (s0, s1, s2))) := by
                have h1 := Hb.out
                unfold Hid
                rw [HAn]
                cases h2 : (O.take k).any (fun o => ovl n o (s0, s1, s2)) with
                | true => rfl
                | false => rw [h2] at h1; cases h1
              clear HAn hom
              generalize spt O k = o at *
              go_upto_region 11 with fail
              go_big_quiet (fail)
              go_wp2
              go_roundw
              case rel => exact ⟨k + 1, false, by go_num, rfl, by omega, HT, by first | exact HW | exact below_drewN HW.out _ | exact HW.out.drew⟩
              case measure => simp [intOf]; omega
            | true =>
              obtain ⟨bv, hbv⟩ : ∃ bv, Hid (ovl n (spt O k) (s0, s1, s2) = bv) := ⟨_, rfl⟩
              have HT : Hid ((!bv) = !((O.take (k + 1)).any fun o => ovl n o (s0, s1, s2))) := by
                have h1 := Hb.out
                unfold Hid
                rw [HAn, hbv.out]
                cases h2 : (O.take k).any (fun o => ovl n o (s0, s1, s2)) with
                | true => rw [h2] at h1; cases h1
                | false => rfl
              clear HAn
              generalize spt O k = o at *
              obtain ⟨o0, o4, o5⟩ := o
              simp only at hom
              have C := fun Z => overlap_any n o0 o4 o5 s0 s1 s2 Z ⟨hn1, hn2⟩ hom hsm
              rw [hbv.out] at C
              replace o1 : ws.cell? (x.add (k * 3)) = some (.int .i64 o0) := o1
              replace o2 : ws.cell? ⟨(x.add (k * 3)).block, (x.add (k * 3)).off + 1, none⟩ = some (.int .i8 o4) := o2
              replace o3 : ws.cell? ⟨(x.add (k * 3)).block, (x.add (k * 3)).off + 2, none⟩ = some (.int .i8 o5) := o3
              replace p1 : ws.cell? (a.add (i * 3)) = some (.int .i64 s0) := p1
              replace p2 : ws.cell? ⟨(a.add (i * 3)).block, (a.add (i * 3)).off + 1, none⟩ = some (.int .i8 s1) := p2
              replace p3 : ws.cell? ⟨(a.add (i * 3)).block, (a.add (i * 3)).off + 2, none⟩ = some (.int .i8 s2) := p3
              have HC : Hid (∀ Z, Below ws.heap.size ws Z → (Z.cell? (x.add (k * 3)) = some (.int .i64 o0) ∧ Z.cell? ⟨(x.add (k * 3)).block, (x.add (k * 3)).off + 1, none⟩ = some (.int .i8 o4) ∧ Z.cell? ⟨(x.add (k * 3)).block, (x.add (k * 3)).off + 2, none⟩ = some (.int .i8 o5)) ∧ Z.cell? (a.add (i * 3)) = some (.int .i64 s0) ∧ Z.cell? ⟨(a.add (i * 3)).block, (a.add (i * 3)).off + 1, none⟩ = some (.int .i8 s1) ∧ Z.cell? ⟨(a.add (i * 3)).block, (a.add (i * 3)).off + 2, none⟩ = some (.int .i8 s2)) := fun Z hZ => ⟨⟨lkeep hZ o1, lkeep hZ o2, lkeep hZ o3⟩, lkeep hZ p1, lkeep hZ p2, lkeep hZ p3⟩
              have BX : Below ws.heap.size ws ws.drew := (Below.refl _ _).drew
              clear hom hsm hbv
              go_upto_region 11 with fail
              go_region_held3 (fun Z => (Z.cell? (x.add (k * 3)) = some (.int .i64 o0) ∧ Z.cell? ⟨(x.add (k * 3)).block, (x.add (k * 3)).off + 1, none⟩ = some (.int .i8 o4) ∧ Z.cell? ⟨(x.add (k * 3)).block, (x.add (k * 3)).off + 2, none⟩ = some (.int .i8 o5)) ∧ Z.cell? (a.add (i * 3)) = some (.int .i64 s0) ∧ Z.cell? ⟨(a.add (i * 3)).block, (a.add (i * 3)).off + 1, none⟩ = some (.int .i8 s1) ∧ Z.cell? ⟨(a.add (i * 3)).block, (a.add (i * 3)).off + 2, none⟩ = some (.int .i8 s2)) (first | exact HC.out _ (Below.refl _ _) | exact HC.out _ (lb_trans BX hb5) | exact HC.out _ BX) (first | (go_at_call 19; refine (C _).mono ?_; rintro e w5 ⟨rfl, hb5⟩))
              have HW5 : Hid (Below wr.heap.size wr w5) := lb_trans HW.out (lb_trans BX hb5)
              clear hb5 BX C HC o1 o2 o3 p1 p2 p3
              go_wp2
              go_roundw
              case rel => exact ⟨k + 1, !bv, by go_num, rfl, by omega, HT, HW5⟩
              case measure => simp [intOf]; omega
          · obtain rfl : k = O.length := by omega
            have hlk' : ¬ (O.length : Int) < (O.length : Int) := by omega
            rw [List.take_length] at Hb
            have HBs : Hid (Below w1.heap.size w1 ws) := lb_trans HB.out HW.out
            have HOs : Hid (ws.ownsRow w1.heap.size 53 3 (.slice X O.length ko) O.length (spNews O)) := row_keep HO.out HW.out
            obtain ⟨a, ea, p1, p2, p3⟩ := HAc.out ws HBs.out
            subst ea
            have hOl : O.length ≤ 1048576 := by omega
            cases b with
            | false =>
              have HG2 : Hid (apG n O (l.drop (i + 1)) = apG n [] l) := HGn.out (by
                have h1 := Hb.out
                cases h2 : O.any (fun o => ovl n o (s0, s1, s2)) with
                | true => rfl
                | false => rw [h2] at h1; cases h1)
              clear Hb HGn HGy HO HB HW HX p1 p2 p3
              go_wp2
              exact ⟨⟨i + 1, O, X, ko, by go_num, rfl, by omega, by omega, HG2, HS, HOs, HBs⟩, by simp [intOf]; omega⟩
            | true =>
              have HG2 : Hid (apG n (O ++ [(s0, s1, s2)]) (l.drop (i + 1)) = apG n [] l) := HGy.out (by
                have h1 := Hb.out
                cases h2 : O.any (fun o => ovl n o (s0, s1, s2)) with
                | false => rfl
                | true => rw [h2] at h1; cases h1)
              have HS2 : Hid (∀ s ∈ O ++ [(s0, s1, s2)], s ∈ l) := fun s hs => by
                rcases List.mem_append.1 hs with h | h
                · exact HS.out s h
                · rw [List.mem_singleton.1 h]; exact HSm.out
              replace p1 : ws.cell? (a.add (i * 3)) = some (.int .i64 s0) := p1
              replace p2 : ws.cell? ⟨(a.add (i * 3)).block, (a.add (i * 3)).off + 1, none⟩ = some (.int .i8 s1) := p2
              replace p3 : ws.cell? ⟨(a.add (i * 3)).block, (a.add (i * 3)).off + 2, none⟩ = some (.int .i8 s2) := p3
              have HBa : Hid (Below w1.heap.size w1 (ws.alloc (.cells #[.int .i64 s0, .int .i8 s1, .int .i8 s2] 53))) := lb_alloc HBs.out _
              have HRa : Hid ((ws.alloc (.cells #[.int .i64 s0, .int .i8 s1, .int .i8 s2] 53)).ownsRow w1.heap.size 53 3 (.slice X O.length ko) O.length (spNews O)) := row_keep HOs.out (lb_alloc (Below.refl _ _) _)
              clear Hb HGn HGy HO HB HW HX HS
              go_wp2_with (at_builtin; go_loud (refine wpList_append_own _ rfl (.tmp 41) (.tmp 46) 22 rfl w1.heap.size 53 iB (.agg #[.int .i64 0, .int .i8 0, .int .i8 0]) 3 16 Tryd.underlying22 hi hz0 hz1 hz2 rfl (by decide) (.slice X O.length ko) O.length (spNews O) rfl HRa.out ⟨ws.heap.size, 0, none⟩ 1 1 [.int .i64 s0, .int .i8 s1, .int .i8 s2] rfl rfl (fun j u hu => World.news_of_block (heap_alloc_new _ _) j u hu) (sp_oneI s0 s1 s2) (by unfold maxLen; omega) (by omega) HBa.out.size ?_; intro v3 w6 hown hgrow _; have HB6 : Hid (Below w1.heap.size w1 w6) := HBa.out.grown hgrow HBa.out.size (fun b hb => (HRa.out.lt b hb).1); have HR6 : Hid (w6.ownsRow w1.heap.size 53 3 v3 (O.length + 1) (spNews O ++ [.int .i64 s0, .int .i8 s1, .int .i8 s2])) := hown; clear hown hgrow))
              obtain ⟨X6, k6, rfl, -⟩ := own_formS HR6.out
              have HR7 : Hid (w6.ownsRow w1.heap.size 53 3 (.slice X6 (O ++ [(s0, s1, s2)]).length k6) (O ++ [(s0, s1, s2)]).length (spNews (O ++ [(s0, s1, s2)]))) := by
                unfold Hid
                rw [spNews_app, List.length_append]
                exact HR6.out
              exact ⟨⟨i + 1, O ++ [(s0, s1, s2)], X6, k6, by go_num, by rw [List.length_append]; rfl, by omega, by rw [List.length_append]; show O.length + 1 ≤ i + 1; omega, HG2, HS2, HR7, HB6⟩, by simp [intOf]; omega⟩
      · obtain rfl : i = l.length := by omega
        have hlt' : ¬ (l.length : Int) < (l.length : Int) := by omega
        have HV : Hid (apG n [] l = O) := by
          have h1 := HG.out
          rw [List.drop_length] at h1
          exact h1.symm
        have HF : Hid (SpsP (apG n [] l) w1 (.returned (.slice X O.length ko)) wr) := by
          unfold Hid
          rw [HV.out]
          exact ⟨X, ko, rfl, HO.out, HB.out⟩
        clear HG HV HO HB
        go_wp2
        go_ret
        exact HF.out

end Go.Proofs.YtkdafkdogmemcaaDoor
