/-
  PruneMost.
-/
import Derived.Test.YtkdafkdogmemcaaProg
import Derived.WalkKit
import Derived.WalkSpells
import Derived.WalkLawsBesides
import Derived.RowKit3
import Derived.Below
import Derived.Deep.QuietTactic
import Derived.BigQuiet
import Derived.WalkSmall
import Derived.Laws.Rows
import Derived.Test.YtkdafkdogmemcaaPm10
import Derived.Deep.AppendLies
import Derived.OwnWalk
import Derived.Deep.RegionHeld3
namespace Go.Proofs.Ytkdafkdogmemcaa
open Go.RowKit

def BoolsAt (w : World) (A : Option Addr) (bs : List Bool) : Prop := ∀ i, i < bs.length → ∃ a : Addr, A = some a ∧ w.cell? (a.add i) = some (.bool (bs.getD i false))
set_option maxRecDepth 100000 in
set_option maxHeartbeats 16000000 in
theorem lawMost20 (n : Int) (A D : Option Addr) (c dc : Nat) (l : List Spt) (bs : List Bool) (w : World) (hA : SpAt w A l) (hD : BoolsAt w D bs) :
    Calls Try.prog 3 #[.int .i64 n, .slice A l.length c, .slice D bs.length dc] w fun e w' => e = .returned (.bool true) ∧ Below w.heap.size w w' := by
  have LV := fun wx => works_any wx
  unfold WkP at LV
  obtain ⟨iB, hi, hz0, hz1, hz2⟩ := infoSp
  have HB : Hid (Below w.heap.size w w) := Below.refl _ _
  by_cases g0 : 300 < l.length
  · have g0' : (300 : Int) < (l.length : Int) := by omega
    go_enter Try.func3, Try.ntmps3
    go_wp2_with fail
    refine (LV _).mono ?_
    rintro e wx ⟨rfl, hbx⟩
    have HBf := hbx
    go_wp2
    go_ret
    exact ⟨rfl, lb_trans (by first | exact HB.out | exact below_drewN HB.out _ | exact HB.out.drew) HBf⟩
  have g0' : ¬ (300 : Int) < (l.length : Int) := by omega
  by_cases g1 : n < 1
  · go_enter Try.func3, Try.ntmps3
    go_wp2_with fail
    refine (LV _).mono ?_
    rintro e wx ⟨rfl, hbx⟩
    have HBf := hbx
    go_wp2
    go_ret
    exact ⟨rfl, lb_trans (by first | exact HB.out | exact below_drewN HB.out _ | exact HB.out.drew) HBf⟩
  by_cases g2 : 16384 < n
  · go_enter Try.func3, Try.ntmps3
    go_wp2_with fail
    refine (LV _).mono ?_
    rintro e wx ⟨rfl, hbx⟩
    have HBf := hbx
    go_wp2
    go_ret
    exact ⟨rfl, lb_trans (by first | exact HB.out | exact below_drewN HB.out _ | exact HB.out.drew) HBf⟩
  have hl : l.length ≤ 300 := by omega
  have HA : Hid (SpAt w A l) := hA
  have HBs : Hid (∀ i, i < bs.length → ∀ Z, Below w.heap.size w Z → ∃ d : Addr, D = some d ∧ Z.cell? (d.add i) = some (.bool (bs.getD i false))) := fun i hi Z hZ => by
    obtain ⟨a, ea, q⟩ := hD i hi
    exact ⟨a, ea, lkeep hZ q⟩
  clear hA hD g0
  go_enter Try.func3, Try.ntmps3
  go_wp2
  go_loopw [7, 8] (fun vs vi wr => ∃ (i : Nat) (S : List Spt) (X : Option Addr) (ko : Nat), vi = .int .i64 (i : Int) ∧ vs = .slice X S.length ko ∧ i ≤ l.length ∧ Hid (RiB l i) ∧ Hid (S.Sublist (l.take i)) ∧ S.length ≤ i ∧ Hid (wr.ownsRow w.heap.size 27 3 (.slice X S.length ko) S.length (spNews S)) ∧ Hid (Below w.heap.size w wr)) (fun _ vi _ => l.length - (intOf vi).toNat)
  case atStart => exact ⟨0, [], none, 0, rfl, rfl, Nat.zero_le _, RiB.zero l, List.Sublist.refl _, Nat.le_refl _, World.ownsRow_nil _ _ _ _, HB⟩
  case round =>
    clear HB
    obtain ⟨i, S, X, ko, rfl, rfl, hin, HRi, HS, hSl, HO, HB⟩ := hrel
    by_cases hlt : i < l.length
    · have hlt' : (i : Int) < (l.length : Int) := by omega
      obtain ⟨a, ea, p1, p2, p3⟩ := (HA.out.keep HB.out) i hlt
      subst ea
      by_cases h0 : (spt l i).1 < 0
      · clear HRi HS HO p2 p3
        generalize spt l i = s at *
        go_upto_region 7 with fail
        go_big_quiet (fail)
        go_wp2_with fail
        refine (LV _).mono ?_
        rintro e wx ⟨rfl, hbx⟩
        have HBf := hbx
        go_wp2
        go_ret
        exact ⟨rfl, lb_trans (by first | exact HB.out | exact below_drewN HB.out _ | exact HB.out.drew) HBf⟩
      by_cases h1 : 16384 < (spt l i).1
      · clear HRi HS HO p2 p3
        generalize spt l i = s at *
        go_upto_region 7 with fail
        go_big_quiet (fail)
        go_wp2_with fail
        refine (LV _).mono ?_
        rintro e wx ⟨rfl, hbx⟩
        have HBf := hbx
        go_wp2
        go_ret
        exact ⟨rfl, lb_trans (by first | exact HB.out | exact below_drewN HB.out _ | exact HB.out.drew) HBf⟩
      by_cases hz : i = 0
      · subst hz
        have HRi2 : Hid (RiB l (0 + 1)) := HRi.out.succ (by omega) (by omega) (fun p hp => by omega)
        clear HRi
        by_cases hch : 0 < bs.length
        · have hch' : (0 : Int) < (bs.length : Int) := by omega
          obtain ⟨d, ed, cb⟩ := HBs.out (0) hch wr HB.out
          subst ed
          cases hbv : bs.getD (0) false with
          | true =>
            rw [hbv] at cb
            have cb2 : wr.cell? d = some (.bool true) := cb
            have HS2 : Hid ((S ++ [spt l (0)]).Sublist (l.take (0 + 1))) := sub_snoc HS.out hlt
            clear hbv HS cb HBs
            generalize spt l (0) = s at *
            obtain ⟨s0, s1, s2⟩ := s
            replace p1 : wr.cell? a = some (.int .i64 s0) := p1
            replace p2 : wr.cell? ⟨a.block, a.off + 1, none⟩ = some (.int .i8 s1) := p2
            replace p3 : wr.cell? ⟨a.block, a.off + 2, none⟩ = some (.int .i8 s2) := p3
            skip
            go_upto_region 7 with fail
            go_big_quiet (fail)
            have HBq : Hid (Below w.heap.size w (wr.drewN nq)) := below_drewN HB.out _
            have HOq : Hid ((wr.drewN nq).ownsRow w.heap.size 27 3 (.slice X S.length ko) S.length (spNews S)) := row_keep HO.out (below_drewN (Below.refl _ _) _)
            have HBa : Hid (Below w.heap.size w ((wr.drewN nq).alloc (.cells #[.int .i64 s0, .int .i8 s1, .int .i8 s2] 27))) := lb_alloc HBq.out _
            have HRa : Hid (((wr.drewN nq).alloc (.cells #[.int .i64 s0, .int .i8 s1, .int .i8 s2] 27)).ownsRow w.heap.size 27 3 (.slice X S.length ko) S.length (spNews S)) := row_keep HOq.out (lb_alloc (Below.refl _ _) _)
            go_wp2_with (at_builtin; go_loud (refine wpList_append_own _ rfl (.tmp 73) (.tmp 78) 22 rfl w.heap.size 27 iB (.agg #[.int .i64 0, .int .i8 0, .int .i8 0]) 3 16 Try.underlying22 hi hz0 hz1 hz2 rfl (by decide) (.slice X S.length ko) S.length (spNews S) rfl HRa.out ⟨(wr.drewN nq).heap.size, 0, none⟩ 1 1 [.int .i64 s0, .int .i8 s1, .int .i8 s2] rfl rfl (fun j u hu => World.news_of_block (heap_alloc_new _ _) j u hu) (sp_oneI s0 s1 s2) (by unfold maxLen; omega) (by omega) HBa.out.size ?_; intro v3 w6 hown hgrow _; have HB6 : Hid (Below w.heap.size w w6) := HBa.out.grown hgrow HBa.out.size (fun b hb => (HRa.out.lt b hb).1); have HR6 : Hid (w6.ownsRow w.heap.size 27 3 v3 (S.length + 1) (spNews S ++ [.int .i64 s0, .int .i8 s1, .int .i8 s2])) := hown; clear hown hgrow))
            obtain ⟨X6, k6, rfl, -⟩ := own_formS HR6.out
            have HR7 : Hid (w6.ownsRow w.heap.size 27 3 (.slice X6 (S ++ [(s0, s1, s2)]).length k6) (S ++ [(s0, s1, s2)]).length (spNews (S ++ [(s0, s1, s2)]))) := by
              unfold Hid
              rw [spNews_app, List.length_append]
              exact HR6.out
            go_roundw
            case rel => exact ⟨0 + 1, S ++ [(s0, s1, s2)], X6, k6, by go_num, by rw [List.length_append]; rfl, by omega, HRi2, HS2, by rw [List.length_append]; show S.length + 1 ≤ _; omega, HR7, HB6⟩
            case measure => simp [intOf]; omega
          | false =>
            rw [hbv] at cb
            have cb2 : wr.cell? d = some (.bool false) := cb
            have HS2 : Hid (S.Sublist (l.take (0 + 1))) := sub_skip HS.out
            clear hbv HS cb HBs p2 p3
            generalize spt l (0) = s at *
            replace p1 : wr.cell? a = some (.int .i64 s.1) := p1
            skip
            go_upto_region 7 with fail
            go_big_quiet (fail)
            have HBq : Hid (Below w.heap.size w (wr.drewN nq)) := below_drewN HB.out _
            have HOq : Hid ((wr.drewN nq).ownsRow w.heap.size 27 3 (.slice X S.length ko) S.length (spNews S)) := row_keep HO.out (below_drewN (Below.refl _ _) _)
            go_wp2
            go_roundw
            case rel => exact ⟨0 + 1, S, X, ko, by go_num, rfl, by omega, HRi2, HS2, by omega, HOq, HBq⟩
            case measure => simp [intOf]; omega
        · have hch' : ¬ (0 : Int) < (bs.length : Int) := by omega
          have HS2 : Hid (S.Sublist (l.take (0 + 1))) := sub_skip HS.out
          clear HS p2 p3 HBs
          generalize spt l (0) = s at *
          replace p1 : wr.cell? a = some (.int .i64 s.1) := p1
          skip
          go_upto_region 7 with fail
          go_big_quiet (fail)
          have HBq : Hid (Below w.heap.size w (wr.drewN nq)) := below_drewN HB.out _
          have HOq : Hid ((wr.drewN nq).ownsRow w.heap.size 27 3 (.slice X S.length ko) S.length (spNews S)) := row_keep HO.out (below_drewN (Below.refl _ _) _)
          go_wp2
          go_roundw
          case rel => exact ⟨0 + 1, S, X, ko, by go_num, rfl, by omega, HRi2, HS2, by omega, HOq, HBq⟩
          case measure => simp [intOf]; omega
      · obtain ⟨p, hp⟩ : ∃ p, i = p + 1 := ⟨i - 1, by omega⟩
        subst hp
        obtain ⟨a', ea', r1, -, -⟩ := (HA.out.keep HB.out) p (by omega)
        cases ea'
        have hlp : (p : Int) < (l.length : Int) := by omega
        by_cases h2 : (spt l (p + 1)).1 ≤ (spt l p).1
        · clear HRi HS HO p2 p3
          generalize spt l (p + 1) = s at *
          generalize spt l p = t at *
          rw [Int.natCast_add] at *
          go_upto_region 7 with fail
          go_big_quiet (fail)
          go_wp2_with fail
          refine (LV _).mono ?_
          rintro e wx ⟨rfl, hbx⟩
          have HBf := hbx
          go_wp2
          go_ret
          exact ⟨rfl, lb_trans (by first | exact HB.out | exact below_drewN HB.out _ | exact HB.out.drew) HBf⟩
        · have HRi2 : Hid (RiB l (p + 1 + 1)) := HRi.out.succ (by omega) (by omega) (fun q hq => by
            obtain rfl : q = p := by omega
            omega)
          clear HRi
          by_cases hch : p + 1 < bs.length
          · have hch' : ((p : Int) + 1) < (bs.length : Int) := by omega
            obtain ⟨d, ed, cb⟩ := HBs.out (p + 1) hch wr HB.out
            subst ed
            cases hbv : bs.getD (p + 1) false with
            | true =>
              rw [hbv] at cb
              have cb2 : wr.cell? ⟨d.block, d.off + (p + 1), none⟩ = some (.bool true) := by
                have h7 := cb
                unfold Addr.add at h7
                rw [if_neg (by omega)] at h7
                exact h7
              have HS2 : Hid ((S ++ [spt l (p + 1)]).Sublist (l.take (p + 1 + 1))) := sub_snoc HS.out hlt
              clear hbv HS cb HBs
              generalize spt l (p + 1) = s at *
              obtain ⟨s0, s1, s2⟩ := s
              replace p1 : wr.cell? (a.add ((p + 1) * 3)) = some (.int .i64 s0) := p1
              replace p2 : wr.cell? ⟨(a.add ((p + 1) * 3)).block, (a.add ((p + 1) * 3)).off + 1, none⟩ = some (.int .i8 s1) := p2
              replace p3 : wr.cell? ⟨(a.add ((p + 1) * 3)).block, (a.add ((p + 1) * 3)).off + 2, none⟩ = some (.int .i8 s2) := p3
              generalize spt l p = t at *
              rw [Int.natCast_add] at *
              go_upto_region 7 with fail
              go_big_quiet (fail)
              have HBq : Hid (Below w.heap.size w (wr.drewN nq)) := below_drewN HB.out _
              have HOq : Hid ((wr.drewN nq).ownsRow w.heap.size 27 3 (.slice X S.length ko) S.length (spNews S)) := row_keep HO.out (below_drewN (Below.refl _ _) _)
              have HBa : Hid (Below w.heap.size w ((wr.drewN nq).alloc (.cells #[.int .i64 s0, .int .i8 s1, .int .i8 s2] 27))) := lb_alloc HBq.out _
              have HRa : Hid (((wr.drewN nq).alloc (.cells #[.int .i64 s0, .int .i8 s1, .int .i8 s2] 27)).ownsRow w.heap.size 27 3 (.slice X S.length ko) S.length (spNews S)) := row_keep HOq.out (lb_alloc (Below.refl _ _) _)
              go_wp2_with (at_builtin; go_loud (refine wpList_append_own _ rfl (.tmp 73) (.tmp 78) 22 rfl w.heap.size 27 iB (.agg #[.int .i64 0, .int .i8 0, .int .i8 0]) 3 16 Try.underlying22 hi hz0 hz1 hz2 rfl (by decide) (.slice X S.length ko) S.length (spNews S) rfl HRa.out ⟨(wr.drewN nq).heap.size, 0, none⟩ 1 1 [.int .i64 s0, .int .i8 s1, .int .i8 s2] rfl rfl (fun j u hu => World.news_of_block (heap_alloc_new _ _) j u hu) (sp_oneI s0 s1 s2) (by unfold maxLen; omega) (by omega) HBa.out.size ?_; intro v3 w6 hown hgrow _; have HB6 : Hid (Below w.heap.size w w6) := HBa.out.grown hgrow HBa.out.size (fun b hb => (HRa.out.lt b hb).1); have HR6 : Hid (w6.ownsRow w.heap.size 27 3 v3 (S.length + 1) (spNews S ++ [.int .i64 s0, .int .i8 s1, .int .i8 s2])) := hown; clear hown hgrow))
              obtain ⟨X6, k6, rfl, -⟩ := own_formS HR6.out
              have HR7 : Hid (w6.ownsRow w.heap.size 27 3 (.slice X6 (S ++ [(s0, s1, s2)]).length k6) (S ++ [(s0, s1, s2)]).length (spNews (S ++ [(s0, s1, s2)]))) := by
                unfold Hid
                rw [spNews_app, List.length_append]
                exact HR6.out
              go_roundw
              case rel => exact ⟨p + 1 + 1, S ++ [(s0, s1, s2)], X6, k6, by go_num, by rw [List.length_append]; rfl, by omega, HRi2, HS2, by rw [List.length_append]; show S.length + 1 ≤ _; omega, HR7, HB6⟩
              case measure => simp [intOf]; omega
            | false =>
              rw [hbv] at cb
              have cb2 : wr.cell? ⟨d.block, d.off + (p + 1), none⟩ = some (.bool false) := by
                have h7 := cb
                unfold Addr.add at h7
                rw [if_neg (by omega)] at h7
                exact h7
              have HS2 : Hid (S.Sublist (l.take (p + 1 + 1))) := sub_skip HS.out
              clear hbv HS cb HBs p2 p3
              generalize spt l (p + 1) = s at *
              replace p1 : wr.cell? (a.add ((p + 1) * 3)) = some (.int .i64 s.1) := p1
              generalize spt l p = t at *
              rw [Int.natCast_add] at *
              go_upto_region 7 with fail
              go_big_quiet (fail)
              have HBq : Hid (Below w.heap.size w (wr.drewN nq)) := below_drewN HB.out _
              have HOq : Hid ((wr.drewN nq).ownsRow w.heap.size 27 3 (.slice X S.length ko) S.length (spNews S)) := row_keep HO.out (below_drewN (Below.refl _ _) _)
              go_wp2
              go_roundw
              case rel => exact ⟨p + 1 + 1, S, X, ko, by go_num, rfl, by omega, HRi2, HS2, by omega, HOq, HBq⟩
              case measure => simp [intOf]; omega
          · have hch' : ¬ ((p : Int) + 1) < (bs.length : Int) := by omega
            have HS2 : Hid (S.Sublist (l.take (p + 1 + 1))) := sub_skip HS.out
            clear HS p2 p3 HBs
            generalize spt l (p + 1) = s at *
            replace p1 : wr.cell? (a.add ((p + 1) * 3)) = some (.int .i64 s.1) := p1
            generalize spt l p = t at *
            rw [Int.natCast_add] at *
            go_upto_region 7 with fail
            go_big_quiet (fail)
            have HBq : Hid (Below w.heap.size w (wr.drewN nq)) := below_drewN HB.out _
            have HOq : Hid ((wr.drewN nq).ownsRow w.heap.size 27 3 (.slice X S.length ko) S.length (spNews S)) := row_keep HO.out (below_drewN (Below.refl _ _) _)
            go_wp2
            go_roundw
            case rel => exact ⟨p + 1 + 1, S, X, ko, by go_num, rfl, by omega, HRi2, HS2, by omega, HOq, HBq⟩
            case measure => simp [intOf]; omega
    · obtain rfl : i = l.length := by omega
      have hlt' : ¬ (l.length : Int) < (l.length : Int) := by omega
      have HK : Hid (Kept20 n l (apR n l)) := kept20 (by omega) (by omega) HRi.out
      have HS0 : Hid (S.Sublist l) := by
        have h7 := HS.out
        rw [List.take_length] at h7
        exact h7
      have HSm : Hid (∀ s ∈ S, 0 ≤ s.1 ∧ s.1 ≤ 16384) := fun s hs => ri_mem HRi.out s (HS0.out.subset hs)
      have HSp : Hid (SpAt wr X S) := row_sps HO.out
      have CP := papart_any n A c l wr (HA.out.keep HB.out) (by omega)
      generalize apR n l = K at *
      clear HRi HO HS HBs
      go_wp2_with fail
      refine CP.mono ?_
      rintro e w2 ⟨XK, kk, rfl, hk, hbk⟩
      have HKs : Hid (SpAt w2 XK K) := row_sps hk
      have HB2 : Hid (Below w.heap.size w w2) := lb_trans HB.out hbk
      have HSs : Hid (SpAt w2 X S) := HSp.out.keep hbk
      have CO := poverlaps_any n XK kk K w2 HKs.out (by have := HK.out.few; omega)
      rw [HK.out.ov] at CO
      clear hk hbk CP HSp HB
      by_cases hl0 : l.length = 0
      · have hl1 : ¬ (0 : Int) < (l.length : Int) := by omega
        have hl2 : decide ((0 : Int) < (l.length : Int)) = false := decide_eq_false hl1
        clear hl0
        go_wp2_with fail
        refine CO.mono ?_
        rintro e w3 ⟨rfl, hb3⟩
        have HB3 : Hid (Below w.heap.size w w3) := lb_trans HB2.out hb3
        have HK3 : Hid (SpAt w3 XK K) := HKs.out.keep hb3
        have HS3 : Hid (SpAt w3 X S) := HSs.out.keep hb3
        clear hb3 CO HKs HSs HB2
        go_wp2
        go_loopw [10] (fun v ws => ∃ i : Nat, v = .int .i64 (i : Int) ∧ 1 ≤ i ∧ (i ≤ K.length ∨ i = 1) ∧ Hid (Below w3.heap.size w3 ws)) (fun v _ => K.length + 1 - (intOf v).toNat)
        case atStart => exact ⟨1, rfl, Nat.le_refl _, .inr rfl, Below.refl _ _⟩
        case round =>
          obtain ⟨i, rfl, hi1, hi2, HW⟩ := hrel
          obtain ⟨p, hp⟩ : ∃ p, i = p + 1 := ⟨i - 1, by omega⟩
          subst hp
          by_cases hlt : p + 1 < K.length
          · exfalso
            have := HK.out.few
            omega
          · have hlk : ¬ (p : Int) + 1 < (K.length : Int) := by omega
            rw [Int.natCast_add]
            go_wp2
            go_loopw [11] (fun v ws => ∃ i : Nat, v = .int .i64 (i : Int) ∧ 1 ≤ i ∧ (i ≤ S.length ∨ i = 1) ∧ Hid (∀ j, j + 1 < i → (spt S j).1 + n ≤ (spt S (j + 1)).1) ∧ Hid (Below w3.heap.size w3 ws)) (fun v _ => S.length + 1 - (intOf v).toNat)
            case atStart => exact ⟨1, rfl, Nat.le_refl _, .inr rfl, (fun j h => by omega), HW⟩
            case round =>
              clear HW
              obtain ⟨i, rfl, hi1, hi2, HG, HW⟩ := hrel
              obtain ⟨q, hq⟩ : ∃ q, i = q + 1 := ⟨i - 1, by omega⟩
              subst hq
              have HB : Hid (Below w.heap.size w wr) := lb_trans HB3.out HW.out
              by_cases hlt2 : q + 1 < S.length
              · exfalso
                omega
              · have hls : ¬ (q : Int) + 1 < (S.length : Int) := by omega
                have hfin := HK.out.most S HS0.out (fun j hj => HG.out j (by omega))
                have hfi : (S.length : Int) ≤ (K.length : Int) := by omega
                clear HG
                rw [Int.natCast_add]
                go_wp2_with fail
                refine (LV _).mono ?_
                rintro e wx ⟨rfl, hbx⟩
                have HBf := hbx
                go_wp2
                go_ret
                exact ⟨rfl, lb_trans (by first | exact HB.out | exact below_drewN HB.out _ | exact HB.out.drew) HBf⟩
      · have hl1 : (0 : Int) < (l.length : Int) := by omega
        have hk0 := HK.out.some (by omega)
        have hk1 : ¬ (K.length : Int) = 0 := by omega
        have hk2 : ((K.length : Int) == 0) = false := by simpa using hk1
        clear hl0
        go_wp2_with fail
        refine CO.mono ?_
        rintro e w3 ⟨rfl, hb3⟩
        have HB3 : Hid (Below w.heap.size w w3) := lb_trans HB2.out hb3
        have HK3 : Hid (SpAt w3 XK K) := HKs.out.keep hb3
        have HS3 : Hid (SpAt w3 X S) := HSs.out.keep hb3
        clear hb3 CO HKs HSs HB2
        go_wp2
        go_loopw [10] (fun v ws => ∃ i : Nat, v = .int .i64 (i : Int) ∧ 1 ≤ i ∧ (i ≤ K.length ∨ i = 1) ∧ Hid (Below w3.heap.size w3 ws)) (fun v _ => K.length + 1 - (intOf v).toNat)
        case atStart => exact ⟨1, rfl, Nat.le_refl _, .inr rfl, Below.refl _ _⟩
        case round =>
          obtain ⟨i, rfl, hi1, hi2, HW⟩ := hrel
          obtain ⟨p, hp⟩ : ∃ p, i = p + 1 := ⟨i - 1, by omega⟩
          subst hp
          by_cases hlt : p + 1 < K.length
          · have hlk : (p : Int) + 1 < (K.length : Int) := by omega
            have hlk2 : ((p + 1 : Nat) : Int) < (K.length : Int) := by omega
            have hkf := HK.out.few
            have hp3 : (p : Int) ≤ 300 := by omega
            have hlp : (p : Int) < (K.length : Int) := by omega
            obtain ⟨x, ex, c1, -, -⟩ := (HK3.out.keep HW.out) (p + 1) hlt
            subst ex
            obtain ⟨x', ex', d1, -, -⟩ := (HK3.out.keep HW.out) p (by omega)
            cases ex'
            have hgp := HK.out.gap p hlt
            have hm1 := HK.out.mem _ (spt_mem hlt)
            have hm2 := HK.out.mem _ (spt_mem (show p < K.length by omega))
            generalize spt K (p + 1) = s at *
            generalize spt K p = t at *
            obtain ⟨m1, m2⟩ := hm1
            obtain ⟨m3, m4⟩ := hm2
            have hle : ¬ s.1 - t.1 < n := by omega
            have m5 : -9223372036854775808 ≤ s.1 - t.1 := by omega
            have m6 : s.1 - t.1 ≤ 9223372036854775807 := by omega
            rw [Int.natCast_add] at *
            go_upto_region 17 with fail
            go_big_quiet (fail)
            go_wp2
            go_roundw
            case rel => exact ⟨p + 1 + 1, by go_num, by omega, .inl (by omega), below_drewN HW.out _⟩
            case measure => simp [intOf]; omega
          · have hlk : ¬ (p : Int) + 1 < (K.length : Int) := by omega
            rw [Int.natCast_add]
            go_wp2
            go_loopw [11] (fun v ws => ∃ i : Nat, v = .int .i64 (i : Int) ∧ 1 ≤ i ∧ (i ≤ S.length ∨ i = 1) ∧ Hid (∀ j, j + 1 < i → (spt S j).1 + n ≤ (spt S (j + 1)).1) ∧ Hid (Below w3.heap.size w3 ws)) (fun v _ => S.length + 1 - (intOf v).toNat)
            case atStart => exact ⟨1, rfl, Nat.le_refl _, .inr rfl, (fun j h => by omega), HW⟩
            case round =>
              clear HW
              obtain ⟨i, rfl, hi1, hi2, HG, HW⟩ := hrel
              obtain ⟨q, hq⟩ : ∃ q, i = q + 1 := ⟨i - 1, by omega⟩
              subst hq
              have HB : Hid (Below w.heap.size w wr) := lb_trans HB3.out HW.out
              by_cases hlt2 : q + 1 < S.length
              · have hls : (q : Int) + 1 < (S.length : Int) := by omega
                have hls2 : ((q + 1 : Nat) : Int) < (S.length : Int) := by omega
                have hq3 : (q : Int) ≤ 300 := by omega
                have hlq : (q : Int) < (S.length : Int) := by omega
                obtain ⟨x, ex, c1, -, -⟩ := (HS3.out.keep HW.out) (q + 1) hlt2
                subst ex
                obtain ⟨x', ex', d1, -, -⟩ := (HS3.out.keep HW.out) q (by omega)
                cases ex'
                have hm1 := HSm.out _ (spt_mem hlt2)
                have hm2 := HSm.out _ (spt_mem (show q < S.length by omega))
                by_cases hgp : (spt S (q + 1)).1 - (spt S q).1 < n
                · clear HG
                  generalize spt S (q + 1) = s at *
                  generalize spt S q = t at *
                  obtain ⟨m1, m2⟩ := hm1
                  obtain ⟨m3, m4⟩ := hm2
                  have m5 : -9223372036854775808 ≤ s.1 - t.1 := by omega
                  have m6 : s.1 - t.1 ≤ 9223372036854775807 := by omega
                  rw [Int.natCast_add] at *
                  go_upto_region 22 with fail
                  go_big_quiet (fail)
                  go_wp2_with fail
                  refine (LV _).mono ?_
                  rintro e wx ⟨rfl, hbx⟩
                  have HBf := hbx
                  go_wp2
                  go_ret
                  exact ⟨rfl, lb_trans (by first | exact HB.out | exact below_drewN HB.out _ | exact HB.out.drew) HBf⟩
                · have HG2 : Hid (∀ j, j + 1 < q + 1 + 1 → (spt S j).1 + n ≤ (spt S (j + 1)).1) := fun j hj => by
                    by_cases cj : j = q
                    · subst cj; omega
                    · exact HG.out j (by omega)
                  clear HG
                  generalize spt S (q + 1) = s at *
                  generalize spt S q = t at *
                  obtain ⟨m1, m2⟩ := hm1
                  obtain ⟨m3, m4⟩ := hm2
                  have m5 : -9223372036854775808 ≤ s.1 - t.1 := by omega
                  have m6 : s.1 - t.1 ≤ 9223372036854775807 := by omega
                  rw [Int.natCast_add] at *
                  go_upto_region 22 with fail
                  go_big_quiet (fail)
                  go_wp2
                  go_roundw
                  case rel => exact ⟨q + 1 + 1, by go_num, by omega, .inl (by omega), HG2, below_drewN HW.out _⟩
                  case measure => simp [intOf]; omega
              · have hls : ¬ (q : Int) + 1 < (S.length : Int) := by omega
                have hfin := HK.out.most S HS0.out (fun j hj => HG.out j (by omega))
                have hfi : (S.length : Int) ≤ (K.length : Int) := by omega
                clear HG
                rw [Int.natCast_add]
                go_wp2_with fail
                refine (LV _).mono ?_
                rintro e wx ⟨rfl, hbx⟩
                have HBf := hbx
                go_wp2
                go_ret
                exact ⟨rfl, lb_trans (by first | exact HB.out | exact below_drewN HB.out _ | exact HB.out.drew) HBf⟩

end Go.Proofs.Ytkdafkdogmemcaa
