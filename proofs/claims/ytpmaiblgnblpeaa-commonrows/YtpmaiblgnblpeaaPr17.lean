/-
  THE LAW CommonRows, over the program's contracts.
-/
import Derived.Test.YtpmaiblgnblpeaaProg
import Derived.WalkKit
import Derived.WalkSpells
import Derived.WalkLawsBesides
import Derived.RowKit3
import Derived.Below
import Derived.Deep.QuietTactic
import Derived.BigQuiet
import Derived.WalkSmall
import Derived.Laws.Rows
import Derived.Test.YtpmaiblgnblpeaaPr08
import Derived.Test.YtpmaiblgnblpeaaPr09
import Derived.Test.YtpmaiblgnblpeaaPr15
import Derived.Test.YtpmaiblgnblpeaaPr16
import Derived.OwnWalk
import Derived.Deep.Cut
import Derived.Deep.RegionHeld3
import Derived.Deep.LoopGhost
namespace Go.Proofs.Ytpmaiblgnblpeaa
open Go.RowKit

theorem below_noneR {w w' : World} (h : w.grownBy w' none) : Below w.heap.size w w' := ⟨h.os, h.tape, h.output, h.size, fun k hk => h.block k hk (by simp)⟩
theorem own_nil {w : World} {b n k : Nat} {A : Option Addr} {xs : List Value} (h : w.ownsRow b 3 1 (.slice A n k) n xs) (e : A = none) : k = 0 := by
  subst e
  rcases h.2 with ⟨h0, _⟩ | ⟨g, cap, cur, hv, _⟩
  · cases h0; rfl
  · cases hv
theorem own_cap {w : World} {b n k : Nat} {A : Option Addr} {xs : List Value} (h : w.ownsRow b 3 1 (.slice A n k) n xs) : n ≤ k := by
  rcases h.2 with ⟨h0, _⟩ | ⟨g, cap, cur, hv, _, _, h1, _⟩
  · cases h0; exact Nat.le_refl _
  · cases hv; exact h1
set_option maxRecDepth 100000 in
set_option maxHeartbeats 16000000 in
theorem lawRows {cst : List Int → Int} (ho : OfOK cst) (hcs : CostOK cst) (hp : PrefixesOK) (hle : LeastOK) (hgr : GroupOK) (LV : LivesOK) (A : Option Addr) (c : Nat) (l : List Int) (n : Int) (w : World) (hA : IntsAt w A .i64 l) (h0 : A = none → c = 0) (hR : ∀ i, i < l.length → Rng (nth l i)) (hn : Rng n) :
    Calls Try.prog 4 #[.slice A l.length c, .int .i64 n] w fun e w' => e = .returned (.bool true) ∧ Below w.heap.size w w' := by
  unfold Rng at hn
  by_cases hbig : 60 < l.length
  · have hb' : (60 : Int) < (l.length : Int) := by omega
    clear ho hcs hp hle hgr hA hR h0
    go_enter Try.func4, Try.ntmps4
    go_wp2_with fail
    refine (LV _).mono ?_
    rintro e w1 ⟨rfl, hb1⟩
    go_wp2
    go_ret
    exact ⟨rfl, hb1⟩
  have hb' : ¬ (60 : Int) < (l.length : Int) := by omega
  by_cases hn0 : n < 0
  · clear ho hcs hp hle hgr hA hR h0
    go_enter Try.func4, Try.ntmps4
    go_wp2_with fail
    refine (LV _).mono ?_
    rintro e w1 ⟨rfl, hb1⟩
    go_wp2
    go_ret
    exact ⟨rfl, hb1⟩
  by_cases hn1 : 61 < n
  · clear ho hcs hp hle hgr hA hR h0
    go_enter Try.func4, Try.ntmps4
    go_wp2_with fail
    refine (LV _).mono ?_
    rintro e w1 ⟨rfl, hb1⟩
    go_wp2
    go_ret
    exact ⟨rfl, hb1⟩
  obtain ⟨L, rfl⟩ : ∃ L : Nat, n = (L : Int) := ⟨n.toNat, by omega⟩
  have hl : l.length ≤ 60 := by omega
  have hl1 : l.length ≤ 1048576 := by omega
  have hL : L ≤ 61 := by omega
  have HA : Hid (IntsAt w A .i64 l) := hA
  have HR : Hid (∀ i, i < l.length → Rng (nth l i)) := hR
  have CPl := fun (Z : World) (h : Below w.heap.size w Z) => copyints_any A c l Z (hA.keep h) h0 hl1
  have HO := fun (B : Option Addr) (k : Nat) (Z : World) (hB : IntsAt Z B .i64 l) => ho.ok B k l Z hB hR (by omega)
  have PX := fun (B D : Option Addr) (kb kd : Nat) (Z : World) (hB : IntsAt Z B .i64 l) (hD : IntsAt Z D .i64 (sufL l)) => hp.ok B D kb kd l Z hB hR (by omega) hD
  obtain ⟨c0, -, c1⟩ := hcs l (by omega)
  obtain ⟨-, c2, c3⟩ := cc_ok l
  obtain ⟨B, Q1, Q2, eB, B1, B2, eQ1, eQ2, Q10, Q11, Q20, Q21, hQ, cs1, cc1⟩ := cost_both hl c0 c1 c2 c3
  have BT := fun Z => refbits_any l.length hl1 Z
  have CQ : Hid (cst l + ccI l ≤ Q2) := hQ
  unfold PxR at PX
  generalize cst l = cs at *
  generalize ccI l = cc at *
  generalize bitsN l.length = bi at *
  clear ho hcs hp hA hR hbig hn c1 c3
  go_enter Try.func4, Try.ntmps4
  go_wp2_with fail
  refine (CPl _ (Below.refl _ _)).mono ?_
  rintro e w1 ⟨O, cap, rfl, hr1, hg1, -⟩
  have HB1 : Hid (Below w.heap.size w w1) := below_noneR hg1
  have CO := HO O cap w1 (row_ints hr1)
  clear hr1 hg1 HO
  go_wp2_with fail
  refine CO.mono ?_
  rintro e w2 ⟨A1, A2, k1, k2, rfl, ho1, ho2, -, hb2⟩
  obtain ⟨Y, HY⟩ : ∃ Y, Hid (w2.alloc (.cells #[.slice A1 l.length k1, .slice A2 l.length k2, .int .i64 cs] 34) = Y) := ⟨_, rfl⟩
  have HBY : Hid (Below w.heap.size w Y) := by unfold Hid; rw [← HY.out]; exact lb_alloc (lb_trans HB1.out hb2) _
  have i0 : Y.cell? ⟨w2.heap.size, 0, none⟩ = some (.slice A1 l.length k1) := by rw [← HY.out]; simp [go_sem]
  have i2 : Y.cell? ⟨w2.heap.size, 2, none⟩ = some (.int .i64 cs) := by rw [← HY.out]; simp [go_sem]
  have HI : Hid (∀ Z, Below Y.heap.size Y Z → Z.cell? ⟨w2.heap.size, 0, none⟩ = some (.slice A1 l.length k1) ∧ Z.cell? ⟨w2.heap.size, 2, none⟩ = some (.int .i64 cs)) := fun Z hZ => ⟨lkeep hZ i0, lkeep hZ i2⟩
  have HS1 : Hid (IntsAt Y A1 .i64 (sufL l)) := by unfold Hid; rw [← HY.out]; exact (row_ints (l := sufL l) (by rw [sufL_len]; exact ho1)).keep (lb_alloc (Below.refl _ _) _)
  have HN1 : Hid (A1 = none → k1 = 0) := own_nil ho1
  clear ho1 ho2 hb2 CO HB1 i0 i2
  go_upto_region 4 with fail
  rw [HY.out]
  clear HY
  have CPs := fun (Z : World) (h : Below Y.heap.size Y Z) => copyints_any A1 k1 (sufL l) Z (HS1.out.keep h) HN1.out (by rw [sufL_len]; exact hl1)
  rw [sufL_len] at CPs
  have BY : Below Y.heap.size Y Y.drew := (Below.refl _ _).drew
  obtain ⟨i0, i2⟩ := HI.out Y (Below.refl _ _)
  go_region_held3 (fun Z => Below Y.heap.size Y Z ∧ Z.cell? ⟨w2.heap.size, 0, none⟩ = some (.slice A1 l.length k1)) (first | exact ⟨lb_trans (‹Below _ _ _ ∧ _›).1 hb, (HI.out _ (lb_trans (‹Below _ _ _ ∧ _›).1 hb)).1⟩ | exact ⟨lb_trans BY hb, (HI.out _ (lb_trans BY hb)).1⟩ | exact ⟨BY, (HI.out _ BY).1⟩ | assumption | (simp [*]; done))
    (first
      | (go_at_call_of 14 A1; refine (CPs _ (by first | assumption | exact (‹Below _ _ _ ∧ _›).1)).mono ?_; rintro e x2 ⟨O2, cap2, rfl, hr2, hg2, -⟩; have hb := below_noneR hg2; have hJ2 : Hid (IntsAt x2 O2 .i64 (sufL l)) := row_ints (l := sufL l) (by rw [sufL_len]; exact hr2); have hK : Hid (IntsAt x2 O1 .i64 l) := hJ1.out.keep hb; clear hr2 hg2)
      | (go_at_call_of 14 A; refine (CPl _ (lb_trans HBY.out (by first | assumption | exact (‹Below _ _ _ ∧ _›).1))).mono ?_; rintro e x1 ⟨O1, cap1, rfl, hr1, hg1, -⟩; have hb := below_noneR hg1; have hJ1 : Hid (IntsAt x1 O1 .i64 l) := row_ints hr1; clear hr1 hg1)
      | (go_at_call 15; refine (PX O1 O2 cap1 cap2 _ hK.out hJ2.out).mono ?_; rintro e x3 ⟨P, kp, rfl, hop, hb⟩))
  rename_i hHeld
  have HB3 : Hid (Below Y.heap.size Y x3) := hHeld.1
  have HP3 : Hid (IntsAt x3 P .i64 (cpA l)) := row_ints (l := cpA l) (by rw [cpA_len]; exact hop)
  have HPn : Hid (P = none → kp = 0) := own_nil hop
  clear hHeld hop hb hJ1 hJ2 hK CPs PX BY i0 i2
  go_wp2_with fail
  refine (BT _).mono ?_
  rintro e V ⟨rfl, hbV⟩
  have HBV : Hid (Below Y.heap.size Y V) := lb_trans HB3.out hbV
  have HPV : Hid (IntsAt V P .i64 (cpA l)) := HP3.out.keep hbV
  have HSV : Hid (IntsAt V A1 .i64 (sufL l)) := HS1.out.keep HBV.out
  have HAV : Hid (IntsAt V A .i64 l) := HA.out.keep (lb_trans HBY.out HBV.out)
  have HBw0 : Hid (Below w.heap.size w V) := lb_trans HBY.out HBV.out
  have HIV : Hid (∀ Z, Below V.heap.size V Z → Z.cell? ⟨w2.heap.size, 0, none⟩ = some (.slice A1 l.length k1) ∧ Z.cell? ⟨w2.heap.size, 2, none⟩ = some (.int .i64 cs)) := fun Z hZ => HI.out Z (lb_trans HBV.out hZ)
  clear hbV BT HP3 HB3 HI HS1 HBY
  obtain ⟨i0, i2⟩ := HIV.out V (Below.refl _ _)
  have hne : ((l.length : Int) != (l.length : Int)) = false := by simp
  have hq' : ¬ Q2 < cs + cc := by omega
  have CPp := fun (Z : World) (h : Below V.heap.size V Z) => copyints_any P kp (cpA l) Z (HPV.out.keep h) HPn.out (by rw [cpA_len]; exact hl1)
  rw [cpA_len] at CPp
  go_wp2
  clear i0 i2 hne hq' eQ1 eQ2 eB B1 B2 Q10 Q11 Q20 Q21 hQ CQ c0 cs1 c2 cc1 CPl
  go_loopg [10] l.length (fun g v wr => ∃ i : Nat, i + g = l.length ∧ v = .int .i64 (i : Int) ∧ i ≤ l.length ∧ Hid (Below V.heap.size V wr))
  case atStart => exact ⟨0, by omega, rfl, Nat.zero_le _, Below.refl _ _⟩
  case round =>
    obtain ⟨i, hig, rfl, hi, HB⟩ := hrel
    by_cases hlt : i < l.length
    · obtain ⟨g1, rfl⟩ : ∃ g1, gk = g1 + 1 := ⟨gk - 1, by omega⟩
      have hlt' : (i : Int) < (l.length : Int) := by omega
      have GR := fun (B : Option Addr) (kb : Nat) (Z : World) (hB : IntsAt Z B .i64 (cpA l)) => hgr B kb (cpA l) (i : Int) (L : Int) Z hB (by rw [cpA_len]; omega) (by unfold Rng; omega) (by unfold Rng; omega)
      obtain ⟨g1, g2, g3⟩ := gp_ok (p := cpA l) (i := i) (L := (L : Int)) (by rw [cpA_len]; exact hlt) (by omega)
      unfold GrR at GR
      rw [g1, g2, g3, cpA_len] at GR
      have HRW : Hid (∀ k, k < l.length → ((grF (cpA l) (L : Int) i ≤ k ∧ k < grT (cpA l) (L : Int) (l.length - (i + 1)) (i + 1)) ↔ (L ≤ cpS l (snth (sufN l) i) (snth (sufN l) k) ∨ i = k))) := fun k hk => gr_row hlt hk
      obtain ⟨hfi, hti⟩ := (HRW.out i hlt).2 (.inr rfl)
      have hLEk : Hid (∀ k, k < l.length → ∃ lv : Int, leI (cpA l) (i : Int) (k : Int) = lv ∧ (i = k → lv = -1) ∧ (i ≠ k → lv = ((cpS l (snth (sufN l) i) (snth (sufN l) k) : Nat) : Int))) := fun k hk => ⟨_, rfl, fun e => by rw [e]; exact leI_same (by rw [cpA_len]; exact hk), fun e => leI_cp hlt hk e⟩
      clear g1 g2 g3
      generalize grF (cpA l) (L : Int) i = f at *
      generalize grT (cpA l) (L : Int) (l.length - (i + 1)) (i + 1) = t at *
      have hfi' : ¬ (i : Int) < (f : Int) := by omega
      have hti' : ¬ (t : Int) ≤ (i : Int) := by omega
      have hti2 : ¬ t ≤ i := by omega
      have hfi2 : ¬ i < f := by omega
      have hfi3 : decide (i < f) = false := decide_eq_false hfi2
      obtain ⟨a1, ea1, q1⟩ := HSV.out i (by rw [sufL_len]; exact hlt)
      subst ea1
      rw [sufL_nth hlt] at q1
      have HQ1 : Hid (V.cell? (a1.add i) = some (.int .i64 ((snth (sufN l) i : Nat) : Int))) := q1
      obtain ⟨a0, ea0, -⟩ := HAV.out i hlt
      subst ea0
      clear q1
      go_wp2_with fail
      refine (CPp _ HB.out).mono ?_
      rintro e y1 ⟨O3, cap3, rfl, hr3, hg3, -⟩
      have hb3 := below_noneR hg3
      have GR1 := GR O3 cap3 y1 (row_ints (l := cpA l) (by rw [cpA_len]; exact hr3))
      have HBy : Hid (Below V.heap.size V y1) := lb_trans HB.out hb3
      clear hr3 hg3 hb3 GR
      go_wp2_with fail
      refine GR1.mono ?_
      rintro e y2 ⟨rfl, hb4⟩
      have HBy2 : Hid (Below V.heap.size V y2) := lb_trans HBy.out hb4
      clear hb4 GR1 HBy HB
      go_wp2
      go_loopg [14] l.length (fun g v wr => ∃ k : Nat, k + g = l.length ∧ v = .int .i64 (k : Int) ∧ k ≤ l.length ∧ Hid (Below V.heap.size V wr))
      case atStart => exact ⟨0, by omega, rfl, Nat.zero_le _, HBy2⟩
      case round =>
        clear HBy2
        obtain ⟨k, hkg, rfl, hk, HBw⟩ := hrel
        by_cases hkt : k < l.length
        · obtain ⟨g2, rfl⟩ : ∃ g2, gk = g2 + 1 := ⟨gk - 1, by omega⟩
          have hkt' : (k : Int) < (l.length : Int) := by omega
          obtain ⟨i0, i2⟩ := HIV.out _ HBw.out
          obtain ⟨a3, ea3, q3⟩ := HSV.out k (by rw [sufL_len]; exact hkt)
          obtain rfl := Option.some.inj ea3
          rw [sufL_nth hkt] at q3
          have q1 := lkeep HBw.out HQ1.out
          replace q3 := lkeep HBw.out q3
          have hrow : Hid ((f ≤ k ∧ k < t) ↔ (L ≤ cpS l (snth (sufN l) i) (snth (sufN l) k) ∨ i = k)) := HRW.out k hkt
          obtain ⟨lv, elv, hl1', hl2'⟩ := hLEk.out k hkt
          have hlv1 : Hid (i = k → lv = -1) := hl1'
          have hlv2 : Hid (i ≠ k → lv = ((cpS l (snth (sufN l) i) (snth (sufN l) k) : Nat) : Int)) := hl2'
          have LEq := fun (B : Option Addr) (kb : Nat) (Z : World) (hB : IntsAt Z B .i64 (cpA l)) (hc : l.length ≤ kb) => hle B kb (cpA l) (i : Int) (k : Int) Z hB (by rw [cpA_len]; omega) (by rw [cpA_len]; exact hc) (by unfold Rng; omega) (by unfold Rng; omega)
          unfold LeR at LEq
          rw [elv, leE_ok (by rw [cpA_len]; exact hlt) (by rw [cpA_len]; exact hkt), cpA_len] at LEq
          have hx := sufN_lt hlt
          have hy := sufN_lt hkt
          have HST : Hid (∀ s, s ≤ cpS l (snth (sufN l) i) (snth (sufN l) k) → (snth (sufN l) i + s < l.length → snth (sufN l) k + s < l.length → nth l (snth (sufN l) i + s) = nth l (snth (sufN l) k + s) → s + 1 ≤ cpS l (snth (sufN l) i) (snth (sufN l) k)) ∧ (¬ snth (sufN l) i + s < l.length → cpS l (snth (sufN l) i) (snth (sufN l) k) = s) ∧ (¬ snth (sufN l) k + s < l.length → cpS l (snth (sufN l) i) (snth (sufN l) k) = s) ∧ (snth (sufN l) i + s < l.length → snth (sufN l) k + s < l.length → ¬ nth l (snth (sufN l) i + s) = nth l (snth (sufN l) k + s) → cpS l (snth (sufN l) i) (snth (sufN l) k) = s)) := fun s hs => by
            have e := cpS_from s hs
            refine ⟨fun h1 h2 h3 => ?_, fun h1 => ?_, fun h1 => ?_, fun h1 h2 h3 => ?_⟩
            · rw [cpS_step h1 h2, if_pos h3] at e; omega
            · rw [cpS_endI (i := snth (sufN l) i + s) (k := snth (sufN l) k + s) (by omega)] at e; exact e
            · rw [cpS_endK (i := snth (sufN l) i + s) (k := snth (sufN l) k + s) (by omega)] at e; exact e
            · rw [cpS_step h1 h2, if_neg h3] at e; omega
          have hm60 : cpS l (snth (sufN l) i) (snth (sufN l) k) ≤ 60 := by
            have := cpS_leI l (snth (sufN l) i) (snth (sufN l) k)
            omega
          clear elv hl1' hl2'
          generalize cpS l (snth (sufN l) i) (snth (sufN l) k) = m at *
          generalize snth (sufN l) i = x at *
          generalize snth (sufN l) k = y at *
          have hx' : (x : Int) < (l.length : Int) := by omega
          have hy' : (y : Int) < (l.length : Int) := by omega
          have hx2 : ¬ l.length ≤ x := by omega
          have hy2 : ¬ l.length ≤ y := by omega
          go_wp2
          clear q1 q3 i0 i2
          go_loopg [17] 60 (fun g v ws => ∃ s d : Nat, s + g = 60 ∧ v = .int .i64 (s : Int) ∧ s ≤ m ∧ ws = wr.drewN d)
          case atStart => exact ⟨0, 0, by omega, rfl, Nat.zero_le _, rfl⟩
          case round =>
            obtain ⟨s, d, hsg, rfl, hs, rfl⟩ := hrel
            have HSs : Hid _ := HST.out s hs
            obtain ⟨u, hu⟩ : ∃ u, u = x + s := ⟨_, rfl⟩
            obtain ⟨v, hv⟩ : ∃ v, v = y + s := ⟨_, rfl⟩
            have hu1 : (x : Int) + (s : Int) = (u : Int) := by omega
            have hv1 : (y : Int) + (s : Int) = (v : Int) := by omega
            rw [← hu, ← hv] at HSs
            have hs60 : s ≤ 60 := by omega
            have hu60 : u ≤ 120 := by omega
            have hv60 : v ≤ 120 := by omega
            clear hu hv
            by_cases b1 : u < l.length
            · have b1' : (u : Int) < (l.length : Int) := by omega
              by_cases b2 : v < l.length
              · have b2' : (v : Int) < (l.length : Int) := by omega
                obtain ⟨x1', ex1, d1⟩ := (HAV.out.keep HBw.out) u b1
                obtain rfl := Option.some.inj ex1
                obtain ⟨x2', ex2, d2⟩ := (HAV.out.keep HBw.out) v b2
                obtain rfl := Option.some.inj ex2
                by_cases he : nth l u = nth l v
                · have hs2 : s + 1 ≤ m := HSs.out.1 b1 b2 he
                  rw [he] at d1
                  generalize nth l v = z at *
                  clear he HSs
                  go_upto_region 22 with fail
                  go_quiet (fail)
                  go_wp2
                  go_roundg (gk - 1)
                  case measure => omega
                  case rel => exact ⟨s + 1, _, by omega, by go_num, hs2, rfl⟩
                · have hms : Hid (m = s) := HSs.out.2.2.2 b1 b2 he
                  have he' : (nth l u == nth l v) = false := by simpa using he
                  generalize nth l u = z1' at *
                  generalize nth l v = z2' at *
                  clear he HSs
                  go_upto_region 22 with fail
                  go_quiet (fail)
                  go_wp2_with fail
                  refine (CPp _ (below_drewN HBw.out _)).mono ?_
                  rintro e z1 ⟨O5, cap5, rfl, hr5, hg5, -⟩
                  have hb5 := below_noneR hg5
                  have LE := LEq O5 cap5 z1 (row_ints (l := cpA l) (by rw [cpA_len]; exact hr5)) (own_cap hr5)
                  have HBz : Hid (Below V.heap.size V z1) := lb_trans (below_drewN HBw.out _) hb5
                  clear hr5 hg5 hb5
                  go_wp2_with fail
                  refine LE.mono ?_
                  rintro e z2 ⟨rfl, hb6⟩
                  have HBz2 : Hid (Below V.heap.size V z2) := lb_trans HBz.out hb6
                  clear hb6 LE HBz
                  by_cases hik : i = k
                  · have e1 : ((i : Int) != (k : Int)) = false := by rw [hik]; simp
                    have e2 : ((i : Int) == (k : Int)) = true := by rw [hik]; simp
                    obtain ⟨hf, ht⟩ := hrow.out.2 (.inr hik)
                    have hf' : (f : Int) ≤ (k : Int) := by omega
                    have ht' : (k : Int) < (t : Int) := by omega
                    obtain rfl : lv = -1 := hlv1.out hik
                    clear hik
                    by_cases hLs : L ≤ s
                    · have hLs' : (L : Int) ≤ (s : Int) := by omega
                      go_wp2
                      go_roundg g2
                      case measure => omega
                      case rel => exact ⟨k + 1, by omega, by go_num, by omega, HBz2⟩
                    · have hLs' : ¬ (L : Int) ≤ (s : Int) := by omega
                      go_wp2
                      go_roundg g2
                      case measure => omega
                      case rel => exact ⟨k + 1, by omega, by go_num, by omega, HBz2⟩
                  · have e1 : ((i : Int) != (k : Int)) = true := by rw [bne_iff_ne]; omega
                    have e2 : ((i : Int) == (k : Int)) = false := by rw [beq_eq_false_iff_ne]; omega
                    have e3 : ((s : Int) != (s : Int)) = false := by simp
                    obtain rfl : lv = (s : Int) := by rw [hlv2.out hik, hms.out]
                    by_cases hLs : L ≤ s
                    · have hLs' : (L : Int) ≤ (s : Int) := by omega
                      obtain ⟨hf, ht⟩ := hrow.out.2 (.inl (by rw [hms.out]; exact hLs))
                      have hf' : (f : Int) ≤ (k : Int) := by omega
                      have ht' : (k : Int) < (t : Int) := by omega
                      clear hik
                      go_wp2
                      go_roundg g2
                      case measure => omega
                      case rel => exact ⟨k + 1, by omega, by go_num, by omega, HBz2⟩
                    · have hLs' : ¬ (L : Int) ≤ (s : Int) := by omega
                      have hno : ¬ (f ≤ k ∧ k < t) := fun x => by
                        rcases hrow.out.1 x with h | h
                        · rw [hms.out] at h; exact hLs h
                        · exact hik h
                      by_cases hf : f ≤ k
                      · have hf' : (f : Int) ≤ (k : Int) := by omega
                        have ht : ¬ k < t := fun x => hno ⟨hf, x⟩
                        have ht' : ¬ (k : Int) < (t : Int) := by omega
                        clear hno hik
                        go_wp2
                        go_roundg g2
                        case measure => omega
                        case rel => exact ⟨k + 1, by omega, by go_num, by omega, HBz2⟩
                      · have hf' : ¬ (f : Int) ≤ (k : Int) := by omega
                        clear hno hik
                        go_wp2
                        go_roundg g2
                        case measure => omega
                        case rel => exact ⟨k + 1, by omega, by go_num, by omega, HBz2⟩
              · have b2' : ¬ (v : Int) < (l.length : Int) := by omega
                have hms : Hid (m = s) := HSs.out.2.2.1 b2
                clear HSs
                go_upto_region 22 with fail
                go_quiet (fail)
                go_wp2_with fail
                refine (CPp _ (below_drewN HBw.out _)).mono ?_
                rintro e z1 ⟨O5, cap5, rfl, hr5, hg5, -⟩
                have hb5 := below_noneR hg5
                have LE := LEq O5 cap5 z1 (row_ints (l := cpA l) (by rw [cpA_len]; exact hr5)) (own_cap hr5)
                have HBz : Hid (Below V.heap.size V z1) := lb_trans (below_drewN HBw.out _) hb5
                clear hr5 hg5 hb5
                go_wp2_with fail
                refine LE.mono ?_
                rintro e z2 ⟨rfl, hb6⟩
                have HBz2 : Hid (Below V.heap.size V z2) := lb_trans HBz.out hb6
                clear hb6 LE HBz
                by_cases hik : i = k
                · have e1 : ((i : Int) != (k : Int)) = false := by rw [hik]; simp
                  have e2 : ((i : Int) == (k : Int)) = true := by rw [hik]; simp
                  obtain ⟨hf, ht⟩ := hrow.out.2 (.inr hik)
                  have hf' : (f : Int) ≤ (k : Int) := by omega
                  have ht' : (k : Int) < (t : Int) := by omega
                  obtain rfl : lv = -1 := hlv1.out hik
                  clear hik
                  by_cases hLs : L ≤ s
                  · have hLs' : (L : Int) ≤ (s : Int) := by omega
                    go_wp2
                    go_roundg g2
                    case measure => omega
                    case rel => exact ⟨k + 1, by omega, by go_num, by omega, HBz2⟩
                  · have hLs' : ¬ (L : Int) ≤ (s : Int) := by omega
                    go_wp2
                    go_roundg g2
                    case measure => omega
                    case rel => exact ⟨k + 1, by omega, by go_num, by omega, HBz2⟩
                · have e1 : ((i : Int) != (k : Int)) = true := by rw [bne_iff_ne]; omega
                  have e2 : ((i : Int) == (k : Int)) = false := by rw [beq_eq_false_iff_ne]; omega
                  have e3 : ((s : Int) != (s : Int)) = false := by simp
                  obtain rfl : lv = (s : Int) := by rw [hlv2.out hik, hms.out]
                  by_cases hLs : L ≤ s
                  · have hLs' : (L : Int) ≤ (s : Int) := by omega
                    obtain ⟨hf, ht⟩ := hrow.out.2 (.inl (by rw [hms.out]; exact hLs))
                    have hf' : (f : Int) ≤ (k : Int) := by omega
                    have ht' : (k : Int) < (t : Int) := by omega
                    clear hik
                    go_wp2
                    go_roundg g2
                    case measure => omega
                    case rel => exact ⟨k + 1, by omega, by go_num, by omega, HBz2⟩
                  · have hLs' : ¬ (L : Int) ≤ (s : Int) := by omega
                    have hno : ¬ (f ≤ k ∧ k < t) := fun x => by
                      rcases hrow.out.1 x with h | h
                      · rw [hms.out] at h; exact hLs h
                      · exact hik h
                    by_cases hf : f ≤ k
                    · have hf' : (f : Int) ≤ (k : Int) := by omega
                      have ht : ¬ k < t := fun x => hno ⟨hf, x⟩
                      have ht' : ¬ (k : Int) < (t : Int) := by omega
                      clear hno hik
                      go_wp2
                      go_roundg g2
                      case measure => omega
                      case rel => exact ⟨k + 1, by omega, by go_num, by omega, HBz2⟩
                    · have hf' : ¬ (f : Int) ≤ (k : Int) := by omega
                      clear hno hik
                      go_wp2
                      go_roundg g2
                      case measure => omega
                      case rel => exact ⟨k + 1, by omega, by go_num, by omega, HBz2⟩
            · have b1' : ¬ (u : Int) < (l.length : Int) := by omega
              have hms : Hid (m = s) := HSs.out.2.1 b1
              clear HSs
              go_upto_region 22 with fail
              go_quiet (fail)
              go_wp2_with fail
              refine (CPp _ (below_drewN HBw.out _)).mono ?_
              rintro e z1 ⟨O5, cap5, rfl, hr5, hg5, -⟩
              have hb5 := below_noneR hg5
              have LE := LEq O5 cap5 z1 (row_ints (l := cpA l) (by rw [cpA_len]; exact hr5)) (own_cap hr5)
              have HBz : Hid (Below V.heap.size V z1) := lb_trans (below_drewN HBw.out _) hb5
              clear hr5 hg5 hb5
              go_wp2_with fail
              refine LE.mono ?_
              rintro e z2 ⟨rfl, hb6⟩
              have HBz2 : Hid (Below V.heap.size V z2) := lb_trans HBz.out hb6
              clear hb6 LE HBz
              by_cases hik : i = k
              · have e1 : ((i : Int) != (k : Int)) = false := by rw [hik]; simp
                have e2 : ((i : Int) == (k : Int)) = true := by rw [hik]; simp
                obtain ⟨hf, ht⟩ := hrow.out.2 (.inr hik)
                have hf' : (f : Int) ≤ (k : Int) := by omega
                have ht' : (k : Int) < (t : Int) := by omega
                obtain rfl : lv = -1 := hlv1.out hik
                clear hik
                by_cases hLs : L ≤ s
                · have hLs' : (L : Int) ≤ (s : Int) := by omega
                  go_wp2
                  go_roundg g2
                  case measure => omega
                  case rel => exact ⟨k + 1, by omega, by go_num, by omega, HBz2⟩
                · have hLs' : ¬ (L : Int) ≤ (s : Int) := by omega
                  go_wp2
                  go_roundg g2
                  case measure => omega
                  case rel => exact ⟨k + 1, by omega, by go_num, by omega, HBz2⟩
              · have e1 : ((i : Int) != (k : Int)) = true := by rw [bne_iff_ne]; omega
                have e2 : ((i : Int) == (k : Int)) = false := by rw [beq_eq_false_iff_ne]; omega
                have e3 : ((s : Int) != (s : Int)) = false := by simp
                obtain rfl : lv = (s : Int) := by rw [hlv2.out hik, hms.out]
                by_cases hLs : L ≤ s
                · have hLs' : (L : Int) ≤ (s : Int) := by omega
                  obtain ⟨hf, ht⟩ := hrow.out.2 (.inl (by rw [hms.out]; exact hLs))
                  have hf' : (f : Int) ≤ (k : Int) := by omega
                  have ht' : (k : Int) < (t : Int) := by omega
                  clear hik
                  go_wp2
                  go_roundg g2
                  case measure => omega
                  case rel => exact ⟨k + 1, by omega, by go_num, by omega, HBz2⟩
                · have hLs' : ¬ (L : Int) ≤ (s : Int) := by omega
                  have hno : ¬ (f ≤ k ∧ k < t) := fun x => by
                    rcases hrow.out.1 x with h | h
                    · rw [hms.out] at h; exact hLs h
                    · exact hik h
                  by_cases hf : f ≤ k
                  · have hf' : (f : Int) ≤ (k : Int) := by omega
                    have ht : ¬ k < t := fun x => hno ⟨hf, x⟩
                    have ht' : ¬ (k : Int) < (t : Int) := by omega
                    clear hno hik
                    go_wp2
                    go_roundg g2
                    case measure => omega
                    case rel => exact ⟨k + 1, by omega, by go_num, by omega, HBz2⟩
                  · have hf' : ¬ (f : Int) ≤ (k : Int) := by omega
                    clear hno hik
                    go_wp2
                    go_roundg g2
                    case measure => omega
                    case rel => exact ⟨k + 1, by omega, by go_num, by omega, HBz2⟩
        · obtain rfl : k = l.length := by omega
          have hkt' : ¬ (l.length : Int) < (l.length : Int) := by omega
          go_wp2
          go_roundg g1
          case measure => omega
          case rel => exact ⟨i + 1, by omega, by go_num, by omega, HBw⟩
    · obtain rfl : i = l.length := by omega
      have hlt' : ¬ (l.length : Int) < (l.length : Int) := by omega
      have HBf : Hid (Below w.heap.size w wr) := lb_trans HBw0.out HB.out
      go_wp2_with fail
      refine (LV _).mono ?_
      rintro e w9 ⟨rfl, hb9⟩
      have HB9 : Hid (Below w.heap.size w w9) := lb_trans HBf.out hb9
      clear hb9
      go_wp2
      go_ret
      exact ⟨rfl, HB9.out⟩

end Go.Proofs.Ytpmaiblgnblpeaa
