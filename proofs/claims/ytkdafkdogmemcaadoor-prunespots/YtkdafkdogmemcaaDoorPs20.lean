/-
  EqSpots. The document's Overlaps.
-/
import Derived.Test.YtkdafkdogmemcaaDoorProg
import Derived.WalkKit
import Derived.WalkSpells
import Derived.WalkLawsBesides
import Derived.RowKit3
import Derived.Below
import Derived.Deep.QuietTactic
import Derived.BigQuiet
import Derived.WalkSmall
import Derived.Laws.Rows
import Derived.Deep.Slices
import Derived.Laws.AppendOwn
import Derived.Laws.OwnMore
import Derived.Lib.BufferOwn
import Derived.Test.YtkdafkdogmemcaaDoorPs03
import Derived.Test.YtkdafkdogmemcaaDoorPs10
namespace Go.Proofs.YtkdafkdogmemcaaDoor
open Go.RowKit

theorem spt_take {zs ys : List Spt} {k : Nat} (h : zs.take k = ys.take k) (h1 : k < zs.length) (h2 : k < ys.length) (e : spt zs k = spt ys k) : zs.take (k + 1) = ys.take (k + 1) := take_same (z := spD) h h1 h2 e
theorem spt_ne {zs ys : List Spt} {k : Nat} (e : ¬ spt zs k = spt ys k) : ¬ zs = ys := fun h => e (by rw [h])
set_option maxRecDepth 100000 in
set_option maxHeartbeats 4000000 in
theorem eqspots_any (A B : Option Addr) (ca cb : Nat) (zs ys : List Spt) (w : World) (hA : SpAt w A zs) (hB : SpAt w B ys) (hz : zs.length ≤ 1048576) :
    Calls Tryd.prog 7 #[.slice A zs.length ca, .slice B ys.length cb] w fun e w' => e = .returned (.bool (decide (zs = ys))) ∧ Below w.heap.size w w' := by
  by_cases hl : zs.length = ys.length
  · have hl' : ((zs.length : Int) != (ys.length : Int)) = false := by rw [hl]; simp
    have HL : Hid (zs.length = ys.length) := hl
    clear hl
    go_enter Tryd.func7, Tryd.ntmps7
    go_wp2
    go_loopw [5] (fun i wr => ∃ (k m : Nat), i = .int .i64 k ∧ k ≤ zs.length ∧ wr = w.drewN m ∧ Hid (zs.take k = ys.take k)) (fun i _ => zs.length - (intOf i).toNat)
    case atStart => exact ⟨0, 0, rfl, by omega, rfl, by simp [Hid]⟩
    case round =>
      obtain ⟨k, m, rfl, hk, rfl, HT⟩ := hrel
      by_cases hlt : k < zs.length
      · have hkl := HL.out
        obtain ⟨a, rfl, c0, c1, c2⟩ := hA k hlt
        obtain ⟨b, rfl, d0, d1, d2⟩ := hB k (by omega)
        have hlt2 : (k : Int) < (ys.length : Int) := by omega
        clear hkl
        have HN : Hid (¬ spt zs k = spt ys k → ¬ zs = ys) := spt_ne
        have HS : Hid (spt zs k = spt ys k → zs.take (k + 1) = ys.take (k + 1)) := fun e => spt_take HT.out hlt (by have := HL.out; omega) e
        generalize spt zs k = s at *
        generalize spt ys k = t at *
        obtain ⟨s0, s1, s2⟩ := s
        obtain ⟨t0, t1, t2⟩ := t
        have p0 : w.cell? (a.add (k * 3)) = some (.int .i64 s0) := c0
        have q0 : w.cell? (b.add (k * 3)) = some (.int .i64 t0) := d0
        have p1 : w.cell? (⟨(a.add (k * 3)).block, (a.add (k * 3)).off + 1, none⟩) = some (.int .i8 s1) := c1
        have q1 : w.cell? (⟨(b.add (k * 3)).block, (b.add (k * 3)).off + 1, none⟩) = some (.int .i8 t1) := d1
        have p2 : w.cell? (⟨(a.add (k * 3)).block, (a.add (k * 3)).off + 2, none⟩) = some (.int .i8 s2) := c2
        have q2 : w.cell? (⟨(b.add (k * 3)).block, (b.add (k * 3)).off + 2, none⟩) = some (.int .i8 t2) := d2
        clear c0 c1 c2 d0 d1 d2
        by_cases h0 : ¬ s0 = t0
        · have HE : Hid (¬ zs = ys) := HN.out (fun h => by cases h; exact h0 rfl)
          have e0 : (s0 == t0) = false := by simpa using h0
          clear h0 HN HS
          go_wp2_with fail
          go_quiet (fail)
          go_wp2
          go_ret
          exact ⟨retB (decide_eq_false HE.out).symm, below_drewN (below_drewN (Below.refl _ _) _) _⟩
        have H0 : Hid (s0 = t0) := Classical.not_not.1 h0
        have e0 : (s0 == t0) = true := by simpa using H0.out
        clear h0
        by_cases h1 : ¬ s1 = t1
        · have HE : Hid (¬ zs = ys) := HN.out (fun h => by cases h; exact h1 rfl)
          have e1 : (s1 == t1) = false := by simpa using h1
          clear h1 HN HS
          go_wp2_with fail
          go_quiet (fail)
          go_wp2
          go_ret
          exact ⟨retB (decide_eq_false HE.out).symm, below_drewN (below_drewN (Below.refl _ _) _) _⟩
        have H1 : Hid (s1 = t1) := Classical.not_not.1 h1
        have e1 : (s1 == t1) = true := by simpa using H1.out
        clear h1
        by_cases h2 : ¬ s2 = t2
        · have HE : Hid (¬ zs = ys) := HN.out (fun h => by cases h; exact h2 rfl)
          have e2 : (s2 == t2) = false := by simpa using h2
          clear h2 HN HS
          go_wp2_with fail
          go_quiet (fail)
          go_wp2
          go_ret
          exact ⟨retB (decide_eq_false HE.out).symm, below_drewN (below_drewN (Below.refl _ _) _) _⟩
        have H2 : Hid (s2 = t2) := Classical.not_not.1 h2
        have e2 : (s2 == t2) = true := by simpa using H2.out
        have HTk : Hid (zs.take (k + 1) = ys.take (k + 1)) := HS.out (by rw [H0.out, H1.out, H2.out])
        clear h2 HN HS
        go_wp2_with fail
        go_quiet (fail)
        go_wp2
        go_roundw
        case rel => exact ⟨k + 1, _, by go_num, by omega, rfl, HTk⟩
        case measure => simp [intOf]; omega
      · go_wp2
        go_ret
        exact ⟨retB (decide_eq_true (take_all HT.out (by omega) HL.out)).symm, below_drewN (Below.refl _ _) _⟩
  · have hl' : ((zs.length : Int) != (ys.length : Int)) = true := by simp; omega
    have HL : Hid (¬ zs.length = ys.length) := hl
    clear hl
    go_enter Tryd.func7, Tryd.ntmps7
    go_wp2
    go_ret
    exact ⟨retB (decide_eq_false (fun h => HL.out (by rw [h]))).symm, Below.refl _ _⟩


end Go.Proofs.YtkdafkdogmemcaaDoor

namespace Go.Proofs.YtkdafkdogmemcaaDoor
open Go.RowKit

set_option maxRecDepth 100000 in
set_option maxHeartbeats 8000000 in
theorem refoverlaps_any (n : Int) (A : Option Addr) (c : Nat) (l : List Spt) (w : World) (hA : SpAt w A l) (hl : l.length ≤ 65536) :
    Calls Tryd.prog 10 #[.int .i64 n, .slice A l.length c] w fun e w' => e = .returned (.int .i64 ((ovR n l : Nat) : Int)) ∧ Below w.heap.size w w' := by
  have CW := within_any n A c l w hA (by omega)
  cases hwi : wiB n l with
  | false =>
    have HR : Hid (ovR n l = 0) := by unfold Hid ovR; rw [hwi, if_neg (by simp)]
    rw [hwi] at CW
    rw [HR.out]
    clear hA HR hwi
    go_enter Tryd.func10, Tryd.ntmps10
    go_wp2_with fail
    refine CW.mono ?_
    rintro e w1 ⟨rfl, rfl⟩
    go_wp2
    go_ret
    exact ⟨rfl, Below.refl _ _⟩
  | true =>
    obtain ⟨hm, hn1, hn2⟩ := wi_mem hwi
    have HM : Hid (∀ s ∈ l, 0 ≤ s.1 ∧ s.1 ≤ 16384) := hm
    have HR : Hid (ovR n l = ovP n l l.length) := by unfold Hid ovR; rw [hwi, if_pos rfl]
    rw [hwi] at CW
    rw [HR.out]
    have HA : Hid (SpAt w A l) := hA
    clear hA HR hwi hm
    go_enter Tryd.func10, Tryd.ntmps10
    go_wp2_with fail
    refine CW.mono ?_
    rintro e w1 ⟨rfl, rfl⟩
    clear CW
    go_wp2
    go_loopw [5, 6] (fun vm vi wr => ∃ (i m : Nat), vi = .int .i64 (i : Int) ∧ vm = .int .i64 (m : Int) ∧ i ≤ l.length ∧ m ≤ 4294967296 ∧ Hid (m = ovP n l i) ∧ Hid (Below w1.heap.size w1 wr)) (fun _ vi _ => l.length - (intOf vi).toNat)
    case atStart => exact ⟨0, 0, rfl, rfl, Nat.zero_le _, Nat.zero_le _, rfl, Below.refl _ _⟩
    case round =>
      obtain ⟨i, m, rfl, rfl, hin, hm4, HV, HB⟩ := hrel
      by_cases hlt : i < l.length
      · have hlt' : (i : Int) < (l.length : Int) := by omega
        have hpl := ovP_le n l (i := i) (b := l.length) hin
        have hsq : i * l.length ≤ 65536 * 65536 := Nat.mul_le_mul (by omega) hl
        have hmb : m ≤ 4294967296 := by have := HV.out; omega
        have HV1 : Hid (ovP n l (i + 1) = m + ovK n l i i) := by unfold Hid; rw [ovP, ← HV.out]
        have hsm := HM.out _ (spt_mem hlt)
        clear HV hsq hpl
        go_wp2
        go_loopw [5, 7] (fun vm vk ws => ∃ (k m2 : Nat), vk = .int .i64 (k : Int) ∧ vm = .int .i64 (m2 : Int) ∧ k ≤ i ∧ Hid (m2 = m + ovK n l i k) ∧ Hid (Below w1.heap.size w1 ws)) (fun _ vk _ => i - (intOf vk).toNat)
        case atStart => exact ⟨0, m, rfl, rfl, Nat.zero_le _, rfl, HB⟩
        case round =>
          clear HB
          obtain ⟨k, m2, rfl, rfl, hk, HV2, HW⟩ := hrel
          by_cases hlk : k < i
          · have hlk' : (k : Int) < (i : Int) := by omega
            have hkl : (k : Int) < (l.length : Int) := by omega
            have hlk3 : k < l.length := by omega
            obtain ⟨a, ea, p1, p2, p3⟩ := (HA.out.keep HW.out) i hlt
            subst ea
            obtain ⟨a', ea', o1, o2, o3⟩ := (HA.out.keep HW.out) k hlk3
            cases ea'
            have hom := HM.out _ (spt_mem hlk3)
            have hkle := ovK_le n l i k
            have hm2 : m2 ≤ 4295032832 := by have := HV2.out; omega
            have HY : Hid (ovl n (spt l k) (spt l i) = true → m2 + 1 = m + ovK n l i (k + 1)) := fun h => by rw [ovK_yes h, HV2.out]; omega
            have HN : Hid (ovl n (spt l k) (spt l i) = false → m2 = m + ovK n l i (k + 1)) := fun h => by rw [ovK_no h]; exact HV2.out
            obtain ⟨bv, hbv⟩ : ∃ bv, Hid (ovl n (spt l k) (spt l i) = bv) := ⟨_, rfl⟩
            clear HV2 hkle
            generalize spt l k = o at *
            generalize spt l i = s at *
            obtain ⟨o0, o4, o5⟩ := o
            obtain ⟨s0, s1, s2⟩ := s
            simp only at hom hsm
            have C := fun Z => overlap_any n o0 o4 o5 s0 s1 s2 Z ⟨hn1, hn2⟩ hom hsm
            rw [hbv.out] at C HY HN
            obtain ⟨ws, hws⟩ : ∃ ws, ws = wr := ⟨_, rfl⟩
            rw [← hws] at o1 o2 o3 p1 p2 p3 HW
            subst hws
            replace o1 : ws.cell? (a.add (k * 3)) = some (.int .i64 o0) := o1
            replace o2 : ws.cell? ⟨(a.add (k * 3)).block, (a.add (k * 3)).off + 1, none⟩ = some (.int .i8 o4) := o2
            replace o3 : ws.cell? ⟨(a.add (k * 3)).block, (a.add (k * 3)).off + 2, none⟩ = some (.int .i8 o5) := o3
            replace p1 : ws.cell? (a.add (i * 3)) = some (.int .i64 s0) := p1
            replace p2 : ws.cell? ⟨(a.add (i * 3)).block, (a.add (i * 3)).off + 1, none⟩ = some (.int .i8 s1) := p2
            replace p3 : ws.cell? ⟨(a.add (i * 3)).block, (a.add (i * 3)).off + 2, none⟩ = some (.int .i8 s2) := p3
            have HC : Hid (∀ Z, Below ws.heap.size ws Z → (Z.cell? (a.add (k * 3)) = some (.int .i64 o0) ∧ Z.cell? ⟨(a.add (k * 3)).block, (a.add (k * 3)).off + 1, none⟩ = some (.int .i8 o4) ∧ Z.cell? ⟨(a.add (k * 3)).block, (a.add (k * 3)).off + 2, none⟩ = some (.int .i8 o5)) ∧ Z.cell? (a.add (i * 3)) = some (.int .i64 s0) ∧ Z.cell? ⟨(a.add (i * 3)).block, (a.add (i * 3)).off + 1, none⟩ = some (.int .i8 s1) ∧ Z.cell? ⟨(a.add (i * 3)).block, (a.add (i * 3)).off + 2, none⟩ = some (.int .i8 s2)) := fun Z hZ => ⟨⟨lkeep hZ o1, lkeep hZ o2, lkeep hZ o3⟩, lkeep hZ p1, lkeep hZ p2, lkeep hZ p3⟩
            have BX : Below ws.heap.size ws ws.drew := (Below.refl _ _).drew
            clear hom hsm hbv
            go_upto_region 10 with fail
            go_region_held3 (fun Z => (Z.cell? (a.add (k * 3)) = some (.int .i64 o0) ∧ Z.cell? ⟨(a.add (k * 3)).block, (a.add (k * 3)).off + 1, none⟩ = some (.int .i8 o4) ∧ Z.cell? ⟨(a.add (k * 3)).block, (a.add (k * 3)).off + 2, none⟩ = some (.int .i8 o5)) ∧ Z.cell? (a.add (i * 3)) = some (.int .i64 s0) ∧ Z.cell? ⟨(a.add (i * 3)).block, (a.add (i * 3)).off + 1, none⟩ = some (.int .i8 s1) ∧ Z.cell? ⟨(a.add (i * 3)).block, (a.add (i * 3)).off + 2, none⟩ = some (.int .i8 s2)) (first | exact HC.out _ (Below.refl _ _) | exact HC.out _ (lb_trans BX hb5) | exact HC.out _ BX) (first | (go_at_call 19; refine (C _).mono ?_; rintro e w5 ⟨rfl, hb5⟩))
            have HW5 : Hid (Below w1.heap.size w1 w5) := lb_trans HW.out (lb_trans BX hb5)
            clear hb5 BX C HC o1 o2 o3 p1 p2 p3
            cases bv with
            | true =>
              have HY2 : Hid (m2 + 1 = m + ovK n l i (k + 1)) := HY.out rfl
              clear HY HN
              go_wp2
              go_roundw
              case rel => exact ⟨k + 1, m2 + 1, by go_num, by go_num, by omega, HY2, HW5⟩
              case measure => simp [intOf]; omega
            | false =>
              have HY2 : Hid (m2 = m + ovK n l i (k + 1)) := HN.out rfl
              clear HY HN
              go_wp2
              go_roundw
              case rel => exact ⟨k + 1, m2, by go_num, rfl, by omega, HY2, HW5⟩
              case measure => simp [intOf]; omega
          · obtain rfl : k = i := by omega
            have hlk' : ¬ (k : Int) < (k : Int) := by omega
            have HV3 : Hid (m2 = ovP n l (k + 1)) := by unfold Hid; rw [HV1.out]; exact HV2.out
            have hm2 : m2 ≤ 4294967296 := by
              have h1 := HV3.out
              have h2 := ovP_le n l (i := k + 1) (b := l.length) (by omega)
              have h3 : (k + 1) * l.length ≤ 65536 * 65536 := Nat.mul_le_mul (by omega) hl
              omega
            clear HV1 HV2
            go_wp2
            exact ⟨⟨k + 1, m2, by go_num, rfl, by omega, hm2, HV3, HW⟩, by simp [intOf]; omega⟩
      · obtain rfl : i = l.length := by omega
        have hlt' : ¬ (l.length : Int) < (l.length : Int) := by omega
        have HF : Hid (((ovP n l l.length : Nat) : Int) = (m : Int)) := by unfold Hid; rw [HV.out]
        clear HV
        go_wp2
        go_ret
        exact ⟨by rw [HF.out]; rfl, HB.out⟩

end Go.Proofs.YtkdafkdogmemcaaDoor
