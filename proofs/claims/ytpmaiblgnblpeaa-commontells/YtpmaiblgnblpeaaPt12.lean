/-
  EqInts: two lists of ints. THE LAW CommonTells, over the program's contracts.
-/
import Derived.Test.YtpmaiblgnblpeaaProg
import Derived.WalkKit
import Derived.WalkSpells
import Derived.WalkLawsBesides
import Derived.RowKit3
import Derived.Below
import Derived.Deep.QuietTactic
import Derived.BigQuiet
import Derived.WalkSmall
import Derived.Laws.Rows
import Derived.Test.YtpmaiblgnblpeaaPt01
import Derived.Test.YtpmaiblgnblpeaaPt08
import Derived.Test.YtpmaiblgnblpeaaPt09
import Derived.Test.YtpmaiblgnblpeaaPt11
namespace Go.Proofs.Ytpmaiblgnblpeaa
open Go.RowKit

set_option maxRecDepth 100000 in
set_option maxHeartbeats 1000000 in
theorem eqints_any (A B : Option Addr) (ca cb : Nat) (zs ys : List Int) (w : World) (hA : IntsAt w A .i64 zs) (hB : IntsAt w B .i64 ys) (hz : zs.length ≤ 1048576) :
    Calls Try.prog 11 #[.slice A zs.length ca, .slice B ys.length cb] w fun e w' => e = .returned (.bool (decide (zs = ys))) ∧ Below w.heap.size w w' := by
  by_cases hl : zs.length = ys.length
  · have hl' : ((zs.length : Int) == (ys.length : Int)) = true := by rw [hl]; simp
    have HL : Hid (zs.length = ys.length) := hl
    clear hl
    go_enter Try.func11, Try.ntmps11
    go_wp2
    go_loopw [5] (fun i wr => ∃ (k m : Nat), i = .int .i64 k ∧ k ≤ zs.length ∧ wr = w.drewN m ∧ Hid (zs.take k = ys.take k)) (fun i _ => zs.length - (intOf i).toNat)
    case atStart => exact ⟨0, 0, rfl, by omega, rfl, by simp [Hid]⟩
    case round =>
      obtain ⟨k, m, rfl, hk, rfl, HT⟩ := hrel
      by_cases hlt : k < zs.length
      · obtain ⟨a, rfl, c1⟩ := hA k hlt
        obtain ⟨b, rfl, c2⟩ := hB k (by have := HL.out; omega)
        have hlt2 : (k : Int) < (ys.length : Int) := by have := HL.out; omega
        by_cases he : nth zs k = nth ys k
        · have HE : Hid (nth zs k = nth ys k) := he
          have he' : (nth zs k == nth ys k) = true := by simpa using he
          clear he
          go_wp2_with fail
          go_quiet (fail)
          go_wp2
          go_roundw
          case rel => exact ⟨k + 1, _, by go_num, by omega, rfl, take_same HT.out hlt (by omega) HE.out⟩
          case measure => simp [intOf]; omega
        · have HE : Hid (¬ nth zs k = nth ys k) := he
          have he' : (nth zs k == nth ys k) = false := by simpa using he
          clear he
          go_wp2_with fail
          go_quiet (fail)
          go_wp2
          go_ret
          exact ⟨retB (decide_eq_false (nth_ne HE.out)).symm, below_drewN (below_drewN (Below.refl _ _) _) _⟩
      · go_wp2
        go_ret
        exact ⟨retB (decide_eq_true (take_all HT.out (by omega) HL.out)).symm, below_drewN (Below.refl _ _) _⟩
  · have hl' : ((zs.length : Int) == (ys.length : Int)) = false := by simp; omega
    have HL : Hid (¬ zs.length = ys.length) := hl
    clear hl
    go_enter Try.func11, Try.ntmps11
    go_wp2
    go_ret
    exact ⟨retB (decide_eq_false (fun h => HL.out (by rw [h]))).symm, Below.refl _ _⟩










end Go.Proofs.Ytpmaiblgnblpeaa

namespace Go.Proofs.Ytpmaiblgnblpeaa
open Go.RowKit

set_option maxRecDepth 100000 in
set_option maxHeartbeats 4000000 in
theorem lawTells (hle : LeastOK) (hgr : GroupOK) (LV : LivesOK) (A : Option Addr) (c : Nat) (l : List Int) (i k n : Int) (w : World) (hA : IntsAt w A .i64 l) (hi : Rng i) (hk : Rng k) (hn : Rng n) :
    Calls Try.prog 3 #[.slice A l.length c, .int .i64 i, .int .i64 k, .int .i64 n] w fun e w' => e = .returned (.bool true) ∧ Below w.heap.size w w' := by
  by_cases hbig : 16384 < l.length
  · have hb' : (16384 : Int) < (l.length : Int) := by omega
    clear hle hgr hi hk hn
    go_enter Try.func3, Try.ntmps3
    go_wp2_with fail
    refine (LV _).mono ?_
    rintro e w1 ⟨rfl, hb1⟩
    go_wp2
    go_ret
    exact ⟨rfl, hb1⟩
  have hb' : ¬ (16384 : Int) < (l.length : Int) := by omega
  have hl : l.length ≤ 16384 := by omega
  have hl1 : l.length ≤ 1048576 := by omega
  have C1 := fun (B : Option Addr) (cb : Nat) (wx : World) (hB : IntsAt wx B .i64 l) (hcb : l.length ≤ cb) => hle B cb l i k wx hB hl hcb hi hk
  have C2 := fun wx (h : Below w.heap.size w wx) => refleast_any A c l i k wx (hA.keep h) hl
  have G1 := fun (B : Option Addr) (cb : Nat) (wx : World) (hB : IntsAt wx B .i64 l) => hgr B cb l i n wx hB hl hi hn
  have G2 := fun wx (h : Below w.heap.size w wx) => refgroup_any A c l i n wx (hA.keep h) hl
  generalize leI l i k = a1 at *
  generalize leE l i k = a2 at *
  generalize gpF l i n = b1 at *
  generalize gpT l i n = b2 at *
  generalize gpE l i n = b3 at *
  have e1 : (a1 == a1) = true := by simp
  have e2 : (a2 == a2) = true := by simp
  have e3 : (b1 == b1) = true := by simp
  have e4 : (b2 == b2) = true := by simp
  have e5 : (b3 == b3) = true := by simp
  clear hle hgr hi hk hn hbig
  go_enter Try.func3, Try.ntmps3
  go_wp2_with fail
  refine (wideints_lies A c l _ hA hl1).mono ?_
  rintro r w1 ⟨g, rfl, hb1, kA, m3⟩
  have HB1 : Hid (Below w.heap.size w w1) := hb1
  have HKA : Hid (IntsAt w1 (some ⟨g, 0, none⟩) .i64 l) := kA
  have HM : Hid (MarkI w1 .i64 g l.length) := m3
  clear hb1 kA m3
  go_wp2_with fail
  refine (C1 _ _ _ HKA.out (by omega)).mono ?_
  rintro r w2 ⟨rfl, hy⟩
  have X2 : Hid (Below w1.heap.size w1 w2) := hy
  clear hy C1
  go_wp2_with fail
  refine (C2 _ (lb_trans HB1.out X2.out)).mono ?_
  rintro r w3 ⟨rfl, hy⟩
  have X3 : Hid (Below w1.heap.size w1 w3) := lb_trans X2.out hy
  clear hy C2 X2
  go_wp2_with fail
  refine (G1 _ _ _ (HKA.out.keep X3.out)).mono ?_
  rintro r w4 ⟨rfl, hy⟩
  have X4 : Hid (Below w1.heap.size w1 w4) := lb_trans X3.out hy
  clear hy G1 X3
  go_wp2_with fail
  refine (G2 _ (lb_trans HB1.out X4.out)).mono ?_
  rintro r w5 ⟨rfl, hy⟩
  have X5 : Hid (Below w1.heap.size w1 w5) := lb_trans X4.out hy
  clear hy G2 X4
  have E1 := eqints_any (some ⟨g, 0, none⟩) A (l.length + 64) c l l w5 (HKA.out.keep X5.out) (hA.keep (lb_trans HB1.out X5.out)) hl1
  simp only [decide_true] at E1
  go_wp2_with fail
  refine E1.mono ?_
  rintro r w6 ⟨rfl, hy⟩
  have X6 : Hid (Below w1.heap.size w1 w6) := lb_trans X5.out hy
  clear hy E1 X5
  go_wp2_with fail
  refine (spareints_any g l.length _ (HM.out.keep X6.out) hl1).mono ?_
  rintro r w7 ⟨rfl, rfl⟩
  go_wp2_with fail
  refine (LV _).mono ?_
  rintro r w8 ⟨rfl, hy⟩
  have X8 : Hid (Below w.heap.size w w8) := lb_trans (lb_trans HB1.out X6.out) hy
  clear hy
  go_wp2
  go_ret
  exact ⟨rfl, X8.out⟩

end Go.Proofs.Ytpmaiblgnblpeaa
