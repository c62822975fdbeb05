/-
  THE LAW SuffixTells, over the program's contracts.
-/
import Derived.Test.YthhfkcmoncgknaaProg
import Derived.WalkKit
import Derived.WalkSpells
import Derived.WalkLawsBesides
import Derived.RowKit3
import Derived.Below
import Derived.Deep.QuietTactic
import Derived.BigQuiet
import Derived.WalkSmall
import Derived.Laws.Rows
import Derived.Test.YthhfkcmoncgknaaPt13
import Derived.Test.YthhfkcmoncgknaaPt14
import Derived.Test.YthhfkcmoncgknaaPt15
import Derived.Test.YthhfkcmoncgknaaPt19
import Derived.Test.YthhfkcmoncgknaaPt20
namespace Go.Proofs.Ythhfkcmoncgknaa
open Go.RowKit

set_option maxRecDepth 100000 in
set_option maxHeartbeats 4000000 in
theorem lawTells (hcm : CompareOK) (hms : MostOK) (LV : LivesOK) (A : Option Addr) (c : Nat) (l : List Int) (i k n : Int) (w : World) (hA : IntsAt w A .i64 l) (hi : -9223372036854775808 ≤ i ∧ i ≤ 9223372036854775807) (hk : -9223372036854775808 ≤ k ∧ k ≤ 9223372036854775807) (hn : -9223372036854775808 ≤ n ∧ n ≤ 9223372036854775807) :
    Calls Try.prog 3 #[.slice A l.length c, .int .i64 i, .int .i64 k, .int .i64 n] w fun e w' => e = .returned (.bool true) ∧ Below w.heap.size w w' := by
  by_cases hbig : 65536 < l.length
  · have hb' : (65536 : Int) < (l.length : Int) := by omega
    clear hcm hms hi hk hn
    go_enter Try.func3, Try.ntmps3
    go_wp2_with fail
    refine (LV _).mono ?_
    rintro e w1 ⟨rfl, hb1⟩
    go_wp2
    go_ret
    exact ⟨rfl, hb1⟩
  have hb' : ¬ (65536 : Int) < (l.length : Int) := by omega
  have hl : l.length ≤ 1048576 := by omega
  have M1 := fun wx => hms n wx hn.1 hn.2
  have M2 := fun wx => refmost_any n wx
  generalize mostI n = mm at M1 M2
  have C1 := fun (B : Option Addr) (cb : Nat) (wx : World) (hB : IntsAt wx B .i64 l) (hcb : l.length ≤ cb) => hcm B cb l i k wx hB (by omega) hcb hi hk
  have C2 := fun wx (h : Below w.heap.size w wx) => refcompare_any A c l i k wx (hA.keep h) hl
  generalize cmpS l i k = cc at C1 C2
  have e1 : (cc == cc) = true := by simp
  have e2 : (mm == mm) = true := by simp
  clear hcm hms hi hk hn hbig
  go_enter Try.func3, Try.ntmps3
  go_wp2_with fail
  refine (wideints_lies A c l _ hA hl).mono ?_
  rintro r w1 ⟨g, rfl, hb1, kA, m3⟩
  have HB1 : Hid (Below w.heap.size w w1) := hb1
  have HKA : Hid (IntsAt w1 (some ⟨g, 0, none⟩) .i64 l) := kA
  have HM : Hid (MarkI w1 .i64 g l.length) := m3
  clear hb1 kA m3
  go_wp2_with fail
  refine (C1 _ _ _ HKA.out (by omega)).mono ?_
  rintro r w2 ⟨rfl, hy⟩
  have X2 : Hid (Below w1.heap.size w1 w2) := hy
  clear hy C1
  go_wp2_with fail
  refine (C2 _ (lb_trans HB1.out X2.out)).mono ?_
  rintro r w3 ⟨rfl, hy⟩
  have X3 : Hid (Below w1.heap.size w1 w3) := lb_trans X2.out hy
  clear hy C2 X2
  go_wp2_with fail
  refine (M1 _).mono ?_
  rintro r w4 ⟨rfl, hy⟩
  have X4 : Hid (Below w1.heap.size w1 w4) := lb_trans X3.out hy
  clear hy M1 X3
  go_wp2_with fail
  refine (M2 _).mono ?_
  rintro r w5 ⟨rfl, hy⟩
  have X5 : Hid (Below w1.heap.size w1 w5) := lb_trans X4.out hy
  clear hy M2 X4
  have E1 := eqints_any (some ⟨g, 0, none⟩) A (l.length + 64) c l l w5 (HKA.out.keep X5.out) (hA.keep (lb_trans HB1.out X5.out)) hl
  simp only [decide_true] at E1
  go_wp2_with fail
  refine E1.mono ?_
  rintro r w6 ⟨rfl, hy⟩
  have X6 : Hid (Below w1.heap.size w1 w6) := lb_trans X5.out hy
  clear hy E1 X5
  go_wp2_with fail
  refine (spareints_any g l.length _ (HM.out.keep X6.out) hl).mono ?_
  rintro r w7 ⟨rfl, rfl⟩
  go_wp2_with fail
  refine (LV _).mono ?_
  rintro r w8 ⟨rfl, hy⟩
  have X8 : Hid (Below w.heap.size w w8) := lb_trans (lb_trans HB1.out X6.out) hy
  clear hy
  go_wp2
  go_ret
  exact ⟨rfl, X8.out⟩

end Go.Proofs.Ythhfkcmoncgknaa
