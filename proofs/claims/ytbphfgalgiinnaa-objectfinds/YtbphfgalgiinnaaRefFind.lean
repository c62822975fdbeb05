/-
  Of and At of the document's answer, for every object whose lists are at most 2^20 long.
-/
import Derived.Test.YtbphfgalgiinnaaProg
import Derived.WalkKit
import Derived.WalkSpells
import Derived.WalkLawsBesides
import Derived.RowKit3
import Derived.Below
import Derived.Deep.QuietTactic
import Derived.BigQuiet
import Derived.WalkSmall
import Derived.Test.YtbphfgalgiinnaaObMath
namespace Go.Proofs.Ytbphfgalgiinnaa
open Go.RowKit

set_option maxRecDepth 100000 in
set_option maxHeartbeats 1000000 in
theorem refof_any (nm : ByteArray) (dA : Int) (A1 A2 A4 A : Option Addr) (n1 c1 n2 c2 n4 c4 cp : Nat) (zs : List Sym) (s : ByteArray) (w : World) (hA : SymsAt w A zs) (hz : zs.length ≤ 1048576) :
    Calls Try.prog 12 #[.agg #[.string nm, .slice A1 n1 c1, .int .i64 dA, .slice A2 n2 c2, .slice A zs.length cp, .slice A4 n4 c4], .string s] w fun e w' => e = .returned (.int .i64 (ofS zs s)) ∧ Below w.heap.size w w' := by
  have hB : SymsAt (w.alloc (.cells #[.string nm, .slice A1 n1 c1, .int .i64 dA, .slice A2 n2 c2, .slice A zs.length cp, .slice A4 n4 c4] 27)) A zs := hA.keep (lb_alloc (Below.refl _ _) _)
  clear hA
  go_enter Try.func12, Try.ntmps12
  go_wp2
  go_loop [5] (fun i => ∃ k : Nat, i = .int .i64 k ∧ k ≤ zs.length ∧ Hid (ofFrom (zs.drop k) s k = ofS zs s)) (fun i => zs.length - (intOf i).toNat)
  case atStart => exact ⟨0, rfl, by omega, rfl⟩
  case round =>
    obtain ⟨k, rfl, hk, HT⟩ := hrel
    by_cases hlt : k < zs.length
    · obtain ⟨a, rfl, c0, _⟩ := hB k hlt
      cases he : ((sName zs k).toList == s.toList)
      · have HE : Hid _ := of_miss hlt he
        go_wp2
        go_round
        case rel => exact ⟨k + 1, by go_num, by omega, by rw [Hid, ← HE.out]; exact HT.out⟩
        case measure => simp [intOf]; omega
      · have HE : Hid _ := of_hit hlt he
        go_wp2
        go_ret
        exact ⟨retI (by rw [← HT.out, HE.out]), lb_alloc (Below.refl _ _) _⟩
    · have HE : Hid _ := of_end (s := s) (by omega : zs.length ≤ k)
      go_wp2
      go_ret
      exact ⟨retI (by rw [← HT.out, HE.out]), lb_alloc (Below.refl _ _) _⟩

set_option maxRecDepth 100000 in
set_option maxHeartbeats 1000000 in
theorem refat_any (nm : ByteArray) (dA : Int) (A1 A2 A4 A : Option Addr) (n1 c1 n2 c2 n4 c4 cp : Nat) (zs : List Rel) (s : Int) (w : World) (hA : RelsAt w A zs) (hz : zs.length ≤ 1048576) :
    Calls Try.prog 14 #[.agg #[.string nm, .slice A1 n1 c1, .int .i64 dA, .slice A2 n2 c2, .slice A4 n4 c4, .slice A zs.length cp], .int .i64 s] w fun e w' => e = .returned (.int .i64 (atR zs s)) ∧ Below w.heap.size w w' := by
  have hB : RelsAt (w.alloc (.cells #[.string nm, .slice A1 n1 c1, .int .i64 dA, .slice A2 n2 c2, .slice A4 n4 c4, .slice A zs.length cp] 27)) A zs := hA.keep (lb_alloc (Below.refl _ _) _)
  clear hA
  go_enter Try.func14, Try.ntmps14
  go_wp2
  go_loop [5] (fun i => ∃ k : Nat, i = .int .i64 k ∧ k ≤ zs.length ∧ Hid (atFrom (zs.drop k) s k = atR zs s)) (fun i => zs.length - (intOf i).toNat)
  case atStart => exact ⟨0, rfl, by omega, rfl⟩
  case round =>
    obtain ⟨k, rfl, hk, HT⟩ := hrel
    by_cases hlt : k < zs.length
    · obtain ⟨a, rfl, c0, _⟩ := hB k hlt
      cases he : (rAt zs k == s)
      · have HE : Hid _ := at_miss hlt he
        go_wp2
        go_round
        case rel => exact ⟨k + 1, by go_num, by omega, by rw [Hid, ← HE.out]; exact HT.out⟩
        case measure => simp [intOf]; omega
      · have HE : Hid _ := at_hit hlt he
        go_wp2
        go_ret
        exact ⟨retI (by rw [← HT.out, HE.out]), lb_alloc (Below.refl _ _) _⟩
    · have HE : Hid _ := at_end (p := s) (by omega : zs.length ≤ k)
      go_wp2
      go_ret
      exact ⟨retI (by rw [← HT.out, HE.out]), lb_alloc (Below.refl _ _) _⟩



end Go.Proofs.Ytbphfgalgiinnaa
