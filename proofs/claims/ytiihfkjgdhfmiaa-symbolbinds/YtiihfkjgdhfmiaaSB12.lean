/-
  The first three looks at an object, by the document's answer; its data is at most 2^20 long. Of and At of the document's answer, for every object whose lists are at most 2^20 long. The look at an object's symbols, by the document's answer; the lists are at most 2^20 long.
-/
import Derived.Test.YtiihfkjgdhfmiaaProg
import Derived.WalkKit
import Derived.WalkSpells
import Derived.WalkLawsBesides
import Derived.RowKit3
import Derived.Below
import Derived.Deep.QuietTactic
import Derived.BigQuiet
import Derived.WalkSmall
import Derived.Test.YtiihfkjgdhfmiaaSB11
import Derived.Test.YtiihfkjgdhfmiaaSB01
namespace Go.Proofs.Ytiihfkjgdhfmiaa
open Go.RowKit

set_option maxRecDepth 100000 in
set_option maxHeartbeats 1000000 in
theorem refsize_any (nm : ByteArray) (dA : Int) (A1 A2 A3 A4 : Option Addr) (nc c1 nd c2 ns c3 nr c4 : Nat) (w : World) (_hd : nd ≤ 1048576) :
    Calls Try.prog 53 #[.agg #[.string nm, .slice A1 nc c1, .int .i64 dA, .slice A2 nd c2, .slice A3 ns c3, .slice A4 nr c4]] w fun e w' => e = .returned (.tuple #[.int .i64 (sizeC (nameOK nm) nc ns nr nd dA).1, .int .i64 (sizeC (nameOK nm) nc ns nr nd dA).2]) ∧ Below w.heap.size w w' := by
  have C := refname_any nm
  generalize nameOK nm = ok at C ⊢
  cases ok with
  | false =>
    have HE : Hid ((sizeC false nc ns nr nd dA) = (20, -1)) := by unfold Hid sizeC; rw [if_pos rfl]
    go_enter Try.func53, Try.ntmps53
    go_wp2_with fail
    refine (C _).mono ?_
    rintro e w1 ⟨rfl, rfl⟩
    go_wp2
    go_ret2
    exact ⟨ret2I HE.out.symm, lb_alloc (Below.refl _ _) _⟩
  | true =>
  by_cases h1 : 16384 < nc
  · have HE : Hid ((sizeC true nc ns nr nd dA) = (21, -1)) := by unfold Hid sizeC; rw [if_neg (by simp), if_pos h1]
    go_enter Try.func53, Try.ntmps53
    go_wp2_with fail
    refine (C _).mono ?_
    rintro e w1 ⟨rfl, rfl⟩
    go_wp2
    go_ret2
    exact ⟨ret2I HE.out.symm, lb_alloc (Below.refl _ _) _⟩
  by_cases h2 : 256 < ns
  · have HE : Hid ((sizeC true nc ns nr nd dA) = (21, -2)) := by unfold Hid sizeC; rw [if_neg (by simp), if_neg h1, if_pos h2]
    go_enter Try.func53, Try.ntmps53
    go_wp2_with fail
    refine (C _).mono ?_
    rintro e w1 ⟨rfl, rfl⟩
    go_wp2
    go_ret2
    exact ⟨ret2I HE.out.symm, lb_alloc (Below.refl _ _) _⟩
  by_cases h3 : nc < nr
  · have HE : Hid ((sizeC true nc ns nr nd dA) = (21, -3)) := by unfold Hid sizeC; rw [if_neg (by simp), if_neg h1, if_neg h2, if_pos h3]
    go_enter Try.func53, Try.ntmps53
    go_wp2_with fail
    refine (C _).mono ?_
    rintro e w1 ⟨rfl, rfl⟩
    go_wp2
    go_ret2
    exact ⟨ret2I HE.out.symm, lb_alloc (Below.refl _ _) _⟩
  by_cases h4 : dA < 0
  · have HE : Hid ((sizeC true nc ns nr nd dA) = (25, -1)) := by unfold Hid sizeC; rw [if_neg (by simp), if_neg h1, if_neg h2, if_neg h3, if_pos (Or.inl h4)]
    go_enter Try.func53, Try.ntmps53
    go_wp2_with fail
    refine (C _).mono ?_
    rintro e w1 ⟨rfl, rfl⟩
    go_wp2
    go_ret2
    exact ⟨ret2I HE.out.symm, lb_alloc (Below.refl _ _) _⟩
  by_cases h5 : 4096 < dA
  · have HE : Hid ((sizeC true nc ns nr nd dA) = (25, -1)) := by unfold Hid sizeC; rw [if_neg (by simp), if_neg h1, if_neg h2, if_neg h3, if_pos (Or.inr (Or.inl h5))]
    go_enter Try.func53, Try.ntmps53
    go_wp2_with fail
    refine (C _).mono ?_
    rintro e w1 ⟨rfl, rfl⟩
    go_wp2
    go_ret2
    exact ⟨ret2I HE.out.symm, lb_alloc (Below.refl _ _) _⟩
  by_cases h6 : 4096 - dA < (nd : Int)
  · have HE : Hid ((sizeC true nc ns nr nd dA) = (25, -1)) := by unfold Hid sizeC; rw [if_neg (by simp), if_neg h1, if_neg h2, if_neg h3, if_pos (Or.inr (Or.inr h6))]
    go_enter Try.func53, Try.ntmps53
    go_wp2_with fail
    refine (C _).mono ?_
    rintro e w1 ⟨rfl, rfl⟩
    go_wp2
    go_ret2
    exact ⟨ret2I HE.out.symm, lb_alloc (Below.refl _ _) _⟩
  · have HE : Hid ((sizeC true nc ns nr nd dA) = (0, 0)) := by unfold Hid sizeC; rw [if_neg (by simp), if_neg h1, if_neg h2, if_neg h3, if_neg (by omega)]
    go_enter Try.func53, Try.ntmps53
    go_wp2_with fail
    refine (C _).mono ?_
    rintro e w1 ⟨rfl, rfl⟩
    go_wp2
    go_ret2
    exact ⟨ret2I HE.out.symm, lb_alloc (Below.refl _ _) _⟩






end Go.Proofs.Ytiihfkjgdhfmiaa

namespace Go.Proofs.Ytiihfkjgdhfmiaa
open Go.RowKit

set_option maxRecDepth 100000 in
set_option maxHeartbeats 1000000 in
theorem refof_any (nm : ByteArray) (dA : Int) (A1 A2 A4 A : Option Addr) (n1 c1 n2 c2 n4 c4 cp : Nat) (zs : List Sym) (s : ByteArray) (w : World) (hA : SymsAt w A zs) (hz : zs.length ≤ 1048576) :
    Calls Try.prog 72 #[.agg #[.string nm, .slice A1 n1 c1, .int .i64 dA, .slice A2 n2 c2, .slice A zs.length cp, .slice A4 n4 c4], .string s] w fun e w' => e = .returned (.int .i64 (ofS zs s)) ∧ Below w.heap.size w w' := by
  have hB : SymsAt (w.alloc (.cells #[.string nm, .slice A1 n1 c1, .int .i64 dA, .slice A2 n2 c2, .slice A zs.length cp, .slice A4 n4 c4] 49)) A zs := hA.keep (lb_alloc (Below.refl _ _) _)
  clear hA
  go_enter Try.func72, Try.ntmps72
  go_wp2
  go_loop [5] (fun i => ∃ k : Nat, i = .int .i64 k ∧ k ≤ zs.length ∧ Hid (ofFrom (zs.drop k) s k = ofS zs s)) (fun i => zs.length - (intOf i).toNat)
  case atStart => exact ⟨0, rfl, by omega, rfl⟩
  case round =>
    obtain ⟨k, rfl, hk, HT⟩ := hrel
    by_cases hlt : k < zs.length
    · obtain ⟨a, rfl, c0, _⟩ := hB k hlt
      cases he : ((sName zs k).toList == s.toList)
      · have HE : Hid _ := of_miss hlt he
        go_wp2
        go_round
        case rel => exact ⟨k + 1, by go_num, by omega, by rw [Hid, ← HE.out]; exact HT.out⟩
        case measure => simp [intOf]; omega
      · have HE : Hid _ := of_hit hlt he
        go_wp2
        go_ret
        exact ⟨retI (by rw [← HT.out, HE.out]), lb_alloc (Below.refl _ _) _⟩
    · have HE : Hid _ := of_end (s := s) (by omega : zs.length ≤ k)
      go_wp2
      go_ret
      exact ⟨retI (by rw [← HT.out, HE.out]), lb_alloc (Below.refl _ _) _⟩





end Go.Proofs.Ytiihfkjgdhfmiaa

namespace Go.Proofs.Ytiihfkjgdhfmiaa
open Go.RowKit

set_option maxRecDepth 100000 in
set_option maxHeartbeats 2000000 in
theorem refsyms_any (nm : ByteArray) (dA : Int) (A1 A2 A A4 : Option Addr) (nc c1 nd c2 c3 nr c4 : Nat) (zs : List Sym) (w : World) (hA : SymsAt w A zs) (hz : zs.length ≤ 1048576) :
    Calls Try.prog 54 #[.agg #[.string nm, .slice A1 nc c1, .int .i64 dA, .slice A2 nd c2, .slice A zs.length c3, .slice A4 nr c4]] w fun e w' => e = .returned (.tuple #[.int .i64 (symC zs nc).1, .int .i64 (symC zs nc).2]) ∧ Below w.heap.size w w' := by
  go_enter Try.func54, Try.ntmps54
  go_wp2
  go_loopw [4] (fun i wr => ∃ k : Nat, i = .int .i64 k ∧ k ≤ zs.length ∧ Below (w.alloc (.cells #[.string nm, .slice A1 nc c1, .int .i64 dA, .slice A2 nd c2, .slice A zs.length c3, .slice A4 nr c4] 49)).heap.size (w.alloc (.cells #[.string nm, .slice A1 nc c1, .int .i64 dA, .slice A2 nd c2, .slice A zs.length c3, .slice A4 nr c4] 49)) wr ∧ Hid (∀ j, j < k → symE zs nc j = 0)) (fun i _ => zs.length - (intOf i).toNat)
  case atStart => exact ⟨0, rfl, by omega, Below.refl _ _, fun j hj => by omega⟩
  case round =>
    obtain ⟨k, rfl, hk, hB, HT⟩ := hrel
    rename_i wr _
    have f0 : wr.cell? ⟨w.heap.size, 0, none⟩ = some (.string nm) := lkeep hB (by simp [go_sem])
    have f1 : wr.cell? ⟨w.heap.size, 1, none⟩ = some (.slice A1 nc c1) := lkeep hB (by simp [go_sem])
    have f2 : wr.cell? ⟨w.heap.size, 2, none⟩ = some (.int .i64 dA) := lkeep hB (by simp [go_sem])
    have f3 : wr.cell? ⟨w.heap.size, 3, none⟩ = some (.slice A2 nd c2) := lkeep hB (by simp [go_sem])
    have f4 : wr.cell? ⟨w.heap.size, 4, none⟩ = some (.slice A zs.length c3) := lkeep hB (by simp [go_sem])
    have f5 : wr.cell? ⟨w.heap.size, 5, none⟩ = some (.slice A4 nr c4) := lkeep hB (by simp [go_sem])
    have HB : Hid (Below w.heap.size w wr) := lb_trans (lb_alloc (Below.refl _ _) _) hB
    have HB0 : Hid (Below (w.alloc (.cells #[.string nm, .slice A1 nc c1, .int .i64 dA, .slice A2 nd c2, .slice A zs.length c3, .slice A4 nr c4] 49)).heap.size (w.alloc (.cells #[.string nm, .slice A1 nc c1, .int .i64 dA, .slice A2 nd c2, .slice A zs.length c3, .slice A4 nr c4] 49)) wr) := hB
    clear hB
    by_cases hlt : k < zs.length
    · obtain ⟨a, rfl, c0, c1', c2'⟩ := (hA.keep HB.out) k hlt
      have d1 : wr.cell? ⟨(a.add (k * 3)).block, (a.add (k * 3)).off + 1, none⟩ = some (.int .i8 (sKind zs k)) := c1'
      have d2 : wr.cell? ⟨(a.add (k * 3)).block, (a.add (k * 3)).off + 2, none⟩ = some (.int .i64 (sAt zs k)) := c2'
      clear c1' c2'
      have CN := refname_any (sName zs k)
      have g0 : (wr.alloc (.cells #[.string (sName zs k), .int .i8 (sKind zs k), .int .i64 (sAt zs k)] 52)).cell? ⟨w.heap.size, 0, none⟩ = some (.string nm) := lkeep (lb_alloc (Below.refl _ _) _) f0
      have g1 : (wr.alloc (.cells #[.string (sName zs k), .int .i8 (sKind zs k), .int .i64 (sAt zs k)] 52)).cell? ⟨w.heap.size, 1, none⟩ = some (.slice A1 nc c1) := lkeep (lb_alloc (Below.refl _ _) _) f1
      have g2 : (wr.alloc (.cells #[.string (sName zs k), .int .i8 (sKind zs k), .int .i64 (sAt zs k)] 52)).cell? ⟨w.heap.size, 2, none⟩ = some (.int .i64 dA) := lkeep (lb_alloc (Below.refl _ _) _) f2
      have g3 : (wr.alloc (.cells #[.string (sName zs k), .int .i8 (sKind zs k), .int .i64 (sAt zs k)] 52)).cell? ⟨w.heap.size, 3, none⟩ = some (.slice A2 nd c2) := lkeep (lb_alloc (Below.refl _ _) _) f3
      have g4 : (wr.alloc (.cells #[.string (sName zs k), .int .i8 (sKind zs k), .int .i64 (sAt zs k)] 52)).cell? ⟨w.heap.size, 4, none⟩ = some (.slice (some a) zs.length c3) := lkeep (lb_alloc (Below.refl _ _) _) f4
      have g5 : (wr.alloc (.cells #[.string (sName zs k), .int .i8 (sKind zs k), .int .i64 (sAt zs k)] 52)).cell? ⟨w.heap.size, 5, none⟩ = some (.slice A4 nr c4) := lkeep (lb_alloc (Below.refl _ _) _) f5
      have HA2 : Hid (SymsAt (wr.alloc (.cells #[.string (sName zs k), .int .i8 (sKind zs k), .int .i64 (sAt zs k)] 52)) (some a) zs) := (hA.keep HB.out).keep (lb_alloc (Below.refl _ _) _)
      cases h1 : nameOK (sName zs k) with
      | false =>
        rw [h1] at CN
        have HE : Hid (symE zs nc k = 20) := by unfold Hid symE; rw [if_pos h1]
        clear h1
        go_wp2_with fail
        refine (CN _).mono ?_
        rintro e w2 ⟨rfl, rfl⟩
        go_wp2
        go_ret2
        exact ⟨ret2I (by rw [symC, first_hit hlt HT.out (by rw [HE.out]; omega), HE.out]), lb_alloc HB.out _⟩
      | true =>
        rw [h1] at CN
        have HN : Hid (¬ nameOK (sName zs k) = false) := by rw [Hid, h1]; simp
        clear h1
        go_wp2_with fail
        refine (CN _).mono ?_
        rintro e w2 ⟨rfl, rfl⟩
        clear CN
        go_wp2_with fail
        refine (refof_any nm dA A1 A2 A4 (some a) nc c1 nd c2 nr c4 c3 zs (sName zs k) _ HA2.out hz).mono ?_
        rintro e w3 ⟨rfl, hb3⟩
        have s0 : w3.cell? ⟨wr.heap.size, 0, none⟩ = some (.string (sName zs k)) := lkeep hb3 (by simp [go_sem])
        have s1 : w3.cell? ⟨wr.heap.size, 1, none⟩ = some (.int .i8 (sKind zs k)) := lkeep hb3 (by simp [go_sem])
        have s2 : w3.cell? ⟨wr.heap.size, 2, none⟩ = some (.int .i64 (sAt zs k)) := lkeep hb3 (by simp [go_sem])
        have b1 := lkeep hb3 g1
        have HB3 : Hid (Below (w.alloc (.cells #[.string nm, .slice A1 nc c1, .int .i64 dA, .slice A2 nd c2, .slice (some a) zs.length c3, .slice A4 nr c4] 49)).heap.size (w.alloc (.cells #[.string nm, .slice A1 nc c1, .int .i64 dA, .slice A2 nd c2, .slice (some a) zs.length c3, .slice A4 nr c4] 49)) w3) := lb_trans (lb_alloc HB0.out _) hb3
        have HW : Hid (Below w.heap.size w w3) := lb_trans (lb_alloc HB.out _) hb3
        clear hb3 g0 g1 g2 g3 g4 g5 f0 f1 f2 f3 f4 f5 c0 d1 d2
        cases h2 : (ofS zs (sName zs k) == (k : Int)) with
        | false =>
          have HE : Hid (symE zs nc k = 26) := by unfold Hid symE; rw [if_neg HN.out, if_pos (by simpa using h2)]
          go_wp2
          go_ret2
          exact ⟨ret2I (by rw [symC, first_hit hlt HT.out (by rw [HE.out]; omega), HE.out]), HW.out⟩
        | true =>
        have HO : Hid (¬ ¬ ofS zs (sName zs k) = (k : Int)) := by rw [Hid]; simpa using h2
        by_cases h3 : sKind zs k < 0
        · have HE : Hid (symE zs nc k = 23) := by unfold Hid symE; rw [if_neg HN.out, if_neg HO.out, if_pos (Or.inl h3)]
          go_wp2
          go_ret2
          exact ⟨ret2I (by rw [symC, first_hit hlt HT.out (by rw [HE.out]; omega), HE.out]), HW.out⟩
        by_cases h4 : 3 < sKind zs k
        · have HE : Hid (symE zs nc k = 23) := by unfold Hid symE; rw [if_neg HN.out, if_neg HO.out, if_pos (Or.inr h4)]
          go_wp2
          go_ret2
          exact ⟨ret2I (by rw [symC, first_hit hlt HT.out (by rw [HE.out]; omega), HE.out]), HW.out⟩
        have HK : Hid (¬ (sKind zs k < 0 ∨ 3 < sKind zs k)) := by rw [Hid]; omega
        by_cases h5 : sAt zs k < 0
        · have HE : Hid (symE zs nc k = 22) := by unfold Hid symE; rw [if_neg HN.out, if_neg HO.out, if_neg HK.out, if_pos (Or.inl h5)]
          go_wp2
          go_ret2
          exact ⟨ret2I (by rw [symC, first_hit hlt HT.out (by rw [HE.out]; omega), HE.out]), HW.out⟩
        by_cases h6 : (nc : Int) < sAt zs k
        · have HE : Hid (symE zs nc k = 22) := by unfold Hid symE; rw [if_neg HN.out, if_neg HO.out, if_neg HK.out, if_pos (Or.inr (Or.inl h6))]
          go_wp2
          go_ret2
          exact ⟨ret2I (by rw [symC, first_hit hlt HT.out (by rw [HE.out]; omega), HE.out]), HW.out⟩
        cases h7 : (sKind zs k == 3) with
        | false =>
          have HE : Hid (symE zs nc k = 0) := by
            have e7 : ¬ sKind zs k = 3 := by simpa using h7
            unfold Hid symE; rw [if_neg HN.out, if_neg HO.out, if_neg HK.out, if_neg (by omega)]
          go_wp2
          go_roundw
          case rel => exact ⟨k + 1, by go_num, by omega, HB3.out, fun j hj => by
            by_cases hjk : j = k
            · rw [hjk]; exact HE.out
            · exact HT.out j (by omega)⟩
          case measure => simp [intOf]; omega
        | true =>
        cases h8 : (sAt zs k == 0) with
        | false =>
          have h8' : (sAt zs k != 0) = true := by simpa using h8
          have HE : Hid (symE zs nc k = 22) := by unfold Hid symE; rw [if_neg HN.out, if_neg HO.out, if_neg HK.out, if_pos (Or.inr (Or.inr ⟨by simpa using h7, by simpa using h8⟩))]
          go_wp2
          go_ret2
          exact ⟨ret2I (by rw [symC, first_hit hlt HT.out (by rw [HE.out]; omega), HE.out]), HW.out⟩
        | true =>
          have h8' : (sAt zs k != 0) = false := by simpa using h8
          have HE : Hid (symE zs nc k = 0) := by
            have e8 : sAt zs k = 0 := by simpa using h8
            unfold Hid symE; rw [if_neg HN.out, if_neg HO.out, if_neg HK.out, if_neg (by omega)]
          go_wp2
          go_roundw
          case rel => exact ⟨k + 1, by go_num, by omega, HB3.out, fun j hj => by
            by_cases hjk : j = k
            · rw [hjk]; exact HE.out
            · exact HT.out j (by omega)⟩
          case measure => simp [intOf]; omega
    · have HC : Hid (symC zs nc = (0, 0)) := first_none fun j hj => HT.out j (by omega)
      go_wp2
      go_ret2
      exact ⟨ret2I (by rw [HC.out]), HB.out⟩






end Go.Proofs.Ytiihfkjgdhfmiaa
