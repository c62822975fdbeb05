/-
  Package object: Of and At by what they return; the lists are at most 2^20 long. What is asked of an object, as a list of closures; no condition. Which bytes a name of package object may hold: no condition. Package object: Name answers as the plain function does; no condition. Package object: the first questions, each by what it answers; lengths are at most 2^20.
-/
import Derived.Test.YthpkekpojhmaaaaGreatDoorProg
import Derived.WalkKit
import Derived.WalkSpells
import Derived.WalkLawsBesides
import Derived.RowKit3
import Derived.Below
import Derived.Deep.QuietTactic
import Derived.BigQuiet
import Derived.WalkSmall
import Derived.Test.YthpkekpojhmaaaaGreatDoorP02
import Derived.Great.BuildSlice
import Derived.Test.YthpkekpojhmaaaaGreatDoorP08
namespace Go.Proofs.YthpkekpojhmaaaaGreatDoor
open Go.RowKit

theorem mkFn : ∀ (fn : Fn) (first cap : Array Value) (w : World), (Instr.makeFunc fn first cap).run Tryz.prog w = .ok (.func fn first cap) w := fun _ _ _ _ => rfl




end Go.Proofs.YthpkekpojhmaaaaGreatDoor

namespace Go.Proofs.YthpkekpojhmaaaaGreatDoor
open Go.RowKit

set_option maxRecDepth 100000 in
set_option maxHeartbeats 1000000 in
theorem questions_raw (nm : ByteArray) (dA : Int) (A1 A2 A3 A4 : Option Addr) (nc c1 nd c2 ns c3 nr c4 : Nat) (cs : Array Value) (hz : ∀ w : World, (zeroValue 263).run Tryz.prog w = .ok (.agg cs) w) (w : World) :
    Calls Tryz.prog 116 #[.agg #[.string nm, .slice A1 nc c1, .int .i64 dA, .slice A2 nd c2, .slice A3 ns c3, .slice A4 nr c4]] w fun e w' => e = .returned (.slice (some ⟨w.heap.size + 2, 0, none⟩) 8 8) ∧ w' = ((w.alloc (.cells #[.string nm, .slice A1 nc c1, .int .i64 dA, .slice A2 nd c2, .slice A3 ns c3, .slice A4 nr c4] 75)).alloc (.cells cs 263)).alloc (.cells #[.func (.func 150) #[] #[.pointer (some ⟨w.heap.size, 0, none⟩)], .func (.func 153) #[] #[.pointer (some ⟨w.heap.size, 0, none⟩)], .func (.func 154) #[] #[.pointer (some ⟨w.heap.size, 0, none⟩)], .func (.func 155) #[] #[.pointer (some ⟨w.heap.size, 0, none⟩)], .func (.func 156) #[] #[.pointer (some ⟨w.heap.size, 0, none⟩)], .func (.func 158) #[] #[.pointer (some ⟨w.heap.size, 0, none⟩)], .func (.func 160) #[] #[.pointer (some ⟨w.heap.size, 0, none⟩), .pointer (some ⟨w.heap.size + 1, 0, none⟩)], .func (.func 162) #[] #[.pointer (some ⟨w.heap.size, 0, none⟩), .pointer (some ⟨w.heap.size + 1, 0, none⟩)]] 214) := by
  have hmf := mkFn
  go_enter Tryz.func116, Tryz.ntmps116
  go_wp2
  go_ret
  exact ⟨rfl, rfl⟩





end Go.Proofs.YthpkekpojhmaaaaGreatDoor

namespace Go.Proofs.YthpkekpojhmaaaaGreatDoor
open Go.RowKit

theorem begins_any (b : Int) (h0 : 0 ≤ b) (h1 : b ≤ 255) (w : World) : Calls Tryz.prog 177 #[.int .u8 b] w fun e w' => e = .returned (.bool (ltrI b)) ∧ w' = w := by
  by_cases h1 : 97 ≤ b
  · by_cases h2 : b ≤ 122
    · rw [show ltrI b = true from decide_eq_true (by omega)]
      go_enter Tryz.func177, Tryz.ntmps177
      go_wp2
      go_ret
      exact ⟨by first | rfl | (simp [*]; done), rfl⟩
    · rw [show ltrI b = false from decide_eq_false (by omega)]
      have h3 : 65 ≤ b := by omega
      have h4 : ¬ b ≤ 90 := by omega
      have h5 : (b == 95) = false := by simp; omega
      go_enter Tryz.func177, Tryz.ntmps177
      go_wp2
      go_ret
      exact ⟨by first | rfl | (simp [*]; done), rfl⟩
  · by_cases h3 : 65 ≤ b
    · by_cases h4 : b ≤ 90
      · rw [show ltrI b = true from decide_eq_true (by omega)]
        go_enter Tryz.func177, Tryz.ntmps177
        go_wp2
        go_ret
        exact ⟨by first | rfl | (simp [*]; done), rfl⟩
      · by_cases h5 : b = 95
        · rw [show ltrI b = true from decide_eq_true (by omega)]
          have h6 : (b == 95) = true := by simpa using h5
          clear h5
          go_enter Tryz.func177, Tryz.ntmps177
          go_wp2
          go_ret
          exact ⟨by first | rfl | (simp [*]; done), rfl⟩
        · rw [show ltrI b = false from decide_eq_false (by omega)]
          have h6 : (b == 95) = false := by simpa using h5
          go_enter Tryz.func177, Tryz.ntmps177
          go_wp2
          go_ret
          exact ⟨by first | rfl | (simp [*]; done), rfl⟩
    · rw [show ltrI b = false from decide_eq_false (by omega)]
      have h6 : (b == 95) = false := by simp; omega
      go_enter Tryz.func177, Tryz.ntmps177
      go_wp2
      go_ret
      exact ⟨by first | rfl | (simp [*]; done), rfl⟩



def conI (b : Int) : Bool := dgtI b || b == 46
theorem continues_any (b : Int) (h0 : 0 ≤ b) (h1 : b ≤ 255) (w : World) : Calls Tryz.prog 178 #[.int .u8 b] w fun e w' => e = .returned (.bool (conI b)) ∧ w' = w := by
  by_cases h2 : 48 ≤ b
  · by_cases h3 : b ≤ 57
    · rw [show conI b = true by unfold conI; rw [show dgtI b = true from decide_eq_true (by omega)]; rfl]
      go_enter Tryz.func178, Tryz.ntmps178
      go_wp2
      go_ret
      exact ⟨by first | rfl | (simp [*]; done), rfl⟩
    · rw [show conI b = false by unfold conI; rw [show dgtI b = false from decide_eq_false (by omega)]; simp; omega]
      have h4 : (b == 46) = false := by simp; omega
      go_enter Tryz.func178, Tryz.ntmps178
      go_wp2
      go_ret
      exact ⟨by first | rfl | (simp [*]; done), rfl⟩
  · by_cases h3 : b = 46
    · rw [show conI b = true by unfold conI; simp [h3]]
      have h4 : (b == 46) = true := by simpa using h3
      clear h3
      go_enter Tryz.func178, Tryz.ntmps178
      go_wp2
      go_ret
      exact ⟨by first | rfl | (simp [*]; done), rfl⟩
    · rw [show conI b = false by unfold conI; rw [show dgtI b = false from decide_eq_false (by omega)]; simp; omega]
      have h4 : (b == 46) = false := by simpa using h3
      go_enter Tryz.func178, Tryz.ntmps178
      go_wp2
      go_ret
      exact ⟨by first | rfl | (simp [*]; done), rfl⟩
theorem beg_at (s : ByteArray) (k : Nat) (h : k < s.size) (x : Bool) (e : ltrI s[k].toNat = x) (w : World) : Calls Tryz.prog 177 #[.int .u8 s[k].toNat] w fun e w' => e = .returned (.bool x) ∧ w' = w := by
  have := begins_any s[k].toNat (by omega) (by have := s[k].toNat_lt; omega) w
  rw [e] at this; exact this
theorem con_at (s : ByteArray) (k : Nat) (h : k < s.size) (x : Bool) (e : conI s[k].toNat = x) (w : World) : Calls Tryz.prog 178 #[.int .u8 s[k].toNat] w fun e w' => e = .returned (.bool x) ∧ w' = w := by
  have := continues_any s[k].toNat (by omega) (by have := s[k].toNat_lt; omega) w
  rw [e] at this; exact this
set_option maxRecDepth 100000 in
set_option maxHeartbeats 1000000 in
theorem objname_raw (s : ByteArray) (w : World) : Calls Tryz.prog 152 #[.string s] w fun e w' => e = .returned (.bool (nameOK s)) ∧ w' = w := by
  by_cases h0 : s.size < 1
  · have HN : Hid (nameOK s = false) := name_nil s (by omega)
    go_enter Tryz.func152, Tryz.ntmps152
    go_wp2
    go_ret
    exact ⟨retB HN.out.symm, rfl⟩
  have hp : 0 < s.size := by omega
  have hN := name_cons s hp
  by_cases h1 : 24 < s.size
  · rw [decide_eq_false (by omega)] at hN
    have HN : Hid _ := hN
    clear hN
    go_enter Tryz.func152, Tryz.ntmps152
    go_wp2
    go_ret
    exact ⟨retB HN.out.symm, rfl⟩
  rw [decide_eq_true (by omega)] at hN
  have HN : Hid _ := hN
  clear hN
  go_enter Tryz.func152, Tryz.ntmps152
  go_wp2
  go_loop [3] (fun i => ∃ k : Nat, i = .int .i64 k ∧ k ≤ s.size ∧ Hid (1 ≤ k → goodL (s.data.toList.drop k) = nameOK s)) (fun i => s.size - (intOf i).toNat)
  case atStart => exact ⟨0, rfl, by omega, fun h => by omega⟩
  case round =>
    obtain ⟨k, rfl, hk, HT⟩ := hrel
    by_cases hlt : k < s.size
    · cases h3 : ltrI s[k].toNat with
      | true =>
        have C := beg_at s k hlt true h3
        have HG : Hid (goodL (s.data.toList.drop (k + 1)) = nameOK s) := by
          by_cases hk0 : k = 0
          · subst hk0
            rw [Hid, HN.out, h3]; simp
          · rw [Hid, ← good_on hlt (show goodI s[k].toNat = true by unfold goodI; rw [h3]; rfl)]; exact HT.out (by omega)
        clear h3
        go_wp2_with fail
        refine (C _).mono ?_
        rintro e w1 ⟨rfl, rfl⟩
        clear C
        go_wp2
        go_round
        case rel => exact ⟨k + 1, by go_num, by omega, fun _ => HG.out⟩
        case measure => simp [intOf]; omega
      | false =>
        have C := beg_at s k hlt false h3
        by_cases hk0 : k = 0
        · subst hk0
          have HF : Hid (nameOK s = false) := by rw [Hid, HN.out, h3]; rfl
          clear h3
          go_wp2_with fail
          refine (C _).mono ?_
          rintro e w1 ⟨rfl, rfl⟩
          clear C
          go_wp2
          go_ret
          exact ⟨retB HF.out.symm, rfl⟩
        have hk1 : ((k : Int) == 0) = false := by simpa using hk0
        cases h4 : conI s[k].toNat with
        | true =>
          have C2 := con_at s k hlt true h4
          have HG : Hid (goodL (s.data.toList.drop (k + 1)) = nameOK s) := by
            rw [Hid, ← good_on hlt (show goodI s[k].toNat = true by unfold goodI; rw [h3, Bool.false_or]; exact h4)]; exact HT.out (by omega)
          clear h3 h4 hk0
          go_wp2_with fail
          refine (C _).mono ?_
          rintro e w1 ⟨rfl, rfl⟩
          clear C
          go_wp2_with fail
          refine (C2 _).mono ?_
          rintro e w1 ⟨rfl, rfl⟩
          clear C2
          go_wp2
          go_round
          case rel => exact ⟨k + 1, by go_num, by omega, fun _ => HG.out⟩
          case measure => simp [intOf]; omega
        | false =>
          have C2 := con_at s k hlt false h4
          have HF : Hid (nameOK s = false) := by
            rw [Hid, ← HT.out (by omega)]; exact good_no hlt (show goodI s[k].toNat = false by unfold goodI; rw [h3, Bool.false_or]; exact h4)
          clear h3 h4 hk0
          go_wp2_with fail
          refine (C _).mono ?_
          rintro e w1 ⟨rfl, rfl⟩
          clear C
          go_wp2_with fail
          refine (C2 _).mono ?_
          rintro e w1 ⟨rfl, rfl⟩
          clear C2
          go_wp2
          go_ret
          exact ⟨retB HF.out.symm, rfl⟩
    · have HG : Hid (nameOK s = true) := by rw [Hid, ← HT.out (by omega)]; exact good_end (by omega)
      go_wp2
      go_ret
      exact ⟨retB HG.out.symm, rfl⟩
theorem objname_any (s : ByteArray) (w : World) : Calls Tryz.prog 152 #[.string s] w fun e w' => e = .returned (.bool (nameOK s)) ∧ Below w.heap.size w w' := by
  refine (objname_raw s w).mono ?_
  rintro e w1 ⟨rfl, rfl⟩
  exact ⟨rfl, Below.refl _ _⟩





end Go.Proofs.YthpkekpojhmaaaaGreatDoor

namespace Go.Proofs.YthpkekpojhmaaaaGreatDoor
open Go.RowKit

set_option maxRecDepth 100000 in
theorem q1_any (nm : ByteArray) (dA : Int) (A1 A2 A3 A4 : Option Addr) (nc c1 nd c2 ns c3 nr c4 : Nat) (b : Nat) (w : World) (o0 : w.cell? ⟨b, 0, none⟩ = some (.string nm)) (o1 : w.cell? ⟨b, 1, none⟩ = some (.slice A1 nc c1)) (o2 : w.cell? ⟨b, 2, none⟩ = some (.int .i64 dA)) (o3 : w.cell? ⟨b, 3, none⟩ = some (.slice A2 nd c2)) (o4 : w.cell? ⟨b, 4, none⟩ = some (.slice A3 ns c3)) (o5 : w.cell? ⟨b, 5, none⟩ = some (.slice A4 nr c4)) : Calls Tryz.prog 150 #[.pointer (some ⟨b, 0, none⟩)] w fun r w' => r = .returned (.tuple #[.int .i64 (rfs (!nameOK nm) (20)), .int .i64 (rfs (!nameOK nm) (-1))]) ∧ Below w.heap.size w w' := by
  have C := objname_raw nm
  cases h : nameOK nm with
  | false =>
    rw [h] at C
    clear h
    go_enter Tryz.func150, Tryz.ntmps150
    go_wp2_with fail
    refine (C _).mono ?_
    rintro r w1 ⟨rfl, rfl⟩
    go_wp2_with fail
    refine (refuse_yes (20) (-1) _).mono ?_
    rintro r w1 ⟨rfl, rfl⟩
    go_wp2
    go_ret2
    exact ⟨rfl, Below.refl _ _⟩
  | true =>
    rw [h] at C
    clear h
    go_enter Tryz.func150, Tryz.ntmps150
    go_wp2_with fail
    refine (C _).mono ?_
    rintro r w1 ⟨rfl, rfl⟩
    go_wp2_with fail
    refine (refuse_no (20) (-1) _).mono ?_
    rintro r w1 ⟨rfl, rfl⟩
    go_wp2
    go_ret2
    exact ⟨rfl, Below.refl _ _⟩
set_option maxRecDepth 100000 in
theorem q2_any (nm : ByteArray) (dA : Int) (A1 A2 A3 A4 : Option Addr) (nc c1 nd c2 ns c3 nr c4 : Nat) (b : Nat) (w : World) (o0 : w.cell? ⟨b, 0, none⟩ = some (.string nm)) (o1 : w.cell? ⟨b, 1, none⟩ = some (.slice A1 nc c1)) (o2 : w.cell? ⟨b, 2, none⟩ = some (.int .i64 dA)) (o3 : w.cell? ⟨b, 3, none⟩ = some (.slice A2 nd c2)) (o4 : w.cell? ⟨b, 4, none⟩ = some (.slice A3 ns c3)) (o5 : w.cell? ⟨b, 5, none⟩ = some (.slice A4 nr c4)) (hn : nc ≤ 1048576) : Calls Tryz.prog 153 #[.pointer (some ⟨b, 0, none⟩)] w fun r w' => r = .returned (.tuple #[.int .i64 (rfs (decide (16384 < nc)) (21)), .int .i64 (rfs (decide (16384 < nc)) (-1))]) ∧ Below w.heap.size w w' := by
  by_cases h : 16384 < nc
  · rw [decide_eq_true h]
    have hd : decide (16384 < nc) = true := decide_eq_true h
    have hi : decide ((16384 : Int) < (nc : Int)) = true := decide_eq_true (by omega)
    go_enter Tryz.func153, Tryz.ntmps153
    go_wp2_with fail
    refine (refuse_yes (21) (-1) _).mono ?_
    rintro r w1 ⟨rfl, rfl⟩
    go_wp2
    go_ret2
    exact ⟨rfl, Below.refl _ _⟩
  · rw [decide_eq_false h]
    have hd : decide (16384 < nc) = false := decide_eq_false h
    have hi : decide ((16384 : Int) < (nc : Int)) = false := decide_eq_false (by omega)
    go_enter Tryz.func153, Tryz.ntmps153
    go_wp2_with fail
    refine (refuse_no (21) (-1) _).mono ?_
    rintro r w1 ⟨rfl, rfl⟩
    go_wp2
    go_ret2
    exact ⟨rfl, Below.refl _ _⟩
set_option maxRecDepth 100000 in
theorem q3_any (nm : ByteArray) (dA : Int) (A1 A2 A3 A4 : Option Addr) (nc c1 nd c2 ns c3 nr c4 : Nat) (b : Nat) (w : World) (o0 : w.cell? ⟨b, 0, none⟩ = some (.string nm)) (o1 : w.cell? ⟨b, 1, none⟩ = some (.slice A1 nc c1)) (o2 : w.cell? ⟨b, 2, none⟩ = some (.int .i64 dA)) (o3 : w.cell? ⟨b, 3, none⟩ = some (.slice A2 nd c2)) (o4 : w.cell? ⟨b, 4, none⟩ = some (.slice A3 ns c3)) (o5 : w.cell? ⟨b, 5, none⟩ = some (.slice A4 nr c4)) (hn : ns ≤ 1048576) : Calls Tryz.prog 154 #[.pointer (some ⟨b, 0, none⟩)] w fun r w' => r = .returned (.tuple #[.int .i64 (rfs (decide (256 < ns)) (21)), .int .i64 (rfs (decide (256 < ns)) (-2))]) ∧ Below w.heap.size w w' := by
  by_cases h : 256 < ns
  · rw [decide_eq_true h]
    have hd : decide (256 < ns) = true := decide_eq_true h
    have hi : decide ((256 : Int) < (ns : Int)) = true := decide_eq_true (by omega)
    go_enter Tryz.func154, Tryz.ntmps154
    go_wp2_with fail
    refine (refuse_yes (21) (-2) _).mono ?_
    rintro r w1 ⟨rfl, rfl⟩
    go_wp2
    go_ret2
    exact ⟨rfl, Below.refl _ _⟩
  · rw [decide_eq_false h]
    have hd : decide (256 < ns) = false := decide_eq_false h
    have hi : decide ((256 : Int) < (ns : Int)) = false := decide_eq_false (by omega)
    go_enter Tryz.func154, Tryz.ntmps154
    go_wp2_with fail
    refine (refuse_no (21) (-2) _).mono ?_
    rintro r w1 ⟨rfl, rfl⟩
    go_wp2
    go_ret2
    exact ⟨rfl, Below.refl _ _⟩
set_option maxRecDepth 100000 in
theorem q4_any (nm : ByteArray) (dA : Int) (A1 A2 A3 A4 : Option Addr) (nc c1 nd c2 ns c3 nr c4 : Nat) (b : Nat) (w : World) (o0 : w.cell? ⟨b, 0, none⟩ = some (.string nm)) (o1 : w.cell? ⟨b, 1, none⟩ = some (.slice A1 nc c1)) (o2 : w.cell? ⟨b, 2, none⟩ = some (.int .i64 dA)) (o3 : w.cell? ⟨b, 3, none⟩ = some (.slice A2 nd c2)) (o4 : w.cell? ⟨b, 4, none⟩ = some (.slice A3 ns c3)) (o5 : w.cell? ⟨b, 5, none⟩ = some (.slice A4 nr c4)) (_hn : nc ≤ 1048576) (_hm : nr ≤ 1048576) : Calls Tryz.prog 155 #[.pointer (some ⟨b, 0, none⟩)] w fun r w' => r = .returned (.tuple #[.int .i64 (rfs (decide (nc < nr)) (21)), .int .i64 (rfs (decide (nc < nr)) (-3))]) ∧ Below w.heap.size w w' := by
  by_cases h : nc < nr
  · rw [decide_eq_true h]
    have hd : decide (nc < nr) = true := decide_eq_true h
    have hi : decide ((nc : Int) < (nr : Int)) = true := decide_eq_true (by omega)
    go_enter Tryz.func155, Tryz.ntmps155
    go_wp2_with fail
    refine (refuse_yes (21) (-3) _).mono ?_
    rintro r w1 ⟨rfl, rfl⟩
    go_wp2
    go_ret2
    exact ⟨rfl, Below.refl _ _⟩
  · rw [decide_eq_false h]
    have hd : decide (nc < nr) = false := decide_eq_false h
    have hi : decide ((nc : Int) < (nr : Int)) = false := decide_eq_false (by omega)
    go_enter Tryz.func155, Tryz.ntmps155
    go_wp2_with fail
    refine (refuse_no (21) (-3) _).mono ?_
    rintro r w1 ⟨rfl, rfl⟩
    go_wp2
    go_ret2
    exact ⟨rfl, Below.refl _ _⟩
set_option maxRecDepth 100000 in
theorem q5_any (nm : ByteArray) (dA : Int) (A1 A2 A3 A4 : Option Addr) (nc c1 nd c2 ns c3 nr c4 : Nat) (b : Nat) (w : World) (o0 : w.cell? ⟨b, 0, none⟩ = some (.string nm)) (o1 : w.cell? ⟨b, 1, none⟩ = some (.slice A1 nc c1)) (o2 : w.cell? ⟨b, 2, none⟩ = some (.int .i64 dA)) (o3 : w.cell? ⟨b, 3, none⟩ = some (.slice A2 nd c2)) (o4 : w.cell? ⟨b, 4, none⟩ = some (.slice A3 ns c3)) (o5 : w.cell? ⟨b, 5, none⟩ = some (.slice A4 nr c4)) (_hn : nd ≤ 1048576) (h1 : -9223372036854775808 ≤ dA) (h2 : dA ≤ 9223372036854775807) : Calls Tryz.prog 156 #[.pointer (some ⟨b, 0, none⟩)] w fun r w' => r = .returned (.tuple #[.int .i64 (rfs (!decide (0 ≤ dA ∧ (nd : Int) ≤ 4096 - dA)) (25)), .int .i64 (rfs (!decide (0 ≤ dA ∧ (nd : Int) ≤ 4096 - dA)) (-1))]) ∧ Below w.heap.size w w' := by
  have C := fits_any dA nd h1 h2
  by_cases h : 0 ≤ dA ∧ (nd : Int) ≤ 4096 - dA
  · rw [decide_eq_true h] at C ⊢
    clear h
    go_enter Tryz.func156, Tryz.ntmps156
    go_wp2_with fail
    refine (C _).mono ?_
    rintro r w1 ⟨rfl, rfl⟩
    go_wp2_with fail
    refine (refuse_no (25) (-1) _).mono ?_
    rintro r w1 ⟨rfl, rfl⟩
    go_wp2
    go_ret2
    exact ⟨rfl, Below.refl _ _⟩
  · rw [decide_eq_false h] at C ⊢
    clear h
    go_enter Tryz.func156, Tryz.ntmps156
    go_wp2_with fail
    refine (C _).mono ?_
    rintro r w1 ⟨rfl, rfl⟩
    go_wp2_with fail
    refine (refuse_yes (25) (-1) _).mono ?_
    rintro r w1 ⟨rfl, rfl⟩
    go_wp2
    go_ret2
    exact ⟨rfl, Below.refl _ _⟩





end Go.Proofs.YthpkekpojhmaaaaGreatDoor
