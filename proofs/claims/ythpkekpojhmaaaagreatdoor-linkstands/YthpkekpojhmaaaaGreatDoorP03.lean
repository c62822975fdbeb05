/-
  Package object: Of and At by what they return; the lists are at most 2^20 long. What is asked of an object, as a list of closures; no condition. Which bytes a name of package object may hold: no condition. Package object: Name answers as the plain function does; no condition. Package object: the first questions, each by what it answers; lengths are at most 2^20. Whether the fields of an instruction may be: allow of package isa, for every op that there is; no other condition. Decode of the document's answer returns the instruction that a word is, or none, for every word of 32 bits; no other condition. The table of the ops' fields, as the program makes it anew, and what is read of it; no condition. Encode of package isa, for every instruction whose op is an int8's number. Decode of package isa, for every word of 32 bits; no other condition. Ends, Falls, Target and Aim of the document's answer, for every word of 32 bits; no other condition. Ends, Falls, Target and Aim of package isa, over what Decode, Has and Encode return; no other condition. Has of package isa, for every op that is an int8's number. The look at an object's relocations, by the document's answer; the lists are at most 2^20 long, the words of 32 bits. Of and At of the document's answer, for every object whose lists are at most 2^20 long. Letters, by the document's answer; no condition but that a byte is one. Name of the document's answer, for every text; no condition. The first three looks at an object, by the document's answer; its data is at most 2^20 long.
-/
import Derived.Test.YthpkekpojhmaaaaGreatDoorProg
import Derived.WalkKit
import Derived.WalkSpells
import Derived.WalkLawsBesides
import Derived.RowKit3
import Derived.Below
import Derived.Deep.QuietTactic
import Derived.BigQuiet
import Derived.WalkSmall
import Derived.Test.YthpkekpojhmaaaaGreatDoorP01
import Derived.Great.BuildSlice
import Derived.Test.YthpkekpojhmaaaaGreatDoorP02
import Derived.Laws.BitsAllLaws
import Derived.Deep.DeepCutAuto
import Derived.Laws.Tables
import Derived.Laws.Rows
import Derived.Laws.CopyOwn
import Derived.Deep.RegionHeld3
namespace Go.Proofs.YthpkekpojhmaaaaGreatDoor
open Go.RowKit

theorem mkFn : ∀ (fn : Fn) (first cap : Array Value) (w : World), (Instr.makeFunc fn first cap).run Tryz.prog w = .ok (.func fn first cap) w := fun _ _ _ _ => rfl




end Go.Proofs.YthpkekpojhmaaaaGreatDoor

namespace Go.Proofs.YthpkekpojhmaaaaGreatDoor
open Go.RowKit

set_option maxRecDepth 100000 in
set_option maxHeartbeats 1000000 in
theorem questions_raw (nm : ByteArray) (dA : Int) (A1 A2 A3 A4 : Option Addr) (nc c1 nd c2 ns c3 nr c4 : Nat) (cs : Array Value) (hz : ∀ w : World, (zeroValue 263).run Tryz.prog w = .ok (.agg cs) w) (w : World) :
    Calls Tryz.prog 116 #[.agg #[.string nm, .slice A1 nc c1, .int .i64 dA, .slice A2 nd c2, .slice A3 ns c3, .slice A4 nr c4]] w fun e w' => e = .returned (.slice (some ⟨w.heap.size + 2, 0, none⟩) 8 8) ∧ w' = ((w.alloc (.cells #[.string nm, .slice A1 nc c1, .int .i64 dA, .slice A2 nd c2, .slice A3 ns c3, .slice A4 nr c4] 75)).alloc (.cells cs 263)).alloc (.cells #[.func (.func 150) #[] #[.pointer (some ⟨w.heap.size, 0, none⟩)], .func (.func 153) #[] #[.pointer (some ⟨w.heap.size, 0, none⟩)], .func (.func 154) #[] #[.pointer (some ⟨w.heap.size, 0, none⟩)], .func (.func 155) #[] #[.pointer (some ⟨w.heap.size, 0, none⟩)], .func (.func 156) #[] #[.pointer (some ⟨w.heap.size, 0, none⟩)], .func (.func 158) #[] #[.pointer (some ⟨w.heap.size, 0, none⟩)], .func (.func 160) #[] #[.pointer (some ⟨w.heap.size, 0, none⟩), .pointer (some ⟨w.heap.size + 1, 0, none⟩)], .func (.func 162) #[] #[.pointer (some ⟨w.heap.size, 0, none⟩), .pointer (some ⟨w.heap.size + 1, 0, none⟩)]] 214) := by
  have hmf := mkFn
  go_enter Tryz.func116, Tryz.ntmps116
  go_wp2
  go_ret
  exact ⟨rfl, rfl⟩





end Go.Proofs.YthpkekpojhmaaaaGreatDoor

namespace Go.Proofs.YthpkekpojhmaaaaGreatDoor
open Go.RowKit

theorem begins_any (b : Int) (h0 : 0 ≤ b) (h1 : b ≤ 255) (w : World) : Calls Tryz.prog 177 #[.int .u8 b] w fun e w' => e = .returned (.bool (ltrI b)) ∧ w' = w := by
  by_cases h1 : 97 ≤ b
  · by_cases h2 : b ≤ 122
    · rw [show ltrI b = true from decide_eq_true (by omega)]
      go_enter Tryz.func177, Tryz.ntmps177
      go_wp2
      go_ret
      exact ⟨by first | rfl | (simp [*]; done), rfl⟩
    · rw [show ltrI b = false from decide_eq_false (by omega)]
      have h3 : 65 ≤ b := by omega
      have h4 : ¬ b ≤ 90 := by omega
      have h5 : (b == 95) = false := by simp; omega
      go_enter Tryz.func177, Tryz.ntmps177
      go_wp2
      go_ret
      exact ⟨by first | rfl | (simp [*]; done), rfl⟩
  · by_cases h3 : 65 ≤ b
    · by_cases h4 : b ≤ 90
      · rw [show ltrI b = true from decide_eq_true (by omega)]
        go_enter Tryz.func177, Tryz.ntmps177
        go_wp2
        go_ret
        exact ⟨by first | rfl | (simp [*]; done), rfl⟩
      · by_cases h5 : b = 95
        · rw [show ltrI b = true from decide_eq_true (by omega)]
          have h6 : (b == 95) = true := by simpa using h5
          clear h5
          go_enter Tryz.func177, Tryz.ntmps177
          go_wp2
          go_ret
          exact ⟨by first | rfl | (simp [*]; done), rfl⟩
        · rw [show ltrI b = false from decide_eq_false (by omega)]
          have h6 : (b == 95) = false := by simpa using h5
          go_enter Tryz.func177, Tryz.ntmps177
          go_wp2
          go_ret
          exact ⟨by first | rfl | (simp [*]; done), rfl⟩
    · rw [show ltrI b = false from decide_eq_false (by omega)]
      have h6 : (b == 95) = false := by simp; omega
      go_enter Tryz.func177, Tryz.ntmps177
      go_wp2
      go_ret
      exact ⟨by first | rfl | (simp [*]; done), rfl⟩



def conI (b : Int) : Bool := dgtI b || b == 46
theorem continues_any (b : Int) (h0 : 0 ≤ b) (h1 : b ≤ 255) (w : World) : Calls Tryz.prog 178 #[.int .u8 b] w fun e w' => e = .returned (.bool (conI b)) ∧ w' = w := by
  by_cases h2 : 48 ≤ b
  · by_cases h3 : b ≤ 57
    · rw [show conI b = true by unfold conI; rw [show dgtI b = true from decide_eq_true (by omega)]; rfl]
      go_enter Tryz.func178, Tryz.ntmps178
      go_wp2
      go_ret
      exact ⟨by first | rfl | (simp [*]; done), rfl⟩
    · rw [show conI b = false by unfold conI; rw [show dgtI b = false from decide_eq_false (by omega)]; simp; omega]
      have h4 : (b == 46) = false := by simp; omega
      go_enter Tryz.func178, Tryz.ntmps178
      go_wp2
      go_ret
      exact ⟨by first | rfl | (simp [*]; done), rfl⟩
  · by_cases h3 : b = 46
    · rw [show conI b = true by unfold conI; simp [h3]]
      have h4 : (b == 46) = true := by simpa using h3
      clear h3
      go_enter Tryz.func178, Tryz.ntmps178
      go_wp2
      go_ret
      exact ⟨by first | rfl | (simp [*]; done), rfl⟩
    · rw [show conI b = false by unfold conI; rw [show dgtI b = false from decide_eq_false (by omega)]; simp; omega]
      have h4 : (b == 46) = false := by simpa using h3
      go_enter Tryz.func178, Tryz.ntmps178
      go_wp2
      go_ret
      exact ⟨by first | rfl | (simp [*]; done), rfl⟩
theorem beg_at (s : ByteArray) (k : Nat) (h : k < s.size) (x : Bool) (e : ltrI s[k].toNat = x) (w : World) : Calls Tryz.prog 177 #[.int .u8 s[k].toNat] w fun e w' => e = .returned (.bool x) ∧ w' = w := by
  have := begins_any s[k].toNat (by omega) (by have := s[k].toNat_lt; omega) w
  rw [e] at this; exact this
theorem con_at (s : ByteArray) (k : Nat) (h : k < s.size) (x : Bool) (e : conI s[k].toNat = x) (w : World) : Calls Tryz.prog 178 #[.int .u8 s[k].toNat] w fun e w' => e = .returned (.bool x) ∧ w' = w := by
  have := continues_any s[k].toNat (by omega) (by have := s[k].toNat_lt; omega) w
  rw [e] at this; exact this
set_option maxRecDepth 100000 in
set_option maxHeartbeats 1000000 in
theorem objname_raw (s : ByteArray) (w : World) : Calls Tryz.prog 152 #[.string s] w fun e w' => e = .returned (.bool (nameOK s)) ∧ w' = w := by
  by_cases h0 : s.size < 1
  · have HN : Hid (nameOK s = false) := name_nil s (by omega)
    go_enter Tryz.func152, Tryz.ntmps152
    go_wp2
    go_ret
    exact ⟨retB HN.out.symm, rfl⟩
  have hp : 0 < s.size := by omega
  have hN := name_cons s hp
  by_cases h1 : 24 < s.size
  · rw [decide_eq_false (by omega)] at hN
    have HN : Hid _ := hN
    clear hN
    go_enter Tryz.func152, Tryz.ntmps152
    go_wp2
    go_ret
    exact ⟨retB HN.out.symm, rfl⟩
  rw [decide_eq_true (by omega)] at hN
  have HN : Hid _ := hN
  clear hN
  go_enter Tryz.func152, Tryz.ntmps152
  go_wp2
  go_loop [3] (fun i => ∃ k : Nat, i = .int .i64 k ∧ k ≤ s.size ∧ Hid (1 ≤ k → goodL (s.data.toList.drop k) = nameOK s)) (fun i => s.size - (intOf i).toNat)
  case atStart => exact ⟨0, rfl, by omega, fun h => by omega⟩
  case round =>
    obtain ⟨k, rfl, hk, HT⟩ := hrel
    by_cases hlt : k < s.size
    · cases h3 : ltrI s[k].toNat with
      | true =>
        have C := beg_at s k hlt true h3
        have HG : Hid (goodL (s.data.toList.drop (k + 1)) = nameOK s) := by
          by_cases hk0 : k = 0
          · subst hk0
            rw [Hid, HN.out, h3]; simp
          · rw [Hid, ← good_on hlt (show goodI s[k].toNat = true by unfold goodI; rw [h3]; rfl)]; exact HT.out (by omega)
        clear h3
        go_wp2_with fail
        refine (C _).mono ?_
        rintro e w1 ⟨rfl, rfl⟩
        clear C
        go_wp2
        go_round
        case rel => exact ⟨k + 1, by go_num, by omega, fun _ => HG.out⟩
        case measure => simp [intOf]; omega
      | false =>
        have C := beg_at s k hlt false h3
        by_cases hk0 : k = 0
        · subst hk0
          have HF : Hid (nameOK s = false) := by rw [Hid, HN.out, h3]; rfl
          clear h3
          go_wp2_with fail
          refine (C _).mono ?_
          rintro e w1 ⟨rfl, rfl⟩
          clear C
          go_wp2
          go_ret
          exact ⟨retB HF.out.symm, rfl⟩
        have hk1 : ((k : Int) == 0) = false := by simpa using hk0
        cases h4 : conI s[k].toNat with
        | true =>
          have C2 := con_at s k hlt true h4
          have HG : Hid (goodL (s.data.toList.drop (k + 1)) = nameOK s) := by
            rw [Hid, ← good_on hlt (show goodI s[k].toNat = true by unfold goodI; rw [h3, Bool.false_or]; exact h4)]; exact HT.out (by omega)
          clear h3 h4 hk0
          go_wp2_with fail
          refine (C _).mono ?_
          rintro e w1 ⟨rfl, rfl⟩
          clear C
          go_wp2_with fail
          refine (C2 _).mono ?_
          rintro e w1 ⟨rfl, rfl⟩
          clear C2
          go_wp2
          go_round
          case rel => exact ⟨k + 1, by go_num, by omega, fun _ => HG.out⟩
          case measure => simp [intOf]; omega
        | false =>
          have C2 := con_at s k hlt false h4
          have HF : Hid (nameOK s = false) := by
            rw [Hid, ← HT.out (by omega)]; exact good_no hlt (show goodI s[k].toNat = false by unfold goodI; rw [h3, Bool.false_or]; exact h4)
          clear h3 h4 hk0
          go_wp2_with fail
          refine (C _).mono ?_
          rintro e w1 ⟨rfl, rfl⟩
          clear C
          go_wp2_with fail
          refine (C2 _).mono ?_
          rintro e w1 ⟨rfl, rfl⟩
          clear C2
          go_wp2
          go_ret
          exact ⟨retB HF.out.symm, rfl⟩
    · have HG : Hid (nameOK s = true) := by rw [Hid, ← HT.out (by omega)]; exact good_end (by omega)
      go_wp2
      go_ret
      exact ⟨retB HG.out.symm, rfl⟩
theorem objname_any (s : ByteArray) (w : World) : Calls Tryz.prog 152 #[.string s] w fun e w' => e = .returned (.bool (nameOK s)) ∧ Below w.heap.size w w' := by
  refine (objname_raw s w).mono ?_
  rintro e w1 ⟨rfl, rfl⟩
  exact ⟨rfl, Below.refl _ _⟩





end Go.Proofs.YthpkekpojhmaaaaGreatDoor

namespace Go.Proofs.YthpkekpojhmaaaaGreatDoor
open Go.RowKit

set_option maxRecDepth 100000 in
theorem q1_any (nm : ByteArray) (dA : Int) (A1 A2 A3 A4 : Option Addr) (nc c1 nd c2 ns c3 nr c4 : Nat) (b : Nat) (w : World) (o0 : w.cell? ⟨b, 0, none⟩ = some (.string nm)) (o1 : w.cell? ⟨b, 1, none⟩ = some (.slice A1 nc c1)) (o2 : w.cell? ⟨b, 2, none⟩ = some (.int .i64 dA)) (o3 : w.cell? ⟨b, 3, none⟩ = some (.slice A2 nd c2)) (o4 : w.cell? ⟨b, 4, none⟩ = some (.slice A3 ns c3)) (o5 : w.cell? ⟨b, 5, none⟩ = some (.slice A4 nr c4)) : Calls Tryz.prog 150 #[.pointer (some ⟨b, 0, none⟩)] w fun r w' => r = .returned (.tuple #[.int .i64 (rfs (!nameOK nm) (20)), .int .i64 (rfs (!nameOK nm) (-1))]) ∧ Below w.heap.size w w' := by
  have C := objname_raw nm
  cases h : nameOK nm with
  | false =>
    rw [h] at C
    clear h
    go_enter Tryz.func150, Tryz.ntmps150
    go_wp2_with fail
    refine (C _).mono ?_
    rintro r w1 ⟨rfl, rfl⟩
    go_wp2_with fail
    refine (refuse_yes (20) (-1) _).mono ?_
    rintro r w1 ⟨rfl, rfl⟩
    go_wp2
    go_ret2
    exact ⟨rfl, Below.refl _ _⟩
  | true =>
    rw [h] at C
    clear h
    go_enter Tryz.func150, Tryz.ntmps150
    go_wp2_with fail
    refine (C _).mono ?_
    rintro r w1 ⟨rfl, rfl⟩
    go_wp2_with fail
    refine (refuse_no (20) (-1) _).mono ?_
    rintro r w1 ⟨rfl, rfl⟩
    go_wp2
    go_ret2
    exact ⟨rfl, Below.refl _ _⟩
set_option maxRecDepth 100000 in
theorem q2_any (nm : ByteArray) (dA : Int) (A1 A2 A3 A4 : Option Addr) (nc c1 nd c2 ns c3 nr c4 : Nat) (b : Nat) (w : World) (o0 : w.cell? ⟨b, 0, none⟩ = some (.string nm)) (o1 : w.cell? ⟨b, 1, none⟩ = some (.slice A1 nc c1)) (o2 : w.cell? ⟨b, 2, none⟩ = some (.int .i64 dA)) (o3 : w.cell? ⟨b, 3, none⟩ = some (.slice A2 nd c2)) (o4 : w.cell? ⟨b, 4, none⟩ = some (.slice A3 ns c3)) (o5 : w.cell? ⟨b, 5, none⟩ = some (.slice A4 nr c4)) (hn : nc ≤ 1048576) : Calls Tryz.prog 153 #[.pointer (some ⟨b, 0, none⟩)] w fun r w' => r = .returned (.tuple #[.int .i64 (rfs (decide (16384 < nc)) (21)), .int .i64 (rfs (decide (16384 < nc)) (-1))]) ∧ Below w.heap.size w w' := by
  by_cases h : 16384 < nc
  · rw [decide_eq_true h]
    have hd : decide (16384 < nc) = true := decide_eq_true h
    have hi : decide ((16384 : Int) < (nc : Int)) = true := decide_eq_true (by omega)
    go_enter Tryz.func153, Tryz.ntmps153
    go_wp2_with fail
    refine (refuse_yes (21) (-1) _).mono ?_
    rintro r w1 ⟨rfl, rfl⟩
    go_wp2
    go_ret2
    exact ⟨rfl, Below.refl _ _⟩
  · rw [decide_eq_false h]
    have hd : decide (16384 < nc) = false := decide_eq_false h
    have hi : decide ((16384 : Int) < (nc : Int)) = false := decide_eq_false (by omega)
    go_enter Tryz.func153, Tryz.ntmps153
    go_wp2_with fail
    refine (refuse_no (21) (-1) _).mono ?_
    rintro r w1 ⟨rfl, rfl⟩
    go_wp2
    go_ret2
    exact ⟨rfl, Below.refl _ _⟩
set_option maxRecDepth 100000 in
theorem q3_any (nm : ByteArray) (dA : Int) (A1 A2 A3 A4 : Option Addr) (nc c1 nd c2 ns c3 nr c4 : Nat) (b : Nat) (w : World) (o0 : w.cell? ⟨b, 0, none⟩ = some (.string nm)) (o1 : w.cell? ⟨b, 1, none⟩ = some (.slice A1 nc c1)) (o2 : w.cell? ⟨b, 2, none⟩ = some (.int .i64 dA)) (o3 : w.cell? ⟨b, 3, none⟩ = some (.slice A2 nd c2)) (o4 : w.cell? ⟨b, 4, none⟩ = some (.slice A3 ns c3)) (o5 : w.cell? ⟨b, 5, none⟩ = some (.slice A4 nr c4)) (hn : ns ≤ 1048576) : Calls Tryz.prog 154 #[.pointer (some ⟨b, 0, none⟩)] w fun r w' => r = .returned (.tuple #[.int .i64 (rfs (decide (256 < ns)) (21)), .int .i64 (rfs (decide (256 < ns)) (-2))]) ∧ Below w.heap.size w w' := by
  by_cases h : 256 < ns
  · rw [decide_eq_true h]
    have hd : decide (256 < ns) = true := decide_eq_true h
    have hi : decide ((256 : Int) < (ns : Int)) = true := decide_eq_true (by omega)
    go_enter Tryz.func154, Tryz.ntmps154
    go_wp2_with fail
    refine (refuse_yes (21) (-2) _).mono ?_
    rintro r w1 ⟨rfl, rfl⟩
    go_wp2
    go_ret2
    exact ⟨rfl, Below.refl _ _⟩
  · rw [decide_eq_false h]
    have hd : decide (256 < ns) = false := decide_eq_false h
    have hi : decide ((256 : Int) < (ns : Int)) = false := decide_eq_false (by omega)
    go_enter Tryz.func154, Tryz.ntmps154
    go_wp2_with fail
    refine (refuse_no (21) (-2) _).mono ?_
    rintro r w1 ⟨rfl, rfl⟩
    go_wp2
    go_ret2
    exact ⟨rfl, Below.refl _ _⟩
set_option maxRecDepth 100000 in
theorem q4_any (nm : ByteArray) (dA : Int) (A1 A2 A3 A4 : Option Addr) (nc c1 nd c2 ns c3 nr c4 : Nat) (b : Nat) (w : World) (o0 : w.cell? ⟨b, 0, none⟩ = some (.string nm)) (o1 : w.cell? ⟨b, 1, none⟩ = some (.slice A1 nc c1)) (o2 : w.cell? ⟨b, 2, none⟩ = some (.int .i64 dA)) (o3 : w.cell? ⟨b, 3, none⟩ = some (.slice A2 nd c2)) (o4 : w.cell? ⟨b, 4, none⟩ = some (.slice A3 ns c3)) (o5 : w.cell? ⟨b, 5, none⟩ = some (.slice A4 nr c4)) (_hn : nc ≤ 1048576) (_hm : nr ≤ 1048576) : Calls Tryz.prog 155 #[.pointer (some ⟨b, 0, none⟩)] w fun r w' => r = .returned (.tuple #[.int .i64 (rfs (decide (nc < nr)) (21)), .int .i64 (rfs (decide (nc < nr)) (-3))]) ∧ Below w.heap.size w w' := by
  by_cases h : nc < nr
  · rw [decide_eq_true h]
    have hd : decide (nc < nr) = true := decide_eq_true h
    have hi : decide ((nc : Int) < (nr : Int)) = true := decide_eq_true (by omega)
    go_enter Tryz.func155, Tryz.ntmps155
    go_wp2_with fail
    refine (refuse_yes (21) (-3) _).mono ?_
    rintro r w1 ⟨rfl, rfl⟩
    go_wp2
    go_ret2
    exact ⟨rfl, Below.refl _ _⟩
  · rw [decide_eq_false h]
    have hd : decide (nc < nr) = false := decide_eq_false h
    have hi : decide ((nc : Int) < (nr : Int)) = false := decide_eq_false (by omega)
    go_enter Tryz.func155, Tryz.ntmps155
    go_wp2_with fail
    refine (refuse_no (21) (-3) _).mono ?_
    rintro r w1 ⟨rfl, rfl⟩
    go_wp2
    go_ret2
    exact ⟨rfl, Below.refl _ _⟩
set_option maxRecDepth 100000 in
theorem q5_any (nm : ByteArray) (dA : Int) (A1 A2 A3 A4 : Option Addr) (nc c1 nd c2 ns c3 nr c4 : Nat) (b : Nat) (w : World) (o0 : w.cell? ⟨b, 0, none⟩ = some (.string nm)) (o1 : w.cell? ⟨b, 1, none⟩ = some (.slice A1 nc c1)) (o2 : w.cell? ⟨b, 2, none⟩ = some (.int .i64 dA)) (o3 : w.cell? ⟨b, 3, none⟩ = some (.slice A2 nd c2)) (o4 : w.cell? ⟨b, 4, none⟩ = some (.slice A3 ns c3)) (o5 : w.cell? ⟨b, 5, none⟩ = some (.slice A4 nr c4)) (_hn : nd ≤ 1048576) (h1 : -9223372036854775808 ≤ dA) (h2 : dA ≤ 9223372036854775807) : Calls Tryz.prog 156 #[.pointer (some ⟨b, 0, none⟩)] w fun r w' => r = .returned (.tuple #[.int .i64 (rfs (!decide (0 ≤ dA ∧ (nd : Int) ≤ 4096 - dA)) (25)), .int .i64 (rfs (!decide (0 ≤ dA ∧ (nd : Int) ≤ 4096 - dA)) (-1))]) ∧ Below w.heap.size w w' := by
  have C := fits_any dA nd h1 h2
  by_cases h : 0 ≤ dA ∧ (nd : Int) ≤ 4096 - dA
  · rw [decide_eq_true h] at C ⊢
    clear h
    go_enter Tryz.func156, Tryz.ntmps156
    go_wp2_with fail
    refine (C _).mono ?_
    rintro r w1 ⟨rfl, rfl⟩
    go_wp2_with fail
    refine (refuse_no (25) (-1) _).mono ?_
    rintro r w1 ⟨rfl, rfl⟩
    go_wp2
    go_ret2
    exact ⟨rfl, Below.refl _ _⟩
  · rw [decide_eq_false h] at C ⊢
    clear h
    go_enter Tryz.func156, Tryz.ntmps156
    go_wp2_with fail
    refine (C _).mono ?_
    rintro r w1 ⟨rfl, rfl⟩
    go_wp2_with fail
    refine (refuse_yes (25) (-1) _).mono ?_
    rintro r w1 ⟨rfl, rfl⟩
    go_wp2
    go_ret2
    exact ⟨rfl, Below.refl _ _⟩





end Go.Proofs.YthpkekpojhmaaaaGreatDoor

namespace Go.Proofs.YthpkekpojhmaaaaGreatDoor
open Go.RowKit


set_option maxRecDepth 100000 in
set_option maxHeartbeats 1000000 in
theorem allow_of (f x d a b n lo hi : Int) (rd ra rb : Bool) (w : World)
    (CR : ∀ wx : World, Calls Tryz.prog 148 #[.int .u8 f] wx fun e w' => e = .returned (.tuple #[.int .i64 lo, .int .i64 hi]) ∧ w' = wx)
    (C1 : ∀ wx : World, Calls Tryz.prog 149 #[.int .u8 f, .int .u8 1, .int .i8 d] wx fun e w' => e = .returned (.bool rd) ∧ w' = wx)
    (C2 : ∀ wx : World, Calls Tryz.prog 149 #[.int .u8 f, .int .u8 2, .int .i8 a] wx fun e w' => e = .returned (.bool ra) ∧ w' = wx)
    (C4 : ∀ wx : World, Calls Tryz.prog 149 #[.int .u8 f, .int .u8 4, .int .i8 b] wx fun e w' => e = .returned (.bool rb) ∧ w' = wx) :
    Calls Tryz.prog 115 #[.int .u8 f, .agg #[.int .i8 x, .int .i8 d, .int .i8 a, .int .i8 b, .int .i64 n]] w fun e w' => e = .returned (.bool (rd && ra && rb && (decide (lo ≤ n) && decide (n ≤ hi)))) ∧ w' = w.alloc (.cells #[.int .i8 x, .int .i8 d, .int .i8 a, .int .i8 b, .int .i64 n] 139) := by
  cases rd with
  | false =>
    go_enter Tryz.func115, Tryz.ntmps115
    go_wp2_with fail
    refine (CR _).mono ?_
    rintro e w1 ⟨rfl, rfl⟩
    go_wp2_with fail
    refine (C1 _).mono ?_
    rintro e w1 ⟨rfl, rfl⟩
    go_wp2
    go_ret
    exact ⟨by first | rfl | (simp [*]; done) | (simp [*]; omega), rfl⟩
  | true =>
  cases ra with
  | false =>
    go_enter Tryz.func115, Tryz.ntmps115
    go_wp2_with fail
    refine (CR _).mono ?_
    rintro e w1 ⟨rfl, rfl⟩
    go_wp2_with fail
    refine (C1 _).mono ?_
    rintro e w1 ⟨rfl, rfl⟩
    go_wp2_with fail
    refine (C2 _).mono ?_
    rintro e w1 ⟨rfl, rfl⟩
    go_wp2
    go_ret
    exact ⟨by first | rfl | (simp [*]; done) | (simp [*]; omega), rfl⟩
  | true =>
  cases rb with
  | false =>
    go_enter Tryz.func115, Tryz.ntmps115
    go_wp2_with fail
    refine (CR _).mono ?_
    rintro e w1 ⟨rfl, rfl⟩
    go_wp2_with fail
    refine (C1 _).mono ?_
    rintro e w1 ⟨rfl, rfl⟩
    go_wp2_with fail
    refine (C2 _).mono ?_
    rintro e w1 ⟨rfl, rfl⟩
    go_wp2_with fail
    refine (C4 _).mono ?_
    rintro e w1 ⟨rfl, rfl⟩
    go_wp2
    go_ret
    exact ⟨by first | rfl | (simp [*]; done) | (simp [*]; omega), rfl⟩
  | true =>
  by_cases hl : lo ≤ n
  · go_enter Tryz.func115, Tryz.ntmps115
    go_wp2_with fail
    refine (CR _).mono ?_
    rintro e w1 ⟨rfl, rfl⟩
    go_wp2_with fail
    refine (C1 _).mono ?_
    rintro e w1 ⟨rfl, rfl⟩
    go_wp2_with fail
    refine (C2 _).mono ?_
    rintro e w1 ⟨rfl, rfl⟩
    go_wp2_with fail
    refine (C4 _).mono ?_
    rintro e w1 ⟨rfl, rfl⟩
    go_wp2
    go_ret
    exact ⟨by first | rfl | (simp [*]; done) | (simp [*]; omega), rfl⟩
  · go_enter Tryz.func115, Tryz.ntmps115
    go_wp2_with fail
    refine (CR _).mono ?_
    rintro e w1 ⟨rfl, rfl⟩
    go_wp2_with fail
    refine (C1 _).mono ?_
    rintro e w1 ⟨rfl, rfl⟩
    go_wp2_with fail
    refine (C2 _).mono ?_
    rintro e w1 ⟨rfl, rfl⟩
    go_wp2_with fail
    refine (C4 _).mono ?_
    rintro e w1 ⟨rfl, rfl⟩
    go_wp2
    go_ret
    exact ⟨by first | rfl | (simp [*]; done) | (simp [*]; omega), rfl⟩

theorem allow_any (op x d a b n : Int) (h0 : 0 ≤ op) (h1 : op ≤ 21) (w : World) : Calls Tryz.prog 115 #[.int .u8 (sh op), .agg #[.int .i8 x, .int .i8 d, .int .i8 a, .int .i8 b, .int .i64 n]] w fun e w' => e = .returned (.bool (insOK op d a b n)) ∧ w' = w.alloc (.cells #[.int .i8 x, .int .i8 d, .int .i8 a, .int .i8 b, .int .i64 n] 139) := by
  obtain ⟨b1, b2, b4, b8, b16⟩ := sh_bits op h0 h1
  have h := allow_of (sh op) x d a b n _ _ _ _ _ w (frange_any (sh op) _ _ b8 b16) (fregister_any (sh op) 1 d _ b1) (fregister_any (sh op) 2 a _ b2) (fregister_any (sh op) 4 b _ b4)
  rw [num_lohi _ _ (hP_hN op)] at h
  exact h






end Go.Proofs.YthpkekpojhmaaaaGreatDoor

namespace Go.Proofs.YthpkekpojhmaaaaGreatDoor
open Go.RowKit

theorem and15 (x : Int) (h0 : 0 ≤ x) (h1 : x < 4294967296) : bits .and .u32 x 15 = x % 16 := by
  rw [u32_and x 15 h0 h1 (by omega) (by omega)]
  have e : x.toNat &&& (15 : Int).toNat = x.toNat % 16 := Nat.and_two_pow_sub_one_eq_mod x.toNat 4
  rw [e]; omega
theorem and32767 (x : Int) (h0 : 0 ≤ x) (h1 : x < 4294967296) : bits .and .u32 x 32767 = x % 32768 := by
  rw [u32_and x 32767 h0 h1 (by omega) (by omega)]
  have e : x.toNat &&& (32767 : Int).toNat = x.toNat % 32768 := Nat.and_two_pow_sub_one_eq_mod x.toNat 15
  rw [e]; omega
theorem dec_yes {v : Int} (h : isIns v = true) : Ending.returned (.agg #[.int .i8 (v / 134217728), .int .i8 (v / 8388608 % 16), .int .i8 (v / 524288 % 16), .int .i8 (v / 32768 % 16), .int .i64 (wN v)]) = .returned (.agg #[.int .i8 (dOp v), .int .i8 (dD v), .int .i8 (dA v), .int .i8 (dB v), .int .i64 (dN v)]) := by
  unfold dOp dD dA dB dN; rw [h]; rfl
theorem dec_no {v : Int} (h : isIns v = false) : Ending.returned (.agg #[.int .i8 (-1), .int .i8 0, .int .i8 0, .int .i8 0, .int .i64 v]) = .returned (.agg #[.int .i8 (dOp v), .int .i8 (dD v), .int .i8 (dA v), .int .i8 (dB v), .int .i64 (dN v)]) := by
  unfold dOp dD dA dB dN; rw [h]; rfl

set_option maxRecDepth 100000 in
set_option maxHeartbeats 1000000 in
theorem refdecode_any (v : Int) (h0 : 0 ≤ v) (h1 : v < 4294967296) (w : World) : Calls Tryz.prog 144 #[.int .u32 v] w fun e w' =>
    e = .returned (.agg #[.int .i8 (dOp v), .int .i8 (dD v), .int .i8 (dA v), .int .i8 (dB v), .int .i64 (dN v)]) ∧ Below w.heap.size w w' := by
  have a1 := and15 (v / 8388608) (by omega) (by omega)
  have a2 := and15 (v / 524288) (by omega) (by omega)
  have a3 := and15 (v / 32768) (by omega) (by omega)
  have a4 := and32767 v h0 h1
  go_enter Tryz.func144, Tryz.ntmps144
  go_wp2_with fail
  refine (refhas_any _ _).mono ?_
  rintro e w' ⟨rfl, rfl⟩
  clear a1 a2 a3 a4
  go_upto_region 3 with fail
  go_cut [40] (fun t wx => t = .bool (nNeg v) ∧ wx = ((((w.alloc (.cells #[.int .i8 0, .int .i8 0, .int .i8 0, .int .i8 0, .int .i64 0] 139)).alloc (.cells #[.int .i8 (v / 134217728), .int .i8 (v / 8388608 % 16), .int .i8 (v / 524288 % 16), .int .i8 (v / 32768 % 16), .int .i64 (v % 32768)] 139)).alloc (.cells #[.bool (hD (v / 134217728)), .bool (hA (v / 134217728)), .bool (hB (v / 134217728)), .bool (hN (v / 134217728)), .bool (hP (v / 134217728))] 256)).alloc (.cells #[.bool (hD (v / 134217728)), .bool (hA (v / 134217728)), .bool (hB (v / 134217728)), .bool (hN (v / 134217728)), .bool (hP (v / 134217728))] 256)))
  case first =>
    cases hn : hN (v / 134217728)
    · go_wp2
      go_meet
      case rel => exact ⟨by unfold nNeg; rw [hn]; rfl, by simp only [hn]⟩
    · cases hp : hP (v / 134217728)
      · go_wp2
        go_meet
        case rel => exact ⟨by unfold nNeg; rw [hn, hp]; simp, by simp only [hn, hp]⟩
      · go_wp2
        go_meet
        case rel => exact ⟨by unfold nNeg; rw [hn, hp]; simp, by simp only [hn, hp]⟩
  case rest =>
    obtain ⟨rfl, rfl⟩ := hcut
    go_upto_if 40 with fail
    go_cut [] (fun wx => wx = ((((w.alloc (.cells #[.int .i8 0, .int .i8 0, .int .i8 0, .int .i8 0, .int .i64 0] 139)).alloc (.cells #[.int .i8 (v / 134217728), .int .i8 (v / 8388608 % 16), .int .i8 (v / 524288 % 16), .int .i8 (v / 32768 % 16), .int .i64 (wN v)] 139)).alloc (.cells #[.bool (hD (v / 134217728)), .bool (hA (v / 134217728)), .bool (hB (v / 134217728)), .bool (hN (v / 134217728)), .bool (hP (v / 134217728))] 256)).alloc (.cells #[.bool (hD (v / 134217728)), .bool (hA (v / 134217728)), .bool (hB (v / 134217728)), .bool (hN (v / 134217728)), .bool (hP (v / 134217728))] 256)))
    case first =>
      cases hq : nNeg v
      · have e := wN_pos hq
        have HE : Hid (wN v = v % 32768) := e
        clear e
        go_wp2
        go_meet
        case rel => rw [HE.out]
      · have e := wN_neg hq
        have HE : Hid (wN v = v % 32768 - 32768) := e
        clear e
        go_wp2
        go_meet
        case rel => rw [HE.out]
    case rest =>
      subst hcut
      cases hI : isIns v with
      | true =>
        have CE : ∀ wx : World, Calls Tryz.prog 146 #[.agg #[.int .i8 (v / 134217728), .int .i8 (v / 8388608 % 16), .int .i8 (v / 524288 % 16), .int .i8 (v / 32768 % 16), .int .i64 (wN v)]] wx fun e w' => e = .returned (.tuple #[.int .u32 v, .int .i64 0]) ∧ Below wx.heap.size wx w' := fun wx => by
          have h := refencode_any (wOp v) (wD v) (wA v) (wB v) (wN v) wx
          rw [(enc_yes h0 h1 hI).1, (enc_yes h0 h1 hI).2] at h
          exact h
        have HI : Hid (isIns v = true) := hI
        clear hI
        go_wp2_with fail
        refine (CE _).mono ?_
        rintro e w2 ⟨rfl, hb2⟩
        clear CE
        have z0 : w2.cell? ⟨w.heap.size, 0, none⟩ = some (.int .i8 0) := cell_keep hb2 (by simp [go_sem])
        have y0 : w2.frozen? ⟨w.heap.size, 0, none⟩ = false := frozen_keep hb2 (v := .int .i8 0) (by simp [go_sem]) (by simp [go_sem])
        have x0 : w2.cell? ⟨w.heap.size + 1, 0, none⟩ = some (.int .i8 (v / 134217728)) := cell_keep hb2 (by simp [go_sem])
        have z1 : w2.cell? ⟨w.heap.size, 1, none⟩ = some (.int .i8 0) := cell_keep hb2 (by simp [go_sem])
        have y1 : w2.frozen? ⟨w.heap.size, 1, none⟩ = false := frozen_keep hb2 (v := .int .i8 0) (by simp [go_sem]) (by simp [go_sem])
        have x1 : w2.cell? ⟨w.heap.size + 1, 1, none⟩ = some (.int .i8 (v / 8388608 % 16)) := cell_keep hb2 (by simp [go_sem])
        have z2 : w2.cell? ⟨w.heap.size, 2, none⟩ = some (.int .i8 0) := cell_keep hb2 (by simp [go_sem])
        have y2 : w2.frozen? ⟨w.heap.size, 2, none⟩ = false := frozen_keep hb2 (v := .int .i8 0) (by simp [go_sem]) (by simp [go_sem])
        have x2 : w2.cell? ⟨w.heap.size + 1, 2, none⟩ = some (.int .i8 (v / 524288 % 16)) := cell_keep hb2 (by simp [go_sem])
        have z3 : w2.cell? ⟨w.heap.size, 3, none⟩ = some (.int .i8 0) := cell_keep hb2 (by simp [go_sem])
        have y3 : w2.frozen? ⟨w.heap.size, 3, none⟩ = false := frozen_keep hb2 (v := .int .i8 0) (by simp [go_sem]) (by simp [go_sem])
        have x3 : w2.cell? ⟨w.heap.size + 1, 3, none⟩ = some (.int .i8 (v / 32768 % 16)) := cell_keep hb2 (by simp [go_sem])
        have z4 : w2.cell? ⟨w.heap.size, 4, none⟩ = some (.int .i64 0) := cell_keep hb2 (by simp [go_sem])
        have y4 : w2.frozen? ⟨w.heap.size, 4, none⟩ = false := frozen_keep hb2 (v := .int .i64 0) (by simp [go_sem]) (by simp [go_sem])
        have x4 : w2.cell? ⟨w.heap.size + 1, 4, none⟩ = some (.int .i64 (wN v)) := cell_keep hb2 (by simp [go_sem])
        have HB2 : Hid (Below w.heap.size w w2) := bel_trans (bel_alloc (bel_alloc (bel_alloc (bel_alloc (Below.refl _ _) _) _) _) _) hb2
        clear hb2
        go_wp2
        exact bodyPost_ret (v := .agg #[.int .i8 (v / 134217728), .int .i8 (v / 8388608 % 16), .int .i8 (v / 524288 % 16), .int .i8 (v / 32768 % 16), .int .i64 (wN v)]) (by simp [results, Tryz.results144, go_sem, z0, z1, z2, z3, z4]) rfl ⟨dec_yes HI.out, ((((HB2.out.setCell (Nat.le_refl _) _).setCell (Nat.le_refl _) _).setCell (Nat.le_refl _) _).setCell (Nat.le_refl _) _).setCell (Nat.le_refl _) _⟩
      | false =>
        have HI : Hid (isIns v = false) := hI
        obtain ⟨E, hE, CE⟩ : ∃ E : Int, (E == 0) = false ∧ ∀ wx : World, Calls Tryz.prog 146 #[.agg #[.int .i8 (v / 134217728), .int .i8 (v / 8388608 % 16), .int .i8 (v / 524288 % 16), .int .i8 (v / 32768 % 16), .int .i64 (wN v)]] wx fun e w' => e = .returned (.tuple #[.int .u32 0, .int .i64 E]) ∧ Below wx.heap.size wx w' := by
          obtain ⟨e1, e2⟩ := enc_no h0 hI
          refine ⟨encE (wOp v) (wD v) (wA v) (wB v) (wN v), by rcases e2 with e2 | e2 <;> (rw [e2]; rfl), fun wx => ?_⟩
          have h := refencode_any (wOp v) (wD v) (wA v) (wB v) (wN v) wx
          rw [e1] at h
          exact h
        clear hI
        go_wp2_with fail
        refine (CE _).mono ?_
        rintro e w2 ⟨rfl, hb2⟩
        clear CE
        have z0 : w2.cell? ⟨w.heap.size, 0, none⟩ = some (.int .i8 0) := cell_keep hb2 (by simp [go_sem])
        have y0 : w2.frozen? ⟨w.heap.size, 0, none⟩ = false := frozen_keep hb2 (v := .int .i8 0) (by simp [go_sem]) (by simp [go_sem])
        have x0 : w2.cell? ⟨w.heap.size + 1, 0, none⟩ = some (.int .i8 (v / 134217728)) := cell_keep hb2 (by simp [go_sem])
        have z1 : w2.cell? ⟨w.heap.size, 1, none⟩ = some (.int .i8 0) := cell_keep hb2 (by simp [go_sem])
        have y1 : w2.frozen? ⟨w.heap.size, 1, none⟩ = false := frozen_keep hb2 (v := .int .i8 0) (by simp [go_sem]) (by simp [go_sem])
        have x1 : w2.cell? ⟨w.heap.size + 1, 1, none⟩ = some (.int .i8 (v / 8388608 % 16)) := cell_keep hb2 (by simp [go_sem])
        have z2 : w2.cell? ⟨w.heap.size, 2, none⟩ = some (.int .i8 0) := cell_keep hb2 (by simp [go_sem])
        have y2 : w2.frozen? ⟨w.heap.size, 2, none⟩ = false := frozen_keep hb2 (v := .int .i8 0) (by simp [go_sem]) (by simp [go_sem])
        have x2 : w2.cell? ⟨w.heap.size + 1, 2, none⟩ = some (.int .i8 (v / 524288 % 16)) := cell_keep hb2 (by simp [go_sem])
        have z3 : w2.cell? ⟨w.heap.size, 3, none⟩ = some (.int .i8 0) := cell_keep hb2 (by simp [go_sem])
        have y3 : w2.frozen? ⟨w.heap.size, 3, none⟩ = false := frozen_keep hb2 (v := .int .i8 0) (by simp [go_sem]) (by simp [go_sem])
        have x3 : w2.cell? ⟨w.heap.size + 1, 3, none⟩ = some (.int .i8 (v / 32768 % 16)) := cell_keep hb2 (by simp [go_sem])
        have z4 : w2.cell? ⟨w.heap.size, 4, none⟩ = some (.int .i64 0) := cell_keep hb2 (by simp [go_sem])
        have y4 : w2.frozen? ⟨w.heap.size, 4, none⟩ = false := frozen_keep hb2 (v := .int .i64 0) (by simp [go_sem]) (by simp [go_sem])
        have x4 : w2.cell? ⟨w.heap.size + 1, 4, none⟩ = some (.int .i64 (wN v)) := cell_keep hb2 (by simp [go_sem])
        have HB2 : Hid (Below w.heap.size w w2) := bel_trans (bel_alloc (bel_alloc (bel_alloc (bel_alloc (Below.refl _ _) _) _) _) _) hb2
        clear hb2
        go_wp2
        exact bodyPost_ret (v := .agg #[.int .i8 (-1), .int .i8 0, .int .i8 0, .int .i8 0, .int .i64 v]) (by simp [results, Tryz.results144, go_sem, z0, z1, z2, z3, z4]) rfl ⟨dec_no HI.out, ((((HB2.out.setCell (Nat.le_refl _) _).setCell (Nat.le_refl _) _).setCell (Nat.le_refl _) _).setCell (Nat.le_refl _) _).setCell (Nat.le_refl _) _⟩







end Go.Proofs.YthpkekpojhmaaaaGreatDoor

namespace Go.Proofs.YthpkekpojhmaaaaGreatDoor
open Go.RowKit

def shV : Array Value := #[.int .u8 0, .int .u8 9, .int .u8 3, .int .u8 7, .int .u8 7, .int .u8 7, .int .u8 7, .int .u8 7, .int .u8 7, .int .u8 7, .int .u8 7, .int .u8 11, .int .u8 14, .int .u8 1, .int .u8 10, .int .u8 24, .int .u8 26, .int .u8 24, .int .u8 2, .int .u8 2, .int .u8 25, .int .u8 0]
def zs22 : Array Value := #[.int .u8 0, .int .u8 0, .int .u8 0, .int .u8 0, .int .u8 0, .int .u8 0, .int .u8 0, .int .u8 0, .int .u8 0, .int .u8 0, .int .u8 0, .int .u8 0, .int .u8 0, .int .u8 0, .int .u8 0, .int .u8 0, .int .u8 0, .int .u8 0, .int .u8 0, .int .u8 0, .int .u8 0, .int .u8 0]

theorem heap_new (w : World) (o : Obj) : (w.alloc o).heap[w.heap.size]? = some o := heap_alloc_new w o

theorem shapes_res (w1 : World) (g : Nat) (h : w1.heap[g]? = some (.cells shV 207 (0, 0))) : (results Tryz.f113 #[.pointer (some ⟨g, 0, none⟩), .agg shV]).run Tryz.prog w1 = .ok (.agg shV) w1 := by
  have hl := run_loadVar_row (P := Tryz.prog) w1 g 207 207 shV (0, 0) _ h Tryz.underlying207 rfl (by kernel_rfl)
  have ha : (asAddr (Value.pointer (some ⟨g, 0, none⟩))).run Tryz.prog w1 = .ok ⟨g, 0, none⟩ w1 := rfl
  have hm : (results Tryz.f113 #[.pointer (some ⟨g, 0, none⟩), .agg shV]) = (do
      let vs ← (Tryz.f113.results.mapM fun
        | .tmp t => pure ((#[Value.pointer (some ⟨g, 0, none⟩), .agg shV] : Array Value).getD t undef)
        | .cell a t => do loadVar t (← asAddr ((#[Value.pointer (some ⟨g, 0, none⟩), .agg shV] : Array Value).getD a undef)) : Sem (Array Value))
      pure (if h : vs.size = 1 then vs[0] else .tuple vs)) := rfl
  rw [hm, Tryz.results113]
  have hg0 : (#[Value.pointer (some ⟨g, 0, none⟩), Value.agg shV] : Array Value).getD 0 undef = .pointer (some ⟨g, 0, none⟩) := rfl
  simp only [List.mapM_toArray, List.mapM_cons, List.mapM_nil, map_eq_pure_bind, bind_assoc, pure_bind, Sem.run_bind, Sem.run_pure, Result.andThen_ok, hg0, ha, hl]
  rfl

set_option maxRecDepth 100000 in
theorem shapes_any (w : World) : Calls Tryz.prog 113 #[] w fun e w' => e = .returned (.agg shV) ∧ Below w.heap.size w w' := by
  go_enter Tryz.func113, Tryz.ntmps113
  go_upto_region 1 with fail
  rename_i hK
  apply wp_region_lit
  refine wpList_buildTo rfl 207 _ rfl (some 1) rfl shV (by kernel_rfl) ?_
  refine wpList_store_row rfl 207 _ _ rfl w.heap.size shV rfl rfl 207 zs22 (heap_new _ _) (by kernel_rfl) (by kernel_rfl) (by kernel_rfl) ?_
  apply wpList_nil
  refine hK _ _ (wp_ret ?_)
  exact bodyPost_ret (v := .agg shV) (shapes_res _ _ (setRow_heap _ _ zs22 _ _ _ (heap_new _ _))) rfl ⟨rfl, below_setRow (bel_alloc (Below.refl _ _) _) (Nat.le_refl _) _⟩
theorem index_sh0 (w : World) : (Instr.index 207 (.agg shV) (.int .i8 0)).run Tryz.prog w = .ok (.int .u8 (sh 0)) w := by kernel_rfl
theorem index_sh1 (w : World) : (Instr.index 207 (.agg shV) (.int .i8 1)).run Tryz.prog w = .ok (.int .u8 (sh 1)) w := by kernel_rfl
theorem index_sh2 (w : World) : (Instr.index 207 (.agg shV) (.int .i8 2)).run Tryz.prog w = .ok (.int .u8 (sh 2)) w := by kernel_rfl
theorem index_sh3 (w : World) : (Instr.index 207 (.agg shV) (.int .i8 3)).run Tryz.prog w = .ok (.int .u8 (sh 3)) w := by kernel_rfl
theorem index_sh4 (w : World) : (Instr.index 207 (.agg shV) (.int .i8 4)).run Tryz.prog w = .ok (.int .u8 (sh 4)) w := by kernel_rfl
theorem index_sh5 (w : World) : (Instr.index 207 (.agg shV) (.int .i8 5)).run Tryz.prog w = .ok (.int .u8 (sh 5)) w := by kernel_rfl
theorem index_sh6 (w : World) : (Instr.index 207 (.agg shV) (.int .i8 6)).run Tryz.prog w = .ok (.int .u8 (sh 6)) w := by kernel_rfl
theorem index_sh7 (w : World) : (Instr.index 207 (.agg shV) (.int .i8 7)).run Tryz.prog w = .ok (.int .u8 (sh 7)) w := by kernel_rfl
theorem index_sh8 (w : World) : (Instr.index 207 (.agg shV) (.int .i8 8)).run Tryz.prog w = .ok (.int .u8 (sh 8)) w := by kernel_rfl
theorem index_sh9 (w : World) : (Instr.index 207 (.agg shV) (.int .i8 9)).run Tryz.prog w = .ok (.int .u8 (sh 9)) w := by kernel_rfl
theorem index_sh10 (w : World) : (Instr.index 207 (.agg shV) (.int .i8 10)).run Tryz.prog w = .ok (.int .u8 (sh 10)) w := by kernel_rfl
theorem index_sh11 (w : World) : (Instr.index 207 (.agg shV) (.int .i8 11)).run Tryz.prog w = .ok (.int .u8 (sh 11)) w := by kernel_rfl
theorem index_sh12 (w : World) : (Instr.index 207 (.agg shV) (.int .i8 12)).run Tryz.prog w = .ok (.int .u8 (sh 12)) w := by kernel_rfl
theorem index_sh13 (w : World) : (Instr.index 207 (.agg shV) (.int .i8 13)).run Tryz.prog w = .ok (.int .u8 (sh 13)) w := by kernel_rfl
theorem index_sh14 (w : World) : (Instr.index 207 (.agg shV) (.int .i8 14)).run Tryz.prog w = .ok (.int .u8 (sh 14)) w := by kernel_rfl
theorem index_sh15 (w : World) : (Instr.index 207 (.agg shV) (.int .i8 15)).run Tryz.prog w = .ok (.int .u8 (sh 15)) w := by kernel_rfl
theorem index_sh16 (w : World) : (Instr.index 207 (.agg shV) (.int .i8 16)).run Tryz.prog w = .ok (.int .u8 (sh 16)) w := by kernel_rfl
theorem index_sh17 (w : World) : (Instr.index 207 (.agg shV) (.int .i8 17)).run Tryz.prog w = .ok (.int .u8 (sh 17)) w := by kernel_rfl
theorem index_sh18 (w : World) : (Instr.index 207 (.agg shV) (.int .i8 18)).run Tryz.prog w = .ok (.int .u8 (sh 18)) w := by kernel_rfl
theorem index_sh19 (w : World) : (Instr.index 207 (.agg shV) (.int .i8 19)).run Tryz.prog w = .ok (.int .u8 (sh 19)) w := by kernel_rfl
theorem index_sh20 (w : World) : (Instr.index 207 (.agg shV) (.int .i8 20)).run Tryz.prog w = .ok (.int .u8 (sh 20)) w := by kernel_rfl
theorem index_sh21 (w : World) : (Instr.index 207 (.agg shV) (.int .i8 21)).run Tryz.prog w = .ok (.int .u8 (sh 21)) w := by kernel_rfl
theorem index_sh (op : Int) (h0 : 0 ≤ op) (h1 : op ≤ 21) (w : World) : (Instr.index 207 (.agg shV) (.int .i8 op)).run Tryz.prog w = .ok (.int .u8 (sh op)) w := by
  have h : op = 0 ∨ op = 1 ∨ op = 2 ∨ op = 3 ∨ op = 4 ∨ op = 5 ∨ op = 6 ∨ op = 7 ∨ op = 8 ∨ op = 9 ∨ op = 10 ∨ op = 11 ∨ op = 12 ∨ op = 13 ∨ op = 14 ∨ op = 15 ∨ op = 16 ∨ op = 17 ∨ op = 18 ∨ op = 19 ∨ op = 20 ∨ op = 21 := by omega
  rcases h with rfl | rfl | rfl | rfl | rfl | rfl | rfl | rfl | rfl | rfl | rfl | rfl | rfl | rfl | rfl | rfl | rfl | rfl | rfl | rfl | rfl | rfl
  · exact index_sh0 w
  · exact index_sh1 w
  · exact index_sh2 w
  · exact index_sh3 w
  · exact index_sh4 w
  · exact index_sh5 w
  · exact index_sh6 w
  · exact index_sh7 w
  · exact index_sh8 w
  · exact index_sh9 w
  · exact index_sh10 w
  · exact index_sh11 w
  · exact index_sh12 w
  · exact index_sh13 w
  · exact index_sh14 w
  · exact index_sh15 w
  · exact index_sh16 w
  · exact index_sh17 w
  · exact index_sh18 w
  · exact index_sh19 w
  · exact index_sh20 w
  · exact index_sh21 w






end Go.Proofs.YthpkekpojhmaaaaGreatDoor

namespace Go.Proofs.YthpkekpojhmaaaaGreatDoor
open Go.RowKit

set_option maxRecDepth 100000 in
set_option maxHeartbeats 1000000 in
theorem encOut (op d a b n : Int) (h8 : op ≤ 127) (hr : ¬ (0 ≤ op ∧ op ≤ 21)) (w : World) : Calls Tryz.prog 81 #[.agg #[.int .i8 op, .int .i8 d, .int .i8 a, .int .i8 b, .int .i64 n]] w fun e w' => e = .returned (.tuple #[.int .u32 (encV op d a b n), .int .i64 (encE op d a b n)]) ∧ Below w.heap.size w w' := by
  have CK := known_any op h8
  rw [decide_eq_false hr] at CK
  have hq : op < 0 ∨ 21 < op := by omega
  have HE : Hid (encV op d a b n = 0 ∧ encE op d a b n = 10) := by unfold Hid encV encE; rw [if_pos hq, if_pos hq]; exact ⟨rfl, rfl⟩
  go_enter Tryz.func81, Tryz.ntmps81
  go_wp2_with fail
  refine (CK _).mono ?_
  rintro e w1 ⟨rfl, rfl⟩
  go_wp2
  go_ret2
  exact ⟨ret2 HE.out.1.symm HE.out.2.symm, bel_alloc (Below.refl _ _) _⟩

set_option maxRecDepth 100000 in
set_option maxHeartbeats 1000000 in
theorem encNo (op d a b n : Int) (h0 : 0 ≤ op) (h1 : op ≤ 21) (hi : insOK op d a b n = false) (w : World) : Calls Tryz.prog 81 #[.agg #[.int .i8 op, .int .i8 d, .int .i8 a, .int .i8 b, .int .i64 n]] w fun e w' => e = .returned (.tuple #[.int .u32 (encV op d a b n), .int .i64 (encE op d a b n)]) ∧ Below w.heap.size w w' := by
    have CK := known_any op (by omega)
    rw [decide_eq_true ⟨h0, h1⟩] at CK
    have HE : Hid (encV op d a b n = 0 ∧ encE op d a b n = 11) := encE_no (by omega) hi
    have CA : ∀ wx : World, Calls Tryz.prog 115 #[.int .u8 (sh op), .agg #[.int .i8 op, .int .i8 d, .int .i8 a, .int .i8 b, .int .i64 n]] wx fun e w' => e = .returned (.bool false) ∧ Below wx.heap.size wx w' := fun wx => (allow_any op op d a b n h0 h1 wx).mono fun e w' ⟨h, k⟩ => ⟨by rw [h, hi], by rw [k]; exact bel_alloc (Below.refl _ _) _⟩
    have hX := index_sh op h0 h1
    clear hi
    go_enter Tryz.func81, Tryz.ntmps81
    go_wp2_with fail
    refine (CK _).mono ?_
    rintro e w1 ⟨rfl, hw⟩
    have c0 : w1.cell? ⟨w.heap.size, 0, none⟩ = some (.int .i8 op) := by rw [hw]; simp [go_sem]
    have c1 : w1.cell? ⟨w.heap.size, 1, none⟩ = some (.int .i8 d) := by rw [hw]; simp [go_sem]
    have c2 : w1.cell? ⟨w.heap.size, 2, none⟩ = some (.int .i8 a) := by rw [hw]; simp [go_sem]
    have c3 : w1.cell? ⟨w.heap.size, 3, none⟩ = some (.int .i8 b) := by rw [hw]; simp [go_sem]
    have c4 : w1.cell? ⟨w.heap.size, 4, none⟩ = some (.int .i64 n) := by rw [hw]; simp [go_sem]
    have B1 : Below w.heap.size w w1.drew := by rw [hw]; exact (bel_alloc (Below.refl _ _) _).drew
    clear hw CK
    go_wp2_with fail
    go_region_held3 (fun W => W.cell? ⟨w.heap.size, 0, none⟩ = some (.int .i8 op) ∧ W.cell? ⟨w.heap.size, 1, none⟩ = some (.int .i8 d) ∧ W.cell? ⟨w.heap.size, 2, none⟩ = some (.int .i8 a) ∧ W.cell? ⟨w.heap.size, 3, none⟩ = some (.int .i8 b) ∧ W.cell? ⟨w.heap.size, 4, none⟩ = some (.int .i64 n) ∧ Below w.heap.size w W) (first | (refine ⟨cell_keep hb ?_, cell_keep hb ?_, cell_keep hb ?_, cell_keep hb ?_, cell_keep hb ?_, bel_trans ?_ hb⟩ <;> (simp [*]; done)) | (simp [*]; done))
      (first
        | (go_at_call 113; refine (shapes_any _).mono ?_; rintro e w4 ⟨rfl, hb⟩)
        | (go_at_call 115; refine (CA _).mono ?_; rintro e w4 ⟨rfl, hb⟩))
    rename_i hS
    obtain ⟨s0, s1, s2, s3, s4, sB⟩ := hS
    have HB : Hid (Below w.heap.size w _) := sB
    clear sB CA hX c0 c1 c2 c3 c4 B1
    go_wp2
    go_ret2
    exact ⟨ret2 HE.out.1.symm HE.out.2.symm, HB.out⟩

set_option maxRecDepth 100000 in
set_option maxHeartbeats 1000000 in
theorem encYes (op d a b n : Int) (h0 : 0 ≤ op) (h1 : op ≤ 21) (hi : insOK op d a b n = true) (w : World) : Calls Tryz.prog 81 #[.agg #[.int .i8 op, .int .i8 d, .int .i8 a, .int .i8 b, .int .i64 n]] w fun e w' => e = .returned (.tuple #[.int .u32 (encV op d a b n), .int .i64 (encE op d a b n)]) ∧ Below w.heap.size w w' := by
    have CK := known_any op (by omega)
    rw [decide_eq_true ⟨h0, h1⟩] at CK
    have HE : Hid (encV op d a b n = encW op d a b n ∧ encE op d a b n = 0) := encE_yes (by omega) hi
    have CA : ∀ wx : World, Calls Tryz.prog 115 #[.int .u8 (sh op), .agg #[.int .i8 op, .int .i8 d, .int .i8 a, .int .i8 b, .int .i64 n]] wx fun e w' => e = .returned (.bool true) ∧ Below wx.heap.size wx w' := fun wx => (allow_any op op d a b n h0 h1 wx).mono fun e w' ⟨h, k⟩ => ⟨by rw [h, hi], by rw [k]; exact bel_alloc (Below.refl _ _) _⟩
    have hX := index_sh op h0 h1
    unfold insOK at hi
    simp only [Bool.and_eq_true] at hi
    obtain ⟨d1, d2⟩ := reg_range hi.1.1.1
    obtain ⟨a1, a2⟩ := reg_range hi.1.1.2
    obtain ⟨b1, b2⟩ := reg_range hi.1.2
    obtain ⟨n1, n2⟩ := num_range hi.2
    clear hi
    have o1 := or_add (op * 134217728) (d * 8388608) op 27 (by omega) (by omega) (by omega) (by omega) (by omega)
    have o2 := or_add (op * 134217728 + d * 8388608) (a * 524288) (op * 16 + d) 23 (by omega) (by omega) (by omega) (by omega) (by omega)
    have o3 := or_add (op * 134217728 + d * 8388608 + a * 524288) (b * 32768) ((op * 16 + d) * 16 + a) 19 (by omega) (by omega) (by omega) (by omega) (by omega)
    have o5 : bits .and .u32 (n % 4294967296) 32767 = n % 32768 := by rw [and32767 _ (by omega) (by omega)]; omega
    have o4 := or_add (op * 134217728 + d * 8388608 + a * 524288 + b * 32768) (n % 32768) (((op * 16 + d) * 16 + a) * 16 + b) 15 (by omega) (by omega) (by omega) (by omega) (by omega)
    go_enter Tryz.func81, Tryz.ntmps81
    go_wp2_with fail
    refine (CK _).mono ?_
    rintro e w1 ⟨rfl, hw⟩
    have c0 : w1.cell? ⟨w.heap.size, 0, none⟩ = some (.int .i8 op) := by rw [hw]; simp [go_sem]
    have c1 : w1.cell? ⟨w.heap.size, 1, none⟩ = some (.int .i8 d) := by rw [hw]; simp [go_sem]
    have c2 : w1.cell? ⟨w.heap.size, 2, none⟩ = some (.int .i8 a) := by rw [hw]; simp [go_sem]
    have c3 : w1.cell? ⟨w.heap.size, 3, none⟩ = some (.int .i8 b) := by rw [hw]; simp [go_sem]
    have c4 : w1.cell? ⟨w.heap.size, 4, none⟩ = some (.int .i64 n) := by rw [hw]; simp [go_sem]
    have B1 : Below w.heap.size w w1.drew := by rw [hw]; exact (bel_alloc (Below.refl _ _) _).drew
    clear hw CK
    go_wp2_with fail
    go_region_held3 (fun W => W.cell? ⟨w.heap.size, 0, none⟩ = some (.int .i8 op) ∧ W.cell? ⟨w.heap.size, 1, none⟩ = some (.int .i8 d) ∧ W.cell? ⟨w.heap.size, 2, none⟩ = some (.int .i8 a) ∧ W.cell? ⟨w.heap.size, 3, none⟩ = some (.int .i8 b) ∧ W.cell? ⟨w.heap.size, 4, none⟩ = some (.int .i64 n) ∧ Below w.heap.size w W) (first | (refine ⟨cell_keep hb ?_, cell_keep hb ?_, cell_keep hb ?_, cell_keep hb ?_, cell_keep hb ?_, bel_trans ?_ hb⟩ <;> (simp [*]; done)) | (simp [*]; done))
      (first
        | (go_at_call 113; refine (shapes_any _).mono ?_; rintro e w4 ⟨rfl, hb⟩)
        | (go_at_call 115; refine (CA _).mono ?_; rintro e w4 ⟨rfl, hb⟩))
    rename_i hS
    obtain ⟨s0, s1, s2, s3, s4, sB⟩ := hS
    have HB : Hid (Below w.heap.size w _) := sB
    clear sB CA hX c0 c1 c2 c3 c4 B1
    go_wp2
    go_ret2
    exact ⟨ret2 (by rw [HE.out.1]; rfl) HE.out.2.symm, HB.out⟩

theorem isaencode_any (op d a b n : Int) (h8 : op ≤ 127) (w : World) : Calls Tryz.prog 81 #[.agg #[.int .i8 op, .int .i8 d, .int .i8 a, .int .i8 b, .int .i64 n]] w fun e w' => e = .returned (.tuple #[.int .u32 (encV op d a b n), .int .i64 (encE op d a b n)]) ∧ Below w.heap.size w w' := by
  by_cases hr : 0 ≤ op ∧ op ≤ 21
  · cases hi : insOK op d a b n
    · exact encNo op d a b n hr.1 hr.2 hi w
    · exact encYes op d a b n hr.1 hr.2 hi w
  · exact encOut op d a b n h8 hr w






end Go.Proofs.YthpkekpojhmaaaaGreatDoor

namespace Go.Proofs.YthpkekpojhmaaaaGreatDoor
open Go.RowKit

/-- N as the program reads it: by its highest bit. -/
def sN (v : Int) : Int := if 16383 < v % 32768 then v % 32768 - 32768 else v % 32768
theorem sN_num0 (n p : Bool) (r : Int) (h0 : 0 ≤ r) (h1 : r < 32768) : numOK n p (if 16383 < r then r - 32768 else r) = numOK n p (if n && !p && decide (16384 ≤ r) then r - 32768 else r) := by
  by_cases h : 16383 < r
  · have h' : 16384 ≤ r := by omega
    cases n <;> cases p <;> (rw [Bool.eq_iff_iff]; simp [numOK, h, h']; try omega)
  · have h' : ¬ 16384 ≤ r := by omega
    cases n <;> cases p <;> simp [numOK, h, h']
theorem sN_eq0 (n p : Bool) (r : Int) (h0 : 0 ≤ r) (h1 : r < 32768) (hn : numOK n p (if n && !p && decide (16384 ≤ r) then r - 32768 else r) = true) : (if 16383 < r then r - 32768 else r) = (if n && !p && decide (16384 ≤ r) then r - 32768 else r) := by
  by_cases h : 16383 < r
  · have h' : 16384 ≤ r := by omega
    cases n <;> cases p <;> simp [numOK, h, h'] at hn ⊢ <;> omega
  · have h' : ¬ 16384 ≤ r := by omega
    cases n <;> cases p <;> simp [h, h']
theorem ins_sN (v : Int) : insOK (wOp v) (wD v) (wA v) (wB v) (sN v) = insOK (wOp v) (wD v) (wA v) (wB v) (wN v) := by
  unfold insOK
  rw [show numOK (hN (wOp v)) (hP (wOp v)) (sN v) = numOK (hN (wOp v)) (hP (wOp v)) (wN v) from sN_num0 _ _ (v % 32768) (by omega) (by omega)]
theorem isIns_sN {v : Int} (h : isIns v = true) : sN v = wN v := by
  unfold isIns insOK at h
  simp only [Bool.and_eq_true] at h
  exact sN_eq0 _ _ (v % 32768) (by omega) (by omega) h.2.2
theorem encS_no {v : Int} (h0 : 0 ≤ v) (h : isIns v = false) : encV (wOp v) (wD v) (wA v) (wB v) (sN v) = 0 ∧ (encE (wOp v) (wD v) (wA v) (wB v) (sN v) = 10 ∨ encE (wOp v) (wD v) (wA v) (wB v) (sN v) = 11) := by
  unfold isIns at h
  have hop : 0 ≤ wOp v := by unfold wOp; omega
  unfold encV encE
  by_cases hb : wOp v < 0 ∨ 21 < wOp v
  · rw [if_pos hb, if_pos hb]; exact ⟨rfl, Or.inl rfl⟩
  · rw [if_neg hb, if_neg hb]
    have hle : wOp v ≤ 21 := by omega
    rw [decide_eq_true hle, Bool.true_and] at h
    rw [ins_sN, h]; exact ⟨rfl, Or.inr rfl⟩

set_option maxRecDepth 100000 in
set_option maxHeartbeats 1000000 in
theorem decYes (v : Int) (h0 : 0 ≤ v) (h1 : v < 4294967296) (hI : isIns v = true) (w : World) : Calls Tryz.prog 77 #[.int .u32 v] w fun e w' => e = .returned (.agg #[.int .i8 (dOp v), .int .i8 (dD v), .int .i8 (dA v), .int .i8 (dB v), .int .i64 (dN v)]) ∧ Below w.heap.size w w' := by
    have m1 : bits .and .u32 v 125829120 = v / 8388608 % 16 * 8388608 := mask_mid v 23 125829120 (by decide) (by decide) h0 h1
    have m2 : bits .and .u32 v 7864320 = v / 524288 % 16 * 524288 := mask_mid v 19 7864320 (by decide) (by decide) h0 h1
    have m3 : bits .and .u32 v 491520 = v / 32768 % 16 * 32768 := mask_mid v 15 491520 (by decide) (by decide) h0 h1
    have m4 := and32767 v h0 h1
    have CS : ∀ wx : World, Calls Tryz.prog 111 #[.int .u32 (v % 32768)] wx fun e w' => e = .returned (.int .i64 (wN v)) ∧ w' = wx := fun wx => by
      have h := signed_any (v % 32768) (by omega) (by omega) wx
      rw [← isIns_sN hI]; exact h
    have CE : ∀ wx : World, Calls Tryz.prog 81 #[.agg #[.int .i8 (v / 134217728), .int .i8 (v / 8388608 % 16), .int .i8 (v / 524288 % 16), .int .i8 (v / 32768 % 16), .int .i64 (wN v)]] wx fun e w' => e = .returned (.tuple #[.int .u32 v, .int .i64 0]) ∧ Below wx.heap.size wx w' := fun wx => by
      have h := isaencode_any (wOp v) (wD v) (wA v) (wB v) (wN v) (by unfold wOp; omega) wx
      rw [(enc_yes h0 h1 hI).1, (enc_yes h0 h1 hI).2] at h
      exact h
    have HI : Hid (isIns v = true) := hI
    clear hI
    go_enter Tryz.func77, Tryz.ntmps77
    go_wp2_with fail
    refine (CS _).mono ?_
    rintro e w1 ⟨rfl, rfl⟩
    clear m1 m2 m3 m4 CS
    go_wp2_with fail
    refine (CE _).mono ?_
    rintro e w2 ⟨rfl, hb2⟩
    clear CE
    have z0 : w2.cell? ⟨w.heap.size, 0, none⟩ = some (.int .i8 0) := cell_keep hb2 (by simp [go_sem])
    have y0 : w2.frozen? ⟨w.heap.size, 0, none⟩ = false := frozen_keep hb2 (v := .int .i8 0) (by simp [go_sem]) (by simp [go_sem])
    have x0 : w2.cell? ⟨w.heap.size + 1, 0, none⟩ = some (.int .i8 (v / 134217728)) := cell_keep hb2 (by simp [go_sem])
    have z1 : w2.cell? ⟨w.heap.size, 1, none⟩ = some (.int .i8 0) := cell_keep hb2 (by simp [go_sem])
    have y1 : w2.frozen? ⟨w.heap.size, 1, none⟩ = false := frozen_keep hb2 (v := .int .i8 0) (by simp [go_sem]) (by simp [go_sem])
    have x1 : w2.cell? ⟨w.heap.size + 1, 1, none⟩ = some (.int .i8 (v / 8388608 % 16)) := cell_keep hb2 (by simp [go_sem])
    have z2 : w2.cell? ⟨w.heap.size, 2, none⟩ = some (.int .i8 0) := cell_keep hb2 (by simp [go_sem])
    have y2 : w2.frozen? ⟨w.heap.size, 2, none⟩ = false := frozen_keep hb2 (v := .int .i8 0) (by simp [go_sem]) (by simp [go_sem])
    have x2 : w2.cell? ⟨w.heap.size + 1, 2, none⟩ = some (.int .i8 (v / 524288 % 16)) := cell_keep hb2 (by simp [go_sem])
    have z3 : w2.cell? ⟨w.heap.size, 3, none⟩ = some (.int .i8 0) := cell_keep hb2 (by simp [go_sem])
    have y3 : w2.frozen? ⟨w.heap.size, 3, none⟩ = false := frozen_keep hb2 (v := .int .i8 0) (by simp [go_sem]) (by simp [go_sem])
    have x3 : w2.cell? ⟨w.heap.size + 1, 3, none⟩ = some (.int .i8 (v / 32768 % 16)) := cell_keep hb2 (by simp [go_sem])
    have z4 : w2.cell? ⟨w.heap.size, 4, none⟩ = some (.int .i64 0) := cell_keep hb2 (by simp [go_sem])
    have y4 : w2.frozen? ⟨w.heap.size, 4, none⟩ = false := frozen_keep hb2 (v := .int .i64 0) (by simp [go_sem]) (by simp [go_sem])
    have x4 : w2.cell? ⟨w.heap.size + 1, 4, none⟩ = some (.int .i64 (wN v)) := cell_keep hb2 (by simp [go_sem])
    have HB2 : Hid (Below w.heap.size w w2) := bel_trans (bel_alloc (bel_alloc (Below.refl _ _) _) _) hb2
    clear hb2
    go_wp2
    exact bodyPost_ret (v := .agg #[.int .i8 (v / 134217728), .int .i8 (v / 8388608 % 16), .int .i8 (v / 524288 % 16), .int .i8 (v / 32768 % 16), .int .i64 (wN v)]) (by simp [results, Tryz.results77, go_sem, z0, z1, z2, z3, z4]) rfl ⟨dec_yes HI.out, ((((HB2.out.setCell (Nat.le_refl _) _).setCell (Nat.le_refl _) _).setCell (Nat.le_refl _) _).setCell (Nat.le_refl _) _).setCell (Nat.le_refl _) _⟩

set_option maxRecDepth 100000 in
set_option maxHeartbeats 1000000 in
theorem decNo (v : Int) (h0 : 0 ≤ v) (h1 : v < 4294967296) (hI : isIns v = false) (w : World) : Calls Tryz.prog 77 #[.int .u32 v] w fun e w' => e = .returned (.agg #[.int .i8 (dOp v), .int .i8 (dD v), .int .i8 (dA v), .int .i8 (dB v), .int .i64 (dN v)]) ∧ Below w.heap.size w w' := by
    have m1 : bits .and .u32 v 125829120 = v / 8388608 % 16 * 8388608 := mask_mid v 23 125829120 (by decide) (by decide) h0 h1
    have m2 : bits .and .u32 v 7864320 = v / 524288 % 16 * 524288 := mask_mid v 19 7864320 (by decide) (by decide) h0 h1
    have m3 : bits .and .u32 v 491520 = v / 32768 % 16 * 32768 := mask_mid v 15 491520 (by decide) (by decide) h0 h1
    have m4 := and32767 v h0 h1
    have CS : ∀ wx : World, Calls Tryz.prog 111 #[.int .u32 (v % 32768)] wx fun e w' => e = .returned (.int .i64 (sN v)) ∧ w' = wx := fun wx => signed_any (v % 32768) (by omega) (by omega) wx
    obtain ⟨E, hE, CE⟩ : ∃ E : Int, (E == 0) = false ∧ ∀ wx : World, Calls Tryz.prog 81 #[.agg #[.int .i8 (v / 134217728), .int .i8 (v / 8388608 % 16), .int .i8 (v / 524288 % 16), .int .i8 (v / 32768 % 16), .int .i64 (sN v)]] wx fun e w' => e = .returned (.tuple #[.int .u32 0, .int .i64 E]) ∧ Below wx.heap.size wx w' := by
      obtain ⟨e1, e2⟩ := encS_no h0 hI
      refine ⟨encE (wOp v) (wD v) (wA v) (wB v) (sN v), by rcases e2 with e2 | e2 <;> (rw [e2]; rfl), fun wx => ?_⟩
      have h := isaencode_any (wOp v) (wD v) (wA v) (wB v) (sN v) (by unfold wOp; omega) wx
      rw [e1] at h
      exact h
    have HI : Hid (isIns v = false) := hI
    clear hI
    go_enter Tryz.func77, Tryz.ntmps77
    go_wp2_with fail
    refine (CS _).mono ?_
    rintro e w1 ⟨rfl, rfl⟩
    clear m1 m2 m3 m4 CS
    go_wp2_with fail
    refine (CE _).mono ?_
    rintro e w2 ⟨rfl, hb2⟩
    clear CE
    have z0 : w2.cell? ⟨w.heap.size, 0, none⟩ = some (.int .i8 0) := cell_keep hb2 (by simp [go_sem])
    have y0 : w2.frozen? ⟨w.heap.size, 0, none⟩ = false := frozen_keep hb2 (v := .int .i8 0) (by simp [go_sem]) (by simp [go_sem])
    have x0 : w2.cell? ⟨w.heap.size + 1, 0, none⟩ = some (.int .i8 (v / 134217728)) := cell_keep hb2 (by simp [go_sem])
    have z1 : w2.cell? ⟨w.heap.size, 1, none⟩ = some (.int .i8 0) := cell_keep hb2 (by simp [go_sem])
    have y1 : w2.frozen? ⟨w.heap.size, 1, none⟩ = false := frozen_keep hb2 (v := .int .i8 0) (by simp [go_sem]) (by simp [go_sem])
    have x1 : w2.cell? ⟨w.heap.size + 1, 1, none⟩ = some (.int .i8 (v / 8388608 % 16)) := cell_keep hb2 (by simp [go_sem])
    have z2 : w2.cell? ⟨w.heap.size, 2, none⟩ = some (.int .i8 0) := cell_keep hb2 (by simp [go_sem])
    have y2 : w2.frozen? ⟨w.heap.size, 2, none⟩ = false := frozen_keep hb2 (v := .int .i8 0) (by simp [go_sem]) (by simp [go_sem])
    have x2 : w2.cell? ⟨w.heap.size + 1, 2, none⟩ = some (.int .i8 (v / 524288 % 16)) := cell_keep hb2 (by simp [go_sem])
    have z3 : w2.cell? ⟨w.heap.size, 3, none⟩ = some (.int .i8 0) := cell_keep hb2 (by simp [go_sem])
    have y3 : w2.frozen? ⟨w.heap.size, 3, none⟩ = false := frozen_keep hb2 (v := .int .i8 0) (by simp [go_sem]) (by simp [go_sem])
    have x3 : w2.cell? ⟨w.heap.size + 1, 3, none⟩ = some (.int .i8 (v / 32768 % 16)) := cell_keep hb2 (by simp [go_sem])
    have z4 : w2.cell? ⟨w.heap.size, 4, none⟩ = some (.int .i64 0) := cell_keep hb2 (by simp [go_sem])
    have y4 : w2.frozen? ⟨w.heap.size, 4, none⟩ = false := frozen_keep hb2 (v := .int .i64 0) (by simp [go_sem]) (by simp [go_sem])
    have x4 : w2.cell? ⟨w.heap.size + 1, 4, none⟩ = some (.int .i64 (sN v)) := cell_keep hb2 (by simp [go_sem])
    have HB2 : Hid (Below w.heap.size w w2) := bel_trans (bel_alloc (bel_alloc (Below.refl _ _) _) _) hb2
    clear hb2
    go_wp2
    exact bodyPost_ret (v := .agg #[.int .i8 (-1), .int .i8 0, .int .i8 0, .int .i8 0, .int .i64 v]) (by simp [results, Tryz.results77, go_sem, z0, z1, z2, z3, z4]) rfl ⟨dec_no HI.out, ((((HB2.out.setCell (Nat.le_refl _) _).setCell (Nat.le_refl _) _).setCell (Nat.le_refl _) _).setCell (Nat.le_refl _) _).setCell (Nat.le_refl _) _⟩

theorem isadecode_any (v : Int) (h0 : 0 ≤ v) (h1 : v < 4294967296) (w : World) : Calls Tryz.prog 77 #[.int .u32 v] w fun e w' => e = .returned (.agg #[.int .i8 (dOp v), .int .i8 (dD v), .int .i8 (dA v), .int .i8 (dB v), .int .i64 (dN v)]) ∧ Below w.heap.size w w' := by
  cases hI : isIns v
  · exact decNo v h0 h1 hI w
  · exact decYes v h0 h1 hI w






end Go.Proofs.YthpkekpojhmaaaaGreatDoor

namespace Go.Proofs.YthpkekpojhmaaaaGreatDoor
open Go.RowKit

@[go_sem] theorem field_ins0 (x d a b n : Int) (w : World) : (Instr.field 139 (.agg #[.int .i8 x, .int .i8 d, .int .i8 a, .int .i8 b, .int .i64 n]) 0).run Tryz.prog w = .ok (.int .i8 x) w := by kernel_rfl
@[go_sem] theorem field_has4 (x d a b n : Bool) (w : World) : (Instr.field 256 (.agg #[.bool x, .bool d, .bool a, .bool b, .bool n]) 4).run Tryz.prog w = .ok (.bool n) w := by kernel_rfl
theorem reftarget_any (v : Int) (h0 : 0 ≤ v) (h1 : v < 4294967296) (w : World) : Calls Tryz.prog 99 #[.int .u32 v] w fun e w' => e = .returned (.tuple #[.int .i64 (tgV v), .bool (isT v)]) ∧ Below w.heap.size w w' := by
  have CE : ∀ wx : World, Calls Tryz.prog 144 #[.int .u32 v] wx fun e w' => e = .returned (.agg #[.int .i8 (dOp v), .int .i8 (dD v), .int .i8 (dA v), .int .i8 (dB v), .int .i64 (dN v)]) ∧ Below wx.heap.size wx w' := fun wx => refdecode_any v h0 h1 wx
  unfold tgV isT
  generalize dOp v = x at CE ⊢
  generalize dN v = n at CE ⊢
  by_cases hx : x < 0
  · have e : decide (0 ≤ x) = false := decide_eq_false (by omega)
    rw [e]
    go_enter Tryz.func99, Tryz.ntmps99
    go_wp2_with (go_at_call 144; refine (CE _).mono ?_; rintro e w1 ⟨rfl, hb⟩)
    go_ret2
    exact ⟨rfl, bel_alloc hb _⟩
  · have e : decide (0 ≤ x) = true := decide_eq_true (by omega)
    rw [e]
    clear e
    cases hp : hP x
    · go_enter Tryz.func99, Tryz.ntmps99
      go_wp2_with (first | (go_at_call 144; refine (CE _).mono ?_; rintro e w1 ⟨rfl, hb⟩) | (go_at_call 145; refine (refhas_any _ _).mono ?_; rintro e w2 ⟨rfl, rfl⟩))
      go_ret2
      exact ⟨rfl, bel_alloc (bel_alloc hb _) _⟩
    · go_enter Tryz.func99, Tryz.ntmps99
      go_wp2_with (first | (go_at_call 144; refine (CE _).mono ?_; rintro e w1 ⟨rfl, hb⟩) | (go_at_call 145; refine (refhas_any _ _).mono ?_; rintro e w2 ⟨rfl, rfl⟩))
      go_ret2
      exact ⟨rfl, bel_alloc (bel_alloc hb _) _⟩







end Go.Proofs.YthpkekpojhmaaaaGreatDoor

namespace Go.Proofs.YthpkekpojhmaaaaGreatDoor
open Go.RowKit

theorem ends_falls (x : Int) : (!(!endsB x || x == 16) || x == 16) = endsB x := by
  by_cases h16 : x = 16
  · subst h16; rfl
  · have : (x == 16) = false := by simpa using h16
    rw [this]; simp

theorem target_of (v x d a b n : Int) (p1 p2 p3 p4 p : Bool) (w : World) (CE : ∀ wx : World, Calls Tryz.prog 77 #[.int .u32 v] wx fun e w' => e = .returned (.agg #[.int .i8 x, .int .i8 d, .int .i8 a, .int .i8 b, .int .i64 n]) ∧ Below wx.heap.size wx w') (CH : ∀ wx : World, Calls Tryz.prog 78 #[.int .i8 x] wx fun e w' => e = .returned (.tuple #[.bool p1, .bool p2, .bool p3, .bool p4, .bool p]) ∧ Below wx.heap.size wx w') : Calls Tryz.prog 25 #[.int .u32 v] w fun e w' => e = .returned (.tuple #[.int .i64 (if p then n else 0), .bool p]) ∧ Below w.heap.size w w' := by
  cases p
  · go_enter Tryz.func25, Tryz.ntmps25
    go_wp2_with fail
    refine (CE _).mono ?_
    rintro e w1 ⟨rfl, hb⟩
    go_wp2_with fail
    refine (CH _).mono ?_
    rintro e w2 ⟨rfl, hb2⟩
    go_wp2
    go_ret2
    exact ⟨rfl, bel_trans (bel_alloc hb _) hb2⟩
  · go_enter Tryz.func25, Tryz.ntmps25
    go_wp2_with fail
    refine (CE _).mono ?_
    rintro e w1 ⟨rfl, hb⟩
    go_wp2_with fail
    refine (CH _).mono ?_
    rintro e w2 ⟨rfl, hb2⟩
    have c4 : w2.cell? ⟨w1.heap.size, 4, none⟩ = some (.int .i64 n) := cell_keep hb2 (by simp [go_sem])
    have HB : Hid (Below w.heap.size w w2) := bel_trans (bel_alloc hb _) hb2
    clear hb hb2
    go_wp2
    go_ret2
    exact ⟨rfl, HB.out⟩






end Go.Proofs.YthpkekpojhmaaaaGreatDoor

namespace Go.Proofs.YthpkekpojhmaaaaGreatDoor
open Go.RowKit


set_option maxRecDepth 100000 in
theorem isahas_any (op : Int) (h8 : op ≤ 127) (w : World) : Calls Tryz.prog 78 #[.int .i8 op] w fun e w' => e = .returned (.tuple #[.bool (hD op), .bool (hA op), .bool (hB op), .bool (hN op), .bool (hP op)]) ∧ Below w.heap.size w w' := by
  have CK := known_any op h8
  by_cases hr : 0 ≤ op ∧ op ≤ 21
  · rw [decide_eq_true hr] at CK
    obtain ⟨b1, b2, b4, b8, b16⟩ := sh_bits op hr.1 hr.2
    have hI := index_sh op hr.1 hr.2
    have C1 := fun wx => fhas_any (sh op) 1 wx
    have C2 := fun wx => fhas_any (sh op) 2 wx
    have C4 := fun wx => fhas_any (sh op) 4 wx
    have C8 := fun wx => fhas_any (sh op) 8 wx
    have C16 := fun wx => fhas_any (sh op) 16 wx
    rw [b1] at C1; rw [b2] at C2; rw [b4] at C4; rw [b8] at C8; rw [b16] at C16
    clear b1 b2 b4 b8 b16
    go_enter Tryz.func78, Tryz.ntmps78
    go_wp2_with fail
    refine (CK _).mono ?_
    rintro e w1 ⟨rfl, rfl⟩
    go_wp2_with fail
    refine (shapes_any _).mono ?_
    rintro e w2 ⟨rfl, hb⟩
    have HB : Hid (Below w1.heap.size w1 w2) := hb
    clear hb CK
    go_wp2_with fail
    refine (C1 _).mono ?_
    rintro e w3 ⟨rfl, rfl⟩
    go_wp2_with fail
    refine (C2 _).mono ?_
    rintro e w3 ⟨rfl, rfl⟩
    go_wp2_with fail
    refine (C4 _).mono ?_
    rintro e w3 ⟨rfl, rfl⟩
    go_wp2_with fail
    refine (C8 _).mono ?_
    rintro e w3 ⟨rfl, rfl⟩
    go_wp2_with fail
    refine (C16 _).mono ?_
    rintro e w3 ⟨rfl, rfl⟩
    go_wp2
    exact bodyPost_ret (v := .tuple #[.bool (hD op), .bool (hA op), .bool (hB op), .bool (hN op), .bool (hP op)]) (by simp [results, Tryz.results78, go_sem]) rfl ⟨rfl, HB.out⟩
  · rw [decide_eq_false hr] at CK
    have e1 : hD op = false := by unfold hD; exact decide_eq_false (by omega)
    have e2 : hA op = false := by unfold hA; exact decide_eq_false (by omega)
    have e3 : hB op = false := by unfold hB; exact decide_eq_false (by omega)
    have e4 : hN op = false := by unfold hN; exact decide_eq_false (by omega)
    have e5 : hP op = false := by unfold hP; exact decide_eq_false (by omega)
    rw [e1, e2, e3, e4, e5]
    clear e1 e2 e3 e4 e5
    go_enter Tryz.func78, Tryz.ntmps78
    go_wp2_with fail
    refine (CK _).mono ?_
    rintro e w1 ⟨rfl, rfl⟩
    go_wp2
    exact bodyPost_ret (v := .tuple #[.bool false, .bool false, .bool false, .bool false, .bool false]) (by simp [results, Tryz.results78, go_sem]) rfl ⟨rfl, Below.refl _ _⟩






end Go.Proofs.YthpkekpojhmaaaaGreatDoor

namespace Go.Proofs.YthpkekpojhmaaaaGreatDoor
open Go.RowKit

set_option maxRecDepth 100000 in
set_option maxHeartbeats 2000000 in
theorem refrels_any (nm : ByteArray) (dA : Int) (A1 A2 A3 A : Option Addr) (c1 nd c2 ns c3 c4 : Nat) (code : List Int) (zs : List Rel) (w : World) (hC : IntsAt w A1 .u32 code) (hR : ∀ i, i < code.length → 0 ≤ nth code i ∧ nth code i < 4294967296) (hA : RelsAt w A zs) (hz : zs.length ≤ 1048576) (_hc : code.length ≤ 1048576) :
    Calls Tryz.prog 173 #[.agg #[.string nm, .slice A1 code.length c1, .int .i64 dA, .slice A2 nd c2, .slice A3 ns c3, .slice A zs.length c4]] w fun e w' => e = .returned (.tuple #[.int .i64 (relC zs code ns).1, .int .i64 (relC zs code ns).2]) ∧ Below w.heap.size w w' := by
  go_enter Tryz.func173, Tryz.ntmps173
  go_wp2
  go_loopw [4] (fun i wr => ∃ k : Nat, i = .int .i64 k ∧ k ≤ zs.length ∧ Below (w.alloc (.cells #[.string nm, .slice A1 code.length c1, .int .i64 dA, .slice A2 nd c2, .slice A3 ns c3, .slice A zs.length c4] 75)).heap.size (w.alloc (.cells #[.string nm, .slice A1 code.length c1, .int .i64 dA, .slice A2 nd c2, .slice A3 ns c3, .slice A zs.length c4] 75)) wr ∧ Hid (∀ j, j < k → relE zs code ns j = 0)) (fun i _ => zs.length - (intOf i).toNat)
  case atStart => exact ⟨0, rfl, by omega, Below.refl _ _, fun j hj => by omega⟩
  case round =>
    obtain ⟨k, rfl, hk, hB, HT⟩ := hrel
    rename_i wr _
    have f0 : wr.cell? ⟨w.heap.size, 0, none⟩ = some (.string nm) := lkeep hB (by simp [go_sem])
    have f1 : wr.cell? ⟨w.heap.size, 1, none⟩ = some (.slice A1 code.length c1) := lkeep hB (by simp [go_sem])
    have f2 : wr.cell? ⟨w.heap.size, 2, none⟩ = some (.int .i64 dA) := lkeep hB (by simp [go_sem])
    have f3 : wr.cell? ⟨w.heap.size, 3, none⟩ = some (.slice A2 nd c2) := lkeep hB (by simp [go_sem])
    have f4 : wr.cell? ⟨w.heap.size, 4, none⟩ = some (.slice A3 ns c3) := lkeep hB (by simp [go_sem])
    have f5 : wr.cell? ⟨w.heap.size, 5, none⟩ = some (.slice A zs.length c4) := lkeep hB (by simp [go_sem])
    have HB : Hid (Below w.heap.size w wr) := lb_trans (lb_alloc (Below.refl _ _) _) hB
    have HB0 : Hid (Below (w.alloc (.cells #[.string nm, .slice A1 code.length c1, .int .i64 dA, .slice A2 nd c2, .slice A3 ns c3, .slice A zs.length c4] 75)).heap.size (w.alloc (.cells #[.string nm, .slice A1 code.length c1, .int .i64 dA, .slice A2 nd c2, .slice A3 ns c3, .slice A zs.length c4] 75)) wr) := hB
    clear hB
    by_cases hlt : k < zs.length
    · have HAr : Hid (RelsAt wr A zs) := hA.keep HB.out
      obtain ⟨a, rfl, c0, c1'⟩ := HAr.out k hlt
      have d1 : wr.cell? ⟨(a.add (k * 2)).block, (a.add (k * 2)).off + 1, none⟩ = some (.int .i64 (rSym zs k)) := c1'
      clear c1'
      have g0 : (wr.alloc (.cells #[.int .i64 (rAt zs k), .int .i64 (rSym zs k)] 83)).cell? ⟨w.heap.size, 0, none⟩ = some (.string nm) := lkeep (lb_alloc (Below.refl _ _) _) f0
      have g1 : (wr.alloc (.cells #[.int .i64 (rAt zs k), .int .i64 (rSym zs k)] 83)).cell? ⟨w.heap.size, 1, none⟩ = some (.slice A1 code.length c1) := lkeep (lb_alloc (Below.refl _ _) _) f1
      have g2 : (wr.alloc (.cells #[.int .i64 (rAt zs k), .int .i64 (rSym zs k)] 83)).cell? ⟨w.heap.size, 2, none⟩ = some (.int .i64 dA) := lkeep (lb_alloc (Below.refl _ _) _) f2
      have g3 : (wr.alloc (.cells #[.int .i64 (rAt zs k), .int .i64 (rSym zs k)] 83)).cell? ⟨w.heap.size, 3, none⟩ = some (.slice A2 nd c2) := lkeep (lb_alloc (Below.refl _ _) _) f3
      have g4 : (wr.alloc (.cells #[.int .i64 (rAt zs k), .int .i64 (rSym zs k)] 83)).cell? ⟨w.heap.size, 4, none⟩ = some (.slice A3 ns c3) := lkeep (lb_alloc (Below.refl _ _) _) f4
      have g5 : (wr.alloc (.cells #[.int .i64 (rAt zs k), .int .i64 (rSym zs k)] 83)).cell? ⟨w.heap.size, 5, none⟩ = some (.slice (some a) zs.length c4) := lkeep (lb_alloc (Below.refl _ _) _) f5
      go_upto_region 5 with fail
      go_cut [59] (fun t wx => t = .bool (relBad zs code.length ns k) ∧ ∃ n, wx = (wr.alloc (.cells #[.int .i64 (rAt zs k), .int .i64 (rSym zs k)] 83)).drewN n)
      case first =>
        by_cases h1 : rAt zs k < 0
        · have HX : Hid (relBad zs code.length ns k = true) := decide_eq_true (Or.inl h1)
          go_big_quiet (fail)
          go_wp2
          go_meet
          case rel => exact ⟨by rw [HX.out], _, rfl⟩
        by_cases h2 : (code.length : Int) ≤ rAt zs k
        · have HX : Hid (relBad zs code.length ns k = true) := decide_eq_true (Or.inr (Or.inl h2))
          go_big_quiet (fail)
          go_wp2
          go_meet
          case rel => exact ⟨by rw [HX.out], _, rfl⟩
        by_cases h3 : k = 0
        · subst h3
          by_cases h5 : rSym zs 0 < 0
          · have HX : Hid (relBad zs code.length ns 0 = true) := decide_eq_true (Or.inr (Or.inr (Or.inr (Or.inl h5))))
            go_big_quiet (fail)
            go_wp2
            go_meet
            case rel => exact ⟨by rw [HX.out], _, rfl⟩
          by_cases h6 : (ns : Int) ≤ rSym zs 0
          · have HX : Hid (relBad zs code.length ns 0 = true) := decide_eq_true (Or.inr (Or.inr (Or.inr (Or.inr h6))))
            go_big_quiet (fail)
            go_wp2
            go_meet
            case rel => exact ⟨by rw [HX.out], _, rfl⟩
          · have HX : Hid (relBad zs code.length ns 0 = false) := decide_eq_false (by omega)
            go_big_quiet (fail)
            go_wp2
            go_meet
            case rel => exact ⟨by rw [HX.out], _, rfl⟩
        obtain ⟨j, rfl⟩ : ∃ j, k = j + 1 := ⟨k - 1, by omega⟩
        clear h3
        obtain ⟨a', ea, e0, _⟩ := HAr.out j (by omega)
        obtain rfl : a = a' := Option.some.inj ea
        clear ea
        have e1 : (wr.alloc (.cells #[.int .i64 (rAt zs (j + 1)), .int .i64 (rSym zs (j + 1))] 83)).cell? (a.add (j * 2)) = some (.int .i64 (rAt zs j)) := lkeep (lb_alloc (Below.refl _ _) _) e0
        clear e0
        by_cases h4 : rAt zs (j + 1) ≤ rAt zs j
        · have HX : Hid (relBad zs code.length ns (j + 1) = true) := decide_eq_true (Or.inr (Or.inr (Or.inl ⟨by omega, by simpa using h4⟩)))
          go_big_quiet (fail)
          go_wp2
          go_meet
          case rel => exact ⟨by rw [HX.out], _, rfl⟩
        by_cases h5 : rSym zs (j + 1) < 0
        · have HX : Hid (relBad zs code.length ns (j + 1) = true) := decide_eq_true (Or.inr (Or.inr (Or.inr (Or.inl h5))))
          go_big_quiet (fail)
          go_wp2
          go_meet
          case rel => exact ⟨by rw [HX.out], _, rfl⟩
        by_cases h6 : (ns : Int) ≤ rSym zs (j + 1)
        · have HX : Hid (relBad zs code.length ns (j + 1) = true) := decide_eq_true (Or.inr (Or.inr (Or.inr (Or.inr h6))))
          go_big_quiet (fail)
          go_wp2
          go_meet
          case rel => exact ⟨by rw [HX.out], _, rfl⟩
        · have HX : Hid (relBad zs code.length ns (j + 1) = false) := decide_eq_false (by rw [Nat.add_sub_cancel]; omega)
          go_big_quiet (fail)
          go_wp2
          go_meet
          case rel => exact ⟨by rw [HX.out], _, rfl⟩
      case rest =>
        obtain ⟨rfl, nq, rfl⟩ := hcut
        cases hx : relBad zs code.length ns k with
        | true =>
          have HE : Hid (relE zs code ns k = 24) := by unfold Hid relE; rw [if_pos (of_decide_eq_true hx)]
          clear hx
          go_wp2
          go_ret2
          exact ⟨ret2I (by rw [relC, first_hit hlt HT.out (by rw [HE.out]; omega), HE.out]), below_drewN (lb_alloc HB.out _) _⟩
        | false =>
          have hX := of_decide_eq_false hx
          have h1 : 0 ≤ rAt zs k := by omega
          have h2 : rAt zs k < (code.length : Int) := by omega
          have HX : Hid (¬ _) := hX
          clear hX hx
          have hl : (rAt zs k).toNat < code.length := by omega
          obtain ⟨a1, rfl, q0⟩ := (hC.keep HB.out) (rAt zs k).toNat hl
          have q1 : (wr.alloc (.cells #[.int .i64 (rAt zs k), .int .i64 (rSym zs k)] 83)).cell? (a1.add (rAt zs k).toNat) = some (.int .u32 (nth code (rAt zs k).toNat)) := lkeep (lb_alloc (Below.refl _ _) _) q0
          clear q0
          obtain ⟨v0, v1⟩ := hR _ hl
          have CT := reftarget_any (nth code (rAt zs k).toNat) v0 v1
          have HE1 : Hid (isT (nth code (rAt zs k).toNat) = false ∨ ¬ tgV (nth code (rAt zs k).toNat) = 0 → relE zs code ns k = 24) := fun h => by unfold relE; rw [if_neg HX.out, if_pos h]
          have HE0 : Hid (¬ (isT (nth code (rAt zs k).toNat) = false ∨ ¬ tgV (nth code (rAt zs k).toNat) = 0) → relE zs code ns k = 0) := fun h => by unfold relE; rw [if_neg HX.out, if_neg h]
          generalize nth code (rAt zs k).toNat = v at q1 v0 v1 CT HE1 HE0
          go_wp2_with fail
          refine (CT _).mono ?_
          rintro e w5 ⟨rfl, hb5⟩
          clear CT q1 g0 g1 g2 g3 g4 g5 f0 f1 f2 f3 f4 f5 c0 d1
          have HB5 : Hid (Below w.heap.size w w5) := lb_trans (below_drewN (lb_alloc HB.out _) _) hb5
          have HB6 : Hid (Below (w.alloc (.cells #[.string nm, .slice (some a1) code.length c1, .int .i64 dA, .slice A2 nd c2, .slice A3 ns c3, .slice (some a) zs.length c4] 75)).heap.size (w.alloc (.cells #[.string nm, .slice (some a1) code.length c1, .int .i64 dA, .slice A2 nd c2, .slice A3 ns c3, .slice (some a) zs.length c4] 75)) w5) := lb_trans (below_drewN (lb_alloc HB0.out _) _) hb5
          clear hb5
          cases hT : isT v with
          | false =>
            have HE : Hid (relE zs code ns k = 24) := HE1.out (Or.inl hT)
            clear hT
            go_wp2
            go_ret2
            exact ⟨ret2I (by rw [relC, first_hit hlt HT.out (by rw [HE.out]; omega), HE.out]), HB5.out⟩
          | true =>
          cases hV : (tgV v == 0) with
          | false =>
            have HE : Hid (relE zs code ns k = 24) := HE1.out (Or.inr (by simpa using hV))
            have hV' : (tgV v != 0) = true := by simpa using hV
            clear hT
            go_wp2
            go_ret2
            exact ⟨ret2I (by rw [relC, first_hit hlt HT.out (by rw [HE.out]; omega), HE.out]), HB5.out⟩
          | true =>
            have HE : Hid (relE zs code ns k = 0) := HE0.out (by rw [hT]; simp; simpa using hV)
            have hV' : (tgV v != 0) = false := by simpa using hV
            clear hT
            go_wp2
            go_roundw
            case rel => exact ⟨k + 1, by go_num, by omega, HB6.out, fun j hj => by
              by_cases hjk : j = k
              · rw [hjk]; exact HE.out
              · exact HT.out j (by omega)⟩
            case measure => simp [intOf]; omega
    · have HC : Hid (relC zs code ns = (0, 0)) := first_none fun j hj => HT.out j (by omega)
      go_wp2
      go_ret2
      exact ⟨ret2I (by rw [HC.out]), HB.out⟩







end Go.Proofs.YthpkekpojhmaaaaGreatDoor

namespace Go.Proofs.YthpkekpojhmaaaaGreatDoor
open Go.RowKit

set_option maxRecDepth 100000 in
set_option maxHeartbeats 1000000 in
theorem refof_any (nm : ByteArray) (dA : Int) (A1 A2 A4 A : Option Addr) (n1 c1 n2 c2 n4 c4 cp : Nat) (zs : List Sym) (s : ByteArray) (w : World) (hA : SymsAt w A zs) (hz : zs.length ≤ 1048576) :
    Calls Tryz.prog 181 #[.agg #[.string nm, .slice A1 n1 c1, .int .i64 dA, .slice A2 n2 c2, .slice A zs.length cp, .slice A4 n4 c4], .string s] w fun e w' => e = .returned (.int .i64 (ofS zs s)) ∧ Below w.heap.size w w' := by
  have hB : SymsAt (w.alloc (.cells #[.string nm, .slice A1 n1 c1, .int .i64 dA, .slice A2 n2 c2, .slice A zs.length cp, .slice A4 n4 c4] 75)) A zs := hA.keep (lb_alloc (Below.refl _ _) _)
  clear hA
  go_enter Tryz.func181, Tryz.ntmps181
  go_wp2
  go_loop [5] (fun i => ∃ k : Nat, i = .int .i64 k ∧ k ≤ zs.length ∧ Hid (ofFrom (zs.drop k) s k = ofS zs s)) (fun i => zs.length - (intOf i).toNat)
  case atStart => exact ⟨0, rfl, by omega, rfl⟩
  case round =>
    obtain ⟨k, rfl, hk, HT⟩ := hrel
    by_cases hlt : k < zs.length
    · obtain ⟨a, rfl, c0, _⟩ := hB k hlt
      cases he : ((sName zs k).toList == s.toList)
      · have HE : Hid _ := of_miss hlt he
        go_wp2
        go_round
        case rel => exact ⟨k + 1, by go_num, by omega, by rw [Hid, ← HE.out]; exact HT.out⟩
        case measure => simp [intOf]; omega
      · have HE : Hid _ := of_hit hlt he
        go_wp2
        go_ret
        exact ⟨retI (by rw [← HT.out, HE.out]), lb_alloc (Below.refl _ _) _⟩
    · have HE : Hid _ := of_end (s := s) (by omega : zs.length ≤ k)
      go_wp2
      go_ret
      exact ⟨retI (by rw [← HT.out, HE.out]), lb_alloc (Below.refl _ _) _⟩






end Go.Proofs.YthpkekpojhmaaaaGreatDoor

namespace Go.Proofs.YthpkekpojhmaaaaGreatDoor
open Go.RowKit

theorem letter_any (b : Int) (h0 : 0 ≤ b) (h1 : b ≤ 255) (w : World) : Calls Tryz.prog 183 #[.int .u8 b] w fun e w' => e = .returned (.bool (ltrI b)) ∧ w' = w := by
  by_cases h1 : 97 ≤ b
  · by_cases h2 : b ≤ 122
    · rw [show ltrI b = true from decide_eq_true (by omega)]
      go_enter Tryz.func183, Tryz.ntmps183
      go_wp2
      go_ret
      exact ⟨by first | rfl | (simp [*]; done), rfl⟩
    · rw [show ltrI b = false from decide_eq_false (by omega)]
      have h3 : 65 ≤ b := by omega
      have h4 : ¬ b ≤ 90 := by omega
      have h5 : (b == 95) = false := by simp; omega
      go_enter Tryz.func183, Tryz.ntmps183
      go_wp2
      go_ret
      exact ⟨by first | rfl | (simp [*]; done), rfl⟩
  · by_cases h3 : 65 ≤ b
    · by_cases h4 : b ≤ 90
      · rw [show ltrI b = true from decide_eq_true (by omega)]
        go_enter Tryz.func183, Tryz.ntmps183
        go_wp2
        go_ret
        exact ⟨by first | rfl | (simp [*]; done), rfl⟩
      · by_cases h5 : b = 95
        · rw [show ltrI b = true from decide_eq_true (by omega)]
          have h6 : (b == 95) = true := by simpa using h5
          clear h5
          go_enter Tryz.func183, Tryz.ntmps183
          go_wp2
          go_ret
          exact ⟨by first | rfl | (simp [*]; done), rfl⟩
        · rw [show ltrI b = false from decide_eq_false (by omega)]
          have h6 : (b == 95) = false := by simpa using h5
          go_enter Tryz.func183, Tryz.ntmps183
          go_wp2
          go_ret
          exact ⟨by first | rfl | (simp [*]; done), rfl⟩
    · rw [show ltrI b = false from decide_eq_false (by omega)]
      have h6 : (b == 95) = false := by simp; omega
      go_enter Tryz.func183, Tryz.ntmps183
      go_wp2
      go_ret
      exact ⟨by first | rfl | (simp [*]; done), rfl⟩
theorem let_at (s : ByteArray) (k : Nat) (h : k < s.size) (x : Bool) (e : ltrI s[k].toNat = x) (w : World) : Calls Tryz.prog 183 #[.int .u8 s[k].toNat] w fun e w' => e = .returned (.bool x) ∧ w' = w := by
  have := letter_any s[k].toNat (by omega) (by have := s[k].toNat_lt; omega) w
  rw [e] at this; exact this
set_option maxRecDepth 100000 in
set_option maxHeartbeats 1000000 in
theorem refname_any (s : ByteArray) (w : World) : Calls Tryz.prog 180 #[.string s] w fun e w' => e = .returned (.bool (nameOK s)) ∧ w' = w := by
  by_cases h0 : s.size = 0
  · have HN : Hid (nameOK s = false) := name_nil s h0
    have h0' : ((s.size : Int) == 0) = true := by simpa using h0
    clear h0
    go_enter Tryz.func180, Tryz.ntmps180
    go_wp2
    go_ret
    exact ⟨retB HN.out.symm, rfl⟩
  have hp : 0 < s.size := by omega
  have h0' : ((s.size : Int) == 0) = false := by simpa using h0
  have hN := name_cons s hp
  clear h0
  by_cases h1 : 24 < s.size
  · rw [decide_eq_false (by omega)] at hN
    have HN : Hid _ := hN
    clear hN
    go_enter Tryz.func180, Tryz.ntmps180
    go_wp2
    go_ret
    exact ⟨retB HN.out.symm, rfl⟩
  rw [decide_eq_true (by omega)] at hN
  cases h2 : ltrI s[0].toNat with
  | false =>
    have C := let_at s 0 hp false h2
    rw [h2] at hN
    have HN : Hid _ := hN
    clear hN h2
    go_enter Tryz.func180, Tryz.ntmps180
    go_wp2_with fail
    refine (C _).mono ?_
    rintro e w1 ⟨rfl, rfl⟩
    go_wp2
    go_ret
    exact ⟨retB HN.out.symm, rfl⟩
  | true =>
    have C := let_at s 0 hp true h2
    rw [h2, Bool.and_self, Bool.true_and] at hN
    have HN : Hid _ := hN
    clear hN h2
    go_enter Tryz.func180, Tryz.ntmps180
    go_wp2_with fail
    refine (C _).mono ?_
    rintro e w1 ⟨rfl, rfl⟩
    clear C
    go_wp2
    go_loop [3] (fun i => ∃ k : Nat, i = .int .i64 k ∧ k ≤ s.size ∧ Hid (goodL (s.data.toList.drop k) = nameOK s)) (fun i => s.size - (intOf i).toNat)
    case atStart => exact ⟨1, rfl, by omega, HN.out.symm⟩
    case round =>
      obtain ⟨k, rfl, hk, HT⟩ := hrel
      by_cases hlt : k < s.size
      · cases h3 : ltrI s[k].toNat with
        | true =>
          have C := let_at s k hlt true h3
          have HG : Hid _ := good_on hlt (show goodI s[k].toNat = true by unfold goodI; rw [h3]; rfl)
          clear h3
          go_wp2_with fail
          refine (C _).mono ?_
          rintro e w1 ⟨rfl, rfl⟩
          go_wp2
          go_round
          case rel => exact ⟨k + 1, by go_num, by omega, by rw [Hid, ← HG.out]; exact HT.out⟩
          case measure => simp [intOf]; omega
        | false =>
          have C := let_at s k hlt false h3
          by_cases h4 : 48 ≤ (s[k].toNat : Int) ∧ (s[k].toNat : Int) ≤ 57
          · have HG : Hid _ := good_on hlt (show goodI s[k].toNat = true by unfold goodI dgtI; rw [decide_eq_true h4]; simp)
            clear h3
            obtain ⟨h5, h6⟩ := h4
            go_wp2_with fail
            refine (C _).mono ?_
            rintro e w1 ⟨rfl, rfl⟩
            go_wp2
            go_round
            case rel => exact ⟨k + 1, by go_num, by omega, by rw [Hid, ← HG.out]; exact HT.out⟩
            case measure => simp [intOf]; omega
          · cases h7 : ((s[k].toNat : Int) == 46) with
            | true =>
              have HG : Hid _ := good_on hlt (show goodI s[k].toNat = true by unfold goodI; rw [h7]; simp)
              clear h3
              have h5 : ¬ 48 ≤ (s[k].toNat : Int) := by
                have : (s[k].toNat : Int) = 46 := by simpa using h7
                omega
              clear h4
              go_wp2_with fail
              refine (C _).mono ?_
              rintro e w1 ⟨rfl, rfl⟩
              go_wp2
              go_round
              case rel => exact ⟨k + 1, by go_num, by omega, by rw [Hid, ← HG.out]; exact HT.out⟩
              case measure => simp [intOf]; omega
            | false =>
              have HG : Hid _ := good_no hlt (show goodI s[k].toNat = false by unfold goodI dgtI; rw [h3, h7, decide_eq_false h4]; rfl)
              clear h3
              by_cases h5 : 48 ≤ (s[k].toNat : Int)
              · have h6 : ¬ (s[k].toNat : Int) ≤ 57 := fun h => h4 ⟨h5, h⟩
                have h8 : decide ((s[k].toNat : Int) ≤ 57) = false := decide_eq_false h6
                clear h4
                go_wp2_with fail
                refine (C _).mono ?_
                rintro e w1 ⟨rfl, rfl⟩
                go_wp2
                go_ret
                exact ⟨retB (by rw [← HT.out, HG.out]), rfl⟩
              · clear h4
                go_wp2_with fail
                refine (C _).mono ?_
                rintro e w1 ⟨rfl, rfl⟩
                go_wp2
                go_ret
                exact ⟨retB (by rw [← HT.out, HG.out]), rfl⟩
      · have HG : Hid _ := good_end (by omega : s.size ≤ k)
        go_wp2
        go_ret
        exact ⟨retB (by rw [← HT.out, HG.out]), rfl⟩






end Go.Proofs.YthpkekpojhmaaaaGreatDoor

namespace Go.Proofs.YthpkekpojhmaaaaGreatDoor
open Go.RowKit

set_option maxRecDepth 100000 in
set_option maxHeartbeats 1000000 in
theorem refsize_any (nm : ByteArray) (dA : Int) (A1 A2 A3 A4 : Option Addr) (nc c1 nd c2 ns c3 nr c4 : Nat) (w : World) (_hd : nd ≤ 1048576) :
    Calls Tryz.prog 171 #[.agg #[.string nm, .slice A1 nc c1, .int .i64 dA, .slice A2 nd c2, .slice A3 ns c3, .slice A4 nr c4]] w fun e w' => e = .returned (.tuple #[.int .i64 (sizeC (nameOK nm) nc ns nr nd dA).1, .int .i64 (sizeC (nameOK nm) nc ns nr nd dA).2]) ∧ Below w.heap.size w w' := by
  have C := refname_any nm
  generalize nameOK nm = ok at C ⊢
  cases ok with
  | false =>
    have HE : Hid ((sizeC false nc ns nr nd dA) = (20, -1)) := by unfold Hid sizeC; rw [if_pos rfl]
    go_enter Tryz.func171, Tryz.ntmps171
    go_wp2_with fail
    refine (C _).mono ?_
    rintro e w1 ⟨rfl, rfl⟩
    go_wp2
    go_ret2
    exact ⟨ret2I HE.out.symm, lb_alloc (Below.refl _ _) _⟩
  | true =>
  by_cases h1 : 16384 < nc
  · have HE : Hid ((sizeC true nc ns nr nd dA) = (21, -1)) := by unfold Hid sizeC; rw [if_neg (by simp), if_pos h1]
    go_enter Tryz.func171, Tryz.ntmps171
    go_wp2_with fail
    refine (C _).mono ?_
    rintro e w1 ⟨rfl, rfl⟩
    go_wp2
    go_ret2
    exact ⟨ret2I HE.out.symm, lb_alloc (Below.refl _ _) _⟩
  by_cases h2 : 256 < ns
  · have HE : Hid ((sizeC true nc ns nr nd dA) = (21, -2)) := by unfold Hid sizeC; rw [if_neg (by simp), if_neg h1, if_pos h2]
    go_enter Tryz.func171, Tryz.ntmps171
    go_wp2_with fail
    refine (C _).mono ?_
    rintro e w1 ⟨rfl, rfl⟩
    go_wp2
    go_ret2
    exact ⟨ret2I HE.out.symm, lb_alloc (Below.refl _ _) _⟩
  by_cases h3 : nc < nr
  · have HE : Hid ((sizeC true nc ns nr nd dA) = (21, -3)) := by unfold Hid sizeC; rw [if_neg (by simp), if_neg h1, if_neg h2, if_pos h3]
    go_enter Tryz.func171, Tryz.ntmps171
    go_wp2_with fail
    refine (C _).mono ?_
    rintro e w1 ⟨rfl, rfl⟩
    go_wp2
    go_ret2
    exact ⟨ret2I HE.out.symm, lb_alloc (Below.refl _ _) _⟩
  by_cases h4 : dA < 0
  · have HE : Hid ((sizeC true nc ns nr nd dA) = (25, -1)) := by unfold Hid sizeC; rw [if_neg (by simp), if_neg h1, if_neg h2, if_neg h3, if_pos (Or.inl h4)]
    go_enter Tryz.func171, Tryz.ntmps171
    go_wp2_with fail
    refine (C _).mono ?_
    rintro e w1 ⟨rfl, rfl⟩
    go_wp2
    go_ret2
    exact ⟨ret2I HE.out.symm, lb_alloc (Below.refl _ _) _⟩
  by_cases h5 : 4096 < dA
  · have HE : Hid ((sizeC true nc ns nr nd dA) = (25, -1)) := by unfold Hid sizeC; rw [if_neg (by simp), if_neg h1, if_neg h2, if_neg h3, if_pos (Or.inr (Or.inl h5))]
    go_enter Tryz.func171, Tryz.ntmps171
    go_wp2_with fail
    refine (C _).mono ?_
    rintro e w1 ⟨rfl, rfl⟩
    go_wp2
    go_ret2
    exact ⟨ret2I HE.out.symm, lb_alloc (Below.refl _ _) _⟩
  by_cases h6 : 4096 - dA < (nd : Int)
  · have HE : Hid ((sizeC true nc ns nr nd dA) = (25, -1)) := by unfold Hid sizeC; rw [if_neg (by simp), if_neg h1, if_neg h2, if_neg h3, if_pos (Or.inr (Or.inr h6))]
    go_enter Tryz.func171, Tryz.ntmps171
    go_wp2_with fail
    refine (C _).mono ?_
    rintro e w1 ⟨rfl, rfl⟩
    go_wp2
    go_ret2
    exact ⟨ret2I HE.out.symm, lb_alloc (Below.refl _ _) _⟩
  · have HE : Hid ((sizeC true nc ns nr nd dA) = (0, 0)) := by unfold Hid sizeC; rw [if_neg (by simp), if_neg h1, if_neg h2, if_neg h3, if_neg (by omega)]
    go_enter Tryz.func171, Tryz.ntmps171
    go_wp2_with fail
    refine (C _).mono ?_
    rintro e w1 ⟨rfl, rfl⟩
    go_wp2
    go_ret2
    exact ⟨ret2I HE.out.symm, lb_alloc (Below.refl _ _) _⟩







end Go.Proofs.YthpkekpojhmaaaaGreatDoor
