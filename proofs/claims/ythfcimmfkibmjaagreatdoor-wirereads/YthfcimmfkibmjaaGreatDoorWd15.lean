/-
  What is asked of an object, as a list of closures; no condition. How things stand between two questions; the lists are at most 2^20 long, names at most 2^47 bytes, words of 32 bits. The calls of package object, each by what it returns; the lists are at most 2^20 long, names at most 2^47 bytes, words of 32 bits, DataAt a number of 64 bits. What an object that may be is, as plain mathematics: its parts, and that each relocation is found; no Go in sight. An object that may be, with one word more, one relocation less, one symbol twice, as plain mathematics; no Go in sight.
-/
import Derived.Test.YthfcimmfkibmjaaGreatDoorProg
import Derived.WalkKit
import Derived.WalkSpells
import Derived.WalkLawsBesides
import Derived.RowKit3
import Derived.Below
import Derived.Deep.QuietTactic
import Derived.BigQuiet
import Derived.WalkSmall
import Derived.Test.YthfcimmfkibmjaaGreatDoorWd14
import Derived.Great.BuildSlice
import Derived.Test.YthfcimmfkibmjaaGreatDoorWd09
import Derived.Test.YthfcimmfkibmjaaGreatDoorWd02
namespace Go.Proofs.YthfcimmfkibmjaaGreatDoor
open Go.RowKit

set_option maxRecDepth 100000 in
set_option maxHeartbeats 1000000 in
theorem questions_raw (nm : ByteArray) (dA : Int) (A1 A2 A3 A4 : Option Addr) (nc c1 nd c2 ns c3 nr c4 : Nat) (cs : Array Value) (hz : ∀ w : World, (zeroValue 194).run Tryz.prog w = .ok (.agg cs) w) (w : World) :
    Calls Tryz.prog 72 #[.agg #[.string nm, .slice A1 nc c1, .int .i64 dA, .slice A2 nd c2, .slice A3 ns c3, .slice A4 nr c4]] w fun e w' => e = .returned (.slice (some ⟨w.heap.size + 2, 0, none⟩) 8 8) ∧ w' = ((w.alloc (.cells #[.string nm, .slice A1 nc c1, .int .i64 dA, .slice A2 nd c2, .slice A3 ns c3, .slice A4 nr c4] 27)).alloc (.cells cs 194)).alloc (.cells #[.func (.func 115) #[] #[.pointer (some ⟨w.heap.size, 0, none⟩)], .func (.func 118) #[] #[.pointer (some ⟨w.heap.size, 0, none⟩)], .func (.func 119) #[] #[.pointer (some ⟨w.heap.size, 0, none⟩)], .func (.func 120) #[] #[.pointer (some ⟨w.heap.size, 0, none⟩)], .func (.func 121) #[] #[.pointer (some ⟨w.heap.size, 0, none⟩)], .func (.func 123) #[] #[.pointer (some ⟨w.heap.size, 0, none⟩)], .func (.func 125) #[] #[.pointer (some ⟨w.heap.size, 0, none⟩), .pointer (some ⟨w.heap.size + 1, 0, none⟩)], .func (.func 127) #[] #[.pointer (some ⟨w.heap.size, 0, none⟩), .pointer (some ⟨w.heap.size + 1, 0, none⟩)]] 116) := by
  have hmf := mkFn
  go_enter Tryz.func72, Tryz.ntmps72
  go_wp2
  go_ret
  exact ⟨rfl, rfl⟩


end Go.Proofs.YthfcimmfkibmjaaGreatDoor

namespace Go.Proofs.YthfcimmfkibmjaaGreatDoor
open Go.RowKit

/-- How things stand between two questions: the object and the questions lie where they lay; the marks are safe. -/
def Mid (nm : ByteArray) (dA : Int) (A1 A2 A3 A4 : Option Addr) (c1 nd c2 c3 c4 : Nat) (code : List Int) (ss : List Sym) (rs : List Rel) (w0 w : World) : Prop :=
  Below w0.heap.size w0 w ∧ w.cell? ⟨w0.heap.size + 1, 0, none⟩ = some (.string nm) ∧ w.cell? ⟨w0.heap.size + 1, 1, none⟩ = some (.slice A1 code.length c1) ∧ w.cell? ⟨w0.heap.size + 1, 2, none⟩ = some (.int .i64 dA) ∧ w.cell? ⟨w0.heap.size + 1, 3, none⟩ = some (.slice A2 nd c2) ∧ w.cell? ⟨w0.heap.size + 1, 4, none⟩ = some (.slice A3 ss.length c3) ∧ w.cell? ⟨w0.heap.size + 1, 5, none⟩ = some (.slice A4 rs.length c4) ∧ w.cell? ⟨w0.heap.size + 1 + 1 + 1, 0, none⟩ = some (.func (.func 115) #[] #[.pointer (some ⟨w0.heap.size + 1, 0, none⟩)]) ∧ w.cell? ⟨w0.heap.size + 1 + 1 + 1, 1, none⟩ = some (.func (.func 118) #[] #[.pointer (some ⟨w0.heap.size + 1, 0, none⟩)]) ∧ w.cell? ⟨w0.heap.size + 1 + 1 + 1, 2, none⟩ = some (.func (.func 119) #[] #[.pointer (some ⟨w0.heap.size + 1, 0, none⟩)]) ∧ w.cell? ⟨w0.heap.size + 1 + 1 + 1, 3, none⟩ = some (.func (.func 120) #[] #[.pointer (some ⟨w0.heap.size + 1, 0, none⟩)]) ∧ w.cell? ⟨w0.heap.size + 1 + 1 + 1, 4, none⟩ = some (.func (.func 121) #[] #[.pointer (some ⟨w0.heap.size + 1, 0, none⟩)]) ∧ w.cell? ⟨w0.heap.size + 1 + 1 + 1, 5, none⟩ = some (.func (.func 123) #[] #[.pointer (some ⟨w0.heap.size + 1, 0, none⟩)]) ∧ w.cell? ⟨w0.heap.size + 1 + 1 + 1, 6, none⟩ = some (.func (.func 125) #[] #[.pointer (some ⟨w0.heap.size + 1, 0, none⟩), .pointer (some ⟨w0.heap.size + 1 + 1, 0, none⟩)]) ∧ w.cell? ⟨w0.heap.size + 1 + 1 + 1, 7, none⟩ = some (.func (.func 127) #[] #[.pointer (some ⟨w0.heap.size + 1, 0, none⟩), .pointer (some ⟨w0.heap.size + 1 + 1, 0, none⟩)]) ∧ ∃ m, MarksAt w (w0.heap.size + 1 + 1) m ∧ Safe code m
theorem mid_but {nm : ByteArray} {dA : Int} {A1 A2 A3 A4 : Option Addr} {c1 nd c2 c3 c4 : Nat} {code : List Int} {ss : List Sym} {rs : List Rel} {w0 w w' : World} (h : Mid nm dA A1 A2 A3 A4 c1 nd c2 c3 c4 code ss rs w0 w) (hb' : But (w0.heap.size + 1 + 1) w w') {m' : Nat → Bool} (hm' : MarksAt w' (w0.heap.size + 1 + 1) m') (hs' : Safe code m') : Mid nm dA A1 A2 A3 A4 c1 nd c2 c3 c4 code ss rs w0 w' := by
  obtain ⟨hb, o0, o1, o2, o3, o4, o5, f0, f1, f2, f3, f4, f5, f6, f7, m, hm, hs⟩ := h
  exact ⟨hb'.below hb (by omega), hb'.cell (by simp) o0, hb'.cell (by simp) o1, hb'.cell (by simp) o2, hb'.cell (by simp) o3, hb'.cell (by simp) o4, hb'.cell (by simp) o5, hb'.cell (by simp) f0, hb'.cell (by simp) f1, hb'.cell (by simp) f2, hb'.cell (by simp) f3, hb'.cell (by simp) f4, hb'.cell (by simp) f5, hb'.cell (by simp) f6, hb'.cell (by simp) f7, m', hm', hs'⟩
theorem mid_on {nm : ByteArray} {dA : Int} {A1 A2 A3 A4 : Option Addr} {c1 nd c2 c3 c4 : Nat} {code : List Int} {ss : List Sym} {rs : List Rel} {w0 w w' : World} (h : Mid nm dA A1 A2 A3 A4 c1 nd c2 c3 c4 code ss rs w0 w) (hb' : Below w.heap.size w w') : Mid nm dA A1 A2 A3 A4 c1 nd c2 c3 c4 code ss rs w0 w' := by
  have h' := h
  obtain ⟨hb, o0, o1, o2, o3, o4, o5, f0, f1, f2, f3, f4, f5, f6, f7, m, hm, hs⟩ := h'
  exact mid_but h (But.of hb') (hm.keep hb') hs
theorem m0_any (nm : ByteArray) (dA : Int) (A1 A2 A3 A4 : Option Addr) (c1 nd c2 c3 c4 : Nat) (code : List Int) (ss : List Sym) (rs : List Rel) (w0 w : World) (_hC : IntsAt w0 A1 .u32 code) (_hS : SymsAt w0 A3 ss) (_hL : RelsAt w0 A4 rs) (_hR : ∀ i, i < code.length → 0 ≤ nth code i ∧ nth code i < 4294967296) (_hc : code.length ≤ 1048576) (_hd : nd ≤ 1048576) (_hs : ss.length ≤ 1048576) (_hl : rs.length ≤ 1048576) (_hN : ∀ i, (sName ss i).size ≤ 140737488355328) (_hA : -9223372036854775808 ≤ dA ∧ dA ≤ 9223372036854775807) (h : Mid nm dA A1 A2 A3 A4 c1 nd c2 c3 c4 code ss rs w0 w) : Calls Tryz.prog 115 #[.pointer (some ⟨w0.heap.size + 1, 0, none⟩)] w fun r w' => r = .returned (.tuple #[.int .i64 (ansQ nm code dA nd ss rs 0).1, .int .i64 (ansQ nm code dA nd ss rs 0).2]) ∧ Mid nm dA A1 A2 A3 A4 c1 nd c2 c3 c4 code ss rs w0 w' := by
  have h' := h
  obtain ⟨hb, o0, o1, o2, o3, o4, o5, f0, f1, f2, f3, f4, f5, f6, f7, m, hm, hsm⟩ := h'
  refine (q1_any nm dA A1 A2 A3 A4 code.length c1 nd c2 ss.length c3 rs.length c4 _ w o0 o1 o2 o3 o4 o5).mono ?_
  rintro r w1 ⟨rfl, hb1⟩
  exact ⟨rfl, mid_on h hb1⟩
theorem m1_any (nm : ByteArray) (dA : Int) (A1 A2 A3 A4 : Option Addr) (c1 nd c2 c3 c4 : Nat) (code : List Int) (ss : List Sym) (rs : List Rel) (w0 w : World) (_hC : IntsAt w0 A1 .u32 code) (_hS : SymsAt w0 A3 ss) (_hL : RelsAt w0 A4 rs) (_hR : ∀ i, i < code.length → 0 ≤ nth code i ∧ nth code i < 4294967296) (hc : code.length ≤ 1048576) (_hd : nd ≤ 1048576) (_hs : ss.length ≤ 1048576) (_hl : rs.length ≤ 1048576) (_hN : ∀ i, (sName ss i).size ≤ 140737488355328) (_hA : -9223372036854775808 ≤ dA ∧ dA ≤ 9223372036854775807) (h : Mid nm dA A1 A2 A3 A4 c1 nd c2 c3 c4 code ss rs w0 w) : Calls Tryz.prog 118 #[.pointer (some ⟨w0.heap.size + 1, 0, none⟩)] w fun r w' => r = .returned (.tuple #[.int .i64 (ansQ nm code dA nd ss rs 1).1, .int .i64 (ansQ nm code dA nd ss rs 1).2]) ∧ Mid nm dA A1 A2 A3 A4 c1 nd c2 c3 c4 code ss rs w0 w' := by
  have h' := h
  obtain ⟨hb, o0, o1, o2, o3, o4, o5, f0, f1, f2, f3, f4, f5, f6, f7, m, hm, hsm⟩ := h'
  refine (q2_any nm dA A1 A2 A3 A4 code.length c1 nd c2 ss.length c3 rs.length c4 _ w o0 o1 o2 o3 o4 o5 hc).mono ?_
  rintro r w1 ⟨rfl, hb1⟩
  exact ⟨rfl, mid_on h hb1⟩
theorem m2_any (nm : ByteArray) (dA : Int) (A1 A2 A3 A4 : Option Addr) (c1 nd c2 c3 c4 : Nat) (code : List Int) (ss : List Sym) (rs : List Rel) (w0 w : World) (_hC : IntsAt w0 A1 .u32 code) (_hS : SymsAt w0 A3 ss) (_hL : RelsAt w0 A4 rs) (_hR : ∀ i, i < code.length → 0 ≤ nth code i ∧ nth code i < 4294967296) (_hc : code.length ≤ 1048576) (_hd : nd ≤ 1048576) (hs : ss.length ≤ 1048576) (_hl : rs.length ≤ 1048576) (_hN : ∀ i, (sName ss i).size ≤ 140737488355328) (_hA : -9223372036854775808 ≤ dA ∧ dA ≤ 9223372036854775807) (h : Mid nm dA A1 A2 A3 A4 c1 nd c2 c3 c4 code ss rs w0 w) : Calls Tryz.prog 119 #[.pointer (some ⟨w0.heap.size + 1, 0, none⟩)] w fun r w' => r = .returned (.tuple #[.int .i64 (ansQ nm code dA nd ss rs 2).1, .int .i64 (ansQ nm code dA nd ss rs 2).2]) ∧ Mid nm dA A1 A2 A3 A4 c1 nd c2 c3 c4 code ss rs w0 w' := by
  have h' := h
  obtain ⟨hb, o0, o1, o2, o3, o4, o5, f0, f1, f2, f3, f4, f5, f6, f7, m, hm, hsm⟩ := h'
  refine (q3_any nm dA A1 A2 A3 A4 code.length c1 nd c2 ss.length c3 rs.length c4 _ w o0 o1 o2 o3 o4 o5 hs).mono ?_
  rintro r w1 ⟨rfl, hb1⟩
  exact ⟨rfl, mid_on h hb1⟩
theorem m3_any (nm : ByteArray) (dA : Int) (A1 A2 A3 A4 : Option Addr) (c1 nd c2 c3 c4 : Nat) (code : List Int) (ss : List Sym) (rs : List Rel) (w0 w : World) (_hC : IntsAt w0 A1 .u32 code) (_hS : SymsAt w0 A3 ss) (_hL : RelsAt w0 A4 rs) (_hR : ∀ i, i < code.length → 0 ≤ nth code i ∧ nth code i < 4294967296) (hc : code.length ≤ 1048576) (_hd : nd ≤ 1048576) (_hs : ss.length ≤ 1048576) (hl : rs.length ≤ 1048576) (_hN : ∀ i, (sName ss i).size ≤ 140737488355328) (_hA : -9223372036854775808 ≤ dA ∧ dA ≤ 9223372036854775807) (h : Mid nm dA A1 A2 A3 A4 c1 nd c2 c3 c4 code ss rs w0 w) : Calls Tryz.prog 120 #[.pointer (some ⟨w0.heap.size + 1, 0, none⟩)] w fun r w' => r = .returned (.tuple #[.int .i64 (ansQ nm code dA nd ss rs 3).1, .int .i64 (ansQ nm code dA nd ss rs 3).2]) ∧ Mid nm dA A1 A2 A3 A4 c1 nd c2 c3 c4 code ss rs w0 w' := by
  have h' := h
  obtain ⟨hb, o0, o1, o2, o3, o4, o5, f0, f1, f2, f3, f4, f5, f6, f7, m, hm, hsm⟩ := h'
  refine (q4_any nm dA A1 A2 A3 A4 code.length c1 nd c2 ss.length c3 rs.length c4 _ w o0 o1 o2 o3 o4 o5 hc hl).mono ?_
  rintro r w1 ⟨rfl, hb1⟩
  exact ⟨rfl, mid_on h hb1⟩
theorem m4_any (nm : ByteArray) (dA : Int) (A1 A2 A3 A4 : Option Addr) (c1 nd c2 c3 c4 : Nat) (code : List Int) (ss : List Sym) (rs : List Rel) (w0 w : World) (_hC : IntsAt w0 A1 .u32 code) (_hS : SymsAt w0 A3 ss) (_hL : RelsAt w0 A4 rs) (_hR : ∀ i, i < code.length → 0 ≤ nth code i ∧ nth code i < 4294967296) (_hc : code.length ≤ 1048576) (hd : nd ≤ 1048576) (_hs : ss.length ≤ 1048576) (_hl : rs.length ≤ 1048576) (_hN : ∀ i, (sName ss i).size ≤ 140737488355328) (hA : -9223372036854775808 ≤ dA ∧ dA ≤ 9223372036854775807) (h : Mid nm dA A1 A2 A3 A4 c1 nd c2 c3 c4 code ss rs w0 w) : Calls Tryz.prog 121 #[.pointer (some ⟨w0.heap.size + 1, 0, none⟩)] w fun r w' => r = .returned (.tuple #[.int .i64 (ansQ nm code dA nd ss rs 4).1, .int .i64 (ansQ nm code dA nd ss rs 4).2]) ∧ Mid nm dA A1 A2 A3 A4 c1 nd c2 c3 c4 code ss rs w0 w' := by
  have h' := h
  obtain ⟨hb, o0, o1, o2, o3, o4, o5, f0, f1, f2, f3, f4, f5, f6, f7, m, hm, hsm⟩ := h'
  refine (q5_any nm dA A1 A2 A3 A4 code.length c1 nd c2 ss.length c3 rs.length c4 _ w o0 o1 o2 o3 o4 o5 hd hA.1 hA.2).mono ?_
  rintro r w1 ⟨rfl, hb1⟩
  exact ⟨rfl, mid_on h hb1⟩
theorem m5_any (nm : ByteArray) (dA : Int) (A1 A2 A3 A4 : Option Addr) (c1 nd c2 c3 c4 : Nat) (code : List Int) (ss : List Sym) (rs : List Rel) (w0 w : World) (_hC : IntsAt w0 A1 .u32 code) (hS : SymsAt w0 A3 ss) (_hL : RelsAt w0 A4 rs) (_hR : ∀ i, i < code.length → 0 ≤ nth code i ∧ nth code i < 4294967296) (_hc : code.length ≤ 1048576) (_hd : nd ≤ 1048576) (hs : ss.length ≤ 1048576) (_hl : rs.length ≤ 1048576) (hN : ∀ i, (sName ss i).size ≤ 140737488355328) (_hA : -9223372036854775808 ≤ dA ∧ dA ≤ 9223372036854775807) (h : Mid nm dA A1 A2 A3 A4 c1 nd c2 c3 c4 code ss rs w0 w) : Calls Tryz.prog 123 #[.pointer (some ⟨w0.heap.size + 1, 0, none⟩)] w fun r w' => r = .returned (.tuple #[.int .i64 (ansQ nm code dA nd ss rs 5).1, .int .i64 (ansQ nm code dA nd ss rs 5).2]) ∧ Mid nm dA A1 A2 A3 A4 c1 nd c2 c3 c4 code ss rs w0 w' := by
  have h' := h
  obtain ⟨hb, o0, o1, o2, o3, o4, o5, f0, f1, f2, f3, f4, f5, f6, f7, m, hm, hsm⟩ := h'
  refine (q6_any nm dA A1 A2 A3 A4 code.length c1 nd c2 c3 rs.length c4 ss _ w o0 o1 o2 o3 o4 o5 (hS.keep hb) hs hN).mono ?_
  rintro r w1 ⟨rfl, hb1⟩
  exact ⟨rfl, mid_on h hb1⟩
theorem m6_any (nm : ByteArray) (dA : Int) (A1 A2 A3 A4 : Option Addr) (c1 nd c2 c3 c4 : Nat) (code : List Int) (ss : List Sym) (rs : List Rel) (w0 w : World) (hC : IntsAt w0 A1 .u32 code) (_hS : SymsAt w0 A3 ss) (hL : RelsAt w0 A4 rs) (hR : ∀ i, i < code.length → 0 ≤ nth code i ∧ nth code i < 4294967296) (_hc : code.length ≤ 1048576) (_hd : nd ≤ 1048576) (_hs : ss.length ≤ 1048576) (hl : rs.length ≤ 1048576) (_hN : ∀ i, (sName ss i).size ≤ 140737488355328) (_hA : -9223372036854775808 ≤ dA ∧ dA ≤ 9223372036854775807) (hcc : code.length ≤ 16384) (h : Mid nm dA A1 A2 A3 A4 c1 nd c2 c3 c4 code ss rs w0 w) : Calls Tryz.prog 125 #[.pointer (some ⟨w0.heap.size + 1, 0, none⟩), .pointer (some ⟨w0.heap.size + 1 + 1, 0, none⟩)] w fun r w' => r = .returned (.tuple #[.int .i64 (ansQ nm code dA nd ss rs 6).1, .int .i64 (ansQ nm code dA nd ss rs 6).2]) ∧ Mid nm dA A1 A2 A3 A4 c1 nd c2 c3 c4 code ss rs w0 w' := by
  have h' := h
  obtain ⟨hb, o0, o1, o2, o3, o4, o5, f0, f1, f2, f3, f4, f5, f6, f7, m, hm, hsm⟩ := h'
  refine (q7_any nm dA A1 A2 A3 A4 c1 nd c2 ss.length c3 c4 code rs _ m _ w0 w o0 o1 o2 o3 o4 o5 hC hR hL hb (by omega) hl hcc hm hsm).mono ?_
  rintro r w1 ⟨rfl, hb1, m1, hm1, hs1⟩
  exact ⟨rfl, mid_but h hb1 hm1 hs1⟩
theorem m7_any (nm : ByteArray) (dA : Int) (A1 A2 A3 A4 : Option Addr) (c1 nd c2 c3 c4 : Nat) (code : List Int) (ss : List Sym) (rs : List Rel) (w0 w : World) (hC : IntsAt w0 A1 .u32 code) (_hS : SymsAt w0 A3 ss) (_hL : RelsAt w0 A4 rs) (hR : ∀ i, i < code.length → 0 ≤ nth code i ∧ nth code i < 4294967296) (_hc : code.length ≤ 1048576) (_hd : nd ≤ 1048576) (_hs : ss.length ≤ 1048576) (_hl : rs.length ≤ 1048576) (_hN : ∀ i, (sName ss i).size ≤ 140737488355328) (_hA : -9223372036854775808 ≤ dA ∧ dA ≤ 9223372036854775807) (hcc : code.length ≤ 16384) (h : Mid nm dA A1 A2 A3 A4 c1 nd c2 c3 c4 code ss rs w0 w) : Calls Tryz.prog 127 #[.pointer (some ⟨w0.heap.size + 1, 0, none⟩), .pointer (some ⟨w0.heap.size + 1 + 1, 0, none⟩)] w fun r w' => r = .returned (.tuple #[.int .i64 (ansQ nm code dA nd ss rs 7).1, .int .i64 (ansQ nm code dA nd ss rs 7).2]) ∧ Mid nm dA A1 A2 A3 A4 c1 nd c2 c3 c4 code ss rs w0 w' := by
  have h' := h
  obtain ⟨hb, o0, o1, o2, o3, o4, o5, f0, f1, f2, f3, f4, f5, f6, f7, m, hm, hsm⟩ := h'
  refine (q8_any nm dA A1 A2 A3 A4 c1 nd c2 ss.length c3 rs.length c4 code _ m _ w o0 o1 o2 o3 o4 o5 (hC.keep hb) hR hcc hm hsm).mono ?_
  rintro r w1 ⟨rfl, hb1⟩
  exact ⟨rfl, mid_on h hb1⟩


end Go.Proofs.YthfcimmfkibmjaaGreatDoor

namespace Go.Proofs.YthfcimmfkibmjaaGreatDoor
open Go.RowKit

set_option maxRecDepth 100000 in
theorem mid_start (nm : ByteArray) (dA : Int) (A1 A2 A3 A4 : Option Addr) (c1 nd c2 c3 c4 : Nat) (code : List Int) (ss : List Sym) (rs : List Rel) (cs : Array Value) (hz1 : ∀ i, i < 16384 → cs[i]? = some (.bool false)) (w : World) : Mid nm dA A1 A2 A3 A4 c1 nd c2 c3 c4 code ss rs w ((((w.alloc (.cells #[.string nm, .slice A1 code.length c1, .int .i64 dA, .slice A2 nd c2, .slice A3 ss.length c3, .slice A4 rs.length c4] 27)).alloc (.cells #[.string nm, .slice A1 code.length c1, .int .i64 dA, .slice A2 nd c2, .slice A3 ss.length c3, .slice A4 rs.length c4] 27)).alloc (.cells cs 194)).alloc (.cells #[.func (.func 115) #[] #[.pointer (some ⟨w.heap.size + 1, 0, none⟩)], .func (.func 118) #[] #[.pointer (some ⟨w.heap.size + 1, 0, none⟩)], .func (.func 119) #[] #[.pointer (some ⟨w.heap.size + 1, 0, none⟩)], .func (.func 120) #[] #[.pointer (some ⟨w.heap.size + 1, 0, none⟩)], .func (.func 121) #[] #[.pointer (some ⟨w.heap.size + 1, 0, none⟩)], .func (.func 123) #[] #[.pointer (some ⟨w.heap.size + 1, 0, none⟩)], .func (.func 125) #[] #[.pointer (some ⟨w.heap.size + 1, 0, none⟩), .pointer (some ⟨w.heap.size + 1 + 1, 0, none⟩)], .func (.func 127) #[] #[.pointer (some ⟨w.heap.size + 1, 0, none⟩), .pointer (some ⟨w.heap.size + 1 + 1, 0, none⟩)]] 116)) := by
  refine ⟨?_, ?_, ?_, ?_, ?_, ?_, ?_, ?_, ?_, ?_, ?_, ?_, ?_, ?_, ?_, fun _ => false, ⟨?_, ?_⟩, ?_⟩
  · exact lb_alloc (lb_alloc (lb_alloc (lb_alloc (Below.refl _ _) _) _) _) _
  all_goals first
    | (simp [go_sem]; done)
    | (intro i hi; simp [go_sem, hz1 i hi]; done)
    | (intro i; simp [go_sem]; done)
    | (intro i hi; cases hi)
set_option maxRecDepth 100000 in
set_option maxHeartbeats 4000000 in
theorem objcheck_any (nm : ByteArray) (dA : Int) (A1 A2 A3 A4 : Option Addr) (c1 nd c2 c3 c4 : Nat) (code : List Int) (ss : List Sym) (rs : List Rel) (w : World) (hC : IntsAt w A1 .u32 code) (hS : SymsAt w A3 ss) (hL : RelsAt w A4 rs) (hR : ∀ i, i < code.length → 0 ≤ nth code i ∧ nth code i < 4294967296) (hc : code.length ≤ 1048576) (hd : nd ≤ 1048576) (hs : ss.length ≤ 1048576) (hl : rs.length ≤ 1048576) (hN : ∀ i, (sName ss i).size ≤ 140737488355328) (hA : -9223372036854775808 ≤ dA ∧ dA ≤ 9223372036854775807) : Calls Tryz.prog 22 #[.agg #[.string nm, .slice A1 code.length c1, .int .i64 dA, .slice A2 nd c2, .slice A3 ss.length c3, .slice A4 rs.length c4]] w fun e w' => e = .returned (.tuple #[.int .i64 (checkC nm code dA nd ss rs).1, .int .i64 (checkC nm code dA nd ss rs).2]) ∧ Below w.heap.size w w' := by
  obtain ⟨cs, _, hz1, hz⟩ := zero73
  have HM0 : Hid (Mid nm dA A1 A2 A3 A4 c1 nd c2 c3 c4 code ss rs w ((((w.alloc (.cells #[.string nm, .slice A1 code.length c1, .int .i64 dA, .slice A2 nd c2, .slice A3 ss.length c3, .slice A4 rs.length c4] 27)).alloc (.cells #[.string nm, .slice A1 code.length c1, .int .i64 dA, .slice A2 nd c2, .slice A3 ss.length c3, .slice A4 rs.length c4] 27)).alloc (.cells cs 194)).alloc (.cells #[.func (.func 115) #[] #[.pointer (some ⟨w.heap.size + 1, 0, none⟩)], .func (.func 118) #[] #[.pointer (some ⟨w.heap.size + 1, 0, none⟩)], .func (.func 119) #[] #[.pointer (some ⟨w.heap.size + 1, 0, none⟩)], .func (.func 120) #[] #[.pointer (some ⟨w.heap.size + 1, 0, none⟩)], .func (.func 121) #[] #[.pointer (some ⟨w.heap.size + 1, 0, none⟩)], .func (.func 123) #[] #[.pointer (some ⟨w.heap.size + 1, 0, none⟩)], .func (.func 125) #[] #[.pointer (some ⟨w.heap.size + 1, 0, none⟩), .pointer (some ⟨w.heap.size + 1 + 1, 0, none⟩)], .func (.func 127) #[] #[.pointer (some ⟨w.heap.size + 1, 0, none⟩), .pointer (some ⟨w.heap.size + 1 + 1, 0, none⟩)]] 116))) := mid_start nm dA A1 A2 A3 A4 c1 nd c2 c3 c4 code ss rs cs hz1 w
  go_enter Tryz.func22, Tryz.ntmps22
  go_wp2_with fail
  refine (questions_raw nm dA A1 A2 A3 A4 code.length c1 nd c2 ss.length c3 rs.length c4 cs hz _).mono ?_
  rintro e w1 ⟨rfl, hw1⟩
  have HM : Hid (Mid nm dA A1 A2 A3 A4 c1 nd c2 c3 c4 code ss rs w w1) := by
    have e1 : (w.alloc (.cells #[.string nm, .slice A1 code.length c1, .int .i64 dA, .slice A2 nd c2, .slice A3 ss.length c3, .slice A4 rs.length c4] 27)).heap.size = w.heap.size + 1 := by simp
    rw [hw1, e1]
    exact HM0.out
  clear hw1 HM0 hz hz1
  go_wp2
  go_loopw [11] (fun i wr => ∃ k : Nat, i = .int .i64 k ∧ k ≤ 8 ∧ Hid (Mid nm dA A1 A2 A3 A4 c1 nd c2 c3 c4 code ss rs w wr) ∧ Hid (∀ j, j < k → (ansQ nm code dA nd ss rs j).1 = 0)) (fun i _ => 8 - (intOf i).toNat)
  case atStart => exact ⟨0, rfl, by omega, HM, fun j hj => by omega⟩
  case round =>
    obtain ⟨k, rfl, hk, HW, HT⟩ := hrel
    rename_i wr _
    have HH : Hid (k < 8 → ¬ (ansQ nm code dA nd ss rs k).1 = 0 → checkC nm code dA nd ss rs = ansQ nm code dA nd ss rs k) := fun h e => ans_hit k h HT.out e
    have HX : Hid ((ansQ nm code dA nd ss rs k).1 = 0 → ∀ j, j < k + 1 → (ansQ nm code dA nd ss rs j).1 = 0) := fun h j hj => by
      by_cases hjk : j = k
      · rw [hjk]; exact h
      · exact HT.out j (by omega)
    by_cases hk8 : k < 8
    · have hh := HW.out
      obtain ⟨_, _, _, _, _, _, _, f0, f1, f2, f3, f4, f5, f6, f7, _⟩ := hh
      rcases (show k = 0 ∨ k = 1 ∨ k = 2 ∨ k = 3 ∨ k = 4 ∨ k = 5 ∨ k = 6 ∨ k = 7 by omega) with rfl | rfl | rfl | rfl | rfl | rfl | rfl | rfl
      · clear f1 f2 f3 f4 f5 f6 f7
        have C := m0_any nm dA A1 A2 A3 A4 c1 nd c2 c3 c4 code ss rs w wr hC hS hL hR hc hd hs hl hN hA HW.out
        cases hz0 : ((ansQ nm code dA nd ss rs 0).1 == 0) with
        | true =>
          have hz1 : (ansQ nm code dA nd ss rs 0).1 = 0 := by simpa using hz0
          have HX1 : Hid _ := HX.out hz1
          rw [hz1] at C
          clear hz0 hz1 HH HX HT
          go_wp2_with (go_at_call 115; refine C.mono ?_; rintro e w2 ⟨rfl, hm2⟩)
          rename_i hm2
          go_roundw
          case rel => exact ⟨0 + 1, by go_num, by omega, hm2, HX1.out⟩
          case measure => simp [intOf]
        | false =>
          have HX1 : Hid _ := HH.out hk8 (by simpa using hz0)
          have hz1 : ((ansQ nm code dA nd ss rs 0).1 != 0) = true := by simpa using hz0
          clear HH HX HT
          generalize ansQ nm code dA nd ss rs 0 = Y at C hz0 hz1 HX1
          go_wp2_with (go_at_call 115; refine C.mono ?_; rintro e w2 ⟨rfl, hm2⟩)
          rename_i hm2
          go_ret2
          exact ⟨ret2I (by rw [HX1.out]), hm2.1⟩
      · clear f0 f2 f3 f4 f5 f6 f7
        have C := m1_any nm dA A1 A2 A3 A4 c1 nd c2 c3 c4 code ss rs w wr hC hS hL hR hc hd hs hl hN hA HW.out
        cases hz0 : ((ansQ nm code dA nd ss rs 1).1 == 0) with
        | true =>
          have hz1 : (ansQ nm code dA nd ss rs 1).1 = 0 := by simpa using hz0
          have HX1 : Hid _ := HX.out hz1
          rw [hz1] at C
          clear hz0 hz1 HH HX HT
          go_wp2_with (go_at_call 118; refine C.mono ?_; rintro e w2 ⟨rfl, hm2⟩)
          rename_i hm2
          go_roundw
          case rel => exact ⟨1 + 1, by go_num, by omega, hm2, HX1.out⟩
          case measure => simp [intOf]
        | false =>
          have HX1 : Hid _ := HH.out hk8 (by simpa using hz0)
          have hz1 : ((ansQ nm code dA nd ss rs 1).1 != 0) = true := by simpa using hz0
          clear HH HX HT
          generalize ansQ nm code dA nd ss rs 1 = Y at C hz0 hz1 HX1
          go_wp2_with (go_at_call 118; refine C.mono ?_; rintro e w2 ⟨rfl, hm2⟩)
          rename_i hm2
          go_ret2
          exact ⟨ret2I (by rw [HX1.out]), hm2.1⟩
      · clear f0 f1 f3 f4 f5 f6 f7
        have C := m2_any nm dA A1 A2 A3 A4 c1 nd c2 c3 c4 code ss rs w wr hC hS hL hR hc hd hs hl hN hA HW.out
        cases hz0 : ((ansQ nm code dA nd ss rs 2).1 == 0) with
        | true =>
          have hz1 : (ansQ nm code dA nd ss rs 2).1 = 0 := by simpa using hz0
          have HX1 : Hid _ := HX.out hz1
          rw [hz1] at C
          clear hz0 hz1 HH HX HT
          go_wp2_with (go_at_call 119; refine C.mono ?_; rintro e w2 ⟨rfl, hm2⟩)
          rename_i hm2
          go_roundw
          case rel => exact ⟨2 + 1, by go_num, by omega, hm2, HX1.out⟩
          case measure => simp [intOf]
        | false =>
          have HX1 : Hid _ := HH.out hk8 (by simpa using hz0)
          have hz1 : ((ansQ nm code dA nd ss rs 2).1 != 0) = true := by simpa using hz0
          clear HH HX HT
          generalize ansQ nm code dA nd ss rs 2 = Y at C hz0 hz1 HX1
          go_wp2_with (go_at_call 119; refine C.mono ?_; rintro e w2 ⟨rfl, hm2⟩)
          rename_i hm2
          go_ret2
          exact ⟨ret2I (by rw [HX1.out]), hm2.1⟩
      · clear f0 f1 f2 f4 f5 f6 f7
        have C := m3_any nm dA A1 A2 A3 A4 c1 nd c2 c3 c4 code ss rs w wr hC hS hL hR hc hd hs hl hN hA HW.out
        cases hz0 : ((ansQ nm code dA nd ss rs 3).1 == 0) with
        | true =>
          have hz1 : (ansQ nm code dA nd ss rs 3).1 = 0 := by simpa using hz0
          have HX1 : Hid _ := HX.out hz1
          rw [hz1] at C
          clear hz0 hz1 HH HX HT
          go_wp2_with (go_at_call 120; refine C.mono ?_; rintro e w2 ⟨rfl, hm2⟩)
          rename_i hm2
          go_roundw
          case rel => exact ⟨3 + 1, by go_num, by omega, hm2, HX1.out⟩
          case measure => simp [intOf]
        | false =>
          have HX1 : Hid _ := HH.out hk8 (by simpa using hz0)
          have hz1 : ((ansQ nm code dA nd ss rs 3).1 != 0) = true := by simpa using hz0
          clear HH HX HT
          generalize ansQ nm code dA nd ss rs 3 = Y at C hz0 hz1 HX1
          go_wp2_with (go_at_call 120; refine C.mono ?_; rintro e w2 ⟨rfl, hm2⟩)
          rename_i hm2
          go_ret2
          exact ⟨ret2I (by rw [HX1.out]), hm2.1⟩
      · clear f0 f1 f2 f3 f5 f6 f7
        have C := m4_any nm dA A1 A2 A3 A4 c1 nd c2 c3 c4 code ss rs w wr hC hS hL hR hc hd hs hl hN hA HW.out
        cases hz0 : ((ansQ nm code dA nd ss rs 4).1 == 0) with
        | true =>
          have hz1 : (ansQ nm code dA nd ss rs 4).1 = 0 := by simpa using hz0
          have HX1 : Hid _ := HX.out hz1
          rw [hz1] at C
          clear hz0 hz1 HH HX HT
          go_wp2_with (go_at_call 121; refine C.mono ?_; rintro e w2 ⟨rfl, hm2⟩)
          rename_i hm2
          go_roundw
          case rel => exact ⟨4 + 1, by go_num, by omega, hm2, HX1.out⟩
          case measure => simp [intOf]
        | false =>
          have HX1 : Hid _ := HH.out hk8 (by simpa using hz0)
          have hz1 : ((ansQ nm code dA nd ss rs 4).1 != 0) = true := by simpa using hz0
          clear HH HX HT
          generalize ansQ nm code dA nd ss rs 4 = Y at C hz0 hz1 HX1
          go_wp2_with (go_at_call 121; refine C.mono ?_; rintro e w2 ⟨rfl, hm2⟩)
          rename_i hm2
          go_ret2
          exact ⟨ret2I (by rw [HX1.out]), hm2.1⟩
      · clear f0 f1 f2 f3 f4 f6 f7
        have C := m5_any nm dA A1 A2 A3 A4 c1 nd c2 c3 c4 code ss rs w wr hC hS hL hR hc hd hs hl hN hA HW.out
        cases hz0 : ((ansQ nm code dA nd ss rs 5).1 == 0) with
        | true =>
          have hz1 : (ansQ nm code dA nd ss rs 5).1 = 0 := by simpa using hz0
          have HX1 : Hid _ := HX.out hz1
          rw [hz1] at C
          clear hz0 hz1 HH HX HT
          go_wp2_with (go_at_call 123; refine C.mono ?_; rintro e w2 ⟨rfl, hm2⟩)
          rename_i hm2
          go_roundw
          case rel => exact ⟨5 + 1, by go_num, by omega, hm2, HX1.out⟩
          case measure => simp [intOf]
        | false =>
          have HX1 : Hid _ := HH.out hk8 (by simpa using hz0)
          have hz1 : ((ansQ nm code dA nd ss rs 5).1 != 0) = true := by simpa using hz0
          clear HH HX HT
          generalize ansQ nm code dA nd ss rs 5 = Y at C hz0 hz1 HX1
          go_wp2_with (go_at_call 123; refine C.mono ?_; rintro e w2 ⟨rfl, hm2⟩)
          rename_i hm2
          go_ret2
          exact ⟨ret2I (by rw [HX1.out]), hm2.1⟩
      · clear f0 f1 f2 f3 f4 f5 f7
        have C := m6_any nm dA A1 A2 A3 A4 c1 nd c2 c3 c4 code ss rs w wr hC hS hL hR hc hd hs hl hN hA (by have := z1 (HT.out 1 (by omega)); omega) HW.out
        cases hz0 : ((ansQ nm code dA nd ss rs 6).1 == 0) with
        | true =>
          have hz1 : (ansQ nm code dA nd ss rs 6).1 = 0 := by simpa using hz0
          have HX1 : Hid _ := HX.out hz1
          rw [hz1] at C
          clear hz0 hz1 HH HX HT
          go_wp2_with (go_at_call 125; refine C.mono ?_; rintro e w2 ⟨rfl, hm2⟩)
          rename_i hm2
          go_roundw
          case rel => exact ⟨6 + 1, by go_num, by omega, hm2, HX1.out⟩
          case measure => simp [intOf]
        | false =>
          have HX1 : Hid _ := HH.out hk8 (by simpa using hz0)
          have hz1 : ((ansQ nm code dA nd ss rs 6).1 != 0) = true := by simpa using hz0
          clear HH HX HT
          generalize ansQ nm code dA nd ss rs 6 = Y at C hz0 hz1 HX1
          go_wp2_with (go_at_call 125; refine C.mono ?_; rintro e w2 ⟨rfl, hm2⟩)
          rename_i hm2
          go_ret2
          exact ⟨ret2I (by rw [HX1.out]), hm2.1⟩
      · clear f0 f1 f2 f3 f4 f5 f6
        have C := m7_any nm dA A1 A2 A3 A4 c1 nd c2 c3 c4 code ss rs w wr hC hS hL hR hc hd hs hl hN hA (by have := z1 (HT.out 1 (by omega)); omega) HW.out
        cases hz0 : ((ansQ nm code dA nd ss rs 7).1 == 0) with
        | true =>
          have hz1 : (ansQ nm code dA nd ss rs 7).1 = 0 := by simpa using hz0
          have HX1 : Hid _ := HX.out hz1
          rw [hz1] at C
          clear hz0 hz1 HH HX HT
          go_wp2_with (go_at_call 127; refine C.mono ?_; rintro e w2 ⟨rfl, hm2⟩)
          rename_i hm2
          go_roundw
          case rel => exact ⟨7 + 1, by go_num, by omega, hm2, HX1.out⟩
          case measure => simp [intOf]
        | false =>
          have HX1 : Hid _ := HH.out hk8 (by simpa using hz0)
          have hz1 : ((ansQ nm code dA nd ss rs 7).1 != 0) = true := by simpa using hz0
          clear HH HX HT
          generalize ansQ nm code dA nd ss rs 7 = Y at C hz0 hz1 HX1
          go_wp2_with (go_at_call 127; refine C.mono ?_; rintro e w2 ⟨rfl, hm2⟩)
          rename_i hm2
          go_ret2
          exact ⟨ret2I (by rw [HX1.out]), hm2.1⟩
    · have HC : Hid (checkC nm code dA nd ss rs = (0, 0)) := ans_none fun j hj => HT.out j (by omega)
      go_wp2
      go_ret2
      exact ⟨ret2I (by rw [HC.out]), HW.out.1⟩


end Go.Proofs.YthfcimmfkibmjaaGreatDoor

namespace Go.Proofs.YthfcimmfkibmjaaGreatDoor
open Go.RowKit

theorem first_zero {n : Nat} {f : Nat → Int} (h : (firstOf n f).1 = 0) : ∀ j, j < n → f j = 0 := by
  intro j hj
  unfold firstOf at h
  cases hf : (List.range n).find? (fun k => f k != 0) with
  | none =>
    rw [List.find?_eq_none] at hf
    simpa using hf j (by simpa using hj)
  | some k =>
    rw [hf] at h
    have := List.find?_some hf
    simp at this
    exact absurd h this
/-- An object's sizes may be. -/
def SizeOK (nm : ByteArray) (nc ns nr nd : Nat) (dA : Int) : Prop := nameOK nm = true ∧ nc ≤ 16384 ∧ ns ≤ 256 ∧ nr ≤ nc ∧ 0 ≤ dA ∧ dA ≤ 4096 ∧ (nd : Int) ≤ 4096 - dA
theorem size_ok {nm : ByteArray} {nc ns nr nd : Nat} {dA : Int} (h : SizeOK nm nc ns nr nd dA) : sizeC (nameOK nm) nc ns nr nd dA = (0, 0) := by
  obtain ⟨h1, h2, h3, h4, h5, h6, h7⟩ := h
  unfold sizeC
  rw [if_neg (by rw [h1]; simp), if_neg (by omega), if_neg (by omega), if_neg (by omega), if_neg (by omega)]
theorem ok_size {nm : ByteArray} {nc ns nr nd : Nat} {dA : Int} (h : (sizeC (nameOK nm) nc ns nr nd dA).1 = 0) : SizeOK nm nc ns nr nd dA := by
  unfold sizeC at h
  by_cases h1 : nameOK nm = false
  · rw [if_pos h1] at h; simp at h
  rw [if_neg h1] at h
  by_cases h2 : 16384 < nc
  · rw [if_pos h2] at h; simp at h
  rw [if_neg h2] at h
  by_cases h3 : 256 < ns
  · rw [if_pos h3] at h; simp at h
  rw [if_neg h3] at h
  by_cases h4 : nc < nr
  · rw [if_pos h4] at h; simp at h
  rw [if_neg h4] at h
  by_cases h5 : dA < 0 ∨ 4096 < dA ∨ 4096 - dA < (nd : Int)
  · rw [if_pos h5] at h; simp at h
  exact ⟨by simpa using h1, by omega, by omega, by omega, by omega, by omega, by omega⟩
/-- An object may be. -/
def MayBe (nm : ByteArray) (code : List Int) (dA : Int) (nd : Nat) (ss : List Sym) (rs : List Rel) : Prop :=
  SizeOK nm code.length ss.length rs.length nd dA ∧ (∀ j, j < ss.length → symE ss code.length j = 0) ∧ (∀ j, j < rs.length → relE rs code ss.length j = 0) ∧ ∀ j, j < code.length → codE code j = 0
theorem may_check {nm : ByteArray} {code : List Int} {dA : Int} {nd : Nat} {ss : List Sym} {rs : List Rel} (h : MayBe nm code dA nd ss rs) : checkC nm code dA nd ss rs = (0, 0) := by
  obtain ⟨h1, h2, h3, h4⟩ := h
  have e1 := size_ok h1
  have e2 : symC ss code.length = (0, 0) := first_none h2
  have e3 : relC rs code ss.length = (0, 0) := first_none h3
  have e4 : codC code = (0, 0) := by unfold codC; rw [first_none h4]; rfl
  unfold checkC
  rw [e1, e2, e3, e4]; simp
theorem check_may {nm : ByteArray} {code : List Int} {dA : Int} {nd : Nat} {ss : List Sym} {rs : List Rel} (h : (checkC nm code dA nd ss rs).1 = 0) : MayBe nm code dA nd ss rs := by
  unfold checkC at h
  by_cases h1 : (sizeC (nameOK nm) code.length ss.length rs.length nd dA).1 = 0
  · rw [if_neg (by simpa using h1)] at h
    by_cases h2 : (symC ss code.length).1 = 0
    · rw [if_neg (by simpa using h2)] at h
      by_cases h3 : (relC rs code ss.length).1 = 0
      · rw [if_neg (by simpa using h3)] at h
        refine ⟨ok_size h1, first_zero h2, first_zero h3, ?_⟩
        unfold codC at h
        by_cases h4 : (firstOf code.length (codE code)).1 = 0
        · exact first_zero h4
        · rw [if_neg h4] at h; simp at h
      · rw [if_pos h3] at h; exact absurd h h3
    · rw [if_pos h2] at h; exact absurd h h2
  · rw [if_pos h1] at h; exact absurd h h1
theorem sym_parts {ss : List Sym} {nc k : Nat} : symE ss nc k = 0 ↔ nameOK (sName ss k) = true ∧ ofS ss (sName ss k) = k ∧ 0 ≤ sKind ss k ∧ sKind ss k ≤ 3 ∧ 0 ≤ sAt ss k ∧ sAt ss k ≤ nc ∧ (sKind ss k = 3 → sAt ss k = 0) := by
  unfold symE
  constructor
  · intro h
    by_cases h1 : nameOK (sName ss k) = false
    · rw [if_pos h1] at h; simp at h
    rw [if_neg h1] at h
    by_cases h2 : ¬ ofS ss (sName ss k) = k
    · rw [if_pos h2] at h; simp at h
    rw [if_neg h2] at h
    by_cases h3 : sKind ss k < 0 ∨ 3 < sKind ss k
    · rw [if_pos h3] at h; simp at h
    rw [if_neg h3] at h
    by_cases h4 : sAt ss k < 0 ∨ (nc : Int) < sAt ss k ∨ (sKind ss k = 3 ∧ ¬ sAt ss k = 0)
    · rw [if_pos h4] at h; simp at h
    exact ⟨by simpa using h1, by simpa using h2, by omega, by omega, by omega, by omega, by omega⟩
  · rintro ⟨h1, h2, h3, h4, h5, h6, h7⟩
    rw [if_neg (by rw [h1]; simp), if_neg (by simpa using h2), if_neg (by omega), if_neg (by omega)]
theorem rel_parts {rs : List Rel} {code : List Int} {ns k : Nat} : relE rs code ns k = 0 ↔ 0 ≤ rAt rs k ∧ rAt rs k < code.length ∧ (0 < k → rAt rs (k - 1) < rAt rs k) ∧ 0 ≤ rSym rs k ∧ rSym rs k < ns ∧ isT (nth code (rAt rs k).toNat) = true ∧ tgV (nth code (rAt rs k).toNat) = 0 := by
  unfold relE
  constructor
  · intro h
    by_cases h1 : rAt rs k < 0 ∨ (code.length : Int) ≤ rAt rs k ∨ (0 < k ∧ rAt rs k ≤ rAt rs (k - 1)) ∨ rSym rs k < 0 ∨ (ns : Int) ≤ rSym rs k
    · rw [if_pos h1] at h; simp at h
    rw [if_neg h1] at h
    by_cases h2 : isT (nth code (rAt rs k).toNat) = false ∨ ¬ tgV (nth code (rAt rs k).toNat) = 0
    · rw [if_pos h2] at h; simp at h
    have h3 : isT (nth code (rAt rs k).toNat) = true := by
      cases e : isT (nth code (rAt rs k).toNat)
      · exact absurd (Or.inl e) h2
      · rfl
    have h4 : tgV (nth code (rAt rs k).toNat) = 0 := Classical.byContradiction fun e => h2 (Or.inr e)
    exact ⟨by omega, by omega, by omega, by omega, by omega, h3, h4⟩
  · rintro ⟨h1, h2, h3, h4, h5, h6, h7⟩
    rw [if_neg (by omega), if_neg (by rw [h6, h7]; simp)]
theorem cod_parts {code : List Int} {k : Nat} : codE code k = 0 ↔ (isT (nth code k) = true → tgV (nth code k) ≤ code.length) := by
  unfold codE
  constructor
  · intro h hT
    by_cases h1 : isT (nth code k) = true ∧ (code.length : Int) < tgV (nth code k)
    · rw [if_pos h1] at h; simp at h
    · have : ¬ (code.length : Int) < tgV (nth code k) := fun e => h1 ⟨hT, e⟩
      omega
  · intro h
    rw [if_neg]
    rintro ⟨h1, h2⟩
    have := h h1
    omega
/-- The relocations' places rise: each is found by its own. -/
theorem rel_rise {rs : List Rel} {code : List Int} {ns : Nat} (h : ∀ j, j < rs.length → relE rs code ns j = 0) : ∀ k i, i < k → k < rs.length → rAt rs i < rAt rs k := by
  intro k
  induction k with
  | zero => intro i hi; omega
  | succ k ih =>
    intro i hi hk
    have h1 := ((rel_parts.1 (h (k + 1) hk)).2.2.1) (by omega)
    rw [Nat.add_sub_cancel] at h1
    by_cases e : i = k
    · subst e; exact h1
    · have := ih i (by omega) (by omega); omega
theorem at_found {rs : List Rel} {k : Nat} {p : Int} (hk : k < rs.length) (e : rAt rs k = p) (h : ∀ i, i < k → ¬ rAt rs i = p) : atR rs p = k := by
  have step : ∀ j, j ≤ k → atFrom (rs.drop j) p j = k := by
    intro j hj
    induction hd : k - j generalizing j with
    | zero =>
      have : j = k := by omega
      subst this
      exact at_hit hk (by simpa using e)
    | succ d ih =>
      rw [at_miss (by omega) (by simpa using h j (by omega))]
      exact ih (j + 1) (by omega) (by omega)
  have := step 0 (by omega)
  simpa [atR] using this
theorem finds_at {rs : List Rel} {code : List Int} {ns : Nat} (h : ∀ j, j < rs.length → relE rs code ns j = 0) (k : Nat) (hk : k < rs.length) : atR rs (rAt rs k) = k :=
  at_found hk rfl fun i hi => by have := rel_rise h k i hi hk; omega
theorem nth_app {code : List Int} {x : Int} {i : Nat} (h : i < code.length) : nth (code ++ [x]) i = nth code i := by simp [nth, List.getD, h, List.getElem?_append_left h]
theorem nth_last {code : List Int} {x : Int} : nth (code ++ [x]) code.length = x := by simp [nth, List.getD]
theorem may_word {nm : ByteArray} {code : List Int} {dA : Int} {nd : Nat} {ss : List Sym} {rs : List Rel} (h : MayBe nm code dA nd ss rs) (hl : code.length < 16384) : MayBe nm (code ++ [1]) dA nd ss rs := by
  obtain ⟨⟨a1, a2, a3, a4, a5, a6, a7⟩, h2, h3, h4⟩ := h
  have hlen : (code ++ [1]).length = code.length + 1 := by simp
  refine ⟨⟨a1, by omega, a3, by omega, a5, a6, a7⟩, fun j hj => ?_, fun j hj => ?_, fun j hj => ?_⟩
  · obtain ⟨b1, b2, b3, b4, b5, b6, b7⟩ := sym_parts.1 (h2 j hj)
    exact sym_parts.2 ⟨b1, b2, b3, b4, b5, by rw [hlen]; omega, b7⟩
  · obtain ⟨b1, b2, b3, b4, b5, b6, b7⟩ := rel_parts.1 (h3 j hj)
    have e : nth (code ++ [1]) (rAt rs j).toNat = nth code (rAt rs j).toNat := nth_app (by omega)
    exact rel_parts.2 ⟨b1, by rw [hlen]; omega, b3, b4, b5, by rw [e]; exact b6, by rw [e]; exact b7⟩
  · by_cases e : j < code.length
    · have k := cod_parts.1 (h4 j e)
      refine cod_parts.2 fun hT => ?_
      rw [nth_app e] at hT ⊢
      have := k hT
      rw [hlen]; omega
    · have : j = code.length := by omega
      subst this
      refine cod_parts.2 fun hT => ?_
      rw [nth_last] at hT
      exact absurd hT (by decide +kernel)
theorem rAt_take {rs : List Rel} {n i : Nat} (h : i < n) : rAt (rs.take n) i = rAt rs i := by simp [rAt, List.getD, h]
theorem rSym_take {rs : List Rel} {n i : Nat} (h : i < n) : rSym (rs.take n) i = rSym rs i := by simp [rSym, List.getD, h]
theorem may_less {nm : ByteArray} {code : List Int} {dA : Int} {nd : Nat} {ss : List Sym} {rs : List Rel} (h : MayBe nm code dA nd ss rs) (n : Nat) (hn : n ≤ rs.length) : MayBe nm code dA nd ss (rs.take n) := by
  obtain ⟨⟨a1, a2, a3, a4, a5, a6, a7⟩, h2, h3, h4⟩ := h
  have hlen : (rs.take n).length = n := by rw [List.length_take, Nat.min_eq_left hn]
  refine ⟨⟨a1, a2, a3, by omega, a5, a6, a7⟩, h2, fun j hj => ?_, h4⟩
  rw [hlen] at hj
  obtain ⟨b1, b2, b3, b4, b5, b6, b7⟩ := rel_parts.1 (h3 j (by omega))
  rw [rel_parts, rAt_take hj, rSym_take hj, rAt_take (show j - 1 < n by omega)]
  exact ⟨b1, b2, b3, b4, b5, b6, b7⟩
theorem rels_take {w : World} {O : Option Addr} {rs : List Rel} (h : RelsAt w O rs) (n : Nat) (hn : n ≤ rs.length) : RelsAt w O (rs.take n) := fun i hi => by
  have hi' : i < n := by rw [List.length_take, Nat.min_eq_left hn] at hi; exact hi
  rw [rAt_take hi', rSym_take hi']
  exact h i (by omega)
theorem of_app (s : ByteArray) (t : List Sym) : ∀ (l : List Sym) (k : Nat), ¬ ofFrom l s k = -1 → ofFrom (l ++ t) s k = ofFrom l s k
  | [], k, h => absurd rfl h
  | x :: l, k, h => by
    rw [List.cons_append, ofFrom, ofFrom]
    rw [ofFrom] at h
    by_cases e : (x.1.toList == s.toList) = true
    · rw [if_pos e, if_pos e]
    · rw [if_neg e] at h
      rw [if_neg e, if_neg e]
      exact of_app s t l (k + 1) h
theorem s_app {ss : List Sym} {x : Sym} {i : Nat} (h : i < ss.length) : (ss ++ [x]).getD i symD = ss.getD i symD := by simp [List.getD, h, List.getElem?_append_left h]
theorem s_last {ss : List Sym} {x : Sym} : (ss ++ [x]).getD ss.length symD = x := by simp [List.getD]
theorem twice_check {nm : ByteArray} {code : List Int} {dA : Int} {nd : Nat} {ss : List Sym} {rs : List Rel} (h : MayBe nm code dA nd ss rs) (p : Nat) (hp : p < ss.length) (hl : ss.length < 256) : checkC nm code dA nd (ss ++ [ss.getD p symD]) rs = (26, (ss.length : Int)) := by
  obtain ⟨⟨a1, a2, a3, a4, a5, a6, a7⟩, h2, h3, h4⟩ := h
  have hlen : (ss ++ [ss.getD p symD]).length = ss.length + 1 := by simp
  have e1 : sizeC (nameOK nm) code.length (ss ++ [ss.getD p symD]).length rs.length nd dA = (0, 0) := size_ok ⟨a1, a2, by omega, a4, a5, a6, a7⟩
  have hof : ∀ j, j < ss.length → ofS (ss ++ [ss.getD p symD]) (sName ss j) = j := fun j hj => by
    obtain ⟨_, b2, _⟩ := sym_parts.1 (h2 j hj)
    have : ¬ ofFrom ss (sName ss j) 0 = -1 := by have e : ofFrom ss (sName ss j) 0 = j := b2; rw [e]; omega
    unfold ofS
    rw [of_app _ _ _ _ this]; exact b2
  have z : ∀ j, j < ss.length → symE (ss ++ [ss.getD p symD]) code.length j = 0 := fun j hj => by
    obtain ⟨b1, b2, b3, b4, b5, b6, b7⟩ := sym_parts.1 (h2 j hj)
    have g := s_app (x := ss.getD p symD) hj
    have g1 : sName (ss ++ [ss.getD p symD]) j = sName ss j := by unfold sName; rw [g]
    have g2 : sKind (ss ++ [ss.getD p symD]) j = sKind ss j := by unfold sKind; rw [g]
    have g3 : sAt (ss ++ [ss.getD p symD]) j = sAt ss j := by unfold sAt; rw [g]
    rw [sym_parts, g1, g2, g3]
    exact ⟨b1, hof j hj, b3, b4, b5, b6, b7⟩
  have y : symE (ss ++ [ss.getD p symD]) code.length ss.length = 26 := by
    have g1 : sName (ss ++ [ss.getD p symD]) ss.length = sName ss p := by unfold sName; rw [s_last]
    obtain ⟨b1, _⟩ := sym_parts.1 (h2 p hp)
    unfold symE
    rw [g1, if_neg (by rw [b1]; simp), if_pos (by rw [hof p hp]; omega)]
  have e2 : symC (ss ++ [ss.getD p symD]) code.length = (26, (ss.length : Int)) := by
    unfold symC
    rw [first_hit (k := ss.length) (by omega) z (by rw [y]; omega), y]
  unfold checkC
  rw [e1, e2]; simp
theorem may_names {nm : ByteArray} {code : List Int} {dA : Int} {nd : Nat} {ss : List Sym} {rs : List Rel} (h : MayBe nm code dA nd ss rs) (i : Nat) (hi : i < ss.length) : ofS ss (sName ss i) = i ∧ nameOK (sName ss i) = true := by
  obtain ⟨b1, b2, _⟩ := sym_parts.1 (h.2.1 i hi)
  exact ⟨b2, b1⟩
theorem may_at {nm : ByteArray} {code : List Int} {dA : Int} {nd : Nat} {ss : List Sym} {rs : List Rel} (h : MayBe nm code dA nd ss rs) (i : Nat) (hi : i < rs.length) : atR rs (rAt rs i) = i := finds_at h.2.2.1 i hi


end Go.Proofs.YthfcimmfkibmjaaGreatDoor
