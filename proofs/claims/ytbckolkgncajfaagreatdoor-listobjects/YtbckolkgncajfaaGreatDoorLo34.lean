/-
  What is asked of an object, as a list of closures; no condition. How things stand between two questions; the lists are at most 2^20 long, names at most 2^47 bytes, words of 32 bits.
-/
import Derived.Test.YtbckolkgncajfaaGreatDoorProg
import Derived.WalkKit
import Derived.WalkSpells
import Derived.WalkLawsBesides
import Derived.RowKit3
import Derived.Below
import Derived.Deep.QuietTactic
import Derived.BigQuiet
import Derived.WalkSmall
import Derived.Test.YtbckolkgncajfaaGreatDoorLo33
import Derived.Great.BuildSlice
import Derived.Test.YtbckolkgncajfaaGreatDoorLo26
import Derived.Test.YtbckolkgncajfaaGreatDoorLo32
namespace Go.Proofs.YtbckolkgncajfaaGreatDoor
open Go.RowKit

set_option maxRecDepth 100000 in
set_option maxHeartbeats 1000000 in
theorem questions_raw (nm : ByteArray) (dA : Int) (A1 A2 A3 A4 : Option Addr) (nc c1 nd c2 ns c3 nr c4 : Nat) (cs : Array Value) (hz : ∀ w : World, (zeroValue 160).run Tryz.prog w = .ok (.agg cs) w) (w : World) :
    Calls Tryz.prog 80 #[.agg #[.string nm, .slice A1 nc c1, .int .i64 dA, .slice A2 nd c2, .slice A3 ns c3, .slice A4 nr c4]] w fun e w' => e = .returned (.slice (some ⟨w.heap.size + 2, 0, none⟩) 8 8) ∧ w' = ((w.alloc (.cells #[.string nm, .slice A1 nc c1, .int .i64 dA, .slice A2 nd c2, .slice A3 ns c3, .slice A4 nr c4] 65)).alloc (.cells cs 160)).alloc (.cells #[.func (.func 99) #[] #[.pointer (some ⟨w.heap.size, 0, none⟩)], .func (.func 102) #[] #[.pointer (some ⟨w.heap.size, 0, none⟩)], .func (.func 103) #[] #[.pointer (some ⟨w.heap.size, 0, none⟩)], .func (.func 104) #[] #[.pointer (some ⟨w.heap.size, 0, none⟩)], .func (.func 105) #[] #[.pointer (some ⟨w.heap.size, 0, none⟩)], .func (.func 107) #[] #[.pointer (some ⟨w.heap.size, 0, none⟩)], .func (.func 109) #[] #[.pointer (some ⟨w.heap.size, 0, none⟩), .pointer (some ⟨w.heap.size + 1, 0, none⟩)], .func (.func 111) #[] #[.pointer (some ⟨w.heap.size, 0, none⟩), .pointer (some ⟨w.heap.size + 1, 0, none⟩)]] 142) := by
  have hmf := mkFn
  go_enter Tryz.func80, Tryz.ntmps80
  go_wp2
  go_ret
  exact ⟨rfl, rfl⟩



end Go.Proofs.YtbckolkgncajfaaGreatDoor

namespace Go.Proofs.YtbckolkgncajfaaGreatDoor
open Go.RowKit

/-- How things stand between two questions: the object and the questions lie where they lay; the marks are safe. -/
def Mid (nm : ByteArray) (dA : Int) (A1 A2 A3 A4 : Option Addr) (c1 nd c2 c3 c4 : Nat) (code : List Int) (ss : List Sym) (rs : List Rel) (w0 w : World) : Prop :=
  Below w0.heap.size w0 w ∧ w.cell? ⟨w0.heap.size + 1, 0, none⟩ = some (.string nm) ∧ w.cell? ⟨w0.heap.size + 1, 1, none⟩ = some (.slice A1 code.length c1) ∧ w.cell? ⟨w0.heap.size + 1, 2, none⟩ = some (.int .i64 dA) ∧ w.cell? ⟨w0.heap.size + 1, 3, none⟩ = some (.slice A2 nd c2) ∧ w.cell? ⟨w0.heap.size + 1, 4, none⟩ = some (.slice A3 ss.length c3) ∧ w.cell? ⟨w0.heap.size + 1, 5, none⟩ = some (.slice A4 rs.length c4) ∧ w.cell? ⟨w0.heap.size + 1 + 1 + 1, 0, none⟩ = some (.func (.func 99) #[] #[.pointer (some ⟨w0.heap.size + 1, 0, none⟩)]) ∧ w.cell? ⟨w0.heap.size + 1 + 1 + 1, 1, none⟩ = some (.func (.func 102) #[] #[.pointer (some ⟨w0.heap.size + 1, 0, none⟩)]) ∧ w.cell? ⟨w0.heap.size + 1 + 1 + 1, 2, none⟩ = some (.func (.func 103) #[] #[.pointer (some ⟨w0.heap.size + 1, 0, none⟩)]) ∧ w.cell? ⟨w0.heap.size + 1 + 1 + 1, 3, none⟩ = some (.func (.func 104) #[] #[.pointer (some ⟨w0.heap.size + 1, 0, none⟩)]) ∧ w.cell? ⟨w0.heap.size + 1 + 1 + 1, 4, none⟩ = some (.func (.func 105) #[] #[.pointer (some ⟨w0.heap.size + 1, 0, none⟩)]) ∧ w.cell? ⟨w0.heap.size + 1 + 1 + 1, 5, none⟩ = some (.func (.func 107) #[] #[.pointer (some ⟨w0.heap.size + 1, 0, none⟩)]) ∧ w.cell? ⟨w0.heap.size + 1 + 1 + 1, 6, none⟩ = some (.func (.func 109) #[] #[.pointer (some ⟨w0.heap.size + 1, 0, none⟩), .pointer (some ⟨w0.heap.size + 1 + 1, 0, none⟩)]) ∧ w.cell? ⟨w0.heap.size + 1 + 1 + 1, 7, none⟩ = some (.func (.func 111) #[] #[.pointer (some ⟨w0.heap.size + 1, 0, none⟩), .pointer (some ⟨w0.heap.size + 1 + 1, 0, none⟩)]) ∧ ∃ m, MarksAt w (w0.heap.size + 1 + 1) m ∧ Safe code m
theorem mid_but {nm : ByteArray} {dA : Int} {A1 A2 A3 A4 : Option Addr} {c1 nd c2 c3 c4 : Nat} {code : List Int} {ss : List Sym} {rs : List Rel} {w0 w w' : World} (h : Mid nm dA A1 A2 A3 A4 c1 nd c2 c3 c4 code ss rs w0 w) (hb' : But (w0.heap.size + 1 + 1) w w') {m' : Nat → Bool} (hm' : MarksAt w' (w0.heap.size + 1 + 1) m') (hs' : Safe code m') : Mid nm dA A1 A2 A3 A4 c1 nd c2 c3 c4 code ss rs w0 w' := by
  obtain ⟨hb, o0, o1, o2, o3, o4, o5, f0, f1, f2, f3, f4, f5, f6, f7, m, hm, hs⟩ := h
  exact ⟨hb'.below hb (by omega), hb'.cell (by simp) o0, hb'.cell (by simp) o1, hb'.cell (by simp) o2, hb'.cell (by simp) o3, hb'.cell (by simp) o4, hb'.cell (by simp) o5, hb'.cell (by simp) f0, hb'.cell (by simp) f1, hb'.cell (by simp) f2, hb'.cell (by simp) f3, hb'.cell (by simp) f4, hb'.cell (by simp) f5, hb'.cell (by simp) f6, hb'.cell (by simp) f7, m', hm', hs'⟩
theorem mid_on {nm : ByteArray} {dA : Int} {A1 A2 A3 A4 : Option Addr} {c1 nd c2 c3 c4 : Nat} {code : List Int} {ss : List Sym} {rs : List Rel} {w0 w w' : World} (h : Mid nm dA A1 A2 A3 A4 c1 nd c2 c3 c4 code ss rs w0 w) (hb' : Below w.heap.size w w') : Mid nm dA A1 A2 A3 A4 c1 nd c2 c3 c4 code ss rs w0 w' := by
  have h' := h
  obtain ⟨hb, o0, o1, o2, o3, o4, o5, f0, f1, f2, f3, f4, f5, f6, f7, m, hm, hs⟩ := h'
  exact mid_but h (But.of hb') (hm.keep hb') hs
theorem m0_any (nm : ByteArray) (dA : Int) (A1 A2 A3 A4 : Option Addr) (c1 nd c2 c3 c4 : Nat) (code : List Int) (ss : List Sym) (rs : List Rel) (w0 w : World) (_hC : IntsAt w0 A1 .u32 code) (_hS : SymsAt w0 A3 ss) (_hL : RelsAt w0 A4 rs) (_hR : ∀ i, i < code.length → 0 ≤ nth code i ∧ nth code i < 4294967296) (_hc : code.length ≤ 1048576) (_hd : nd ≤ 1048576) (_hs : ss.length ≤ 1048576) (_hl : rs.length ≤ 1048576) (_hN : ∀ i, (sName ss i).size ≤ 140737488355328) (_hA : -9223372036854775808 ≤ dA ∧ dA ≤ 9223372036854775807) (h : Mid nm dA A1 A2 A3 A4 c1 nd c2 c3 c4 code ss rs w0 w) : Calls Tryz.prog 99 #[.pointer (some ⟨w0.heap.size + 1, 0, none⟩)] w fun r w' => r = .returned (.tuple #[.int .i64 (ansQ nm code dA nd ss rs 0).1, .int .i64 (ansQ nm code dA nd ss rs 0).2]) ∧ Mid nm dA A1 A2 A3 A4 c1 nd c2 c3 c4 code ss rs w0 w' := by
  have h' := h
  obtain ⟨hb, o0, o1, o2, o3, o4, o5, f0, f1, f2, f3, f4, f5, f6, f7, m, hm, hsm⟩ := h'
  refine (q1_any nm dA A1 A2 A3 A4 code.length c1 nd c2 ss.length c3 rs.length c4 _ w o0 o1 o2 o3 o4 o5).mono ?_
  rintro r w1 ⟨rfl, hb1⟩
  exact ⟨rfl, mid_on h hb1⟩
theorem m1_any (nm : ByteArray) (dA : Int) (A1 A2 A3 A4 : Option Addr) (c1 nd c2 c3 c4 : Nat) (code : List Int) (ss : List Sym) (rs : List Rel) (w0 w : World) (_hC : IntsAt w0 A1 .u32 code) (_hS : SymsAt w0 A3 ss) (_hL : RelsAt w0 A4 rs) (_hR : ∀ i, i < code.length → 0 ≤ nth code i ∧ nth code i < 4294967296) (hc : code.length ≤ 1048576) (_hd : nd ≤ 1048576) (_hs : ss.length ≤ 1048576) (_hl : rs.length ≤ 1048576) (_hN : ∀ i, (sName ss i).size ≤ 140737488355328) (_hA : -9223372036854775808 ≤ dA ∧ dA ≤ 9223372036854775807) (h : Mid nm dA A1 A2 A3 A4 c1 nd c2 c3 c4 code ss rs w0 w) : Calls Tryz.prog 102 #[.pointer (some ⟨w0.heap.size + 1, 0, none⟩)] w fun r w' => r = .returned (.tuple #[.int .i64 (ansQ nm code dA nd ss rs 1).1, .int .i64 (ansQ nm code dA nd ss rs 1).2]) ∧ Mid nm dA A1 A2 A3 A4 c1 nd c2 c3 c4 code ss rs w0 w' := by
  have h' := h
  obtain ⟨hb, o0, o1, o2, o3, o4, o5, f0, f1, f2, f3, f4, f5, f6, f7, m, hm, hsm⟩ := h'
  refine (q2_any nm dA A1 A2 A3 A4 code.length c1 nd c2 ss.length c3 rs.length c4 _ w o0 o1 o2 o3 o4 o5 hc).mono ?_
  rintro r w1 ⟨rfl, hb1⟩
  exact ⟨rfl, mid_on h hb1⟩
theorem m2_any (nm : ByteArray) (dA : Int) (A1 A2 A3 A4 : Option Addr) (c1 nd c2 c3 c4 : Nat) (code : List Int) (ss : List Sym) (rs : List Rel) (w0 w : World) (_hC : IntsAt w0 A1 .u32 code) (_hS : SymsAt w0 A3 ss) (_hL : RelsAt w0 A4 rs) (_hR : ∀ i, i < code.length → 0 ≤ nth code i ∧ nth code i < 4294967296) (_hc : code.length ≤ 1048576) (_hd : nd ≤ 1048576) (hs : ss.length ≤ 1048576) (_hl : rs.length ≤ 1048576) (_hN : ∀ i, (sName ss i).size ≤ 140737488355328) (_hA : -9223372036854775808 ≤ dA ∧ dA ≤ 9223372036854775807) (h : Mid nm dA A1 A2 A3 A4 c1 nd c2 c3 c4 code ss rs w0 w) : Calls Tryz.prog 103 #[.pointer (some ⟨w0.heap.size + 1, 0, none⟩)] w fun r w' => r = .returned (.tuple #[.int .i64 (ansQ nm code dA nd ss rs 2).1, .int .i64 (ansQ nm code dA nd ss rs 2).2]) ∧ Mid nm dA A1 A2 A3 A4 c1 nd c2 c3 c4 code ss rs w0 w' := by
  have h' := h
  obtain ⟨hb, o0, o1, o2, o3, o4, o5, f0, f1, f2, f3, f4, f5, f6, f7, m, hm, hsm⟩ := h'
  refine (q3_any nm dA A1 A2 A3 A4 code.length c1 nd c2 ss.length c3 rs.length c4 _ w o0 o1 o2 o3 o4 o5 hs).mono ?_
  rintro r w1 ⟨rfl, hb1⟩
  exact ⟨rfl, mid_on h hb1⟩
theorem m3_any (nm : ByteArray) (dA : Int) (A1 A2 A3 A4 : Option Addr) (c1 nd c2 c3 c4 : Nat) (code : List Int) (ss : List Sym) (rs : List Rel) (w0 w : World) (_hC : IntsAt w0 A1 .u32 code) (_hS : SymsAt w0 A3 ss) (_hL : RelsAt w0 A4 rs) (_hR : ∀ i, i < code.length → 0 ≤ nth code i ∧ nth code i < 4294967296) (hc : code.length ≤ 1048576) (_hd : nd ≤ 1048576) (_hs : ss.length ≤ 1048576) (hl : rs.length ≤ 1048576) (_hN : ∀ i, (sName ss i).size ≤ 140737488355328) (_hA : -9223372036854775808 ≤ dA ∧ dA ≤ 9223372036854775807) (h : Mid nm dA A1 A2 A3 A4 c1 nd c2 c3 c4 code ss rs w0 w) : Calls Tryz.prog 104 #[.pointer (some ⟨w0.heap.size + 1, 0, none⟩)] w fun r w' => r = .returned (.tuple #[.int .i64 (ansQ nm code dA nd ss rs 3).1, .int .i64 (ansQ nm code dA nd ss rs 3).2]) ∧ Mid nm dA A1 A2 A3 A4 c1 nd c2 c3 c4 code ss rs w0 w' := by
  have h' := h
  obtain ⟨hb, o0, o1, o2, o3, o4, o5, f0, f1, f2, f3, f4, f5, f6, f7, m, hm, hsm⟩ := h'
  refine (q4_any nm dA A1 A2 A3 A4 code.length c1 nd c2 ss.length c3 rs.length c4 _ w o0 o1 o2 o3 o4 o5 hc hl).mono ?_
  rintro r w1 ⟨rfl, hb1⟩
  exact ⟨rfl, mid_on h hb1⟩
theorem m4_any (nm : ByteArray) (dA : Int) (A1 A2 A3 A4 : Option Addr) (c1 nd c2 c3 c4 : Nat) (code : List Int) (ss : List Sym) (rs : List Rel) (w0 w : World) (_hC : IntsAt w0 A1 .u32 code) (_hS : SymsAt w0 A3 ss) (_hL : RelsAt w0 A4 rs) (_hR : ∀ i, i < code.length → 0 ≤ nth code i ∧ nth code i < 4294967296) (_hc : code.length ≤ 1048576) (hd : nd ≤ 1048576) (_hs : ss.length ≤ 1048576) (_hl : rs.length ≤ 1048576) (_hN : ∀ i, (sName ss i).size ≤ 140737488355328) (hA : -9223372036854775808 ≤ dA ∧ dA ≤ 9223372036854775807) (h : Mid nm dA A1 A2 A3 A4 c1 nd c2 c3 c4 code ss rs w0 w) : Calls Tryz.prog 105 #[.pointer (some ⟨w0.heap.size + 1, 0, none⟩)] w fun r w' => r = .returned (.tuple #[.int .i64 (ansQ nm code dA nd ss rs 4).1, .int .i64 (ansQ nm code dA nd ss rs 4).2]) ∧ Mid nm dA A1 A2 A3 A4 c1 nd c2 c3 c4 code ss rs w0 w' := by
  have h' := h
  obtain ⟨hb, o0, o1, o2, o3, o4, o5, f0, f1, f2, f3, f4, f5, f6, f7, m, hm, hsm⟩ := h'
  refine (q5_any nm dA A1 A2 A3 A4 code.length c1 nd c2 ss.length c3 rs.length c4 _ w o0 o1 o2 o3 o4 o5 hd hA.1 hA.2).mono ?_
  rintro r w1 ⟨rfl, hb1⟩
  exact ⟨rfl, mid_on h hb1⟩
theorem m5_any (nm : ByteArray) (dA : Int) (A1 A2 A3 A4 : Option Addr) (c1 nd c2 c3 c4 : Nat) (code : List Int) (ss : List Sym) (rs : List Rel) (w0 w : World) (_hC : IntsAt w0 A1 .u32 code) (hS : SymsAt w0 A3 ss) (_hL : RelsAt w0 A4 rs) (_hR : ∀ i, i < code.length → 0 ≤ nth code i ∧ nth code i < 4294967296) (_hc : code.length ≤ 1048576) (_hd : nd ≤ 1048576) (hs : ss.length ≤ 1048576) (_hl : rs.length ≤ 1048576) (hN : ∀ i, (sName ss i).size ≤ 140737488355328) (_hA : -9223372036854775808 ≤ dA ∧ dA ≤ 9223372036854775807) (h : Mid nm dA A1 A2 A3 A4 c1 nd c2 c3 c4 code ss rs w0 w) : Calls Tryz.prog 107 #[.pointer (some ⟨w0.heap.size + 1, 0, none⟩)] w fun r w' => r = .returned (.tuple #[.int .i64 (ansQ nm code dA nd ss rs 5).1, .int .i64 (ansQ nm code dA nd ss rs 5).2]) ∧ Mid nm dA A1 A2 A3 A4 c1 nd c2 c3 c4 code ss rs w0 w' := by
  have h' := h
  obtain ⟨hb, o0, o1, o2, o3, o4, o5, f0, f1, f2, f3, f4, f5, f6, f7, m, hm, hsm⟩ := h'
  refine (q6_any nm dA A1 A2 A3 A4 code.length c1 nd c2 c3 rs.length c4 ss _ w o0 o1 o2 o3 o4 o5 (hS.keep hb) hs hN).mono ?_
  rintro r w1 ⟨rfl, hb1⟩
  exact ⟨rfl, mid_on h hb1⟩
theorem m6_any (nm : ByteArray) (dA : Int) (A1 A2 A3 A4 : Option Addr) (c1 nd c2 c3 c4 : Nat) (code : List Int) (ss : List Sym) (rs : List Rel) (w0 w : World) (hC : IntsAt w0 A1 .u32 code) (_hS : SymsAt w0 A3 ss) (hL : RelsAt w0 A4 rs) (hR : ∀ i, i < code.length → 0 ≤ nth code i ∧ nth code i < 4294967296) (_hc : code.length ≤ 1048576) (_hd : nd ≤ 1048576) (_hs : ss.length ≤ 1048576) (hl : rs.length ≤ 1048576) (_hN : ∀ i, (sName ss i).size ≤ 140737488355328) (_hA : -9223372036854775808 ≤ dA ∧ dA ≤ 9223372036854775807) (hcc : code.length ≤ 16384) (h : Mid nm dA A1 A2 A3 A4 c1 nd c2 c3 c4 code ss rs w0 w) : Calls Tryz.prog 109 #[.pointer (some ⟨w0.heap.size + 1, 0, none⟩), .pointer (some ⟨w0.heap.size + 1 + 1, 0, none⟩)] w fun r w' => r = .returned (.tuple #[.int .i64 (ansQ nm code dA nd ss rs 6).1, .int .i64 (ansQ nm code dA nd ss rs 6).2]) ∧ Mid nm dA A1 A2 A3 A4 c1 nd c2 c3 c4 code ss rs w0 w' := by
  have h' := h
  obtain ⟨hb, o0, o1, o2, o3, o4, o5, f0, f1, f2, f3, f4, f5, f6, f7, m, hm, hsm⟩ := h'
  refine (q7_any nm dA A1 A2 A3 A4 c1 nd c2 ss.length c3 c4 code rs _ m _ w0 w o0 o1 o2 o3 o4 o5 hC hR hL hb (by omega) hl hcc hm hsm).mono ?_
  rintro r w1 ⟨rfl, hb1, m1, hm1, hs1⟩
  exact ⟨rfl, mid_but h hb1 hm1 hs1⟩
theorem m7_any (nm : ByteArray) (dA : Int) (A1 A2 A3 A4 : Option Addr) (c1 nd c2 c3 c4 : Nat) (code : List Int) (ss : List Sym) (rs : List Rel) (w0 w : World) (hC : IntsAt w0 A1 .u32 code) (_hS : SymsAt w0 A3 ss) (_hL : RelsAt w0 A4 rs) (hR : ∀ i, i < code.length → 0 ≤ nth code i ∧ nth code i < 4294967296) (_hc : code.length ≤ 1048576) (_hd : nd ≤ 1048576) (_hs : ss.length ≤ 1048576) (_hl : rs.length ≤ 1048576) (_hN : ∀ i, (sName ss i).size ≤ 140737488355328) (_hA : -9223372036854775808 ≤ dA ∧ dA ≤ 9223372036854775807) (hcc : code.length ≤ 16384) (h : Mid nm dA A1 A2 A3 A4 c1 nd c2 c3 c4 code ss rs w0 w) : Calls Tryz.prog 111 #[.pointer (some ⟨w0.heap.size + 1, 0, none⟩), .pointer (some ⟨w0.heap.size + 1 + 1, 0, none⟩)] w fun r w' => r = .returned (.tuple #[.int .i64 (ansQ nm code dA nd ss rs 7).1, .int .i64 (ansQ nm code dA nd ss rs 7).2]) ∧ Mid nm dA A1 A2 A3 A4 c1 nd c2 c3 c4 code ss rs w0 w' := by
  have h' := h
  obtain ⟨hb, o0, o1, o2, o3, o4, o5, f0, f1, f2, f3, f4, f5, f6, f7, m, hm, hsm⟩ := h'
  refine (q8_any nm dA A1 A2 A3 A4 c1 nd c2 ss.length c3 rs.length c4 code _ m _ w o0 o1 o2 o3 o4 o5 (hC.keep hb) hR hcc hm hsm).mono ?_
  rintro r w1 ⟨rfl, hb1⟩
  exact ⟨rfl, mid_on h hb1⟩



end Go.Proofs.YtbckolkgncajfaaGreatDoor
