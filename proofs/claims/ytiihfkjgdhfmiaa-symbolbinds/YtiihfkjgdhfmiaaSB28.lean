/-
  What is asked of an object, as a list of closures; no condition. How things stand between two questions; the lists are at most 2^20 long, names at most 2^47 bytes, words of 32 bits. The calls of package object, each by what it returns; the lists are at most 2^20 long, names at most 2^47 bytes, words of 32 bits, DataAt a number of 64 bits.
-/
import Derived.Test.YtiihfkjgdhfmiaaProg
import Derived.WalkKit
import Derived.WalkSpells
import Derived.WalkLawsBesides
import Derived.RowKit3
import Derived.Below
import Derived.Deep.QuietTactic
import Derived.BigQuiet
import Derived.WalkSmall
import Derived.Test.YtiihfkjgdhfmiaaSB27
import Derived.Test.YtiihfkjgdhfmiaaSB18
import Derived.Great.BuildSlice
import Derived.Test.YtiihfkjgdhfmiaaSB22
namespace Go.Proofs.Ytiihfkjgdhfmiaa
open Go.RowKit

set_option maxRecDepth 100000 in
set_option maxHeartbeats 1000000 in
theorem questions_raw (nm : ByteArray) (dA : Int) (A1 A2 A3 A4 : Option Addr) (nc c1 nd c2 ns c3 nr c4 : Nat) (cs : Array Value) (hz : ∀ w : World, (zeroValue 103).run Try.prog w = .ok (.agg cs) w) (w : World) :
    Calls Try.prog 52 #[.agg #[.string nm, .slice A1 nc c1, .int .i64 dA, .slice A2 nd c2, .slice A3 ns c3, .slice A4 nr c4]] w fun e w' => e = .returned (.slice (some ⟨w.heap.size + 2, 0, none⟩) 8 8) ∧ w' = ((w.alloc (.cells #[.string nm, .slice A1 nc c1, .int .i64 dA, .slice A2 nd c2, .slice A3 ns c3, .slice A4 nr c4] 49)).alloc (.cells cs 103)).alloc (.cells #[.func (.func 57) #[] #[.pointer (some ⟨w.heap.size, 0, none⟩)], .func (.func 60) #[] #[.pointer (some ⟨w.heap.size, 0, none⟩)], .func (.func 61) #[] #[.pointer (some ⟨w.heap.size, 0, none⟩)], .func (.func 62) #[] #[.pointer (some ⟨w.heap.size, 0, none⟩)], .func (.func 63) #[] #[.pointer (some ⟨w.heap.size, 0, none⟩)], .func (.func 65) #[] #[.pointer (some ⟨w.heap.size, 0, none⟩)], .func (.func 67) #[] #[.pointer (some ⟨w.heap.size, 0, none⟩), .pointer (some ⟨w.heap.size + 1, 0, none⟩)], .func (.func 69) #[] #[.pointer (some ⟨w.heap.size, 0, none⟩), .pointer (some ⟨w.heap.size + 1, 0, none⟩)]] 100) := by
  have hmf := mkFn
  go_enter Try.func52, Try.ntmps52
  go_wp2
  go_ret
  exact ⟨rfl, rfl⟩




end Go.Proofs.Ytiihfkjgdhfmiaa

namespace Go.Proofs.Ytiihfkjgdhfmiaa
open Go.RowKit

/-- How things stand between two questions: the object and the questions lie where they lay; the marks are safe. -/
def Mid (nm : ByteArray) (dA : Int) (A1 A2 A3 A4 : Option Addr) (c1 nd c2 c3 c4 : Nat) (code : List Int) (ss : List Sym) (rs : List Rel) (w0 w : World) : Prop :=
  Below w0.heap.size w0 w ∧ w.cell? ⟨w0.heap.size + 1, 0, none⟩ = some (.string nm) ∧ w.cell? ⟨w0.heap.size + 1, 1, none⟩ = some (.slice A1 code.length c1) ∧ w.cell? ⟨w0.heap.size + 1, 2, none⟩ = some (.int .i64 dA) ∧ w.cell? ⟨w0.heap.size + 1, 3, none⟩ = some (.slice A2 nd c2) ∧ w.cell? ⟨w0.heap.size + 1, 4, none⟩ = some (.slice A3 ss.length c3) ∧ w.cell? ⟨w0.heap.size + 1, 5, none⟩ = some (.slice A4 rs.length c4) ∧ w.cell? ⟨w0.heap.size + 1 + 1 + 1, 0, none⟩ = some (.func (.func 57) #[] #[.pointer (some ⟨w0.heap.size + 1, 0, none⟩)]) ∧ w.cell? ⟨w0.heap.size + 1 + 1 + 1, 1, none⟩ = some (.func (.func 60) #[] #[.pointer (some ⟨w0.heap.size + 1, 0, none⟩)]) ∧ w.cell? ⟨w0.heap.size + 1 + 1 + 1, 2, none⟩ = some (.func (.func 61) #[] #[.pointer (some ⟨w0.heap.size + 1, 0, none⟩)]) ∧ w.cell? ⟨w0.heap.size + 1 + 1 + 1, 3, none⟩ = some (.func (.func 62) #[] #[.pointer (some ⟨w0.heap.size + 1, 0, none⟩)]) ∧ w.cell? ⟨w0.heap.size + 1 + 1 + 1, 4, none⟩ = some (.func (.func 63) #[] #[.pointer (some ⟨w0.heap.size + 1, 0, none⟩)]) ∧ w.cell? ⟨w0.heap.size + 1 + 1 + 1, 5, none⟩ = some (.func (.func 65) #[] #[.pointer (some ⟨w0.heap.size + 1, 0, none⟩)]) ∧ w.cell? ⟨w0.heap.size + 1 + 1 + 1, 6, none⟩ = some (.func (.func 67) #[] #[.pointer (some ⟨w0.heap.size + 1, 0, none⟩), .pointer (some ⟨w0.heap.size + 1 + 1, 0, none⟩)]) ∧ w.cell? ⟨w0.heap.size + 1 + 1 + 1, 7, none⟩ = some (.func (.func 69) #[] #[.pointer (some ⟨w0.heap.size + 1, 0, none⟩), .pointer (some ⟨w0.heap.size + 1 + 1, 0, none⟩)]) ∧ ∃ m, MarksAt w (w0.heap.size + 1 + 1) m ∧ Safe code m
theorem mid_but {nm : ByteArray} {dA : Int} {A1 A2 A3 A4 : Option Addr} {c1 nd c2 c3 c4 : Nat} {code : List Int} {ss : List Sym} {rs : List Rel} {w0 w w' : World} (h : Mid nm dA A1 A2 A3 A4 c1 nd c2 c3 c4 code ss rs w0 w) (hb' : But (w0.heap.size + 1 + 1) w w') {m' : Nat → Bool} (hm' : MarksAt w' (w0.heap.size + 1 + 1) m') (hs' : Safe code m') : Mid nm dA A1 A2 A3 A4 c1 nd c2 c3 c4 code ss rs w0 w' := by
  obtain ⟨hb, o0, o1, o2, o3, o4, o5, f0, f1, f2, f3, f4, f5, f6, f7, m, hm, hs⟩ := h
  exact ⟨hb'.below hb (by omega), hb'.cell (by simp) o0, hb'.cell (by simp) o1, hb'.cell (by simp) o2, hb'.cell (by simp) o3, hb'.cell (by simp) o4, hb'.cell (by simp) o5, hb'.cell (by simp) f0, hb'.cell (by simp) f1, hb'.cell (by simp) f2, hb'.cell (by simp) f3, hb'.cell (by simp) f4, hb'.cell (by simp) f5, hb'.cell (by simp) f6, hb'.cell (by simp) f7, m', hm', hs'⟩
theorem mid_on {nm : ByteArray} {dA : Int} {A1 A2 A3 A4 : Option Addr} {c1 nd c2 c3 c4 : Nat} {code : List Int} {ss : List Sym} {rs : List Rel} {w0 w w' : World} (h : Mid nm dA A1 A2 A3 A4 c1 nd c2 c3 c4 code ss rs w0 w) (hb' : Below w.heap.size w w') : Mid nm dA A1 A2 A3 A4 c1 nd c2 c3 c4 code ss rs w0 w' := by
  have h' := h
  obtain ⟨hb, o0, o1, o2, o3, o4, o5, f0, f1, f2, f3, f4, f5, f6, f7, m, hm, hs⟩ := h'
  exact mid_but h (But.of hb') (hm.keep hb') hs
theorem m0_any (nm : ByteArray) (dA : Int) (A1 A2 A3 A4 : Option Addr) (c1 nd c2 c3 c4 : Nat) (code : List Int) (ss : List Sym) (rs : List Rel) (w0 w : World) (_hC : IntsAt w0 A1 .u32 code) (_hS : SymsAt w0 A3 ss) (_hL : RelsAt w0 A4 rs) (_hR : ∀ i, i < code.length → 0 ≤ nth code i ∧ nth code i < 4294967296) (_hc : code.length ≤ 1048576) (_hd : nd ≤ 1048576) (_hs : ss.length ≤ 1048576) (_hl : rs.length ≤ 1048576) (_hN : ∀ i, (sName ss i).size ≤ 140737488355328) (_hA : -9223372036854775808 ≤ dA ∧ dA ≤ 9223372036854775807) (h : Mid nm dA A1 A2 A3 A4 c1 nd c2 c3 c4 code ss rs w0 w) : Calls Try.prog 57 #[.pointer (some ⟨w0.heap.size + 1, 0, none⟩)] w fun r w' => r = .returned (.tuple #[.int .i64 (ansQ nm code dA nd ss rs 0).1, .int .i64 (ansQ nm code dA nd ss rs 0).2]) ∧ Mid nm dA A1 A2 A3 A4 c1 nd c2 c3 c4 code ss rs w0 w' := by
  have h' := h
  obtain ⟨hb, o0, o1, o2, o3, o4, o5, f0, f1, f2, f3, f4, f5, f6, f7, m, hm, hsm⟩ := h'
  refine (q1_any nm dA A1 A2 A3 A4 code.length c1 nd c2 ss.length c3 rs.length c4 _ w o0 o1 o2 o3 o4 o5).mono ?_
  rintro r w1 ⟨rfl, hb1⟩
  exact ⟨rfl, mid_on h hb1⟩
theorem m1_any (nm : ByteArray) (dA : Int) (A1 A2 A3 A4 : Option Addr) (c1 nd c2 c3 c4 : Nat) (code : List Int) (ss : List Sym) (rs : List Rel) (w0 w : World) (_hC : IntsAt w0 A1 .u32 code) (_hS : SymsAt w0 A3 ss) (_hL : RelsAt w0 A4 rs) (_hR : ∀ i, i < code.length → 0 ≤ nth code i ∧ nth code i < 4294967296) (hc : code.length ≤ 1048576) (_hd : nd ≤ 1048576) (_hs : ss.length ≤ 1048576) (_hl : rs.length ≤ 1048576) (_hN : ∀ i, (sName ss i).size ≤ 140737488355328) (_hA : -9223372036854775808 ≤ dA ∧ dA ≤ 9223372036854775807) (h : Mid nm dA A1 A2 A3 A4 c1 nd c2 c3 c4 code ss rs w0 w) : Calls Try.prog 60 #[.pointer (some ⟨w0.heap.size + 1, 0, none⟩)] w fun r w' => r = .returned (.tuple #[.int .i64 (ansQ nm code dA nd ss rs 1).1, .int .i64 (ansQ nm code dA nd ss rs 1).2]) ∧ Mid nm dA A1 A2 A3 A4 c1 nd c2 c3 c4 code ss rs w0 w' := by
  have h' := h
  obtain ⟨hb, o0, o1, o2, o3, o4, o5, f0, f1, f2, f3, f4, f5, f6, f7, m, hm, hsm⟩ := h'
  refine (q2_any nm dA A1 A2 A3 A4 code.length c1 nd c2 ss.length c3 rs.length c4 _ w o0 o1 o2 o3 o4 o5 hc).mono ?_
  rintro r w1 ⟨rfl, hb1⟩
  exact ⟨rfl, mid_on h hb1⟩
theorem m2_any (nm : ByteArray) (dA : Int) (A1 A2 A3 A4 : Option Addr) (c1 nd c2 c3 c4 : Nat) (code : List Int) (ss : List Sym) (rs : List Rel) (w0 w : World) (_hC : IntsAt w0 A1 .u32 code) (_hS : SymsAt w0 A3 ss) (_hL : RelsAt w0 A4 rs) (_hR : ∀ i, i < code.length → 0 ≤ nth code i ∧ nth code i < 4294967296) (_hc : code.length ≤ 1048576) (_hd : nd ≤ 1048576) (hs : ss.length ≤ 1048576) (_hl : rs.length ≤ 1048576) (_hN : ∀ i, (sName ss i).size ≤ 140737488355328) (_hA : -9223372036854775808 ≤ dA ∧ dA ≤ 9223372036854775807) (h : Mid nm dA A1 A2 A3 A4 c1 nd c2 c3 c4 code ss rs w0 w) : Calls Try.prog 61 #[.pointer (some ⟨w0.heap.size + 1, 0, none⟩)] w fun r w' => r = .returned (.tuple #[.int .i64 (ansQ nm code dA nd ss rs 2).1, .int .i64 (ansQ nm code dA nd ss rs 2).2]) ∧ Mid nm dA A1 A2 A3 A4 c1 nd c2 c3 c4 code ss rs w0 w' := by
  have h' := h
  obtain ⟨hb, o0, o1, o2, o3, o4, o5, f0, f1, f2, f3, f4, f5, f6, f7, m, hm, hsm⟩ := h'
  refine (q3_any nm dA A1 A2 A3 A4 code.length c1 nd c2 ss.length c3 rs.length c4 _ w o0 o1 o2 o3 o4 o5 hs).mono ?_
  rintro r w1 ⟨rfl, hb1⟩
  exact ⟨rfl, mid_on h hb1⟩
theorem m3_any (nm : ByteArray) (dA : Int) (A1 A2 A3 A4 : Option Addr) (c1 nd c2 c3 c4 : Nat) (code : List Int) (ss : List Sym) (rs : List Rel) (w0 w : World) (_hC : IntsAt w0 A1 .u32 code) (_hS : SymsAt w0 A3 ss) (_hL : RelsAt w0 A4 rs) (_hR : ∀ i, i < code.length → 0 ≤ nth code i ∧ nth code i < 4294967296) (hc : code.length ≤ 1048576) (_hd : nd ≤ 1048576) (_hs : ss.length ≤ 1048576) (hl : rs.length ≤ 1048576) (_hN : ∀ i, (sName ss i).size ≤ 140737488355328) (_hA : -9223372036854775808 ≤ dA ∧ dA ≤ 9223372036854775807) (h : Mid nm dA A1 A2 A3 A4 c1 nd c2 c3 c4 code ss rs w0 w) : Calls Try.prog 62 #[.pointer (some ⟨w0.heap.size + 1, 0, none⟩)] w fun r w' => r = .returned (.tuple #[.int .i64 (ansQ nm code dA nd ss rs 3).1, .int .i64 (ansQ nm code dA nd ss rs 3).2]) ∧ Mid nm dA A1 A2 A3 A4 c1 nd c2 c3 c4 code ss rs w0 w' := by
  have h' := h
  obtain ⟨hb, o0, o1, o2, o3, o4, o5, f0, f1, f2, f3, f4, f5, f6, f7, m, hm, hsm⟩ := h'
  refine (q4_any nm dA A1 A2 A3 A4 code.length c1 nd c2 ss.length c3 rs.length c4 _ w o0 o1 o2 o3 o4 o5 hc hl).mono ?_
  rintro r w1 ⟨rfl, hb1⟩
  exact ⟨rfl, mid_on h hb1⟩
theorem m4_any (nm : ByteArray) (dA : Int) (A1 A2 A3 A4 : Option Addr) (c1 nd c2 c3 c4 : Nat) (code : List Int) (ss : List Sym) (rs : List Rel) (w0 w : World) (_hC : IntsAt w0 A1 .u32 code) (_hS : SymsAt w0 A3 ss) (_hL : RelsAt w0 A4 rs) (_hR : ∀ i, i < code.length → 0 ≤ nth code i ∧ nth code i < 4294967296) (_hc : code.length ≤ 1048576) (hd : nd ≤ 1048576) (_hs : ss.length ≤ 1048576) (_hl : rs.length ≤ 1048576) (_hN : ∀ i, (sName ss i).size ≤ 140737488355328) (hA : -9223372036854775808 ≤ dA ∧ dA ≤ 9223372036854775807) (h : Mid nm dA A1 A2 A3 A4 c1 nd c2 c3 c4 code ss rs w0 w) : Calls Try.prog 63 #[.pointer (some ⟨w0.heap.size + 1, 0, none⟩)] w fun r w' => r = .returned (.tuple #[.int .i64 (ansQ nm code dA nd ss rs 4).1, .int .i64 (ansQ nm code dA nd ss rs 4).2]) ∧ Mid nm dA A1 A2 A3 A4 c1 nd c2 c3 c4 code ss rs w0 w' := by
  have h' := h
  obtain ⟨hb, o0, o1, o2, o3, o4, o5, f0, f1, f2, f3, f4, f5, f6, f7, m, hm, hsm⟩ := h'
  refine (q5_any nm dA A1 A2 A3 A4 code.length c1 nd c2 ss.length c3 rs.length c4 _ w o0 o1 o2 o3 o4 o5 hd hA.1 hA.2).mono ?_
  rintro r w1 ⟨rfl, hb1⟩
  exact ⟨rfl, mid_on h hb1⟩
theorem m5_any (nm : ByteArray) (dA : Int) (A1 A2 A3 A4 : Option Addr) (c1 nd c2 c3 c4 : Nat) (code : List Int) (ss : List Sym) (rs : List Rel) (w0 w : World) (_hC : IntsAt w0 A1 .u32 code) (hS : SymsAt w0 A3 ss) (_hL : RelsAt w0 A4 rs) (_hR : ∀ i, i < code.length → 0 ≤ nth code i ∧ nth code i < 4294967296) (_hc : code.length ≤ 1048576) (_hd : nd ≤ 1048576) (hs : ss.length ≤ 1048576) (_hl : rs.length ≤ 1048576) (hN : ∀ i, (sName ss i).size ≤ 140737488355328) (_hA : -9223372036854775808 ≤ dA ∧ dA ≤ 9223372036854775807) (h : Mid nm dA A1 A2 A3 A4 c1 nd c2 c3 c4 code ss rs w0 w) : Calls Try.prog 65 #[.pointer (some ⟨w0.heap.size + 1, 0, none⟩)] w fun r w' => r = .returned (.tuple #[.int .i64 (ansQ nm code dA nd ss rs 5).1, .int .i64 (ansQ nm code dA nd ss rs 5).2]) ∧ Mid nm dA A1 A2 A3 A4 c1 nd c2 c3 c4 code ss rs w0 w' := by
  have h' := h
  obtain ⟨hb, o0, o1, o2, o3, o4, o5, f0, f1, f2, f3, f4, f5, f6, f7, m, hm, hsm⟩ := h'
  refine (q6_any nm dA A1 A2 A3 A4 code.length c1 nd c2 c3 rs.length c4 ss _ w o0 o1 o2 o3 o4 o5 (hS.keep hb) hs hN).mono ?_
  rintro r w1 ⟨rfl, hb1⟩
  exact ⟨rfl, mid_on h hb1⟩
theorem m6_any (nm : ByteArray) (dA : Int) (A1 A2 A3 A4 : Option Addr) (c1 nd c2 c3 c4 : Nat) (code : List Int) (ss : List Sym) (rs : List Rel) (w0 w : World) (hC : IntsAt w0 A1 .u32 code) (_hS : SymsAt w0 A3 ss) (hL : RelsAt w0 A4 rs) (hR : ∀ i, i < code.length → 0 ≤ nth code i ∧ nth code i < 4294967296) (_hc : code.length ≤ 1048576) (_hd : nd ≤ 1048576) (_hs : ss.length ≤ 1048576) (hl : rs.length ≤ 1048576) (_hN : ∀ i, (sName ss i).size ≤ 140737488355328) (_hA : -9223372036854775808 ≤ dA ∧ dA ≤ 9223372036854775807) (hcc : code.length ≤ 16384) (h : Mid nm dA A1 A2 A3 A4 c1 nd c2 c3 c4 code ss rs w0 w) : Calls Try.prog 67 #[.pointer (some ⟨w0.heap.size + 1, 0, none⟩), .pointer (some ⟨w0.heap.size + 1 + 1, 0, none⟩)] w fun r w' => r = .returned (.tuple #[.int .i64 (ansQ nm code dA nd ss rs 6).1, .int .i64 (ansQ nm code dA nd ss rs 6).2]) ∧ Mid nm dA A1 A2 A3 A4 c1 nd c2 c3 c4 code ss rs w0 w' := by
  have h' := h
  obtain ⟨hb, o0, o1, o2, o3, o4, o5, f0, f1, f2, f3, f4, f5, f6, f7, m, hm, hsm⟩ := h'
  refine (q7_any nm dA A1 A2 A3 A4 c1 nd c2 ss.length c3 c4 code rs _ m _ w0 w o0 o1 o2 o3 o4 o5 hC hR hL hb (by omega) hl hcc hm hsm).mono ?_
  rintro r w1 ⟨rfl, hb1, m1, hm1, hs1⟩
  exact ⟨rfl, mid_but h hb1 hm1 hs1⟩
theorem m7_any (nm : ByteArray) (dA : Int) (A1 A2 A3 A4 : Option Addr) (c1 nd c2 c3 c4 : Nat) (code : List Int) (ss : List Sym) (rs : List Rel) (w0 w : World) (hC : IntsAt w0 A1 .u32 code) (_hS : SymsAt w0 A3 ss) (_hL : RelsAt w0 A4 rs) (hR : ∀ i, i < code.length → 0 ≤ nth code i ∧ nth code i < 4294967296) (_hc : code.length ≤ 1048576) (_hd : nd ≤ 1048576) (_hs : ss.length ≤ 1048576) (_hl : rs.length ≤ 1048576) (_hN : ∀ i, (sName ss i).size ≤ 140737488355328) (_hA : -9223372036854775808 ≤ dA ∧ dA ≤ 9223372036854775807) (hcc : code.length ≤ 16384) (h : Mid nm dA A1 A2 A3 A4 c1 nd c2 c3 c4 code ss rs w0 w) : Calls Try.prog 69 #[.pointer (some ⟨w0.heap.size + 1, 0, none⟩), .pointer (some ⟨w0.heap.size + 1 + 1, 0, none⟩)] w fun r w' => r = .returned (.tuple #[.int .i64 (ansQ nm code dA nd ss rs 7).1, .int .i64 (ansQ nm code dA nd ss rs 7).2]) ∧ Mid nm dA A1 A2 A3 A4 c1 nd c2 c3 c4 code ss rs w0 w' := by
  have h' := h
  obtain ⟨hb, o0, o1, o2, o3, o4, o5, f0, f1, f2, f3, f4, f5, f6, f7, m, hm, hsm⟩ := h'
  refine (q8_any nm dA A1 A2 A3 A4 c1 nd c2 ss.length c3 rs.length c4 code _ m _ w o0 o1 o2 o3 o4 o5 (hC.keep hb) hR hcc hm hsm).mono ?_
  rintro r w1 ⟨rfl, hb1⟩
  exact ⟨rfl, mid_on h hb1⟩




end Go.Proofs.Ytiihfkjgdhfmiaa

namespace Go.Proofs.Ytiihfkjgdhfmiaa
open Go.RowKit

set_option maxRecDepth 100000 in
theorem mid_start (nm : ByteArray) (dA : Int) (A1 A2 A3 A4 : Option Addr) (c1 nd c2 c3 c4 : Nat) (code : List Int) (ss : List Sym) (rs : List Rel) (cs : Array Value) (hz1 : ∀ i, i < 16384 → cs[i]? = some (.bool false)) (w : World) : Mid nm dA A1 A2 A3 A4 c1 nd c2 c3 c4 code ss rs w ((((w.alloc (.cells #[.string nm, .slice A1 code.length c1, .int .i64 dA, .slice A2 nd c2, .slice A3 ss.length c3, .slice A4 rs.length c4] 49)).alloc (.cells #[.string nm, .slice A1 code.length c1, .int .i64 dA, .slice A2 nd c2, .slice A3 ss.length c3, .slice A4 rs.length c4] 49)).alloc (.cells cs 103)).alloc (.cells #[.func (.func 57) #[] #[.pointer (some ⟨w.heap.size + 1, 0, none⟩)], .func (.func 60) #[] #[.pointer (some ⟨w.heap.size + 1, 0, none⟩)], .func (.func 61) #[] #[.pointer (some ⟨w.heap.size + 1, 0, none⟩)], .func (.func 62) #[] #[.pointer (some ⟨w.heap.size + 1, 0, none⟩)], .func (.func 63) #[] #[.pointer (some ⟨w.heap.size + 1, 0, none⟩)], .func (.func 65) #[] #[.pointer (some ⟨w.heap.size + 1, 0, none⟩)], .func (.func 67) #[] #[.pointer (some ⟨w.heap.size + 1, 0, none⟩), .pointer (some ⟨w.heap.size + 1 + 1, 0, none⟩)], .func (.func 69) #[] #[.pointer (some ⟨w.heap.size + 1, 0, none⟩), .pointer (some ⟨w.heap.size + 1 + 1, 0, none⟩)]] 100)) := by
  refine ⟨?_, ?_, ?_, ?_, ?_, ?_, ?_, ?_, ?_, ?_, ?_, ?_, ?_, ?_, ?_, fun _ => false, ⟨?_, ?_⟩, ?_⟩
  · exact lb_alloc (lb_alloc (lb_alloc (lb_alloc (Below.refl _ _) _) _) _) _
  all_goals first
    | (simp [go_sem]; done)
    | (intro i hi; simp [go_sem, hz1 i hi]; done)
    | (intro i; simp [go_sem]; done)
    | (intro i hi; cases hi)
set_option maxRecDepth 100000 in
set_option maxHeartbeats 4000000 in
theorem objcheck_any (nm : ByteArray) (dA : Int) (A1 A2 A3 A4 : Option Addr) (c1 nd c2 c3 c4 : Nat) (code : List Int) (ss : List Sym) (rs : List Rel) (w : World) (hC : IntsAt w A1 .u32 code) (hS : SymsAt w A3 ss) (hL : RelsAt w A4 rs) (hR : ∀ i, i < code.length → 0 ≤ nth code i ∧ nth code i < 4294967296) (hc : code.length ≤ 1048576) (hd : nd ≤ 1048576) (hs : ss.length ≤ 1048576) (hl : rs.length ≤ 1048576) (hN : ∀ i, (sName ss i).size ≤ 140737488355328) (hA : -9223372036854775808 ≤ dA ∧ dA ≤ 9223372036854775807) : Calls Try.prog 36 #[.agg #[.string nm, .slice A1 code.length c1, .int .i64 dA, .slice A2 nd c2, .slice A3 ss.length c3, .slice A4 rs.length c4]] w fun e w' => e = .returned (.tuple #[.int .i64 (checkC nm code dA nd ss rs).1, .int .i64 (checkC nm code dA nd ss rs).2]) ∧ Below w.heap.size w w' := by
  obtain ⟨cs, _, hz1, hz⟩ := zero73
  have HM0 : Hid (Mid nm dA A1 A2 A3 A4 c1 nd c2 c3 c4 code ss rs w ((((w.alloc (.cells #[.string nm, .slice A1 code.length c1, .int .i64 dA, .slice A2 nd c2, .slice A3 ss.length c3, .slice A4 rs.length c4] 49)).alloc (.cells #[.string nm, .slice A1 code.length c1, .int .i64 dA, .slice A2 nd c2, .slice A3 ss.length c3, .slice A4 rs.length c4] 49)).alloc (.cells cs 103)).alloc (.cells #[.func (.func 57) #[] #[.pointer (some ⟨w.heap.size + 1, 0, none⟩)], .func (.func 60) #[] #[.pointer (some ⟨w.heap.size + 1, 0, none⟩)], .func (.func 61) #[] #[.pointer (some ⟨w.heap.size + 1, 0, none⟩)], .func (.func 62) #[] #[.pointer (some ⟨w.heap.size + 1, 0, none⟩)], .func (.func 63) #[] #[.pointer (some ⟨w.heap.size + 1, 0, none⟩)], .func (.func 65) #[] #[.pointer (some ⟨w.heap.size + 1, 0, none⟩)], .func (.func 67) #[] #[.pointer (some ⟨w.heap.size + 1, 0, none⟩), .pointer (some ⟨w.heap.size + 1 + 1, 0, none⟩)], .func (.func 69) #[] #[.pointer (some ⟨w.heap.size + 1, 0, none⟩), .pointer (some ⟨w.heap.size + 1 + 1, 0, none⟩)]] 100))) := mid_start nm dA A1 A2 A3 A4 c1 nd c2 c3 c4 code ss rs cs hz1 w
  go_enter Try.func36, Try.ntmps36
  go_wp2_with fail
  refine (questions_raw nm dA A1 A2 A3 A4 code.length c1 nd c2 ss.length c3 rs.length c4 cs hz _).mono ?_
  rintro e w1 ⟨rfl, hw1⟩
  have HM : Hid (Mid nm dA A1 A2 A3 A4 c1 nd c2 c3 c4 code ss rs w w1) := by
    have e1 : (w.alloc (.cells #[.string nm, .slice A1 code.length c1, .int .i64 dA, .slice A2 nd c2, .slice A3 ss.length c3, .slice A4 rs.length c4] 49)).heap.size = w.heap.size + 1 := by simp
    rw [hw1, e1]
    exact HM0.out
  clear hw1 HM0 hz hz1
  go_wp2
  go_loopw [11] (fun i wr => ∃ k : Nat, i = .int .i64 k ∧ k ≤ 8 ∧ Hid (Mid nm dA A1 A2 A3 A4 c1 nd c2 c3 c4 code ss rs w wr) ∧ Hid (∀ j, j < k → (ansQ nm code dA nd ss rs j).1 = 0)) (fun i _ => 8 - (intOf i).toNat)
  case atStart => exact ⟨0, rfl, by omega, HM, fun j hj => by omega⟩
  case round =>
    obtain ⟨k, rfl, hk, HW, HT⟩ := hrel
    rename_i wr _
    have HH : Hid (k < 8 → ¬ (ansQ nm code dA nd ss rs k).1 = 0 → checkC nm code dA nd ss rs = ansQ nm code dA nd ss rs k) := fun h e => ans_hit k h HT.out e
    have HX : Hid ((ansQ nm code dA nd ss rs k).1 = 0 → ∀ j, j < k + 1 → (ansQ nm code dA nd ss rs j).1 = 0) := fun h j hj => by
      by_cases hjk : j = k
      · rw [hjk]; exact h
      · exact HT.out j (by omega)
    by_cases hk8 : k < 8
    · have hh := HW.out
      obtain ⟨_, _, _, _, _, _, _, f0, f1, f2, f3, f4, f5, f6, f7, _⟩ := hh
      rcases (show k = 0 ∨ k = 1 ∨ k = 2 ∨ k = 3 ∨ k = 4 ∨ k = 5 ∨ k = 6 ∨ k = 7 by omega) with rfl | rfl | rfl | rfl | rfl | rfl | rfl | rfl
      · clear f1 f2 f3 f4 f5 f6 f7
        have C := m0_any nm dA A1 A2 A3 A4 c1 nd c2 c3 c4 code ss rs w wr hC hS hL hR hc hd hs hl hN hA HW.out
        cases hz0 : ((ansQ nm code dA nd ss rs 0).1 == 0) with
        | true =>
          have hz1 : (ansQ nm code dA nd ss rs 0).1 = 0 := by simpa using hz0
          have HX1 : Hid _ := HX.out hz1
          rw [hz1] at C
          clear hz0 hz1 HH HX HT
          go_wp2_with (go_at_call 57; refine C.mono ?_; rintro e w2 ⟨rfl, hm2⟩)
          rename_i hm2
          go_roundw
          case rel => exact ⟨0 + 1, by go_num, by omega, hm2, HX1.out⟩
          case measure => simp [intOf]
        | false =>
          have HX1 : Hid _ := HH.out hk8 (by simpa using hz0)
          have hz1 : ((ansQ nm code dA nd ss rs 0).1 != 0) = true := by simpa using hz0
          clear HH HX HT
          generalize ansQ nm code dA nd ss rs 0 = Y at C hz0 hz1 HX1
          go_wp2_with (go_at_call 57; refine C.mono ?_; rintro e w2 ⟨rfl, hm2⟩)
          rename_i hm2
          go_ret2
          exact ⟨ret2I (by rw [HX1.out]), hm2.1⟩
      · clear f0 f2 f3 f4 f5 f6 f7
        have C := m1_any nm dA A1 A2 A3 A4 c1 nd c2 c3 c4 code ss rs w wr hC hS hL hR hc hd hs hl hN hA HW.out
        cases hz0 : ((ansQ nm code dA nd ss rs 1).1 == 0) with
        | true =>
          have hz1 : (ansQ nm code dA nd ss rs 1).1 = 0 := by simpa using hz0
          have HX1 : Hid _ := HX.out hz1
          rw [hz1] at C
          clear hz0 hz1 HH HX HT
          go_wp2_with (go_at_call 60; refine C.mono ?_; rintro e w2 ⟨rfl, hm2⟩)
          rename_i hm2
          go_roundw
          case rel => exact ⟨1 + 1, by go_num, by omega, hm2, HX1.out⟩
          case measure => simp [intOf]
        | false =>
          have HX1 : Hid _ := HH.out hk8 (by simpa using hz0)
          have hz1 : ((ansQ nm code dA nd ss rs 1).1 != 0) = true := by simpa using hz0
          clear HH HX HT
          generalize ansQ nm code dA nd ss rs 1 = Y at C hz0 hz1 HX1
          go_wp2_with (go_at_call 60; refine C.mono ?_; rintro e w2 ⟨rfl, hm2⟩)
          rename_i hm2
          go_ret2
          exact ⟨ret2I (by rw [HX1.out]), hm2.1⟩
      · clear f0 f1 f3 f4 f5 f6 f7
        have C := m2_any nm dA A1 A2 A3 A4 c1 nd c2 c3 c4 code ss rs w wr hC hS hL hR hc hd hs hl hN hA HW.out
        cases hz0 : ((ansQ nm code dA nd ss rs 2).1 == 0) with
        | true =>
          have hz1 : (ansQ nm code dA nd ss rs 2).1 = 0 := by simpa using hz0
          have HX1 : Hid _ := HX.out hz1
          rw [hz1] at C
          clear hz0 hz1 HH HX HT
          go_wp2_with (go_at_call 61; refine C.mono ?_; rintro e w2 ⟨rfl, hm2⟩)
          rename_i hm2
          go_roundw
          case rel => exact ⟨2 + 1, by go_num, by omega, hm2, HX1.out⟩
          case measure => simp [intOf]
        | false =>
          have HX1 : Hid _ := HH.out hk8 (by simpa using hz0)
          have hz1 : ((ansQ nm code dA nd ss rs 2).1 != 0) = true := by simpa using hz0
          clear HH HX HT
          generalize ansQ nm code dA nd ss rs 2 = Y at C hz0 hz1 HX1
          go_wp2_with (go_at_call 61; refine C.mono ?_; rintro e w2 ⟨rfl, hm2⟩)
          rename_i hm2
          go_ret2
          exact ⟨ret2I (by rw [HX1.out]), hm2.1⟩
      · clear f0 f1 f2 f4 f5 f6 f7
        have C := m3_any nm dA A1 A2 A3 A4 c1 nd c2 c3 c4 code ss rs w wr hC hS hL hR hc hd hs hl hN hA HW.out
        cases hz0 : ((ansQ nm code dA nd ss rs 3).1 == 0) with
        | true =>
          have hz1 : (ansQ nm code dA nd ss rs 3).1 = 0 := by simpa using hz0
          have HX1 : Hid _ := HX.out hz1
          rw [hz1] at C
          clear hz0 hz1 HH HX HT
          go_wp2_with (go_at_call 62; refine C.mono ?_; rintro e w2 ⟨rfl, hm2⟩)
          rename_i hm2
          go_roundw
          case rel => exact ⟨3 + 1, by go_num, by omega, hm2, HX1.out⟩
          case measure => simp [intOf]
        | false =>
          have HX1 : Hid _ := HH.out hk8 (by simpa using hz0)
          have hz1 : ((ansQ nm code dA nd ss rs 3).1 != 0) = true := by simpa using hz0
          clear HH HX HT
          generalize ansQ nm code dA nd ss rs 3 = Y at C hz0 hz1 HX1
          go_wp2_with (go_at_call 62; refine C.mono ?_; rintro e w2 ⟨rfl, hm2⟩)
          rename_i hm2
          go_ret2
          exact ⟨ret2I (by rw [HX1.out]), hm2.1⟩
      · clear f0 f1 f2 f3 f5 f6 f7
        have C := m4_any nm dA A1 A2 A3 A4 c1 nd c2 c3 c4 code ss rs w wr hC hS hL hR hc hd hs hl hN hA HW.out
        cases hz0 : ((ansQ nm code dA nd ss rs 4).1 == 0) with
        | true =>
          have hz1 : (ansQ nm code dA nd ss rs 4).1 = 0 := by simpa using hz0
          have HX1 : Hid _ := HX.out hz1
          rw [hz1] at C
          clear hz0 hz1 HH HX HT
          go_wp2_with (go_at_call 63; refine C.mono ?_; rintro e w2 ⟨rfl, hm2⟩)
          rename_i hm2
          go_roundw
          case rel => exact ⟨4 + 1, by go_num, by omega, hm2, HX1.out⟩
          case measure => simp [intOf]
        | false =>
          have HX1 : Hid _ := HH.out hk8 (by simpa using hz0)
          have hz1 : ((ansQ nm code dA nd ss rs 4).1 != 0) = true := by simpa using hz0
          clear HH HX HT
          generalize ansQ nm code dA nd ss rs 4 = Y at C hz0 hz1 HX1
          go_wp2_with (go_at_call 63; refine C.mono ?_; rintro e w2 ⟨rfl, hm2⟩)
          rename_i hm2
          go_ret2
          exact ⟨ret2I (by rw [HX1.out]), hm2.1⟩
      · clear f0 f1 f2 f3 f4 f6 f7
        have C := m5_any nm dA A1 A2 A3 A4 c1 nd c2 c3 c4 code ss rs w wr hC hS hL hR hc hd hs hl hN hA HW.out
        cases hz0 : ((ansQ nm code dA nd ss rs 5).1 == 0) with
        | true =>
          have hz1 : (ansQ nm code dA nd ss rs 5).1 = 0 := by simpa using hz0
          have HX1 : Hid _ := HX.out hz1
          rw [hz1] at C
          clear hz0 hz1 HH HX HT
          go_wp2_with (go_at_call 65; refine C.mono ?_; rintro e w2 ⟨rfl, hm2⟩)
          rename_i hm2
          go_roundw
          case rel => exact ⟨5 + 1, by go_num, by omega, hm2, HX1.out⟩
          case measure => simp [intOf]
        | false =>
          have HX1 : Hid _ := HH.out hk8 (by simpa using hz0)
          have hz1 : ((ansQ nm code dA nd ss rs 5).1 != 0) = true := by simpa using hz0
          clear HH HX HT
          generalize ansQ nm code dA nd ss rs 5 = Y at C hz0 hz1 HX1
          go_wp2_with (go_at_call 65; refine C.mono ?_; rintro e w2 ⟨rfl, hm2⟩)
          rename_i hm2
          go_ret2
          exact ⟨ret2I (by rw [HX1.out]), hm2.1⟩
      · clear f0 f1 f2 f3 f4 f5 f7
        have C := m6_any nm dA A1 A2 A3 A4 c1 nd c2 c3 c4 code ss rs w wr hC hS hL hR hc hd hs hl hN hA (by have := z1 (HT.out 1 (by omega)); omega) HW.out
        cases hz0 : ((ansQ nm code dA nd ss rs 6).1 == 0) with
        | true =>
          have hz1 : (ansQ nm code dA nd ss rs 6).1 = 0 := by simpa using hz0
          have HX1 : Hid _ := HX.out hz1
          rw [hz1] at C
          clear hz0 hz1 HH HX HT
          go_wp2_with (go_at_call 67; refine C.mono ?_; rintro e w2 ⟨rfl, hm2⟩)
          rename_i hm2
          go_roundw
          case rel => exact ⟨6 + 1, by go_num, by omega, hm2, HX1.out⟩
          case measure => simp [intOf]
        | false =>
          have HX1 : Hid _ := HH.out hk8 (by simpa using hz0)
          have hz1 : ((ansQ nm code dA nd ss rs 6).1 != 0) = true := by simpa using hz0
          clear HH HX HT
          generalize ansQ nm code dA nd ss rs 6 = Y at C hz0 hz1 HX1
          go_wp2_with (go_at_call 67; refine C.mono ?_; rintro e w2 ⟨rfl, hm2⟩)
          rename_i hm2
          go_ret2
          exact ⟨ret2I (by rw [HX1.out]), hm2.1⟩
      · clear f0 f1 f2 f3 f4 f5 f6
        have C := m7_any nm dA A1 A2 A3 A4 c1 nd c2 c3 c4 code ss rs w wr hC hS hL hR hc hd hs hl hN hA (by have := z1 (HT.out 1 (by omega)); omega) HW.out
        cases hz0 : ((ansQ nm code dA nd ss rs 7).1 == 0) with
        | true =>
          have hz1 : (ansQ nm code dA nd ss rs 7).1 = 0 := by simpa using hz0
          have HX1 : Hid _ := HX.out hz1
          rw [hz1] at C
          clear hz0 hz1 HH HX HT
          go_wp2_with (go_at_call 69; refine C.mono ?_; rintro e w2 ⟨rfl, hm2⟩)
          rename_i hm2
          go_roundw
          case rel => exact ⟨7 + 1, by go_num, by omega, hm2, HX1.out⟩
          case measure => simp [intOf]
        | false =>
          have HX1 : Hid _ := HH.out hk8 (by simpa using hz0)
          have hz1 : ((ansQ nm code dA nd ss rs 7).1 != 0) = true := by simpa using hz0
          clear HH HX HT
          generalize ansQ nm code dA nd ss rs 7 = Y at C hz0 hz1 HX1
          go_wp2_with (go_at_call 69; refine C.mono ?_; rintro e w2 ⟨rfl, hm2⟩)
          rename_i hm2
          go_ret2
          exact ⟨ret2I (by rw [HX1.out]), hm2.1⟩
    · have HC : Hid (checkC nm code dA nd ss rs = (0, 0)) := ans_none fun j hj => HT.out j (by omega)
      go_wp2
      go_ret2
      exact ⟨ret2I (by rw [HC.out]), HW.out.1⟩




end Go.Proofs.Ytiihfkjgdhfmiaa
