/-
  How things stand between two questions; the lists are at most 2^20 long, names at most 2^47 bytes, words of 32 bits. The calls of package object, each by what it returns; the lists are at most 2^20 long, names at most 2^47 bytes, words of 32 bits, DataAt a number of 64 bits. The program writes lists of numbers into an output; what is written is at most 2^20 bytes. The program writes lists of symbols and relocations into an output; what is written is at most 2^20 bytes.
-/
import Derived.Test.YthpkekpojhmaaaaGreatDoorProg
import Derived.WalkKit
import Derived.WalkSpells
import Derived.WalkLawsBesides
import Derived.RowKit3
import Derived.Below
import Derived.Deep.QuietTactic
import Derived.BigQuiet
import Derived.WalkSmall
import Derived.Test.YthpkekpojhmaaaaGreatDoorP08
import Derived.Test.YthpkekpojhmaaaaGreatDoorP09
import Derived.Test.YthpkekpojhmaaaaGreatDoorP14
import Derived.Laws.Rows
import Derived.Test.YthpkekpojhmaaaaGreatDoorP07
namespace Go.Proofs.YthpkekpojhmaaaaGreatDoor
open Go.RowKit

/-- How things stand between two questions: the object and the questions lie where they lay; the marks are safe. -/
def Mid (nm : ByteArray) (dA : Int) (A1 A2 A3 A4 : Option Addr) (c1 nd c2 c3 c4 : Nat) (code : List Int) (ss : List Sym) (rs : List Rel) (w0 w : World) : Prop :=
  Below w0.heap.size w0 w ∧ w.cell? ⟨w0.heap.size + 1, 0, none⟩ = some (.string nm) ∧ w.cell? ⟨w0.heap.size + 1, 1, none⟩ = some (.slice A1 code.length c1) ∧ w.cell? ⟨w0.heap.size + 1, 2, none⟩ = some (.int .i64 dA) ∧ w.cell? ⟨w0.heap.size + 1, 3, none⟩ = some (.slice A2 nd c2) ∧ w.cell? ⟨w0.heap.size + 1, 4, none⟩ = some (.slice A3 ss.length c3) ∧ w.cell? ⟨w0.heap.size + 1, 5, none⟩ = some (.slice A4 rs.length c4) ∧ w.cell? ⟨w0.heap.size + 1 + 1 + 1, 0, none⟩ = some (.func (.func 150) #[] #[.pointer (some ⟨w0.heap.size + 1, 0, none⟩)]) ∧ w.cell? ⟨w0.heap.size + 1 + 1 + 1, 1, none⟩ = some (.func (.func 153) #[] #[.pointer (some ⟨w0.heap.size + 1, 0, none⟩)]) ∧ w.cell? ⟨w0.heap.size + 1 + 1 + 1, 2, none⟩ = some (.func (.func 154) #[] #[.pointer (some ⟨w0.heap.size + 1, 0, none⟩)]) ∧ w.cell? ⟨w0.heap.size + 1 + 1 + 1, 3, none⟩ = some (.func (.func 155) #[] #[.pointer (some ⟨w0.heap.size + 1, 0, none⟩)]) ∧ w.cell? ⟨w0.heap.size + 1 + 1 + 1, 4, none⟩ = some (.func (.func 156) #[] #[.pointer (some ⟨w0.heap.size + 1, 0, none⟩)]) ∧ w.cell? ⟨w0.heap.size + 1 + 1 + 1, 5, none⟩ = some (.func (.func 158) #[] #[.pointer (some ⟨w0.heap.size + 1, 0, none⟩)]) ∧ w.cell? ⟨w0.heap.size + 1 + 1 + 1, 6, none⟩ = some (.func (.func 160) #[] #[.pointer (some ⟨w0.heap.size + 1, 0, none⟩), .pointer (some ⟨w0.heap.size + 1 + 1, 0, none⟩)]) ∧ w.cell? ⟨w0.heap.size + 1 + 1 + 1, 7, none⟩ = some (.func (.func 162) #[] #[.pointer (some ⟨w0.heap.size + 1, 0, none⟩), .pointer (some ⟨w0.heap.size + 1 + 1, 0, none⟩)]) ∧ ∃ m, MarksAt w (w0.heap.size + 1 + 1) m ∧ Safe code m
theorem mid_but {nm : ByteArray} {dA : Int} {A1 A2 A3 A4 : Option Addr} {c1 nd c2 c3 c4 : Nat} {code : List Int} {ss : List Sym} {rs : List Rel} {w0 w w' : World} (h : Mid nm dA A1 A2 A3 A4 c1 nd c2 c3 c4 code ss rs w0 w) (hb' : But (w0.heap.size + 1 + 1) w w') {m' : Nat → Bool} (hm' : MarksAt w' (w0.heap.size + 1 + 1) m') (hs' : Safe code m') : Mid nm dA A1 A2 A3 A4 c1 nd c2 c3 c4 code ss rs w0 w' := by
  obtain ⟨hb, o0, o1, o2, o3, o4, o5, f0, f1, f2, f3, f4, f5, f6, f7, m, hm, hs⟩ := h
  exact ⟨hb'.below hb (by omega), hb'.cell (by simp) o0, hb'.cell (by simp) o1, hb'.cell (by simp) o2, hb'.cell (by simp) o3, hb'.cell (by simp) o4, hb'.cell (by simp) o5, hb'.cell (by simp) f0, hb'.cell (by simp) f1, hb'.cell (by simp) f2, hb'.cell (by simp) f3, hb'.cell (by simp) f4, hb'.cell (by simp) f5, hb'.cell (by simp) f6, hb'.cell (by simp) f7, m', hm', hs'⟩
theorem mid_on {nm : ByteArray} {dA : Int} {A1 A2 A3 A4 : Option Addr} {c1 nd c2 c3 c4 : Nat} {code : List Int} {ss : List Sym} {rs : List Rel} {w0 w w' : World} (h : Mid nm dA A1 A2 A3 A4 c1 nd c2 c3 c4 code ss rs w0 w) (hb' : Below w.heap.size w w') : Mid nm dA A1 A2 A3 A4 c1 nd c2 c3 c4 code ss rs w0 w' := by
  have h' := h
  obtain ⟨hb, o0, o1, o2, o3, o4, o5, f0, f1, f2, f3, f4, f5, f6, f7, m, hm, hs⟩ := h'
  exact mid_but h (But.of hb') (hm.keep hb') hs
theorem m0_any (nm : ByteArray) (dA : Int) (A1 A2 A3 A4 : Option Addr) (c1 nd c2 c3 c4 : Nat) (code : List Int) (ss : List Sym) (rs : List Rel) (w0 w : World) (_hC : IntsAt w0 A1 .u32 code) (_hS : SymsAt w0 A3 ss) (_hL : RelsAt w0 A4 rs) (_hR : ∀ i, i < code.length → 0 ≤ nth code i ∧ nth code i < 4294967296) (_hc : code.length ≤ 1048576) (_hd : nd ≤ 1048576) (_hs : ss.length ≤ 1048576) (_hl : rs.length ≤ 1048576) (_hN : ∀ i, (sName ss i).size ≤ 140737488355328) (_hA : -9223372036854775808 ≤ dA ∧ dA ≤ 9223372036854775807) (h : Mid nm dA A1 A2 A3 A4 c1 nd c2 c3 c4 code ss rs w0 w) : Calls Tryz.prog 150 #[.pointer (some ⟨w0.heap.size + 1, 0, none⟩)] w fun r w' => r = .returned (.tuple #[.int .i64 (ansQ nm code dA nd ss rs 0).1, .int .i64 (ansQ nm code dA nd ss rs 0).2]) ∧ Mid nm dA A1 A2 A3 A4 c1 nd c2 c3 c4 code ss rs w0 w' := by
  have h' := h
  obtain ⟨hb, o0, o1, o2, o3, o4, o5, f0, f1, f2, f3, f4, f5, f6, f7, m, hm, hsm⟩ := h'
  refine (q1_any nm dA A1 A2 A3 A4 code.length c1 nd c2 ss.length c3 rs.length c4 _ w o0 o1 o2 o3 o4 o5).mono ?_
  rintro r w1 ⟨rfl, hb1⟩
  exact ⟨rfl, mid_on h hb1⟩
theorem m1_any (nm : ByteArray) (dA : Int) (A1 A2 A3 A4 : Option Addr) (c1 nd c2 c3 c4 : Nat) (code : List Int) (ss : List Sym) (rs : List Rel) (w0 w : World) (_hC : IntsAt w0 A1 .u32 code) (_hS : SymsAt w0 A3 ss) (_hL : RelsAt w0 A4 rs) (_hR : ∀ i, i < code.length → 0 ≤ nth code i ∧ nth code i < 4294967296) (hc : code.length ≤ 1048576) (_hd : nd ≤ 1048576) (_hs : ss.length ≤ 1048576) (_hl : rs.length ≤ 1048576) (_hN : ∀ i, (sName ss i).size ≤ 140737488355328) (_hA : -9223372036854775808 ≤ dA ∧ dA ≤ 9223372036854775807) (h : Mid nm dA A1 A2 A3 A4 c1 nd c2 c3 c4 code ss rs w0 w) : Calls Tryz.prog 153 #[.pointer (some ⟨w0.heap.size + 1, 0, none⟩)] w fun r w' => r = .returned (.tuple #[.int .i64 (ansQ nm code dA nd ss rs 1).1, .int .i64 (ansQ nm code dA nd ss rs 1).2]) ∧ Mid nm dA A1 A2 A3 A4 c1 nd c2 c3 c4 code ss rs w0 w' := by
  have h' := h
  obtain ⟨hb, o0, o1, o2, o3, o4, o5, f0, f1, f2, f3, f4, f5, f6, f7, m, hm, hsm⟩ := h'
  refine (q2_any nm dA A1 A2 A3 A4 code.length c1 nd c2 ss.length c3 rs.length c4 _ w o0 o1 o2 o3 o4 o5 hc).mono ?_
  rintro r w1 ⟨rfl, hb1⟩
  exact ⟨rfl, mid_on h hb1⟩
theorem m2_any (nm : ByteArray) (dA : Int) (A1 A2 A3 A4 : Option Addr) (c1 nd c2 c3 c4 : Nat) (code : List Int) (ss : List Sym) (rs : List Rel) (w0 w : World) (_hC : IntsAt w0 A1 .u32 code) (_hS : SymsAt w0 A3 ss) (_hL : RelsAt w0 A4 rs) (_hR : ∀ i, i < code.length → 0 ≤ nth code i ∧ nth code i < 4294967296) (_hc : code.length ≤ 1048576) (_hd : nd ≤ 1048576) (hs : ss.length ≤ 1048576) (_hl : rs.length ≤ 1048576) (_hN : ∀ i, (sName ss i).size ≤ 140737488355328) (_hA : -9223372036854775808 ≤ dA ∧ dA ≤ 9223372036854775807) (h : Mid nm dA A1 A2 A3 A4 c1 nd c2 c3 c4 code ss rs w0 w) : Calls Tryz.prog 154 #[.pointer (some ⟨w0.heap.size + 1, 0, none⟩)] w fun r w' => r = .returned (.tuple #[.int .i64 (ansQ nm code dA nd ss rs 2).1, .int .i64 (ansQ nm code dA nd ss rs 2).2]) ∧ Mid nm dA A1 A2 A3 A4 c1 nd c2 c3 c4 code ss rs w0 w' := by
  have h' := h
  obtain ⟨hb, o0, o1, o2, o3, o4, o5, f0, f1, f2, f3, f4, f5, f6, f7, m, hm, hsm⟩ := h'
  refine (q3_any nm dA A1 A2 A3 A4 code.length c1 nd c2 ss.length c3 rs.length c4 _ w o0 o1 o2 o3 o4 o5 hs).mono ?_
  rintro r w1 ⟨rfl, hb1⟩
  exact ⟨rfl, mid_on h hb1⟩
theorem m3_any (nm : ByteArray) (dA : Int) (A1 A2 A3 A4 : Option Addr) (c1 nd c2 c3 c4 : Nat) (code : List Int) (ss : List Sym) (rs : List Rel) (w0 w : World) (_hC : IntsAt w0 A1 .u32 code) (_hS : SymsAt w0 A3 ss) (_hL : RelsAt w0 A4 rs) (_hR : ∀ i, i < code.length → 0 ≤ nth code i ∧ nth code i < 4294967296) (hc : code.length ≤ 1048576) (_hd : nd ≤ 1048576) (_hs : ss.length ≤ 1048576) (hl : rs.length ≤ 1048576) (_hN : ∀ i, (sName ss i).size ≤ 140737488355328) (_hA : -9223372036854775808 ≤ dA ∧ dA ≤ 9223372036854775807) (h : Mid nm dA A1 A2 A3 A4 c1 nd c2 c3 c4 code ss rs w0 w) : Calls Tryz.prog 155 #[.pointer (some ⟨w0.heap.size + 1, 0, none⟩)] w fun r w' => r = .returned (.tuple #[.int .i64 (ansQ nm code dA nd ss rs 3).1, .int .i64 (ansQ nm code dA nd ss rs 3).2]) ∧ Mid nm dA A1 A2 A3 A4 c1 nd c2 c3 c4 code ss rs w0 w' := by
  have h' := h
  obtain ⟨hb, o0, o1, o2, o3, o4, o5, f0, f1, f2, f3, f4, f5, f6, f7, m, hm, hsm⟩ := h'
  refine (q4_any nm dA A1 A2 A3 A4 code.length c1 nd c2 ss.length c3 rs.length c4 _ w o0 o1 o2 o3 o4 o5 hc hl).mono ?_
  rintro r w1 ⟨rfl, hb1⟩
  exact ⟨rfl, mid_on h hb1⟩
theorem m4_any (nm : ByteArray) (dA : Int) (A1 A2 A3 A4 : Option Addr) (c1 nd c2 c3 c4 : Nat) (code : List Int) (ss : List Sym) (rs : List Rel) (w0 w : World) (_hC : IntsAt w0 A1 .u32 code) (_hS : SymsAt w0 A3 ss) (_hL : RelsAt w0 A4 rs) (_hR : ∀ i, i < code.length → 0 ≤ nth code i ∧ nth code i < 4294967296) (_hc : code.length ≤ 1048576) (hd : nd ≤ 1048576) (_hs : ss.length ≤ 1048576) (_hl : rs.length ≤ 1048576) (_hN : ∀ i, (sName ss i).size ≤ 140737488355328) (hA : -9223372036854775808 ≤ dA ∧ dA ≤ 9223372036854775807) (h : Mid nm dA A1 A2 A3 A4 c1 nd c2 c3 c4 code ss rs w0 w) : Calls Tryz.prog 156 #[.pointer (some ⟨w0.heap.size + 1, 0, none⟩)] w fun r w' => r = .returned (.tuple #[.int .i64 (ansQ nm code dA nd ss rs 4).1, .int .i64 (ansQ nm code dA nd ss rs 4).2]) ∧ Mid nm dA A1 A2 A3 A4 c1 nd c2 c3 c4 code ss rs w0 w' := by
  have h' := h
  obtain ⟨hb, o0, o1, o2, o3, o4, o5, f0, f1, f2, f3, f4, f5, f6, f7, m, hm, hsm⟩ := h'
  refine (q5_any nm dA A1 A2 A3 A4 code.length c1 nd c2 ss.length c3 rs.length c4 _ w o0 o1 o2 o3 o4 o5 hd hA.1 hA.2).mono ?_
  rintro r w1 ⟨rfl, hb1⟩
  exact ⟨rfl, mid_on h hb1⟩
theorem m5_any (nm : ByteArray) (dA : Int) (A1 A2 A3 A4 : Option Addr) (c1 nd c2 c3 c4 : Nat) (code : List Int) (ss : List Sym) (rs : List Rel) (w0 w : World) (_hC : IntsAt w0 A1 .u32 code) (hS : SymsAt w0 A3 ss) (_hL : RelsAt w0 A4 rs) (_hR : ∀ i, i < code.length → 0 ≤ nth code i ∧ nth code i < 4294967296) (_hc : code.length ≤ 1048576) (_hd : nd ≤ 1048576) (hs : ss.length ≤ 1048576) (_hl : rs.length ≤ 1048576) (hN : ∀ i, (sName ss i).size ≤ 140737488355328) (_hA : -9223372036854775808 ≤ dA ∧ dA ≤ 9223372036854775807) (h : Mid nm dA A1 A2 A3 A4 c1 nd c2 c3 c4 code ss rs w0 w) : Calls Tryz.prog 158 #[.pointer (some ⟨w0.heap.size + 1, 0, none⟩)] w fun r w' => r = .returned (.tuple #[.int .i64 (ansQ nm code dA nd ss rs 5).1, .int .i64 (ansQ nm code dA nd ss rs 5).2]) ∧ Mid nm dA A1 A2 A3 A4 c1 nd c2 c3 c4 code ss rs w0 w' := by
  have h' := h
  obtain ⟨hb, o0, o1, o2, o3, o4, o5, f0, f1, f2, f3, f4, f5, f6, f7, m, hm, hsm⟩ := h'
  refine (q6_any nm dA A1 A2 A3 A4 code.length c1 nd c2 c3 rs.length c4 ss _ w o0 o1 o2 o3 o4 o5 (hS.keep hb) hs hN).mono ?_
  rintro r w1 ⟨rfl, hb1⟩
  exact ⟨rfl, mid_on h hb1⟩
theorem m6_any (nm : ByteArray) (dA : Int) (A1 A2 A3 A4 : Option Addr) (c1 nd c2 c3 c4 : Nat) (code : List Int) (ss : List Sym) (rs : List Rel) (w0 w : World) (hC : IntsAt w0 A1 .u32 code) (_hS : SymsAt w0 A3 ss) (hL : RelsAt w0 A4 rs) (hR : ∀ i, i < code.length → 0 ≤ nth code i ∧ nth code i < 4294967296) (_hc : code.length ≤ 1048576) (_hd : nd ≤ 1048576) (_hs : ss.length ≤ 1048576) (hl : rs.length ≤ 1048576) (_hN : ∀ i, (sName ss i).size ≤ 140737488355328) (_hA : -9223372036854775808 ≤ dA ∧ dA ≤ 9223372036854775807) (hcc : code.length ≤ 16384) (h : Mid nm dA A1 A2 A3 A4 c1 nd c2 c3 c4 code ss rs w0 w) : Calls Tryz.prog 160 #[.pointer (some ⟨w0.heap.size + 1, 0, none⟩), .pointer (some ⟨w0.heap.size + 1 + 1, 0, none⟩)] w fun r w' => r = .returned (.tuple #[.int .i64 (ansQ nm code dA nd ss rs 6).1, .int .i64 (ansQ nm code dA nd ss rs 6).2]) ∧ Mid nm dA A1 A2 A3 A4 c1 nd c2 c3 c4 code ss rs w0 w' := by
  have h' := h
  obtain ⟨hb, o0, o1, o2, o3, o4, o5, f0, f1, f2, f3, f4, f5, f6, f7, m, hm, hsm⟩ := h'
  refine (q7_any nm dA A1 A2 A3 A4 c1 nd c2 ss.length c3 c4 code rs _ m _ w0 w o0 o1 o2 o3 o4 o5 hC hR hL hb (by omega) hl hcc hm hsm).mono ?_
  rintro r w1 ⟨rfl, hb1, m1, hm1, hs1⟩
  exact ⟨rfl, mid_but h hb1 hm1 hs1⟩
theorem m7_any (nm : ByteArray) (dA : Int) (A1 A2 A3 A4 : Option Addr) (c1 nd c2 c3 c4 : Nat) (code : List Int) (ss : List Sym) (rs : List Rel) (w0 w : World) (hC : IntsAt w0 A1 .u32 code) (_hS : SymsAt w0 A3 ss) (_hL : RelsAt w0 A4 rs) (hR : ∀ i, i < code.length → 0 ≤ nth code i ∧ nth code i < 4294967296) (_hc : code.length ≤ 1048576) (_hd : nd ≤ 1048576) (_hs : ss.length ≤ 1048576) (_hl : rs.length ≤ 1048576) (_hN : ∀ i, (sName ss i).size ≤ 140737488355328) (_hA : -9223372036854775808 ≤ dA ∧ dA ≤ 9223372036854775807) (hcc : code.length ≤ 16384) (h : Mid nm dA A1 A2 A3 A4 c1 nd c2 c3 c4 code ss rs w0 w) : Calls Tryz.prog 162 #[.pointer (some ⟨w0.heap.size + 1, 0, none⟩), .pointer (some ⟨w0.heap.size + 1 + 1, 0, none⟩)] w fun r w' => r = .returned (.tuple #[.int .i64 (ansQ nm code dA nd ss rs 7).1, .int .i64 (ansQ nm code dA nd ss rs 7).2]) ∧ Mid nm dA A1 A2 A3 A4 c1 nd c2 c3 c4 code ss rs w0 w' := by
  have h' := h
  obtain ⟨hb, o0, o1, o2, o3, o4, o5, f0, f1, f2, f3, f4, f5, f6, f7, m, hm, hsm⟩ := h'
  refine (q8_any nm dA A1 A2 A3 A4 c1 nd c2 ss.length c3 rs.length c4 code _ m _ w o0 o1 o2 o3 o4 o5 (hC.keep hb) hR hcc hm hsm).mono ?_
  rintro r w1 ⟨rfl, hb1⟩
  exact ⟨rfl, mid_on h hb1⟩





end Go.Proofs.YthpkekpojhmaaaaGreatDoor

namespace Go.Proofs.YthpkekpojhmaaaaGreatDoor
open Go.RowKit

set_option maxRecDepth 100000 in
theorem mid_start (nm : ByteArray) (dA : Int) (A1 A2 A3 A4 : Option Addr) (c1 nd c2 c3 c4 : Nat) (code : List Int) (ss : List Sym) (rs : List Rel) (cs : Array Value) (hz1 : ∀ i, i < 16384 → cs[i]? = some (.bool false)) (w : World) : Mid nm dA A1 A2 A3 A4 c1 nd c2 c3 c4 code ss rs w ((((w.alloc (.cells #[.string nm, .slice A1 code.length c1, .int .i64 dA, .slice A2 nd c2, .slice A3 ss.length c3, .slice A4 rs.length c4] 75)).alloc (.cells #[.string nm, .slice A1 code.length c1, .int .i64 dA, .slice A2 nd c2, .slice A3 ss.length c3, .slice A4 rs.length c4] 75)).alloc (.cells cs 263)).alloc (.cells #[.func (.func 150) #[] #[.pointer (some ⟨w.heap.size + 1, 0, none⟩)], .func (.func 153) #[] #[.pointer (some ⟨w.heap.size + 1, 0, none⟩)], .func (.func 154) #[] #[.pointer (some ⟨w.heap.size + 1, 0, none⟩)], .func (.func 155) #[] #[.pointer (some ⟨w.heap.size + 1, 0, none⟩)], .func (.func 156) #[] #[.pointer (some ⟨w.heap.size + 1, 0, none⟩)], .func (.func 158) #[] #[.pointer (some ⟨w.heap.size + 1, 0, none⟩)], .func (.func 160) #[] #[.pointer (some ⟨w.heap.size + 1, 0, none⟩), .pointer (some ⟨w.heap.size + 1 + 1, 0, none⟩)], .func (.func 162) #[] #[.pointer (some ⟨w.heap.size + 1, 0, none⟩), .pointer (some ⟨w.heap.size + 1 + 1, 0, none⟩)]] 214)) := by
  refine ⟨?_, ?_, ?_, ?_, ?_, ?_, ?_, ?_, ?_, ?_, ?_, ?_, ?_, ?_, ?_, fun _ => false, ⟨?_, ?_⟩, ?_⟩
  · exact lb_alloc (lb_alloc (lb_alloc (lb_alloc (Below.refl _ _) _) _) _) _
  all_goals first
    | (simp [go_sem]; done)
    | (intro i hi; simp [go_sem, hz1 i hi]; done)
    | (intro i; simp [go_sem]; done)
    | (intro i hi; cases hi)
set_option maxRecDepth 100000 in
set_option maxHeartbeats 4000000 in
theorem objcheck_any (nm : ByteArray) (dA : Int) (A1 A2 A3 A4 : Option Addr) (c1 nd c2 c3 c4 : Nat) (code : List Int) (ss : List Sym) (rs : List Rel) (w : World) (hC : IntsAt w A1 .u32 code) (hS : SymsAt w A3 ss) (hL : RelsAt w A4 rs) (hR : ∀ i, i < code.length → 0 ≤ nth code i ∧ nth code i < 4294967296) (hc : code.length ≤ 1048576) (hd : nd ≤ 1048576) (hs : ss.length ≤ 1048576) (hl : rs.length ≤ 1048576) (hN : ∀ i, (sName ss i).size ≤ 140737488355328) (hA : -9223372036854775808 ≤ dA ∧ dA ≤ 9223372036854775807) : Calls Tryz.prog 82 #[.agg #[.string nm, .slice A1 code.length c1, .int .i64 dA, .slice A2 nd c2, .slice A3 ss.length c3, .slice A4 rs.length c4]] w fun e w' => e = .returned (.tuple #[.int .i64 (checkC nm code dA nd ss rs).1, .int .i64 (checkC nm code dA nd ss rs).2]) ∧ Below w.heap.size w w' := by
  obtain ⟨cs, _, hz1, hz⟩ := zero73
  have HM0 : Hid (Mid nm dA A1 A2 A3 A4 c1 nd c2 c3 c4 code ss rs w ((((w.alloc (.cells #[.string nm, .slice A1 code.length c1, .int .i64 dA, .slice A2 nd c2, .slice A3 ss.length c3, .slice A4 rs.length c4] 75)).alloc (.cells #[.string nm, .slice A1 code.length c1, .int .i64 dA, .slice A2 nd c2, .slice A3 ss.length c3, .slice A4 rs.length c4] 75)).alloc (.cells cs 263)).alloc (.cells #[.func (.func 150) #[] #[.pointer (some ⟨w.heap.size + 1, 0, none⟩)], .func (.func 153) #[] #[.pointer (some ⟨w.heap.size + 1, 0, none⟩)], .func (.func 154) #[] #[.pointer (some ⟨w.heap.size + 1, 0, none⟩)], .func (.func 155) #[] #[.pointer (some ⟨w.heap.size + 1, 0, none⟩)], .func (.func 156) #[] #[.pointer (some ⟨w.heap.size + 1, 0, none⟩)], .func (.func 158) #[] #[.pointer (some ⟨w.heap.size + 1, 0, none⟩)], .func (.func 160) #[] #[.pointer (some ⟨w.heap.size + 1, 0, none⟩), .pointer (some ⟨w.heap.size + 1 + 1, 0, none⟩)], .func (.func 162) #[] #[.pointer (some ⟨w.heap.size + 1, 0, none⟩), .pointer (some ⟨w.heap.size + 1 + 1, 0, none⟩)]] 214))) := mid_start nm dA A1 A2 A3 A4 c1 nd c2 c3 c4 code ss rs cs hz1 w
  go_enter Tryz.func82, Tryz.ntmps82
  go_wp2_with fail
  refine (questions_raw nm dA A1 A2 A3 A4 code.length c1 nd c2 ss.length c3 rs.length c4 cs hz _).mono ?_
  rintro e w1 ⟨rfl, hw1⟩
  have HM : Hid (Mid nm dA A1 A2 A3 A4 c1 nd c2 c3 c4 code ss rs w w1) := by
    have e1 : (w.alloc (.cells #[.string nm, .slice A1 code.length c1, .int .i64 dA, .slice A2 nd c2, .slice A3 ss.length c3, .slice A4 rs.length c4] 75)).heap.size = w.heap.size + 1 := by simp
    rw [hw1, e1]
    exact HM0.out
  clear hw1 HM0 hz hz1
  go_wp2
  go_loopw [11] (fun i wr => ∃ k : Nat, i = .int .i64 k ∧ k ≤ 8 ∧ Hid (Mid nm dA A1 A2 A3 A4 c1 nd c2 c3 c4 code ss rs w wr) ∧ Hid (∀ j, j < k → (ansQ nm code dA nd ss rs j).1 = 0)) (fun i _ => 8 - (intOf i).toNat)
  case atStart => exact ⟨0, rfl, by omega, HM, fun j hj => by omega⟩
  case round =>
    obtain ⟨k, rfl, hk, HW, HT⟩ := hrel
    rename_i wr _
    have HH : Hid (k < 8 → ¬ (ansQ nm code dA nd ss rs k).1 = 0 → checkC nm code dA nd ss rs = ansQ nm code dA nd ss rs k) := fun h e => ans_hit k h HT.out e
    have HX : Hid ((ansQ nm code dA nd ss rs k).1 = 0 → ∀ j, j < k + 1 → (ansQ nm code dA nd ss rs j).1 = 0) := fun h j hj => by
      by_cases hjk : j = k
      · rw [hjk]; exact h
      · exact HT.out j (by omega)
    by_cases hk8 : k < 8
    · have hh := HW.out
      obtain ⟨_, _, _, _, _, _, _, f0, f1, f2, f3, f4, f5, f6, f7, _⟩ := hh
      rcases (show k = 0 ∨ k = 1 ∨ k = 2 ∨ k = 3 ∨ k = 4 ∨ k = 5 ∨ k = 6 ∨ k = 7 by omega) with rfl | rfl | rfl | rfl | rfl | rfl | rfl | rfl
      · clear f1 f2 f3 f4 f5 f6 f7
        have C := m0_any nm dA A1 A2 A3 A4 c1 nd c2 c3 c4 code ss rs w wr hC hS hL hR hc hd hs hl hN hA HW.out
        cases hz0 : ((ansQ nm code dA nd ss rs 0).1 == 0) with
        | true =>
          have hz1 : (ansQ nm code dA nd ss rs 0).1 = 0 := by simpa using hz0
          have HX1 : Hid _ := HX.out hz1
          rw [hz1] at C
          clear hz0 hz1 HH HX HT
          go_wp2_with (go_at_call 150; refine C.mono ?_; rintro e w2 ⟨rfl, hm2⟩)
          rename_i hm2
          go_roundw
          case rel => exact ⟨0 + 1, by go_num, by omega, hm2, HX1.out⟩
          case measure => simp [intOf]
        | false =>
          have HX1 : Hid _ := HH.out hk8 (by simpa using hz0)
          have hz1 : ((ansQ nm code dA nd ss rs 0).1 != 0) = true := by simpa using hz0
          clear HH HX HT
          generalize ansQ nm code dA nd ss rs 0 = Y at C hz0 hz1 HX1
          go_wp2_with (go_at_call 150; refine C.mono ?_; rintro e w2 ⟨rfl, hm2⟩)
          rename_i hm2
          go_ret2
          exact ⟨ret2I (by rw [HX1.out]), hm2.1⟩
      · clear f0 f2 f3 f4 f5 f6 f7
        have C := m1_any nm dA A1 A2 A3 A4 c1 nd c2 c3 c4 code ss rs w wr hC hS hL hR hc hd hs hl hN hA HW.out
        cases hz0 : ((ansQ nm code dA nd ss rs 1).1 == 0) with
        | true =>
          have hz1 : (ansQ nm code dA nd ss rs 1).1 = 0 := by simpa using hz0
          have HX1 : Hid _ := HX.out hz1
          rw [hz1] at C
          clear hz0 hz1 HH HX HT
          go_wp2_with (go_at_call 153; refine C.mono ?_; rintro e w2 ⟨rfl, hm2⟩)
          rename_i hm2
          go_roundw
          case rel => exact ⟨1 + 1, by go_num, by omega, hm2, HX1.out⟩
          case measure => simp [intOf]
        | false =>
          have HX1 : Hid _ := HH.out hk8 (by simpa using hz0)
          have hz1 : ((ansQ nm code dA nd ss rs 1).1 != 0) = true := by simpa using hz0
          clear HH HX HT
          generalize ansQ nm code dA nd ss rs 1 = Y at C hz0 hz1 HX1
          go_wp2_with (go_at_call 153; refine C.mono ?_; rintro e w2 ⟨rfl, hm2⟩)
          rename_i hm2
          go_ret2
          exact ⟨ret2I (by rw [HX1.out]), hm2.1⟩
      · clear f0 f1 f3 f4 f5 f6 f7
        have C := m2_any nm dA A1 A2 A3 A4 c1 nd c2 c3 c4 code ss rs w wr hC hS hL hR hc hd hs hl hN hA HW.out
        cases hz0 : ((ansQ nm code dA nd ss rs 2).1 == 0) with
        | true =>
          have hz1 : (ansQ nm code dA nd ss rs 2).1 = 0 := by simpa using hz0
          have HX1 : Hid _ := HX.out hz1
          rw [hz1] at C
          clear hz0 hz1 HH HX HT
          go_wp2_with (go_at_call 154; refine C.mono ?_; rintro e w2 ⟨rfl, hm2⟩)
          rename_i hm2
          go_roundw
          case rel => exact ⟨2 + 1, by go_num, by omega, hm2, HX1.out⟩
          case measure => simp [intOf]
        | false =>
          have HX1 : Hid _ := HH.out hk8 (by simpa using hz0)
          have hz1 : ((ansQ nm code dA nd ss rs 2).1 != 0) = true := by simpa using hz0
          clear HH HX HT
          generalize ansQ nm code dA nd ss rs 2 = Y at C hz0 hz1 HX1
          go_wp2_with (go_at_call 154; refine C.mono ?_; rintro e w2 ⟨rfl, hm2⟩)
          rename_i hm2
          go_ret2
          exact ⟨ret2I (by rw [HX1.out]), hm2.1⟩
      · clear f0 f1 f2 f4 f5 f6 f7
        have C := m3_any nm dA A1 A2 A3 A4 c1 nd c2 c3 c4 code ss rs w wr hC hS hL hR hc hd hs hl hN hA HW.out
        cases hz0 : ((ansQ nm code dA nd ss rs 3).1 == 0) with
        | true =>
          have hz1 : (ansQ nm code dA nd ss rs 3).1 = 0 := by simpa using hz0
          have HX1 : Hid _ := HX.out hz1
          rw [hz1] at C
          clear hz0 hz1 HH HX HT
          go_wp2_with (go_at_call 155; refine C.mono ?_; rintro e w2 ⟨rfl, hm2⟩)
          rename_i hm2
          go_roundw
          case rel => exact ⟨3 + 1, by go_num, by omega, hm2, HX1.out⟩
          case measure => simp [intOf]
        | false =>
          have HX1 : Hid _ := HH.out hk8 (by simpa using hz0)
          have hz1 : ((ansQ nm code dA nd ss rs 3).1 != 0) = true := by simpa using hz0
          clear HH HX HT
          generalize ansQ nm code dA nd ss rs 3 = Y at C hz0 hz1 HX1
          go_wp2_with (go_at_call 155; refine C.mono ?_; rintro e w2 ⟨rfl, hm2⟩)
          rename_i hm2
          go_ret2
          exact ⟨ret2I (by rw [HX1.out]), hm2.1⟩
      · clear f0 f1 f2 f3 f5 f6 f7
        have C := m4_any nm dA A1 A2 A3 A4 c1 nd c2 c3 c4 code ss rs w wr hC hS hL hR hc hd hs hl hN hA HW.out
        cases hz0 : ((ansQ nm code dA nd ss rs 4).1 == 0) with
        | true =>
          have hz1 : (ansQ nm code dA nd ss rs 4).1 = 0 := by simpa using hz0
          have HX1 : Hid _ := HX.out hz1
          rw [hz1] at C
          clear hz0 hz1 HH HX HT
          go_wp2_with (go_at_call 156; refine C.mono ?_; rintro e w2 ⟨rfl, hm2⟩)
          rename_i hm2
          go_roundw
          case rel => exact ⟨4 + 1, by go_num, by omega, hm2, HX1.out⟩
          case measure => simp [intOf]
        | false =>
          have HX1 : Hid _ := HH.out hk8 (by simpa using hz0)
          have hz1 : ((ansQ nm code dA nd ss rs 4).1 != 0) = true := by simpa using hz0
          clear HH HX HT
          generalize ansQ nm code dA nd ss rs 4 = Y at C hz0 hz1 HX1
          go_wp2_with (go_at_call 156; refine C.mono ?_; rintro e w2 ⟨rfl, hm2⟩)
          rename_i hm2
          go_ret2
          exact ⟨ret2I (by rw [HX1.out]), hm2.1⟩
      · clear f0 f1 f2 f3 f4 f6 f7
        have C := m5_any nm dA A1 A2 A3 A4 c1 nd c2 c3 c4 code ss rs w wr hC hS hL hR hc hd hs hl hN hA HW.out
        cases hz0 : ((ansQ nm code dA nd ss rs 5).1 == 0) with
        | true =>
          have hz1 : (ansQ nm code dA nd ss rs 5).1 = 0 := by simpa using hz0
          have HX1 : Hid _ := HX.out hz1
          rw [hz1] at C
          clear hz0 hz1 HH HX HT
          go_wp2_with (go_at_call 158; refine C.mono ?_; rintro e w2 ⟨rfl, hm2⟩)
          rename_i hm2
          go_roundw
          case rel => exact ⟨5 + 1, by go_num, by omega, hm2, HX1.out⟩
          case measure => simp [intOf]
        | false =>
          have HX1 : Hid _ := HH.out hk8 (by simpa using hz0)
          have hz1 : ((ansQ nm code dA nd ss rs 5).1 != 0) = true := by simpa using hz0
          clear HH HX HT
          generalize ansQ nm code dA nd ss rs 5 = Y at C hz0 hz1 HX1
          go_wp2_with (go_at_call 158; refine C.mono ?_; rintro e w2 ⟨rfl, hm2⟩)
          rename_i hm2
          go_ret2
          exact ⟨ret2I (by rw [HX1.out]), hm2.1⟩
      · clear f0 f1 f2 f3 f4 f5 f7
        have C := m6_any nm dA A1 A2 A3 A4 c1 nd c2 c3 c4 code ss rs w wr hC hS hL hR hc hd hs hl hN hA (by have := z1 (HT.out 1 (by omega)); omega) HW.out
        cases hz0 : ((ansQ nm code dA nd ss rs 6).1 == 0) with
        | true =>
          have hz1 : (ansQ nm code dA nd ss rs 6).1 = 0 := by simpa using hz0
          have HX1 : Hid _ := HX.out hz1
          rw [hz1] at C
          clear hz0 hz1 HH HX HT
          go_wp2_with (go_at_call 160; refine C.mono ?_; rintro e w2 ⟨rfl, hm2⟩)
          rename_i hm2
          go_roundw
          case rel => exact ⟨6 + 1, by go_num, by omega, hm2, HX1.out⟩
          case measure => simp [intOf]
        | false =>
          have HX1 : Hid _ := HH.out hk8 (by simpa using hz0)
          have hz1 : ((ansQ nm code dA nd ss rs 6).1 != 0) = true := by simpa using hz0
          clear HH HX HT
          generalize ansQ nm code dA nd ss rs 6 = Y at C hz0 hz1 HX1
          go_wp2_with (go_at_call 160; refine C.mono ?_; rintro e w2 ⟨rfl, hm2⟩)
          rename_i hm2
          go_ret2
          exact ⟨ret2I (by rw [HX1.out]), hm2.1⟩
      · clear f0 f1 f2 f3 f4 f5 f6
        have C := m7_any nm dA A1 A2 A3 A4 c1 nd c2 c3 c4 code ss rs w wr hC hS hL hR hc hd hs hl hN hA (by have := z1 (HT.out 1 (by omega)); omega) HW.out
        cases hz0 : ((ansQ nm code dA nd ss rs 7).1 == 0) with
        | true =>
          have hz1 : (ansQ nm code dA nd ss rs 7).1 = 0 := by simpa using hz0
          have HX1 : Hid _ := HX.out hz1
          rw [hz1] at C
          clear hz0 hz1 HH HX HT
          go_wp2_with (go_at_call 162; refine C.mono ?_; rintro e w2 ⟨rfl, hm2⟩)
          rename_i hm2
          go_roundw
          case rel => exact ⟨7 + 1, by go_num, by omega, hm2, HX1.out⟩
          case measure => simp [intOf]
        | false =>
          have HX1 : Hid _ := HH.out hk8 (by simpa using hz0)
          have hz1 : ((ansQ nm code dA nd ss rs 7).1 != 0) = true := by simpa using hz0
          clear HH HX HT
          generalize ansQ nm code dA nd ss rs 7 = Y at C hz0 hz1 HX1
          go_wp2_with (go_at_call 162; refine C.mono ?_; rintro e w2 ⟨rfl, hm2⟩)
          rename_i hm2
          go_ret2
          exact ⟨ret2I (by rw [HX1.out]), hm2.1⟩
    · have HC : Hid (checkC nm code dA nd ss rs = (0, 0)) := ans_none fun j hj => HT.out j (by omega)
      go_wp2
      go_ret2
      exact ⟨ret2I (by rw [HC.out]), HW.out.1⟩





end Go.Proofs.YthpkekpojhmaaaaGreatDoor

namespace Go.Proofs.YthpkekpojhmaaaaGreatDoor
open Go.RowKit


theorem IntsAt.under {g : Nat} {w0 w w1 : World} {A : Option Addr} {K : IntKind} {zs : List Int} (h : IntsAt w0 A K zs) (hb : Below w0.heap.size w0 w) (hg : w0.heap.size ≤ g) (hb1 : Below g w w1) : IntsAt w1 A K zs := h.keep (hb.trans (hb1.mono hg))
theorem SymsAt.under {g : Nat} {w0 w w1 : World} {A : Option Addr} {zs : List Sym} (h : SymsAt w0 A zs) (hb : Below w0.heap.size w0 w) (hg : w0.heap.size ≤ g) (hb1 : Below g w w1) : SymsAt w1 A zs := h.keep (hb.trans (hb1.mono hg))
theorem RelsAt.under {g : Nat} {w0 w w1 : World} {A : Option Addr} {zs : List Rel} (h : RelsAt w0 A zs) (hb : Below w0.heap.size w0 w) (hg : w0.heap.size ≤ g) (hb1 : Below g w w1) : RelsAt w1 A zs := h.keep (hb.trans (hb1.mono hg))
theorem flat_snoc {α : Type} (f : α → List Int) (zs : List α) (z : α) (k : Nat) (h : k < zs.length) : (zs.take (k + 1)).flatMap f = (zs.take k).flatMap f ++ f (zs.getD k z) := by
  rw [List.take_succ_eq_append_getElem h, List.flatMap_append]
  simp [List.getD, h]
theorem flat_len {α : Type} (f : α → List Int) (m : Nat) (hf : ∀ x, (f x).length = m) (zs : List α) : (zs.flatMap f).length = zs.length * m := by
  induction zs with
  | nil => simp
  | cons z zs ih => simp [hf, ih, Nat.succ_mul, Nat.add_comm]

set_option maxRecDepth 100000 in
set_option maxHeartbeats 1000000 in
theorem wWords (g : Nat) (l : List Int) (A : Option Addr) (c : Nat) (zs : List Int) (w0 w : World) (hC : IntsAt w0 A .u32 zs) (hb0 : Below w0.heap.size w0 w) (hg0 : w0.heap.size ≤ g) (hR0 : ∀ i, i < zs.length → 0 ≤ nth zs i ∧ nth zs i < 4294967296) (hl : l.length + 4 + zs.length * 4 ≤ 1048576) (ho : OutAt w g l) :
    Calls Tryz.prog 118 #[.pointer (some ⟨g, 0, none⟩), .slice A zs.length c, .func (.func 84) #[.pointer (some ⟨g, 0, none⟩)] #[]] w (Puts g l (be4 zs.length ++ zs.flatMap be4) w) := by
  have hg := ho.lt
  go_enter Tryz.func118, Tryz.ntmps118
  go_wp2_with fail
  refine (wCount g l (zs.length : Int) (by omega) _ ho).mono ?_
  rintro r w1 ⟨rfl, h1, h2⟩
  have H2 : Hid _ := h2
  have H1 : Hid _ := h1
  clear h1 h2 ho
  go_wp2
  go_loopw [14] (fun i wr => ∃ k : Nat, i = .int .i64 k ∧ k ≤ zs.length ∧ OutAt wr g (l ++ be4 zs.length ++ (zs.take k).flatMap be4) ∧ OutTo g w wr) (fun i _ => zs.length - (intOf i).toNat)
  case atStart => exact ⟨0, rfl, Nat.zero_le _, by show OutAt _ _ (_ ++ []); rw [List.append_nil]; exact H1.out, H2.out⟩
  case round =>
    obtain ⟨k, rfl, hk, ho, ht⟩ := hrel
    by_cases hlt : k < zs.length
    · obtain ⟨a, rfl, hc⟩ := (hC.under hb0 hg0 (ht.below hg)) k hlt
      have hlen : (l ++ be4 zs.length ++ (zs.take k).flatMap be4).length + 4 ≤ 1048576 := by
        rw [List.length_append, len_app4, flat_len be4 4 (fun _ => rfl), List.length_take]
        have : min k zs.length * 4 + 4 ≤ zs.length * 4 := by
          rw [Nat.min_eq_left hk]; omega
        omega
      have HF : Hid _ := flat_snoc be4 zs 0 k hlt
      have hR := hR0 k hlt
      have HT : Hid _ := ht
      clear ht
      go_wp2_with fail
      refine (wNumber g _ (nth zs k) hR.1 hR.2 hlen _ ho).mono ?_
      rintro r w2 ⟨rfl, h3, h4⟩
      have H3 : Hid _ := h3
      have H4 : Hid _ := h4
      clear h3 h4 ho
      go_wp2
      go_roundw
      case rel => exact ⟨k + 1, by go_num, by omega, by rw [HF.out, ← List.append_assoc]; exact H3.out, HT.out.trans H4.out⟩
      case measure => simp [intOf]; omega
    · go_wp2
      go_end0
      rw [List.take_of_length_le (by omega)] at ho
      exact ⟨rfl, by rw [← List.append_assoc]; exact ho, ht⟩

set_option maxRecDepth 100000 in
set_option maxHeartbeats 1000000 in
theorem wLongs (g : Nat) (l : List Int) (A : Option Addr) (c : Nat) (zs : List Int) (w0 w : World) (hC : IntsAt w0 A .i64 zs) (hb0 : Below w0.heap.size w0 w) (hg0 : w0.heap.size ≤ g) (hl : l.length + 4 + zs.length * 8 ≤ 1048576) (ho : OutAt w g l) :
    Calls Tryz.prog 120 #[.pointer (some ⟨g, 0, none⟩), .slice A zs.length c, .func (.func 121) #[.pointer (some ⟨g, 0, none⟩)] #[]] w (Puts g l (be4 zs.length ++ zs.flatMap be8) w) := by
  have hg := ho.lt
  go_enter Tryz.func120, Tryz.ntmps120
  go_wp2_with fail
  refine (wCount g l (zs.length : Int) (by omega) _ ho).mono ?_
  rintro r w1 ⟨rfl, h1, h2⟩
  have H2 : Hid _ := h2
  have H1 : Hid _ := h1
  clear h1 h2 ho
  go_wp2
  go_loopw [14] (fun i wr => ∃ k : Nat, i = .int .i64 k ∧ k ≤ zs.length ∧ OutAt wr g (l ++ be4 zs.length ++ (zs.take k).flatMap be8) ∧ OutTo g w wr) (fun i _ => zs.length - (intOf i).toNat)
  case atStart => exact ⟨0, rfl, Nat.zero_le _, by show OutAt _ _ (_ ++ []); rw [List.append_nil]; exact H1.out, H2.out⟩
  case round =>
    obtain ⟨k, rfl, hk, ho, ht⟩ := hrel
    by_cases hlt : k < zs.length
    · obtain ⟨a, rfl, hc⟩ := (hC.under hb0 hg0 (ht.below hg)) k hlt
      have hlen : (l ++ be4 zs.length ++ (zs.take k).flatMap be8).length + 8 ≤ 1048576 := by
        rw [List.length_append, len_app4, flat_len be8 8 (fun _ => rfl), List.length_take]
        have : min k zs.length * 8 + 8 ≤ zs.length * 8 := by
          rw [Nat.min_eq_left hk]; omega
        omega
      have HF : Hid _ := flat_snoc be8 zs 0 k hlt
      have HT : Hid _ := ht
      clear ht
      go_wp2_with fail
      refine (wLong g _ (nth zs k)  hlen _ ho).mono ?_
      rintro r w2 ⟨rfl, h3, h4⟩
      have H3 : Hid _ := h3
      have H4 : Hid _ := h4
      clear h3 h4 ho
      go_wp2
      go_roundw
      case rel => exact ⟨k + 1, by go_num, by omega, by rw [HF.out, ← List.append_assoc]; exact H3.out, HT.out.trans H4.out⟩
      case measure => simp [intOf]; omega
    · go_wp2
      go_end0
      rw [List.take_of_length_le (by omega)] at ho
      exact ⟨rfl, by rw [← List.append_assoc]; exact ho, ht⟩


end Go.Proofs.YthpkekpojhmaaaaGreatDoor

namespace Go.Proofs.YthpkekpojhmaaaaGreatDoor
open Go.RowKit


theorem flat_take_le {α : Type} (f : α → List Int) (zs : List α) (k : Nat) : ((zs.take k).flatMap f).length ≤ (zs.flatMap f).length := by
  conv => rhs; rw [← List.take_append_drop k zs, List.flatMap_append, List.length_append]
  omega

set_option maxRecDepth 100000 in
set_option maxHeartbeats 1000000 in
theorem wSyms (g : Nat) (l : List Int) (A : Option Addr) (c : Nat) (zs : List Sym) (w0 w : World) (hC : SymsAt w0 A zs) (hb0 : Below w0.heap.size w0 w) (hg0 : w0.heap.size ≤ g) (hK : ∀ i, i < zs.length → 0 ≤ sKind zs i ∧ sKind zs i < 128) (hn : zs.length ≤ 1048576) (hl : l.length + 4 + (zs.flatMap symB).length ≤ 1048576) (ho : OutAt w g l) :
    Calls Tryz.prog 122 #[.pointer (some ⟨g, 0, none⟩), .slice A zs.length c, .func (.func 123) #[.pointer (some ⟨g, 0, none⟩)] #[]] w (Puts g l (be4 zs.length ++ zs.flatMap symB) w) := by
  have hg := ho.lt
  go_enter Tryz.func122, Tryz.ntmps122
  go_wp2_with fail
  refine (wCount g l (zs.length : Int) (by omega) _ ho).mono ?_
  rintro r w1 ⟨rfl, h1, h2⟩
  have H2 : Hid _ := h2
  have H1 : Hid _ := h1
  clear h1 h2 ho
  go_wp2
  go_loopw [14] (fun i wr => ∃ k : Nat, i = .int .i64 k ∧ k ≤ zs.length ∧ OutAt wr g (l ++ be4 zs.length ++ (zs.take k).flatMap symB) ∧ OutTo g w wr) (fun i _ => zs.length - (intOf i).toNat)
  case atStart => exact ⟨0, rfl, Nat.zero_le _, by show OutAt _ _ (_ ++ []); rw [List.append_nil]; exact H1.out, H2.out⟩
  case round =>
    obtain ⟨k, rfl, hk, ho, ht⟩ := hrel
    by_cases hlt : k < zs.length
    · obtain ⟨a, rfl, c0, c1, c2⟩ := (hC.under hb0 hg0 (ht.below hg)) k hlt
      have d1 : _ = some (Value.int .i8 (sKind zs k)) := show World.cell? _ ⟨(a.add (k * 3)).block, (a.add (k * 3)).off + 1, none⟩ = _ from c1
      have d2 : _ = some (Value.int .i64 (sAt zs k)) := show World.cell? _ ⟨(a.add (k * 3)).block, (a.add (k * 3)).off + 2, none⟩ = _ from c2
      have HF : Hid ((zs.take (k + 1)).flatMap symB = (zs.take k).flatMap symB ++ symB ((sName zs k, sKind zs k, sAt zs k))) := flat_snoc symB zs symD k hlt
      have hlen : (l ++ be4 zs.length ++ (zs.take k).flatMap symB).length + (symB ((sName zs k, sKind zs k, sAt zs k))).length ≤ 1048576 := by
        have h5 := congrArg List.length HF.out
        have h6 := flat_take_le symB zs (k + 1)
        rw [List.length_append] at h5
        rw [List.length_append, len_app4]
        omega
      have hl2 : (symB (sName zs k, sKind zs k, sAt zs k)).length = (sName zs k).size + 12 := by unfold symB textB; simp [be4_len, strB_size]; omega
      have hk2 := hK k hlt
      have HT : Hid _ := ht
      have HO : Hid (OutAt wr g (l ++ be4 zs.length ++ (zs.take k).flatMap symB)) := ho
      clear ht ho
      go_wp2_with fail
      refine (wSymbol g (l ++ be4 zs.length ++ (zs.take k).flatMap symB) (sName zs k) (sKind zs k) (sAt zs k) (by omega) hk2 _ ?ho).mono ?_
      case ho => exact OutAt.keep HO.out (lb_alloc (Below.refl _ _) _)
      rintro r w2 ⟨rfl, h3, h4⟩
      have H3 : Hid _ := h3
      have H4 : Hid _ := h4
      clear h3 h4
      go_wp2
      go_roundw
      case rel => exact ⟨k + 1, by go_num, by omega, by rw [HF.out, ← List.append_assoc]; exact H3.out, HT.out.trans ((OutTo.of (lb_alloc (Below.refl _ _) _)).trans H4.out)⟩
      case measure => simp [intOf]; omega
    · go_wp2
      go_end0
      rw [List.take_of_length_le (by omega)] at ho
      exact ⟨rfl, by rw [← List.append_assoc]; exact ho, ht⟩

set_option maxRecDepth 100000 in
set_option maxHeartbeats 1000000 in
theorem wRels (g : Nat) (l : List Int) (A : Option Addr) (c : Nat) (zs : List Rel) (w0 w : World) (hC : RelsAt w0 A zs) (hb0 : Below w0.heap.size w0 w) (hg0 : w0.heap.size ≤ g) (hn : zs.length ≤ 1048576) (hl : l.length + 4 + (zs.flatMap relB).length ≤ 1048576) (ho : OutAt w g l) :
    Calls Tryz.prog 124 #[.pointer (some ⟨g, 0, none⟩), .slice A zs.length c, .func (.func 125) #[.pointer (some ⟨g, 0, none⟩)] #[]] w (Puts g l (be4 zs.length ++ zs.flatMap relB) w) := by
  have hg := ho.lt
  go_enter Tryz.func124, Tryz.ntmps124
  go_wp2_with fail
  refine (wCount g l (zs.length : Int) (by omega) _ ho).mono ?_
  rintro r w1 ⟨rfl, h1, h2⟩
  have H2 : Hid _ := h2
  have H1 : Hid _ := h1
  clear h1 h2 ho
  go_wp2
  go_loopw [14] (fun i wr => ∃ k : Nat, i = .int .i64 k ∧ k ≤ zs.length ∧ OutAt wr g (l ++ be4 zs.length ++ (zs.take k).flatMap relB) ∧ OutTo g w wr) (fun i _ => zs.length - (intOf i).toNat)
  case atStart => exact ⟨0, rfl, Nat.zero_le _, by show OutAt _ _ (_ ++ []); rw [List.append_nil]; exact H1.out, H2.out⟩
  case round =>
    obtain ⟨k, rfl, hk, ho, ht⟩ := hrel
    by_cases hlt : k < zs.length
    · obtain ⟨a, rfl, c0, c1⟩ := (hC.under hb0 hg0 (ht.below hg)) k hlt
      have d1 : _ = some (Value.int .i64 (rSym zs k)) := show World.cell? _ ⟨(a.add (k * 2)).block, (a.add (k * 2)).off + 1, none⟩ = _ from c1
      have HF : Hid ((zs.take (k + 1)).flatMap relB = (zs.take k).flatMap relB ++ relB ((rAt zs k, rSym zs k))) := flat_snoc relB zs (0, 0) k hlt
      have hlen : (l ++ be4 zs.length ++ (zs.take k).flatMap relB).length + (relB ((rAt zs k, rSym zs k))).length ≤ 1048576 := by
        have h5 := congrArg List.length HF.out
        have h6 := flat_take_le relB zs (k + 1)
        rw [List.length_append] at h5
        rw [List.length_append, len_app4]
        omega
      have hl2 : (relB (rAt zs k, rSym zs k)).length = 8 := rfl
      have HT : Hid _ := ht
      have HO : Hid (OutAt wr g (l ++ be4 zs.length ++ (zs.take k).flatMap relB)) := ho
      clear ht ho
      go_wp2_with fail
      refine (wReloc g (l ++ be4 zs.length ++ (zs.take k).flatMap relB) (rAt zs k) (rSym zs k) (by omega) _ ?ho).mono ?_
      case ho => exact OutAt.keep HO.out (lb_alloc (Below.refl _ _) _)
      rintro r w2 ⟨rfl, h3, h4⟩
      have H3 : Hid _ := h3
      have H4 : Hid _ := h4
      clear h3 h4
      go_wp2
      go_roundw
      case rel => exact ⟨k + 1, by go_num, by omega, by rw [HF.out, ← List.append_assoc]; exact H3.out, HT.out.trans ((OutTo.of (lb_alloc (Below.refl _ _) _)).trans H4.out)⟩
      case measure => simp [intOf]; omega
    · go_wp2
      go_end0
      rw [List.take_of_length_le (by omega)] at ho
      exact ⟨rfl, by rw [← List.append_assoc]; exact ho, ht⟩


end Go.Proofs.YthpkekpojhmaaaaGreatDoor
