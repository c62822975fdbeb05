/-
  The closure that tells the least register. EqInts: two lists of ints. eq and EqBools of the statements: lists that are the same. What the statements need of the program: Edges, Reached, Back, each by what it answers.
-/
import Derived.Test.YtmlhnnmelopleaaGreatDoorProg
import Derived.WalkKit
import Derived.WalkSpells
import Derived.WalkLawsBesides
import Derived.RowKit3
import Derived.Below
import Derived.Deep.QuietTactic
import Derived.BigQuiet
import Derived.WalkSmall
import Derived.Laws.Rows
import Derived.Test.YtmlhnnmelopleaaGreatDoorPs18
import Derived.Test.YtmlhnnmelopleaaGreatDoorPs01
import Derived.Deep.RegionHeld3
import Derived.Deep.RegionWith
import Derived.Test.YtmlhnnmelopleaaGreatDoorPs11
import Derived.Test.YtmlhnnmelopleaaGreatDoorPs10
namespace Go.Proofs.YtmlhnnmelopleaaGreatDoor
open Go.RowKit

set_option maxHeartbeats 2000000 in
theorem cls4_no (bk bl bb bz br bt : Nat) (kd p : Int) (w : World) (hk : w.cell? ⟨bk, 0, none⟩ = some (.int .i8 kd)) (h3 : kd ≠ 3) :
    Calls Tryz.prog 78 #[.int .i64 p, .pointer (some ⟨bk, 0, none⟩), .pointer (some ⟨bl, 0, none⟩), .pointer (some ⟨bb, 0, none⟩), .pointer (some ⟨bz, 0, none⟩), .pointer (some ⟨br, 0, none⟩), .pointer (some ⟨bt, 0, none⟩)] w fun e w' => e = .returned (.tuple #[.agg #[.int .i64 0, .int .i8 0, .int .i8 0], .bool false]) ∧ Below w.heap.size w w' := by
  have hne : (kd != 3) = true := by simpa using h3
  obtain ⟨X, HX⟩ : ∃ X, Hid (w.alloc (.cells #[.int .i64 0, .int .i8 0, .int .i8 0] 54) = X) := ⟨_, rfl⟩
  have HB : Hid (Below w.heap.size w X) := by unfold Hid; rw [← HX.out]; exact lb_alloc (Below.refl _ _) _
  have x0 : X.cell? ⟨w.heap.size, 0, none⟩ = some (.int .i64 0) := by rw [← HX.out]; simp [go_sem]
  have x1 : X.cell? ⟨w.heap.size, 1, none⟩ = some (.int .i8 0) := by rw [← HX.out]; simp [go_sem]
  have x2 : X.cell? ⟨w.heap.size, 2, none⟩ = some (.int .i8 0) := by rw [← HX.out]; simp [go_sem]
  have f0 : X.frozen? ⟨w.heap.size, 0, none⟩ = false := by rw [← HX.out]; simp [go_sem]
  have f1 : X.frozen? ⟨w.heap.size, 1, none⟩ = false := by rw [← HX.out]; simp [go_sem]
  have f2 : X.frozen? ⟨w.heap.size, 2, none⟩ = false := by rw [← HX.out]; simp [go_sem]
  have hB0 := HB.out
  have q0 := lkeep HB.out hk
  go_enter Tryz.func78, Tryz.ntmps78
  go_upto_region 1 with fail
  rw [HX.out]
  clear HX
  go_wp2
  refine bodyPost_ret (v := .tuple #[.agg #[.int .i64 0, .int .i8 0, .int .i8 0], .bool false]) (by simp [results, Tryz.results78, go_sem, x0, x1, x2]) rfl ⟨rfl, ?_⟩
  exact lb_newS (lb_newS (lb_newS hB0))
set_option maxHeartbeats 2000000 in
theorem cls4_few (bk bl bb bz br bt : Nat) (p : Int) (Al : Option Addr) (n cl : Nat) (w : World) (hk : w.cell? ⟨bk, 0, none⟩ = some (.int .i8 3)) (hl : w.cell? ⟨bl, 0, none⟩ = some (.slice Al n cl)) (hn : n ≤ 3) :
    Calls Tryz.prog 78 #[.int .i64 p, .pointer (some ⟨bk, 0, none⟩), .pointer (some ⟨bl, 0, none⟩), .pointer (some ⟨bb, 0, none⟩), .pointer (some ⟨bz, 0, none⟩), .pointer (some ⟨br, 0, none⟩), .pointer (some ⟨bt, 0, none⟩)] w fun e w' => e = .returned (.tuple #[.agg #[.int .i64 0, .int .i8 0, .int .i8 0], .bool false]) ∧ Below w.heap.size w w' := by
  have hn' : (n : Int) ≤ 3 := by omega
  obtain ⟨X, HX⟩ : ∃ X, Hid (w.alloc (.cells #[.int .i64 0, .int .i8 0, .int .i8 0] 54) = X) := ⟨_, rfl⟩
  have HB : Hid (Below w.heap.size w X) := by unfold Hid; rw [← HX.out]; exact lb_alloc (Below.refl _ _) _
  have x0 : X.cell? ⟨w.heap.size, 0, none⟩ = some (.int .i64 0) := by rw [← HX.out]; simp [go_sem]
  have x1 : X.cell? ⟨w.heap.size, 1, none⟩ = some (.int .i8 0) := by rw [← HX.out]; simp [go_sem]
  have x2 : X.cell? ⟨w.heap.size, 2, none⟩ = some (.int .i8 0) := by rw [← HX.out]; simp [go_sem]
  have f0 : X.frozen? ⟨w.heap.size, 0, none⟩ = false := by rw [← HX.out]; simp [go_sem]
  have f1 : X.frozen? ⟨w.heap.size, 1, none⟩ = false := by rw [← HX.out]; simp [go_sem]
  have f2 : X.frozen? ⟨w.heap.size, 2, none⟩ = false := by rw [← HX.out]; simp [go_sem]
  have hB0 := HB.out
  have q0 := lkeep HB.out hk
  have q1 := lkeep HB.out hl
  go_enter Tryz.func78, Tryz.ntmps78
  go_upto_region 1 with fail
  rw [HX.out]
  clear HX
  go_wp2
  refine bodyPost_ret (v := .tuple #[.agg #[.int .i64 0, .int .i8 0, .int .i8 0], .bool false]) (by simp [results, Tryz.results78, go_sem, x0, x1, x2]) rfl ⟨rfl, ?_⟩
  exact lb_newS (lb_newS (lb_newS hB0))
set_option maxHeartbeats 4000000 in
theorem cls4_any (bk bl bb bz br bt : Nat) (p m u L cH h rd wt : Nat) (Al : Option Addr) (n cl : Nat) (hs : Addr) (w : World) (hk : w.cell? ⟨bk, 0, none⟩ = some (.int .i8 3)) (hl : w.cell? ⟨bl, 0, none⟩ = some (.slice Al n cl)) (hn : 3 < n) (hb : w.cell? ⟨bb, 0, none⟩ = some (.slice (some hs) L cH)) (hz : w.cell? ⟨bz, 0, none⟩ = some (.int .i64 (m : Int))) (hr : w.cell? ⟨br, 0, none⟩ = some (.int .u16 (rd : Int))) (ht : w.cell? ⟨bt, 0, none⟩ = some (.int .u16 (wt : Int))) (hu : u = p + m) (hL : u < L) (hL2 : L ≤ 16384) (hh : w.cell? (hs.add u) = some (.int .u16 (h : Int))) (h16 : h < 65536) (r16 : rd < 65536) (t16 : wt < 65536) (hT : Tz w) :
    Calls Tryz.prog 78 #[.int .i64 (p : Int), .pointer (some ⟨bk, 0, none⟩), .pointer (some ⟨bl, 0, none⟩), .pointer (some ⟨bb, 0, none⟩), .pointer (some ⟨bz, 0, none⟩), .pointer (some ⟨br, 0, none⟩), .pointer (some ⟨bt, 0, none⟩)] w fun e w' => e = .returned (.tuple #[.agg #[.int .i64 (p : Int), .int .i8 4, .int .i8 (lestN (h ||| rd ||| wt) : Nat)], .bool (decide (lestN (h ||| rd ||| wt) < 15))]) ∧ Below w.heap.size w w' := by
  have e1 : (p : Int) + (m : Int) = (u : Int) := by omega
  have e2 : (0 : Int) ≤ (u : Int) := by omega
  have e3 : (u : Int) < (L : Int) := by omega
  have e6 : IntKind.i64.wrap (u : Int) = (u : Int) := by simp [IntKind.wrap, IntKind.signed, IntKind.bits]; omega
  have hn' : ¬ (n : Int) ≤ 3 := by omega
  obtain ⟨X, HX⟩ : ∃ X, Hid (w.alloc (.cells #[.int .i64 0, .int .i8 0, .int .i8 0] 54) = X) := ⟨_, rfl⟩
  have HB : Hid (Below w.heap.size w X) := by unfold Hid; rw [← HX.out]; exact lb_alloc (Below.refl _ _) _
  have x0 : X.cell? ⟨w.heap.size, 0, none⟩ = some (.int .i64 0) := by rw [← HX.out]; simp [go_sem]
  have x1 : X.cell? ⟨w.heap.size, 1, none⟩ = some (.int .i8 0) := by rw [← HX.out]; simp [go_sem]
  have x2 : X.cell? ⟨w.heap.size, 2, none⟩ = some (.int .i8 0) := by rw [← HX.out]; simp [go_sem]
  have f0 : X.frozen? ⟨w.heap.size, 0, none⟩ = false := by rw [← HX.out]; simp [go_sem]
  have f1 : X.frozen? ⟨w.heap.size, 1, none⟩ = false := by rw [← HX.out]; simp [go_sem]
  have f2 : X.frozen? ⟨w.heap.size, 2, none⟩ = false := by rw [← HX.out]; simp [go_sem]
  have hB0 := HB.out
  have q0 := lkeep HB.out hk
  have q1 := lkeep HB.out hl
  have q2 := lkeep HB.out hb
  have q3 := lkeep HB.out hz
  have q4 := lkeep HB.out hh
  have q5 := lkeep HB.out hr
  have q6 := lkeep HB.out ht
  have e4 : (p : Int) ≤ 16384 := by omega
  have e5 : (m : Int) ≤ 16384 := by omega
  have o1 := orI h16 r16
  have o2 := orI (orN_lt h16 r16) t16
  have CL := fun wx (hb : Below w.heap.size w wx) => lout_any (h ||| rd ||| wt) (orN_lt (orN_lt h16 r16) t16) wx (hT.below hb)
  generalize h ||| rd = y at *
  generalize y ||| wt = z at *
  generalize lestN z = g at *
  have hg : decide ((g : Int) < 15) = decide (g < 15) := by
    by_cases hh : g < 15
    · rw [decide_eq_true hh, decide_eq_true (by omega)]
    · rw [decide_eq_false hh, decide_eq_false (by omega)]
  clear hu
  go_enter Tryz.func78, Tryz.ntmps78
  go_upto_region 1 with fail
  rw [HX.out]
  clear HX
  go_upto_region 3 with fail
  go_region_held3 (fun W => Below w.heap.size w W ∧ W.cell? ⟨bb, 0, none⟩ = some (.slice (some hs) L cH) ∧ W.cell? ⟨bz, 0, none⟩ = some (.int .i64 (m : Int)) ∧ W.cell? (hs.add u) = some (.int .u16 (h : Int)) ∧ W.cell? ⟨br, 0, none⟩ = some (.int .u16 (rd : Int)) ∧ W.cell? ⟨bt, 0, none⟩ = some (.int .u16 (wt : Int))) (first | (refine ⟨?_, lkeep ?_ hb, lkeep ?_ hz, lkeep ?_ hh, lkeep ?_ hr, lkeep ?_ ht⟩ <;> ((repeat (first | assumption | exact (‹Below _ _ _ ∧ _›).1 | apply Below.drew | apply lb_newS)); done))) ((go_at_call 79; refine (CL _ (by first | exact hB0 | exact hB0.drew | exact (‹Below _ _ _ ∧ _›).1)).mono ?_; rintro e w1 ⟨rfl, rfl⟩))
  all_goals (
    rename_i hS
    have sB := hS.1
    clear hS
    go_wp2
    refine bodyPost_ret (v := .tuple #[.agg #[.int .i64 (p : Int), .int .i8 4, .int .i8 (g : Int)], .bool (decide (g < 15))]) (by simp [results, Tryz.results78, go_sem, x0, x1, x2]) rfl ⟨rfl, ?_⟩
    exact lb_newS (lb_newS (lb_newS sB)))

end Go.Proofs.YtmlhnnmelopleaaGreatDoor

namespace Go.Proofs.YtmlhnnmelopleaaGreatDoor
open Go.RowKit



end Go.Proofs.YtmlhnnmelopleaaGreatDoor

namespace Go.Proofs.YtmlhnnmelopleaaGreatDoor
open Go.RowKit

/-- A row of bools, to be read. -/
def BolsAt (w : World) (A : Option Addr) (n : Nat) (F : Int → Bool) : Prop := ∀ i : Nat, i < n → ∃ a : Addr, A = some a ∧ w.cell? (a.add i) = some (.bool (F (i : Int)))
theorem BolsAt.keep {w w1 : World} {A : Option Addr} {n : Nat} {F : Int → Bool} (h : BolsAt w A n F) (hb : Below w.heap.size w w1) : BolsAt w1 A n F := fun i hi => by
  obtain ⟨a, e, c⟩ := h i hi
  exact ⟨a, e, lkeep hb c⟩
theorem BlsAt.bols {w : World} {g n : Nat} {F : Int → Bool} (h : BlsAt w g n F) : BolsAt w (some ⟨g, 0, none⟩) n F := fun i hi => ⟨_, rfl, by rw [add0]; exact h.cellN hi⟩


end Go.Proofs.YtmlhnnmelopleaaGreatDoor

namespace Go.Proofs.YtmlhnnmelopleaaGreatDoor
open Go.RowKit

/-- Lists beside a code. -/
def ZE (E : Int) (L : List (List Int)) (w : World) (e : Ending) (w' : World) : Prop := ∃ (A : Option Addr) (c : Nat), e = .returned (.tuple #[.slice A L.length c, .int .i64 E]) ∧ IntsZ w' A L ∧ Below w.heap.size w w'
def ZR (L : List (List Int)) (w : World) (e : Ending) (w' : World) : Prop := ∃ (A : Option Addr) (c : Nat), e = .returned (.slice A L.length c) ∧ IntsZ w' A L ∧ Below w.heap.size w w'
def BE (E : Int) (n : Nat) (F : Int → Bool) (w : World) (e : Ending) (w' : World) : Prop := ∃ (A : Option Addr) (c : Nat), e = .returned (.tuple #[.slice A n c, .int .i64 E]) ∧ BolsAt w' A n F ∧ Below w.heap.size w w'
def outE (text : List Int) (ml : Nat) (ent : Int) : List (List Int) := if (checkI text ml ent).1 = 0 then edgT text ent (blkL text ent).length else []
def outN (text : List Int) (ml : Nat) (ent : Int) : Nat := if (checkI text ml ent).1 = 0 then (blkL text ent).length else 0
noncomputable def outR (text : List Int) (ent : Int) : Int → Bool := rchF (edgT text ent (blkL text ent).length) (ofB (blkL text ent) ent)
def EdgesOK : Prop := ∀ (A1 A2 : Option Addr) (c1 ml c2 : Nat) (ent : Int) (text : List Int) (w : World), IntsAt w A1 .u32 text → (∀ i, i < text.length → 0 ≤ nth text i ∧ nth text i < 4294967296) → text.length ≤ 1048576 → ml ≤ 1048576 →
  Calls Tryz.prog 106 #[.agg #[.slice A1 text.length c1, .int .i64 ent, .slice A2 ml c2]] w (ZE (checkI text ml ent).1 (outE text ml ent) w)
def BackOK : Prop := ∀ (A : Option Addr) (ca : Nat) (L : List (List Int)) (w : World), IntsZ w A L → L.length ≤ 65536 → (∀ i, i < L.length → (rowZ L i).length ≤ 65536) →
  Calls Tryz.prog 100 #[.slice A L.length ca] w (ZR (backT L L.length) w)
theorem ZP.lists {L : List (List Int)} {w w' : World} {e : Ending} (h : ZP L w e w') : ZR L w e w' := by
  obtain ⟨A, c, vs, he, hz, hb⟩ := h
  exact ⟨A, c, he, hz.ints, hb⟩




end Go.Proofs.YtmlhnnmelopleaaGreatDoor
