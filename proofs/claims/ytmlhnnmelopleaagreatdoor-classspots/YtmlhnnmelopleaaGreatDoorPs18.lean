/-
  The closures that tell the classes.
-/
import Derived.Test.YtmlhnnmelopleaaGreatDoorProg
import Derived.WalkKit
import Derived.WalkSpells
import Derived.WalkLawsBesides
import Derived.RowKit3
import Derived.Below
import Derived.Deep.QuietTactic
import Derived.BigQuiet
import Derived.WalkSmall
import Derived.Laws.Rows
import Derived.Test.YtmlhnnmelopleaaGreatDoorPs12
import Derived.Test.YtmlhnnmelopleaaGreatDoorPs13
import Derived.Deep.Cut
import Derived.Deep.RegionHeld3
namespace Go.Proofs.YtmlhnnmelopleaaGreatDoor
open Go.RowKit

theorem lb_newS {w w1 : World} {i : Nat} {v : Value} (h : Below w.heap.size w w1) : Below w.heap.size w (w1.setCell ⟨w.heap.size, i, none⟩ v) := h.setCell (p := ⟨w.heap.size, i, none⟩) (Nat.le_refl _) v

set_option maxHeartbeats 2000000 in
theorem cls1_any (bk : Nat) (kd p : Int) (w : World) (hk : w.cell? ⟨bk, 0, none⟩ = some (.int .i8 kd)) :
    Calls Tryz.prog 75 #[.int .i64 p, .pointer (some ⟨bk, 0, none⟩)] w fun e w' => e = .returned (.tuple #[.agg #[.int .i64 p, .int .i8 1, .int .i8 0], .bool (kd == 1)]) ∧ Below w.heap.size w w' := by
  obtain ⟨X, HX⟩ : ∃ X, Hid (w.alloc (.cells #[.int .i64 0, .int .i8 0, .int .i8 0] 54) = X) := ⟨_, rfl⟩
  have HB : Hid (Below w.heap.size w X) := by unfold Hid; rw [← HX.out]; exact lb_alloc (Below.refl _ _) _
  have x0 : X.cell? ⟨w.heap.size, 0, none⟩ = some (.int .i64 0) := by rw [← HX.out]; simp [go_sem]
  have x1 : X.cell? ⟨w.heap.size, 1, none⟩ = some (.int .i8 0) := by rw [← HX.out]; simp [go_sem]
  have x2 : X.cell? ⟨w.heap.size, 2, none⟩ = some (.int .i8 0) := by rw [← HX.out]; simp [go_sem]
  have f0 : X.frozen? ⟨w.heap.size, 0, none⟩ = false := by rw [← HX.out]; simp [go_sem]
  have f1 : X.frozen? ⟨w.heap.size, 1, none⟩ = false := by rw [← HX.out]; simp [go_sem]
  have f2 : X.frozen? ⟨w.heap.size, 2, none⟩ = false := by rw [← HX.out]; simp [go_sem]
  have hB0 := HB.out
  have q0 := lkeep HB.out hk
  go_enter Tryz.func75, Tryz.ntmps75
  go_upto_region 1 with fail
  rw [HX.out]
  clear HX
  go_region_held3 (fun W => Below w.heap.size w W ∧ W.cell? ⟨bk, 0, none⟩ = some (.int .i8 kd)) (first | (refine ⟨?_, lkeep ?_ hk⟩ <;> ((repeat (first | assumption | exact (‹Below _ _ _ ∧ _›).1 | apply Below.drew | apply lb_newS)); done))) (fail)
  all_goals (
    rename_i hS
    have sB : Hid _ := hS.1
    clear hS
    go_wp2
    refine bodyPost_ret (v := .tuple #[.agg #[.int .i64 p, .int .i8 1, .int .i8 0], .bool (kd == 1)]) (by simp [results, Tryz.results75, go_sem, x0, x1, x2]) rfl ⟨rfl, sB.out⟩)

set_option maxHeartbeats 2000000 in
theorem cls2_any (bk : Nat) (kd p : Int) (w : World) (hk : w.cell? ⟨bk, 0, none⟩ = some (.int .i8 kd)) :
    Calls Tryz.prog 76 #[.int .i64 p, .pointer (some ⟨bk, 0, none⟩)] w fun e w' => e = .returned (.tuple #[.agg #[.int .i64 p, .int .i8 2, .int .i8 0], .bool (kd == 2)]) ∧ Below w.heap.size w w' := by
  obtain ⟨X, HX⟩ : ∃ X, Hid (w.alloc (.cells #[.int .i64 0, .int .i8 0, .int .i8 0] 54) = X) := ⟨_, rfl⟩
  have HB : Hid (Below w.heap.size w X) := by unfold Hid; rw [← HX.out]; exact lb_alloc (Below.refl _ _) _
  have x0 : X.cell? ⟨w.heap.size, 0, none⟩ = some (.int .i64 0) := by rw [← HX.out]; simp [go_sem]
  have x1 : X.cell? ⟨w.heap.size, 1, none⟩ = some (.int .i8 0) := by rw [← HX.out]; simp [go_sem]
  have x2 : X.cell? ⟨w.heap.size, 2, none⟩ = some (.int .i8 0) := by rw [← HX.out]; simp [go_sem]
  have f0 : X.frozen? ⟨w.heap.size, 0, none⟩ = false := by rw [← HX.out]; simp [go_sem]
  have f1 : X.frozen? ⟨w.heap.size, 1, none⟩ = false := by rw [← HX.out]; simp [go_sem]
  have f2 : X.frozen? ⟨w.heap.size, 2, none⟩ = false := by rw [← HX.out]; simp [go_sem]
  have hB0 := HB.out
  have q0 := lkeep HB.out hk
  go_enter Tryz.func76, Tryz.ntmps76
  go_upto_region 1 with fail
  rw [HX.out]
  clear HX
  go_region_held3 (fun W => Below w.heap.size w W ∧ W.cell? ⟨bk, 0, none⟩ = some (.int .i8 kd)) (first | (refine ⟨?_, lkeep ?_ hk⟩ <;> ((repeat (first | assumption | exact (‹Below _ _ _ ∧ _›).1 | apply Below.drew | apply lb_newS)); done))) (fail)
  all_goals (
    rename_i hS
    have sB : Hid _ := hS.1
    clear hS
    go_wp2
    refine bodyPost_ret (v := .tuple #[.agg #[.int .i64 p, .int .i8 2, .int .i8 0], .bool (kd == 2)]) (by simp [results, Tryz.results76, go_sem, x0, x1, x2]) rfl ⟨rfl, sB.out⟩)

theorem bit15 {h : Nat} (hh : h < 65536) : (h.testBit 15 = false → bits .and .u16 (h : Int) 32768 = 0) ∧ (h.testBit 15 = true → bits .and .u16 (h : Int) 32768 = 32768) := by
  have e : bits .and .u16 (h : Int) ((32768 : Nat) : Int) = ((h &&& 32768 : Nat) : Int) := andI hh (by decide)
  have e2 : h &&& 32768 = if h.testBit 15 then 32768 else 0 := by
    refine Nat.eq_of_testBit_eq fun j => ?_
    rw [Nat.testBit_and, show 32768 = 2 ^ 15 by rfl, Nat.testBit_two_pow]
    by_cases hj : 15 = j
    · subst hj
      cases h.testBit 15 <;> simp <;> decide
    · rw [decide_eq_false hj, Bool.and_false]
      split
      · rw [Nat.testBit_two_pow, decide_eq_false hj]
      · rw [Nat.zero_testBit]
  constructor
  · intro h0
    rw [show (32768 : Int) = ((32768 : Nat) : Int) by rfl, e, e2, h0]; rfl
  · intro h0
    rw [show (32768 : Int) = ((32768 : Nat) : Int) by rfl, e, e2, h0]; rfl
set_option maxHeartbeats 2000000 in
theorem cls3_no (bk bb bz : Nat) (kd p : Int) (w : World) (hk : w.cell? ⟨bk, 0, none⟩ = some (.int .i8 kd)) (h3 : kd = 0 ∨ kd = 1 ∨ kd = 2) :
    Calls Tryz.prog 77 #[.int .i64 p, .pointer (some ⟨bk, 0, none⟩), .pointer (some ⟨bb, 0, none⟩), .pointer (some ⟨bz, 0, none⟩)] w fun e w' => e = .returned (.tuple #[.agg #[.int .i64 p, .int .i8 3, .int .i8 0], .bool false]) ∧ Below w.heap.size w w' := by
  rcases h3 with rfl | rfl | rfl
  · obtain ⟨X, HX⟩ : ∃ X, Hid (w.alloc (.cells #[.int .i64 0, .int .i8 0, .int .i8 0] 54) = X) := ⟨_, rfl⟩
    have HB : Hid (Below w.heap.size w X) := by unfold Hid; rw [← HX.out]; exact lb_alloc (Below.refl _ _) _
    have x0 : X.cell? ⟨w.heap.size, 0, none⟩ = some (.int .i64 0) := by rw [← HX.out]; simp [go_sem]
    have x1 : X.cell? ⟨w.heap.size, 1, none⟩ = some (.int .i8 0) := by rw [← HX.out]; simp [go_sem]
    have x2 : X.cell? ⟨w.heap.size, 2, none⟩ = some (.int .i8 0) := by rw [← HX.out]; simp [go_sem]
    have f0 : X.frozen? ⟨w.heap.size, 0, none⟩ = false := by rw [← HX.out]; simp [go_sem]
    have f1 : X.frozen? ⟨w.heap.size, 1, none⟩ = false := by rw [← HX.out]; simp [go_sem]
    have f2 : X.frozen? ⟨w.heap.size, 2, none⟩ = false := by rw [← HX.out]; simp [go_sem]
    have hB0 := HB.out
    have q0 := lkeep HB.out hk
    go_enter Tryz.func77, Tryz.ntmps77
    go_upto_region 1 with fail
    rw [HX.out]
    clear HX
    refine wp_region_held_drew (S := fun W => Below w.heap.size w W ∧ W.cell? ⟨bk, 0, none⟩ = some (.int .i8 0)) (by kernel_rfl) ⟨hB0.drew, lkeep hB0.drew hk⟩ fun hHeld => ?_
    refine wpAnyH_take (i := 0) (oi := { dst := some 7, op := Op.move (Operand.tmp 0), type := 3, pos := "text.go:98", after := #[], guard := none }) (v := ?_) rfl (by kernel_rfl) (by kernel_rfl) (by kernel_rfl) (fun _ _ _ h => h) (Or.inl ⟨by rfl, ?_⟩) hHeld ?_
    rotate_left
    · intro X hSX
      (try dsimp only at hSX)
      go_simp
      first | done | with_reducible rfl
    (try simp only [Act.put, List.setIfInBounds_toArray, List.set_cons_zero, List.set_cons_succ])
    refine wpAnyH_take (i := 1) (oi := { dst := some 8, op := Op.build 54 #[(0, Operand.tmp 7), (1, Operand.const (Value.int IntKind.i8 3))], type := 54, pos := "text.go:98", after := #[{ on := 0, ground := Ground.data }], guard := none }) (v := ?_) rfl (by kernel_rfl) (by kernel_rfl) (by kernel_rfl) (fun _ _ _ h => h) (Or.inl ⟨by rfl, ?_⟩) hHeld ?_
    rotate_left
    · intro X hSX
      (try dsimp only at hSX)
      go_simp
      first | done | with_reducible rfl
    (try simp only [Act.put, List.setIfInBounds_toArray, List.set_cons_zero, List.set_cons_succ])
    refine wpAnyH_take (i := 2) (oi := { dst := some 9, op := Op.load 25 (Operand.tmp 1), type := 25, pos := "text.go:98", after := #[], guard := none }) (v := ?_) rfl (by kernel_rfl) (by kernel_rfl) (by kernel_rfl) (fun _ _ _ h => h) (Or.inl ⟨by rfl, ?_⟩) hHeld ?_
    rotate_left
    · intro X hSX
      (try dsimp only at hSX)
      go_simp
      first | done | with_reducible rfl
    (try simp only [Act.put, List.setIfInBounds_toArray, List.set_cons_zero, List.set_cons_succ])
    refine wpAnyH_take (i := 3) (oi := { dst := some 10, op := Op.binOp BinOp.eql 25 (Operand.tmp 9) (Operand.const (Value.int IntKind.i8 3)) 25, type := 4, pos := "text.go:98", after := #[{ on := 2, ground := Ground.data }], guard := none }) (v := ?_) rfl (by kernel_rfl) (by kernel_rfl) (by kernel_rfl) (fun _ _ _ h => h) (Or.inl ⟨by rfl, ?_⟩) hHeld ?_
    rotate_left
    · intro X hSX
      (try dsimp only at hSX)
      go_simp
      first | done | with_reducible rfl
    (try simp only [Act.put, List.setIfInBounds_toArray, List.set_cons_zero, List.set_cons_succ])
    refine wpAnyH_take (i := 4) (oi := { dst := some 11, op := Op.move (Operand.tmp 10), type := 4, pos := "text.go:98", after := #[{ on := 3, ground := Ground.data }], guard := none }) (v := ?_) rfl (by kernel_rfl) (by kernel_rfl) (by kernel_rfl) (fun _ _ _ h => h) (Or.inl ⟨by rfl, ?_⟩) hHeld ?_
    rotate_left
    · intro X hSX
      (try dsimp only at hSX)
      go_simp
      first | done | with_reducible rfl
    (try simp only [Act.put, List.setIfInBounds_toArray, List.set_cons_zero, List.set_cons_succ])
    refine wpAnyH_take (i := 5) (oi := { dst := some 12, op := Op.load 45 (Operand.tmp 2), type := 45, pos := "text.go:98", after := #[{ on := 4, ground := Ground.guard }, { on := 14, ground := Ground.gcOnly Departure.lateStores }], guard := some (4, true) }) (v := undef) rfl (by kernel_rfl) (by kernel_rfl) (by kernel_rfl) (fun _ _ _ h => h) (Or.inr ⟨by rfl, rfl⟩) hHeld ?_
    simp only [Act.put, List.setIfInBounds_toArray, List.set_cons_zero, List.set_cons_succ]
    refine wpAnyH_take (i := 6) (oi := { dst := some 13, op := Op.move (Operand.tmp 0), type := 3, pos := "text.go:98", after := #[{ on := 4, ground := Ground.guard }, { on := 14, ground := Ground.gcOnly Departure.lateStores }], guard := some (4, true) }) (v := undef) rfl (by kernel_rfl) (by kernel_rfl) (by kernel_rfl) (fun _ _ _ h => h) (Or.inr ⟨by rfl, rfl⟩) hHeld ?_
    simp only [Act.put, List.setIfInBounds_toArray, List.set_cons_zero, List.set_cons_succ]
    refine wpAnyH_take (i := 7) (oi := { dst := some 14, op := Op.load 3 (Operand.tmp 3), type := 3, pos := "text.go:98", after := #[{ on := 4, ground := Ground.guard }, { on := 14, ground := Ground.gcOnly Departure.lateStores }], guard := some (4, true) }) (v := undef) rfl (by kernel_rfl) (by kernel_rfl) (by kernel_rfl) (fun _ _ _ h => h) (Or.inr ⟨by rfl, rfl⟩) hHeld ?_
    simp only [Act.put, List.setIfInBounds_toArray, List.set_cons_zero, List.set_cons_succ]
    refine wpAnyH_take (i := 8) (oi := { dst := some 15, op := Op.binOp BinOp.add 3 (Operand.tmp 13) (Operand.tmp 14) 3, type := 3, pos := "text.go:98", after := #[{ on := 6, ground := Ground.data }, { on := 7, ground := Ground.data }, { on := 4, ground := Ground.guard }, { on := 14, ground := Ground.gcOnly Departure.lateStores }], guard := some (4, true) }) (v := undef) rfl (by kernel_rfl) (by kernel_rfl) (by kernel_rfl) (fun _ _ _ h => h) (Or.inr ⟨by rfl, rfl⟩) hHeld ?_
    simp only [Act.put, List.setIfInBounds_toArray, List.set_cons_zero, List.set_cons_succ]
    refine wpAnyH_take (i := 9) (oi := { dst := some 16, op := Op.indexAddr 45 (Operand.tmp 12) (Operand.tmp 15), type := 0, pos := "text.go:98", after := #[{ on := 5, ground := Ground.data }, { on := 8, ground := Ground.data }, { on := 4, ground := Ground.guard }, { on := 14, ground := Ground.gcOnly Departure.lateStores }], guard := some (4, true) }) (v := undef) rfl (by kernel_rfl) (by kernel_rfl) (by kernel_rfl) (fun _ _ _ h => h) (Or.inr ⟨by rfl, rfl⟩) hHeld ?_
    simp only [Act.put, List.setIfInBounds_toArray, List.set_cons_zero, List.set_cons_succ]
    refine wpAnyH_take (i := 10) (oi := { dst := some 17, op := Op.load 85 (Operand.tmp 16), type := 85, pos := "text.go:98", after := #[{ on := 9, ground := Ground.data }, { on := 4, ground := Ground.guard }, { on := 14, ground := Ground.gcOnly Departure.lateStores }], guard := some (4, true) }) (v := undef) rfl (by kernel_rfl) (by kernel_rfl) (by kernel_rfl) (fun _ _ _ h => h) (Or.inr ⟨by rfl, rfl⟩) hHeld ?_
    simp only [Act.put, List.setIfInBounds_toArray, List.set_cons_zero, List.set_cons_succ]
    refine wpAnyH_take (i := 11) (oi := { dst := some 18, op := Op.binOp BinOp.and 85 (Operand.tmp 17) (Operand.const (Value.int IntKind.u16 32768)) 85, type := 85, pos := "text.go:98", after := #[{ on := 10, ground := Ground.data }, { on := 4, ground := Ground.guard }, { on := 14, ground := Ground.gcOnly Departure.lateStores }], guard := some (4, true) }) (v := undef) rfl (by kernel_rfl) (by kernel_rfl) (by kernel_rfl) (fun _ _ _ h => h) (Or.inr ⟨by rfl, rfl⟩) hHeld ?_
    simp only [Act.put, List.setIfInBounds_toArray, List.set_cons_zero, List.set_cons_succ]
    refine wpAnyH_take (i := 12) (oi := { dst := some 19, op := Op.binOp BinOp.eql 85 (Operand.tmp 18) (Operand.const (Value.int IntKind.u16 0)) 85, type := 4, pos := "text.go:98", after := #[{ on := 11, ground := Ground.data }, { on := 4, ground := Ground.guard }, { on := 14, ground := Ground.gcOnly Departure.lateStores }], guard := some (4, true) }) (v := undef) rfl (by kernel_rfl) (by kernel_rfl) (by kernel_rfl) (fun _ _ _ h => h) (Or.inr ⟨by rfl, rfl⟩) hHeld ?_
    simp only [Act.put, List.setIfInBounds_toArray, List.set_cons_zero, List.set_cons_succ]
    refine wpAnyH_take (i := 13) (oi := { dst := some 20, op := Op.pick (Operand.tmp 11) (Operand.tmp 19) (Operand.const (Value.bool false)), type := 4, pos := "text.go:98", after := #[{ on := 4, ground := Ground.data }, { on := 12, ground := Ground.data }, { on := 14, ground := Ground.gcOnly Departure.lateStores }], guard := none }) (v := ?_) rfl (by kernel_rfl) (by kernel_rfl) (by kernel_rfl) (fun _ _ _ h => h) (Or.inl ⟨by rfl, ?_⟩) hHeld ?_
    rotate_left
    · intro X hSX
      (try dsimp only at hSX)
      go_simp
      first | done | with_reducible rfl
    (try simp only [Act.put, List.setIfInBounds_toArray, List.set_cons_zero, List.set_cons_succ])
    refine wpAnyH_ready (rs := [14]) (by kernel_rfl) (by simp) (AllReadyH.cons (o := { dst := none, op := Op.store 54 (Operand.tmp 5) (Operand.tmp 8), type := 0, pos := "text.go:98", after := #[{ on := 1, ground := Ground.data }, { on := 4, ground := Ground.chain }, { on := 0, ground := Ground.phase }, { on := 1, ground := Ground.phase }, { on := 2, ground := Ground.textOnly Departure.lateStores }, { on := 3, ground := Ground.textOnly Departure.lateStores }, { on := 4, ground := Ground.textOnly Departure.lateStores }, { on := 5, ground := Ground.textOnly Departure.lateStores }, { on := 6, ground := Ground.textOnly Departure.lateStores }, { on := 7, ground := Ground.textOnly Departure.lateStores }, { on := 8, ground := Ground.textOnly Departure.lateStores }, { on := 9, ground := Ground.textOnly Departure.lateStores }, { on := 10, ground := Ground.textOnly Departure.lateStores }, { on := 11, ground := Ground.textOnly Departure.lateStores }, { on := 12, ground := Ground.textOnly Departure.lateStores }, { on := 13, ground := Ground.textOnly Departure.lateStores }], guard := none }) rfl (fun K hK => ?_) AllReadyH.nil)
    go_simp
    refine hK.out _ _ ⟨lb_newS (lb_newS (lb_newS hHeld.1)), lkeep (lb_newS (lb_newS (lb_newS hHeld.1))) hk⟩ (fun hHeld2 => ?_)
    clear hK K
    (try simp only [Act.put, List.setIfInBounds_toArray, List.set_cons_zero, List.set_cons_succ])
    refine wpAnyH_take (i := 15) (oi := { dst := some 6, op := Op.assign (Operand.tmp 20), type := 4, pos := "text.go:98", after := #[{ on := 13, ground := Ground.data }, { on := 14, ground := Ground.chain }, { on := 0, ground := Ground.phase }, { on := 1, ground := Ground.phase }, { on := 2, ground := Ground.phase }, { on := 3, ground := Ground.phase }, { on := 4, ground := Ground.phase }, { on := 5, ground := Ground.phase }, { on := 6, ground := Ground.phase }, { on := 7, ground := Ground.phase }, { on := 8, ground := Ground.phase }, { on := 9, ground := Ground.phase }, { on := 10, ground := Ground.phase }, { on := 11, ground := Ground.phase }, { on := 12, ground := Ground.phase }, { on := 13, ground := Ground.phase }, { on := 14, ground := Ground.phase }], guard := none }) (v := ?_) rfl (by kernel_rfl) (by kernel_rfl) (by kernel_rfl) (fun _ _ _ h => h) (Or.inl ⟨by rfl, ?_⟩) hHeld2 ?_
    rotate_left
    · intro X hSX
      (try dsimp only at hSX)
      go_simp
      first | done | with_reducible rfl
    (try simp only [Act.put, List.setIfInBounds_toArray, List.set_cons_zero, List.set_cons_succ])
    refine wpAnyH_done (by kernel_rfl) ?_ _
    have sB : Hid _ := hHeld2.1
    clear hHeld hHeld2
    go_wp2
    refine bodyPost_ret (v := .tuple #[.agg #[.int .i64 p, .int .i8 3, .int .i8 0], .bool false]) (by simp [results, Tryz.results77, go_sem, x0, x1, x2]) rfl ⟨rfl, sB.out⟩
  · obtain ⟨X, HX⟩ : ∃ X, Hid (w.alloc (.cells #[.int .i64 0, .int .i8 0, .int .i8 0] 54) = X) := ⟨_, rfl⟩
    have HB : Hid (Below w.heap.size w X) := by unfold Hid; rw [← HX.out]; exact lb_alloc (Below.refl _ _) _
    have x0 : X.cell? ⟨w.heap.size, 0, none⟩ = some (.int .i64 0) := by rw [← HX.out]; simp [go_sem]
    have x1 : X.cell? ⟨w.heap.size, 1, none⟩ = some (.int .i8 0) := by rw [← HX.out]; simp [go_sem]
    have x2 : X.cell? ⟨w.heap.size, 2, none⟩ = some (.int .i8 0) := by rw [← HX.out]; simp [go_sem]
    have f0 : X.frozen? ⟨w.heap.size, 0, none⟩ = false := by rw [← HX.out]; simp [go_sem]
    have f1 : X.frozen? ⟨w.heap.size, 1, none⟩ = false := by rw [← HX.out]; simp [go_sem]
    have f2 : X.frozen? ⟨w.heap.size, 2, none⟩ = false := by rw [← HX.out]; simp [go_sem]
    have hB0 := HB.out
    have q0 := lkeep HB.out hk
    go_enter Tryz.func77, Tryz.ntmps77
    go_upto_region 1 with fail
    rw [HX.out]
    clear HX
    refine wp_region_held_drew (S := fun W => Below w.heap.size w W ∧ W.cell? ⟨bk, 0, none⟩ = some (.int .i8 1)) (by kernel_rfl) ⟨hB0.drew, lkeep hB0.drew hk⟩ fun hHeld => ?_
    refine wpAnyH_take (i := 0) (oi := { dst := some 7, op := Op.move (Operand.tmp 0), type := 3, pos := "text.go:98", after := #[], guard := none }) (v := ?_) rfl (by kernel_rfl) (by kernel_rfl) (by kernel_rfl) (fun _ _ _ h => h) (Or.inl ⟨by rfl, ?_⟩) hHeld ?_
    rotate_left
    · intro X hSX
      (try dsimp only at hSX)
      go_simp
      first | done | with_reducible rfl
    (try simp only [Act.put, List.setIfInBounds_toArray, List.set_cons_zero, List.set_cons_succ])
    refine wpAnyH_take (i := 1) (oi := { dst := some 8, op := Op.build 54 #[(0, Operand.tmp 7), (1, Operand.const (Value.int IntKind.i8 3))], type := 54, pos := "text.go:98", after := #[{ on := 0, ground := Ground.data }], guard := none }) (v := ?_) rfl (by kernel_rfl) (by kernel_rfl) (by kernel_rfl) (fun _ _ _ h => h) (Or.inl ⟨by rfl, ?_⟩) hHeld ?_
    rotate_left
    · intro X hSX
      (try dsimp only at hSX)
      go_simp
      first | done | with_reducible rfl
    (try simp only [Act.put, List.setIfInBounds_toArray, List.set_cons_zero, List.set_cons_succ])
    refine wpAnyH_take (i := 2) (oi := { dst := some 9, op := Op.load 25 (Operand.tmp 1), type := 25, pos := "text.go:98", after := #[], guard := none }) (v := ?_) rfl (by kernel_rfl) (by kernel_rfl) (by kernel_rfl) (fun _ _ _ h => h) (Or.inl ⟨by rfl, ?_⟩) hHeld ?_
    rotate_left
    · intro X hSX
      (try dsimp only at hSX)
      go_simp
      first | done | with_reducible rfl
    (try simp only [Act.put, List.setIfInBounds_toArray, List.set_cons_zero, List.set_cons_succ])
    refine wpAnyH_take (i := 3) (oi := { dst := some 10, op := Op.binOp BinOp.eql 25 (Operand.tmp 9) (Operand.const (Value.int IntKind.i8 3)) 25, type := 4, pos := "text.go:98", after := #[{ on := 2, ground := Ground.data }], guard := none }) (v := ?_) rfl (by kernel_rfl) (by kernel_rfl) (by kernel_rfl) (fun _ _ _ h => h) (Or.inl ⟨by rfl, ?_⟩) hHeld ?_
    rotate_left
    · intro X hSX
      (try dsimp only at hSX)
      go_simp
      first | done | with_reducible rfl
    (try simp only [Act.put, List.setIfInBounds_toArray, List.set_cons_zero, List.set_cons_succ])
    refine wpAnyH_take (i := 4) (oi := { dst := some 11, op := Op.move (Operand.tmp 10), type := 4, pos := "text.go:98", after := #[{ on := 3, ground := Ground.data }], guard := none }) (v := ?_) rfl (by kernel_rfl) (by kernel_rfl) (by kernel_rfl) (fun _ _ _ h => h) (Or.inl ⟨by rfl, ?_⟩) hHeld ?_
    rotate_left
    · intro X hSX
      (try dsimp only at hSX)
      go_simp
      first | done | with_reducible rfl
    (try simp only [Act.put, List.setIfInBounds_toArray, List.set_cons_zero, List.set_cons_succ])
    refine wpAnyH_take (i := 5) (oi := { dst := some 12, op := Op.load 45 (Operand.tmp 2), type := 45, pos := "text.go:98", after := #[{ on := 4, ground := Ground.guard }, { on := 14, ground := Ground.gcOnly Departure.lateStores }], guard := some (4, true) }) (v := undef) rfl (by kernel_rfl) (by kernel_rfl) (by kernel_rfl) (fun _ _ _ h => h) (Or.inr ⟨by rfl, rfl⟩) hHeld ?_
    simp only [Act.put, List.setIfInBounds_toArray, List.set_cons_zero, List.set_cons_succ]
    refine wpAnyH_take (i := 6) (oi := { dst := some 13, op := Op.move (Operand.tmp 0), type := 3, pos := "text.go:98", after := #[{ on := 4, ground := Ground.guard }, { on := 14, ground := Ground.gcOnly Departure.lateStores }], guard := some (4, true) }) (v := undef) rfl (by kernel_rfl) (by kernel_rfl) (by kernel_rfl) (fun _ _ _ h => h) (Or.inr ⟨by rfl, rfl⟩) hHeld ?_
    simp only [Act.put, List.setIfInBounds_toArray, List.set_cons_zero, List.set_cons_succ]
    refine wpAnyH_take (i := 7) (oi := { dst := some 14, op := Op.load 3 (Operand.tmp 3), type := 3, pos := "text.go:98", after := #[{ on := 4, ground := Ground.guard }, { on := 14, ground := Ground.gcOnly Departure.lateStores }], guard := some (4, true) }) (v := undef) rfl (by kernel_rfl) (by kernel_rfl) (by kernel_rfl) (fun _ _ _ h => h) (Or.inr ⟨by rfl, rfl⟩) hHeld ?_
    simp only [Act.put, List.setIfInBounds_toArray, List.set_cons_zero, List.set_cons_succ]
    refine wpAnyH_take (i := 8) (oi := { dst := some 15, op := Op.binOp BinOp.add 3 (Operand.tmp 13) (Operand.tmp 14) 3, type := 3, pos := "text.go:98", after := #[{ on := 6, ground := Ground.data }, { on := 7, ground := Ground.data }, { on := 4, ground := Ground.guard }, { on := 14, ground := Ground.gcOnly Departure.lateStores }], guard := some (4, true) }) (v := undef) rfl (by kernel_rfl) (by kernel_rfl) (by kernel_rfl) (fun _ _ _ h => h) (Or.inr ⟨by rfl, rfl⟩) hHeld ?_
    simp only [Act.put, List.setIfInBounds_toArray, List.set_cons_zero, List.set_cons_succ]
    refine wpAnyH_take (i := 9) (oi := { dst := some 16, op := Op.indexAddr 45 (Operand.tmp 12) (Operand.tmp 15), type := 0, pos := "text.go:98", after := #[{ on := 5, ground := Ground.data }, { on := 8, ground := Ground.data }, { on := 4, ground := Ground.guard }, { on := 14, ground := Ground.gcOnly Departure.lateStores }], guard := some (4, true) }) (v := undef) rfl (by kernel_rfl) (by kernel_rfl) (by kernel_rfl) (fun _ _ _ h => h) (Or.inr ⟨by rfl, rfl⟩) hHeld ?_
    simp only [Act.put, List.setIfInBounds_toArray, List.set_cons_zero, List.set_cons_succ]
    refine wpAnyH_take (i := 10) (oi := { dst := some 17, op := Op.load 85 (Operand.tmp 16), type := 85, pos := "text.go:98", after := #[{ on := 9, ground := Ground.data }, { on := 4, ground := Ground.guard }, { on := 14, ground := Ground.gcOnly Departure.lateStores }], guard := some (4, true) }) (v := undef) rfl (by kernel_rfl) (by kernel_rfl) (by kernel_rfl) (fun _ _ _ h => h) (Or.inr ⟨by rfl, rfl⟩) hHeld ?_
    simp only [Act.put, List.setIfInBounds_toArray, List.set_cons_zero, List.set_cons_succ]
    refine wpAnyH_take (i := 11) (oi := { dst := some 18, op := Op.binOp BinOp.and 85 (Operand.tmp 17) (Operand.const (Value.int IntKind.u16 32768)) 85, type := 85, pos := "text.go:98", after := #[{ on := 10, ground := Ground.data }, { on := 4, ground := Ground.guard }, { on := 14, ground := Ground.gcOnly Departure.lateStores }], guard := some (4, true) }) (v := undef) rfl (by kernel_rfl) (by kernel_rfl) (by kernel_rfl) (fun _ _ _ h => h) (Or.inr ⟨by rfl, rfl⟩) hHeld ?_
    simp only [Act.put, List.setIfInBounds_toArray, List.set_cons_zero, List.set_cons_succ]
    refine wpAnyH_take (i := 12) (oi := { dst := some 19, op := Op.binOp BinOp.eql 85 (Operand.tmp 18) (Operand.const (Value.int IntKind.u16 0)) 85, type := 4, pos := "text.go:98", after := #[{ on := 11, ground := Ground.data }, { on := 4, ground := Ground.guard }, { on := 14, ground := Ground.gcOnly Departure.lateStores }], guard := some (4, true) }) (v := undef) rfl (by kernel_rfl) (by kernel_rfl) (by kernel_rfl) (fun _ _ _ h => h) (Or.inr ⟨by rfl, rfl⟩) hHeld ?_
    simp only [Act.put, List.setIfInBounds_toArray, List.set_cons_zero, List.set_cons_succ]
    refine wpAnyH_take (i := 13) (oi := { dst := some 20, op := Op.pick (Operand.tmp 11) (Operand.tmp 19) (Operand.const (Value.bool false)), type := 4, pos := "text.go:98", after := #[{ on := 4, ground := Ground.data }, { on := 12, ground := Ground.data }, { on := 14, ground := Ground.gcOnly Departure.lateStores }], guard := none }) (v := ?_) rfl (by kernel_rfl) (by kernel_rfl) (by kernel_rfl) (fun _ _ _ h => h) (Or.inl ⟨by rfl, ?_⟩) hHeld ?_
    rotate_left
    · intro X hSX
      (try dsimp only at hSX)
      go_simp
      first | done | with_reducible rfl
    (try simp only [Act.put, List.setIfInBounds_toArray, List.set_cons_zero, List.set_cons_succ])
    refine wpAnyH_ready (rs := [14]) (by kernel_rfl) (by simp) (AllReadyH.cons (o := { dst := none, op := Op.store 54 (Operand.tmp 5) (Operand.tmp 8), type := 0, pos := "text.go:98", after := #[{ on := 1, ground := Ground.data }, { on := 4, ground := Ground.chain }, { on := 0, ground := Ground.phase }, { on := 1, ground := Ground.phase }, { on := 2, ground := Ground.textOnly Departure.lateStores }, { on := 3, ground := Ground.textOnly Departure.lateStores }, { on := 4, ground := Ground.textOnly Departure.lateStores }, { on := 5, ground := Ground.textOnly Departure.lateStores }, { on := 6, ground := Ground.textOnly Departure.lateStores }, { on := 7, ground := Ground.textOnly Departure.lateStores }, { on := 8, ground := Ground.textOnly Departure.lateStores }, { on := 9, ground := Ground.textOnly Departure.lateStores }, { on := 10, ground := Ground.textOnly Departure.lateStores }, { on := 11, ground := Ground.textOnly Departure.lateStores }, { on := 12, ground := Ground.textOnly Departure.lateStores }, { on := 13, ground := Ground.textOnly Departure.lateStores }], guard := none }) rfl (fun K hK => ?_) AllReadyH.nil)
    go_simp
    refine hK.out _ _ ⟨lb_newS (lb_newS (lb_newS hHeld.1)), lkeep (lb_newS (lb_newS (lb_newS hHeld.1))) hk⟩ (fun hHeld2 => ?_)
    clear hK K
    (try simp only [Act.put, List.setIfInBounds_toArray, List.set_cons_zero, List.set_cons_succ])
    refine wpAnyH_take (i := 15) (oi := { dst := some 6, op := Op.assign (Operand.tmp 20), type := 4, pos := "text.go:98", after := #[{ on := 13, ground := Ground.data }, { on := 14, ground := Ground.chain }, { on := 0, ground := Ground.phase }, { on := 1, ground := Ground.phase }, { on := 2, ground := Ground.phase }, { on := 3, ground := Ground.phase }, { on := 4, ground := Ground.phase }, { on := 5, ground := Ground.phase }, { on := 6, ground := Ground.phase }, { on := 7, ground := Ground.phase }, { on := 8, ground := Ground.phase }, { on := 9, ground := Ground.phase }, { on := 10, ground := Ground.phase }, { on := 11, ground := Ground.phase }, { on := 12, ground := Ground.phase }, { on := 13, ground := Ground.phase }, { on := 14, ground := Ground.phase }], guard := none }) (v := ?_) rfl (by kernel_rfl) (by kernel_rfl) (by kernel_rfl) (fun _ _ _ h => h) (Or.inl ⟨by rfl, ?_⟩) hHeld2 ?_
    rotate_left
    · intro X hSX
      (try dsimp only at hSX)
      go_simp
      first | done | with_reducible rfl
    (try simp only [Act.put, List.setIfInBounds_toArray, List.set_cons_zero, List.set_cons_succ])
    refine wpAnyH_done (by kernel_rfl) ?_ _
    have sB : Hid _ := hHeld2.1
    clear hHeld hHeld2
    go_wp2
    refine bodyPost_ret (v := .tuple #[.agg #[.int .i64 p, .int .i8 3, .int .i8 0], .bool false]) (by simp [results, Tryz.results77, go_sem, x0, x1, x2]) rfl ⟨rfl, sB.out⟩
  · obtain ⟨X, HX⟩ : ∃ X, Hid (w.alloc (.cells #[.int .i64 0, .int .i8 0, .int .i8 0] 54) = X) := ⟨_, rfl⟩
    have HB : Hid (Below w.heap.size w X) := by unfold Hid; rw [← HX.out]; exact lb_alloc (Below.refl _ _) _
    have x0 : X.cell? ⟨w.heap.size, 0, none⟩ = some (.int .i64 0) := by rw [← HX.out]; simp [go_sem]
    have x1 : X.cell? ⟨w.heap.size, 1, none⟩ = some (.int .i8 0) := by rw [← HX.out]; simp [go_sem]
    have x2 : X.cell? ⟨w.heap.size, 2, none⟩ = some (.int .i8 0) := by rw [← HX.out]; simp [go_sem]
    have f0 : X.frozen? ⟨w.heap.size, 0, none⟩ = false := by rw [← HX.out]; simp [go_sem]
    have f1 : X.frozen? ⟨w.heap.size, 1, none⟩ = false := by rw [← HX.out]; simp [go_sem]
    have f2 : X.frozen? ⟨w.heap.size, 2, none⟩ = false := by rw [← HX.out]; simp [go_sem]
    have hB0 := HB.out
    have q0 := lkeep HB.out hk
    go_enter Tryz.func77, Tryz.ntmps77
    go_upto_region 1 with fail
    rw [HX.out]
    clear HX
    refine wp_region_held_drew (S := fun W => Below w.heap.size w W ∧ W.cell? ⟨bk, 0, none⟩ = some (.int .i8 2)) (by kernel_rfl) ⟨hB0.drew, lkeep hB0.drew hk⟩ fun hHeld => ?_
    refine wpAnyH_take (i := 0) (oi := { dst := some 7, op := Op.move (Operand.tmp 0), type := 3, pos := "text.go:98", after := #[], guard := none }) (v := ?_) rfl (by kernel_rfl) (by kernel_rfl) (by kernel_rfl) (fun _ _ _ h => h) (Or.inl ⟨by rfl, ?_⟩) hHeld ?_
    rotate_left
    · intro X hSX
      (try dsimp only at hSX)
      go_simp
      first | done | with_reducible rfl
    (try simp only [Act.put, List.setIfInBounds_toArray, List.set_cons_zero, List.set_cons_succ])
    refine wpAnyH_take (i := 1) (oi := { dst := some 8, op := Op.build 54 #[(0, Operand.tmp 7), (1, Operand.const (Value.int IntKind.i8 3))], type := 54, pos := "text.go:98", after := #[{ on := 0, ground := Ground.data }], guard := none }) (v := ?_) rfl (by kernel_rfl) (by kernel_rfl) (by kernel_rfl) (fun _ _ _ h => h) (Or.inl ⟨by rfl, ?_⟩) hHeld ?_
    rotate_left
    · intro X hSX
      (try dsimp only at hSX)
      go_simp
      first | done | with_reducible rfl
    (try simp only [Act.put, List.setIfInBounds_toArray, List.set_cons_zero, List.set_cons_succ])
    refine wpAnyH_take (i := 2) (oi := { dst := some 9, op := Op.load 25 (Operand.tmp 1), type := 25, pos := "text.go:98", after := #[], guard := none }) (v := ?_) rfl (by kernel_rfl) (by kernel_rfl) (by kernel_rfl) (fun _ _ _ h => h) (Or.inl ⟨by rfl, ?_⟩) hHeld ?_
    rotate_left
    · intro X hSX
      (try dsimp only at hSX)
      go_simp
      first | done | with_reducible rfl
    (try simp only [Act.put, List.setIfInBounds_toArray, List.set_cons_zero, List.set_cons_succ])
    refine wpAnyH_take (i := 3) (oi := { dst := some 10, op := Op.binOp BinOp.eql 25 (Operand.tmp 9) (Operand.const (Value.int IntKind.i8 3)) 25, type := 4, pos := "text.go:98", after := #[{ on := 2, ground := Ground.data }], guard := none }) (v := ?_) rfl (by kernel_rfl) (by kernel_rfl) (by kernel_rfl) (fun _ _ _ h => h) (Or.inl ⟨by rfl, ?_⟩) hHeld ?_
    rotate_left
    · intro X hSX
      (try dsimp only at hSX)
      go_simp
      first | done | with_reducible rfl
    (try simp only [Act.put, List.setIfInBounds_toArray, List.set_cons_zero, List.set_cons_succ])
    refine wpAnyH_take (i := 4) (oi := { dst := some 11, op := Op.move (Operand.tmp 10), type := 4, pos := "text.go:98", after := #[{ on := 3, ground := Ground.data }], guard := none }) (v := ?_) rfl (by kernel_rfl) (by kernel_rfl) (by kernel_rfl) (fun _ _ _ h => h) (Or.inl ⟨by rfl, ?_⟩) hHeld ?_
    rotate_left
    · intro X hSX
      (try dsimp only at hSX)
      go_simp
      first | done | with_reducible rfl
    (try simp only [Act.put, List.setIfInBounds_toArray, List.set_cons_zero, List.set_cons_succ])
    refine wpAnyH_take (i := 5) (oi := { dst := some 12, op := Op.load 45 (Operand.tmp 2), type := 45, pos := "text.go:98", after := #[{ on := 4, ground := Ground.guard }, { on := 14, ground := Ground.gcOnly Departure.lateStores }], guard := some (4, true) }) (v := undef) rfl (by kernel_rfl) (by kernel_rfl) (by kernel_rfl) (fun _ _ _ h => h) (Or.inr ⟨by rfl, rfl⟩) hHeld ?_
    simp only [Act.put, List.setIfInBounds_toArray, List.set_cons_zero, List.set_cons_succ]
    refine wpAnyH_take (i := 6) (oi := { dst := some 13, op := Op.move (Operand.tmp 0), type := 3, pos := "text.go:98", after := #[{ on := 4, ground := Ground.guard }, { on := 14, ground := Ground.gcOnly Departure.lateStores }], guard := some (4, true) }) (v := undef) rfl (by kernel_rfl) (by kernel_rfl) (by kernel_rfl) (fun _ _ _ h => h) (Or.inr ⟨by rfl, rfl⟩) hHeld ?_
    simp only [Act.put, List.setIfInBounds_toArray, List.set_cons_zero, List.set_cons_succ]
    refine wpAnyH_take (i := 7) (oi := { dst := some 14, op := Op.load 3 (Operand.tmp 3), type := 3, pos := "text.go:98", after := #[{ on := 4, ground := Ground.guard }, { on := 14, ground := Ground.gcOnly Departure.lateStores }], guard := some (4, true) }) (v := undef) rfl (by kernel_rfl) (by kernel_rfl) (by kernel_rfl) (fun _ _ _ h => h) (Or.inr ⟨by rfl, rfl⟩) hHeld ?_
    simp only [Act.put, List.setIfInBounds_toArray, List.set_cons_zero, List.set_cons_succ]
    refine wpAnyH_take (i := 8) (oi := { dst := some 15, op := Op.binOp BinOp.add 3 (Operand.tmp 13) (Operand.tmp 14) 3, type := 3, pos := "text.go:98", after := #[{ on := 6, ground := Ground.data }, { on := 7, ground := Ground.data }, { on := 4, ground := Ground.guard }, { on := 14, ground := Ground.gcOnly Departure.lateStores }], guard := some (4, true) }) (v := undef) rfl (by kernel_rfl) (by kernel_rfl) (by kernel_rfl) (fun _ _ _ h => h) (Or.inr ⟨by rfl, rfl⟩) hHeld ?_
    simp only [Act.put, List.setIfInBounds_toArray, List.set_cons_zero, List.set_cons_succ]
    refine wpAnyH_take (i := 9) (oi := { dst := some 16, op := Op.indexAddr 45 (Operand.tmp 12) (Operand.tmp 15), type := 0, pos := "text.go:98", after := #[{ on := 5, ground := Ground.data }, { on := 8, ground := Ground.data }, { on := 4, ground := Ground.guard }, { on := 14, ground := Ground.gcOnly Departure.lateStores }], guard := some (4, true) }) (v := undef) rfl (by kernel_rfl) (by kernel_rfl) (by kernel_rfl) (fun _ _ _ h => h) (Or.inr ⟨by rfl, rfl⟩) hHeld ?_
    simp only [Act.put, List.setIfInBounds_toArray, List.set_cons_zero, List.set_cons_succ]
    refine wpAnyH_take (i := 10) (oi := { dst := some 17, op := Op.load 85 (Operand.tmp 16), type := 85, pos := "text.go:98", after := #[{ on := 9, ground := Ground.data }, { on := 4, ground := Ground.guard }, { on := 14, ground := Ground.gcOnly Departure.lateStores }], guard := some (4, true) }) (v := undef) rfl (by kernel_rfl) (by kernel_rfl) (by kernel_rfl) (fun _ _ _ h => h) (Or.inr ⟨by rfl, rfl⟩) hHeld ?_
    simp only [Act.put, List.setIfInBounds_toArray, List.set_cons_zero, List.set_cons_succ]
    refine wpAnyH_take (i := 11) (oi := { dst := some 18, op := Op.binOp BinOp.and 85 (Operand.tmp 17) (Operand.const (Value.int IntKind.u16 32768)) 85, type := 85, pos := "text.go:98", after := #[{ on := 10, ground := Ground.data }, { on := 4, ground := Ground.guard }, { on := 14, ground := Ground.gcOnly Departure.lateStores }], guard := some (4, true) }) (v := undef) rfl (by kernel_rfl) (by kernel_rfl) (by kernel_rfl) (fun _ _ _ h => h) (Or.inr ⟨by rfl, rfl⟩) hHeld ?_
    simp only [Act.put, List.setIfInBounds_toArray, List.set_cons_zero, List.set_cons_succ]
    refine wpAnyH_take (i := 12) (oi := { dst := some 19, op := Op.binOp BinOp.eql 85 (Operand.tmp 18) (Operand.const (Value.int IntKind.u16 0)) 85, type := 4, pos := "text.go:98", after := #[{ on := 11, ground := Ground.data }, { on := 4, ground := Ground.guard }, { on := 14, ground := Ground.gcOnly Departure.lateStores }], guard := some (4, true) }) (v := undef) rfl (by kernel_rfl) (by kernel_rfl) (by kernel_rfl) (fun _ _ _ h => h) (Or.inr ⟨by rfl, rfl⟩) hHeld ?_
    simp only [Act.put, List.setIfInBounds_toArray, List.set_cons_zero, List.set_cons_succ]
    refine wpAnyH_take (i := 13) (oi := { dst := some 20, op := Op.pick (Operand.tmp 11) (Operand.tmp 19) (Operand.const (Value.bool false)), type := 4, pos := "text.go:98", after := #[{ on := 4, ground := Ground.data }, { on := 12, ground := Ground.data }, { on := 14, ground := Ground.gcOnly Departure.lateStores }], guard := none }) (v := ?_) rfl (by kernel_rfl) (by kernel_rfl) (by kernel_rfl) (fun _ _ _ h => h) (Or.inl ⟨by rfl, ?_⟩) hHeld ?_
    rotate_left
    · intro X hSX
      (try dsimp only at hSX)
      go_simp
      first | done | with_reducible rfl
    (try simp only [Act.put, List.setIfInBounds_toArray, List.set_cons_zero, List.set_cons_succ])
    refine wpAnyH_ready (rs := [14]) (by kernel_rfl) (by simp) (AllReadyH.cons (o := { dst := none, op := Op.store 54 (Operand.tmp 5) (Operand.tmp 8), type := 0, pos := "text.go:98", after := #[{ on := 1, ground := Ground.data }, { on := 4, ground := Ground.chain }, { on := 0, ground := Ground.phase }, { on := 1, ground := Ground.phase }, { on := 2, ground := Ground.textOnly Departure.lateStores }, { on := 3, ground := Ground.textOnly Departure.lateStores }, { on := 4, ground := Ground.textOnly Departure.lateStores }, { on := 5, ground := Ground.textOnly Departure.lateStores }, { on := 6, ground := Ground.textOnly Departure.lateStores }, { on := 7, ground := Ground.textOnly Departure.lateStores }, { on := 8, ground := Ground.textOnly Departure.lateStores }, { on := 9, ground := Ground.textOnly Departure.lateStores }, { on := 10, ground := Ground.textOnly Departure.lateStores }, { on := 11, ground := Ground.textOnly Departure.lateStores }, { on := 12, ground := Ground.textOnly Departure.lateStores }, { on := 13, ground := Ground.textOnly Departure.lateStores }], guard := none }) rfl (fun K hK => ?_) AllReadyH.nil)
    go_simp
    refine hK.out _ _ ⟨lb_newS (lb_newS (lb_newS hHeld.1)), lkeep (lb_newS (lb_newS (lb_newS hHeld.1))) hk⟩ (fun hHeld2 => ?_)
    clear hK K
    (try simp only [Act.put, List.setIfInBounds_toArray, List.set_cons_zero, List.set_cons_succ])
    refine wpAnyH_take (i := 15) (oi := { dst := some 6, op := Op.assign (Operand.tmp 20), type := 4, pos := "text.go:98", after := #[{ on := 13, ground := Ground.data }, { on := 14, ground := Ground.chain }, { on := 0, ground := Ground.phase }, { on := 1, ground := Ground.phase }, { on := 2, ground := Ground.phase }, { on := 3, ground := Ground.phase }, { on := 4, ground := Ground.phase }, { on := 5, ground := Ground.phase }, { on := 6, ground := Ground.phase }, { on := 7, ground := Ground.phase }, { on := 8, ground := Ground.phase }, { on := 9, ground := Ground.phase }, { on := 10, ground := Ground.phase }, { on := 11, ground := Ground.phase }, { on := 12, ground := Ground.phase }, { on := 13, ground := Ground.phase }, { on := 14, ground := Ground.phase }], guard := none }) (v := ?_) rfl (by kernel_rfl) (by kernel_rfl) (by kernel_rfl) (fun _ _ _ h => h) (Or.inl ⟨by rfl, ?_⟩) hHeld2 ?_
    rotate_left
    · intro X hSX
      (try dsimp only at hSX)
      go_simp
      first | done | with_reducible rfl
    (try simp only [Act.put, List.setIfInBounds_toArray, List.set_cons_zero, List.set_cons_succ])
    refine wpAnyH_done (by kernel_rfl) ?_ _
    have sB : Hid _ := hHeld2.1
    clear hHeld hHeld2
    go_wp2
    refine bodyPost_ret (v := .tuple #[.agg #[.int .i64 p, .int .i8 3, .int .i8 0], .bool false]) (by simp [results, Tryz.results77, go_sem, x0, x1, x2]) rfl ⟨rfl, sB.out⟩

set_option maxHeartbeats 2000000 in
theorem cls3_any (bk bb bz : Nat) (p m u L cH h : Nat) (hs : Addr) (w : World) (hk : w.cell? ⟨bk, 0, none⟩ = some (.int .i8 3)) (hb : w.cell? ⟨bb, 0, none⟩ = some (.slice (some hs) L cH)) (hz : w.cell? ⟨bz, 0, none⟩ = some (.int .i64 (m : Int))) (hu : u = p + m) (hL : u < L) (hL2 : L ≤ 16384) (hh : w.cell? (hs.add u) = some (.int .u16 (h : Int))) (h16 : h < 65536) :
    Calls Tryz.prog 77 #[.int .i64 (p : Int), .pointer (some ⟨bk, 0, none⟩), .pointer (some ⟨bb, 0, none⟩), .pointer (some ⟨bz, 0, none⟩)] w fun e w' => e = .returned (.tuple #[.agg #[.int .i64 (p : Int), .int .i8 3, .int .i8 0], .bool (!h.testBit 15)]) ∧ Below w.heap.size w w' := by
  have e1 : (p : Int) + (m : Int) = (u : Int) := by omega
  have e2 : (0 : Int) ≤ (u : Int) := by omega
  have e3 : (u : Int) < (L : Int) := by omega
  have e6 : IntKind.i64.wrap (u : Int) = (u : Int) := by simp [IntKind.wrap, IntKind.signed, IntKind.bits]; omega
  obtain ⟨X, HX⟩ : ∃ X, Hid (w.alloc (.cells #[.int .i64 0, .int .i8 0, .int .i8 0] 54) = X) := ⟨_, rfl⟩
  have HB : Hid (Below w.heap.size w X) := by unfold Hid; rw [← HX.out]; exact lb_alloc (Below.refl _ _) _
  have x0 : X.cell? ⟨w.heap.size, 0, none⟩ = some (.int .i64 0) := by rw [← HX.out]; simp [go_sem]
  have x1 : X.cell? ⟨w.heap.size, 1, none⟩ = some (.int .i8 0) := by rw [← HX.out]; simp [go_sem]
  have x2 : X.cell? ⟨w.heap.size, 2, none⟩ = some (.int .i8 0) := by rw [← HX.out]; simp [go_sem]
  have f0 : X.frozen? ⟨w.heap.size, 0, none⟩ = false := by rw [← HX.out]; simp [go_sem]
  have f1 : X.frozen? ⟨w.heap.size, 1, none⟩ = false := by rw [← HX.out]; simp [go_sem]
  have f2 : X.frozen? ⟨w.heap.size, 2, none⟩ = false := by rw [← HX.out]; simp [go_sem]
  have hB0 := HB.out
  have q0 := lkeep HB.out hk
  have q1 := lkeep HB.out hb
  have q2 := lkeep HB.out hz
  have q3 := lkeep HB.out hh
  have e4 : (p : Int) ≤ 16384 := by omega
  have e5 : (m : Int) ≤ 16384 := by omega
  obtain ⟨t1, t2⟩ := bit15 h16
  clear hu
  cases hbit : h.testBit 15 with
  | false =>
    have ha := t1 hbit
    clear t1 t2 hbit
    go_enter Tryz.func77, Tryz.ntmps77
    go_upto_region 1 with fail
    rw [HX.out]
    clear HX
    go_region_held3 (fun W => Below w.heap.size w W ∧ W.cell? ⟨bk, 0, none⟩ = some (.int .i8 3) ∧ W.cell? ⟨bb, 0, none⟩ = some (.slice (some hs) L cH) ∧ W.cell? ⟨bz, 0, none⟩ = some (.int .i64 (m : Int)) ∧ W.cell? (hs.add u) = some (.int .u16 (h : Int))) (first | (refine ⟨?_, lkeep ?_ hk, lkeep ?_ hb, lkeep ?_ hz, lkeep ?_ hh⟩ <;> ((repeat (first | assumption | exact (‹Below _ _ _ ∧ _›).1 | apply Below.drew | apply lb_newS)); done))) (fail)
    all_goals (
      rename_i hS
      have sB : Hid _ := hS.1
      clear hS
      go_wp2
      refine bodyPost_ret (v := .tuple #[.agg #[.int .i64 (p : Int), .int .i8 3, .int .i8 0], .bool true]) (by simp [results, Tryz.results77, go_sem, x0, x1, x2]) rfl ⟨rfl, sB.out⟩)
  
  | true =>
    have ha := t2 hbit
    clear t1 t2 hbit
    go_enter Tryz.func77, Tryz.ntmps77
    go_upto_region 1 with fail
    rw [HX.out]
    clear HX
    go_region_held3 (fun W => Below w.heap.size w W ∧ W.cell? ⟨bk, 0, none⟩ = some (.int .i8 3) ∧ W.cell? ⟨bb, 0, none⟩ = some (.slice (some hs) L cH) ∧ W.cell? ⟨bz, 0, none⟩ = some (.int .i64 (m : Int)) ∧ W.cell? (hs.add u) = some (.int .u16 (h : Int))) (first | (refine ⟨?_, lkeep ?_ hk, lkeep ?_ hb, lkeep ?_ hz, lkeep ?_ hh⟩ <;> ((repeat (first | assumption | exact (‹Below _ _ _ ∧ _›).1 | apply Below.drew | apply lb_newS)); done))) (fail)
    all_goals (
      rename_i hS
      have sB : Hid _ := hS.1
      clear hS
      go_wp2
      refine bodyPost_ret (v := .tuple #[.agg #[.int .i64 (p : Int), .int .i8 3, .int .i8 0], .bool false]) (by simp [results, Tryz.results77, go_sem, x0, x1, x2]) rfl ⟨rfl, sB.out⟩)
  

end Go.Proofs.YtmlhnnmelopleaaGreatDoor
