/-
  Has of package isa, for every op that is an int8's number. Ends, Falls, Target and Aim of the document's answer, for every word of 32 bits; no other condition.
-/
import Derived.Test.YtbckolkgncajfaaGreatDoorLo12
import Derived.Test.YtbckolkgncajfaaGreatDoorLo13
import Derived.Test.YtbckolkgncajfaaGreatDoorLo03
namespace Go.Proofs.YtbckolkgncajfaaGreatDoor
open Go.RowKit


set_option maxRecDepth 100000 in
theorem isahas_any (op : Int) (h8 : op ≤ 127) (w : World) : Calls Tryz.prog 69 #[.int .i8 op] w fun e w' => e = .returned (.tuple #[.bool (hD op), .bool (hA op), .bool (hB op), .bool (hN op), .bool (hP op)]) ∧ Below w.heap.size w w' := by
  have CK := known_any op h8
  by_cases hr : 0 ≤ op ∧ op ≤ 21
  · rw [decide_eq_true hr] at CK
    obtain ⟨b1, b2, b4, b8, b16⟩ := sh_bits op hr.1 hr.2
    have hI := index_sh op hr.1 hr.2
    have C1 := fun wx => fhas_any (sh op) 1 wx
    have C2 := fun wx => fhas_any (sh op) 2 wx
    have C4 := fun wx => fhas_any (sh op) 4 wx
    have C8 := fun wx => fhas_any (sh op) 8 wx
    have C16 := fun wx => fhas_any (sh op) 16 wx
    rw [b1] at C1; rw [b2] at C2; rw [b4] at C4; rw [b8] at C8; rw [b16] at C16
    clear b1 b2 b4 b8 b16
    go_enter Tryz.func69, Tryz.ntmps69
    go_wp2_with fail
    refine (CK _).mono ?_
    rintro e w1 ⟨rfl, rfl⟩
    go_wp2_with fail
    refine (shapes_any _).mono ?_
    rintro e w2 ⟨rfl, hb⟩
    have HB : Hid (Below w1.heap.size w1 w2) := hb
    clear hb CK
    go_wp2_with fail
    refine (C1 _).mono ?_
    rintro e w3 ⟨rfl, rfl⟩
    go_wp2_with fail
    refine (C2 _).mono ?_
    rintro e w3 ⟨rfl, rfl⟩
    go_wp2_with fail
    refine (C4 _).mono ?_
    rintro e w3 ⟨rfl, rfl⟩
    go_wp2_with fail
    refine (C8 _).mono ?_
    rintro e w3 ⟨rfl, rfl⟩
    go_wp2_with fail
    refine (C16 _).mono ?_
    rintro e w3 ⟨rfl, rfl⟩
    go_wp2
    exact bodyPost_ret (v := .tuple #[.bool (hD op), .bool (hA op), .bool (hB op), .bool (hN op), .bool (hP op)]) (by simp [results, Tryz.results69, go_sem]) rfl ⟨rfl, HB.out⟩
  · rw [decide_eq_false hr] at CK
    have e1 : hD op = false := by unfold hD; exact decide_eq_false (by omega)
    have e2 : hA op = false := by unfold hA; exact decide_eq_false (by omega)
    have e3 : hB op = false := by unfold hB; exact decide_eq_false (by omega)
    have e4 : hN op = false := by unfold hN; exact decide_eq_false (by omega)
    have e5 : hP op = false := by unfold hP; exact decide_eq_false (by omega)
    rw [e1, e2, e3, e4, e5]
    clear e1 e2 e3 e4 e5
    go_enter Tryz.func69, Tryz.ntmps69
    go_wp2_with fail
    refine (CK _).mono ?_
    rintro e w1 ⟨rfl, rfl⟩
    go_wp2
    exact bodyPost_ret (v := .tuple #[.bool false, .bool false, .bool false, .bool false, .bool false]) (by simp [results, Tryz.results69, go_sem]) rfl ⟨rfl, Below.refl _ _⟩




end Go.Proofs.YtbckolkgncajfaaGreatDoor

namespace Go.Proofs.YtbckolkgncajfaaGreatDoor
open Go.RowKit

@[go_sem] theorem field_ins0 (x d a b n : Int) (w : World) : (Instr.field 95 (.agg #[.int .i8 x, .int .i8 d, .int .i8 a, .int .i8 b, .int .i64 n]) 0).run Tryz.prog w = .ok (.int .i8 x) w := by kernel_rfl
@[go_sem] theorem field_has4 (x d a b n : Bool) (w : World) : (Instr.field 101 (.agg #[.bool x, .bool d, .bool a, .bool b, .bool n]) 4).run Tryz.prog w = .ok (.bool n) w := by kernel_rfl
theorem reftarget_any (v : Int) (h0 : 0 ≤ v) (h1 : v < 4294967296) (w : World) : Calls Tryz.prog 88 #[.int .u32 v] w fun e w' => e = .returned (.tuple #[.int .i64 (tgV v), .bool (isT v)]) ∧ Below w.heap.size w w' := by
  have CE : ∀ wx : World, Calls Tryz.prog 59 #[.int .u32 v] wx fun e w' => e = .returned (.agg #[.int .i8 (dOp v), .int .i8 (dD v), .int .i8 (dA v), .int .i8 (dB v), .int .i64 (dN v)]) ∧ Below wx.heap.size wx w' := fun wx => refdecode_any v h0 h1 wx
  unfold tgV isT
  generalize dOp v = x at CE ⊢
  generalize dN v = n at CE ⊢
  by_cases hx : x < 0
  · have e : decide (0 ≤ x) = false := decide_eq_false (by omega)
    rw [e]
    go_enter Tryz.func88, Tryz.ntmps88
    go_wp2_with (go_at_call 59; refine (CE _).mono ?_; rintro e w1 ⟨rfl, hb⟩)
    go_ret2
    exact ⟨rfl, bel_alloc hb _⟩
  · have e : decide (0 ≤ x) = true := decide_eq_true (by omega)
    rw [e]
    clear e
    cases hp : hP x
    · go_enter Tryz.func88, Tryz.ntmps88
      go_wp2_with (first | (go_at_call 59; refine (CE _).mono ?_; rintro e w1 ⟨rfl, hb⟩) | (go_at_call 63; refine (refhas_any _ _).mono ?_; rintro e w2 ⟨rfl, rfl⟩))
      go_ret2
      exact ⟨rfl, bel_alloc (bel_alloc hb _) _⟩
    · go_enter Tryz.func88, Tryz.ntmps88
      go_wp2_with (first | (go_at_call 59; refine (CE _).mono ?_; rintro e w1 ⟨rfl, hb⟩) | (go_at_call 63; refine (refhas_any _ _).mono ?_; rintro e w2 ⟨rfl, rfl⟩))
      go_ret2
      exact ⟨rfl, bel_alloc (bel_alloc hb _) _⟩




end Go.Proofs.YtbckolkgncajfaaGreatDoor
