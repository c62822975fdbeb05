/-
  When an image may be, as plain mathematics; no Go in sight. Ends, Falls, Target and Aim of the document's answer, for every word of 32 bits; no other condition. Ends, Falls, Target and Aim of package isa, over what Decode, Has and Encode return; no other condition.
-/
import Derived.Test.YtdlcejpfjlpclaaGreatDoorProg
import Derived.Test.YtdlcejpfjlpclaaGreatDoorPr06
import Derived.Test.YtdlcejpfjlpclaaGreatDoorPr14
import Derived.Test.YtdlcejpfjlpclaaGreatDoorPr11
import Derived.Test.YtdlcejpfjlpclaaGreatDoorPr10
namespace Go.Proofs.YtdlcejpfjlpclaaGreatDoor
open Go.RowKit

/-- May a word be the last one? -/
def lastOK (w : Int) : Bool := decide (dOp w = 0 ∨ dOp w = 15 ∨ dOp w = 19 ∨ dOp w = 21)
/-- Does the word at a place have a target behind the text? -/
def farT (text : List Int) (i : Nat) : Bool := isT (nth text i) && decide ((text.length : Int) ≤ tgV (nth text i))
/-- What Check tells. -/
def checkI (text : List Int) (ml : Nat) (ent : Int) : Int × Int :=
  if text.length = 0 then (50, 0) else if 16384 < text.length then (42, 16384) else if 4096 < ml then (25, 4096) else if ent < 0 ∨ (text.length : Int) ≤ ent then (41, 0) else
  match (List.range text.length).find? (farT text) with
  | some i => (22, i)
  | none => if lastOK (nth text (text.length - 1)) then (0, 0) else (50, ((text.length - 1 : Nat) : Int))
/-- What is past the first four looks. -/
structure Past (text : List Int) (ml : Nat) (ent : Int) : Prop where
  pos : 0 < text.length
  len : text.length ≤ 16384
  mem : ml ≤ 4096
  ent0 : 0 ≤ ent
  ent1 : ent < text.length
theorem check_far {text : List Int} {ml : Nat} {ent : Int} {k : Nat} (h : Past text ml ent) (hk : k < text.length) (h0 : ∀ j, j < k → farT text j = false) (e : farT text k = true) : checkI text ml ent = (22, (k : Int)) := by
  have hf : (List.range text.length).find? (farT text) = some k := by
    rw [List.find?_range_eq_some]
    exact ⟨e, by simpa using hk, fun j hj => by rw [h0 j hj]; rfl⟩
  unfold checkI
  rw [if_neg (by have := h.pos; omega), if_neg (by have := h.len; omega), if_neg (by have := h.mem; omega), if_neg (by have := h.ent0; have := h.ent1; omega), hf]
theorem check_end {text : List Int} {ml : Nat} {ent : Int} (h : Past text ml ent) (h0 : ∀ j, j < text.length → farT text j = false) : checkI text ml ent = if lastOK (nth text (text.length - 1)) then (0, 0) else (50, ((text.length - 1 : Nat) : Int)) := by
  have hf : (List.range text.length).find? (farT text) = none := by
    rw [List.find?_eq_none]
    intro j hj
    rw [h0 j (by simpa using hj)]; simp
  unfold checkI
  rw [if_neg (by have := h.pos; omega), if_neg (by have := h.len; omega), if_neg (by have := h.mem; omega), if_neg (by have := h.ent0; have := h.ent1; omega), hf]
theorem check0 {text : List Int} {ml : Nat} {ent : Int} (h : text.length = 0) : checkI text ml ent = (50, 0) := by unfold checkI; rw [if_pos h]
theorem check1 {text : List Int} {ml : Nat} {ent : Int} (h0 : ¬ text.length = 0) (h : 16384 < text.length) : checkI text ml ent = (42, 16384) := by unfold checkI; rw [if_neg h0, if_pos h]
theorem check2 {text : List Int} {ml : Nat} {ent : Int} (h0 : ¬ text.length = 0) (h1 : ¬ 16384 < text.length) (h : 4096 < ml) : checkI text ml ent = (25, 4096) := by unfold checkI; rw [if_neg h0, if_neg h1, if_pos h]
theorem check3 {text : List Int} {ml : Nat} {ent : Int} (h0 : ¬ text.length = 0) (h1 : ¬ 16384 < text.length) (h2 : ¬ 4096 < ml) (h : ent < 0 ∨ (text.length : Int) ≤ ent) : checkI text ml ent = (41, 0) := by unfold checkI; rw [if_neg h0, if_neg h1, if_neg h2, if_pos h]
/-- An image that may be. -/
structure MayI (text : List Int) (ml : Nat) (ent : Int) : Prop where
  past : Past text ml ent
  far : ∀ j, j < text.length → farT text j = false
  last : lastOK (nth text (text.length - 1)) = true
theorem check_mayI {text : List Int} {ml : Nat} {ent : Int} (h : (checkI text ml ent).1 = 0) : MayI text ml ent := by
  by_cases h0 : text.length = 0
  · rw [check0 h0] at h; cases h
  by_cases h1 : 16384 < text.length
  · rw [check1 h0 h1] at h; cases h
  by_cases h2 : 4096 < ml
  · rw [check2 h0 h1 h2] at h; cases h
  by_cases h3 : ent < 0 ∨ (text.length : Int) ≤ ent
  · rw [check3 h0 h1 h2 h3] at h; cases h
  have hp : Past text ml ent := ⟨by omega, by omega, by omega, by omega, by omega⟩
  have hall : ∀ j, j < text.length → farT text j = false := by
    intro j
    induction j using Nat.strongRecOn with
    | ind j ih =>
      intro hj
      cases e : farT text j
      · rfl
      · rw [check_far hp hj (fun i hi => ih i hi (by omega)) e] at h; cases h
  refine ⟨hp, hall, ?_⟩
  rw [check_end hp hall] at h
  cases e : lastOK (nth text (text.length - 1))
  · rw [e] at h; cases h
  · rfl
theorem may_zero {text : List Int} {ml : Nat} {ent : Int} (h : MayI text ml ent) : checkI text ml ent = (0, 0) := by
  rw [check_end h.past h.far, h.last]; rfl
theorem check_pair {text : List Int} {ml : Nat} {ent : Int} (h : (checkI text ml ent).1 = 0) : checkI text ml ent = (0, 0) := may_zero (check_mayI h)
theorem check_range (text : List Int) (ml : Nat) (ent : Int) (h : text.length ≤ 1048576) : 0 ≤ (checkI text ml ent).1 ∧ (checkI text ml ent).1 ≤ 50 ∧ 0 ≤ (checkI text ml ent).2 ∧ (checkI text ml ent).2 ≤ 1048576 := by
  unfold checkI
  repeat' split
  all_goals (simp only; try omega)
  rename_i i hi
  have := List.mem_of_find?_eq_some hi
  simp at this
  omega


end Go.Proofs.YtdlcejpfjlpclaaGreatDoor

namespace Go.Proofs.YtdlcejpfjlpclaaGreatDoor
open Go.RowKit

@[go_sem] theorem field_ins0 (x d a b n : Int) (w : World) : (Instr.field 82 (.agg #[.int .i8 x, .int .i8 d, .int .i8 a, .int .i8 b, .int .i64 n]) 0).run Tryz.prog w = .ok (.int .i8 x) w := by kernel_rfl
@[go_sem] theorem field_has4 (x d a b n : Bool) (w : World) : (Instr.field 107 (.agg #[.bool x, .bool d, .bool a, .bool b, .bool n]) 4).run Tryz.prog w = .ok (.bool n) w := by kernel_rfl
theorem reftarget_any (v : Int) (h0 : 0 ≤ v) (h1 : v < 4294967296) (w : World) : Calls Tryz.prog 27 #[.int .u32 v] w fun e w' => e = .returned (.tuple #[.int .i64 (tgV v), .bool (isT v)]) ∧ Below w.heap.size w w' := by
  have CE : ∀ wx : World, Calls Tryz.prog 28 #[.int .u32 v] wx fun e w' => e = .returned (.agg #[.int .i8 (dOp v), .int .i8 (dD v), .int .i8 (dA v), .int .i8 (dB v), .int .i64 (dN v)]) ∧ Below wx.heap.size wx w' := fun wx => refdecode_any v h0 h1 wx
  unfold tgV isT
  generalize dOp v = x at CE ⊢
  generalize dN v = n at CE ⊢
  by_cases hx : x < 0
  · have e : decide (0 ≤ x) = false := decide_eq_false (by omega)
    rw [e]
    go_enter Tryz.func27, Tryz.ntmps27
    go_wp2_with (go_at_call 28; refine (CE _).mono ?_; rintro e w1 ⟨rfl, hb⟩)
    go_ret2
    exact ⟨rfl, bel_alloc hb _⟩
  · have e : decide (0 ≤ x) = true := decide_eq_true (by omega)
    rw [e]
    clear e
    cases hp : hP x
    · go_enter Tryz.func27, Tryz.ntmps27
      go_wp2_with (first | (go_at_call 28; refine (CE _).mono ?_; rintro e w1 ⟨rfl, hb⟩) | (go_at_call 62; refine (refhas_any _ _).mono ?_; rintro e w2 ⟨rfl, rfl⟩))
      go_ret2
      exact ⟨rfl, bel_alloc (bel_alloc hb _) _⟩
    · go_enter Tryz.func27, Tryz.ntmps27
      go_wp2_with (first | (go_at_call 28; refine (CE _).mono ?_; rintro e w1 ⟨rfl, hb⟩) | (go_at_call 62; refine (refhas_any _ _).mono ?_; rintro e w2 ⟨rfl, rfl⟩))
      go_ret2
      exact ⟨rfl, bel_alloc (bel_alloc hb _) _⟩



end Go.Proofs.YtdlcejpfjlpclaaGreatDoor

namespace Go.Proofs.YtdlcejpfjlpclaaGreatDoor
open Go.RowKit

theorem ends_falls (x : Int) : (!(!endsB x || x == 16) || x == 16) = endsB x := by
  by_cases h16 : x = 16
  · subst h16; rfl
  · have : (x == 16) = false := by simpa using h16
    rw [this]; simp

theorem target_of (v x d a b n : Int) (p1 p2 p3 p4 p : Bool) (w : World) (CE : ∀ wx : World, Calls Tryz.prog 25 #[.int .u32 v] wx fun e w' => e = .returned (.agg #[.int .i8 x, .int .i8 d, .int .i8 a, .int .i8 b, .int .i64 n]) ∧ Below wx.heap.size wx w') (CH : ∀ wx : World, Calls Tryz.prog 69 #[.int .i8 x] wx fun e w' => e = .returned (.tuple #[.bool p1, .bool p2, .bool p3, .bool p4, .bool p]) ∧ Below wx.heap.size wx w') : Calls Tryz.prog 58 #[.int .u32 v] w fun e w' => e = .returned (.tuple #[.int .i64 (if p then n else 0), .bool p]) ∧ Below w.heap.size w w' := by
  cases p
  · go_enter Tryz.func58, Tryz.ntmps58
    go_wp2_with fail
    refine (CE _).mono ?_
    rintro e w1 ⟨rfl, hb⟩
    go_wp2_with fail
    refine (CH _).mono ?_
    rintro e w2 ⟨rfl, hb2⟩
    go_wp2
    go_ret2
    exact ⟨rfl, bel_trans (bel_alloc hb _) hb2⟩
  · go_enter Tryz.func58, Tryz.ntmps58
    go_wp2_with fail
    refine (CE _).mono ?_
    rintro e w1 ⟨rfl, hb⟩
    go_wp2_with fail
    refine (CH _).mono ?_
    rintro e w2 ⟨rfl, hb2⟩
    have c4 : w2.cell? ⟨w1.heap.size, 4, none⟩ = some (.int .i64 n) := cell_keep hb2 (by simp [go_sem])
    have HB : Hid (Below w.heap.size w w2) := bel_trans (bel_alloc hb _) hb2
    clear hb hb2
    go_wp2
    go_ret2
    exact ⟨rfl, HB.out⟩



end Go.Proofs.YtdlcejpfjlpclaaGreatDoor
