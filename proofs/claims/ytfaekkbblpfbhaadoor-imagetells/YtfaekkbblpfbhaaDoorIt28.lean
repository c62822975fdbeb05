/-
  What the statements lean on; no Go in sight. The document writes numbers as bytes; no condition but their range.
-/
import Derived.Test.YtfaekkbblpfbhaaDoorProg
import Derived.WalkKit
import Derived.WalkSpells
import Derived.WalkLawsBesides
import Derived.RowKit3
import Derived.Below
import Derived.Deep.QuietTactic
import Derived.BigQuiet
import Derived.WalkSmall
import Derived.Laws.Rows
import Derived.Test.YtfaekkbblpfbhaaDoorIt23
import Derived.Test.YtfaekkbblpfbhaaDoorIt27
import Derived.Test.YtfaekkbblpfbhaaDoorIt04
import Derived.Test.YtfaekkbblpfbhaaDoorIt05
namespace Go.Proofs.YtfaekkbblpfbhaaDoor
open Go.RowKit

/-- The bytes that are answered. -/
def wroteL (text : List Int) (ent : Int) (mem : List Int) : List Int := if (checkI text mem.length ent).1 = 0 then bytesI text ent mem else []
theorem wroteL_len (text : List Int) (ent : Int) (mem : List Int) : (wroteL text ent mem).length ≤ 300000 := by
  unfold wroteL
  by_cases hk : (checkI text mem.length ent).1 = 0
  · rw [if_pos hk, bytesI_len]
    have hp := (check_mayI hk).past
    have h1 := hp.len
    have h2 := hp.mem
    omega
  · rw [if_neg hk]; simp
/-- Bytes of their own, and an error. -/
def Wrote (l : List Int) (E : Int) (w : World) (r : Ending) (w' : World) : Prop :=
  ∃ A c, r = .returned (.tuple #[.slice A l.length c, .int .i64 E]) ∧ w'.ownsRow w.heap.size 5 1 (.slice A l.length c) l.length (bNews l) ∧ IntsAt w' A .u8 l ∧ Below w.heap.size w w'

theorem wrote_all {text mem : List Int} {ent : Int} {w w' : World} {r : Ending} (h : WroteP text ent mem w r w') : Wrote (wroteL text ent mem) (checkI text mem.length ent).1 w r w' := by
  unfold wroteL Wrote
  by_cases hk : (checkI text mem.length ent).1 = 0
  · obtain ⟨A, c, h1, h2, h3, _, h5⟩ := wrote_ok h hk
    rw [if_pos hk, hk]
    exact ⟨A, c, h1, h2, h3, h5⟩
  · obtain ⟨h1, h2⟩ := wrote_no h hk
    rw [if_neg hk]
    exact ⟨none, 0, h1, World.ownsRow_nil _ _ _ _, fun i hi => by simp at hi, h2⟩
theorem Fr.below {qs : List (Value × Nat)} {w w1 w2 : World} {n : Nat} (h : Fr qs w1 w2) (hb : Below n w w1) (hn : n ≤ w1.heap.size) (hq : ∀ m, m < qs.length → ∀ b, (rv qs m).ownBlock = some b → n ≤ b) : Below n w w2 :=
  ⟨h.os.trans hb.os, h.tape.trans hb.tape, h.output.trans hb.output, Nat.le_trans hb.size h.size, fun b hlt => (h.block b (by omega) (fun m hm e => by have := hq m hm b e; omega)).trans (hb.block b hlt)⟩
/-- Two lists in a bag. -/
theorem sep_two {a b : Value} {la lb : Nat} (h : Off a.ownBlock b.ownBlock) : Sep [(a, la), (b, lb)] := fun m m' h1 h2 => by
  have hm : m = 0 ∧ m' = 1 := by simp at h2; omega
  obtain ⟨rfl, rfl⟩ := hm
  exact h
theorem two_all {P : Nat → Prop} (h0 : P 0) (h1 : P 1) (m : Nat) (hm : m < 2) : P m := by
  have hq : m = 0 ∨ m = 1 := by omega
  rcases hq with rfl | rfl
  · exact h0
  · exact h1
theorem rl_two {a b : Value} {la lb M : Nat} (ha : la ≤ M) (hb : lb ≤ M) (m : Nat) : rl [(a, la), (b, lb)] m ≤ M := by
  have hq : m = 0 ∨ m = 1 ∨ 2 ≤ m := by omega
  rcases hq with rfl | rfl | h
  · exact ha
  · exact hb
  · unfold rl
    rw [List.getD_eq_getElem?_getD, List.getElem?_eq_none (by simp; omega)]
    exact Nat.zero_le _
theorem bag_new (w : World) : BagIs (w.alloc (.cells #[.slice none 0 0, .slice none 0 0, .slice none 0 0, .slice none 0 0, .slice none 0 0, .slice none 0 0, .slice none 0 0, .slice none 0 0, .slice none 0 0, .slice none 0 0, .slice none 0 0, .slice none 0 0, .slice none 0 0, .slice none 0 0, .slice none 0 0, .slice none 0 0, .slice none 0 0] 56)) w.heap.size (fun _ => .slice none 0 0) := by
  refine ⟨_, heap_alloc_new _ _, fun k hk => ?_⟩
  have hq : k = 0 ∨ k = 1 ∨ k = 2 ∨ k = 3 ∨ k = 4 ∨ k = 5 ∨ k = 6 ∨ k = 7 ∨ k = 8 ∨ k = 9 ∨ k = 10 ∨ k = 11 ∨ k = 12 ∨ k = 13 ∨ k = 14 ∨ k = 15 ∨ k = 16 := by omega
  rcases hq with rfl | rfl | rfl | rfl | rfl | rfl | rfl | rfl | rfl | rfl | rfl | rfl | rfl | rfl | rfl | rfl | rfl <;> rfl

end Go.Proofs.YtfaekkbblpfbhaaDoor

namespace Go.Proofs.YtfaekkbblpfbhaaDoor
open Go.RowKit

set_option maxRecDepth 100000 in
theorem reffour_any (v : Int) (h0 : 0 ≤ v) (h1 : v < 4294967296) (w : World) : Calls Tryd.prog 75 #[.int .u32 v] w fun r w' => r = .returned (.slice (some ⟨w.heap.size, 0, none⟩) 4 4) ∧ w' = w.alloc (.cells (bNews (be4 v)).toArray 5) := by
  have e1 : v / 16777216 < 256 := by omega
  have HE : Hid (be4 v = [v / 16777216, v / 65536 % 256, v / 256 % 256, v % 256]) := by
    unfold Hid be4
    congr 1
    omega
  go_enter Tryd.func75, Tryd.ntmps75
  go_wp2
  go_ret
  exact ⟨rfl, by rw [HE.out]; rfl⟩
/-- A slice of bytes that is new and its own. -/
def NewB (l : List Int) (w : World) (r : Ending) (w' : World) : Prop := ∃ v, r = .returned v ∧ w'.ownsRow w.heap.size 5 1 v l.length (bNews l) ∧ Below w.heap.size w w'
theorem four_own (v : Int) (h0 : 0 ≤ v) (h1 : v < 4294967296) (w : World) : Calls Tryd.prog 75 #[.int .u32 v] w (NewB (be4 v) w) := by
  refine (reffour_any v h0 h1 w).mono ?_
  rintro r w1 ⟨rfl, rfl⟩
  exact ⟨_, rfl, new_lit w (be4 v) (by rw [be4_len]; omega), lb_alloc (Below.refl _ _) _⟩
set_option maxRecDepth 100000 in
set_option maxHeartbeats 1000000 in
theorem eight_own (v : Int) (_h0 : -9223372036854775808 ≤ v) (_h1 : v < 9223372036854775808) (w : World) : Calls Tryd.prog 76 #[.int .i64 v] w (NewB (be8 v) w) := by
  obtain ⟨i0, hi, hz0, hz1, hz2⟩ := info5
  have hwv : IntKind.u64.wrap v = v % 18446744073709551616 := by simp [IntKind.wrap, IntKind.signed, IntKind.bits]
  have e1 : be4 (IntKind.u64.wrap v / 4294967296 % 4294967296) = be4 (v / 4294967296) := by
    rw [hwv, be4_mod, ← be4_mod (v % 18446744073709551616 / 4294967296), ← be4_mod (v / 4294967296)]
    congr 1
    omega
  have e2 : be4 (IntKind.u64.wrap v % 4294967296) = be4 v := by
    rw [hwv, be4_mod, ← be4_mod (v % 18446744073709551616), ← be4_mod v]
    congr 1
    omega
  have hc := lit_cells (w.alloc (.cells (bNews (be4 (v / 4294967296))).toArray 5)) (be4 v) (by rw [be4_len]; omega)
  rw [show (w.alloc (.cells (bNews (be4 (v / 4294967296))).toArray 5)).heap.size = w.heap.size + 1 by simp] at hc
  have ho := (new_lit w (be4 (v / 4294967296)) (by rw [be4_len]; omega)).alloc (.cells (bNews (be4 v)).toArray 5)
  have hY : (bNews (be4 v)).length = 4 * 1 := by rw [bNews_len, be4_len]
  have hY1 := bNews_one (be4 v)
  have HO : Hid (bNews (be4 (v / 4294967296)) ++ bNews (be4 v) = bNews (be8 v)) := by rw [Hid, bNews_app]; rfl
  clear hwv
  go_enter Tryd.func76, Tryd.ntmps76
  go_wp2_with fail
  refine (reffour_any _ ?a1 ?a2 _).mono ?_
  case a1 => omega
  case a2 => omega
  rintro r w1 ⟨rfl, rfl⟩
  go_wp2_with fail
  refine (reffour_any _ ?a3 ?a4 _).mono ?_
  case a3 => omega
  case a4 => omega
  rintro r w2 ⟨rfl, rfl⟩
  rw [e2]
  clear e1 e2
  generalize bNews (be4 (v / 4294967296)) = X at *
  generalize bNews (be4 v) = Y at *
  go_wp2_with (at_builtin; refine wpList_append_own _ rfl (.tmp 9) (.tmp 13) 32 rfl w.heap.size 5 i0 (.int .u8 0) 1 1 Tryd.underlying32 hi hz0 hz1 hz2 rfl (by decide) (.slice (some ⟨w.heap.size, 0, none⟩) 4 4) 4 X rfl ho ⟨w.heap.size + 1, 0, none⟩ 4 4 Y rfl hY hc hY1 (by unfold maxLen; omega) (by omega) (by simp; omega) ?_; intro v' w' hown hgrow hnil)
  go_ret
  rw [HO.out] at hown
  exact ⟨_, rfl, hown, Below.grown (lb_alloc (lb_alloc (Below.refl _ _) _) _) hgrow (by simp; omega) (fun k hk => by cases hk; exact Nat.le_refl _)⟩



end Go.Proofs.YtfaekkbblpfbhaaDoor
