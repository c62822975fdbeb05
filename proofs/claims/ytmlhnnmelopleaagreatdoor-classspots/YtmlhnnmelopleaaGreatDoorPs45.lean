/-
  The text of an image; no text of one that may not be.
-/
import Derived.Test.YtmlhnnmelopleaaGreatDoorProg
import Derived.WalkKit
import Derived.WalkSpells
import Derived.WalkLawsBesides
import Derived.RowKit3
import Derived.Below
import Derived.Deep.QuietTactic
import Derived.BigQuiet
import Derived.WalkSmall
import Derived.Laws.Rows
import Derived.Test.YtmlhnnmelopleaaGreatDoorPs17
import Derived.Test.YtmlhnnmelopleaaGreatDoorPs44
import Derived.Test.YtmlhnnmelopleaaGreatDoorPs24
namespace Go.Proofs.YtmlhnnmelopleaaGreatDoor
open Go.RowKit

def TofP (a1 : Addr) (A2 : Option Addr) (c1 ml c2 : Nat) (ent : Int) (text : List Int) (w : World) (e : Ending) (w' : World) : Prop := ∃ (B : Nat) (Ab : Option Addr) (cb : Nat), e = .returned (.tuple #[.pointer (some ⟨B, 0, none⟩), .int .i64 0]) ∧ TxAt w' B a1 A2 Ab c1 ml c2 cb ent text ∧ Below w.heap.size w w'
set_option maxRecDepth 100000 in
set_option maxHeartbeats 4000000 in
theorem textof_no (A1 A2 : Option Addr) (c1 ml c2 : Nat) (ent : Int) (text : List Int) (w : World) (hT : IntsAt w A1 .u32 text) (hR : ∀ i, i < text.length → 0 ≤ nth text i ∧ nth text i < 4294967296) (hl : text.length ≤ 1048576) (hm : ml ≤ 1048576) (hE : (checkI text ml ent).1 ≠ 0) :
    Calls Tryz.prog 34 #[.agg #[.slice A1 text.length c1, .int .i64 ent, .slice A2 ml c2]] w fun e w' => e = .returned (.tuple #[.pointer none, .int .i64 (checkI text ml ent).1]) ∧ Below w.heap.size w w' := by
  obtain ⟨W, HW⟩ : ∃ W, Hid (w.alloc (.cells #[.slice A1 text.length c1, .int .i64 ent, .slice A2 ml c2] 31) = W) := ⟨_, rfl⟩
  have HB : Hid (Below w.heap.size w W) := by unfold Hid; rw [← HW.out]; exact lb_alloc (Below.refl _ _) _
  have i0 : W.cell? ⟨w.heap.size, 0, none⟩ = some (.slice A1 text.length c1) := by rw [← HW.out]; simp [go_sem]
  have i1 : W.cell? ⟨w.heap.size, 1, none⟩ = some (.int .i64 ent) := by rw [← HW.out]; simp [go_sem]
  have i2 : W.cell? ⟨w.heap.size, 2, none⟩ = some (.slice A2 ml c2) := by rw [← HW.out]; simp [go_sem]
  have C := blocks_any A1 A2 c1 ml c2 ent text W (hT.keep HB.out) hR hl hm
  have hne2 : ((checkI text ml ent).1 != 0) = true := by simpa using hE
  clear hT hR hE
  generalize (checkI text ml ent).1 = E at *
  go_enter Tryz.func34, Tryz.ntmps34
  go_upto_region 1 with fail
  rw [HW.out]
  clear HW
  go_wp2_with (go_at_call 54; refine C.mono ?_; rintro e w1 ⟨A, c, rfl, hown, hb1⟩)
  go_ret2
  exact ⟨rfl, lb_trans HB.out hb1⟩
set_option maxRecDepth 100000 in
set_option maxHeartbeats 4000000 in
theorem textof_ok (a1 : Addr) (A2 : Option Addr) (c1 ml c2 : Nat) (ent : Int) (text : List Int) (w : World) (hT : IntsAt w (some a1) .u32 text) (hR : ∀ i, i < text.length → 0 ≤ nth text i ∧ nth text i < 4294967296) (hl : text.length ≤ 1048576) (hm : ml ≤ 1048576) (hE : (checkI text ml ent).1 = 0) :
    Calls Tryz.prog 34 #[.agg #[.slice (some a1) text.length c1, .int .i64 ent, .slice A2 ml c2]] w (TofP a1 A2 c1 ml c2 ent text w) := by
  obtain ⟨W, HW⟩ : ∃ W, Hid (w.alloc (.cells #[.slice (some a1) text.length c1, .int .i64 ent, .slice A2 ml c2] 31) = W) := ⟨_, rfl⟩
  have HB : Hid (Below w.heap.size w W) := by unfold Hid; rw [← HW.out]; exact lb_alloc (Below.refl _ _) _
  have i0 : W.cell? ⟨w.heap.size, 0, none⟩ = some (.slice (some a1) text.length c1) := by rw [← HW.out]; simp [go_sem]
  have i1 : W.cell? ⟨w.heap.size, 1, none⟩ = some (.int .i64 ent) := by rw [← HW.out]; simp [go_sem]
  have i2 : W.cell? ⟨w.heap.size, 2, none⟩ = some (.slice A2 ml c2) := by rw [← HW.out]; simp [go_sem]
  have C := blocks_any (some a1) A2 c1 ml c2 ent text W (hT.keep HB.out) hR hl hm
  rw [show outB text ml ent = blkL text ent from if_pos hE, hE] at C
  have HT : Hid (IntsAt w (some a1) .u32 text) := hT
  clear hT hR hE
  go_enter Tryz.func34, Tryz.ntmps34
  go_upto_region 1 with fail
  rw [HW.out]
  clear HW
  go_upto_region 4 with (go_at_call 54; refine C.mono ?_; rintro e w1 ⟨B, cB, rfl, hown, hb1⟩; have HRl : Hid (RelsAt w1 B (blkL text ent)) := drow_rels hown; have HB1 : Hid (Below w.heap.size w w1) := lb_trans HB.out hb1; have j0 := lkeep hb1 i0; have j1 := lkeep hb1 i1; have j2 := lkeep hb1 i2; clear hown hb1 i0 i1 i2)
  have HE : Hid (∀ (L : Nat), L = (blkL text ent).length → ∀ V, V = w1.alloc (.cells #[.slice (some a1) text.length c1, .int .i64 ent, .slice A2 ml c2, .slice B L cB] 102) → TofP a1 A2 c1 ml c2 ent text w (.returned (.tuple #[.pointer (some ⟨w1.heap.size, 0, none⟩), .int .i64 0])) V) := fun L eL V e => by
    subst e
    subst eL
    have hb : Below w1.heap.size w1 (w1.alloc (.cells #[.slice (some a1) text.length c1, .int .i64 ent, .slice A2 ml c2, .slice B (blkL text ent).length cB] 102)) := lb_alloc (Below.refl _ _) _
    exact ⟨w1.heap.size, B, cB, rfl, ⟨by simp [go_sem], by simp [go_sem], by simp [go_sem], by simp [go_sem], (HT.out.keep HB1.out).keep hb, HRl.out.keep hb⟩, lb_trans HB1.out hb⟩
  go_wp2
  go_ret2
  exact HE.out _ rfl _ rfl

end Go.Proofs.YtmlhnnmelopleaaGreatDoor
