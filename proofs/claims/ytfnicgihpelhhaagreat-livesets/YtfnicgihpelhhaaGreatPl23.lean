/-
  CopyImage of the statements, by what it returns; the lists have at most 2^20 items. works, much and eq of the statements. The statement LiveSets, walked.
-/
import Derived.Test.YtfnicgihpelhhaaGreatProg
import Derived.WalkKit
import Derived.WalkSpells
import Derived.WalkLawsBesides
import Derived.RowKit3
import Derived.Below
import Derived.Deep.QuietTactic
import Derived.BigQuiet
import Derived.WalkSmall
import Derived.Laws.Rows
import Derived.Test.YtfnicgihpelhhaaGreatPl17
import Derived.Test.YtfnicgihpelhhaaGreatPl12
import Derived.Test.YtfnicgihpelhhaaGreatPl22
namespace Go.Proofs.YtfnicgihpelhhaaGreat
open Go.RowKit

theorem old_at {w : World} {o o' : Obj} {n : Nat} (h : w.heap[n]? = some o) : (w.alloc o').heap[n]? = some o := by
  rw [Below.heap_alloc w o' n (Array.getElem?_eq_some_iff.1 h).1]; exact h
theorem new_at {w : World} {o : Obj} {n : Nat} (h : n = w.heap.size) : (w.alloc o).heap[n]? = some o := by subst h; exact heap_alloc_new w o
theorem box_other {w : World} {B P : Nat} {o : Obj} (h : w.heap[B]? = some o) (hB : B ≠ P) (i : Nat) (v : Value) : (w.setCell ⟨P, i, none⟩ v).heap[B]? = some o := (Below.heap_setCell _ _ _ _ hB).trans h
theorem zbox3_cell {w : World} {B : Nat} {x y z : Value} {t : TypeId} (h : w.heap[B]? = some (.cells #[x, y, z] t (0, 0))) : w.cell? ⟨B, 0, none⟩ = some x ∧ w.cell? ⟨B, 1, none⟩ = some y ∧ w.cell? ⟨B, 2, none⟩ = some z := by
  refine ⟨?_, ?_, ?_⟩ <;> simp [World.cell?, h]
theorem zNews_vals (K : IntKind) (zs : List Int) : iNews K zs = iVals K zs := by
  apply List.ext_getElem?
  intro i
  unfold iNews iVals
  by_cases h : i < zs.length
  · simp [h, wInt, nth, List.getD]
  · simp [h]


/-- What CopyImage answers. -/
def CopyI (text mem : List Int) (ent : Int) (w : World) (e : Ending) (w' : World) : Prop := ∃ (A1 A2 : Option Addr) (k1 k2 : Nat), e = .returned (.agg #[.slice A1 text.length k1, .int .i64 ent, .slice A2 mem.length k2]) ∧ RowsI w' w.heap.size A1 A2 k1 k2 text mem ∧ Below w.heap.size w w'
set_option maxRecDepth 100000 in
theorem copyimg_any (A1 A2 : Option Addr) (c1 c2 : Nat) (text mem : List Int) (ent : Int) (w : World) (hT : IntsAt w A1 .u32 text) (hM : IntsAt w A2 .i64 mem) (h01 : A1 = none → c1 = 0) (h02 : A2 = none → c2 = 0) (hl : text.length ≤ 1048576) (hm : mem.length ≤ 1048576) :
    Calls Tryz.prog 9 #[.agg #[.slice A1 text.length c1, .int .i64 ent, .slice A2 mem.length c2]] w (CopyI text mem ent w) := by
  have hB0 : Below w.heap.size w ((w.alloc (.cells #[.slice A1 text.length c1, .int .i64 ent, .slice A2 mem.length c2] 25)).alloc (.cells #[.slice none 0 0, .int .i64 0, .slice none 0 0] 25)) := lb_alloc (lb_alloc (Below.refl _ _) _) _
  have HX0 : Hid (((w.alloc (.cells #[.slice A1 text.length c1, .int .i64 ent, .slice A2 mem.length c2] 25)).alloc (.cells #[.slice none 0 0, .int .i64 0, .slice none 0 0] 25)).heap[w.heap.size]? = some (.cells #[.slice A1 text.length c1, .int .i64 ent, .slice A2 mem.length c2] 25 (0, 0))) := old_at (new_at rfl)
  have HY0 : Hid (((w.alloc (.cells #[.slice A1 text.length c1, .int .i64 ent, .slice A2 mem.length c2] 25)).alloc (.cells #[.slice none 0 0, .int .i64 0, .slice none 0 0] 25)).heap[w.heap.size + 1]? = some (.cells #[.slice none 0 0, .int .i64 0, .slice none 0 0] 25 (0, 0))) := new_at (by simp)
  have HB0 : Hid _ := hB0
  clear hB0
  go_enter Tryz.func9, Tryz.ntmps9
  go_wp2_with fail
  refine (copywords_any A1 c1 text _ (hT.keep HB0.out) h01 hl).mono ?_
  rintro e w1 ⟨O1, k1, rfl, hown, hg, hn⟩
  have hb : Below _ _ w1 := ⟨hg.os, hg.tape, hg.output, hg.size, fun k hk => hg.block k hk (by simp)⟩
  have HX1 : Hid _ := lb_box HX0.out hb
  have HY1 : Hid _ := lb_box HY0.out hb
  have HB1 : Hid (Below w.heap.size w w1) := lb_trans HB0.out hb
  rw [zNews_vals] at hown
  have HO1 : Hid (w1.ownsRow (w.heap.size + 2) 45 1 (.slice O1 text.length k1) text.length (iVals .u32 text)) := ownsRow_mono hown (by simp)
  have hs1 : w.heap.size + 2 ≤ w1.heap.size := by have := hb.size; simp at this; exact this
  have HS1 : Hid _ := hs1
  obtain ⟨x0, x1, x2⟩ := zbox3_cell HX1.out
  have f0 := box_fro HX1.out 0
  have HX2 : Hid _ := box_set HX1.out 0 (.slice O1 text.length k1)
  have HY2 : Hid _ := box_other HY1.out (show w.heap.size + 1 ≠ w.heap.size by omega) 0 (.slice O1 text.length k1)
  have HB2 : Hid (Below w.heap.size w (w1.setCell ⟨w.heap.size, 0, none⟩ (.slice O1 text.length k1))) := HB1.out.setCell (Nat.le_refl _) _
  have HO2 : Hid _ := row_setB HO1.out (show w.heap.size < w.heap.size + 2 by omega) 0 (.slice O1 text.length k1)
  clear hown hg hn hb hs1 HX0 HY0
  go_wp2_with fail
  refine (copylongs_any A2 c2 mem _ (hM.keep HB2.out) h02 hm).mono ?_
  rintro e w3 ⟨O2, k2, rfl, hown, hg, hn⟩
  have hb : Below _ _ w3 := ⟨hg.os, hg.tape, hg.output, hg.size, fun k hk => hg.block k hk (by simp)⟩
  have HX3 : Hid (w3.heap[w.heap.size]? = some (.cells #[.slice O1 text.length k1, .int .i64 ent, .slice A2 mem.length c2] 25 (0, 0))) := lb_box HX2.out hb
  have HY3 : Hid _ := lb_box HY2.out hb
  have HB3 : Hid (Below w.heap.size w w3) := lb_trans HB2.out hb
  rw [zNews_vals] at hown
  have HQ3 : Hid (RowsI w3 (w.heap.size + 2) O1 O2 k1 k2 text mem) := ⟨row_keep HO2.out hb, ownsRow_mono hown (by have := HS1.out; simpa using this)⟩
  clear hown hg hn hb x0 x1 x2 f0 HX1 HY1 HB1 HO1
  obtain ⟨x0, x1, x2⟩ := zbox3_cell HX3.out
  obtain ⟨y0, y1, y2⟩ := zbox3_cell HY3.out
  have f0 := box_fro HX3.out 0
  have f2 := box_fro HX3.out 2
  have g0 := box_fro HY3.out 0
  have g1 := box_fro HY3.out 1
  have g2 := box_fro HY3.out 2
  go_wp2
  refine bodyPost_ret (v := .agg #[.slice O1 text.length k1, .int .i64 ent, .slice O2 mem.length k2]) (by simp [results, Tryz.results9, go_sem, y0, y1, y2]) rfl ⟨O1, O2, k1, k2, rfl, ?_, ?_⟩
  · have h1 : w.heap.size < w.heap.size + 2 := by omega
    have h2 : w.heap.size + 1 < w.heap.size + 2 := by omega
    exact ((((HQ3.out.set h1 2 _).set h2 0 _).set h2 1 _).set h2 2 _).mono (by omega)
  · exact (((HB3.out.setCell (Nat.le_refl _) _).setCell (Nat.le_succ _) _).setCell (Nat.le_succ _) _).setCell (Nat.le_succ _) _






end Go.Proofs.YtfnicgihpelhhaaGreat

namespace Go.Proofs.YtfnicgihpelhhaaGreat
open Go.RowKit

set_option maxRecDepth 100000 in
set_option maxHeartbeats 2000000 in
theorem eqsets_same (A B : Option Addr) (ca cb n : Nat) (F : Int → Nat) (w : World) (hA : IntsAt w A .u16 (setL F n)) (hB : IntsAt w B .u16 (setL F n)) (hn : n ≤ 65536) :
    Calls Tryz.prog 12 #[.slice A n ca, .slice B n cb] w fun e w' => e = .returned (.bool true) ∧ Below w.heap.size w w' := by
  have HA : Hid (IntsAt w A .u16 (setL F n)) := hA
  have HB : Hid (IntsAt w B .u16 (setL F n)) := hB
  clear hA hB
  go_enter Tryz.func12, Tryz.ntmps12
  go_wp2
  go_loopw [5] (fun i wr => ∃ k : Nat, i = .int .i64 k ∧ k ≤ n ∧ Hid (Below w.heap.size w wr)) (fun i _ => n - (intOf i).toNat)
  case atStart => exact ⟨0, rfl, Nat.zero_le _, Below.refl _ _⟩
  case round =>
    obtain ⟨k, rfl, hk, HW⟩ := hrel
    by_cases hlt : k < n
    · have hlt' : (k : Int) < (n : Int) := by omega
      obtain ⟨a, ea, c1⟩ := (HA.out.keep HW.out) k (by rw [setL_len]; exact hlt)
      obtain ⟨b, eb, c2⟩ := (HB.out.keep HW.out) k (by rw [setL_len]; exact hlt)
      subst ea eb
      generalize nth (setL F n) k = t at *
      go_upto_region 6 with fail
      go_quiet (fail)
      go_wp2
      go_roundw
      case rel => exact ⟨k + 1, by go_num, by omega, below_drewN HW.out _⟩
      case measure => simp [intOf]; omega
    · obtain rfl : k = n := by omega
      go_wp2
      go_ret
      exact ⟨rfl, HW.out⟩
def wkT : List Int := [142606341, 285736960, 1880096768, 2818572288]
theorem wk_in : ∀ i, i < wkT.length → 0 ≤ nth wkT i ∧ nth wkT i < 4294967296 := by
  intro i hi
  have : i = 0 ∨ i = 1 ∨ i = 2 ∨ i = 3 := by simp [wkT] at hi; omega
  rcases this with rfl | rfl | rfl | rfl <;> exact ⟨by decide, by decide⟩
theorem wbox_at {w : World} {g : Nat} {cs : Array Value} {t : TypeId} (h : w.heap[g]? = some (.cells cs t (0, 0))) {i : Nat} {v : Value} (hv : cs[i]? = some v) : w.cell? ⟨g, i, none⟩ = some v := by
  simp [World.cell?, h, hv]
theorem wk_ints {w : World} {g : Nat} (h : w.heap[g]? = some (.cells #[.int .u32 142606341, .int .u32 285736960, .int .u32 1880096768, .int .u32 2818572288] 45 (0, 0))) : IntsAt w (some ⟨g, 0, none⟩) .u32 wkT := by
  intro i hi
  refine ⟨⟨g, 0, none⟩, rfl, ?_⟩
  rw [add0]
  have : i = 0 ∨ i = 1 ∨ i = 2 ∨ i = 3 := by simp [wkT] at hi; omega
  rcases this with rfl | rfl | rfl | rfl <;> exact wbox_at h rfl
theorem wk_chk : checkI wkT 0 0 = (0, 0) := by kernel_rfl
theorem wk_beh {H : Int → Nat} (h : BhI wkT 0 H) : H (0 : Nat) = 2 ∧ H (1 : Nat) = 4 ∧ H (2 : Nat) = 0 ∧ H (3 : Nat) = 0 := by
  obtain ⟨F, G, h1, h2⟩ := h
  have hl : (blkL wkT 0).length = 1 := by kernel_rfl
  have hA : rAt (blkL wkT 0) 0 = 0 := by kernel_rfl
  have hS : rSym (blkL wkT 0) 0 = 4 := by kernel_rfl
  have hE : rowZ (edgT wkT 0 (blkL wkT 0).length) 0 = [] := by kernel_rfl
  have hG : G ((0 : Nat) : Int) = 0 := by
    have := h1.sol.out 0 (by omega)
    rw [hE] at this
    exact this
  have k := h2 0 (by omega)
  rw [hA, hS, hG] at k
  refine ⟨?_, ?_, ?_, ?_⟩
  · rw [k 0 (by omega) (by omega)]; kernel_rfl
  · rw [k 1 (by omega) (by omega)]; kernel_rfl
  · rw [k 2 (by omega) (by omega)]; kernel_rfl
  · rw [k 3 (by omega) (by omega)]; kernel_rfl
set_option maxRecDepth 100000 in
set_option maxHeartbeats 2000000 in
theorem works_any (HE : BehindOK) (w : World) : Calls Tryz.prog 6 #[] w fun e w' => e = .returned (.bool true) ∧ Below w.heap.size w w' := by
  obtain ⟨W, HW⟩ : ∃ W, Hid ((w.alloc (.cells #[.int .u32 142606341, .int .u32 285736960, .int .u32 1880096768, .int .u32 2818572288] 45)).alloc (.cells #[.slice (some ⟨w.heap.size, 0, none⟩) 4 4, .int .i64 0, .slice none 0 0] 25) = W) := ⟨_, rfl⟩
  have HB : Hid (Below w.heap.size w W) := by unfold Hid; rw [← HW.out]; exact lb_alloc (lb_alloc (Below.refl _ _) _) _
  have h1 : W.heap[w.heap.size]? = some (.cells #[.int .u32 142606341, .int .u32 285736960, .int .u32 1880096768, .int .u32 2818572288] 45 (0, 0)) := by rw [← HW.out]; exact old_at (new_at rfl)
  have h3 : W.heap[w.heap.size + 1]? = some (.cells #[.slice (some ⟨w.heap.size, 0, none⟩) 4 4, .int .i64 0, .slice none 0 0] 25 (0, 0)) := by rw [← HW.out]; exact new_at (by simp)
  have x0 : W.cell? ⟨w.heap.size + 1, 0, none⟩ = some (.slice (some ⟨w.heap.size, 0, none⟩) 4 4) := wbox_at h3 rfl
  have x1 : W.cell? ⟨w.heap.size + 1, 1, none⟩ = some (.int .i64 0) := wbox_at h3 rfl
  have x2 : W.cell? ⟨w.heap.size + 1, 2, none⟩ = some (.slice none 0 0) := wbox_at h3 rfl
  have C1 := HE.ok (some ⟨w.heap.size, 0, none⟩) none 4 0 0 0 wkT W (wk_ints h1) wk_in (by decide) (by decide) (by decide) (by rw [wk_chk])
  have C1 : Calls Tryz.prog 10 #[.agg #[.slice (some ⟨w.heap.size, 0, none⟩) 4 4, .int .i64 0, .slice none 0 0]] W (HR wkT 0 W) := C1
  clear h1 h3
  go_enter Tryz.func6, Tryz.ntmps6
  go_upto_region 2 with fail
  rw [HW.out]
  clear HW
  go_wp2_with fail
  refine C1.mono ?_
  rintro e w1 ⟨A, c, H, rfl, hz, hh, hb1⟩
  have HB1 : Hid (Below w.heap.size w w1) := lb_trans HB.out hb1
  obtain ⟨e0, e1, e2, e3⟩ := wk_beh hh
  obtain ⟨a, ea, q0⟩ := hz 0 (by rw [setL_len]; decide)
  obtain ⟨a1, ea1, q1⟩ := hz 1 (by rw [setL_len]; decide)
  obtain ⟨a2, ea2, q2⟩ := hz 2 (by rw [setL_len]; decide)
  obtain ⟨a3, ea3, q3⟩ := hz 3 (by rw [setL_len]; decide)
  rw [ea] at ea1 ea2 ea3
  obtain rfl := Option.some.inj ea1
  obtain rfl := Option.some.inj ea2
  obtain rfl := Option.some.inj ea3
  subst ea
  rw [setL_nth (by decide), e0] at q0
  rw [setL_nth (by decide), e1] at q1
  rw [setL_nth (by decide), e2] at q2
  rw [setL_nth (by decide), e3] at q3
  have q0 : w1.cell? a = some (.int .u16 2) := q0
  have q1 : w1.cell? ⟨a.block, a.off + 1, none⟩ = some (.int .u16 4) := q1
  have q2 : w1.cell? ⟨a.block, a.off + 2, none⟩ = some (.int .u16 0) := q2
  have q3 : w1.cell? ⟨a.block, a.off + 3, none⟩ = some (.int .u16 0) := q3
  clear hz hh hb1 x0 x1 x2 C1 HB e0 e1 e2 e3
  have hwl : wkT.length = 4 := rfl
  rw [hwl]
  go_wp2
  go_ret
  exact ⟨rfl, HB1.out⟩
def muchB (text mem : List Int) : Bool := decide (600 < text.length) || decide (16384 < mem.length)
theorem much_any (A1 A2 : Option Addr) (c1 c2 : Nat) (ent : Int) (text mem : List Int) (w : World) :
    Calls Tryz.prog 5 #[.agg #[.slice A1 text.length c1, .int .i64 ent, .slice A2 mem.length c2]] w fun e w' => e = .returned (.bool (muchB text mem)) ∧ Below w.heap.size w w' := by
  unfold muchB
  by_cases h1 : 600 < text.length
  · rw [decide_eq_true h1]
    have h1' : (600 : Int) < (text.length : Int) := by omega
    go_enter Tryz.func5, Tryz.ntmps5
    go_wp2
    go_ret
    exact ⟨rfl, lb_alloc (Below.refl _ _) _⟩
  · rw [decide_eq_false h1]
    have h1' : decide ((600 : Int) < (text.length : Int)) = false := decide_eq_false (by omega)
    have h1'' : ¬ (600 : Int) < (text.length : Int) := by omega
    by_cases h2 : 16384 < mem.length
    · rw [decide_eq_true h2]
      have h2' : (16384 : Int) < (mem.length : Int) := by omega
      go_enter Tryz.func5, Tryz.ntmps5
      go_wp2
      go_ret
      exact ⟨by simp, lb_alloc (Below.refl _ _) _⟩
    · rw [decide_eq_false h2]
      have h2' : ¬ (16384 : Int) < (mem.length : Int) := by omega
      go_enter Tryz.func5, Tryz.ntmps5
      go_wp2
      go_ret
      exact ⟨by simp, lb_alloc (Below.refl _ _) _⟩


end Go.Proofs.YtfnicgihpelhhaaGreat

namespace Go.Proofs.YtfnicgihpelhhaaGreat
open Go.RowKit

set_option maxRecDepth 100000 in
set_option maxHeartbeats 8000000 in
theorem lawSets (HE : BlocksOK) (HH : BehindOK) (A1 A2 : Option Addr) (c1 c2 : Nat) (ent : Int) (text mem : List Int) (w : World) (hT : IntsAt w A1 .u32 text) (hM : IntsAt w A2 .i64 mem) (hR : ∀ i, i < text.length → 0 ≤ nth text i ∧ nth text i < 4294967296) (h01 : A1 = none → c1 = 0) (h02 : A2 = none → c2 = 0) (hc1 : text.length ≤ c1) :
    Calls Tryz.prog 3 #[.agg #[.slice A1 text.length c1, .int .i64 ent, .slice A2 mem.length c2]] w fun e w' => e = .returned (.bool true) ∧ Below w.heap.size w w' := by
  have CW := works_any HH
  obtain ⟨W0, HW⟩ : ∃ W0, Hid (w.alloc (.cells #[.slice A1 text.length c1, .int .i64 ent, .slice A2 mem.length c2] 25) = W0) := ⟨_, rfl⟩
  have HB0 : Hid (Below w.heap.size w W0) := by unfold Hid; rw [← HW.out]; exact lb_alloc (Below.refl _ _) _
  have i0 : W0.cell? ⟨w.heap.size, 0, none⟩ = some (.slice A1 text.length c1) := by rw [← HW.out]; simp [go_sem]
  have i1 : W0.cell? ⟨w.heap.size, 1, none⟩ = some (.int .i64 ent) := by rw [← HW.out]; simp [go_sem]
  have i2 : W0.cell? ⟨w.heap.size, 2, none⟩ = some (.slice A2 mem.length c2) := by rw [← HW.out]; simp [go_sem]
  have HI : Hid (∀ Z, Below W0.heap.size W0 Z → Z.cell? ⟨w.heap.size, 0, none⟩ = some (.slice A1 text.length c1) ∧ Z.cell? ⟨w.heap.size, 1, none⟩ = some (.int .i64 ent) ∧ Z.cell? ⟨w.heap.size, 2, none⟩ = some (.slice A2 mem.length c2)) := fun Z hZ => ⟨lkeep hZ i0, lkeep hZ i1, lkeep hZ i2⟩
  have C0 := much_any A1 A2 c1 c2 ent text mem W0
  by_cases g0 : muchB text mem = true
  · rw [g0] at C0
    go_enter Tryz.func3, Tryz.ntmps3
    go_upto_region 1 with fail
    rw [HW.out]
    clear HW
    go_wp2_with (first
        | (go_at_call 5; refine C0.mono ?_; rintro e w1 ⟨rfl, hb1⟩)
        | (go_at_call 6; refine (CW _).mono ?_; rintro e w2 ⟨rfl, hb2⟩))
    go_ret
    exact ⟨rfl, lb_trans HB0.out (lb_trans hb1 hb2)⟩
  have g0 : muchB text mem = false := by simpa using g0
  have l1 : text.length ≤ 600 ∧ mem.length ≤ 16384 := by unfold muchB at g0; simp at g0; omega
  rw [g0] at C0
  obtain ⟨l1, l2⟩ := l1
  clear g0
  have CY := fun Z (hZ : Below W0.heap.size W0 Z) => copyimg_any A1 A2 c1 c2 text mem ent Z (hT.keep (lb_trans HB0.out hZ)) (hM.keep (lb_trans HB0.out hZ)) h01 h02 (by omega) (by omega)
  have CC := fun Z (hZ : Below W0.heap.size W0 Z) => refcheck_any A1 A2 c1 mem.length c2 ent text Z (hT.keep (lb_trans HB0.out hZ)) hR (by omega) (by omega)
  go_enter Tryz.func3, Tryz.ntmps3
  go_upto_region 1 with fail
  rw [HW.out]
  clear HW
  go_upto_region 3 with (go_at_call 5; refine C0.mono ?_; rintro e W1 ⟨rfl, hb1⟩; have HB1 : Hid (Below W0.heap.size W0 W1) := hb1)
  clear i0 i1 i2 hb1 C0
  by_cases hE : (checkI text mem.length ent).1 = 0
  · have hMay := check_mayI hE
    have hpos := hMay.past.pos
    have CE := fun D1 D2 m1 m2 Z (hz : IntsAt Z D1 .u32 text) (hm : text.length ≤ m1) => HE.ok D1 D2 m1 mem.length m2 ent text Z hz hR hm (by omega) (by omega) hE
    have CH := fun D1 D2 m1 m2 Z (hz : IntsAt Z D1 .u32 text) (hm : text.length ≤ m1) => HH.ok D1 D2 m1 mem.length m2 ent text Z hz hR hm (by omega) (by omega) hE
    have CX := fun Z (hZ : Below W0.heap.size W0 Z) => refsets_any A1 A2 c1 mem.length c2 ent text Z (hT.keep (lb_trans HB0.out hZ)) hR hMay hc1
    have CZ := fun Z (hZ : Below W0.heap.size W0 Z) => refbehind_any A1 A2 c1 mem.length c2 ent text Z (hT.keep (lb_trans HB0.out hZ)) hR hMay hc1
    have hLt := blk_len_le text ent
    have HU : Hid (∀ F G F' G', LstI text ent F G → LstI text ent F' G' → setL F' (blkL text ent).length = setL F (blkL text ent).length ∧ setL G' (blkL text ent).length = setL G (blkL text ent).length) := fun F G F' G' h k => ⟨setL_same fun i hi => (Lst.uniq k h i hi).1, setL_same fun i hi => (Lst.uniq k h i hi).2⟩
    have HV : Hid (∀ H H', BhI text ent H → BhI text ent H' → setL H' text.length = setL H text.length) := fun H H' h k => setL_same fun i hi => BhI.uniq hpos k h i hi
    have HP : Hid (∀ e w1 w', SetP text ent w1 e w' → SetQ (edgT text ent (blkL text ent).length) (blR text ent) (blW text ent) (blkL text ent).length w1 e w') := fun _ _ _ h => h
    rw [hE] at CC
    clear hE hMay hR hT hM h01 h02 hpos HE HH
    generalize (checkI text mem.length ent).2 = E2 at *

    obtain ⟨i0, i1, i2⟩ := HI.out W1 HB1.out
    go_wp2_with fail
    refine (CC W1 HB1.out).mono ?_
    rintro e W2 ⟨rfl, hb⟩
    clear i0 i1 i2
    have HB2 : Hid (Below W0.heap.size W0 W2) := lb_trans HB1.out hb
    clear hb HB1
    obtain ⟨i0, i1, i2⟩ := HI.out W2 HB2.out
    go_wp2_with fail
    refine (CY W2 HB2.out).mono ?_
    rintro e W3 ⟨B1, B2, k1, k2, rfl, hrows, hb⟩
    clear i0 i1 i2
    have HB3 : Hid (Below W0.heap.size W0 W3) := lb_trans HB2.out hb
    have Ta3 : Hid (IntsAt W3 B1 .u32 text) := row_ints hrows.r1
    clear hb HB2
    have hk1 := own_cap hrows.r1
    clear hrows
    obtain ⟨i0, i1, i2⟩ := HI.out W3 HB3.out
    go_wp2_with fail
    refine (CE _ _ _ _ W3 Ta3.out hk1).mono ?_
    rintro e W4 ⟨Ai, Bo, ci, co, F, G, rfl, hzi, hzo, hls, hb⟩
    clear i0 i1 i2
    have HB4 : Hid (Below W0.heap.size W0 W4) := lb_trans HB3.out hb
    have In4 : Hid (IntsAt W4 Ai .u16 (setL F (blkL text ent).length)) := hzi
    have Ou4 : Hid (IntsAt W4 Bo .u16 (setL G (blkL text ent).length)) := hzo
    clear Ta3
    clear hb HB3
    have HLs : Hid (LstI text ent F G) := hls
    clear hzi hzo hls
    obtain ⟨i0, i1, i2⟩ := HI.out W4 HB4.out
    go_wp2_with fail
    refine (CY W4 HB4.out).mono ?_
    rintro e W5 ⟨D1, D2, m1, m2, rfl, hrows, hb⟩
    clear i0 i1 i2
    have HB5 : Hid (Below W0.heap.size W0 W5) := lb_trans HB4.out hb
    have Tb5 : Hid (IntsAt W5 D1 .u32 text) := row_ints hrows.r1
    have In5 : Hid (IntsAt W5 Ai .u16 (setL F (blkL text ent).length)) := In4.out.keep hb
    clear In4
    have Ou5 : Hid (IntsAt W5 Bo .u16 (setL G (blkL text ent).length)) := Ou4.out.keep hb
    clear Ou4
    clear hb HB4
    have hk2 := own_cap hrows.r1
    clear hrows
    obtain ⟨i0, i1, i2⟩ := HI.out W5 HB5.out
    go_wp2_with fail
    refine (CH _ _ _ _ W5 Tb5.out hk2).mono ?_
    rintro e W6 ⟨Ah, ch, H, rfl, hzh, hbh, hb⟩
    clear i0 i1 i2
    have HB6 : Hid (Below W0.heap.size W0 W6) := lb_trans HB5.out hb
    have Be6 : Hid (IntsAt W6 Ah .u16 (setL H text.length)) := hzh
    have In6 : Hid (IntsAt W6 Ai .u16 (setL F (blkL text ent).length)) := In5.out.keep hb
    clear In5
    have Ou6 : Hid (IntsAt W6 Bo .u16 (setL G (blkL text ent).length)) := Ou5.out.keep hb
    clear Ou5
    clear Tb5
    clear hb HB5
    have HBh : Hid (BhI text ent H) := hbh
    clear hzh hbh
    obtain ⟨i0, i1, i2⟩ := HI.out W6 HB6.out
    go_wp2_with fail
    refine (CX W6 HB6.out).mono ?_
    rintro e W7 ⟨g1, g2, F', G', rfl, hu1, hu2, hls, hGl, hb⟩
    clear i0 i1 i2
    have HB7 : Hid (Below W0.heap.size W0 W7) := lb_trans HB6.out hb
    have Ja7 : Hid (IntsAt W7 (some ⟨g1, 0, none⟩) .u16 (setL F (blkL text ent).length)) := (by unfold Hid; rw [← (HU.out F G F' G' HLs.out hls).1]; exact hu1.ints)
    have Jb7 : Hid (IntsAt W7 (some ⟨g2, 0, none⟩) .u16 (setL G (blkL text ent).length)) := (by unfold Hid; rw [← (HU.out F G F' G' HLs.out hls).2]; exact hu2.ints)
    have In7 : Hid (IntsAt W7 Ai .u16 (setL F (blkL text ent).length)) := In6.out.keep hb
    clear In6
    have Ou7 : Hid (IntsAt W7 Bo .u16 (setL G (blkL text ent).length)) := Ou6.out.keep hb
    clear Ou6
    have Be7 : Hid (IntsAt W7 Ah .u16 (setL H text.length)) := Be6.out.keep hb
    clear Be6
    clear hb HB6
    clear hu1 hu2 hls hGl
    obtain ⟨i0, i1, i2⟩ := HI.out W7 HB7.out
    go_wp2_with fail
    refine (eqsets_same Ai (some ⟨g1, 0, none⟩) ci (blkL text ent).length (blkL text ent).length F W7 In7.out Ja7.out (by omega)).mono ?_
    rintro e W8 ⟨rfl, hb⟩
    clear i0 i1 i2
    have HB8 : Hid (Below W0.heap.size W0 W8) := lb_trans HB7.out hb
    clear In7
    have Ou8 : Hid (IntsAt W8 Bo .u16 (setL G (blkL text ent).length)) := Ou7.out.keep hb
    clear Ou7
    have Be8 : Hid (IntsAt W8 Ah .u16 (setL H text.length)) := Be7.out.keep hb
    clear Be7
    clear Ja7
    have Jb8 : Hid (IntsAt W8 (some ⟨g2, 0, none⟩) .u16 (setL G (blkL text ent).length)) := Jb7.out.keep hb
    clear Jb7
    clear hb HB7
    obtain ⟨i0, i1, i2⟩ := HI.out W8 HB8.out
    go_wp2_with fail
    refine (eqsets_same Bo (some ⟨g2, 0, none⟩) co (blkL text ent).length (blkL text ent).length G W8 Ou8.out Jb8.out (by omega)).mono ?_
    rintro e W9 ⟨rfl, hb⟩
    clear i0 i1 i2
    have HB9 : Hid (Below W0.heap.size W0 W9) := lb_trans HB8.out hb
    clear Ou8
    have Be9 : Hid (IntsAt W9 Ah .u16 (setL H text.length)) := Be8.out.keep hb
    clear Be8
    clear Jb8
    clear hb HB8
    obtain ⟨i0, i1, i2⟩ := HI.out W9 HB9.out
    go_wp2_with fail
    refine (CZ W9 HB9.out).mono ?_
    rintro e W10 ⟨g3, H', rfl, hu, hbh, hb⟩
    clear i0 i1 i2
    have HB10 : Hid (Below W0.heap.size W0 W10) := lb_trans HB9.out hb
    have Jc10 : Hid (IntsAt W10 (some ⟨g3, 0, none⟩) .u16 (setL H text.length)) := (by unfold Hid; rw [← HV.out H H' HBh.out hbh]; exact hu.ints)
    have Be10 : Hid (IntsAt W10 Ah .u16 (setL H text.length)) := Be9.out.keep hb
    clear Be9
    clear hb HB9
    clear hu hbh
    obtain ⟨i0, i1, i2⟩ := HI.out W10 HB10.out
    go_wp2_with fail
    refine (eqsets_same Ah (some ⟨g3, 0, none⟩) ch text.length text.length H W10 Be10.out Jc10.out (by omega)).mono ?_
    rintro e W11 ⟨rfl, hb⟩
    clear i0 i1 i2
    have HB11 : Hid (Below W0.heap.size W0 W11) := lb_trans HB10.out hb
    clear Be10
    clear Jc10
    clear hb HB10
    go_wp2_with (go_at_call 6; refine (CW _).mono ?_; rintro e Wl ⟨rfl, hb⟩)
    go_ret
    exact ⟨rfl, lb_trans HB0.out (lb_trans HB11.out hb)⟩
  · have CE := fun D1 D2 m1 m2 Z (hz : IntsAt Z D1 .u32 text) (hm : text.length ≤ m1) => HE.no D1 D2 m1 mem.length m2 ent text Z hz hR hm (by omega) (by omega) hE
    have CH := fun D1 D2 m1 m2 Z (hz : IntsAt Z D1 .u32 text) (hm : text.length ≤ m1) => HH.no D1 D2 m1 mem.length m2 ent text Z hz hR hm (by omega) (by omega) hE
    have hne : ((checkI text mem.length ent).1 == 0) = false := by simpa using hE
    have hne2 : ((checkI text mem.length ent).1 != 0) = true := by simpa using hE
    clear hE hR hT hM h01 h02 HE HH
    generalize (checkI text mem.length ent).2 = E2 at *
    generalize (checkI text mem.length ent).1 = E at *
    obtain ⟨i0, i1, i2⟩ := HI.out W1 HB1.out
    go_wp2_with fail
    refine (CC W1 HB1.out).mono ?_
    rintro e W2 ⟨rfl, hb⟩
    clear i0 i1 i2
    have HB2 : Hid (Below W0.heap.size W0 W2) := lb_trans HB1.out hb
    clear hb HB1
    obtain ⟨i0, i1, i2⟩ := HI.out W2 HB2.out
    go_wp2_with fail
    refine (CY W2 HB2.out).mono ?_
    rintro e W3 ⟨B1, B2, k1, k2, rfl, hrows, hb⟩
    clear i0 i1 i2
    have HB3 : Hid (Below W0.heap.size W0 W3) := lb_trans HB2.out hb
    have Ta3 : Hid (IntsAt W3 B1 .u32 text) := row_ints hrows.r1
    clear hb HB2
    have hk1 := own_cap hrows.r1
    clear hrows
    obtain ⟨i0, i1, i2⟩ := HI.out W3 HB3.out
    go_wp2_with fail
    refine (CE _ _ _ _ W3 Ta3.out hk1).mono ?_
    rintro e W4 ⟨Ai, Bo, ci, co, rfl, hb⟩
    clear i0 i1 i2
    have HB4 : Hid (Below W0.heap.size W0 W4) := lb_trans HB3.out hb
    clear Ta3
    clear hb HB3
    obtain ⟨i0, i1, i2⟩ := HI.out W4 HB4.out
    go_wp2_with fail
    refine (CY W4 HB4.out).mono ?_
    rintro e W5 ⟨D1, D2, m1, m2, rfl, hrows, hb⟩
    clear i0 i1 i2
    have HB5 : Hid (Below W0.heap.size W0 W5) := lb_trans HB4.out hb
    have Tb5 : Hid (IntsAt W5 D1 .u32 text) := row_ints hrows.r1
    clear hb HB4
    have hk2 := own_cap hrows.r1
    clear hrows
    obtain ⟨i0, i1, i2⟩ := HI.out W5 HB5.out
    go_wp2_with fail
    refine (CH _ _ _ _ W5 Tb5.out hk2).mono ?_
    rintro e W6 ⟨Ah, ch, rfl, hb⟩
    clear i0 i1 i2
    have HB6 : Hid (Below W0.heap.size W0 W6) := lb_trans HB5.out hb
    clear Tb5
    clear hb HB5
    go_wp2_with (go_at_call 6; refine (CW _).mono ?_; rintro e Wl ⟨rfl, hb⟩)
    go_ret
    exact ⟨rfl, lb_trans HB0.out (lb_trans HB6.out hb)⟩


end Go.Proofs.YtfnicgihpelhhaaGreat
