/-
  Labels, Taken and Sites of package block, by what they answer; each word is of 32 bits. works and much of the statements: the one returns true, the other whether the lists are long; no condition. The statement BlockOf, walked.
-/
import Derived.Test.YtlblplfmemoblaaProg
import Derived.WalkKit
import Derived.WalkSpells
import Derived.WalkLawsBesides
import Derived.RowKit3
import Derived.Below
import Derived.Deep.QuietTactic
import Derived.BigQuiet
import Derived.WalkSmall
import Derived.Laws.Rows
import Derived.Test.YtlblplfmemoblaaPo16
import Derived.Test.YtlblplfmemoblaaPo17
import Derived.Test.YtlblplfmemoblaaPo05
import Derived.Test.YtlblplfmemoblaaPo06
import Derived.Test.YtlblplfmemoblaaPo07
namespace Go.Proofs.Ytlblplfmemoblaa
open Go.RowKit

set_option maxHeartbeats 1000000 in
theorem labels_any (A1 A2 : Option Addr) (c1 ml c2 : Nat) (ent : Int) (text : List Int) (w : World) (hT : IntsAt w A1 .u32 text) (hR : ∀ i, i < text.length → 0 ≤ nth text i ∧ nth text i < 4294967296) (hl : text.length ≤ 1048576) (hm : ml ≤ 1048576) :
    Calls Try.prog 10 #[.agg #[.slice A1 text.length c1, .int .i64 ent, .slice A2 ml c2]] w (GatP (checkI text ml ent).1 (outL text ml ent (labF text ent)) w) := by
  have HB : Hid (Below w.heap.size w (w.alloc (.cells #[.slice A1 text.length c1, .int .i64 ent, .slice A2 ml c2] 25))) := lb_alloc (Below.refl _ _) _
  have C := gather_lab A1 A2 c1 ml c2 ent text (w.alloc (.cells #[.slice A1 text.length c1, .int .i64 ent, .slice A2 ml c2] 25)) (hT.keep HB.out) hR hl hm
  generalize outL text ml ent (labF text ent) = ps at *
  generalize (checkI text ml ent).1 = E at *
  clear hT hR
  go_enter Try.func10, Try.ntmps10
  go_wp2_with fail
  refine C.mono ?_
  rintro e w1 ⟨A, c, rfl, hown, hb⟩
  go_wp2
  go_ret2
  exact ⟨A, c, rfl, ownsRow_mono hown HB.out.size, lb_trans HB.out hb⟩

set_option maxHeartbeats 1000000 in
theorem taken_any (A1 A2 : Option Addr) (c1 ml c2 : Nat) (ent : Int) (text : List Int) (w : World) (hT : IntsAt w A1 .u32 text) (hR : ∀ i, i < text.length → 0 ≤ nth text i ∧ nth text i < 4294967296) (hl : text.length ≤ 1048576) (hm : ml ≤ 1048576) :
    Calls Try.prog 11 #[.agg #[.slice A1 text.length c1, .int .i64 ent, .slice A2 ml c2]] w (GatP (checkI text ml ent).1 (outL text ml ent (takF text)) w) := by
  have HB : Hid (Below w.heap.size w (w.alloc (.cells #[.slice A1 text.length c1, .int .i64 ent, .slice A2 ml c2] 25))) := lb_alloc (Below.refl _ _) _
  have C := gather_tak A1 A2 c1 ml c2 ent text (w.alloc (.cells #[.slice A1 text.length c1, .int .i64 ent, .slice A2 ml c2] 25)) (hT.keep HB.out) hR hl hm
  generalize outL text ml ent (takF text) = ps at *
  generalize (checkI text ml ent).1 = E at *
  clear hT hR
  go_enter Try.func11, Try.ntmps11
  go_wp2_with fail
  refine C.mono ?_
  rintro e w1 ⟨A, c, rfl, hown, hb⟩
  go_wp2
  go_ret2
  exact ⟨A, c, rfl, ownsRow_mono hown HB.out.size, lb_trans HB.out hb⟩

set_option maxHeartbeats 1000000 in
theorem sites_any (A1 A2 : Option Addr) (c1 ml c2 : Nat) (ent : Int) (text : List Int) (w : World) (hT : IntsAt w A1 .u32 text) (hR : ∀ i, i < text.length → 0 ≤ nth text i ∧ nth text i < 4294967296) (hl : text.length ≤ 1048576) (hm : ml ≤ 1048576) :
    Calls Try.prog 12 #[.agg #[.slice A1 text.length c1, .int .i64 ent, .slice A2 ml c2]] w (GatP (checkI text ml ent).1 (outL text ml ent (sitF text)) w) := by
  have HB : Hid (Below w.heap.size w (w.alloc (.cells #[.slice A1 text.length c1, .int .i64 ent, .slice A2 ml c2] 25))) := lb_alloc (Below.refl _ _) _
  have C := gather_sit A1 A2 c1 ml c2 ent text (w.alloc (.cells #[.slice A1 text.length c1, .int .i64 ent, .slice A2 ml c2] 25)) (hT.keep HB.out) hR hl hm
  generalize outL text ml ent (sitF text) = ps at *
  generalize (checkI text ml ent).1 = E at *
  clear hT hR
  go_enter Try.func12, Try.ntmps12
  go_wp2_with fail
  refine C.mono ?_
  rintro e w1 ⟨A, c, rfl, hown, hb⟩
  go_wp2
  go_ret2
  exact ⟨A, c, rfl, ownsRow_mono hown HB.out.size, lb_trans HB.out hb⟩

end Go.Proofs.Ytlblplfmemoblaa

namespace Go.Proofs.Ytlblplfmemoblaa
open Go.RowKit

def wkT : List Int := [142606341, 2281701379, 2818572288, 2558001152]
theorem wk_in : ∀ i, i < wkT.length → 0 ≤ nth wkT i ∧ nth wkT i < 4294967296 := by
  intro i hi
  have : i = 0 ∨ i = 1 ∨ i = 2 ∨ i = 3 := by simp [wkT] at hi; omega
  rcases this with rfl | rfl | rfl | rfl <;> exact ⟨by decide, by decide⟩
theorem box_at {w : World} {g : Nat} {cs : Array Value} {t : TypeId} (h : w.heap[g]? = some (.cells cs t (0, 0))) {i : Nat} {v : Value} (hv : cs[i]? = some v) : w.cell? ⟨g, i, none⟩ = some v := by
  simp [World.cell?, h, hv]
theorem wk_ints {w : World} {g : Nat} (h : w.heap[g]? = some (.cells #[.int .u32 142606341, .int .u32 2281701379, .int .u32 2818572288, .int .u32 2558001152] 48 (0, 0))) : IntsAt w (some ⟨g, 0, none⟩) .u32 wkT := by
  intro i hi
  refine ⟨⟨g, 0, none⟩, rfl, ?_⟩
  rw [add0]
  have : i = 0 ∨ i = 1 ∨ i = 2 ∨ i = 3 := by simp [wkT] at hi; omega
  rcases this with rfl | rfl | rfl | rfl <;> exact box_at h rfl
theorem wk_chk : checkI wkT 0 0 = (0, 0) := by kernel_rfl
theorem wk_blk : outB wkT 0 0 = [(0, 2), (2, 3), (3, 4)] := by kernel_rfl
theorem wk_sit : outL wkT 0 0 (sitF wkT) = [2] := by kernel_rfl
theorem oldAt {w : World} {o o' : Obj} {n : Nat} (h : w.heap[n]? = some o) : (w.alloc o').heap[n]? = some o := by
  rw [Below.heap_alloc w o' n (Array.getElem?_eq_some_iff.1 h).1]; exact h
set_option maxRecDepth 100000 in
set_option maxHeartbeats 2000000 in
theorem works_any (w : World) : Calls Try.prog 7 #[] w fun e w' => e = .returned (.bool true) ∧ Below w.heap.size w w' := by
  obtain ⟨W, HW⟩ : ∃ W, Hid ((w.alloc (.cells #[.int .u32 142606341, .int .u32 2281701379, .int .u32 2818572288, .int .u32 2558001152] 48)).alloc (.cells #[.slice (some ⟨w.heap.size, 0, none⟩) 4 4, .int .i64 0, .slice none 0 0] 25) = W) := ⟨_, rfl⟩
  have HB : Hid (Below w.heap.size w W) := by unfold Hid; rw [← HW.out]; exact lb_alloc (lb_alloc (Below.refl _ _) _) _
  have h1 : W.heap[w.heap.size]? = some (.cells #[.int .u32 142606341, .int .u32 2281701379, .int .u32 2818572288, .int .u32 2558001152] 48 (0, 0)) := by rw [← HW.out]; exact oldAt (newAtK rfl)
  have h3 : W.heap[w.heap.size + 1]? = some (.cells #[.slice (some ⟨w.heap.size, 0, none⟩) 4 4, .int .i64 0, .slice none 0 0] 25 (0, 0)) := by rw [← HW.out]; exact newAtK (by simp)
  have x0 : W.cell? ⟨w.heap.size + 1, 0, none⟩ = some (.slice (some ⟨w.heap.size, 0, none⟩) 4 4) := box_at h3 rfl
  have x1 : W.cell? ⟨w.heap.size + 1, 1, none⟩ = some (.int .i64 0) := box_at h3 rfl
  have x2 : W.cell? ⟨w.heap.size + 1, 2, none⟩ = some (.slice none 0 0) := box_at h3 rfl
  have C1 := blocks_any (some ⟨w.heap.size, 0, none⟩) none 4 0 0 0 wkT W (wk_ints h1) wk_in (by decide) (by decide)
  rw [wk_chk, wk_blk] at C1
  have C1 : Calls Try.prog 13 #[.agg #[.slice (some ⟨w.heap.size, 0, none⟩) 4 4, .int .i64 0, .slice none 0 0]] W (BlkP 0 [(0, 2), (2, 3), (3, 4)] W) := C1
  have C2 : ∀ Z, Below W.heap.size W Z → Calls Try.prog 12 #[.agg #[.slice (some ⟨w.heap.size, 0, none⟩) 4 4, .int .i64 0, .slice none 0 0]] Z (GatP 0 [2] Z) := fun Z hZ => by
    have := sites_any (some ⟨w.heap.size, 0, none⟩) none 4 0 0 0 wkT Z ((wk_ints h1).keep hZ) wk_in (by decide) (by decide)
    rw [wk_chk, wk_sit] at this
    exact this
  clear h1 h3
  go_enter Try.func7, Try.ntmps7
  go_upto_region 2 with fail
  rw [HW.out]
  clear HW
  go_wp2_with fail
  refine C1.mono ?_
  rintro e w1 ⟨A, c, rfl, hown, hb1⟩
  have y0 := lkeep hb1 x0
  have y1 := lkeep hb1 x1
  have y2 := lkeep hb1 x2
  have HO : Hid (RelsAt w1 A [(0, 2), (2, 3), (3, 4)]) := drow_rels hown
  have HB1 : Hid (Below W.heap.size W w1) := hb1
  clear x0 x1 x2 hown hb1 C1
  go_wp2_with fail
  refine (C2 w1 HB1.out).mono ?_
  rintro e w2 ⟨A2, c2, rfl, hown, hb2⟩
  have HB2 : Hid (Below w.heap.size w w2) := lb_trans HB.out (lb_trans HB1.out hb2)
  obtain ⟨a, ea, r0, r1⟩ := HO.out 1 (by decide)
  obtain ⟨b, eb, s0⟩ := (row_ints hown) 0 (by decide)
  have r0 : w2.cell? ⟨a.block, a.off + 2, none⟩ = some (.int .i64 2) := lkeep hb2 r0
  have r1 : w2.cell? ⟨a.block, a.off + 2 + 1, none⟩ = some (.int .i64 3) := lkeep hb2 r1
  have s0 : w2.cell? b = some (.int .i64 2) := s0
  subst ea eb
  clear hown hb2 HO HB HB1 C2 y0 y1 y2
  go_wp2
  go_ret
  exact ⟨rfl, HB2.out⟩

def muchB (text mem : List Int) : Bool := decide (600 < text.length) || decide (16384 < mem.length)
theorem much_any (A1 A2 : Option Addr) (c1 c2 : Nat) (ent : Int) (text mem : List Int) (w : World) :
    Calls Try.prog 6 #[.agg #[.slice A1 text.length c1, .int .i64 ent, .slice A2 mem.length c2]] w fun e w' => e = .returned (.bool (muchB text mem)) ∧ Below w.heap.size w w' := by
  unfold muchB
  by_cases h1 : 600 < text.length
  · rw [decide_eq_true h1]
    have h1' : (600 : Int) < (text.length : Int) := by omega
    go_enter Try.func6, Try.ntmps6
    go_wp2
    go_ret
    exact ⟨rfl, lb_alloc (Below.refl _ _) _⟩
  · rw [decide_eq_false h1]
    have h1' : decide ((600 : Int) < (text.length : Int)) = false := decide_eq_false (by omega)
    have h1'' : ¬ (600 : Int) < (text.length : Int) := by omega
    by_cases h2 : 16384 < mem.length
    · rw [decide_eq_true h2]
      have h2' : (16384 : Int) < (mem.length : Int) := by omega
      go_enter Try.func6, Try.ntmps6
      go_wp2
      go_ret
      exact ⟨by simp, lb_alloc (Below.refl _ _) _⟩
    · rw [decide_eq_false h2]
      have h2' : ¬ (16384 : Int) < (mem.length : Int) := by omega
      go_enter Try.func6, Try.ntmps6
      go_wp2
      go_ret
      exact ⟨by simp, lb_alloc (Below.refl _ _) _⟩

end Go.Proofs.Ytlblplfmemoblaa

namespace Go.Proofs.Ytlblplfmemoblaa
open Go.RowKit

set_option maxRecDepth 100000 in
set_option maxHeartbeats 4000000 in
theorem lawOf (A : Option Addr) (ca : Nat) (zs : List Rel) (p : Int) (w : World) (hA : RelsAt w A zs) (h0 : A = none → ca = 0) (hl : zs.length ≤ maxLen) :
    Calls Try.prog 4 #[.slice A zs.length ca, .int .i64 p] w fun e w' => e = .returned (.bool true) ∧ Below w.heap.size w w' := by
  unfold maxLen at hl
  by_cases hm : 4096 < zs.length
  · have hm' : (4096 : Int) < (zs.length : Int) := by omega
    go_enter Try.func4, Try.ntmps4
    go_wp2_with (go_at_call 7; refine (works_any _).mono ?_; rintro e w1 ⟨rfl, hb1⟩)
    go_ret
    exact ⟨rfl, hb1⟩
  · have hm' : ¬ (4096 : Int) < (zs.length : Int) := by omega
    have C1 := copyblocks_any A ca zs w hA h0 (by omega)
    have HA : Hid (RelsAt w A zs) := hA
    clear hA
    go_enter Try.func4, Try.ntmps4
    go_wp2_with fail
    refine C1.mono ?_
    rintro e w1 ⟨O, k, rfl, hown, hg, hn⟩
    have HB1 : Hid (Below w.heap.size w w1) := ⟨hg.os, hg.tape, hg.output, hg.size, fun i hi => hg.block i hi (by simp)⟩
    have HO : Hid (RelsAt w1 O zs) := drow_rels hown
    have HA1 : Hid (RelsAt w1 A zs) := HA.out.keep HB1.out
    clear hown hg hn C1
    go_wp2_with fail
    refine (of_any O k zs p w1 HO.out (by omega)).mono ?_
    rintro e w2 ⟨rfl, hb2⟩
    have HO2 : Hid (RelsAt w2 O zs) := HO.out.keep hb2
    have HA2 : Hid (RelsAt w2 A zs) := HA1.out.keep hb2
    have HB2 : Hid (Below w.heap.size w w2) := lb_trans HB1.out hb2
    clear HO HA1 HB1 hb2
    go_wp2_with fail
    refine (refof_any A ca zs p w2 HA2.out (by omega)).mono ?_
    rintro e w3 ⟨rfl, hb3⟩
    have C4 := eqblocks_any O A k ca zs zs w3 (HO2.out.keep hb3) (HA2.out.keep hb3) (by omega)
    simp only [decide_true] at C4
    have HB3 : Hid (Below w.heap.size w w3) := lb_trans HB2.out hb3
    clear HO2 HA2 HB2 hb3
    go_wp2_with fail
    refine C4.mono ?_
    rintro e w4 ⟨rfl, hb4⟩
    go_wp2_with (go_at_call 7; refine (works_any _).mono ?_; rintro e w5 ⟨rfl, hb5⟩)
    go_ret
    exact ⟨rfl, lb_trans HB3.out (lb_trans hb4 hb5)⟩

end Go.Proofs.Ytlblplfmemoblaa
