/-
  EqInts: two lists of ints. EqBlocks of the statements, by what it returns; the lists have at most 2^20 items. works and much of the statements: the one returns true, the other whether the lists are long; no condition.
-/
import Derived.Test.YtlblplfmemoblaaProg
import Derived.WalkKit
import Derived.WalkSpells
import Derived.WalkLawsBesides
import Derived.RowKit3
import Derived.Below
import Derived.Deep.QuietTactic
import Derived.BigQuiet
import Derived.WalkSmall
import Derived.Laws.Rows
import Derived.Test.YtlblplfmemoblaaPp20
import Derived.Test.YtlblplfmemoblaaPp01
import Derived.Test.YtlblplfmemoblaaPp15
import Derived.Test.YtlblplfmemoblaaPp17
namespace Go.Proofs.Ytlblplfmemoblaa
open Go.RowKit

set_option maxRecDepth 100000 in
set_option maxHeartbeats 1000000 in
theorem eqints_any (A B : Option Addr) (ca cb : Nat) (zs ys : List Int) (w : World) (hA : IntsAt w A .i64 zs) (hB : IntsAt w B .i64 ys) (hz : zs.length ≤ 1048576) :
    Calls Try.prog 15 #[.slice A zs.length ca, .slice B ys.length cb] w fun e w' => e = .returned (.bool (decide (zs = ys))) ∧ Below w.heap.size w w' := by
  by_cases hl : zs.length = ys.length
  · have hl' : ((zs.length : Int) == (ys.length : Int)) = true := by rw [hl]; simp
    have HL : Hid (zs.length = ys.length) := hl
    clear hl
    go_enter Try.func15, Try.ntmps15
    go_wp2
    go_loopw [5] (fun i wr => ∃ (k m : Nat), i = .int .i64 k ∧ k ≤ zs.length ∧ wr = w.drewN m ∧ Hid (zs.take k = ys.take k)) (fun i _ => zs.length - (intOf i).toNat)
    case atStart => exact ⟨0, 0, rfl, by omega, rfl, by simp [Hid]⟩
    case round =>
      obtain ⟨k, m, rfl, hk, rfl, HT⟩ := hrel
      by_cases hlt : k < zs.length
      · obtain ⟨a, rfl, c1⟩ := hA k hlt
        obtain ⟨b, rfl, c2⟩ := hB k (by have := HL.out; omega)
        have hlt2 : (k : Int) < (ys.length : Int) := by have := HL.out; omega
        by_cases he : nth zs k = nth ys k
        · have HE : Hid (nth zs k = nth ys k) := he
          have he' : (nth zs k == nth ys k) = true := by simpa using he
          clear he
          go_wp2_with fail
          go_quiet (fail)
          go_wp2
          go_roundw
          case rel => exact ⟨k + 1, _, by go_num, by omega, rfl, take_same HT.out hlt (by omega) HE.out⟩
          case measure => simp [intOf]; omega
        · have HE : Hid (¬ nth zs k = nth ys k) := he
          have he' : (nth zs k == nth ys k) = false := by simpa using he
          clear he
          go_wp2_with fail
          go_quiet (fail)
          go_wp2
          go_ret
          exact ⟨retB (decide_eq_false (nth_ne HE.out)).symm, below_drewN (below_drewN (Below.refl _ _) _) _⟩
      · go_wp2
        go_ret
        exact ⟨retB (decide_eq_true (take_all HT.out (by omega) HL.out)).symm, below_drewN (Below.refl _ _) _⟩
  · have hl' : ((zs.length : Int) == (ys.length : Int)) = false := by simp; omega
    have HL : Hid (¬ zs.length = ys.length) := hl
    clear hl
    go_enter Try.func15, Try.ntmps15
    go_wp2
    go_ret
    exact ⟨retB (decide_eq_false (fun h => HL.out (by rw [h]))).symm, Below.refl _ _⟩



end Go.Proofs.Ytlblplfmemoblaa

namespace Go.Proofs.Ytlblplfmemoblaa
open Go.RowKit

set_option maxRecDepth 100000 in
set_option maxHeartbeats 1000000 in
theorem eqblocks_any (A B : Option Addr) (ca cb : Nat) (zs ys : List Rel) (w : World) (hA : RelsAt w A zs) (hB : RelsAt w B ys) (hz : zs.length ≤ 1048576) :
    Calls Try.prog 17 #[.slice A zs.length ca, .slice B ys.length cb] w fun e w' => e = .returned (.bool (decide (zs = ys))) ∧ Below w.heap.size w w' := by
  by_cases hl : zs.length = ys.length
  · have hl' : ((zs.length : Int) == (ys.length : Int)) = true := by rw [hl]; simp
    have HL : Hid (zs.length = ys.length) := hl
    clear hl
    go_enter Try.func17, Try.ntmps17
    go_wp2
    go_loopw [5] (fun i wr => ∃ (k m : Nat), i = .int .i64 k ∧ k ≤ zs.length ∧ wr = w.drewN m ∧ Hid (zs.take k = ys.take k)) (fun i _ => zs.length - (intOf i).toNat)
    case atStart => exact ⟨0, 0, rfl, by omega, rfl, by simp [Hid]⟩
    case round =>
      obtain ⟨k, m, rfl, hk, rfl, HT⟩ := hrel
      by_cases hlt : k < zs.length
      · obtain ⟨a, rfl, c0, c1⟩ := hA k hlt
        obtain ⟨b, rfl, d0, d1⟩ := hB k (by have := HL.out; omega)
        have hlt2 : (k : Int) < (ys.length : Int) := by have := HL.out; omega
        have p0 : w.cell? (a.add (k * 2)) = some (.int .i64 (rAt zs k)) := c0
        have q0 : w.cell? (b.add (k * 2)) = some (.int .i64 (rAt ys k)) := d0
        have p1 : w.cell? (⟨(a.add (k * 2)).block, (a.add (k * 2)).off + 1, none⟩) = some (.int .i64 (rSym zs k)) := c1
        have q1 : w.cell? (⟨(b.add (k * 2)).block, (b.add (k * 2)).off + 1, none⟩) = some (.int .i64 (rSym ys k)) := d1
        clear c0 d0 c1 d1
        by_cases h0 : ¬ rAt zs k = rAt ys k
        · have HE : Hid (¬ rAt zs k = rAt ys k) := h0
          have e0 : (rAt zs k == rAt ys k) = false := by simpa using h0
          clear h0
          go_wp2_with fail
          go_quiet (fail)
          go_wp2
          go_ret
          exact ⟨retB (decide_eq_false (fun h => HE.out (by rw [h]))).symm, below_drewN (below_drewN (Below.refl _ _) _) _⟩
        have H0 : Hid (rAt zs k = rAt ys k) := Classical.not_not.1 h0
        have e0 : (rAt zs k == rAt ys k) = true := by simpa using H0.out
        clear h0
        by_cases h1 : ¬ rSym zs k = rSym ys k
        · have HE : Hid (¬ rSym zs k = rSym ys k) := h1
          have e1 : (rSym zs k == rSym ys k) = false := by simpa using h1
          clear h1
          go_wp2_with fail
          go_quiet (fail)
          go_wp2
          go_ret
          exact ⟨retB (decide_eq_false (fun h => HE.out (by rw [h]))).symm, below_drewN (below_drewN (Below.refl _ _) _) _⟩
        have H1 : Hid (rSym zs k = rSym ys k) := Classical.not_not.1 h1
        have e1 : (rSym zs k == rSym ys k) = true := by simpa using H1.out
        clear h1
        go_wp2_with fail
        go_quiet (fail)
        go_wp2
        go_roundw
        case rel => exact ⟨k + 1, _, by go_num, by omega, rfl, take_same HT.out hlt (by omega) (rel_same H0.out H1.out)⟩
        case measure => simp [intOf]; omega
      · go_wp2
        go_ret
        exact ⟨retB (decide_eq_true (take_all HT.out (by omega) HL.out)).symm, below_drewN (Below.refl _ _) _⟩
  · have hl' : ((zs.length : Int) == (ys.length : Int)) = false := by simp; omega
    have HL : Hid (¬ zs.length = ys.length) := hl
    clear hl
    go_enter Try.func17, Try.ntmps17
    go_wp2
    go_ret
    exact ⟨retB (decide_eq_false (fun h => HL.out (by rw [h]))).symm, Below.refl _ _⟩

end Go.Proofs.Ytlblplfmemoblaa

namespace Go.Proofs.Ytlblplfmemoblaa
open Go.RowKit

def wkT : List Int := [142606341, 2281701379, 2818572288, 2558001152]
theorem wk_in : ∀ i, i < wkT.length → 0 ≤ nth wkT i ∧ nth wkT i < 4294967296 := by
  intro i hi
  have : i = 0 ∨ i = 1 ∨ i = 2 ∨ i = 3 := by simp [wkT] at hi; omega
  rcases this with rfl | rfl | rfl | rfl <;> exact ⟨by decide, by decide⟩
theorem box_at {w : World} {g : Nat} {cs : Array Value} {t : TypeId} (h : w.heap[g]? = some (.cells cs t (0, 0))) {i : Nat} {v : Value} (hv : cs[i]? = some v) : w.cell? ⟨g, i, none⟩ = some v := by
  simp [World.cell?, h, hv]
theorem wk_ints {w : World} {g : Nat} (h : w.heap[g]? = some (.cells #[.int .u32 142606341, .int .u32 2281701379, .int .u32 2818572288, .int .u32 2558001152] 48 (0, 0))) : IntsAt w (some ⟨g, 0, none⟩) .u32 wkT := by
  intro i hi
  refine ⟨⟨g, 0, none⟩, rfl, ?_⟩
  rw [add0]
  have : i = 0 ∨ i = 1 ∨ i = 2 ∨ i = 3 := by simp [wkT] at hi; omega
  rcases this with rfl | rfl | rfl | rfl <;> exact box_at h rfl
theorem wk_chk : checkI wkT 0 0 = (0, 0) := by kernel_rfl
theorem wk_blk : outB wkT 0 0 = [(0, 2), (2, 3), (3, 4)] := by kernel_rfl
theorem wk_sit : outL wkT 0 0 (sitF wkT) = [2] := by kernel_rfl
theorem oldAt {w : World} {o o' : Obj} {n : Nat} (h : w.heap[n]? = some o) : (w.alloc o').heap[n]? = some o := by
  rw [Below.heap_alloc w o' n (Array.getElem?_eq_some_iff.1 h).1]; exact h
set_option maxRecDepth 100000 in
set_option maxHeartbeats 2000000 in
theorem works_any (w : World) : Calls Try.prog 7 #[] w fun e w' => e = .returned (.bool true) ∧ Below w.heap.size w w' := by
  obtain ⟨W, HW⟩ : ∃ W, Hid ((w.alloc (.cells #[.int .u32 142606341, .int .u32 2281701379, .int .u32 2818572288, .int .u32 2558001152] 48)).alloc (.cells #[.slice (some ⟨w.heap.size, 0, none⟩) 4 4, .int .i64 0, .slice none 0 0] 25) = W) := ⟨_, rfl⟩
  have HB : Hid (Below w.heap.size w W) := by unfold Hid; rw [← HW.out]; exact lb_alloc (lb_alloc (Below.refl _ _) _) _
  have h1 : W.heap[w.heap.size]? = some (.cells #[.int .u32 142606341, .int .u32 2281701379, .int .u32 2818572288, .int .u32 2558001152] 48 (0, 0)) := by rw [← HW.out]; exact oldAt (newAtK rfl)
  have h3 : W.heap[w.heap.size + 1]? = some (.cells #[.slice (some ⟨w.heap.size, 0, none⟩) 4 4, .int .i64 0, .slice none 0 0] 25 (0, 0)) := by rw [← HW.out]; exact newAtK (by simp)
  have x0 : W.cell? ⟨w.heap.size + 1, 0, none⟩ = some (.slice (some ⟨w.heap.size, 0, none⟩) 4 4) := box_at h3 rfl
  have x1 : W.cell? ⟨w.heap.size + 1, 1, none⟩ = some (.int .i64 0) := box_at h3 rfl
  have x2 : W.cell? ⟨w.heap.size + 1, 2, none⟩ = some (.slice none 0 0) := box_at h3 rfl
  have C1 := blocks_any (some ⟨w.heap.size, 0, none⟩) none 4 0 0 0 wkT W (wk_ints h1) wk_in (by decide) (by decide)
  rw [wk_chk, wk_blk] at C1
  have C1 : Calls Try.prog 13 #[.agg #[.slice (some ⟨w.heap.size, 0, none⟩) 4 4, .int .i64 0, .slice none 0 0]] W (BlkP 0 [(0, 2), (2, 3), (3, 4)] W) := C1
  have C2 : ∀ Z, Below W.heap.size W Z → Calls Try.prog 12 #[.agg #[.slice (some ⟨w.heap.size, 0, none⟩) 4 4, .int .i64 0, .slice none 0 0]] Z (GatP 0 [2] Z) := fun Z hZ => by
    have := sites_any (some ⟨w.heap.size, 0, none⟩) none 4 0 0 0 wkT Z ((wk_ints h1).keep hZ) wk_in (by decide) (by decide)
    rw [wk_chk, wk_sit] at this
    exact this
  clear h1 h3
  go_enter Try.func7, Try.ntmps7
  go_upto_region 2 with fail
  rw [HW.out]
  clear HW
  go_wp2_with fail
  refine C1.mono ?_
  rintro e w1 ⟨A, c, rfl, hown, hb1⟩
  have y0 := lkeep hb1 x0
  have y1 := lkeep hb1 x1
  have y2 := lkeep hb1 x2
  have HO : Hid (RelsAt w1 A [(0, 2), (2, 3), (3, 4)]) := drow_rels hown
  have HB1 : Hid (Below W.heap.size W w1) := hb1
  clear x0 x1 x2 hown hb1 C1
  go_wp2_with fail
  refine (C2 w1 HB1.out).mono ?_
  rintro e w2 ⟨A2, c2, rfl, hown, hb2⟩
  have HB2 : Hid (Below w.heap.size w w2) := lb_trans HB.out (lb_trans HB1.out hb2)
  obtain ⟨a, ea, r0, r1⟩ := HO.out 1 (by decide)
  obtain ⟨b, eb, s0⟩ := (row_ints hown) 0 (by decide)
  have r0 : w2.cell? ⟨a.block, a.off + 2, none⟩ = some (.int .i64 2) := lkeep hb2 r0
  have r1 : w2.cell? ⟨a.block, a.off + 2 + 1, none⟩ = some (.int .i64 3) := lkeep hb2 r1
  have s0 : w2.cell? b = some (.int .i64 2) := s0
  subst ea eb
  clear hown hb2 HO HB HB1 C2 y0 y1 y2
  go_wp2
  go_ret
  exact ⟨rfl, HB2.out⟩

def muchB (text mem : List Int) : Bool := decide (600 < text.length) || decide (16384 < mem.length)
theorem much_any (A1 A2 : Option Addr) (c1 c2 : Nat) (ent : Int) (text mem : List Int) (w : World) :
    Calls Try.prog 6 #[.agg #[.slice A1 text.length c1, .int .i64 ent, .slice A2 mem.length c2]] w fun e w' => e = .returned (.bool (muchB text mem)) ∧ Below w.heap.size w w' := by
  unfold muchB
  by_cases h1 : 600 < text.length
  · rw [decide_eq_true h1]
    have h1' : (600 : Int) < (text.length : Int) := by omega
    go_enter Try.func6, Try.ntmps6
    go_wp2
    go_ret
    exact ⟨rfl, lb_alloc (Below.refl _ _) _⟩
  · rw [decide_eq_false h1]
    have h1' : decide ((600 : Int) < (text.length : Int)) = false := decide_eq_false (by omega)
    have h1'' : ¬ (600 : Int) < (text.length : Int) := by omega
    by_cases h2 : 16384 < mem.length
    · rw [decide_eq_true h2]
      have h2' : (16384 : Int) < (mem.length : Int) := by omega
      go_enter Try.func6, Try.ntmps6
      go_wp2
      go_ret
      exact ⟨by simp, lb_alloc (Below.refl _ _) _⟩
    · rw [decide_eq_false h2]
      have h2' : ¬ (16384 : Int) < (mem.length : Int) := by omega
      go_enter Try.func6, Try.ntmps6
      go_wp2
      go_ret
      exact ⟨by simp, lb_alloc (Below.refl _ _) _⟩

end Go.Proofs.Ytlblplfmemoblaa
