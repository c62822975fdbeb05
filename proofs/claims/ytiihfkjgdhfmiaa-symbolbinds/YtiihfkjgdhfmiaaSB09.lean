/-
  same: two answers that tell the same. two: a wants what b has. lives: both resolve; alone it does not.
-/
import Derived.Test.YtiihfkjgdhfmiaaProg
import Derived.WalkKit
import Derived.WalkSpells
import Derived.WalkLawsBesides
import Derived.RowKit3
import Derived.Below
import Derived.Deep.QuietTactic
import Derived.BigQuiet
import Derived.WalkSmall
import Derived.Laws.Rows
import Derived.Test.YtiihfkjgdhfmiaaSB06
namespace Go.Proofs.Ytiihfkjgdhfmiaa
open Go.RowKit

/-- A list of lists of places in memory. -/
def RowsAt (w : World) (A : Option Addr) (rows : List (List Rel)) : Prop := ∀ i, i < rows.length → ∃ (a : Addr) (R : Option Addr) (k : Nat), A = some a ∧ w.cell? (a.add i) = some (.slice R (rowN rows i).length k) ∧ RelsAt w R (rowN rows i)
theorem RowsAt.keep {w w1 : World} {A : Option Addr} {rows : List (List Rel)} (h : RowsAt w A rows) (hb : Below w.heap.size w w1) : RowsAt w1 A rows := fun i hi => by
  obtain ⟨a, R, k, e, c, r⟩ := h i hi
  exact ⟨a, R, k, e, lkeep hb c, r.keep hb⟩
theorem addzS (g i : Nat) : (⟨g, 0, none⟩ : Addr).add i = ⟨g, i, none⟩ := by
  unfold Addr.add
  by_cases h : i = 0 <;> simp [h]
/-- The blocks of a list of lists. -/
theorem RowsD.blk {w : World} {base c : Nat} {TS TD : TypeId} {A : Option Addr} {n : Nat} {vs : List Value} {rows : List (List Rel)} (h : RowsD w base TS TD (.slice A n c) vs rows) (i : Nat) (hi : i < rows.length) : ∃ g, A = some ⟨g, 0, none⟩ ∧ base ≤ g ∧ g < w.heap.size ∧ w.cell? ⟨g, i, none⟩ = some (vn vs i) ∧ ∃ cur, w.heap[g]? = some (.cells cur TS (0, 0)) := by
  have hl := h.len
  have hv : vs[i]? = some (vn vs i) := by
    unfold vn
    rw [List.getElem?_eq_getElem (by omega), List.getD_eq_getElem?_getD, List.getElem?_eq_getElem (by omega)]
    rfl
  rcases h.bag.2 with ⟨_, h0⟩ | ⟨j, cap, cur, e, hb, hg, hc, _⟩
  · omega
  · cases e
    refine ⟨j, rfl, hb, (Array.getElem?_eq_some_iff.1 hg).1, ?_, cur, hg⟩
    have := h.bag.cells rfl _ _ hv
    rwa [addzS] at this
theorem drow_blk {w : World} {base : Nat} {e : TypeId} {v : Value} {l : List Rel} (h : w.ownsRow base e 2 v l.length (dNews l)) (hp : 0 < l.length) : ∃ g c cur, v = .slice (some ⟨g, 0, none⟩) l.length c ∧ base ≤ g ∧ w.heap[g]? = some (.cells cur e (0, 0)) ∧ l.length * 2 ≤ cur.size ∧ ∀ j, j < l.length → w.cell? ⟨g, j * 2, none⟩ = some (.int .i64 (rAt l j)) ∧ w.cell? ⟨g, j * 2 + 1, none⟩ = some (.int .i64 (rSym l j)) := by
  have h' := h
  rcases h.2 with ⟨_, h0⟩ | ⟨g, cap, cur, rfl, hb, hg, hc, _, hs, _⟩
  · omega
  · refine ⟨g, cap, cur, rfl, hb, hg, by omega, fun j hj => ?_⟩
    obtain ⟨x, y⟩ := dNews_get hj
    have a := h'.cells rfl _ _ x
    have b := h'.cells rfl _ _ y
    rw [addzS] at a b
    exact ⟨a, b⟩
/-- Few and short enough. -/
def FewR (rows : List (List Rel)) : Prop := rows.length ≤ 64 ∧ ∀ i, i < rows.length → (rowN rows i).length ≤ 1048576
set_option maxHeartbeats 8000000 in
set_option maxRecDepth 100000 in
theorem same_any (A B : Option Addr) (ca cb : Nat) (rows : List (List Rel)) (w : World) (hA : RowsAt w A rows) (hB : RowsAt w B rows) (hF : FewR rows) :
    Calls Try.prog 12 #[.slice A rows.length ca, .slice B rows.length cb] w fun e w' => e = .returned (.bool true) ∧ Below w.heap.size w w' := by
  have HA : Hid (RowsAt w A rows) := hA
  have HC : Hid (RowsAt w B rows) := hB
  have hf := hF.1
  have HF : Hid (∀ i, i < rows.length → (rowN rows i).length ≤ 1048576) := hF.2
  clear hA hB hF
  go_enter Try.func12, Try.ntmps12
  go_wp2
  go_loopw [5] (fun i wr => ∃ k : Nat, i = .int .i64 k ∧ k ≤ rows.length ∧ Hid (Below w.heap.size w wr)) (fun i _ => rows.length - (intOf i).toNat)
  case atStart => exact ⟨0, rfl, Nat.zero_le _, Below.refl _ _⟩
  case round =>
    obtain ⟨k, rfl, hk, HB⟩ := hrel
    by_cases hkl : k < rows.length
    · have hkl' : (k : Int) < (rows.length : Int) := by omega
      obtain ⟨a, R, ra, ea, xa, ya⟩ := HA.out k hkl
      obtain ⟨b, S, rb, eb, xb, yb⟩ := HC.out k hkl
      subst ea
      subst eb
      have ua := lkeep HB.out xa
      have ub := lkeep HB.out xb
      have hfl := HF.out k hkl
      have HXa : Hid _ := xa
      have HXb : Hid _ := xb
      have HYa : Hid _ := ya
      have HYb : Hid _ := yb
      clear xa xb ya yb
      go_wp2
      go_quiet (fail)
      have HB0 : Hid (Below w.heap.size w (wr.drewN nq)) := below_drewN HB.out _
      clear ua ub
      generalize wr.drewN nq = wz at HB0 ⊢
      go_wp2
      go_loopw [6] (fun i wr => ∃ j : Nat, i = .int .i64 j ∧ j ≤ (rowN rows k).length ∧ Hid (Below w.heap.size w wr)) (fun i _ => (rowN rows k).length - (intOf i).toNat)
      case atStart => exact ⟨0, rfl, Nat.zero_le _, HB0⟩
      case round =>
        clear HB0 HB
        obtain ⟨j, rfl, hj, HB1⟩ := hrel
        have ua := lkeep HB1.out HXa.out
        have ub := lkeep HB1.out HXb.out
        by_cases hjl : j < (rowN rows k).length
        · have hjl' : (j : Int) < ((rowN rows k).length : Int) := by omega
          obtain ⟨a3, e3, s0, s1⟩ := HYa.out j hjl
          obtain ⟨b3, f3, q0, q1⟩ := HYb.out j hjl
          have m0 := lkeep HB1.out s0
          have m1 : wr.cell? ⟨(a3.add (j * 2)).block, (a3.add (j * 2)).off + 1, none⟩ = some (.int .i64 (rSym (rowN rows k) j)) := lkeep HB1.out s1
          have n0 := lkeep HB1.out q0
          have n1 : wr.cell? ⟨(b3.add (j * 2)).block, (b3.add (j * 2)).off + 1, none⟩ = some (.int .i64 (rSym (rowN rows k) j)) := lkeep HB1.out q1
          rw [e3] at ua
          rw [f3] at ub
          clear s0 s1 q0 q1 e3 f3
          go_wp2
          go_big_quiet (fail)
          have HB2 : Hid (Below w.heap.size w (wr.drewN nq)) := below_drewN HB1.out _
          clear ua ub m0 m1 n0 n1
          generalize wr.drewN nq = wz at HB2 ⊢
          go_wp2
          go_roundw
          case rel => exact ⟨j + 1, by go_num, by omega, HB2⟩
          case measure => simp [intOf]; omega
        · have hjl' : ¬ (j : Int) < ((rowN rows k).length : Int) := by omega
          go_wp2
          go_roundw
          case rel => exact ⟨k + 1, by go_num, by omega, HB1⟩
          case measure => simp [intOf]; omega
    · have hkl' : ¬ (k : Int) < (rows.length : Int) := by omega
      go_wp2
      go_ret
      exact ⟨rfl, HB.out⟩


end Go.Proofs.Ytiihfkjgdhfmiaa

namespace Go.Proofs.Ytiihfkjgdhfmiaa
open Go.RowKit

def twoA : Ob := ⟨⟨#[97]⟩, [], 0, [], [(⟨#[102]⟩, 3, 0)], []⟩
def twoB : Ob := ⟨⟨#[98]⟩, [0, 0], 0, [], [(⟨#[102]⟩, 1, 2)], []⟩
def twoL : List Ob := [twoA, twoB]
def oneL : List Ob := [twoA]
theorem al_sz (w : World) (o : Obj) : (w.alloc o).heap.size = w.heap.size + 1 := by simp
def twoQ (g : Nat) (i : Nat) : Pl := if i = 0 then ⟨none, none, some ⟨g, 0, none⟩, none, 0, 0, 1, 0⟩ else ⟨some ⟨g + 1, 0, none⟩, none, some ⟨g + 1 + 1, 0, none⟩, none, 2, 0, 1, 0⟩
theorem sName_one (nm : ByteArray) (k a : Int) (h : nm.size ≤ 140737488355328) (i : Nat) : (sName [(nm, k, a)] i).size ≤ 140737488355328 := by
  cases i with
  | zero => exact h
  | succ i => exact (by decide : (⟨#[]⟩ : ByteArray).size ≤ 140737488355328)
theorem twoA_in {w : World} {g : Nat} (h : w.heap[g]? = some (.cells #[.string ⟨#[102]⟩, .int .i8 3, .int .i64 0] 52 (0, 0))) : ObIn w (twoQ g 0) twoA :=
  ⟨fun i hi => by simp [twoA] at hi, fun i hi => by simp [twoA] at hi, fun i hi => by
    obtain rfl : i = 0 := by simp [twoA] at hi; omega
    exact ⟨_, rfl, Lib.cell_of_heap h 0, Lib.cell_of_heap h 1, Lib.cell_of_heap h 2⟩, fun i hi => by simp [twoA] at hi, fun i hi => by simp [twoA] at hi, fun i hi => by simp [twoA] at hi, ⟨by decide, by decide⟩, by decide, by decide, by decide, by decide, sName_one _ _ _ (by decide), Nat.zero_le _⟩
theorem twoB_in {w : World} {g : Nat} (h1 : w.heap[g + 1]? = some (.cells #[.int .u32 0, .int .u32 0] 78 (0, 0))) (h : w.heap[g + 1 + 1]? = some (.cells #[.string ⟨#[102]⟩, .int .i8 1, .int .i64 2] 52 (0, 0))) : ObIn w (twoQ g 1) twoB :=
  ⟨fun i hi => by
    have : i = 0 ∨ i = 1 := by simp [twoB] at hi; omega
    rcases this with rfl | rfl
    · exact ⟨_, rfl, Lib.cell_of_heap h1 0⟩
    · exact ⟨_, rfl, Lib.cell_of_heap h1 1⟩, fun i hi => by simp [twoB] at hi, fun i hi => by
    obtain rfl : i = 0 := by simp [twoB] at hi; omega
    exact ⟨_, rfl, Lib.cell_of_heap h 0, Lib.cell_of_heap h 1, Lib.cell_of_heap h 2⟩, fun i hi => by simp [twoB] at hi, fun i hi => by
    have : i = 0 ∨ i = 1 := by simp [twoB] at hi; omega
    rcases this with rfl | rfl <;> decide, fun i hi => by simp [twoB] at hi, ⟨by decide, by decide⟩, by decide, by decide, by decide, by decide, sName_one _ _ _ (by decide), Nat.zero_le _⟩
theorem two_in (w : World) : ObsIn ((((w.alloc (.cells #[.string ⟨#[102]⟩, .int .i8 3, .int .i64 0] 52)).alloc (.cells #[.int .u32 0, .int .u32 0] 78)).alloc (.cells #[.string ⟨#[102]⟩, .int .i8 1, .int .i64 2] 52)).alloc (.cells #[.string ⟨#[97]⟩, .slice none 0 0, .int .i64 0, .slice none 0 0, .slice (some ⟨w.heap.size, 0, none⟩) 1 1, .slice none 0 0, .string ⟨#[98]⟩, .slice (some ⟨w.heap.size + 1, 0, none⟩) 2 2, .int .i64 0, .slice none 0 0, .slice (some ⟨w.heap.size + 1 + 1, 0, none⟩) 1 1, .slice none 0 0] 49)) (some ⟨w.heap.size + 1 + 1 + 1, 0, none⟩) (twoQ w.heap.size) twoL := by
  have k0 : ((((w.alloc (.cells #[.string ⟨#[102]⟩, .int .i8 3, .int .i64 0] 52)).alloc (.cells #[.int .u32 0, .int .u32 0] 78)).alloc (.cells #[.string ⟨#[102]⟩, .int .i8 1, .int .i64 2] 52)).alloc (.cells #[.string ⟨#[97]⟩, .slice none 0 0, .int .i64 0, .slice none 0 0, .slice (some ⟨w.heap.size, 0, none⟩) 1 1, .slice none 0 0, .string ⟨#[98]⟩, .slice (some ⟨w.heap.size + 1, 0, none⟩) 2 2, .int .i64 0, .slice none 0 0, .slice (some ⟨w.heap.size + 1 + 1, 0, none⟩) 1 1, .slice none 0 0] 49)).heap[w.heap.size]? = some (.cells #[.string ⟨#[102]⟩, .int .i8 3, .int .i64 0] 52 (0, 0)) := by
    rw [Below.heap_alloc _ _ _ (by simp only [al_sz]; omega), Below.heap_alloc _ _ _ (by simp only [al_sz]; omega), Below.heap_alloc _ _ _ (by simp only [al_sz]; omega)]
    exact heap_alloc_new _ _
  have k1 : ((((w.alloc (.cells #[.string ⟨#[102]⟩, .int .i8 3, .int .i64 0] 52)).alloc (.cells #[.int .u32 0, .int .u32 0] 78)).alloc (.cells #[.string ⟨#[102]⟩, .int .i8 1, .int .i64 2] 52)).alloc (.cells #[.string ⟨#[97]⟩, .slice none 0 0, .int .i64 0, .slice none 0 0, .slice (some ⟨w.heap.size, 0, none⟩) 1 1, .slice none 0 0, .string ⟨#[98]⟩, .slice (some ⟨w.heap.size + 1, 0, none⟩) 2 2, .int .i64 0, .slice none 0 0, .slice (some ⟨w.heap.size + 1 + 1, 0, none⟩) 1 1, .slice none 0 0] 49)).heap[w.heap.size + 1]? = some (.cells #[.int .u32 0, .int .u32 0] 78 (0, 0)) := by
    rw [Below.heap_alloc _ _ _ (by simp only [al_sz]; omega), Below.heap_alloc _ _ _ (by simp only [al_sz]; omega)]
    have := heap_alloc_new (w.alloc (.cells #[.string ⟨#[102]⟩, .int .i8 3, .int .i64 0] 52)) (.cells #[.int .u32 0, .int .u32 0] 78)
    rwa [al_sz] at this
  have k2 : ((((w.alloc (.cells #[.string ⟨#[102]⟩, .int .i8 3, .int .i64 0] 52)).alloc (.cells #[.int .u32 0, .int .u32 0] 78)).alloc (.cells #[.string ⟨#[102]⟩, .int .i8 1, .int .i64 2] 52)).alloc (.cells #[.string ⟨#[97]⟩, .slice none 0 0, .int .i64 0, .slice none 0 0, .slice (some ⟨w.heap.size, 0, none⟩) 1 1, .slice none 0 0, .string ⟨#[98]⟩, .slice (some ⟨w.heap.size + 1, 0, none⟩) 2 2, .int .i64 0, .slice none 0 0, .slice (some ⟨w.heap.size + 1 + 1, 0, none⟩) 1 1, .slice none 0 0] 49)).heap[w.heap.size + 1 + 1]? = some (.cells #[.string ⟨#[102]⟩, .int .i8 1, .int .i64 2] 52 (0, 0)) := by
    rw [Below.heap_alloc _ _ _ (by simp only [al_sz]; omega)]
    have := heap_alloc_new ((w.alloc (.cells #[.string ⟨#[102]⟩, .int .i8 3, .int .i64 0] 52)).alloc (.cells #[.int .u32 0, .int .u32 0] 78)) (.cells #[.string ⟨#[102]⟩, .int .i8 1, .int .i64 2] 52)
    rwa [al_sz, al_sz] at this
  have k3 : ((((w.alloc (.cells #[.string ⟨#[102]⟩, .int .i8 3, .int .i64 0] 52)).alloc (.cells #[.int .u32 0, .int .u32 0] 78)).alloc (.cells #[.string ⟨#[102]⟩, .int .i8 1, .int .i64 2] 52)).alloc (.cells #[.string ⟨#[97]⟩, .slice none 0 0, .int .i64 0, .slice none 0 0, .slice (some ⟨w.heap.size, 0, none⟩) 1 1, .slice none 0 0, .string ⟨#[98]⟩, .slice (some ⟨w.heap.size + 1, 0, none⟩) 2 2, .int .i64 0, .slice none 0 0, .slice (some ⟨w.heap.size + 1 + 1, 0, none⟩) 1 1, .slice none 0 0] 49)).heap[w.heap.size + 1 + 1 + 1]? = some (.cells #[.string ⟨#[97]⟩, .slice none 0 0, .int .i64 0, .slice none 0 0, .slice (some ⟨w.heap.size, 0, none⟩) 1 1, .slice none 0 0, .string ⟨#[98]⟩, .slice (some ⟨w.heap.size + 1, 0, none⟩) 2 2, .int .i64 0, .slice none 0 0, .slice (some ⟨w.heap.size + 1 + 1, 0, none⟩) 1 1, .slice none 0 0] 49 (0, 0)) := by
    have := heap_alloc_new (((w.alloc (.cells #[.string ⟨#[102]⟩, .int .i8 3, .int .i64 0] 52)).alloc (.cells #[.int .u32 0, .int .u32 0] 78)).alloc (.cells #[.string ⟨#[102]⟩, .int .i8 1, .int .i64 2] 52)) (.cells #[.string ⟨#[97]⟩, .slice none 0 0, .int .i64 0, .slice none 0 0, .slice (some ⟨w.heap.size, 0, none⟩) 1 1, .slice none 0 0, .string ⟨#[98]⟩, .slice (some ⟨w.heap.size + 1, 0, none⟩) 2 2, .int .i64 0, .slice none 0 0, .slice (some ⟨w.heap.size + 1 + 1, 0, none⟩) 1 1, .slice none 0 0] 49)
    rwa [al_sz, al_sz, al_sz] at this
  have c3 := fun j => Lib.cell_of_heap k3 j
  generalize ((((w.alloc (.cells #[.string ⟨#[102]⟩, .int .i8 3, .int .i64 0] 52)).alloc (.cells #[.int .u32 0, .int .u32 0] 78)).alloc (.cells #[.string ⟨#[102]⟩, .int .i8 1, .int .i64 2] 52)).alloc (.cells #[.string ⟨#[97]⟩, .slice none 0 0, .int .i64 0, .slice none 0 0, .slice (some ⟨w.heap.size, 0, none⟩) 1 1, .slice none 0 0, .string ⟨#[98]⟩, .slice (some ⟨w.heap.size + 1, 0, none⟩) 2 2, .int .i64 0, .slice none 0 0, .slice (some ⟨w.heap.size + 1 + 1, 0, none⟩) 1 1, .slice none 0 0] 49)) = X at k0 k1 k2 c3 ⊢
  clear k3
  refine ⟨fun i hi => ?_, fun i hi => ?_, by decide⟩
  · have : i = 0 ∨ i = 1 := by simp [twoL] at hi; omega
    rcases this with rfl | rfl
    · exact ⟨_, rfl, c3 0, c3 1, c3 2, c3 3, c3 4, c3 5⟩
    · exact ⟨_, rfl, c3 6, c3 7, c3 8, c3 9, c3 10, c3 11⟩
  · have : i = 0 ∨ i = 1 := by simp [twoL] at hi; omega
    rcases this with rfl | rfl
    · exact twoA_in k0
    · exact twoB_in k1 k2
/-- The first alone. -/
theorem one_in {w : World} {A : Option Addr} {q : Nat → Pl} (h : ObsIn w A q twoL) : ObsIn w A q oneL := by
  refine ⟨fun i hi => ?_, fun i hi => ?_, by decide⟩
  · obtain rfl : i = 0 := by simp [oneL] at hi; omega
    exact h.cells 0 (by decide)
  · obtain rfl : i = 0 := by simp [oneL] at hi; omega
    exact h.each 0 (by decide)
set_option maxHeartbeats 1000000 in
set_option maxRecDepth 100000 in
theorem two_any (w : World) : Calls Try.prog 18 #[] w fun e w' => ∃ (a : Addr) (q : Nat → Pl), e = .returned (.slice (some a) 2 2) ∧ ObsIn w' (some a) q twoL ∧ Below w.heap.size w w' := by
  have HI : Hid _ := two_in w
  have HB : Hid (Below w.heap.size w ((((w.alloc (.cells #[.string ⟨#[102]⟩, .int .i8 3, .int .i64 0] 52)).alloc (.cells #[.int .u32 0, .int .u32 0] 78)).alloc (.cells #[.string ⟨#[102]⟩, .int .i8 1, .int .i64 2] 52)).alloc (.cells #[.string ⟨#[97]⟩, .slice none 0 0, .int .i64 0, .slice none 0 0, .slice (some ⟨w.heap.size, 0, none⟩) 1 1, .slice none 0 0, .string ⟨#[98]⟩, .slice (some ⟨w.heap.size + 1, 0, none⟩) 2 2, .int .i64 0, .slice none 0 0, .slice (some ⟨w.heap.size + 1 + 1, 0, none⟩) 1 1, .slice none 0 0] 49))) := lb_alloc (lb_alloc (lb_alloc (lb_alloc (Below.refl _ _) _) _) _) _
  go_enter Try.func18, Try.ntmps18
  go_wp2
  go_ret
  exact ⟨_, _, rfl, HI.out, HB.out⟩
theorem two_res : resE twoL = none := by decide +kernel
theorem two_rows : resL twoL = [[(1, 2)], [(1, 2)]] := by decide +kernel
theorem one_res : resE oneL = some (40, 0, 0) := by decide +kernel
theorem two_find : findF ⟨#[102]⟩ twoL = some (1, 2) := by decide +kernel


end Go.Proofs.Ytiihfkjgdhfmiaa

namespace Go.Proofs.Ytiihfkjgdhfmiaa
open Go.RowKit

/-- What the program's Resolve and Find tell. -/
def ProgR : Prop := ∀ (A : Option Addr) (ca : Nat) (q : Nat → Pl) (l : List Ob) (w : World), ObsIn w A q l → Calls Try.prog 8 #[.slice A l.length ca] w (ResP 41 34 l w)
def ProgF : Prop := ∀ (A : Option Addr) (ca : Nat) (q : Nat → Pl) (l : List Ob) (nm : ByteArray) (w : World), ObsIn w A q l → nm.size ≤ 140737488355328 → Calls Try.prog 10 #[.slice A l.length ca, .string nm] w (DefP (findF nm l) w)
theorem res_two {A : Option Addr} {ca : Nat} {q : Nat → Pl} {w : World} (R : ProgR) (h : ObsIn w A q twoL) : Calls Try.prog 8 #[.slice A 2 ca] w fun e w' => ∃ g r c c1 : Nat, e = .returned (.tuple #[.slice (some ⟨g, 0, none⟩) 2 c, .int .i64 0, .int .i64 0, .int .i64 0]) ∧ w'.cell? ⟨g, 0, none⟩ = some (.slice (some ⟨r, 0, none⟩) 1 c1) ∧ w'.cell? ⟨r, 0, none⟩ = some (.int .i64 1) ∧ w'.cell? ⟨r, 1, none⟩ = some (.int .i64 2) ∧ Below w.heap.size w w' := by
  refine (R A ca q twoL w h).mono ?_
  rintro e w' ⟨B, c, vs, rfl, hr, hb⟩
  rw [two_rows] at hr ⊢
  rw [two_res]
  obtain ⟨g, rfl, _, _, h0, _⟩ := hr.blk 0 (by decide)
  obtain ⟨r, k, cur, e0, _, _, _, hc⟩ := drow_blk (hr.row 0 (by decide)) (by decide)
  rw [e0] at h0
  obtain ⟨x, y⟩ := hc 0 (by decide)
  exact ⟨g, r, c, k, rfl, h0, x, y, hb⟩
theorem res_one {A : Option Addr} {ca : Nat} {q : Nat → Pl} {w : World} (R : ProgR) (h : ObsIn w A q twoL) : Calls Try.prog 8 #[.slice A 1 ca] w fun e w' => ∃ (V : Value), e = .returned (.tuple #[V, .int .i64 40, .int .i64 0, .int .i64 0]) ∧ Below w.heap.size w w' := by
  refine (R A ca q oneL w (one_in h)).mono ?_
  rintro e w' ⟨B, c, vs, rfl, _, hb⟩
  rw [one_res]
  exact ⟨_, rfl, hb⟩
theorem find_two {A : Option Addr} {ca : Nat} {q : Nat → Pl} {w : World} (F : ProgF) (h : ObsIn w A q twoL) : Calls Try.prog 10 #[.slice A 2 ca, .string ⟨#[102]⟩] w fun e w' => e = .returned (.tuple #[.agg #[.int .i64 1, .int .i64 2], .bool true]) ∧ Below w.heap.size w w' := by
  refine (F A ca q twoL ⟨#[102]⟩ w h (by decide)).mono ?_
  rintro e w' ⟨rfl, hb⟩
  rw [two_find]
  exact ⟨rfl, hb⟩
set_option maxHeartbeats 8000000 in
set_option maxRecDepth 100000 in
theorem lives_any (R : ProgR) (F : ProgF) (w : World) : Calls Try.prog 6 #[] w fun e w' => e = .returned (.bool true) ∧ Below w.heap.size w w' := by
  go_enter Try.func6, Try.ntmps6
  go_wp2_with fail
  refine (two_any _).mono ?_
  rintro e w1 ⟨a1, q1, rfl, hi1, hb1⟩
  have HB1 : Hid (Below w.heap.size w w1) := hb1
  have C1 := res_two (ca := 2) R hi1
  clear hb1 hi1
  go_wp2_with fail
  refine C1.mono ?_
  rintro e w2 ⟨g, r, c, c1, rfl, h0, h1, h2, hb2⟩
  have HB2 : Hid (Below w.heap.size w w2) := lb_trans HB1.out hb2
  have H0 : Hid _ := h0
  have H1 : Hid _ := h1
  have H2 : Hid _ := h2
  clear C1 hb2 HB1 h0 h1 h2
  go_wp2_with fail
  refine (two_any _).mono ?_
  rintro e w3 ⟨a3, q3, rfl, hi3, hb3⟩
  have HB3 : Hid (Below w.heap.size w w3) := lb_trans HB2.out hb3
  have HK3 : Hid (Below w2.heap.size w2 w3) := hb3
  have C3 := res_one (ca := 2) R hi3
  clear hb3 hi3
  go_wp2_with fail
  refine C3.mono ?_
  rintro e w4 ⟨V, rfl, hb4⟩
  have HB4 : Hid (Below w.heap.size w w4) := lb_trans HB3.out hb4
  have HK4 : Hid (Below w2.heap.size w2 w4) := lb_trans HK3.out hb4
  clear C3 hb4 HB3 HK3
  go_wp2_with fail
  refine (two_any _).mono ?_
  rintro e w5 ⟨a5, q5, rfl, hi5, hb5⟩
  have HB5 : Hid (Below w.heap.size w w5) := lb_trans HB4.out hb5
  have HK5 : Hid (Below w2.heap.size w2 w5) := lb_trans HK4.out hb5
  have C5 := find_two (ca := 2) F hi5
  clear hb5 hi5
  go_wp2_with fail
  refine C5.mono ?_
  rintro e w6 ⟨rfl, hb6⟩
  have HB6 : Hid (Below w.heap.size w w6) := lb_trans HB5.out hb6
  have HK6 : Hid (Below w2.heap.size w2 w6) := lb_trans HK5.out hb6
  have HA6 : Hid (Below w6.heap.size w6 (w6.alloc (.cells #[.int .i64 1, .int .i64 2] 34))) := lb_alloc (Below.refl _ _) _
  have h0 := lkeep (lb_trans HK6.out HA6.out) H0.out
  have h1 := lkeep (lb_trans HK6.out HA6.out) H1.out
  have h2 := lkeep (lb_trans HK6.out HA6.out) H2.out
  have HB7 : Hid (Below w.heap.size w (w6.alloc (.cells #[.int .i64 1, .int .i64 2] 34))) := lb_alloc HB6.out _
  have z0 : (w6.alloc (.cells #[.int .i64 1, .int .i64 2] 34)).cell? ⟨w6.heap.size, 0, none⟩ = some (.int .i64 1) := by simp [go_sem]
  have z1 : (w6.alloc (.cells #[.int .i64 1, .int .i64 2] 34)).cell? ⟨w6.heap.size, 1, none⟩ = some (.int .i64 2) := by simp [go_sem]
  clear C5 hb6 HB6 HK6 HA6 HK5 HB5 HK4 HB4 H0 H1 H2
  go_wp2
  generalize w6.alloc (.cells #[.int .i64 1, .int .i64 2] 34) = W at h0 h1 h2 z0 z1 HB7 ⊢
  go_big_quiet (fail)
  go_wp2
  go_ret
  exact ⟨rfl, below_drewN HB7.out _⟩


end Go.Proofs.Ytiihfkjgdhfmiaa
