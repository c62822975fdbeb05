/-
  What EdgeRuns asks, plain. CopyImage of the statements, by what it returns; the lists have at most 2^20 items. works and much of the statements: the one returns true, the other whether the lists are long.
-/
import Derived.Test.YtgkdagnpefgjcaaGreatProg
import Derived.WalkKit
import Derived.WalkSpells
import Derived.WalkLawsBesides
import Derived.RowKit3
import Derived.Below
import Derived.Deep.QuietTactic
import Derived.BigQuiet
import Derived.WalkSmall
import Derived.Laws.Rows
import Derived.Test.YtgkdagnpefgjcaaGreatPr18
import Derived.Test.YtgkdagnpefgjcaaGreatPr25
import Derived.Test.YtgkdagnpefgjcaaGreatPr30
import Derived.Test.YtgkdagnpefgjcaaGreatPr37
import Derived.Test.YtgkdagnpefgjcaaGreatPr12
import Derived.Test.YtgkdagnpefgjcaaGreatPr11
namespace Go.Proofs.YtgkdagnpefgjcaaGreat
open Go.RowKit

def anyB (l : List Int) (k : Int) : Nat → Bool
  | 0 => false
  | j + 1 => anyB l k j || (nth l j == k)
theorem anyB_mem {l : List Int} {k : Int} (h : k ∈ l) : anyB l k l.length = true := by
  obtain ⟨t, ht, e⟩ := mem_nth h
  have : ∀ j, t < j → anyB l k j = true := by
    intro j
    induction j with
    | zero => intro h; omega
    | succ j ih =>
      intro hj
      unfold anyB
      by_cases e2 : t = j
      · rw [← e2, e]; simp
      · rw [ih (by omega)]; rfl
  exact this _ ht
theorem new_may {text tape mem : List Int} {ent : Int} (hE : newE text tape mem ent = 0) (hR : ∀ i, i < text.length → 0 ≤ nth text i ∧ nth text i < 4294967296) : MayI text mem.length ent ∧ Going text ent (newM text tape mem ent) ∧ (newM text tape mem ent).steps = 0 := by
  have hc : (checkI text mem.length ent).1 = 0 := by
    unfold newE at hE
    by_cases c : (checkI text mem.length ent).1 = 0
    · exact c
    · rw [if_neg c] at hE; exact absurd hE c
  have ht : tape.length ≤ 4096 := by
    unfold newE at hE
    rw [if_pos hc] at hE
    by_cases c : 4096 < tape.length
    · rw [if_pos c] at hE; cases hE
    · omega
  have hM := check_mayI hc
  have hp := hM.past
  have h1 := hp.ent1
  have h2 := hp.len
  have hf : Fine (newM text tape mem ent) := newM_fine hR hp.len hp.pos ht hp.mem (by omega)
  exact ⟨hM, going_new hM hf, rfl⟩
theorem step_more {m : Mach} (h : (stepM m).status = 0) : (stepM m).steps = m.steps + 1 := by
  rcases step_steps m with e | ⟨_, e⟩
  · exact e
  · exact absurd h e
theorem Going.reached {text : List Int} {ent : Int} {m : Mach} (h : Going text ent m) : ∃ b : Nat, b < (blkL text ent).length ∧ ofB (blkL text ent) (m.pc : Int) = (b : Int) ∧ outR text ent (b : Int) = true := by
  obtain ⟨b, hb, e, r⟩ := h.at_
  exact ⟨b, hb, e, rchF_iff.2 r⟩


end Go.Proofs.YtgkdagnpefgjcaaGreat

namespace Go.Proofs.YtgkdagnpefgjcaaGreat
open Go.RowKit

theorem old_at {w : World} {o o' : Obj} {n : Nat} (h : w.heap[n]? = some o) : (w.alloc o').heap[n]? = some o := by
  rw [Below.heap_alloc w o' n (Array.getElem?_eq_some_iff.1 h).1]; exact h
theorem new_at {w : World} {o : Obj} {n : Nat} (h : n = w.heap.size) : (w.alloc o).heap[n]? = some o := by subst h; exact heap_alloc_new w o
theorem box_other {w : World} {B P : Nat} {o : Obj} (h : w.heap[B]? = some o) (hB : B ≠ P) (i : Nat) (v : Value) : (w.setCell ⟨P, i, none⟩ v).heap[B]? = some o := (Below.heap_setCell _ _ _ _ hB).trans h
theorem zbox3_cell {w : World} {B : Nat} {x y z : Value} {t : TypeId} (h : w.heap[B]? = some (.cells #[x, y, z] t (0, 0))) : w.cell? ⟨B, 0, none⟩ = some x ∧ w.cell? ⟨B, 1, none⟩ = some y ∧ w.cell? ⟨B, 2, none⟩ = some z := by
  refine ⟨?_, ?_, ?_⟩ <;> simp [World.cell?, h]
theorem zNews_vals (K : IntKind) (zs : List Int) : iNews K zs = iVals K zs := by
  apply List.ext_getElem?
  intro i
  unfold iNews iVals
  by_cases h : i < zs.length
  · simp [h, wInt, nth, List.getD]
  · simp [h]


/-- What CopyImage answers. -/
def CopyI (text mem : List Int) (ent : Int) (w : World) (e : Ending) (w' : World) : Prop := ∃ (A1 A2 : Option Addr) (k1 k2 : Nat), e = .returned (.agg #[.slice A1 text.length k1, .int .i64 ent, .slice A2 mem.length k2]) ∧ RowsI w' w.heap.size A1 A2 k1 k2 text mem ∧ Below w.heap.size w w'

end Go.Proofs.YtgkdagnpefgjcaaGreat

namespace Go.Proofs.YtgkdagnpefgjcaaGreat
open Go.RowKit

def wkT : List Int := [142606341, 2281701379, 2818572288, 2558001152]
theorem wk_in : ∀ i, i < wkT.length → 0 ≤ nth wkT i ∧ nth wkT i < 4294967296 := by
  intro i hi
  have : i = 0 ∨ i = 1 ∨ i = 2 ∨ i = 3 := by simp [wkT] at hi; omega
  rcases this with rfl | rfl | rfl | rfl <;> exact ⟨by decide, by decide⟩
theorem wbox_at {w : World} {g : Nat} {cs : Array Value} {t : TypeId} (h : w.heap[g]? = some (.cells cs t (0, 0))) {i : Nat} {v : Value} (hv : cs[i]? = some v) : w.cell? ⟨g, i, none⟩ = some v := by
  simp [World.cell?, h, hv]
theorem wk_ints {w : World} {g : Nat} (h : w.heap[g]? = some (.cells #[.int .u32 142606341, .int .u32 2281701379, .int .u32 2818572288, .int .u32 2558001152] 49 (0, 0))) : IntsAt w (some ⟨g, 0, none⟩) .u32 wkT := by
  intro i hi
  refine ⟨⟨g, 0, none⟩, rfl, ?_⟩
  rw [add0]
  have : i = 0 ∨ i = 1 ∨ i = 2 ∨ i = 3 := by simp [wkT] at hi; omega
  rcases this with rfl | rfl | rfl | rfl <;> exact wbox_at h rfl
theorem wk_chk : checkI wkT 0 0 = (0, 0) := by kernel_rfl
theorem wk_edg : outE wkT 0 0 = [[2], [], [1]] := by kernel_rfl
set_option maxRecDepth 100000 in
set_option maxHeartbeats 2000000 in
theorem works_any (HE : EdgesOK) (w : World) : Calls Tryz.prog 5 #[] w fun e w' => e = .returned (.bool true) ∧ Below w.heap.size w w' := by
  obtain ⟨W, HW⟩ : ∃ W, Hid ((w.alloc (.cells #[.int .u32 142606341, .int .u32 2281701379, .int .u32 2818572288, .int .u32 2558001152] 49)).alloc (.cells #[.slice (some ⟨w.heap.size, 0, none⟩) 4 4, .int .i64 0, .slice none 0 0] 25) = W) := ⟨_, rfl⟩
  have HB : Hid (Below w.heap.size w W) := by unfold Hid; rw [← HW.out]; exact lb_alloc (lb_alloc (Below.refl _ _) _) _
  have h1 : W.heap[w.heap.size]? = some (.cells #[.int .u32 142606341, .int .u32 2281701379, .int .u32 2818572288, .int .u32 2558001152] 49 (0, 0)) := by rw [← HW.out]; exact old_at (new_at rfl)
  have h3 : W.heap[w.heap.size + 1]? = some (.cells #[.slice (some ⟨w.heap.size, 0, none⟩) 4 4, .int .i64 0, .slice none 0 0] 25 (0, 0)) := by rw [← HW.out]; exact new_at (by simp)
  have x0 : W.cell? ⟨w.heap.size + 1, 0, none⟩ = some (.slice (some ⟨w.heap.size, 0, none⟩) 4 4) := wbox_at h3 rfl
  have x1 : W.cell? ⟨w.heap.size + 1, 1, none⟩ = some (.int .i64 0) := wbox_at h3 rfl
  have x2 : W.cell? ⟨w.heap.size + 1, 2, none⟩ = some (.slice none 0 0) := wbox_at h3 rfl
  have C1 := HE (some ⟨w.heap.size, 0, none⟩) none 4 0 0 0 wkT W (wk_ints h1) wk_in (by decide) (by decide)
  rw [wk_chk, wk_edg] at C1
  have C1 : Calls Tryz.prog 7 #[.agg #[.slice (some ⟨w.heap.size, 0, none⟩) 4 4, .int .i64 0, .slice none 0 0]] W (ZE 0 [[2], [], [1]] W) := C1
  clear h1 h3
  go_enter Tryz.func5, Tryz.ntmps5
  go_upto_region 2 with fail
  rw [HW.out]
  clear HW
  go_wp2_with fail
  refine C1.mono ?_
  rintro e w1 ⟨A, c, rfl, hz, hb1⟩
  have HB1 : Hid (Below w.heap.size w w1) := lb_trans HB.out hb1
  obtain ⟨a, R0, k0, ea, q0, r0⟩ := hz 0 (by decide)
  obtain ⟨a1, R1, k1, ea1, q1, r1⟩ := hz 1 (by decide)
  obtain ⟨a2, R2, k2, ea2, q2, r2⟩ := hz 2 (by decide)
  obtain ⟨b0, eb0, s0⟩ := r0 0 (by decide)
  obtain ⟨b2, eb2, s2⟩ := r2 0 (by decide)
  rw [ea] at ea1 ea2
  obtain rfl := Option.some.inj ea1
  obtain rfl := Option.some.inj ea2
  subst ea eb0 eb2
  have q0 : w1.cell? a = some (.slice (some b0) 1 k0) := q0
  have q1 : w1.cell? ⟨a.block, a.off + 1, none⟩ = some (.slice R1 0 k1) := q1
  have q2 : w1.cell? ⟨a.block, a.off + 2, none⟩ = some (.slice (some b2) 1 k2) := q2
  have s0 : w1.cell? b0 = some (.int .i64 2) := s0
  have s2 : w1.cell? b2 = some (.int .i64 1) := s2
  clear hz hb1 x0 x1 x2 C1 HB r0 r1 r2
  go_wp2
  go_ret
  exact ⟨rfl, HB1.out⟩
def muchB (text mem : List Int) : Bool := decide (600 < text.length) || decide (16384 < mem.length)
theorem much_any (A1 A2 : Option Addr) (c1 c2 : Nat) (ent : Int) (text mem : List Int) (w : World) :
    Calls Tryz.prog 4 #[.agg #[.slice A1 text.length c1, .int .i64 ent, .slice A2 mem.length c2]] w fun e w' => e = .returned (.bool (muchB text mem)) ∧ Below w.heap.size w w' := by
  unfold muchB
  by_cases h1 : 600 < text.length
  · rw [decide_eq_true h1]
    have h1' : (600 : Int) < (text.length : Int) := by omega
    go_enter Tryz.func4, Tryz.ntmps4
    go_wp2
    go_ret
    exact ⟨rfl, lb_alloc (Below.refl _ _) _⟩
  · rw [decide_eq_false h1]
    have h1' : decide ((600 : Int) < (text.length : Int)) = false := decide_eq_false (by omega)
    have h1'' : ¬ (600 : Int) < (text.length : Int) := by omega
    by_cases h2 : 16384 < mem.length
    · rw [decide_eq_true h2]
      have h2' : (16384 : Int) < (mem.length : Int) := by omega
      go_enter Tryz.func4, Tryz.ntmps4
      go_wp2
      go_ret
      exact ⟨by simp, lb_alloc (Below.refl _ _) _⟩
    · rw [decide_eq_false h2]
      have h2' : ¬ (16384 : Int) < (mem.length : Int) := by omega
      go_enter Tryz.func4, Tryz.ntmps4
      go_wp2
      go_ret
      exact ⟨by simp, lb_alloc (Below.refl _ _) _⟩


end Go.Proofs.YtgkdagnpefgjcaaGreat
