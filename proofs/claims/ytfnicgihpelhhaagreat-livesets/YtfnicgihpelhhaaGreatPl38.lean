/-
  slices.Clone of a row of words; a row of words in a block of its own that is written.
-/
import Derived.Test.YtfnicgihpelhhaaGreatProg
import Derived.WalkKit
import Derived.WalkSpells
import Derived.WalkLawsBesides
import Derived.RowKit3
import Derived.Below
import Derived.Deep.QuietTactic
import Derived.BigQuiet
import Derived.WalkSmall
import Derived.Laws.Rows
import Derived.Test.YtfnicgihpelhhaaGreatPl12
import Derived.Test.YtfnicgihpelhhaaGreatPl14
import Derived.Test.YtfnicgihpelhhaaGreatPl32
import Derived.Test.YtfnicgihpelhhaaGreatPl11
namespace Go.Proofs.YtfnicgihpelhhaaGreat
open Go.RowKit

theorem bs_c (w : World) : (Instr.buildSlice 22 0 #[]).run Tryz.prog w = .ok (.slice (some ⟨w.heap.size, 0, none⟩) 0 0) (w.alloc (.cells #[] 45)) := by kernel_rfl
theorem some_c (a : Addr) (n c : Nat) (w : World) : (binOp BinOp.eql 22 (.slice (some a) n c) (.slice none 0 0)).run Tryz.prog w = .ok (.bool false) w := by kernel_rfl
theorem info_c : ∃ i, Tryz.prog.info? 45 = some i ∧ i.zero = some (.int .u32 0) ∧ i.size = 1 ∧ i.bytes = 4 :=
  ⟨(Tryz.prog.info? 45).get (by kernel_rfl), by kernel_rfl, by kernel_rfl, by kernel_rfl, by kernel_rfl⟩
/-- A row of words in the block g. -/
def WdAt (w : World) (g : Nat) (l : List Int) : Prop := ∃ cs : Array Value, w.heap[g]? = some (.cells cs 45 (0, 0)) ∧ l.length ≤ cs.size ∧ ∀ i, i < l.length → cs[i]? = some (.int .u32 (nth l i))
section
variable {w w1 : World} {g : Nat} {l : List Int}
theorem WdAt.lt (h : WdAt w g l) : g < w.heap.size := by
  obtain ⟨cs, h1, _⟩ := h
  exact (Array.getElem?_eq_some_iff.1 h1).1
theorem WdAt.keep (h : WdAt w g l) (hb : Below w.heap.size w w1) : WdAt w1 g l := by
  obtain ⟨cs, h1, h2⟩ := h
  exact ⟨cs, by rw [hb.block g (Array.getElem?_eq_some_iff.1 h1).1]; exact h1, h2⟩
theorem WdAt.other (h : WdAt w g l) {g2 i : Nat} {v : Value} (hne : g ≠ g2) : WdAt (w.setCell ⟨g2, i, none⟩ v) g l := by
  obtain ⟨cs, hb, hs⟩ := h
  exact ⟨cs, by rw [Below.heap_setCell _ _ _ _ hne]; exact hb, hs⟩
theorem WdAt.cell (h : WdAt w g l) {p : Nat} (hp : p < l.length) : w.cell? ⟨g, p, none⟩ = some (.int .u32 (nth l p)) := by
  obtain ⟨cs, hb, _, hc⟩ := h
  simp [World.cell?, hb, hc p hp]
theorem WdAt.fro (h : WdAt w g l) (p : Nat) : w.frozen? ⟨g, p, none⟩ = false := by
  obtain ⟨cs, hb, _⟩ := h
  simp [World.frozen?, hb]
theorem WdAt.ints (h : WdAt w g l) : IntsAt w (some ⟨g, 0, none⟩) .u32 l := fun i hi => ⟨_, rfl, by rw [add0]; exact h.cell hi⟩
theorem WdAt.put (h : WdAt w g l) {p : Nat} (_hp : p < l.length) (v : Int) : WdAt (w.setCell ⟨g, p, none⟩ (.int .u32 v)) g (l.set p v) := by
  obtain ⟨cs, hb, hs, hc⟩ := h
  refine ⟨cs.setIfInBounds p (.int .u32 v), box_set hb _ _, by simpa using hs, fun i hi => ?_⟩
  rw [List.length_set] at hi
  rw [Array.getElem?_setIfInBounds, nth_set hi]
  by_cases e : p = i
  · rw [if_pos e, if_pos (by omega), if_pos e]
  · rw [if_neg e, if_neg e, hc i hi]
end
theorem iVals_oneC (K : IntKind) (l : List Int) : ∀ u ∈ iVals K l, u.oneCell' = true := fun u hu => by
  unfold iVals at hu
  rw [List.mem_map] at hu
  obtain ⟨x, -, rfl⟩ := hu
  rfl
set_option maxRecDepth 100000 in
set_option maxHeartbeats 1000000 in
theorem clone32_any (a : Addr) (c : Nat) (l : List Int) (w : World) (h : IntsAt w (some a) .u32 l) (hl : l.length ≤ 1048576) :
    Calls Tryz.prog 90 #[.slice (some a) l.length c] w fun e w' => ∃ g cap, e = .returned (.slice (some ⟨g, 0, none⟩) l.length cap) ∧ l.length ≤ cap ∧ WdAt w' g l ∧ w.heap.size ≤ g ∧ Below w.heap.size w w' := by
  obtain ⟨i0, hi, hz0, hz1, hz2⟩ := info_c
  have hb0 := bs_c
  have hn0 := some_c a l.length c
  have HC : Hid (∀ j u, (iVals .u32 l)[j]? = some u → (w.alloc (.cells #[] 45)).cell? (a.add j) = some u) := fun j u hu => by
    have hj : j < l.length := by
      have := (List.getElem?_eq_some_iff.1 hu).1
      simpa [iVals] using this
    obtain ⟨b, e, q⟩ := h j hj
    cases e
    rw [iVals_get hj] at hu
    cases hu
    exact lkeep (lb_alloc (Below.refl _ _) _) q
  have H1 : Hid (∀ u ∈ iVals .u32 l, u.oneCell' = true) := iVals_oneC _ _
  have HL : Hid ((iVals .u32 l).length = l.length * 1) := by unfold Hid iVals; simp
  have HG : Hid (∀ i, i < l.length → (iVals .u32 l)[i]? = some (.int .u32 (nth l i))) := fun i hi => iVals_get hi
  clear h
  generalize iVals .u32 l = xs at *
  go_enter Tryz.func90, Tryz.ntmps90
  go_wp2_with (at_builtin; refine wpList_append_own _ rfl (.tmp 5) (.tmp 6) 22 rfl w.heap.size 45 i0 (.int .u32 0) 1 4 Tryz.underlying22 hi hz0 hz1 hz2 rfl (by decide) (.slice (some ⟨w.heap.size, 0, none⟩) 0 0) 0 [] rfl (World.ownsRow_made w #[] 0 (Nat.le_refl _) (Nat.zero_le _) rfl) a l.length c xs rfl HL.out HC.out H1.out (by unfold maxLen; omega) (by omega) (by simp) ?_; intro v' w' hown hgrow hnil)
  all_goals (
    have HO : Hid (w'.ownsRow w.heap.size 45 1 v' l.length xs) := by have e := hown; rw [Nat.zero_add, List.nil_append] at e; exact e
    have HG2 : Hid _ := hgrow
    have HN : Hid _ := hnil
    clear hown hgrow hnil
    go_wp2
    go_ret
    rcases HO.out.2 with ⟨e, h0⟩ | ⟨g, cap, cur, e, hb, hg, hn, hm, hs, ht⟩
    · exact absurd ((HN.out.1 e).1) (by simp)
    · refine ⟨g, cap, by rw [e]; rfl, hn, ⟨cur, hg, by omega, fun i hi => ?_⟩, hb, Below.grown (lb_alloc (Below.refl _ _) _) HG2.out (by simp) (fun k e => by simp [Value.ownBlock] at e; omega)⟩
      have := HG.out i hi
      rw [← ht, List.getElem?_take_of_lt (by omega)] at this
      simpa using this)

end Go.Proofs.YtfnicgihpelhhaaGreat
