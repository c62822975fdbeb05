/-
  Lists of blocks, how they lie in memory. Blocks lie one behind the other; no Go in sight. A row that is written from its end on.
-/
import Derived.Test.YtlblplfmemoblaaProg
import Derived.WalkKit
import Derived.WalkSpells
import Derived.WalkLawsBesides
import Derived.RowKit3
import Derived.Below
import Derived.Deep.QuietTactic
import Derived.BigQuiet
import Derived.WalkSmall
import Derived.Laws.Rows
import Derived.Test.YtlblplfmemoblaaPp05
import Derived.Test.YtlblplfmemoblaaPp03
import Derived.Test.YtlblplfmemoblaaPp13
import Derived.Deep.AppendLies
import Derived.Test.YtlblplfmemoblaaPp12
namespace Go.Proofs.Ytlblplfmemoblaa
open Go.RowKit

/-- The cells of a list of blocks. -/
def dNews : List Rel → List Value
  | [] => []
  | x :: l => .int .i64 x.1 :: .int .i64 x.2 :: dNews l
theorem dNews_append : ∀ a b : List Rel, dNews (a ++ b) = dNews a ++ dNews b
  | [], _ => rfl
  | x :: a, b => by rw [List.cons_append, dNews, dNews, dNews_append a b]; rfl
theorem dNews_snoc (a : List Rel) (x : Rel) : dNews (a ++ [x]) = dNews a ++ [.int .i64 x.1, .int .i64 x.2] := dNews_append a [x]
theorem dNews_len : ∀ l : List Rel, (dNews l).length = l.length * 2
  | [] => rfl
  | x :: l => by simp [dNews, dNews_len l]; omega
theorem dNews_get : ∀ {l : List Rel} {i : Nat}, i < l.length → (dNews l)[i * 2]? = some (.int .i64 (rAt l i)) ∧ (dNews l)[i * 2 + 1]? = some (.int .i64 (rSym l i))
  | [], _, h => absurd h (Nat.not_lt_zero _)
  | x :: l, 0, _ => ⟨rfl, rfl⟩
  | x :: l, i + 1, h => by
    have := dNews_get (l := l) (i := i) (by simpa using h)
    rw [show (i + 1) * 2 = i * 2 + 1 + 1 by omega]
    exact this
theorem dNews_one : ∀ (l : List Rel), ∀ u ∈ dNews l, u.oneCell' = true
  | [], u, hu => by simp [dNews] at hu
  | x :: l, u, hu => by
    simp only [dNews, List.mem_cons] at hu
    rcases hu with rfl | rfl | hu
    · rfl
    · rfl
    · exact dNews_one l u hu
theorem dNews_cell {w : World} {a : Addr} {zs : List Rel} (hA : RelsAt w (some a) zs) (j : Nat) (u : Value) (h : (dNews zs)[j]? = some u) : w.cell? (a.add j) = some u := by
  have hj : j < zs.length * 2 := by
    have := (List.getElem?_eq_some_iff.1 h).1; rwa [dNews_len] at this
  obtain ⟨i, hi⟩ : ∃ i, i = j / 2 := ⟨_, rfl⟩
  obtain ⟨b, e, c0, c1⟩ := hA i (by omega)
  obtain rfl := Option.some.inj e
  obtain ⟨g0, g1⟩ := dNews_get (l := zs) (i := i) (by omega)
  have hm : j = i * 2 ∨ j = i * 2 + 1 := by omega
  clear hi
  rcases hm with rfl | rfl
  · rw [c0, ← h, g0]
  · rw [g1] at h
    rw [← h, ← Deep.add_add]
    exact c1
theorem drow_rels {w : World} {base c n : Nat} {e : TypeId} {A : Option Addr} {l : List Rel} (h : w.ownsRow base e 2 (.slice A n c) l.length (dNews l)) : RelsAt w A l := fun i hi => by
  rcases h.2 with ⟨_, h0⟩ | ⟨j, cap, cur, hv, hb, hg, hc, _⟩
  · omega
  · cases hv
    obtain ⟨a, b⟩ := dNews_get hi
    exact ⟨_, rfl, h.cells rfl _ _ a, by rw [Deep.add_add]; exact h.cells rfl _ _ b⟩
theorem no_rels (w : World) : RelsAt w none [] := fun i hi => by simp at hi
theorem infoB : ∃ i, Try.prog.info? 47 = some i ∧ i.zero = some (.agg #[.int .i64 0, .int .i64 0]) ∧ i.size = 2 ∧ i.bytes = 16 :=
  ⟨(Try.prog.info? 47).get (by kernel_rfl), by kernel_rfl, by kernel_rfl, by kernel_rfl, by kernel_rfl⟩
theorem two_oneI {x y : Int} : ∀ u ∈ [Value.int .i64 x, .int .i64 y], u.oneCell' = true := fun u hu => by
  simp only [List.mem_cons, List.not_mem_nil, or_false] at hu
  rcases hu with rfl | rfl <;> rfl
set_option maxHeartbeats 1000000 in
theorem copyblocks_any (O : Option Addr) (ca : Nat) (zs : List Rel) (w : World) (hA : RelsAt w O zs) (h0 : O = none → ca = 0) (hz : zs.length ≤ 1048576) :
    Calls Try.prog 19 #[.slice O zs.length ca] w fun e w' => CopyP 47 2 zs.length (dNews zs) w e w' := by
  obtain ⟨i0, hi, hz0, hz1, hz2⟩ := infoB
  cases O with
  | none =>
    obtain rfl := h0 rfl
    have hl : zs.length = 0 := by
      cases zs with
      | nil => rfl
      | cons x t => obtain ⟨a, e, _⟩ := hA 0 (by simp); cases e
    have hn : dNews zs = [] := by
      cases zs with
      | nil => rfl
      | cons x t => simp at hl
    rw [hl, hn]
    have hr := run_append_owned_none (P := Try.prog) (w := w) w.heap.size 35 35 47 i0 2 Try.underlying35 hi (.slice none 0 0) 0 [] (World.ownsRow_nil w _ _ _)
    go_enter Try.func19, Try.ntmps19
    go_wp2
    go_ret
    exact copyP_mk rfl (World.ownsRow_nil w _ _ _) (World.grownBy.refl w _)
  | some a =>
    go_enter Try.func19, Try.ntmps19
    go_wp2_with (at_builtin; go_loud (refine wpList_append_own _ rfl (.tmp 4) (.tmp 5) 35 rfl w.heap.size 47 i0 (.agg #[.int .i64 0, .int .i64 0]) 2 16 Try.underlying35 hi hz0 hz1 hz2 rfl (by decide) (.slice none 0 0) 0 [] rfl (World.ownsRow_nil w _ _ _) a zs.length ca (dNews zs) rfl (dNews_len zs) (dNews_cell hA) (dNews_one _) (by unfold maxLen; omega) (by omega) (Nat.le_refl _) ?_; intro v' w' hown hgrow hnil))
    go_ret
    exact copyP_mk rfl (by simpa using hown) hgrow

end Go.Proofs.Ytlblplfmemoblaa

namespace Go.Proofs.Ytlblplfmemoblaa
open Go.RowKit

theorem nth_mem {l : List Int} {k : Nat} (h : k < l.length) : nth l k ∈ l := by
  unfold nth
  rw [List.getD_eq_getElem?_getD, List.getElem?_eq_getElem h]
  exact List.getElem_mem h
theorem mem_nth {l : List Int} {y : Int} (h : y ∈ l) : ∃ k, k < l.length ∧ nth l k = y := by
  obtain ⟨k, hk, e⟩ := List.mem_iff_getElem.1 h
  exact ⟨k, hk, by unfold nth; rw [List.getD_eq_getElem?_getD, List.getElem?_eq_getElem hk]; exact e⟩
theorem plc_rise {f : Int → Bool} {n i j : Nat} (hij : i < j) (hj : j < (plcT f n).length) : nth (plcT f n) i < nth (plcT f n) j := by
  have hp : (plcT f n).Pairwise (· < ·) := by
    unfold plcT
    rw [List.pairwise_map]
    exact (List.pairwise_lt_range.filter _).imp (fun {a b} h => by omega)
  rw [List.pairwise_iff_getElem] at hp
  have := hp i j (by omega) hj hij
  unfold nth
  rw [List.getD_eq_getElem?_getD, List.getD_eq_getElem?_getD, List.getElem?_eq_getElem hj, List.getElem?_eq_getElem (show i < (plcT f n).length by omega)]
  exact this
theorem plc_first {f : Int → Bool} {n : Nat} (hn : 0 < n) (h0 : f 0 = true) : 0 < (plcT f n).length ∧ nth (plcT f n) 0 = 0 := by
  have hm : (0 : Int) ∈ plcT f n := plcT_mem.2 ⟨by omega, by omega, h0⟩
  obtain ⟨k, hk, e⟩ := mem_nth hm
  by_cases hk0 : k = 0
  · subst hk0; exact ⟨hk, e⟩
  · have h1 := plc_rise (f := f) (n := n) (show 0 < k by omega) hk
    have h2 := plcT_mem.1 (nth_mem (show 0 < (plcT f n).length by omega))
    omega
section
variable {f : Int → Bool} {n : Nat}
def blkN (f : Int → Bool) (n : Nat) : List Rel := zipN (plcT f n) (n : Int)
theorem blkN_len : (blkN f n).length = (plcT f n).length := zipN_len _ _
theorem blk_from {k : Nat} (hk : k < (plcT f n).length) : rAt (blkN f n) k = nth (plcT f n) k := (zipN_at _ _ k hk).1
theorem blk_to {k : Nat} (hk : k < (plcT f n).length) : rSym (blkN f n) k = if k + 1 < (plcT f n).length then nth (plcT f n) (k + 1) else (n : Int) := (zipN_at _ _ k hk).2
theorem blk_wide {k : Nat} (hk : k < (plcT f n).length) : rAt (blkN f n) k < rSym (blkN f n) k := by
  rw [blk_from hk, blk_to hk]
  split
  · next h => exact plc_rise (by omega) h
  · exact (plcT_mem.1 (nth_mem hk)).2.1
theorem blk_next {k : Nat} (hk : k + 1 < (plcT f n).length) : rSym (blkN f n) k = rAt (blkN f n) (k + 1) := by
  rw [blk_from hk, blk_to (by omega), if_pos hk]
theorem blk_last {k : Nat} (hk : k + 1 = (plcT f n).length) : rSym (blkN f n) k = (n : Int) := by
  rw [blk_to (by omega), if_neg (by omega)]
theorem blk_of {k : Nat} (hk : k < (plcT f n).length) : ofB (blkN f n) (nth (plcT f n) k) = (k : Int) := by
  refine of_at (by rw [blkN_len]; exact hk) (fun j hj => ?_) ?_
  · unfold hasB
    rw [decide_eq_false_iff_not]
    intro h
    have h2 := h.2
    rw [blk_next (show j + 1 < (plcT f n).length by omega), blk_from (show j + 1 < (plcT f n).length by omega)] at h2
    by_cases e : j + 1 = k
    · rw [e] at h2; omega
    · have := plc_rise (f := f) (n := n) (show j + 1 < k by omega) hk
      omega
  · unfold hasB
    rw [decide_eq_true_eq]
    have := blk_wide hk
    rw [blk_from hk] at this ⊢
    exact ⟨Int.le_refl _, this⟩
theorem blk_begin {y : Int} (h : y ∈ plcT f n) : ∃ k : Nat, k < (blkN f n).length ∧ ofB (blkN f n) y = (k : Int) ∧ rAt (blkN f n) k = y := by
  obtain ⟨k, hk, e⟩ := mem_nth h
  subst e
  exact ⟨k, by rw [blkN_len]; exact hk, blk_of hk, blk_from hk⟩
end
/-- The end of what was gone through. -/
def covAt (l : List Rel) (k : Nat) : Int := if k = 0 then 0 else rSym l (k - 1)
theorem cov_zero (l : List Rel) : covAt l 0 = 0 := rfl
theorem cov_succ (l : List Rel) (k : Nat) : covAt l (k + 1) = rSym l k := by unfold covAt; rw [if_neg (by omega)]; rfl
theorem cov_here {f : Int → Bool} {n k : Nat} (hn : 0 < n) (h0 : f 0 = true) (hk : k < (blkN f n).length) : rAt (blkN f n) k = covAt (blkN f n) k ∧ rAt (blkN f n) k < rSym (blkN f n) k ∧ ofB (blkN f n) (rAt (blkN f n) k) = (k : Int) := by
  rw [blkN_len] at hk
  refine ⟨?_, blk_wide hk, by rw [blk_from hk]; exact blk_of hk⟩
  cases k with
  | zero => rw [blk_from hk, (plc_first hn h0).2]; rfl
  | succ k => rw [cov_succ, blk_next hk]
theorem cov_end {f : Int → Bool} {n : Nat} (hn : 0 < n) (h0 : f 0 = true) : covAt (blkN f n) (blkN f n).length = (n : Int) := by
  have hp := (plc_first hn h0).1
  obtain ⟨k, hk⟩ : ∃ k, (plcT f n).length = k + 1 := ⟨(plcT f n).length - 1, by omega⟩
  rw [blkN_len, hk, cov_succ, blk_last hk.symm]
/-- Every label, and every return site, begins a block. -/
theorem lab_beg {text : List Int} {ent y : Int} (h : y ∈ plcT (labF text ent) text.length) : y ∈ plcT (begF text ent) text.length := by
  rw [plcT_mem] at h ⊢
  exact ⟨h.1, h.2.1, beg_lab h.2.2⟩
theorem sit_beg {text : List Int} {ent y : Int} (h : y ∈ plcT (sitF text) text.length) : y ∈ plcT (begF text ent) text.length := by
  rw [plcT_mem] at h ⊢
  refine ⟨h.1, h.2.1, ?_⟩
  have h2 := h.2.2
  unfold sitF addK noF at h2
  rw [Bool.false_or, anyF_iff] at h2
  obtain ⟨i, hi, e⟩ := h2
  unfold gSit at e
  split at e
  · next h3 =>
    injection e with e
    subst e
    refine beg_end hi ?_
    unfold endsB
    rw [decide_eq_true_eq]
    simp at h3
    omega
  · cases e

end Go.Proofs.Ytlblplfmemoblaa

namespace Go.Proofs.Ytlblplfmemoblaa
open Go.RowKit

theorem wdn_set2 (f z : Nat → Value) (N k : Nat) (h : k + 1 < N) : (((wcur z f N (k + 2)).setIfInBounds k (f k)).setIfInBounds (k + 1) (f (k + 1))) = wcur z f N k := by
  apply Array.ext_getElem?
  intro i
  by_cases hi : i < N
  · rw [wcur_get _ _ _ _ _ hi, Array.getElem?_setIfInBounds, Array.size_setIfInBounds, wcur_size, Array.getElem?_setIfInBounds, wcur_size]
    by_cases h1 : k + 1 = i
    · subst h1; rw [if_pos rfl, if_pos h, if_neg (by omega)]
    · rw [if_neg h1]
      by_cases h2 : k = i
      · subst h2; rw [if_pos rfl, if_pos hi, if_neg (by omega)]
      · rw [if_neg h2, wcur_get _ _ _ _ _ hi]
        by_cases h3 : i < k
        · simp [h3, show i < k + 2 by omega]
        · simp [h3, show ¬ i < k + 2 by omega]
  · rw [Array.getElem?_eq_none (by simp [wcur_size]; omega), Array.getElem?_eq_none (by simp [wcur_size]; omega)]
/-- Where the block ahead of the beginning j ends. -/
def endB (ps : List Int) (n : Int) (j : Nat) : Int := if j < ps.length then nth ps j else n
def bCell (ps : List Int) (n : Int) (i : Nat) : Value := if i % 2 = 0 then .int .i64 (nth ps (i / 2)) else .int .i64 (endB ps n (i / 2 + 1))
def zCell (_ : Nat) : Value := .int .i64 0
theorem bCell0 (ps : List Int) (n : Int) (k : Nat) : bCell ps n (k * 2) = .int .i64 (nth ps k) := by
  have e : (k * 2) / 2 = k := by omega
  have m : (k * 2) % 2 = 0 := by omega
  unfold bCell
  rw [if_pos m, e]
theorem bCell1 (ps : List Int) (n : Int) (k : Nat) : bCell ps n (k * 2 + 1) = .int .i64 (endB ps n (k + 1)) := by
  have e : (k * 2 + 1) / 2 = k := by omega
  have m : ¬ (k * 2 + 1) % 2 = 0 := by omega
  unfold bCell
  rw [if_neg m, e]
theorem blk_step (ps : List Int) (n : Int) (k : Nat) (h : k < ps.length) : (((wcur zCell (bCell ps n) (ps.length * 2) ((k + 1) * 2)).setIfInBounds (k * 2) (.int .i64 (nth ps k))).setIfInBounds (k * 2 + 1) (.int .i64 (endB ps n (k + 1)))) = wcur zCell (bCell ps n) (ps.length * 2) (k * 2) := by
  rw [← bCell0 ps n k, ← bCell1 ps n k, show (k + 1) * 2 = k * 2 + 2 by omega]
  exact wdn_set2 _ _ _ _ (by omega)
theorem blk_done (ps : List Int) (n : Int) : (wcur zCell (bCell ps n) (ps.length * 2) 0).toList = dNews (zipN ps n) := by
  apply List.ext_getElem?
  intro i
  rw [Array.getElem?_toList]
  by_cases hi : i < ps.length * 2
  · rw [wcur_get _ _ _ _ _ hi, if_neg (by omega)]
    obtain ⟨k, hk⟩ : ∃ k, i = k * 2 ∨ i = k * 2 + 1 := ⟨i / 2, by omega⟩
    have hkl : k < ps.length := by omega
    obtain ⟨g0, g1⟩ := dNews_get (l := zipN ps n) (i := k) (by rw [zipN_len]; exact hkl)
    obtain ⟨z0, z1⟩ := zipN_at ps n k hkl
    rcases hk with rfl | rfl
    · rw [g0, bCell0, z0]
    · rw [g1, bCell1, z1]; rfl
  · rw [Array.getElem?_eq_none (by simp [wcur_size]; omega), List.getElem?_eq_none (by rw [dNews_len, zipN_len]; omega)]
theorem made_blk (ps : List Int) (n : Int) (N : Nat) : madeCells #[.int .i64 0, .int .i64 0] N = wcur zCell (bCell ps n) N N := by
  apply Array.ext_getElem?
  intro i
  by_cases hi : i < N
  · rw [wcur_get _ _ _ _ _ hi, if_pos hi]
    have h : i % 2 = 0 ∨ i % 2 = 1 := by omega
    rcases h with h | h <;> simp [madeCells, hi, h, zCell]
  · rw [Array.getElem?_eq_none (by simp [madeCells]; omega), Array.getElem?_eq_none (by simp [wcur_size]; omega)]
theorem make_blk (ps : List Int) (n : Int) (hn : ps.length ≤ 1048576) (w : World) : (Instr.makeSlice 35 (.int .i64 (ps.length : Int)) (.int .i64 (ps.length : Int))).run Try.prog w = .ok (.slice (some ⟨w.heap.size, 0, none⟩) ps.length ps.length) (w.alloc (.cells (wcur zCell (bCell ps n) (ps.length * 2) (ps.length * 2)) 47)) := by
  obtain ⟨i, hi, hz, hs, hb⟩ := infoB
  have h := run_makeSlice (P := Try.prog) w 35 47 i _ Try.underlying35 hi hz .i64 .i64 (ps.length : Int) (ps.length : Int) (by omega) (by omega) (by rw [hs]; omega) (by rw [hb]; omega) (by omega)
  rw [hs, show ((ps.length : Int)).toNat = ps.length by omega] at h
  rw [h, ← made_blk ps n (ps.length * 2)]
  rfl
theorem own_blk (ps : List Int) (n : Int) (w : World) (hn : ps.length ≤ 1048576) : (w.alloc (.cells (wcur zCell (bCell ps n) (ps.length * 2) 0) 47)).ownsRow w.heap.size 47 2 (.slice (some ⟨w.heap.size, 0, none⟩) (zipN ps n).length ps.length) (zipN ps n).length (dNews (zipN ps n)) := by
  refine ⟨by rw [dNews_len], Or.inr ⟨w.heap.size, ps.length, wcur zCell (bCell ps n) (ps.length * 2) 0, rfl, Nat.le_refl _, heap_alloc_new _ _, by rw [zipN_len]; exact Nat.le_refl _, by unfold maxLen; omega, by rw [wcur_size], ?_⟩⟩
  rw [zipN_len, blk_done, List.take_of_length_le (by rw [dNews_len, zipN_len]; exact Nat.le_refl _)]
/-- An answer of Blocks. -/
def BlkP (E : Int) (l : List Rel) (w : World) (e : Ending) (w' : World) : Prop :=
  ∃ (A : Option Addr) (c : Nat), e = .returned (.tuple #[.slice A l.length c, .int .i64 E]) ∧ w'.ownsRow w.heap.size 47 2 (.slice A l.length c) l.length (dNews l) ∧ Below w.heap.size w w'
def outB (text : List Int) (ml : Nat) (ent : Int) : List Rel := if (checkI text ml ent).1 = 0 then blkL text ent else []

end Go.Proofs.Ytlblplfmemoblaa
