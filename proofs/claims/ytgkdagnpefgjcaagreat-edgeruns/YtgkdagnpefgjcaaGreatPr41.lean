/-
  Edges turned round, step by step; no Go in sight. A list of lists that is written over; no Go in sight. The flow of an image in memory.
-/
import Derived.Test.YtgkdagnpefgjcaaGreatProg
import Derived.WalkKit
import Derived.WalkSpells
import Derived.WalkLawsBesides
import Derived.RowKit3
import Derived.Below
import Derived.Deep.QuietTactic
import Derived.BigQuiet
import Derived.WalkSmall
import Derived.Laws.Rows
import Derived.Test.YtgkdagnpefgjcaaGreatPr16
import Derived.Test.YtgkdagnpefgjcaaGreatPr05
import Derived.Test.YtgkdagnpefgjcaaGreatPr40
import Derived.Test.YtgkdagnpefgjcaaGreatPr12
import Derived.Test.YtgkdagnpefgjcaaGreatPr39
import Derived.Test.YtgkdagnpefgjcaaGreatPr11
namespace Go.Proofs.YtgkdagnpefgjcaaGreat
open Go.RowKit

/-- What the list i has, when k lists and j numbers of the next one were gone through. -/
def curB (L : List (List Int)) (k j i : Nat) : List Int := plcT (backR L i) k ++ (if (i : Int) ∈ (rowZ L k).take j then [(k : Int)] else [])
def bst (L : List (List Int)) (k j : Nat) : List (List Int) := (List.range L.length).map (curB L k j)
theorem bst_len (L : List (List Int)) (k j : Nat) : (bst L k j).length = L.length := by simp [bst]
theorem bst_row {L : List (List Int)} {k j i : Nat} (h : i < L.length) : rowZ (bst L k j) i = curB L k j i := rowZ_map h
theorem take_next {l : List Int} {j : Nat} (h : j < l.length) (x : Int) : x ∈ l.take (j + 1) ↔ x ∈ l.take j ∨ x = nth l j := by
  rw [List.take_succ_eq_append_getElem h, List.mem_append, List.mem_singleton]
  have : nth l j = l[j] := by simp [nth, List.getD, h]
  rw [this]
theorem curB_same {L : List (List Int)} {k j i : Nat} (hj : j < (rowZ L k).length) (h : (i : Int) ≠ nth (rowZ L k) j ∨ nth (rowZ L k) j ∈ (rowZ L k).take j) : curB L k (j + 1) i = curB L k j i := by
  unfold curB
  by_cases h1 : (i : Int) ∈ (rowZ L k).take j
  · rw [if_pos h1, if_pos ((take_next hj _).2 (.inl h1))]
  · rw [if_neg h1, if_neg]
    intro h2
    rcases (take_next hj _).1 h2 with h2 | h2
    · exact h1 h2
    · rcases h with h | h
      · exact h h2
      · rw [h2] at h1; exact h1 h
theorem bst_skip {L : List (List Int)} {k j : Nat} (hj : j < (rowZ L k).length) (h : nth (rowZ L k) j < 0 ∨ (L.length : Int) ≤ nth (rowZ L k) j ∨ nth (rowZ L k) j ∈ (rowZ L k).take j) : bst L k (j + 1) = bst L k j := by
  unfold bst
  refine List.map_congr_left fun i hi => ?_
  have hi : i < L.length := by simpa using hi
  refine curB_same hj ?_
  rcases h with h | h | h
  · exact .inl (by omega)
  · exact .inl (by omega)
  · exact .inr h
theorem bst_add {L : List (List Int)} {k j : Nat} (hj : j < (rowZ L k).length) {i : Nat} (hi : i < L.length) (h0 : nth (rowZ L k) j = (i : Int)) (h1 : (i : Int) ∉ (rowZ L k).take j) : bst L k (j + 1) = (bst L k j).set i (rowZ (bst L k j) i ++ [(k : Int)]) := by
  apply List.ext_getElem?
  intro t
  rw [List.getElem?_set, bst_len]
  by_cases ht : t < L.length
  · by_cases e : i = t
    · subst e
      rw [if_pos rfl, if_pos hi, bst_row hi]
      have : (bst L k (j + 1))[i]? = some (curB L k (j + 1) i) := by simp [bst, hi]
      rw [this]
      congr 1
      unfold curB
      rw [if_neg h1, if_pos ((take_next hj _).2 (.inr h0.symm)), List.append_nil]
    · rw [if_neg e]
      have a : (bst L k (j + 1))[t]? = some (curB L k (j + 1) t) := by simp [bst, ht]
      have b : (bst L k j)[t]? = some (curB L k j t) := by simp [bst, ht]
      rw [a, b, curB_same hj (.inl (by rw [h0]; omega))]
  · rw [List.getElem?_eq_none (by rw [bst_len]; omega), if_neg (by omega), List.getElem?_eq_none (by rw [bst_len]; omega)]
theorem bst_next (L : List (List Int)) (k : Nat) : bst L k (rowZ L k).length = bst L (k + 1) 0 := by
  unfold bst
  refine List.map_congr_left fun i hi => ?_
  unfold curB
  rw [List.take_length, List.take_zero, if_neg (List.not_mem_nil), List.append_nil]
  by_cases h : (i : Int) ∈ rowZ L k
  · rw [if_pos h, plcT_yes]
    unfold backR hasZ
    rw [decide_eq_true_eq]
    simpa using h
  · rw [if_neg h, List.append_nil, plcT_no]
    unfold backR hasZ
    rw [decide_eq_false_iff_not]
    simpa using h
theorem bst_end (L : List (List Int)) : bst L L.length 0 = backT L L.length := by
  unfold bst backT
  refine List.map_congr_left fun i hi => ?_
  unfold curB
  rw [List.take_zero, if_neg (List.not_mem_nil), List.append_nil]
theorem bst_zero (L : List (List Int)) : bst L 0 0 = List.replicate L.length [] := by
  apply List.ext_getElem?
  intro t
  by_cases ht : t < L.length
  · have a : (bst L 0 0)[t]? = some (curB L 0 0 t) := by simp [bst, ht]
    rw [a, List.getElem?_replicate, if_pos ht]
    first | rfl | (unfold curB; rw [List.take_zero, if_neg (List.not_mem_nil), List.append_nil, plcT_zero])
  · rw [List.getElem?_eq_none (by rw [bst_len]; omega), List.getElem?_replicate, if_neg ht]
/-- Does a list end in a number? -/
def endZ (l : List Int) (x : Int) : Bool := decide (0 < l.length ∧ nth l (l.length - 1) = x)
theorem curB_ends (L : List (List Int)) (k j i : Nat) : endZ (curB L k j i) (k : Int) = decide ((i : Int) ∈ (rowZ L k).take j) := by
  unfold endZ
  by_cases h : (i : Int) ∈ (rowZ L k).take j
  · rw [decide_eq_true h, decide_eq_true_eq]
    unfold curB
    rw [if_pos h, List.length_append]
    refine ⟨by simp, ?_⟩
    unfold nth
    simp [List.getD]
  · rw [decide_eq_false h, decide_eq_false_iff_not]
    unfold curB
    rw [if_neg h, List.append_nil]
    rintro ⟨h1, h2⟩
    have h3 := plcT_mem.1 (nth_mem (show (plcT (backR L i) k).length - 1 < (plcT (backR L i) k).length by omega))
    omega
theorem curB_len (L : List (List Int)) (k j i : Nat) : (curB L k j i).length ≤ k + 1 := by
  unfold curB
  have := plcT_len (backR L i) k
  rw [List.length_append]
  split <;> simp <;> omega
theorem rowZ_set {M : List (List Int)} {i t : Nat} {l : List Int} (ht : t < M.length) : rowZ (M.set i l) t = if i = t then l else rowZ M t := by
  unfold rowZ
  rw [List.getD_eq_getElem?_getD, List.getElem?_set, List.getD_eq_getElem?_getD]
  by_cases e : i = t
  · rw [if_pos e, if_pos e, if_pos (by omega)]; rfl
  · rw [if_neg e, if_neg e]

end Go.Proofs.YtgkdagnpefgjcaaGreat

namespace Go.Proofs.YtgkdagnpefgjcaaGreat
open Go.RowKit

theorem vn_set {vs : List Value} {i t : Nat} {v : Value} (ht : t < vs.length) : vn (vs.set i v) t = if i = t then v else vn vs t := by
  unfold vn
  rw [List.getD_eq_getElem?_getD, List.getElem?_set, List.getD_eq_getElem?_getD]
  by_cases e : i = t
  · rw [if_pos e, if_pos e, if_pos (by omega)]; rfl
  · rw [if_neg e, if_neg e]
theorem blk_off {w : World} {b : Nat} {e e2 : TypeId} {sz n : Nat} {v : Value} {xs : List Value} {g : Nat} {cs : Array Value} (h : w.ownsRow b e sz v n xs) (hg : w.heap[g]? = some (.cells cs e2 (0, 0))) (hne : e ≠ e2) : v.ownBlock ≠ some g := by
  rcases h.2 with ⟨rfl, _⟩ | ⟨k, cap, cur, rfl, _, hk, _⟩
  · intro e; cases e
  · intro e
    cases e
    rw [hk] at hg
    injection hg with hg
    injection hg with _ hh
    exact hne hh
/-- A list of lists in the block g, each list a block of its own behind base. -/
structure RowsW (w : World) (base g n : Nat) (vs : List Value) (M : List (List Int)) : Prop where
  box : w.heap[g]? = some (.cells vs.toArray 47 (0, 0))
  len : vs.length = n
  mlen : M.length = n
  hi : base ≤ g
  big : n ≤ 1048576
  row : ∀ i, i < n → w.ownsRow base 3 1 (vn vs i) (rowZ M i).length (iVals .i64 (rowZ M i))
  apart : ∀ i j, i < n → j < n → i ≠ j → ∀ q, (vn vs i).ownBlock = some q → (vn vs j).ownBlock ≠ some q
theorem RowsW.cell {w : World} {base g n : Nat} {vs : List Value} {M : List (List Int)} (h : RowsW w base g n vs M) {i : Nat} (hi : i < n) : w.cell? ⟨g, i, none⟩ = some (vn vs i) := by
  have hl := h.len
  simp [World.cell?, h.box, vn, List.getD, show i < vs.length by omega]
theorem RowsW.fro {w : World} {base g n : Nat} {vs : List Value} {M : List (List Int)} (h : RowsW w base g n vs M) (i : Nat) : w.frozen? ⟨g, i, none⟩ = false := box_fro h.box i
theorem RowsW.keep {w w1 : World} {base g n : Nat} {vs : List Value} {M : List (List Int)} (h : RowsW w base g n vs M) (hb : Below w.heap.size w w1) : RowsW w1 base g n vs M :=
  ⟨lb_box h.box hb, h.len, h.mlen, h.hi, h.big, fun i hi => row_keep (h.row i hi) hb, h.apart⟩
theorem RowsW.lt {w : World} {base g n : Nat} {vs : List Value} {M : List (List Int)} (h : RowsW w base g n vs M) : g < w.heap.size := (Array.getElem?_eq_some_iff.1 h.box).1
theorem RowsW.made (w : World) (n : Nat) (hn : n ≤ 1048576) : RowsW (w.alloc (.cells (madeCells #[.slice none 0 0] n) 47)) w.heap.size w.heap.size n (List.replicate n (.slice none 0 0)) (List.replicate n []) := by
  have hv : ∀ i, vn (List.replicate n (.slice none 0 0)) i = .slice none 0 0 := fun i => by
    unfold vn
    simp only [List.getD, List.getElem?_replicate]
    split <;> rfl
  have hr : ∀ i, rowZ (List.replicate n []) i = [] := fun i => by
    unfold rowZ
    simp only [List.getD, List.getElem?_replicate]
    split <;> rfl
  refine ⟨?_, by simp, by simp, Nat.le_refl _, hn, fun i _ => ?_, fun i j _ _ _ q hq => ?_⟩
  · rw [heap_alloc_new]
    congr 2
    apply Array.ext_getElem?
    intro i
    by_cases hi : i < n
    · simp [madeCells, hi, Nat.mod_one]
    · rw [Array.getElem?_eq_none (by simp [madeCells]; omega), Array.getElem?_eq_none (by simp; omega)]
  · rw [hv, hr]
    exact World.ownsRow_nil _ _ _ _
  · rw [hv] at hq
    cases hq
/-- One list is another one now. -/
theorem RowsW.put {w w1 : World} {base g n : Nat} {vs : List Value} {M : List (List Int)} (h : RowsW w base g n vs M) {i : Nat} (hi : i < n) {v : Value} {l : List Int} (hv : w1.ownsRow base 3 1 v l.length (iVals .i64 l)) (hg : w.grownBy w1 (vn vs i).ownBlock) (hloc : ∀ q, v.ownBlock = some q → (vn vs i).ownBlock = some q ∨ w.heap.size ≤ q) : RowsW (w1.setCell ⟨g, i, none⟩ v) base g n (vs.set i v) (M.set i l) := by
  have hlen := h.len
  have hml := h.mlen
  have hbox1 : w1.heap[g]? = some (.cells vs.toArray 47 (0, 0)) := by
    rw [hg.block g h.lt (fun e => blk_off (h.row i hi) h.box (by decide) e.symm)]
    exact h.box
  have hoff : ∀ t, t < n → t ≠ i → w1.ownsRow base 3 1 (vn vs t) (rowZ M t).length (iVals .i64 (rowZ M t)) := fun t ht hti => by
    refine (h.row t ht).kept hg ?_
    cases hk : (vn vs t).ownBlock with
    | none => exact .inl rfl
    | some k => exact .inr fun e => h.apart t i ht hi hti k hk e.symm
  refine ⟨?_, by rw [List.length_set]; exact hlen, by rw [List.length_set]; exact hml, h.hi, h.big, fun t ht => ?_, fun t s ht hs hts q hq hq2 => ?_⟩
  · rw [box_set hbox1]
    simp
  · rw [vn_set (by omega), rowZ_set (by omega)]
    by_cases e : i = t
    · rw [if_pos e, if_pos e]
      exact ownsRow_setCell_other hv (blk_off hv hbox1 (by decide)) _
    · rw [if_neg e, if_neg e]
      have h1 := hoff t ht (fun e2 => e e2.symm)
      exact ownsRow_setCell_other h1 (blk_off h1 hbox1 (by decide)) _
  · rw [vn_set (by omega)] at hq hq2
    by_cases e : i = t
    · rw [if_pos e] at hq
      rw [if_neg (by omega)] at hq2
      rcases hloc q hq with h1 | h1
      · exact h.apart s i hs hi (by omega) q hq2 h1
      · have := ((h.row s hs).lt q hq2).2
        omega
    · rw [if_neg e] at hq
      by_cases e2 : i = s
      · rw [if_pos e2] at hq2
        rcases hloc q hq2 with h1 | h1
        · exact h.apart t i ht hi (by omega) q hq h1
        · have := ((h.row t ht).lt q hq).2
          omega
      · rw [if_neg e2] at hq2
        exact h.apart t s ht hs hts q hq hq2
theorem RowsW.grown {w w1 : World} {base g n : Nat} {vs : List Value} {M : List (List Int)} (h : RowsW w base g n vs M) {i : Nat} (hi : i < n) (hg : w.grownBy w1 (vn vs i).ownBlock) : w1.cell? ⟨g, i, none⟩ = some (vn vs i) ∧ w1.frozen? ⟨g, i, none⟩ = false := by
  have hb : w1.heap[g]? = some (.cells vs.toArray 47 (0, 0)) := by
    rw [hg.block g h.lt (fun e => blk_off (h.row i hi) h.box (by decide) e.symm)]
    exact h.box
  have hl := h.len
  exact ⟨by simp [World.cell?, hb, vn, List.getD, show i < vs.length by omega], box_fro hb i⟩
theorem RowsW.rows {w : World} {base g n : Nat} {vs : List Value} {M : List (List Int)} (h : RowsW w base g n vs M) : RowsZ w base (.slice (some ⟨g, 0, none⟩) M.length n) vs M := by
  have hl := h.len
  have hm := h.mlen
  have hb := h.big
  refine ⟨⟨by omega, .inr ⟨g, n, vs.toArray, rfl, h.hi, h.box, by omega, by unfold maxLen; omega, by simp; omega, ?_⟩⟩, fun i hi => h.row i (by omega)⟩
  rw [List.take_of_length_le (by simp; omega)]
theorem make_sl (n : Nat) (hn : n ≤ 1048576) (w : World) : (Instr.makeSlice 32 (.int .i64 (n : Int)) (.int .i64 (n : Int))).run Tryz.prog w = .ok (.slice (some ⟨w.heap.size, 0, none⟩) n n) (w.alloc (.cells (madeCells #[.slice none 0 0] n) 47)) := by
  obtain ⟨i, hi, hz, hs, hb⟩ := infoS
  have h := run_makeSlice (P := Tryz.prog) w 32 47 i _ Tryz.underlying32 hi hz .i64 .i64 (n : Int) (n : Int) (by omega) (by omega) (by rw [hs]; omega) (by rw [hb]; omega) (by omega)
  rw [hs, show ((n : Int)).toNat = n by omega, Nat.mul_one] at h
  exact h
theorem RowsW.below {w w1 w2 : World} {base g n : Nat} {vs : List Value} {M : List (List Int)} {B : Nat} (h : RowsW w base g n vs M) {i : Nat} (hi : i < n) (hB : B ≤ base) (hw : Below B w2 w) (hz : B ≤ w.heap.size) (hg : w.grownBy w1 (vn vs i).ownBlock) (v : Value) : Below B w2 (w1.setCell ⟨g, i, none⟩ v) := by
  have h1 : Below B w2 w1 := hw.grown hg hz (fun b hb => Nat.le_trans hB ((h.row i hi).lt b hb).1)
  exact grown_belowR h1 (gset11 _ _ _ _) (Nat.le_trans hB h.hi) (Nat.le_trans hz hg.size)

end Go.Proofs.YtgkdagnpefgjcaaGreat

namespace Go.Proofs.YtgkdagnpefgjcaaGreat
open Go.RowKit

/-- A row of numbers, each as a function tells. -/
def NumsAt (w : World) (g n : Nat) (F : Int → Int) : Prop := ∃ cs : Array Value, w.heap[g]? = some (.cells cs 3 (0, 0)) ∧ cs.size = n ∧ ∀ i : Nat, i < n → cs[i]? = some (.int .i64 (F (i : Int)))
theorem NumsAt.lt {w : World} {g n : Nat} {F : Int → Int} (h : NumsAt w g n F) : g < w.heap.size := by
  obtain ⟨cs, h1, _⟩ := h
  exact (Array.getElem?_eq_some_iff.1 h1).1
theorem NumsAt.keep {w w1 : World} {g n : Nat} {F : Int → Int} (h : NumsAt w g n F) (hb : Below w.heap.size w w1) : NumsAt w1 g n F := by
  obtain ⟨cs, h1, h2⟩ := h
  exact ⟨cs, by rw [hb.block g (Array.getElem?_eq_some_iff.1 h1).1]; exact h1, h2⟩
theorem NumsAt.kept {w w1 : World} {g n : Nat} {F : Int → Int} {row : Option Nat} (h : NumsAt w g n F) (hg : w.grownBy w1 row) (hne : row ≠ some g) : NumsAt w1 g n F := by
  obtain ⟨cs, h1, h2⟩ := h
  exact ⟨cs, by rw [hg.block g (Array.getElem?_eq_some_iff.1 h1).1 (fun e => hne e.symm)]; exact h1, h2⟩
theorem NumsAt.cell {w : World} {g n : Nat} {F : Int → Int} (h : NumsAt w g n F) {x : Int} (h0 : 0 ≤ x) (h1 : x < n) : w.cell? ⟨g, x.toNat, none⟩ = some (.int .i64 (F x)) := by
  obtain ⟨cs, hb, hs, hc⟩ := h
  have := hc x.toNat (by omega)
  rw [show ((x.toNat : Nat) : Int) = x by omega] at this
  simp [World.cell?, hb, this]
theorem NumsAt.fro {w : World} {g n : Nat} {F : Int → Int} (h : NumsAt w g n F) (x : Nat) : w.frozen? ⟨g, x, none⟩ = false := by
  obtain ⟨cs, hb, _⟩ := h
  simp [World.frozen?, hb]
theorem NumsAt.set {w : World} {g n : Nat} {F : Int → Int} (h : NumsAt w g n F) {x : Int} (h0 : 0 ≤ x) (_h1 : x < n) (v : Int) : NumsAt (w.setCell ⟨g, x.toNat, none⟩ (.int .i64 v)) g n (fun y => if y = x then v else F y) := by
  obtain ⟨cs, hb, hs, hc⟩ := h
  refine ⟨cs.setIfInBounds x.toNat (.int .i64 v), box_set hb _ _, by simpa using hs, fun i hi => ?_⟩
  rw [Array.getElem?_setIfInBounds]
  by_cases e : x.toNat = i
  · rw [if_pos e, if_pos (by omega)]
    show _ = some (Value.int .i64 (if _ then _ else _))
    rw [if_pos (by omega)]
  · rw [if_neg e, hc i hi]
    show _ = some (Value.int .i64 (if _ then _ else _))
    rw [if_neg (by omega)]
theorem NumsAt.made (w : World) (n : Nat) : NumsAt (w.alloc (.cells (madeCells #[.int .i64 0] n) 3)) w.heap.size n (fun _ => 0) :=
  ⟨_, heap_alloc_new _ _, by simp [madeCells], fun i hi => by simp [madeCells, hi, Nat.mod_one]⟩
theorem make_nums (n : Nat) (hn : n ≤ 1048576) (w : World) : (Instr.makeSlice 47 (.int .i64 (n : Int)) (.int .i64 (n : Int))).run Tryz.prog w = .ok (.slice (some ⟨w.heap.size, 0, none⟩) n n) (w.alloc (.cells (madeCells #[.int .i64 0] n) 3)) := by
  obtain ⟨i, hi, hz, hs, hb⟩ := infoI
  have h := run_makeSlice (P := Tryz.prog) w 47 3 i _ Tryz.underlying47 hi hz .i64 .i64 (n : Int) (n : Int) (by omega) (by omega) (by rw [hs]; omega) (by rw [hb]; omega) (by omega)
  rw [hs, show ((n : Int)).toNat = n by omega, Nat.mul_one] at h
  exact h
/-- The blocks at whose beginnings a leap can end. -/
def knL (text : List Int) (ent : Int) : List Int := plcT (knK text ent) (blkL text ent).length
/-- The flow of an image, in the block gf. -/
structure Flw (w : World) (gf : Nat) (text : List Int) (ent : Int) (A1 A3 : Option Addr) (c1 gN c3 : Nat) (F : Int → Int) : Prop where
  box : w.heap[gf]? = some (.cells #[.slice A1 (blkL text ent).length c1, .slice (some ⟨gN, 0, none⟩) text.length text.length, .slice A3 (knL text ent).length c3] 58 (0, 0))
  lasts : w.ownsRow 0 72 5 (.slice A1 (blkL text ent).length c1) (blkL text ent).length (lstV (lastL text ent (blkL text ent).length))
  nums : NumsAt w gN text.length F
  num : NumF text ent (blkL text ent).length F
  known : w.ownsRow 0 3 1 (.slice A3 (knL text ent).length c3) (knL text ent).length (iVals .i64 (knL text ent))
def FlowAt (w : World) (gf : Nat) (text : List Int) (ent : Int) : Prop := ∃ (A1 A3 : Option Addr) (c1 gN c3 : Nat) (F : Int → Int), Flw w gf text ent A1 A3 c1 gN c3 F
theorem FlowAt.keep {w w1 : World} {gf : Nat} {text : List Int} {ent : Int} (h : FlowAt w gf text ent) (hb : Below w.heap.size w w1) : FlowAt w1 gf text ent := by
  obtain ⟨A1, A3, c1, gN, c3, F, h⟩ := h
  exact ⟨A1, A3, c1, gN, c3, F, lb_box h.box hb, row_keep h.lasts hb, h.nums.keep hb, h.num, row_keep h.known hb⟩
theorem Flw.last {w : World} {gf : Nat} {text : List Int} {ent : Int} {A1 A3 : Option Addr} {c1 gN c3 : Nat} {F : Int → Int} (h : Flw w gf text ent A1 A3 c1 gN c3 F) {k : Nat} (hk : k < (blkL text ent).length) : ∃ g1, A1 = some ⟨g1, 0, none⟩ ∧ ∀ j u, (insC (lastW text ent k))[j]? = some u → w.cell? ⟨g1, k * 5 + j, none⟩ = some u := by
  rcases h.lasts.2 with ⟨_, h0⟩ | ⟨g, cap, cur, e, _⟩
  · omega
  · injection e with e1 _ _
    refine ⟨g, e1, fun j u hu => ?_⟩
    have hj : j < 5 := by have := (List.getElem?_eq_some_iff.1 hu).1; simpa [insC] using this
    have h2 := lstV_get (l := lastL text ent (blkL text ent).length) (i := k) (j := j) (by rw [lastL_len]; exact hk) hj
    rw [lastL_nth hk, hu] at h2
    have h4 := h.lasts
    rw [e1] at h4
    have h3 := h4.cells (g := g) rfl (k * 5 + j) u h2
    rw [add0] at h3
    exact h3
theorem Flw.cells {w : World} {gf : Nat} {text : List Int} {ent : Int} {A1 A3 : Option Addr} {c1 gN c3 : Nat} {F : Int → Int} (h : Flw w gf text ent A1 A3 c1 gN c3 F) : w.cell? ⟨gf, 0, none⟩ = some (.slice A1 (blkL text ent).length c1) ∧ w.cell? ⟨gf, 1, none⟩ = some (.slice (some ⟨gN, 0, none⟩) text.length text.length) ∧ w.cell? ⟨gf, 2, none⟩ = some (.slice A3 (knL text ent).length c3) :=
  ⟨by simp [World.cell?, h.box], by simp [World.cell?, h.box], by simp [World.cell?, h.box]⟩
/-- A list to be read: of new memory, or the flow's own. -/
def RowR (gf : Nat) (l : List Int) (w : World) (e : Ending) (w' : World) : Prop := ∃ (A : Option Addr) (c : Nat), e = .returned (.slice A l.length c) ∧ w'.ownsRow 0 3 1 (.slice A l.length c) l.length (iVals .i64 l) ∧ Below w.heap.size w w' ∧ ((∀ q, (Value.slice A l.length c).ownBlock = some q → w.heap.size ≤ q) ∨ w.cell? ⟨gf, 2, none⟩ = some (.slice A l.length c))
theorem own_new {A : Option Addr} {n c g m : Nat} (hA : A = some ⟨g, 0, none⟩) (h : m ≤ g) : ∀ q, (Value.slice A n c).ownBlock = some q → m ≤ q := fun q hq => by
  subst hA
  cases hq
  exact h
theorem new_one {w : World} {g : Nat} {x : Int} (hg : g = w.heap.size) : (w.alloc (.cells #[.int .i64 x] 3)).ownsRow 0 3 1 (.slice (some ⟨g, 0, none⟩) 1 1) 1 (iVals .i64 [x]) := by
  subst hg
  exact ⟨rfl, .inr ⟨w.heap.size, 1, _, rfl, Nat.zero_le _, heap_alloc_new _ _, Nat.le_refl _, by unfold maxLen; omega, rfl, rfl⟩⟩
theorem new_pair {w : World} {g : Nat} {x y : Int} (hg : g = w.heap.size) : (w.alloc (.cells #[.int .i64 x, .int .i64 y] 3)).ownsRow 0 3 1 (.slice (some ⟨g, 0, none⟩) 2 2) 2 (iVals .i64 [x, y]) := by
  subst hg
  exact ⟨rfl, .inr ⟨w.heap.size, 2, _, rfl, Nat.zero_le _, heap_alloc_new _ _, Nat.le_refl _, by unfold maxLen; omega, rfl, rfl⟩⟩
def leapB (op : Int) : Bool := op == 18 || op == 19

end Go.Proofs.YtgkdagnpefgjcaaGreat
