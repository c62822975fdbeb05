/-
  A row of cells and a map are not one; new blocks. Edges turned round, step by step; no Go in sight. Rows that lie apart, as one of them grows. A list of lists that is written over; no Go in sight.
-/
import Derived.Test.YtmlhnnmelopleaaGreatDoorProg
import Derived.WalkKit
import Derived.WalkSpells
import Derived.WalkLawsBesides
import Derived.RowKit3
import Derived.Below
import Derived.Deep.QuietTactic
import Derived.BigQuiet
import Derived.WalkSmall
import Derived.Laws.Rows
import Derived.Test.YtmlhnnmelopleaaGreatDoorPs11
import Derived.Test.YtmlhnnmelopleaaGreatDoorPs04
import Derived.Test.YtmlhnnmelopleaaGreatDoorPs10
namespace Go.Proofs.YtmlhnnmelopleaaGreatDoor
open Go.RowKit

theorem newAtK {w : World} {o : Obj} {n : Nat} (h : n = w.heap.size) : (w.alloc o).heap[n]? = some o := by subst h; exact heap_alloc_new w o
theorem Mks.notrow {w : World} {b n : Nat} {f : Int → Bool} (h : Mks w b n f) {base : Nat} {e : TypeId} {sz : Nat} {v : Value} {m : Nat} {xs : List Value} (hr : w.ownsRow base e sz v m xs) : some b ≠ v.ownBlock := by
  obtain ⟨D, ⟨es, clock, h1, h2⟩, h3⟩ := h
  rcases hr.2 with ⟨rfl, _⟩ | ⟨g, cap, cur, rfl, _, hg2, _⟩
  · intro e; cases e
  · intro e
    cases e
    rw [h1] at hg2
    cases hg2




end Go.Proofs.YtmlhnnmelopleaaGreatDoor

namespace Go.Proofs.YtmlhnnmelopleaaGreatDoor
open Go.RowKit

/-- What the list i has, when k lists and j numbers of the next one were gone through. -/
def curB (L : List (List Int)) (k j i : Nat) : List Int := plcT (backR L i) k ++ (if (i : Int) ∈ (rowZ L k).take j then [(k : Int)] else [])
def bst (L : List (List Int)) (k j : Nat) : List (List Int) := (List.range L.length).map (curB L k j)
theorem bst_len (L : List (List Int)) (k j : Nat) : (bst L k j).length = L.length := by simp [bst]
theorem bst_row {L : List (List Int)} {k j i : Nat} (h : i < L.length) : rowZ (bst L k j) i = curB L k j i := rowZ_map h
theorem take_next {l : List Int} {j : Nat} (h : j < l.length) (x : Int) : x ∈ l.take (j + 1) ↔ x ∈ l.take j ∨ x = nth l j := by
  rw [List.take_succ_eq_append_getElem h, List.mem_append, List.mem_singleton]
  have : nth l j = l[j] := by simp [nth, List.getD, h]
  rw [this]
theorem curB_same {L : List (List Int)} {k j i : Nat} (hj : j < (rowZ L k).length) (h : (i : Int) ≠ nth (rowZ L k) j ∨ nth (rowZ L k) j ∈ (rowZ L k).take j) : curB L k (j + 1) i = curB L k j i := by
  unfold curB
  by_cases h1 : (i : Int) ∈ (rowZ L k).take j
  · rw [if_pos h1, if_pos ((take_next hj _).2 (.inl h1))]
  · rw [if_neg h1, if_neg]
    intro h2
    rcases (take_next hj _).1 h2 with h2 | h2
    · exact h1 h2
    · rcases h with h | h
      · exact h h2
      · rw [h2] at h1; exact h1 h
theorem bst_skip {L : List (List Int)} {k j : Nat} (hj : j < (rowZ L k).length) (h : nth (rowZ L k) j < 0 ∨ (L.length : Int) ≤ nth (rowZ L k) j ∨ nth (rowZ L k) j ∈ (rowZ L k).take j) : bst L k (j + 1) = bst L k j := by
  unfold bst
  refine List.map_congr_left fun i hi => ?_
  have hi : i < L.length := by simpa using hi
  refine curB_same hj ?_
  rcases h with h | h | h
  · exact .inl (by omega)
  · exact .inl (by omega)
  · exact .inr h
theorem bst_add {L : List (List Int)} {k j : Nat} (hj : j < (rowZ L k).length) {i : Nat} (hi : i < L.length) (h0 : nth (rowZ L k) j = (i : Int)) (h1 : (i : Int) ∉ (rowZ L k).take j) : bst L k (j + 1) = (bst L k j).set i (rowZ (bst L k j) i ++ [(k : Int)]) := by
  apply List.ext_getElem?
  intro t
  rw [List.getElem?_set, bst_len]
  by_cases ht : t < L.length
  · by_cases e : i = t
    · subst e
      rw [if_pos rfl, if_pos hi, bst_row hi]
      have : (bst L k (j + 1))[i]? = some (curB L k (j + 1) i) := by simp [bst, hi]
      rw [this]
      congr 1
      unfold curB
      rw [if_neg h1, if_pos ((take_next hj _).2 (.inr h0.symm)), List.append_nil]
    · rw [if_neg e]
      have a : (bst L k (j + 1))[t]? = some (curB L k (j + 1) t) := by simp [bst, ht]
      have b : (bst L k j)[t]? = some (curB L k j t) := by simp [bst, ht]
      rw [a, b, curB_same hj (.inl (by rw [h0]; omega))]
  · rw [List.getElem?_eq_none (by rw [bst_len]; omega), if_neg (by omega), List.getElem?_eq_none (by rw [bst_len]; omega)]
theorem bst_next (L : List (List Int)) (k : Nat) : bst L k (rowZ L k).length = bst L (k + 1) 0 := by
  unfold bst
  refine List.map_congr_left fun i hi => ?_
  unfold curB
  rw [List.take_length, List.take_zero, if_neg (List.not_mem_nil), List.append_nil]
  by_cases h : (i : Int) ∈ rowZ L k
  · rw [if_pos h, plcT_yes]
    unfold backR hasZ
    rw [decide_eq_true_eq]
    simpa using h
  · rw [if_neg h, List.append_nil, plcT_no]
    unfold backR hasZ
    rw [decide_eq_false_iff_not]
    simpa using h
theorem bst_end (L : List (List Int)) : bst L L.length 0 = backT L L.length := by
  unfold bst backT
  refine List.map_congr_left fun i hi => ?_
  unfold curB
  rw [List.take_zero, if_neg (List.not_mem_nil), List.append_nil]
theorem bst_zero (L : List (List Int)) : bst L 0 0 = List.replicate L.length [] := by
  apply List.ext_getElem?
  intro t
  by_cases ht : t < L.length
  · have a : (bst L 0 0)[t]? = some (curB L 0 0 t) := by simp [bst, ht]
    rw [a, List.getElem?_replicate, if_pos ht]
    first | rfl | (unfold curB; rw [List.take_zero, if_neg (List.not_mem_nil), List.append_nil, plcT_zero])
  · rw [List.getElem?_eq_none (by rw [bst_len]; omega), List.getElem?_replicate, if_neg ht]
/-- Does a list end in a number? -/
def endZ (l : List Int) (x : Int) : Bool := decide (0 < l.length ∧ nth l (l.length - 1) = x)
theorem curB_ends (L : List (List Int)) (k j i : Nat) : endZ (curB L k j i) (k : Int) = decide ((i : Int) ∈ (rowZ L k).take j) := by
  unfold endZ
  by_cases h : (i : Int) ∈ (rowZ L k).take j
  · rw [decide_eq_true h, decide_eq_true_eq]
    unfold curB
    rw [if_pos h, List.length_append]
    refine ⟨by simp, ?_⟩
    unfold nth
    simp [List.getD]
  · rw [decide_eq_false h, decide_eq_false_iff_not]
    unfold curB
    rw [if_neg h, List.append_nil]
    rintro ⟨h1, h2⟩
    have h3 := plcT_mem.1 (nth_mem (show (plcT (backR L i) k).length - 1 < (plcT (backR L i) k).length by omega))
    omega
theorem curB_len (L : List (List Int)) (k j i : Nat) : (curB L k j i).length ≤ k + 1 := by
  unfold curB
  have := plcT_len (backR L i) k
  rw [List.length_append]
  split <;> simp <;> omega
theorem rowZ_set {M : List (List Int)} {i t : Nat} {l : List Int} (ht : t < M.length) : rowZ (M.set i l) t = if i = t then l else rowZ M t := by
  unfold rowZ
  rw [List.getD_eq_getElem?_getD, List.getElem?_set, List.getD_eq_getElem?_getD]
  by_cases e : i = t
  · rw [if_pos e, if_pos e, if_pos (by omega)]; rfl
  · rw [if_neg e, if_neg e]



end Go.Proofs.YtmlhnnmelopleaaGreatDoor

namespace Go.Proofs.YtmlhnnmelopleaaGreatDoor
open Go.RowKit

/-- The row that grows is none of those that are done. -/
def Offs (vs : List Value) (n : Nat) (v : Value) : Prop := ∀ i, i < n → ∀ q, (vn vs i).ownBlock = some q → v.ownBlock ≠ some q
theorem offs_nil (vs : List Value) (n : Nat) : Offs vs n (.slice none 0 0) := fun _ _ _ _ e => by cases e
/-- Where a row lies that was appended to: in its own block, or in a new one. -/
theorem run_append_at (w : World) {P : Program} (base : Nat) (t ty e : TypeId) (i : TypeInfo) (z : Value) (size bytes : Nat) (ht : P.underlying t = some (.slice e)) (hi : P.info? e = some i) (hz : i.zero = some z)
    (hsize : i.size = size) (hby : i.bytes = bytes) (hzs : z.cells.size = size) (hsz : 0 < size)
    (v : Value) (n : Nat) (xs : List Value) (hown : w.ownsRow base e size v n xs)
    (a : Addr) (m c : Nat) (news : List Value) (hl : news.length = m * size) (hnews : ∀ j u, news[j]? = some u → w.cell? (a.add j) = some u) (h1 : ∀ u ∈ news, u.oneCell' = true)
    (hm : 0 < m) (h63 : n + m ≤ maxLen) (hbytes : (n + m) * bytes ≤ 140737488355328) (hb : base ≤ w.heap.size) :
    ∃ g cap w', (Builtin.append_ #[t, t] ty #[v, .slice (some a) m c]).run P w = .ok (.slice (some ⟨g, 0, none⟩) (n + m) cap) w' ∧
      w'.ownsRow base e size (.slice (some ⟨g, 0, none⟩) (n + m) cap) (n + m) (xs ++ news) ∧ w.grownBy w' v.ownBlock ∧ (v.ownBlock = some g ∨ w.heap.size ≤ g) := by
  obtain ⟨g, cap, w', hr, h2, h3, h4⟩ := run_append_two (P := P) w t ty e i z size bytes ht hi hz hsize hby hzs hsz v n xs (ownsRow_mono hown (Nat.zero_le _)) a m c news hl hnews h1 hm h63 hbytes
  have hg : v.ownBlock = some g ∨ w.heap.size ≤ g := by
    rcases h4 with h4 | ⟨h4, _⟩
    · exact .inl (by rw [h4]; rfl)
    · exact .inr (by omega)
  refine ⟨g, cap, w', hr, ?_, h3, hg⟩
  refine ⟨h2.1, ?_⟩
  rcases h2.2 with ⟨e1, e2⟩ | ⟨g2, cap2, cur, e1, _, r⟩
  · cases e1
  · cases e1
    refine .inr ⟨g, cap, cur, rfl, ?_, r⟩
    rcases hg with k | k
    · exact (hown.lt g k).1
    · omega
theorem wpList_append_at {P : Program} (w : World) {ops : Array Oper} {rest : List Oper} {o : Oper} {a : Act} {Q : Exit → Act → World → Prop} (hgd : o.guard = none) (s x : Operand) (t : TypeId)
    (ho : o.op = .call { callee := .builtin .append, args := #[s, x], argTypes := #[t, t] }) (base : Nat)
    (e : TypeId) (i : TypeInfo) (z : Value) (size bytes : Nat) (ht : P.underlying t = some (.slice e)) (hi : P.info? e = some i) (hz : i.zero = some z)
    (hsize : i.size = size) (hby : i.bytes = bytes) (hzs : z.cells.size = size) (hsz : 0 < size)
    (v : Value) (n : Nat) (xs : List Value) (hs : a.eval s = v) (hown : w.ownsRow base e size v n xs)
    (ad : Addr) (m c : Nat) (news : List Value) (hx : a.eval x = .slice (some ad) m c) (hl : news.length = m * size) (hnews : ∀ j u, news[j]? = some u → w.cell? (ad.add j) = some u) (h1 : ∀ u ∈ news, u.oneCell' = true)
    (hm : 0 < m) (h63 : n + m ≤ maxLen) (hbytes : (n + m) * bytes ≤ 140737488355328) (hb : base ≤ w.heap.size)
    (h : ∀ g cap w', w'.ownsRow base e size (.slice (some ⟨g, 0, none⟩) (n + m) cap) (n + m) (xs ++ news) → w.grownBy w' v.ownBlock → (v.ownBlock = some g ∨ w.heap.size ≤ g) → wpList P ops Q rest (a.put o.dst (.slice (some ⟨g, 0, none⟩) (n + m) cap)) w') : wpList P ops Q (o :: rest) a w :=
  wpList_plain hgd fun K hK => by
    obtain ⟨g, cap, w', hr, h2, h3, h4⟩ := run_append_at (P := P) w base t o.type e i z size bytes ht hi hz hsize hby hzs hsz v n xs hown ad m c news hl hnews h1 hm h63 hbytes hb
    unfold Oper.wp execOp
    simp only [ho, resolve, invoke, builtin, Sem.run_bind, Sem.run_pure, Result.andThen_ok, List.map_toArray, List.map_cons, List.map_nil, hs, hx, hr]
    exact hK _ _ (h g cap w' h2 h3 h4)
theorem offs_grow {w : World} {base : Nat} {V v : Value} {vs : List Value} {L : List (List Int)} {g n cap : Nat} (hZ : RowsZ w base V vs L) (h : Offs vs L.length v) (hl : v.ownBlock = some g ∨ w.heap.size ≤ g) : Offs vs L.length (.slice (some ⟨g, 0, none⟩) n cap) := fun i hi q hq e => by
  have eg : g = q := by simpa [Value.ownBlock] using e
  subst eg
  rcases hl with k | k
  · exact h i hi g hq k
  · have := ((hZ.row i hi).lt g hq).2
    omega




end Go.Proofs.YtmlhnnmelopleaaGreatDoor

namespace Go.Proofs.YtmlhnnmelopleaaGreatDoor
open Go.RowKit

theorem vn_set {vs : List Value} {i t : Nat} {v : Value} (ht : t < vs.length) : vn (vs.set i v) t = if i = t then v else vn vs t := by
  unfold vn
  rw [List.getD_eq_getElem?_getD, List.getElem?_set, List.getD_eq_getElem?_getD]
  by_cases e : i = t
  · rw [if_pos e, if_pos e, if_pos (by omega)]; rfl
  · rw [if_neg e, if_neg e]
theorem blk_off {w : World} {b : Nat} {e e2 : TypeId} {sz n : Nat} {v : Value} {xs : List Value} {g : Nat} {cs : Array Value} (h : w.ownsRow b e sz v n xs) (hg : w.heap[g]? = some (.cells cs e2 (0, 0))) (hne : e ≠ e2) : v.ownBlock ≠ some g := by
  rcases h.2 with ⟨rfl, _⟩ | ⟨k, cap, cur, rfl, _, hk, _⟩
  · intro e; cases e
  · intro e
    cases e
    rw [hk] at hg
    injection hg with hg
    injection hg with _ hh
    exact hne hh
/-- A list of lists in the block g, each list a block of its own behind base. -/
structure RowsW (w : World) (base g n : Nat) (vs : List Value) (M : List (List Int)) : Prop where
  box : w.heap[g]? = some (.cells vs.toArray 32 (0, 0))
  len : vs.length = n
  mlen : M.length = n
  hi : base ≤ g
  big : n ≤ 1048576
  row : ∀ i, i < n → w.ownsRow base 3 1 (vn vs i) (rowZ M i).length (iVals .i64 (rowZ M i))
  apart : ∀ i j, i < n → j < n → i ≠ j → ∀ q, (vn vs i).ownBlock = some q → (vn vs j).ownBlock ≠ some q
theorem RowsW.cell {w : World} {base g n : Nat} {vs : List Value} {M : List (List Int)} (h : RowsW w base g n vs M) {i : Nat} (hi : i < n) : w.cell? ⟨g, i, none⟩ = some (vn vs i) := by
  have hl := h.len
  simp [World.cell?, h.box, vn, List.getD, show i < vs.length by omega]
theorem RowsW.fro {w : World} {base g n : Nat} {vs : List Value} {M : List (List Int)} (h : RowsW w base g n vs M) (i : Nat) : w.frozen? ⟨g, i, none⟩ = false := box_fro h.box i
theorem RowsW.keep {w w1 : World} {base g n : Nat} {vs : List Value} {M : List (List Int)} (h : RowsW w base g n vs M) (hb : Below w.heap.size w w1) : RowsW w1 base g n vs M :=
  ⟨lb_box h.box hb, h.len, h.mlen, h.hi, h.big, fun i hi => row_keep (h.row i hi) hb, h.apart⟩
theorem RowsW.lt {w : World} {base g n : Nat} {vs : List Value} {M : List (List Int)} (h : RowsW w base g n vs M) : g < w.heap.size := (Array.getElem?_eq_some_iff.1 h.box).1
theorem RowsW.made (w : World) (n : Nat) (hn : n ≤ 1048576) : RowsW (w.alloc (.cells (madeCells #[.slice none 0 0] n) 32)) w.heap.size w.heap.size n (List.replicate n (.slice none 0 0)) (List.replicate n []) := by
  have hv : ∀ i, vn (List.replicate n (.slice none 0 0)) i = .slice none 0 0 := fun i => by
    unfold vn
    simp only [List.getD, List.getElem?_replicate]
    split <;> rfl
  have hr : ∀ i, rowZ (List.replicate n []) i = [] := fun i => by
    unfold rowZ
    simp only [List.getD, List.getElem?_replicate]
    split <;> rfl
  refine ⟨?_, by simp, by simp, Nat.le_refl _, hn, fun i _ => ?_, fun i j _ _ _ q hq => ?_⟩
  · rw [heap_alloc_new]
    congr 2
    apply Array.ext_getElem?
    intro i
    by_cases hi : i < n
    · simp [madeCells, hi, Nat.mod_one]
    · rw [Array.getElem?_eq_none (by simp [madeCells]; omega), Array.getElem?_eq_none (by simp; omega)]
  · rw [hv, hr]
    exact World.ownsRow_nil _ _ _ _
  · rw [hv] at hq
    cases hq
/-- One list is another one now. -/
theorem RowsW.put {w w1 : World} {base g n : Nat} {vs : List Value} {M : List (List Int)} (h : RowsW w base g n vs M) {i : Nat} (hi : i < n) {v : Value} {l : List Int} (hv : w1.ownsRow base 3 1 v l.length (iVals .i64 l)) (hg : w.grownBy w1 (vn vs i).ownBlock) (hloc : ∀ q, v.ownBlock = some q → (vn vs i).ownBlock = some q ∨ w.heap.size ≤ q) : RowsW (w1.setCell ⟨g, i, none⟩ v) base g n (vs.set i v) (M.set i l) := by
  have hlen := h.len
  have hml := h.mlen
  have hbox1 : w1.heap[g]? = some (.cells vs.toArray 32 (0, 0)) := by
    rw [hg.block g h.lt (fun e => blk_off (h.row i hi) h.box (by decide) e.symm)]
    exact h.box
  have hoff : ∀ t, t < n → t ≠ i → w1.ownsRow base 3 1 (vn vs t) (rowZ M t).length (iVals .i64 (rowZ M t)) := fun t ht hti => by
    refine (h.row t ht).kept hg ?_
    cases hk : (vn vs t).ownBlock with
    | none => exact .inl rfl
    | some k => exact .inr fun e => h.apart t i ht hi hti k hk e.symm
  refine ⟨?_, by rw [List.length_set]; exact hlen, by rw [List.length_set]; exact hml, h.hi, h.big, fun t ht => ?_, fun t s ht hs hts q hq hq2 => ?_⟩
  · rw [box_set hbox1]
    simp
  · rw [vn_set (by omega), rowZ_set (by omega)]
    by_cases e : i = t
    · rw [if_pos e, if_pos e]
      exact ownsRow_setCell_other hv (blk_off hv hbox1 (by decide)) _
    · rw [if_neg e, if_neg e]
      have h1 := hoff t ht (fun e2 => e e2.symm)
      exact ownsRow_setCell_other h1 (blk_off h1 hbox1 (by decide)) _
  · rw [vn_set (by omega)] at hq hq2
    by_cases e : i = t
    · rw [if_pos e] at hq
      rw [if_neg (by omega)] at hq2
      rcases hloc q hq with h1 | h1
      · exact h.apart s i hs hi (by omega) q hq2 h1
      · have := ((h.row s hs).lt q hq2).2
        omega
    · rw [if_neg e] at hq
      by_cases e2 : i = s
      · rw [if_pos e2] at hq2
        rcases hloc q hq2 with h1 | h1
        · exact h.apart t i ht hi (by omega) q hq h1
        · have := ((h.row t ht).lt q hq).2
          omega
      · rw [if_neg e2] at hq2
        exact h.apart t s ht hs hts q hq hq2
theorem RowsW.grown {w w1 : World} {base g n : Nat} {vs : List Value} {M : List (List Int)} (h : RowsW w base g n vs M) {i : Nat} (hi : i < n) (hg : w.grownBy w1 (vn vs i).ownBlock) : w1.cell? ⟨g, i, none⟩ = some (vn vs i) ∧ w1.frozen? ⟨g, i, none⟩ = false := by
  have hb : w1.heap[g]? = some (.cells vs.toArray 32 (0, 0)) := by
    rw [hg.block g h.lt (fun e => blk_off (h.row i hi) h.box (by decide) e.symm)]
    exact h.box
  have hl := h.len
  exact ⟨by simp [World.cell?, hb, vn, List.getD, show i < vs.length by omega], box_fro hb i⟩
theorem RowsW.rows {w : World} {base g n : Nat} {vs : List Value} {M : List (List Int)} (h : RowsW w base g n vs M) : RowsZ w base (.slice (some ⟨g, 0, none⟩) M.length n) vs M := by
  have hl := h.len
  have hm := h.mlen
  have hb := h.big
  refine ⟨⟨by omega, .inr ⟨g, n, vs.toArray, rfl, h.hi, h.box, by omega, by unfold maxLen; omega, by simp; omega, ?_⟩⟩, fun i hi => h.row i (by omega)⟩
  rw [List.take_of_length_le (by simp; omega)]
theorem make_sl (n : Nat) (hn : n ≤ 1048576) (w : World) : (Instr.makeSlice 127 (.int .i64 (n : Int)) (.int .i64 (n : Int))).run Tryz.prog w = .ok (.slice (some ⟨w.heap.size, 0, none⟩) n n) (w.alloc (.cells (madeCells #[.slice none 0 0] n) 32)) := by
  obtain ⟨i, hi, hz, hs, hb⟩ := infoS
  have h := run_makeSlice (P := Tryz.prog) w 127 32 i _ Tryz.underlying127 hi hz .i64 .i64 (n : Int) (n : Int) (by omega) (by omega) (by rw [hs]; omega) (by rw [hb]; omega) (by omega)
  rw [hs, show ((n : Int)).toNat = n by omega, Nat.mul_one] at h
  exact h
theorem RowsW.below {w w1 w2 : World} {base g n : Nat} {vs : List Value} {M : List (List Int)} {B : Nat} (h : RowsW w base g n vs M) {i : Nat} (hi : i < n) (hB : B ≤ base) (hw : Below B w2 w) (hz : B ≤ w.heap.size) (hg : w.grownBy w1 (vn vs i).ownBlock) (v : Value) : Below B w2 (w1.setCell ⟨g, i, none⟩ v) := by
  have h1 : Below B w2 w1 := hw.grown hg hz (fun b hb => Nat.le_trans hB ((h.row i hi).lt b hb).1)
  exact grown_belowR h1 (gset11 _ _ _ _) (Nat.le_trans hB h.hi) (Nat.le_trans hz hg.size)



end Go.Proofs.YtmlhnnmelopleaaGreatDoor
