/-
  slices.Clone and rising of package edge, by what they answer; at most 1048576 numbers. Rows that lie apart, as one of them grows. A list of lists that is written over; no Go in sight. The flow of an image in memory.
-/
import Derived.Test.YtfnicgihpelhhaaGreatProg
import Derived.WalkKit
import Derived.WalkSpells
import Derived.WalkLawsBesides
import Derived.RowKit3
import Derived.Below
import Derived.Deep.QuietTactic
import Derived.BigQuiet
import Derived.WalkSmall
import Derived.Laws.Rows
import Derived.Lib.OwnBridge
import Derived.Sort.OwnSortedInts
import Derived.Test.YtfnicgihpelhhaaGreatPd11
import Derived.Test.YtfnicgihpelhhaaGreatPd35
import Derived.Test.YtfnicgihpelhhaaGreatPd12
import Derived.Test.YtfnicgihpelhhaaGreatPd13
namespace Go.Proofs.YtfnicgihpelhhaaGreat
open Go.RowKit

open Go.Sort
/-- An answer that is a list of its own memory. -/
def RowP (l : List Int) (w : World) (e : Ending) (w' : World) : Prop := ∃ (A : Option Addr) (c : Nat), e = .returned (.slice A l.length c) ∧ w'.ownsRow w.heap.size 3 1 (.slice A l.length c) l.length (iVals .i64 l) ∧ Below w.heap.size w w'
theorem clone_any (base : Nat) (A : Option Addr) (c : Nat) (l : List Int) (w : World) (h : w.ownsRow base 3 1 (.slice A l.length c) l.length (iVals .i64 l)) (hl : l.length ≤ 1048576) :
    Calls Tryz.prog 88 #[.slice A l.length c] w (RowP l w) := by
  have hi := row_ints h
  rcases h.2 with ⟨e, h0⟩ | ⟨g, cap, cur, e, hb, hg, hn, hm, hs, ht⟩
  · injection e with e1 e2 e3
    subst e1
    rw [h0]
    obtain rfl : l = [] := List.length_eq_zero_iff.1 h0
    refine (Any.slices_Clone_int_nil Tryz.layC 0 c w).mono fun e w' he => ?_
    obtain ⟨rfl, rfl⟩ := he
    exact ⟨none, 0, rfl, World.ownsRow_nil _ _ _ _, Below.refl _ _⟩
  · injection e with e1 e2 e3
    subst e1
    refine (Any.slices_Clone_int Tryz.layC g 0 l.length c l w (Nat.le_refl _) (by omega) (fun j hj => ?_)).mono fun e w' he => ?_
    · obtain ⟨a, ea, q⟩ := hi j hj
      obtain rfl := Option.some.inj ea
      rw [add0] at q
      rw [Nat.zero_add]
      exact q
    · obtain ⟨v, rfl, hown, _, hbl⟩ := he
      rw [List.take_of_length_le (Nat.le_refl _)] at hown
      obtain ⟨A2, c2, rfl⟩ := own_form hown
      exact ⟨A2, c2, rfl, hown, hbl⟩
/-- What the three leave. -/
theorem ris_end {w w1 : World} {g cap n nn q : Nat} {os : Array Obj} {l : List Int} (hown : w1.ownsRow w.heap.size 3 1 (.slice (some ⟨g, 0, none⟩) n cap) n (l.map (Value.int .i64))) (hbel : Below w.heap.size w w1) (hlen : l.length = n) :
    (putRow (Value.int .i64) (Sort.ahead (grow (putRow (Value.int .i64) (Sort.ahead w1 nn) g 0 (l.mergeSort fun x y => decide (x ≤ y)).toArray) os) q) g 0 (risZ l ++ List.replicate (n - (risZ l).length) 0).toArray).ownsRow w.heap.size 3 1 (.slice (some ⟨g, 0, none⟩) (risZ l).length cap) (risZ l).length (iVals .i64 (risZ l)) ∧ Below w.heap.size w (putRow (Value.int .i64) (Sort.ahead (grow (putRow (Value.int .i64) (Sort.ahead w1 nn) g 0 (l.mergeSort fun x y => decide (x ≤ y)).toArray) os) q) g 0 (risZ l ++ List.replicate (n - (risZ l).length) 0).toArray) := by
  have hl2 : (l.mergeSort fun x y => decide (x ≤ y)).length = l.length := List.length_mergeSort l
  have hle := ris_len l
  subst hlen
  rcases hown.2 with ⟨h0, _⟩ | ⟨g', cap', cur, hv, hbase, hb, h1, h2, h3, h4⟩
  · cases h0
  cases hv
  have hs := ownsRow_sortedI (n := nn) (os := os) (ts := l.mergeSort fun x y => decide (x ≤ y)) hl2 hbase hb h1 h2 h3
  have hc := Lib.ownsRow_putRow (q := q) (k := (risZ l).length) (ys := risZ l ++ List.replicate (l.length - (risZ l).length) 0) hs (by simp; omega) (by omega)
  rw [List.take_left] at hc
  exact ⟨hc, Lib.below_putRow (hbel.grown (grownBy_sortedI _) hbel.size (fun j hj => by cases hj; exact hbase)) hbase⟩
set_option maxHeartbeats 1000000 in
theorem rising_any (base : Nat) (A : Option Addr) (c : Nat) (l : List Int) (w : World) (h : w.ownsRow base 3 1 (.slice A l.length c) l.length (iVals .i64 l)) (hl : l.length ≤ 1048576) :
    Calls Tryz.prog 113 #[.slice A l.length c] w (RowP (risZ l) w) := by
  have C := clone_any base A c l w h hl
  clear h
  by_cases h0 : l.length = 0
  · obtain rfl : l = [] := List.length_eq_zero_iff.1 h0
    have C : Calls Tryz.prog 88 #[.slice A 0 c] w (RowP [] w) := C
    have HR : Hid (risZ [] = []) := by unfold Hid; exact List.length_eq_zero_iff.1 (by have := ris_len []; simpa using this)
    have hg : ∀ (p : Option Addr) (k : Nat) (wx : World), Calls Tryz.prog 126 #[.slice p 0 k] wx fun e w' => e = .returned (.tuple #[]) ∧ w' = wx := fun p k wx => Any.slices_Sort_int_none Tryz.layS p k wx
    have hc : ∀ (p : Option Addr) (k : Nat) (wx : World), Calls Tryz.prog 127 #[.slice p 0 k] wx fun e w' => e = .returned (.slice p 0 k) ∧ w' = wx := fun p k wx => Any.slices_Compact_int_empty Tryz.layK p k wx
    clear hl h0
    show Calls Tryz.prog 113 #[.slice A 0 c] w (RowP (risZ []) w)
    go_enter Tryz.func113, Tryz.ntmps113
    go_wp2_with (first
      | (go_at_call 88; refine C.mono ?_; rintro e w1 ⟨A1, c1, rfl, hown, hb1⟩)
      | (go_at_call 126; refine (hg _ _ _).mono ?_; rintro e w2 ⟨rfl, rfl⟩)
      | (go_at_call 127; refine (hc _ _ _).mono ?_; rintro e w3 ⟨rfl, rfl⟩))
    go_ret
    rw [HR.out]
    exact ⟨A1, c1, rfl, hown, hb1⟩
  · have hln : l ≠ [] := fun e => h0 (by rw [e]; rfl)
    have hmz : ∀ (g k : Nat) (wx : World), Sort.Holds (Value.int .i64) wx g 0 l.toArray → g < wx.heap.size → Calls Tryz.prog 126 #[.slice (some ⟨g, 0, none⟩) l.length k] wx fun e w' => e = .returned (.tuple #[]) ∧ ∃ n os, w' = grow (putRow (Value.int .i64) (Sort.ahead wx n) g 0 (l.mergeSort fun x y => decide (x ≤ y)).toArray) os := fun g k wx hH hgl => Any.slices_Sort_int Tryz.layS g 0 k l wx hH hgl (by omega)
    have hcz : ∀ (g k : Nat) (wx : World), Sort.Holds (Value.int .i64) wx g 0 (l.mergeSort fun x y => decide (x ≤ y)).toArray → l.length ≤ k → Calls Tryz.prog 127 #[.slice (some ⟨g, 0, none⟩) l.length k] wx fun e w' => e = .returned (.slice (some ⟨g, 0, none⟩) (risZ l).length k) ∧ ∃ q, w' = putRow (Value.int .i64) (Sort.ahead wx q) g 0 (risZ l ++ List.replicate (l.length - (risZ l).length) 0).toArray := fun g k wx hH hk => by
      have hl2 : (l.mergeSort fun x y => decide (x ≤ y)).length = l.length := List.length_mergeSort l
      have := Any.slices_Compact_int Tryz.layK g 0 k (l.mergeSort fun x y => decide (x ≤ y)) wx hH (by omega) (by omega)
      rw [hl2] at this
      exact this
    have HN : Hid (0 < l.length) := by unfold Hid; omega
    clear h0 hln
    go_enter Tryz.func113, Tryz.ntmps113
    go_upto_region 2 with (go_at_call 88; refine C.mono ?_; rintro e w1 ⟨A1, c1, rfl, hown, hb1⟩)
    obtain ⟨g, cap, ev, hbg, hgl, hnc, hcm, hzl, hH⟩ := Lib.holds_of_ownsRow (enc := Value.int .i64) (zs := l) hown (fun e => by injection e with _ e2 _; have := HN.out; omega)
    injection ev with e1 _ e3
    subst e1
    subst e3
    have HO : Hid (w1.ownsRow w.heap.size 3 1 (.slice (some ⟨g, 0, none⟩) l.length c1) l.length (l.map (Value.int .i64))) := hown
    have HB : Hid (Below w.heap.size w w1) := hb1
    clear hown hb1 C hbg hcm hzl
    have C2 := hmz g c1 w1 hH hgl
    clear hmz hH
    go_upto_region 3 with (go_at_call 126; refine C2.mono ?_; rintro e w2 ⟨rfl, nn, os, hw2⟩; have HW2 : Hid (w2 = grow (putRow (Value.int .i64) (Sort.ahead w1 nn) g 0 (l.mergeSort fun x y => decide (x ≤ y)).toArray) os) := hw2; clear hw2)
    have hl2 : (l.mergeSort fun x y => decide (x ≤ y)).length = l.length := List.length_mergeSort l
    have hH2 : Sort.Holds (Value.int .i64) w2 g 0 (l.mergeSort fun x y => decide (x ≤ y)).toArray := by
      rcases HO.out.2 with ⟨h0, _⟩ | ⟨g', cap', cur, hv, hbase, hb, h1, h2, h3, h4⟩
      · cases h0
      cases hv
      have hs := ownsRow_sortedI (n := nn) (os := os) (ts := l.mergeSort fun x y => decide (x ≤ y)) hl2 hbase hb h1 h2 h3
      rw [← HW2.out] at hs
      obtain ⟨g4, cap4, ev4, _, _, _, _, _, hH4⟩ := Lib.holds_of_ownsRow (enc := Value.int .i64) hs (fun e => by cases e)
      injection ev4 with e1 _ _
      injection e1 with e1
      injection e1 with e1
      subst e1
      exact hH4
    have C3 := hcz g c1 w2 hH2 hnc
    have HE2 : Hid (∀ q, (putRow (Value.int .i64) (Sort.ahead w2 q) g 0 (risZ l ++ List.replicate (l.length - (risZ l).length) 0).toArray).ownsRow w.heap.size 3 1 (.slice (some ⟨g, 0, none⟩) (risZ l).length c1) (risZ l).length (iVals .i64 (risZ l)) ∧ Below w.heap.size w (putRow (Value.int .i64) (Sort.ahead w2 q) g 0 (risZ l ++ List.replicate (l.length - (risZ l).length) 0).toArray)) := fun q => by
      rw [HW2.out]
      exact ris_end HO.out HB.out rfl
    clear hcz hH2 HW2 hl2 C2 HO HB
    go_wp2_with (go_at_call 127; go_loud (refine C3.mono ?_; rintro e w3 ⟨rfl, q, hw3⟩; have h5 := HE2.out q; rw [← hw3] at h5; clear hw3))
    go_ret
    exact ⟨_, _, rfl, h5.1, h5.2⟩


end Go.Proofs.YtfnicgihpelhhaaGreat

namespace Go.Proofs.YtfnicgihpelhhaaGreat
open Go.RowKit

/-- The row that grows is none of those that are done. -/
def Offs (vs : List Value) (n : Nat) (v : Value) : Prop := ∀ i, i < n → ∀ q, (vn vs i).ownBlock = some q → v.ownBlock ≠ some q
theorem offs_nil (vs : List Value) (n : Nat) : Offs vs n (.slice none 0 0) := fun _ _ _ _ e => by cases e
/-- Where a row lies that was appended to: in its own block, or in a new one. -/
theorem run_append_at (w : World) {P : Program} (base : Nat) (t ty e : TypeId) (i : TypeInfo) (z : Value) (size bytes : Nat) (ht : P.underlying t = some (.slice e)) (hi : P.info? e = some i) (hz : i.zero = some z)
    (hsize : i.size = size) (hby : i.bytes = bytes) (hzs : z.cells.size = size) (hsz : 0 < size)
    (v : Value) (n : Nat) (xs : List Value) (hown : w.ownsRow base e size v n xs)
    (a : Addr) (m c : Nat) (news : List Value) (hl : news.length = m * size) (hnews : ∀ j u, news[j]? = some u → w.cell? (a.add j) = some u) (h1 : ∀ u ∈ news, u.oneCell' = true)
    (hm : 0 < m) (h63 : n + m ≤ maxLen) (hbytes : (n + m) * bytes ≤ 140737488355328) (hb : base ≤ w.heap.size) :
    ∃ g cap w', (Builtin.append_ #[t, t] ty #[v, .slice (some a) m c]).run P w = .ok (.slice (some ⟨g, 0, none⟩) (n + m) cap) w' ∧
      w'.ownsRow base e size (.slice (some ⟨g, 0, none⟩) (n + m) cap) (n + m) (xs ++ news) ∧ w.grownBy w' v.ownBlock ∧ (v.ownBlock = some g ∨ w.heap.size ≤ g) := by
  obtain ⟨g, cap, w', hr, h2, h3, h4⟩ := run_append_two (P := P) w t ty e i z size bytes ht hi hz hsize hby hzs hsz v n xs (ownsRow_mono hown (Nat.zero_le _)) a m c news hl hnews h1 hm h63 hbytes
  have hg : v.ownBlock = some g ∨ w.heap.size ≤ g := by
    rcases h4 with h4 | ⟨h4, _⟩
    · exact .inl (by rw [h4]; rfl)
    · exact .inr (by omega)
  refine ⟨g, cap, w', hr, ?_, h3, hg⟩
  refine ⟨h2.1, ?_⟩
  rcases h2.2 with ⟨e1, e2⟩ | ⟨g2, cap2, cur, e1, _, r⟩
  · cases e1
  · cases e1
    refine .inr ⟨g, cap, cur, rfl, ?_, r⟩
    rcases hg with k | k
    · exact (hown.lt g k).1
    · omega
theorem wpList_append_at {P : Program} (w : World) {ops : Array Oper} {rest : List Oper} {o : Oper} {a : Act} {Q : Exit → Act → World → Prop} (hgd : o.guard = none) (s x : Operand) (t : TypeId)
    (ho : o.op = .call { callee := .builtin .append, args := #[s, x], argTypes := #[t, t] }) (base : Nat)
    (e : TypeId) (i : TypeInfo) (z : Value) (size bytes : Nat) (ht : P.underlying t = some (.slice e)) (hi : P.info? e = some i) (hz : i.zero = some z)
    (hsize : i.size = size) (hby : i.bytes = bytes) (hzs : z.cells.size = size) (hsz : 0 < size)
    (v : Value) (n : Nat) (xs : List Value) (hs : a.eval s = v) (hown : w.ownsRow base e size v n xs)
    (ad : Addr) (m c : Nat) (news : List Value) (hx : a.eval x = .slice (some ad) m c) (hl : news.length = m * size) (hnews : ∀ j u, news[j]? = some u → w.cell? (ad.add j) = some u) (h1 : ∀ u ∈ news, u.oneCell' = true)
    (hm : 0 < m) (h63 : n + m ≤ maxLen) (hbytes : (n + m) * bytes ≤ 140737488355328) (hb : base ≤ w.heap.size)
    (h : ∀ g cap w', w'.ownsRow base e size (.slice (some ⟨g, 0, none⟩) (n + m) cap) (n + m) (xs ++ news) → w.grownBy w' v.ownBlock → (v.ownBlock = some g ∨ w.heap.size ≤ g) → wpList P ops Q rest (a.put o.dst (.slice (some ⟨g, 0, none⟩) (n + m) cap)) w') : wpList P ops Q (o :: rest) a w :=
  wpList_plain hgd fun K hK => by
    obtain ⟨g, cap, w', hr, h2, h3, h4⟩ := run_append_at (P := P) w base t o.type e i z size bytes ht hi hz hsize hby hzs hsz v n xs hown ad m c news hl hnews h1 hm h63 hbytes hb
    unfold Oper.wp execOp
    simp only [ho, resolve, invoke, builtin, Sem.run_bind, Sem.run_pure, Result.andThen_ok, List.map_toArray, List.map_cons, List.map_nil, hs, hx, hr]
    exact hK _ _ (h g cap w' h2 h3 h4)
theorem offs_grow {w : World} {base : Nat} {V v : Value} {vs : List Value} {L : List (List Int)} {g n cap : Nat} (hZ : RowsZ w base V vs L) (h : Offs vs L.length v) (hl : v.ownBlock = some g ∨ w.heap.size ≤ g) : Offs vs L.length (.slice (some ⟨g, 0, none⟩) n cap) := fun i hi q hq e => by
  have eg : g = q := by simpa [Value.ownBlock] using e
  subst eg
  rcases hl with k | k
  · exact h i hi g hq k
  · have := ((hZ.row i hi).lt g hq).2
    omega



end Go.Proofs.YtfnicgihpelhhaaGreat

namespace Go.Proofs.YtfnicgihpelhhaaGreat
open Go.RowKit

theorem vn_set {vs : List Value} {i t : Nat} {v : Value} (ht : t < vs.length) : vn (vs.set i v) t = if i = t then v else vn vs t := by
  unfold vn
  rw [List.getD_eq_getElem?_getD, List.getElem?_set, List.getD_eq_getElem?_getD]
  by_cases e : i = t
  · rw [if_pos e, if_pos e, if_pos (by omega)]; rfl
  · rw [if_neg e, if_neg e]
theorem blk_off {w : World} {b : Nat} {e e2 : TypeId} {sz n : Nat} {v : Value} {xs : List Value} {g : Nat} {cs : Array Value} (h : w.ownsRow b e sz v n xs) (hg : w.heap[g]? = some (.cells cs e2 (0, 0))) (hne : e ≠ e2) : v.ownBlock ≠ some g := by
  rcases h.2 with ⟨rfl, _⟩ | ⟨k, cap, cur, rfl, _, hk, _⟩
  · intro e; cases e
  · intro e
    cases e
    rw [hk] at hg
    injection hg with hg
    injection hg with _ hh
    exact hne hh
/-- A list of lists in the block g, each list a block of its own behind base. -/
structure RowsW (w : World) (base g n : Nat) (vs : List Value) (M : List (List Int)) : Prop where
  box : w.heap[g]? = some (.cells vs.toArray 72 (0, 0))
  len : vs.length = n
  mlen : M.length = n
  hi : base ≤ g
  big : n ≤ 1048576
  row : ∀ i, i < n → w.ownsRow base 3 1 (vn vs i) (rowZ M i).length (iVals .i64 (rowZ M i))
  apart : ∀ i j, i < n → j < n → i ≠ j → ∀ q, (vn vs i).ownBlock = some q → (vn vs j).ownBlock ≠ some q
theorem RowsW.cell {w : World} {base g n : Nat} {vs : List Value} {M : List (List Int)} (h : RowsW w base g n vs M) {i : Nat} (hi : i < n) : w.cell? ⟨g, i, none⟩ = some (vn vs i) := by
  have hl := h.len
  simp [World.cell?, h.box, vn, List.getD, show i < vs.length by omega]
theorem RowsW.fro {w : World} {base g n : Nat} {vs : List Value} {M : List (List Int)} (h : RowsW w base g n vs M) (i : Nat) : w.frozen? ⟨g, i, none⟩ = false := box_fro h.box i
theorem RowsW.keep {w w1 : World} {base g n : Nat} {vs : List Value} {M : List (List Int)} (h : RowsW w base g n vs M) (hb : Below w.heap.size w w1) : RowsW w1 base g n vs M :=
  ⟨lb_box h.box hb, h.len, h.mlen, h.hi, h.big, fun i hi => row_keep (h.row i hi) hb, h.apart⟩
theorem RowsW.lt {w : World} {base g n : Nat} {vs : List Value} {M : List (List Int)} (h : RowsW w base g n vs M) : g < w.heap.size := (Array.getElem?_eq_some_iff.1 h.box).1
theorem RowsW.made (w : World) (n : Nat) (hn : n ≤ 1048576) : RowsW (w.alloc (.cells (madeCells #[.slice none 0 0] n) 72)) w.heap.size w.heap.size n (List.replicate n (.slice none 0 0)) (List.replicate n []) := by
  have hv : ∀ i, vn (List.replicate n (.slice none 0 0)) i = .slice none 0 0 := fun i => by
    unfold vn
    simp only [List.getD, List.getElem?_replicate]
    split <;> rfl
  have hr : ∀ i, rowZ (List.replicate n []) i = [] := fun i => by
    unfold rowZ
    simp only [List.getD, List.getElem?_replicate]
    split <;> rfl
  refine ⟨?_, by simp, by simp, Nat.le_refl _, hn, fun i _ => ?_, fun i j _ _ _ q hq => ?_⟩
  · rw [heap_alloc_new]
    congr 2
    apply Array.ext_getElem?
    intro i
    by_cases hi : i < n
    · simp [madeCells, hi, Nat.mod_one]
    · rw [Array.getElem?_eq_none (by simp [madeCells]; omega), Array.getElem?_eq_none (by simp; omega)]
  · rw [hv, hr]
    exact World.ownsRow_nil _ _ _ _
  · rw [hv] at hq
    cases hq
/-- One list is another one now. -/
theorem RowsW.put {w w1 : World} {base g n : Nat} {vs : List Value} {M : List (List Int)} (h : RowsW w base g n vs M) {i : Nat} (hi : i < n) {v : Value} {l : List Int} (hv : w1.ownsRow base 3 1 v l.length (iVals .i64 l)) (hg : w.grownBy w1 (vn vs i).ownBlock) (hloc : ∀ q, v.ownBlock = some q → (vn vs i).ownBlock = some q ∨ w.heap.size ≤ q) : RowsW (w1.setCell ⟨g, i, none⟩ v) base g n (vs.set i v) (M.set i l) := by
  have hlen := h.len
  have hml := h.mlen
  have hbox1 : w1.heap[g]? = some (.cells vs.toArray 72 (0, 0)) := by
    rw [hg.block g h.lt (fun e => blk_off (h.row i hi) h.box (by decide) e.symm)]
    exact h.box
  have hoff : ∀ t, t < n → t ≠ i → w1.ownsRow base 3 1 (vn vs t) (rowZ M t).length (iVals .i64 (rowZ M t)) := fun t ht hti => by
    refine (h.row t ht).kept hg ?_
    cases hk : (vn vs t).ownBlock with
    | none => exact .inl rfl
    | some k => exact .inr fun e => h.apart t i ht hi hti k hk e.symm
  refine ⟨?_, by rw [List.length_set]; exact hlen, by rw [List.length_set]; exact hml, h.hi, h.big, fun t ht => ?_, fun t s ht hs hts q hq hq2 => ?_⟩
  · rw [box_set hbox1]
    simp
  · rw [vn_set (by omega), rowZ_set (by omega)]
    by_cases e : i = t
    · rw [if_pos e, if_pos e]
      exact ownsRow_setCell_other hv (blk_off hv hbox1 (by decide)) _
    · rw [if_neg e, if_neg e]
      have h1 := hoff t ht (fun e2 => e e2.symm)
      exact ownsRow_setCell_other h1 (blk_off h1 hbox1 (by decide)) _
  · rw [vn_set (by omega)] at hq hq2
    by_cases e : i = t
    · rw [if_pos e] at hq
      rw [if_neg (by omega)] at hq2
      rcases hloc q hq with h1 | h1
      · exact h.apart s i hs hi (by omega) q hq2 h1
      · have := ((h.row s hs).lt q hq2).2
        omega
    · rw [if_neg e] at hq
      by_cases e2 : i = s
      · rw [if_pos e2] at hq2
        rcases hloc q hq2 with h1 | h1
        · exact h.apart t i ht hi (by omega) q hq h1
        · have := ((h.row t ht).lt q hq).2
          omega
      · rw [if_neg e2] at hq2
        exact h.apart t s ht hs hts q hq hq2
theorem RowsW.grown {w w1 : World} {base g n : Nat} {vs : List Value} {M : List (List Int)} (h : RowsW w base g n vs M) {i : Nat} (hi : i < n) (hg : w.grownBy w1 (vn vs i).ownBlock) : w1.cell? ⟨g, i, none⟩ = some (vn vs i) ∧ w1.frozen? ⟨g, i, none⟩ = false := by
  have hb : w1.heap[g]? = some (.cells vs.toArray 72 (0, 0)) := by
    rw [hg.block g h.lt (fun e => blk_off (h.row i hi) h.box (by decide) e.symm)]
    exact h.box
  have hl := h.len
  exact ⟨by simp [World.cell?, hb, vn, List.getD, show i < vs.length by omega], box_fro hb i⟩
theorem RowsW.rows {w : World} {base g n : Nat} {vs : List Value} {M : List (List Int)} (h : RowsW w base g n vs M) : RowsZ w base (.slice (some ⟨g, 0, none⟩) M.length n) vs M := by
  have hl := h.len
  have hm := h.mlen
  have hb := h.big
  refine ⟨⟨by omega, .inr ⟨g, n, vs.toArray, rfl, h.hi, h.box, by omega, by unfold maxLen; omega, by simp; omega, ?_⟩⟩, fun i hi => h.row i (by omega)⟩
  rw [List.take_of_length_le (by simp; omega)]
theorem make_sl (n : Nat) (hn : n ≤ 1048576) (w : World) : (Instr.makeSlice 70 (.int .i64 (n : Int)) (.int .i64 (n : Int))).run Tryz.prog w = .ok (.slice (some ⟨w.heap.size, 0, none⟩) n n) (w.alloc (.cells (madeCells #[.slice none 0 0] n) 72)) := by
  obtain ⟨i, hi, hz, hs, hb⟩ := infoS
  have h := run_makeSlice (P := Tryz.prog) w 70 72 i _ Tryz.underlying70 hi hz .i64 .i64 (n : Int) (n : Int) (by omega) (by omega) (by rw [hs]; omega) (by rw [hb]; omega) (by omega)
  rw [hs, show ((n : Int)).toNat = n by omega, Nat.mul_one] at h
  exact h
theorem RowsW.below {w w1 w2 : World} {base g n : Nat} {vs : List Value} {M : List (List Int)} {B : Nat} (h : RowsW w base g n vs M) {i : Nat} (hi : i < n) (hB : B ≤ base) (hw : Below B w2 w) (hz : B ≤ w.heap.size) (hg : w.grownBy w1 (vn vs i).ownBlock) (v : Value) : Below B w2 (w1.setCell ⟨g, i, none⟩ v) := by
  have h1 : Below B w2 w1 := hw.grown hg hz (fun b hb => Nat.le_trans hB ((h.row i hi).lt b hb).1)
  exact grown_belowR h1 (gset11 _ _ _ _) (Nat.le_trans hB h.hi) (Nat.le_trans hz hg.size)


end Go.Proofs.YtfnicgihpelhhaaGreat

namespace Go.Proofs.YtfnicgihpelhhaaGreat
open Go.RowKit

/-- A row of numbers, each as a function tells. -/
def NumsAt (w : World) (g n : Nat) (F : Int → Int) : Prop := ∃ cs : Array Value, w.heap[g]? = some (.cells cs 3 (0, 0)) ∧ cs.size = n ∧ ∀ i : Nat, i < n → cs[i]? = some (.int .i64 (F (i : Int)))
theorem NumsAt.lt {w : World} {g n : Nat} {F : Int → Int} (h : NumsAt w g n F) : g < w.heap.size := by
  obtain ⟨cs, h1, _⟩ := h
  exact (Array.getElem?_eq_some_iff.1 h1).1
theorem NumsAt.keep {w w1 : World} {g n : Nat} {F : Int → Int} (h : NumsAt w g n F) (hb : Below w.heap.size w w1) : NumsAt w1 g n F := by
  obtain ⟨cs, h1, h2⟩ := h
  exact ⟨cs, by rw [hb.block g (Array.getElem?_eq_some_iff.1 h1).1]; exact h1, h2⟩
theorem NumsAt.kept {w w1 : World} {g n : Nat} {F : Int → Int} {row : Option Nat} (h : NumsAt w g n F) (hg : w.grownBy w1 row) (hne : row ≠ some g) : NumsAt w1 g n F := by
  obtain ⟨cs, h1, h2⟩ := h
  exact ⟨cs, by rw [hg.block g (Array.getElem?_eq_some_iff.1 h1).1 (fun e => hne e.symm)]; exact h1, h2⟩
theorem NumsAt.cell {w : World} {g n : Nat} {F : Int → Int} (h : NumsAt w g n F) {x : Int} (h0 : 0 ≤ x) (h1 : x < n) : w.cell? ⟨g, x.toNat, none⟩ = some (.int .i64 (F x)) := by
  obtain ⟨cs, hb, hs, hc⟩ := h
  have := hc x.toNat (by omega)
  rw [show ((x.toNat : Nat) : Int) = x by omega] at this
  simp [World.cell?, hb, this]
theorem NumsAt.fro {w : World} {g n : Nat} {F : Int → Int} (h : NumsAt w g n F) (x : Nat) : w.frozen? ⟨g, x, none⟩ = false := by
  obtain ⟨cs, hb, _⟩ := h
  simp [World.frozen?, hb]
theorem NumsAt.set {w : World} {g n : Nat} {F : Int → Int} (h : NumsAt w g n F) {x : Int} (h0 : 0 ≤ x) (_h1 : x < n) (v : Int) : NumsAt (w.setCell ⟨g, x.toNat, none⟩ (.int .i64 v)) g n (fun y => if y = x then v else F y) := by
  obtain ⟨cs, hb, hs, hc⟩ := h
  refine ⟨cs.setIfInBounds x.toNat (.int .i64 v), box_set hb _ _, by simpa using hs, fun i hi => ?_⟩
  rw [Array.getElem?_setIfInBounds]
  by_cases e : x.toNat = i
  · rw [if_pos e, if_pos (by omega)]
    show _ = some (Value.int .i64 (if _ then _ else _))
    rw [if_pos (by omega)]
  · rw [if_neg e, hc i hi]
    show _ = some (Value.int .i64 (if _ then _ else _))
    rw [if_neg (by omega)]
theorem NumsAt.made (w : World) (n : Nat) : NumsAt (w.alloc (.cells (madeCells #[.int .i64 0] n) 3)) w.heap.size n (fun _ => 0) :=
  ⟨_, heap_alloc_new _ _, by simp [madeCells], fun i hi => by simp [madeCells, hi, Nat.mod_one]⟩
theorem make_nums (n : Nat) (hn : n ≤ 1048576) (w : World) : (Instr.makeSlice 72 (.int .i64 (n : Int)) (.int .i64 (n : Int))).run Tryz.prog w = .ok (.slice (some ⟨w.heap.size, 0, none⟩) n n) (w.alloc (.cells (madeCells #[.int .i64 0] n) 3)) := by
  obtain ⟨i, hi, hz, hs, hb⟩ := infoI
  have h := run_makeSlice (P := Tryz.prog) w 72 3 i _ Tryz.underlying72 hi hz .i64 .i64 (n : Int) (n : Int) (by omega) (by omega) (by rw [hs]; omega) (by rw [hb]; omega) (by omega)
  rw [hs, show ((n : Int)).toNat = n by omega, Nat.mul_one] at h
  exact h
/-- The blocks at whose beginnings a leap can end. -/
def knL (text : List Int) (ent : Int) : List Int := plcT (knK text ent) (blkL text ent).length
/-- The flow of an image, in the block gf. -/
structure Flw (w : World) (gf : Nat) (text : List Int) (ent : Int) (A1 A3 : Option Addr) (c1 gN c3 : Nat) (F : Int → Int) : Prop where
  box : w.heap[gf]? = some (.cells #[.slice A1 (blkL text ent).length c1, .slice (some ⟨gN, 0, none⟩) text.length text.length, .slice A3 (knL text ent).length c3] 149 (0, 0))
  lasts : w.ownsRow 0 50 5 (.slice A1 (blkL text ent).length c1) (blkL text ent).length (lstV (lastL text ent (blkL text ent).length))
  nums : NumsAt w gN text.length F
  num : NumF text ent (blkL text ent).length F
  known : w.ownsRow 0 3 1 (.slice A3 (knL text ent).length c3) (knL text ent).length (iVals .i64 (knL text ent))
def FlowAt (w : World) (gf : Nat) (text : List Int) (ent : Int) : Prop := ∃ (A1 A3 : Option Addr) (c1 gN c3 : Nat) (F : Int → Int), Flw w gf text ent A1 A3 c1 gN c3 F
theorem FlowAt.keep {w w1 : World} {gf : Nat} {text : List Int} {ent : Int} (h : FlowAt w gf text ent) (hb : Below w.heap.size w w1) : FlowAt w1 gf text ent := by
  obtain ⟨A1, A3, c1, gN, c3, F, h⟩ := h
  exact ⟨A1, A3, c1, gN, c3, F, lb_box h.box hb, row_keep h.lasts hb, h.nums.keep hb, h.num, row_keep h.known hb⟩
theorem Flw.last {w : World} {gf : Nat} {text : List Int} {ent : Int} {A1 A3 : Option Addr} {c1 gN c3 : Nat} {F : Int → Int} (h : Flw w gf text ent A1 A3 c1 gN c3 F) {k : Nat} (hk : k < (blkL text ent).length) : ∃ g1, A1 = some ⟨g1, 0, none⟩ ∧ ∀ j u, (insC (lastW text ent k))[j]? = some u → w.cell? ⟨g1, k * 5 + j, none⟩ = some u := by
  rcases h.lasts.2 with ⟨_, h0⟩ | ⟨g, cap, cur, e, _⟩
  · omega
  · injection e with e1 _ _
    refine ⟨g, e1, fun j u hu => ?_⟩
    have hj : j < 5 := by have := (List.getElem?_eq_some_iff.1 hu).1; simpa [insC] using this
    have h2 := lstV_get (l := lastL text ent (blkL text ent).length) (i := k) (j := j) (by rw [lastL_len]; exact hk) hj
    rw [lastL_nth hk, hu] at h2
    have h4 := h.lasts
    rw [e1] at h4
    have h3 := h4.cells (g := g) rfl (k * 5 + j) u h2
    rw [add0] at h3
    exact h3
theorem Flw.cells {w : World} {gf : Nat} {text : List Int} {ent : Int} {A1 A3 : Option Addr} {c1 gN c3 : Nat} {F : Int → Int} (h : Flw w gf text ent A1 A3 c1 gN c3 F) : w.cell? ⟨gf, 0, none⟩ = some (.slice A1 (blkL text ent).length c1) ∧ w.cell? ⟨gf, 1, none⟩ = some (.slice (some ⟨gN, 0, none⟩) text.length text.length) ∧ w.cell? ⟨gf, 2, none⟩ = some (.slice A3 (knL text ent).length c3) :=
  ⟨by simp [World.cell?, h.box], by simp [World.cell?, h.box], by simp [World.cell?, h.box]⟩
/-- A list to be read: of new memory, or the flow's own. -/
def RowR (gf : Nat) (l : List Int) (w : World) (e : Ending) (w' : World) : Prop := ∃ (A : Option Addr) (c : Nat), e = .returned (.slice A l.length c) ∧ w'.ownsRow 0 3 1 (.slice A l.length c) l.length (iVals .i64 l) ∧ Below w.heap.size w w' ∧ ((∀ q, (Value.slice A l.length c).ownBlock = some q → w.heap.size ≤ q) ∨ w.cell? ⟨gf, 2, none⟩ = some (.slice A l.length c))
theorem own_new {A : Option Addr} {n c g m : Nat} (hA : A = some ⟨g, 0, none⟩) (h : m ≤ g) : ∀ q, (Value.slice A n c).ownBlock = some q → m ≤ q := fun q hq => by
  subst hA
  cases hq
  exact h
theorem new_one {w : World} {g : Nat} {x : Int} (hg : g = w.heap.size) : (w.alloc (.cells #[.int .i64 x] 3)).ownsRow 0 3 1 (.slice (some ⟨g, 0, none⟩) 1 1) 1 (iVals .i64 [x]) := by
  subst hg
  exact ⟨rfl, .inr ⟨w.heap.size, 1, _, rfl, Nat.zero_le _, heap_alloc_new _ _, Nat.le_refl _, by unfold maxLen; omega, rfl, rfl⟩⟩
theorem new_pair {w : World} {g : Nat} {x y : Int} (hg : g = w.heap.size) : (w.alloc (.cells #[.int .i64 x, .int .i64 y] 3)).ownsRow 0 3 1 (.slice (some ⟨g, 0, none⟩) 2 2) 2 (iVals .i64 [x, y]) := by
  subst hg
  exact ⟨rfl, .inr ⟨w.heap.size, 2, _, rfl, Nat.zero_le _, heap_alloc_new _ _, Nat.le_refl _, by unfold maxLen; omega, rfl, rfl⟩⟩
def leapB (op : Int) : Bool := op == 18 || op == 19


end Go.Proofs.YtfnicgihpelhhaaGreat
