/-
  What the statements need of the program: Of, Compare and Most of suffix, by what they answer. Memory of the landed sorting: rows of numbers that are written over, what the closures read. cmp.Compare; the closure that counts; the order.
-/
import Derived.Test.YtokhclindfipbaaGreatDoorProg
import Derived.WalkKit
import Derived.WalkSpells
import Derived.WalkLawsBesides
import Derived.RowKit3
import Derived.Below
import Derived.Deep.QuietTactic
import Derived.BigQuiet
import Derived.WalkSmall
import Derived.Laws.Rows
import Derived.Test.YtokhclindfipbaaGreatDoorPa05
import Derived.Test.YtokhclindfipbaaGreatDoorPa06
import Derived.Test.YtokhclindfipbaaGreatDoorPa04
import Derived.Test.YtokhclindfipbaaGreatDoorPa07
namespace Go.Proofs.YtokhclindfipbaaGreatDoor
open Go.RowKit

/-- What Of answers: the array, the ranks, each in memory of its own, and a cost. -/
def OfR (l : List Int) (c : Int) (w : World) (e : Ending) (w' : World) : Prop := ∃ (A1 A2 : Option Addr) (k1 k2 : Nat), e = .returned (.agg #[.slice A1 l.length k1, .slice A2 l.length k2, .int .i64 c]) ∧ w'.ownsRow w.heap.size 3 1 (.slice A1 l.length k1) l.length (iVals .i64 (sufL l)) ∧ w'.ownsRow w.heap.size 3 1 (.slice A2 l.length k2) l.length (iVals .i64 (rkL l)) ∧ Off (Value.slice A1 l.length k1).ownBlock (Value.slice A2 l.length k2).ownBlock ∧ Below w.heap.size w w'
structure OfOK (cst : List Int → Int) : Prop where
  ok : ∀ (A : Option Addr) (c : Nat) (l : List Int) (w : World), IntsAt w A .i64 l → (∀ i, i < l.length → -9223372036854775808 ≤ nth l i ∧ nth l i ≤ 9223372036854775807) → l.length ≤ 2048 → Calls Tryz.prog 62 #[.slice A l.length c] w (OfR l (cst l) w)
  few : 3 ≤ cst [3, 1, 3, 1] ∧ cst [3, 1, 3, 1] ≤ 384
/-- How much it may cost. -/
def CostOK (cst : List Int → Int) : Prop := ∀ l : List Int, l.length ≤ 2048 → 0 ≤ cst l ∧ (l.length : Int) - 1 ≤ cst l ∧ cst l ≤ mostI (l.length : Int)



end Go.Proofs.YtokhclindfipbaaGreatDoor

namespace Go.Proofs.YtokhclindfipbaaGreatDoor
open Go.RowKit

/-- Nothing is other but what lies in the blocks of S, and new blocks. -/
def ButS (S : Nat → Prop) (w w' : World) : Prop := w'.os = w.os ∧ w'.tape = w.tape ∧ w'.output = w.output ∧ w.heap.size ≤ w'.heap.size ∧ ∀ k, k < w.heap.size → ¬ S k → w'.heap[k]? = w.heap[k]?
theorem ButS.refl (S : Nat → Prop) (w : World) : ButS S w w := ⟨rfl, rfl, rfl, Nat.le_refl _, fun _ _ _ => rfl⟩
theorem ButS.trans {S : Nat → Prop} {a b c : World} (h : ButS S a b) (k : ButS S b c) : ButS S a c :=
  ⟨k.1.trans h.1, k.2.1.trans h.2.1, k.2.2.1.trans h.2.2.1, Nat.le_trans h.2.2.2.1 k.2.2.2.1, fun i hi hn => (k.2.2.2.2 i (Nat.lt_of_lt_of_le hi h.2.2.2.1) hn).trans (h.2.2.2.2 i hi hn)⟩
theorem ButS.more {S T : Nat → Prop} {a b : World} (h : ButS S a b) (hs : ∀ k, S k → T k) : ButS T a b := ⟨h.1, h.2.1, h.2.2.1, h.2.2.2.1, fun k hk hn => h.2.2.2.2 k hk fun x => hn (hs k x)⟩
theorem ButS.of {S : Nat → Prop} {w w' : World} (h : Below w.heap.size w w') : ButS S w w' := ⟨h.os, h.tape, h.output, h.size, fun k hk _ => h.block k hk⟩
theorem ButS.but {S : Nat → Prop} {g : Nat} {w w' : World} (h : But g w w') (hg : S g) : ButS S w w' := ⟨h.1, h.2.1, h.2.2.1, h.2.2.2.1, fun k hk hn => h.2.2.2.2 k hk fun e => hn (e ▸ hg)⟩
theorem ButS.set {S : Nat → Prop} {a b : World} (h : ButS S a b) {g : Nat} (hg : S g) (i : Nat) (v : Value) : ButS S a (b.setCell ⟨g, i, none⟩ v) := h.trans (ButS.but ((But.refl g b).set i v) hg)
theorem ButS.drew {S : Nat → Prop} {a b : World} (h : ButS S a b) : ButS S a b.drew := h
theorem ButS.drewN {S : Nat → Prop} {a b : World} (h : ButS S a b) (n : Nat) : ButS S a (b.drewN n) := h
theorem ButS.cell {S : Nat → Prop} {w w' : World} (h : ButS S w w') {p : Addr} {v : Value} (hp : ¬ S p.block) (hc : w.cell? p = some v) : w'.cell? p = some v := by
  rw [World.cell?_of_block (w := w) (h.2.2.2.2 p.block (World.block_lt_of_cell? w _ hc) hp)]; exact hc
theorem ButS.below {S : Nat → Prop} {w0 w w' : World} (h : ButS S w w') (hb : Below w0.heap.size w0 w) (hg : ∀ k, S k → w0.heap.size ≤ k) : Below w0.heap.size w0 w' :=
  ⟨h.1.trans hb.os, h.2.1.trans hb.tape, h.2.2.1.trans hb.output, Nat.le_trans hb.size h.2.2.2.1, fun k hk => (h.2.2.2.2 k (Nat.lt_of_lt_of_le hk hb.size) (fun x => by have := hg k x; omega)).trans (hb.block k hk)⟩
/-- A row of N numbers in the block g. -/
def rowC (N : Nat) (f : Nat → Int) : List Value := (List.range N).map fun i => Value.int .i64 (f i)
def RwN (w : World) (g N : Nat) (f : Nat → Int) : Prop := w.heap[g]? = some (.cells (rowC N f).toArray 3)
theorem rowC_get {N : Nat} {f : Nat → Int} {i : Nat} (h : i < N) : (rowC N f)[i]? = some (.int .i64 (f i)) := by simp [rowC, h]
theorem rowC_len (N : Nat) (f : Nat → Int) : (rowC N f).length = N := by simp [rowC]
theorem rowC_same {N : Nat} {f g : Nat → Int} (h : ∀ i, i < N → f i = g i) : rowC N f = rowC N g := by
  unfold rowC
  exact List.map_congr_left fun i hi => by rw [h i (List.mem_range.1 hi)]
theorem RwN.same {w : World} {g N : Nat} {f f' : Nat → Int} (h : RwN w g N f) (e : ∀ i, i < N → f i = f' i) : RwN w g N f' := by
  unfold RwN
  rw [← rowC_same e]
  exact h
theorem RwN.lt {w : World} {g N : Nat} {f : Nat → Int} (h : RwN w g N f) : g < w.heap.size := (Array.getElem?_eq_some_iff.1 h).1
theorem RwN.cell {w : World} {g N : Nat} {f : Nat → Int} (h : RwN w g N f) {i : Nat} (hi : i < N) : w.cell? ⟨g, i, none⟩ = some (.int .i64 (f i)) := by
  have h2 := World.news_of_block h i _ (rowC_get hi)
  rw [add0] at h2
  exact h2
def updF (f : Nat → Int) (k : Nat) (v : Int) : Nat → Int := fun j => if j = k then v else f j
theorem RwN.set {w : World} {g N : Nat} {f : Nat → Int} (h : RwN w g N f) {k : Nat} (hk : k < N) (v : Int) : RwN (w.setCell ⟨g, k, none⟩ (.int .i64 v)) g N (updF f k v) := by
  unfold RwN at *
  rw [heap_setCell_same _ _ _ _ _ _ h]
  congr 2
  apply Array.ext_getElem?
  intro i
  rw [Array.getElem?_setIfInBounds]
  by_cases hi : i < N
  · rw [List.getElem?_toArray, List.getElem?_toArray, rowC_get hi, rowC_get hi]
    by_cases e : k = i
    · subst e; simp [updF, rowC_len, hk]
    · simp [updF, e, show ¬ i = k from fun x => e x.symm]
  · have h1 : (rowC N f)[i]? = none := by rw [List.getElem?_eq_none_iff, rowC_len]; omega
    have h2 : (rowC N (updF f k v))[i]? = none := by rw [List.getElem?_eq_none_iff, rowC_len]; omega
    have e : ¬ k = i := by omega
    rw [if_neg e, List.getElem?_toArray, List.getElem?_toArray, h1, h2]
theorem RwN.keep {S : Nat → Prop} {w w' : World} {g N : Nat} {f : Nat → Int} (h : RwN w g N f) (hb : ButS S w w') (hg : ¬ S g) : RwN w' g N f := by
  unfold RwN
  rw [hb.2.2.2.2 g h.lt hg]
  exact h
theorem frz_row {w : World} {g : Nat} {cs : Array Value} {t : TypeId} (h : w.heap[g]? = some (.cells cs t)) (i : Nat) : w.frozen? ⟨g, i, none⟩ = false := by simp [World.frozen?, h]
theorem RwN.frz {w : World} {g N : Nat} {f : Nat → Int} (h : RwN w g N f) (i : Nat) : w.frozen? ⟨g, i, none⟩ = false := frz_row h i
/-- The count. -/
def Cst (w : World) (bc c : Nat) : Prop := w.heap[bc]? = some (.cells #[.int .i64 (c : Int)] 3)
theorem Cst.cell {w : World} {bc c : Nat} (h : Cst w bc c) : w.cell? ⟨bc, 0, none⟩ = some (.int .i64 (c : Int)) := by
  rw [cell_of_row w bc 0 _ 3 _ h]; rfl
theorem Cst.frz {w : World} {bc c : Nat} (h : Cst w bc c) : w.frozen? ⟨bc, 0, none⟩ = false := frz_row h 0
theorem Cst.set {w : World} {bc c : Nat} (h : Cst w bc c) (d : Nat) : Cst (w.setCell ⟨bc, 0, none⟩ (.int .i64 (d : Int))) bc d := by
  unfold Cst at *
  rw [heap_setCell_same _ _ _ _ _ _ h]; rfl
theorem Cst.lt {w : World} {bc c : Nat} (h : Cst w bc c) : bc < w.heap.size := (Array.getElem?_eq_some_iff.1 h).1
theorem Cst.keep {S : Nat → Prop} {w w' : World} {bc c : Nat} (h : Cst w bc c) (hb : ButS S w w') (hg : ¬ S bc) : Cst w' bc c := by
  unfold Cst
  rw [hb.2.2.2.2 bc h.lt hg]
  exact h
/-- What the closures read. -/
structure Sur (w : World) (bk br bs bl bc x0 : Nat) (r : List Int) (n s : Nat) : Prop where
  fk : w.cell? ⟨bk, 0, none⟩ = some (.func (.func 82) #[] #[.pointer (some ⟨bc, 0, none⟩)])
  rk : ∃ cx, w.cell? ⟨br, 0, none⟩ = some (.slice (some ⟨x0, 0, none⟩) n cx)
  st : w.cell? ⟨bs, 0, none⟩ = some (.int .i64 (s : Int))
  ln : ∃ A c, w.cell? ⟨bl, 0, none⟩ = some (.slice A n c)
  row : ∀ i, i < n → w.cell? ⟨x0, i, none⟩ = some (.int .i64 (nth r i))
  off : bk ≠ bc ∧ br ≠ bc ∧ bs ≠ bc ∧ bl ≠ bc ∧ x0 ≠ bc
theorem Sur.keep {S : Nat → Prop} {w w' : World} {bk br bs bl bc x0 : Nat} {r : List Int} {n s : Nat} (h : Sur w bk br bs bl bc x0 r n s) (hb : ButS S w w') (h1 : ¬ S bk) (h2 : ¬ S br) (h3 : ¬ S bs) (h4 : ¬ S bl) (h5 : ¬ S x0) : Sur w' bk br bs bl bc x0 r n s where
  fk := hb.cell h1 h.fk
  rk := by
    obtain ⟨cx, e⟩ := h.rk
    exact ⟨cx, hb.cell h2 e⟩
  st := hb.cell h3 h.st
  ln := by
    obtain ⟨A, c, e⟩ := h.ln
    exact ⟨A, c, hb.cell h4 e⟩
  row := fun i hi => hb.cell h5 (h.row i hi)
  off := h.off
theorem Sur.but {w w' : World} {bk br bs bl bc x0 : Nat} {r : List Int} {n s : Nat} (h : Sur w bk br bs bl bc x0 r n s) (hb : But bc w w') : Sur w' bk br bs bl bc x0 r n s :=
  h.keep (S := fun k => k = bc) (ButS.but hb rfl) h.off.1 h.off.2.1 h.off.2.2.1 h.off.2.2.2.1 h.off.2.2.2.2




end Go.Proofs.YtokhclindfipbaaGreatDoor

namespace Go.Proofs.YtokhclindfipbaaGreatDoor
open Go.RowKit

set_option maxRecDepth 100000 in
theorem nan_any (a : Int) (w : World) : Calls Tryz.prog 104 #[.int .i64 a] w fun e w' => e = .returned (.bool false) ∧ w' = w := by
  have h : (a != a) = false := by simp
  go_enter Tryz.func104, Tryz.ntmps104
  go_wp2
  go_ret
  exact ⟨rfl, rfl⟩
set_option maxRecDepth 100000 in
theorem cmp_any (a b : Int) (w : World) : Calls Tryz.prog 83 #[.int .i64 a, .int .i64 b] w fun e w' => e = .returned (.int .i64 (cmpI a b)) ∧ w' = w := by
  by_cases h1 : a < b
  · have e1 : cmpI a b = -1 := by unfold cmpI; rw [if_pos h1]
    rw [e1]
    clear e1
    go_enter Tryz.func83, Tryz.ntmps83
    go_wp2_with fail
    refine (nan_any a _).mono ?_
    rintro e w1 ⟨rfl, rfl⟩
    go_wp2_with fail
    refine (nan_any b _).mono ?_
    rintro e w1 ⟨rfl, rfl⟩
    go_wp2
    go_ret
    exact ⟨rfl, rfl⟩
  · by_cases h2 : b < a
    · have e1 : cmpI a b = 1 := by unfold cmpI; rw [if_neg h1, if_pos h2]
      rw [e1]
      clear e1
      go_enter Tryz.func83, Tryz.ntmps83
      go_wp2_with fail
      refine (nan_any a _).mono ?_
      rintro e w1 ⟨rfl, rfl⟩
      go_wp2_with fail
      refine (nan_any b _).mono ?_
      rintro e w1 ⟨rfl, rfl⟩
      go_wp2
      go_ret
      exact ⟨rfl, rfl⟩
    · have e1 : cmpI a b = 0 := by unfold cmpI; rw [if_neg h1, if_neg h2]
      rw [e1]
      clear e1
      go_enter Tryz.func83, Tryz.ntmps83
      go_wp2_with fail
      refine (nan_any a _).mono ?_
      rintro e w1 ⟨rfl, rfl⟩
      go_wp2_with fail
      refine (nan_any b _).mono ?_
      rintro e w1 ⟨rfl, rfl⟩
      go_wp2
      go_ret
      exact ⟨rfl, rfl⟩
set_option maxRecDepth 100000 in
theorem count_any (a b : Int) (bc c : Nat) (w : World) (hc : Cst w bc c) (hl : (c : Int) ≤ 4611686018427387904) :
    Calls Tryz.prog 82 #[.int .i64 a, .int .i64 b, .pointer (some ⟨bc, 0, none⟩)] w fun e w' => e = .returned (.int .i64 (cmpI a b)) ∧ Cst w' bc (c + 1) ∧ But bc w w' := by
  have h1 := hc.cell
  have h2 := hc.frz
  have HC : Hid (Cst w bc c) := hc
  clear hc
  go_enter Tryz.func82, Tryz.ntmps82
  go_wp2_with fail
  refine (cmp_any a b _).mono ?_
  rintro e w1 ⟨rfl, rfl⟩
  go_wp2
  go_ret
  exact ⟨rfl, HC.out.set (c + 1), (But.refl _ _).set _ _⟩




end Go.Proofs.YtokhclindfipbaaGreatDoor
