/-
  A list with other numbers in the same order; plain. The document's Array and Rank.
-/
import Derived.Test.YtpmaiblgnblpeaaDoorProg
import Derived.WalkKit
import Derived.WalkSpells
import Derived.WalkLawsBesides
import Derived.RowKit3
import Derived.Below
import Derived.Deep.QuietTactic
import Derived.BigQuiet
import Derived.WalkSmall
import Derived.Laws.Rows
import Derived.Test.YtpmaiblgnblpeaaDoorPf08
import Derived.Test.YtpmaiblgnblpeaaDoorPf03
import Derived.Test.YtpmaiblgnblpeaaDoorPf10
import Derived.Lib.Builder
import Derived.Test.YtpmaiblgnblpeaaDoorPf16
namespace Go.Proofs.YtpmaiblgnblpeaaDoor
open Go.RowKit

/-- How many of the first m are less than the i-th. -/
def clN (l : List Int) (i : Nat) : Nat → Nat
  | 0 => 0
  | m + 1 => clN l i m + (if nth l m < nth l i then 1 else 0)
theorem clN_le (l : List Int) (i m : Nat) : clN l i m ≤ m := by
  induction m with
  | zero => exact Nat.le_refl _
  | succ m ih =>
    show clN l i m + (if nth l m < nth l i then 1 else 0) ≤ m + 1
    split <;> omega
theorem clN_same {l : List Int} {i k : Nat} (h : nth l i = nth l k) (m : Nat) : clN l i m = clN l k m := by
  induction m with
  | zero => rfl
  | succ m ih =>
    show clN l i m + (if nth l m < nth l i then 1 else 0) = clN l k m + (if nth l m < nth l k then 1 else 0)
    rw [ih, h]
theorem clN_mono {l : List Int} {i k : Nat} (h : nth l i < nth l k) (m : Nat) : clN l i m ≤ clN l k m ∧ (i < m → clN l i m < clN l k m) := by
  induction m with
  | zero => exact ⟨Nat.le_refl _, fun x => by omega⟩
  | succ m ih =>
    have e1 : clN l i (m + 1) = clN l i m + (if nth l m < nth l i then 1 else 0) := rfl
    have e2 : clN l k (m + 1) = clN l k m + (if nth l m < nth l k then 1 else 0) := rfl
    by_cases c1 : nth l m < nth l i
    · rw [if_pos c1] at e1
      rw [if_pos (by omega)] at e2
      refine ⟨by omega, fun x => ?_⟩
      have : i < m := by
        rcases Nat.lt_or_ge i m with y | y
        · exact y
        · have : i = m := by omega
          subst this; omega
      have := ih.2 this
      omega
    · rw [if_neg c1] at e1
      by_cases c2 : nth l m < nth l k
      · rw [if_pos c2] at e2
        exact ⟨by omega, fun _ => by omega⟩
      · rw [if_neg c2] at e2
        refine ⟨by omega, fun x => ?_⟩
        have : i < m := by
          rcases Nat.lt_or_ge i m with y | y
          · exact y
          · have : i = m := by omega
            subst this; omega
        have := ih.2 this
        omega
def twV (l : List Int) (s : Int) (i m : Nat) : Int := s * (clN l i m : Int)
theorem twV_zero (l : List Int) (s : Int) (i : Nat) : twV l s i 0 = 0 := by show s * ((0 : Nat) : Int) = 0; omega
theorem twV_yes {l : List Int} {s : Int} {i m : Nat} (h : nth l m < nth l i) : twV l s i (m + 1) = twV l s i m + s := by
  unfold twV
  rw [show clN l i (m + 1) = clN l i m + 1 from by show clN l i m + (if nth l m < nth l i then 1 else 0) = _; rw [if_pos h], show ((clN l i m + 1 : Nat) : Int) = (clN l i m : Int) + 1 by omega, Int.mul_add, Int.mul_one]
theorem twV_no {l : List Int} {s : Int} {i m : Nat} (h : ¬ nth l m < nth l i) : twV l s i (m + 1) = twV l s i m := by
  unfold twV
  rw [show clN l i (m + 1) = clN l i m from by show clN l i m + (if nth l m < nth l i then 1 else 0) = _; rw [if_neg h]; rfl]
theorem twV_in {l : List Int} {s : Int} {i m : Nat} (h0 : 1 ≤ s) (h1 : s ≤ 1000) (hm : m ≤ 200) : 0 ≤ twV l s i m ∧ twV l s i m ≤ 200000 := by
  unfold twV
  have h := clN_le l i m
  constructor
  · exact Int.mul_nonneg (by omega) (by omega)
  · have : s * (clN l i m : Int) ≤ 1000 * 200 := Int.mul_le_mul h1 (by omega) (by omega) (by omega)
    omega
def twL (l : List Int) (s : Int) : List Int := (List.range l.length).map fun i => twV l s i l.length
theorem twL_len (l : List Int) (s : Int) : (twL l s).length = l.length := by simp [twL]
theorem twL_nth {l : List Int} {s : Int} {i : Nat} (h : i < l.length) : nth (twL l s) i = twV l s i l.length := by simp [nth, twL, h]
theorem twL_suf {l : List Int} {s : Int} (hs : 1 ≤ s) : sufN (twL l s) = sufN l := by
  refine sufN_alike (twL_len l s) fun i k hi hk => ?_
  rw [twL_nth hi, twL_nth hk]
  have hlt : ∀ {i k}, i < l.length → nth l i < nth l k → twV l s i l.length < twV l s k l.length := fun {i k} hi h => by
    unfold twV
    have := (clN_mono h l.length).2 hi
    exact Int.mul_lt_mul_of_pos_left (by omega) (by omega)
  have heq : ∀ {i k}, nth l i = nth l k → twV l s i l.length = twV l s k l.length := fun {i k} h => by
    unfold twV
    rw [clN_same h]
  rcases Int.lt_trichotomy (nth l i) (nth l k) with c | c | c
  · have := hlt hi c
    constructor <;> constructor <;> intro <;> omega
  · have := heq c
    constructor <;> constructor <;> intro <;> omega
  · have := hlt hk c
    constructor <;> constructor <;> intro <;> omega
theorem twL_sufL {l : List Int} {s : Int} (hs : 1 ≤ s) : sufL (twL l s) = sufL l := by unfold sufL; rw [twL_suf hs]
/-- The row of the twin under way. -/
def fT (l : List Int) (s : Int) (i : Nat) : Value := .int .i64 (twV l s i l.length)
def zT (_ : Nat) : Value := .int .i64 0
def twC (l : List Int) (s : Int) (k m : Nat) : Array Value := (wcur (fT l s) zT l.length k).setIfInBounds k (.int .i64 (twV l s k m))
theorem twC_zero {l : List Int} {s : Int} {k : Nat} (h : k < l.length) : twC l s k 0 = wcur (fT l s) zT l.length k := by
  unfold twC
  rw [twV_zero]
  apply Array.ext_getElem?
  intro i
  rw [Array.getElem?_setIfInBounds, wcur_size]
  by_cases e : k = i
  · subst e
    rw [if_pos rfl, if_pos h, wcur_get _ _ _ _ _ h, if_neg (by omega)]; rfl
  · rw [if_neg e]
theorem twC_full {l : List Int} {s : Int} {k : Nat} (h : k < l.length) : twC l s k l.length = wcur (fT l s) zT l.length (k + 1) := wcur_set (fT l s) zT l.length k h
theorem twC_get {l : List Int} {s : Int} {k m : Nat} (h : k < l.length) : (twC l s k m)[k]? = some (.int .i64 (twV l s k m)) := by
  unfold twC
  rw [Array.getElem?_setIfInBounds, if_pos rfl, wcur_size, if_pos h]
theorem twC_set {l : List Int} {s : Int} {k m : Nat} (x : Int) (h : twV l s k (m + 1) = x) : (twC l s k m).setIfInBounds k (.int .i64 x) = twC l s k (m + 1) := by
  unfold twC
  rw [h]
  apply Array.ext_getElem?
  intro i
  simp only [Array.getElem?_setIfInBounds, Array.size_setIfInBounds]
  by_cases e : k = i
  · simp [e]
  · simp [e]
theorem twC_ints {w : World} {g : Nat} {l : List Int} {s : Int} {t : TypeId} (h : w.heap[g]? = some (.cells (wcur (fT l s) zT l.length l.length) t (0, 0))) : IntsAt w (some ⟨g, 0, none⟩) .i64 (twL l s) := fun i hi => by
  rw [twL_len] at hi
  refine ⟨_, rfl, ?_⟩
  have e : (⟨g, 0, none⟩ : Addr).add i = ⟨g, i, none⟩ := by
    unfold Addr.add
    by_cases h0 : i = 0
    · subst h0; rfl
    · simp [h0]
  rw [e]
  have : w.cell? ⟨g, i, none⟩ = (wcur (fT l s) zT l.length l.length)[i]? := by simp [World.cell?, h]
  rw [this, wcur_get _ _ _ _ _ hi, if_pos hi, twL_nth hi]
  rfl
/-- Which places were met behind k of the array. -/
def fSn (l : List Int) (k : Nat) (p : Nat) : Value := .bool (decide (rkN l p < k))
def snC (l : List Int) (k : Nat) : Array Value := ((List.range l.length).map (fSn l k)).toArray
theorem snC_size (l : List Int) (k : Nat) : (snC l k).size = l.length := by simp [snC]
theorem snC_get {l : List Int} {k p : Nat} (h : p < l.length) : (snC l k)[p]? = some (.bool (decide (rkN l p < k))) := by simp [snC, h, fSn]
theorem snC_set {l : List Int} {k : Nat} (h : k < l.length) : (snC l k).setIfInBounds (snth (sufN l) k) (.bool true) = snC l (k + 1) := by
  apply Array.ext_getElem?
  intro p
  rw [Array.getElem?_setIfInBounds, snC_size]
  by_cases e : snth (sufN l) k = p
  · subst e
    rw [if_pos rfl, if_pos (sufN_lt h), snC_get (sufN_lt h), rkN_of h, decide_eq_true (by omega)]
  · rw [if_neg e]
    by_cases hp : p < l.length
    · rw [snC_get hp, snC_get hp]
      congr 2
      rw [decide_eq_decide]
      have : rkN l p ≠ k := fun x => e (by rw [← x]; exact rkN_at hp)
      omega
    · rw [Array.getElem?_eq_none (by rw [snC_size]; omega), Array.getElem?_eq_none (by rw [snC_size]; omega)]
theorem snC_zero (l : List Int) : madeCells #[.bool false] l.length = snC l 0 := by
  apply Array.ext_getElem?
  intro i
  by_cases hi : i < l.length
  · rw [snC_get hi]; simp [madeCells, hi, Nat.mod_one]
  · rw [Array.getElem?_eq_none (by simp [madeCells]; omega), Array.getElem?_eq_none (by rw [snC_size]; omega)]
theorem infoB : ∃ i, Tryd.prog.info? 4 = some i ∧ i.zero = some (.bool false) ∧ i.size = 1 ∧ i.bytes = 1 :=
  ⟨(Tryd.prog.info? 4).get (by kernel_rfl), by kernel_rfl, by kernel_rfl, by kernel_rfl, by kernel_rfl⟩
theorem made_bools (l : List Int) (hn : l.length ≤ 1048576) (w : World) : (Instr.makeSlice 73 (.int .i64 (l.length : Int)) (.int .i64 (l.length : Int))).run Tryd.prog w = .ok (.slice (some ⟨w.heap.size, 0, none⟩) l.length l.length) (w.alloc (.cells (snC l 0) 4)) := by
  obtain ⟨i, hi, hz, hs, hb⟩ := infoB
  have h := run_makeSlice (P := Tryd.prog) w 73 4 i _ Tryd.underlying73 hi hz .i64 .i64 (l.length : Int) (l.length : Int) (by omega) (by omega) (by rw [hs]; omega) (by rw [hb]; omega) (by omega)
  rw [hs, Nat.mul_one, show ((l.length : Int)).toNat = l.length by omega] at h
  rw [h, ← snC_zero]
  rfl
theorem infoI3' : ∃ i, Tryd.prog.info? 3 = some i ∧ i.zero = some (.int .i64 0) ∧ i.size = 1 ∧ i.bytes = 8 :=
  ⟨(Tryd.prog.info? 3).get (by kernel_rfl), by kernel_rfl, by kernel_rfl, by kernel_rfl, by kernel_rfl⟩
theorem made_ints (f : Nat → Value) (n : Nat) (hn : n ≤ 1048576) (w : World) : (Instr.makeSlice 22 (.int .i64 (n : Int)) (.int .i64 (n : Int))).run Tryd.prog w = .ok (.slice (some ⟨w.heap.size, 0, none⟩) n n) (w.alloc (.cells (wcur f zT n 0) 3)) := by
  obtain ⟨i, hi, hz, hs, hb⟩ := infoI3'
  have h := run_makeSlice (P := Tryd.prog) w 22 3 i _ Tryd.underlying22 hi hz .i64 .i64 (n : Int) (n : Int) (by omega) (by omega) (by rw [hs]; omega) (by rw [hb]; omega) (by omega)
  rw [hs, Nat.mul_one, show ((n : Int)).toNat = n by omega] at h
  rw [h, show zT = fun _ => .int .i64 0 from rfl, ← made_wcur f (.int .i64 0) n]
  rfl
theorem set_rowT {w : World} {g k : Nat} {cur : Array Value} {t : TypeId} (h : w.heap[g]? = some (.cells cur t (0, 0))) (u : Value) : (w.setCell ⟨g, k, none⟩ u).heap[g]? = some (.cells (cur.setIfInBounds k u) t (0, 0)) := by
  simp [World.setCell, Array.getElem?_modify, h]



end Go.Proofs.YtpmaiblgnblpeaaDoor

namespace Go.Proofs.YtpmaiblgnblpeaaDoor
open Go.RowKit

def NewI (L : List Int) (n : Nat) (w : World) (e : Ending) (w' : World) : Prop := ∃ (A : Option Addr) (c : Nat), e = .returned (.slice A n c) ∧ w'.ownsRow w.heap.size 3 1 (.slice A n c) n (iVals .i64 L) ∧ Below w.heap.size w w'
set_option maxHeartbeats 2000000 in
theorem refarray_any (A : Option Addr) (c : Nat) (l : List Int) (w : World) (hA : IntsAt w A .i64 l) (hl : l.length ≤ 1048576) : Calls Tryd.prog 5 #[.slice A l.length c] w (NewI (sufL l) l.length w) := by
  have C := refsorted_any A c l hl l.length 0 l.length w (by omega) (by omega) (Nat.le_refl _) hA
  rw [show (((0 : Nat)) : Int) = 0 from rfl] at C
  clear hA
  go_enter Tryd.func5, Tryd.ntmps5
  go_wp2_with fail
  refine C.mono ?_
  rintro e w1 ⟨R, B, k, rfl, ho, hs, hb⟩
  have e1 := hs.all
  subst e1
  rw [sufN_len] at ho
  have HP : Hid (NewI (sufL l) l.length w (.returned (.slice B l.length k)) w1) := ⟨B, k, rfl, ho, hb⟩
  rw [sufN_len]
  clear ho hs hb C
  go_wp2
  go_ret
  exact HP.out
def rkV (l : List Int) (k p : Nat) : Int := if rkN l p < k then ((rkN l p : Nat) : Int) else 0
def rkC (l : List Int) (k : Nat) : Array Value := ((List.range l.length).map fun p => Value.int .i64 (rkV l k p)).toArray
theorem rkC_size (l : List Int) (k : Nat) : (rkC l k).size = l.length := by simp [rkC]
theorem rkC_get {l : List Int} {k p : Nat} (h : p < l.length) : (rkC l k)[p]? = some (.int .i64 (rkV l k p)) := by simp [rkC, h]
theorem rkC_set {l : List Int} {k : Nat} (h : k < l.length) : (rkC l k).setIfInBounds (snth (sufN l) k) (.int .i64 (k : Int)) = rkC l (k + 1) := by
  apply Array.ext_getElem?
  intro p
  rw [Array.getElem?_setIfInBounds, rkC_size]
  by_cases e : snth (sufN l) k = p
  · subst e
    rw [if_pos rfl, if_pos (sufN_lt h), rkC_get (sufN_lt h)]
    unfold rkV
    rw [rkN_of h, if_pos (by omega)]
  · rw [if_neg e]
    by_cases hp : p < l.length
    · rw [rkC_get hp, rkC_get hp]
      have : rkN l p ≠ k := fun x => e (by rw [← x]; exact rkN_at hp)
      unfold rkV
      by_cases c : rkN l p < k
      · rw [if_pos c, if_pos (by omega)]
      · rw [if_neg c, if_neg (by omega)]
    · rw [Array.getElem?_eq_none (by rw [rkC_size]; omega), Array.getElem?_eq_none (by rw [rkC_size]; omega)]
theorem rkC_zero (l : List Int) : wcur (fun _ => .int .i64 0) zT l.length 0 = rkC l 0 := by
  apply Array.ext_getElem?
  intro i
  by_cases hi : i < l.length
  · rw [rkC_get hi, wcur_get _ _ _ _ _ hi, if_neg (by omega)]
    unfold rkV
    rw [if_neg (by omega)]; rfl
  · rw [Array.getElem?_eq_none (by rw [wcur_size]; omega), Array.getElem?_eq_none (by rw [rkC_size]; omega)]
theorem rkC_own {w : World} {g : Nat} {l : List Int} (h : w.heap[g]? = some (.cells (rkC l l.length) 3 (0, 0))) (hn : l.length ≤ 1048576) {base : Nat} (hg : base ≤ g) : w.ownsRow base 3 1 (.slice (some ⟨g, 0, none⟩) l.length l.length) l.length (iVals .i64 (rkL l)) := by
  refine ⟨by simp [iVals, rkL_len], .inr ⟨g, l.length, _, rfl, hg, h, Nat.le_refl _, by unfold maxLen; omega, by rw [rkC_size, Nat.mul_one], ?_⟩⟩
  apply List.ext_getElem?
  intro i
  by_cases hi : i < l.length
  · rw [List.getElem?_take_of_lt (by omega), Array.getElem?_toList, rkC_get hi, iVals_get (by rw [rkL_len]; exact hi), rkL_nth hi]
    unfold rkV
    rw [if_pos (rkN_lt hi)]
  · rw [List.getElem?_eq_none (by simp [rkC_size]; omega), List.getElem?_eq_none (by simp [iVals, rkL_len]; omega)]

end Go.Proofs.YtpmaiblgnblpeaaDoor
