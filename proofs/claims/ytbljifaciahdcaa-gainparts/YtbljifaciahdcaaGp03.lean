/-
  Plain: what a fold pays. Plain: classes in range, and what is saved at each spot. A number, a list of spots, a spot, as they are handed in.
-/
import Derived.Test.YtbljifaciahdcaaProg
import Derived.WalkKit
import Derived.WalkSpells
import Derived.WalkLawsBesides
import Derived.RowKit3
import Derived.Below
import Derived.Deep.QuietTactic
import Derived.BigQuiet
import Derived.WalkSmall
import Derived.Laws.Rows
import Derived.Test.YtbljifaciahdcaaGp02
import Derived.Test.YtbljifaciahdcaaGp01
import Derived.Test.YtbljifaciahdcaaRows
import Derived.ProofKit
import Derived.OpenShut
import Derived.SizedLaws
import Derived.Carry
import Derived.Deep.Strs
import Derived.Deep.SlicePairs
namespace Go.Proofs.Ytbljifaciahdcaa
open Go.RowKit

def costN (c : Int) : Int := if c = 1 ∨ c = 2 ∨ c = 3 then 1 else if c = 4 then 3 else 0
def sizeN (c n : Int) : Int := if n < 1 then 0 else if c = 1 ∨ c = 2 then n else if c = 3 ∨ c = 4 then wrap64 (n + 1) else 0
theorem costN_b (c : Int) : 0 ≤ costN c ∧ costN c ≤ 3 := by
  unfold costN
  split
  · omega
  · split <;> omega
theorem wrap_small {x : Int} (h : 0 ≤ x ∧ x ≤ 1048576) : wrap64 x = x := by
  unfold wrap64
  omega
theorem sizeN_b {c n : Int} (h : 1 ≤ n ∧ n ≤ 16384) : 0 ≤ sizeN c n ∧ sizeN c n ≤ 16385 := by
  unfold sizeN
  rw [if_neg (by omega)]
  split
  · omega
  · split
    · rw [wrap_small (by omega)]; omega
    · omega
/-- The sum behind the first k spots. -/
def sumN (n : Int) (l : List Spt) : Nat → Int
  | 0 => - sizeN (spt l 0).2.1 n
  | k + 1 => sumN n l k + n - costN (spt l k).2.1
theorem sumN_b {n : Int} (l : List Spt) (h : 1 ≤ n ∧ n ≤ 16384) : ∀ k : Nat, -16385 - 3 * (k : Int) ≤ sumN n l k ∧ sumN n l k ≤ 16384 * (k : Int)
  | 0 => by
    have := sizeN_b (c := (spt l 0).2.1) h
    show _ ≤ - sizeN _ n ∧ - sizeN _ n ≤ _
    omega
  | k + 1 => by
    have h1 := sumN_b l h k
    have h2 := costN_b (spt l k).2.1
    rw [sumN]
    omega
/-- What a fold pays. -/
def gainB (n : Int) (l : List Spt) : Bool := decide (0 < l.length) && (decide (1 ≤ n) && decide (n ≤ 16384))
def gainN (n : Int) (l : List Spt) : Int := if gainB n l = true then sumN n l l.length else 0
theorem gain_yes {n : Int} {l : List Spt} (h0 : 0 < l.length) (h : 1 ≤ n ∧ n ≤ 16384) : gainN n l = sumN n l l.length := by
  unfold gainN gainB
  rw [decide_eq_true h0, decide_eq_true h.1, decide_eq_true h.2]; rfl
theorem gain_no {n : Int} {l : List Spt} (h : l.length = 0 ∨ n < 1 ∨ 16384 < n) : gainN n l = 0 := by
  unfold gainN
  rw [if_neg]
  unfold gainB
  rcases h with h | h | h
  · rw [decide_eq_false (by omega)]; simp
  · rw [decide_eq_false (show ¬ 1 ≤ n by omega)]; simp
  · rw [decide_eq_false (show ¬ n ≤ 16384 by omega)]; simp
theorem sumN_app (n : Int) (l r : List Spt) (h0 : 0 < l.length) : ∀ k, k ≤ l.length → sumN n (l ++ r) k = sumN n l k
  | 0, _ => by
    have e : spt (l ++ r) 0 = spt l 0 := by
      unfold spt
      rw [List.getD_eq_getElem?_getD, List.getD_eq_getElem?_getD, List.getElem?_append_left h0]
    rw [sumN, sumN, e]
  | k + 1, h => by
    have e : spt (l ++ r) k = spt l k := by
      unfold spt
      rw [List.getD_eq_getElem?_getD, List.getD_eq_getElem?_getD, List.getElem?_append_left (by omega)]
    rw [sumN, sumN, sumN_app n l r h0 k (by omega), e]
/-- A spot more. -/
theorem gain_more {n : Int} {l : List Spt} (s : Spt) (h0 : 0 < l.length) (h : 1 ≤ n ∧ n ≤ 16384) : gainN n (l ++ [s]) = gainN n l + n - costN s.2.1 := by
  have hl : (l ++ [s]).length = l.length + 1 := by rw [List.length_append]; rfl
  have e : spt (l ++ [s]) l.length = s := by
    unfold spt
    rw [List.getD_eq_getElem?_getD, List.getElem?_append_right (Nat.le_refl _), Nat.sub_self]; rfl
  rw [gain_yes (by omega) h, gain_yes h0 h, hl, sumN, sumN_app n l [s] h0 _ (Nat.le_refl _), e]
/-- One spot. -/
theorem gain_one {n : Int} {l : List Spt} (h0 : 0 < l.length) (h : 1 ≤ n ∧ n ≤ 16384) : gainN n (l.take 1) = n - costN (spt l 0).2.1 - sizeN (spt l 0).2.1 n := by
  have hl : (l.take 1).length = 1 := by rw [List.length_take]; omega
  have e : spt (l.take 1) 0 = spt l 0 := by
    cases l with
    | nil => simp at h0
    | cons x t => rfl
  rw [gain_yes (by omega) h, hl]
  show sumN n (l.take 1) 0 + n - costN _ = _
  rw [show sumN n (l.take 1) 0 = - sizeN (spt (l.take 1) 0).2.1 n from rfl, e]
  omega
theorem gain_b {n : Int} (l : List Spt) (hl : l.length ≤ 65536) : -1048576 ≤ gainN n l ∧ gainN n l ≤ 1099511627776 := by
  by_cases h : 0 < l.length ∧ 1 ≤ n ∧ n ≤ 16384
  · rw [gain_yes h.1 h.2]
    have := sumN_b l h.2 l.length
    omega
  · rw [gain_no (by omega)]
    omega

end Go.Proofs.Ytbljifaciahdcaa

namespace Go.Proofs.Ytbljifaciahdcaa
open Go.RowKit

def In8 (c : Int) : Prop := -128 ≤ c ∧ c ≤ 127
def SpI (l : List Spt) : Prop := ∀ i, i < l.length → In8 (spt l i).2.1
theorem SpI.more {l : List Spt} (h : SpI l) {a b c : Int} (hb : In8 b) : SpI (l ++ [(a, b, c)]) := fun i hi => by
  rw [List.length_append] at hi
  by_cases q : i < l.length
  · have e : spt (l ++ [(a, b, c)]) i = spt l i := by
      unfold spt
      rw [List.getD_eq_getElem?_getD, List.getD_eq_getElem?_getD, List.getElem?_append_left q]
    rw [e]; exact h i q
  · have hi1 : i < l.length + 1 := hi
    obtain rfl : i = l.length := by omega
    have e : spt (l ++ [(a, b, c)]) l.length = (a, b, c) := by
      unfold spt
      rw [List.getD_eq_getElem?_getD, List.getElem?_append_right (Nat.le_refl _), Nat.sub_self]; rfl
    rw [e]; exact hb
theorem SpI.take1 {l : List Spt} (h : SpI l) (h0 : 0 < l.length) : SpI (l.take 1) := fun i hi => by
  have : i < 1 := by rw [List.length_take] at hi; omega
  obtain rfl : i = 0 := by omega
  have e : spt (l.take 1) 0 = spt l 0 := by
    cases l with
    | nil => simp at h0
    | cons x t => rfl
  rw [e]; exact h 0 h0
def savN (n : Int) (l : List Spt) (i : Nat) : Int := n - costN (spt l i).2.1
def addF (f : Nat → Int) : Nat → Int
  | 0 => 0
  | k + 1 => addF f k + f k
theorem addF_sum (n : Int) (l : List Spt) : ∀ k, addF (savN n l) k - sizeN (spt l 0).2.1 n = sumN n l k
  | 0 => by rw [addF, sumN]; omega
  | k + 1 => by
    have := addF_sum n l k
    rw [addF, sumN, savN]
    omega
theorem savN_b {n : Int} (l : List Spt) (h : 1 ≤ n ∧ n ≤ 16384) (i : Nat) : -3 ≤ savN n l i ∧ savN n l i ≤ 16384 := by
  have := costN_b (spt l i).2.1
  unfold savN
  omega
theorem addF_b {f : Nat → Int} (h : ∀ i, -3 ≤ f i ∧ f i ≤ 16384) : ∀ k : Nat, -3 * (k : Int) ≤ addF f k ∧ addF f k ≤ 16384 * (k : Int)
  | 0 => by rw [addF]; omega
  | k + 1 => by
    have h1 := addF_b h k
    have h2 := h k
    rw [addF]
    omega

end Go.Proofs.Ytbljifaciahdcaa

namespace Go.Proofs.Ytbljifaciahdcaa
open Go.ChangeShapes Go.WideShapes Go.ChangeAt Go.RowKit Go.Joins

set_option maxRecDepth 100000 in
theorem openSpots {H : Type} {enc : TypeId × Value → H} {W : World} {b0 base : Nat} {sp : Nat → Bool} {held : Bool} {v : Value} {d : DataW H} {p : List MemPlace} (hv : Value.okWide Try.prog W .any b0 22 v) (h : DataW.Trod enc Try.prog W base sp held 22 v d p) :
    ∃ (O : Option Addr) (cap : Nat) (zs : List Spt), v = .slice O zs.length cap ∧ SpAt W O zs ∧ (O = none → cap = 0) ∧ zs.length ≤ cap ∧ SpI zs := by
  obtain ⟨a, len, c, rfl⟩ := okWide_slice Try.underlying22 hv
  obtain ⟨fuel, hf⟩ := h
  have hle : len ≤ c := by
    rcases Deep.open_slice Try.underlying22 hf with ⟨e, _⟩ | ⟨a', len', cap', m, k, D, Pl, e, _, hl, _⟩
    · simp [Value.cells] at e
      omega
    · simp [Value.cells] at e
      omega
  obtain ⟨O, cap, zs, e, k, _, hw, hn⟩ := open_spots hf
  have e2 : Value.slice a len c = .slice O zs.length cap := by simpa [Value.cells] using e
  injection e2 with e3 e4 e5
  subst e3 e4 e5
  exact ⟨a, c, zs, rfl, k, hn, hle, fun i hi => boundsOf (hw i hi).2.1⟩
theorem threeV {cs : Array Value} (h : cs.size = 3) : ∃ a b c, cs = #[a, b, c] := by
  match cs, h with
  | ⟨[a, b, c]⟩, _ => exact ⟨a, b, c, rfl⟩
set_option maxRecDepth 100000 in
theorem openSpot {H : Type} {enc : TypeId × Value → H} {W : World} {b0 base : Nat} {sp : Nat → Bool} {held : Bool} {v : Value} {d : DataW H} {p : List MemPlace} (hv : Value.okWide Try.prog W .any b0 32 v) (h : DataW.Trod enc Try.prog W base sp held 32 v d p) :
    ∃ s0 s1 s2 : Int, v = .agg #[.int .i64 s0, .int .i8 s1, .int .i8 s2] ∧ In8 s1 := by
  obtain ⟨cs, rfl, hsz⟩ := okWide_struct Try.underlying32 hv
  obtain ⟨v0, v1, v2, rfl⟩ := threeV (hsz.trans (by kernel_rfl))
  obtain ⟨fuel, hf⟩ := h
  obtain ⟨y0, y1, y2, k, hD, _, g0, g1, g2⟩ := Deep.trod_struct3 Try.underlying32 hf
  simp [Value.cells, show Try.prog.cellsOf 3 = 1 by kernel_rfl, show Try.prog.cellsOf 23 = 1 by kernel_rfl] at g0 g1 g2
  obtain ⟨s, e0, _, hs⟩ := DataW.trod_int Try.underlying3 g0
  obtain ⟨u, e1, _, hu⟩ := DataW.trod_int Try.underlying23 g1
  obtain ⟨x, e2, _, hx⟩ := DataW.trod_int Try.underlying23 g2
  simp at e0 e1 e2
  subst e0 e1 e2
  exact ⟨s, u, x, rfl, boundsOf hu⟩

end Go.Proofs.Ytbljifaciahdcaa
