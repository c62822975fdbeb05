/-
  What can be reached, plain; how it is counted. EqInts: two lists of ints. eq and EqBools of the statements: lists that are the same.
-/
import Derived.Test.YtgkdagnpefgjcaaGreatProg
import Derived.WalkKit
import Derived.WalkSpells
import Derived.WalkLawsBesides
import Derived.RowKit3
import Derived.Below
import Derived.Deep.QuietTactic
import Derived.BigQuiet
import Derived.WalkSmall
import Derived.Laws.Rows
import Derived.Test.YtgkdagnpefgjcaaGreatPr16
import Derived.Test.YtgkdagnpefgjcaaGreatPr01
import Derived.Deep.RegionHeld3
import Derived.Deep.RegionWith
namespace Go.Proofs.YtgkdagnpefgjcaaGreat
open Go.RowKit

/-- The blocks that can be reached. -/
inductive Rch (L : List (List Int)) (e : Int) : Int → Prop
  | base : Rch L e e
  | step {i x : Int} : Rch L e i → 0 ≤ i → x ∈ rowZ L i.toNat → Rch L e x
open Classical in
noncomputable def rchF (L : List (List Int)) (e : Int) (x : Int) : Bool := decide (Rch L e x)
open Classical in
theorem rchF_iff {L : List (List Int)} {e x : Int} : rchF L e x = true ↔ Rch L e x := by
  unfold rchF
  exact decide_eq_true_iff
/-- Only what can be reached is marked, and the first one is. -/
structure Snd (L : List (List Int)) (e : Int) (F : Int → Bool) : Prop where
  here : F e = true
  snd : ∀ x, F x = true → Rch L e x
/-- From what is marked, up to n, nothing leads out. -/
def Cls (L : List (List Int)) (F : Int → Bool) (n : Nat) : Prop := ∀ i : Nat, i < n → F (i : Int) = true → ∀ t, t < (rowZ L i).length → F (nth (rowZ L i) t) = true
theorem rowZ_out {L : List (List Int)} {i : Nat} {x : Int} (h : x ∈ rowZ L i) : i < L.length := by
  unfold rowZ at h
  by_cases hi : i < L.length
  · exact hi
  · rw [List.getD_eq_getElem?_getD, List.getElem?_eq_none (by omega)] at h
    simp at h
theorem rch_in {L : List (List Int)} {e : Int} {F : Int → Bool} (h : Snd L e F) (hc : Cls L F L.length) {x : Int} (hx : Rch L e x) : F x = true := by
  induction hx with
  | base => exact h.here
  | step _ h0 hm ih =>
    have hl := rowZ_out hm
    obtain ⟨t, ht, e⟩ := mem_nth hm
    rw [← e]
    refine hc _ hl ?_ t ht
    rw [show ((Int.toNat _ : Nat) : Int) = _ from Int.toNat_of_nonneg h0]
    exact ih
theorem rch_same {L : List (List Int)} {e : Int} {F : Int → Bool} (h : Snd L e F) (hc : Cls L F L.length) (x : Int) : F x = rchF L e x := by
  rw [Bool.eq_iff_iff, rchF_iff]
  exact ⟨h.snd x, rch_in h hc⟩
theorem snd_zero (L : List (List Int)) (e : Int) : Snd L e (setF noF e) := ⟨by simp [setF], fun x hx => by
  have : x = e := by simpa [setF, noF] using hx
  rw [this]
  exact .base⟩
theorem Snd.more {L : List (List Int)} {e : Int} {F : Int → Bool} (h : Snd L e F) {i t : Nat} (hi : F (i : Int) = true) (ht : t < (rowZ L i).length) : Snd L e (setF F (nth (rowZ L i) t)) := ⟨by simp [setF, h.here], fun x hx => by
  have hx' : x = nth (rowZ L i) t ∨ F x = true := by simpa [setF] using hx
  rcases hx' with rfl | hx'
  · exact .step (h.snd _ hi) (by omega) (by simpa using nth_mem ht)
  · exact h.snd x hx'⟩
/-- How many are not marked. -/
def lowN (F : Int → Bool) : Nat → Nat
  | 0 => 0
  | n + 1 => lowN F n + (if F (n : Int) then 0 else 1)
theorem lowN_le {F G : Int → Bool} {n : Nat} (h : ∀ i : Nat, i < n → F (i : Int) = true → G (i : Int) = true) : lowN G n ≤ lowN F n := by
  induction n with
  | zero => exact Nat.le_refl _
  | succ n ih =>
    have h1 := ih fun i hi => h i (by omega)
    have h2 := h n (by omega)
    unfold lowN
    cases hf : F (n : Int) with
    | true => rw [h2 hf]; simpa using h1
    | false => cases G (n : Int) <;> simp <;> omega
theorem lowN_same {F G : Int → Bool} {n : Nat} (h : ∀ i : Nat, i < n → F (i : Int) = G (i : Int)) : lowN F n = lowN G n :=
  Nat.le_antisymm (lowN_le fun i hi e => by rw [h i hi]; exact e) (lowN_le fun i hi e => by rw [← h i hi]; exact e)
theorem lowN_set {F : Int → Bool} {n : Nat} {x : Int} (h0 : 0 ≤ x) (h1 : x < (n : Int)) (hF : F x = false) : lowN (setF F x) n < lowN F n := by
  induction n with
  | zero => omega
  | succ n ih =>
    unfold lowN
    by_cases e : x = (n : Int)
    · have h2 : lowN (setF F x) n ≤ lowN F n := lowN_le fun i _ h => by simp [setF, h]
      rw [← e, hF, show setF F x x = true by simp [setF]]
      simp
      omega
    · have h2 := ih (by omega)
      have h3 : setF F x (n : Int) = F (n : Int) := by
        unfold setF
        rw [show ((n : Int) == x) = false by rw [beq_eq_false_iff_ne]; omega]
        rfl
      rw [h3]
      omega
/-- What a row of bools holds, read off the world. -/
def cellF (w : World) (g : Nat) (x : Int) : Bool := match w.cell? ⟨g, x.toNat, none⟩ with
  | some (.bool b) => b
  | _ => false
theorem BlsAt.low {w : World} {g n : Nat} {F : Int → Bool} (h : BlsAt w g n F) : lowN (cellF w g) n = lowN F n := lowN_same fun i hi => by
  unfold cellF
  rw [h.cell (x := (i : Int)) (by omega) (by omega)]
def bolOf : Value → Nat
  | .bool true => 1
  | _ => 0
/-- How a round has come on. -/
def Onw (L : List (List Int)) (n : Nat) (F G : Int → Bool) (m : Bool) (k : Nat) : Prop := (m = false → G = F ∧ Cls L F k) ∧ (m = true → lowN G n < lowN F n)
def Onw2 (L : List (List Int)) (n : Nat) (F G : Int → Bool) (m : Bool) (k j : Nat) : Prop := (m = false → G = F ∧ Cls L F k ∧ ∀ t, t < j → F (nth (rowZ L k) t) = true) ∧ (m = true → lowN G n < lowN F n)
theorem Onw.zero (L : List (List Int)) (n : Nat) (F : Int → Bool) : Onw L n F F false 0 := ⟨fun _ => ⟨rfl, fun _i hi => absurd hi (Nat.not_lt_zero _)⟩, fun h => by cases h⟩
theorem Onw.start {L : List (List Int)} {n : Nat} {F G : Int → Bool} {m : Bool} {k : Nat} (h : Onw L n F G m k) : Onw2 L n F G m k 0 := ⟨fun e => ⟨(h.1 e).1, (h.1 e).2, fun _t ht => absurd ht (Nat.not_lt_zero _)⟩, h.2⟩
theorem Onw2.stop {L : List (List Int)} {n : Nat} {F G : Int → Bool} {m : Bool} {k j : Nat} (h : Onw2 L n F G m k j) (hj : (rowZ L k).length ≤ j ∨ G (k : Int) = false) : Onw L n F G m (k + 1) := ⟨fun e => by
  obtain ⟨h1, h2, h3⟩ := h.1 e
  refine ⟨h1, fun i hi hf t ht => ?_⟩
  by_cases e2 : i = k
  · subst e2
    rcases hj with hj | hj
    · exact h3 t (by omega)
    · rw [h1, hf] at hj; cases hj
  · exact h2 i (by omega) hf t ht, h.2⟩
theorem Onw2.met {L : List (List Int)} {n : Nat} {F G : Int → Bool} {m : Bool} {k j : Nat} (h : Onw2 L n F G m k j) (hx : G (nth (rowZ L k) j) = true) : Onw2 L n F G m k (j + 1) := ⟨fun e => by
  obtain ⟨h1, h2, h3⟩ := h.1 e
  refine ⟨h1, h2, fun t ht => ?_⟩
  by_cases e2 : t = j
  · rw [e2, ← h1]; exact hx
  · exact h3 t (by omega), h.2⟩
theorem Onw2.new {L : List (List Int)} {n : Nat} {F G : Int → Bool} {m : Bool} {k j j' : Nat} {x : Int} (h : Onw2 L n F G m k j) (h0 : 0 ≤ x) (h1 : x < (n : Int)) (hx : G x = false) : Onw2 L n F (setF G x) true k j' := by
  have h2 := lowN_set h0 h1 hx
  refine ⟨fun e => (by cases e), fun _ => ?_⟩
  cases m with
  | true => have := h.2 rfl; omega
  | false => have := (h.1 rfl).1; subst this; exact h2
theorem Onw.done {L : List (List Int)} {n : Nat} {F G : Int → Bool} {m : Bool} {k : Nat} (h : Onw L n F G m k) (e : m = false) : Cls L G k := by
  obtain ⟨h1, h2⟩ := h.1 e
  rw [h1]; exact h2
theorem edg_row {text : List Int} {ent : Int} {n k : Nat} (hk : k < n) : rowZ (edgT text ent n) k = plcT (edgR text ent k) (blkL text ent).length := rowZ_map hk
theorem edg_in {text : List Int} {ent : Int} {n k t : Nat} (hk : k < n) (ht : t < (rowZ (edgT text ent n) k).length) : 0 ≤ nth (rowZ (edgT text ent n) k) t ∧ nth (rowZ (edgT text ent n) k) t < ((blkL text ent).length : Int) := by
  have h := nth_mem ht
  rw [edg_row hk] at h ⊢
  exact ⟨(plcT_mem.1 h).1, (plcT_mem.1 h).2.1⟩
theorem beg_ent (text : List Int) (ent : Int) : begF text ent ent = true := by simp [begF, addK, setF]
theorem ent_blk {text : List Int} {ent : Int} (h0 : 0 ≤ ent) (h1 : ent < (text.length : Int)) : ∃ k : Nat, k < (blkL text ent).length ∧ ofB (blkL text ent) ent = (k : Int) := by
  obtain ⟨k, hk, e, _⟩ := blk_begin (f := begF text ent) (n := text.length) (plcT_mem.2 ⟨h0, h1, beg_ent text ent⟩)
  exact ⟨k, hk, e⟩
theorem below_setAt {B : Nat} {w w1 : World} (h : Below B w w1) {g i : Nat} {v : Value} (hg : B ≤ g) (hB : B ≤ w1.heap.size) : Below B w (w1.setCell ⟨g, i, none⟩ v) := grown_belowR h (gset11 _ _ _ _) hg hB


end Go.Proofs.YtgkdagnpefgjcaaGreat

namespace Go.Proofs.YtgkdagnpefgjcaaGreat
open Go.RowKit


end Go.Proofs.YtgkdagnpefgjcaaGreat

namespace Go.Proofs.YtgkdagnpefgjcaaGreat
open Go.RowKit

/-- A row of bools, to be read. -/
def BolsAt (w : World) (A : Option Addr) (n : Nat) (F : Int → Bool) : Prop := ∀ i : Nat, i < n → ∃ a : Addr, A = some a ∧ w.cell? (a.add i) = some (.bool (F (i : Int)))
theorem BolsAt.keep {w w1 : World} {A : Option Addr} {n : Nat} {F : Int → Bool} (h : BolsAt w A n F) (hb : Below w.heap.size w w1) : BolsAt w1 A n F := fun i hi => by
  obtain ⟨a, e, c⟩ := h i hi
  exact ⟨a, e, lkeep hb c⟩
theorem BlsAt.bols {w : World} {g n : Nat} {F : Int → Bool} (h : BlsAt w g n F) : BolsAt w (some ⟨g, 0, none⟩) n F := fun i hi => ⟨_, rfl, by rw [add0]; exact h.cellN hi⟩

end Go.Proofs.YtgkdagnpefgjcaaGreat
