/-
  The document's sorting by merging, plain. Instructions and their words, as plain functions of numbers; no Go in sight.
-/
import Derived.Test.YtpmaiblgnblpeaaDoorProg
import Derived.WalkKit
import Derived.WalkSpells
import Derived.WalkLawsBesides
import Derived.RowKit3
import Derived.Below
import Derived.Deep.QuietTactic
import Derived.BigQuiet
import Derived.WalkSmall
import Derived.Laws.Rows
import Derived.Test.YtpmaiblgnblpeaaDoorPf03
import Derived.RowKit
namespace Go.Proofs.YtpmaiblgnblpeaaDoor
open Go.RowKit

/-- Not greater. -/
def leS (l : List Int) (i k : Nat) : Bool := !lsS l k i
theorem leS_trans (l : List Int) (a b c : Nat) (h1 : leS l a b = true) (h2 : leS l b c = true) : leS l a c = true := by
  unfold leS at *
  rw [Bool.not_eq_true'] at h1 h2 ⊢
  cases h3 : lsS l c a with
  | false => rfl
  | true =>
    exfalso
    by_cases e1 : l.drop a = l.drop b
    · have : lsS l c b = true := by unfold lsS at h3 ⊢; rw [← e1]; exact h3
      rw [this] at h2; cases h2
    · rcases ltL_total e1 with x | x
      · have := ltL_trans h3 x
        have h2 : ltL (l.drop c) (l.drop b) = false := h2
        rw [this] at h2; cases h2
      · have h1 : ltL (l.drop b) (l.drop a) = false := h1
        rw [x] at h1; cases h1
theorem leS_total (l : List Int) (a b : Nat) : (leS l a b || leS l b a) = true := by
  unfold leS
  cases h1 : lsS l b a with
  | false => rfl
  | true => rw [lsS_asym h1]; rfl
/-- The places from one to below another, in order. -/
structure SrtP (l : List Int) (f t : Nat) (R : List Nat) : Prop where
  perm : R.Perm (List.range' f (t - f))
  ord : R.Pairwise fun i k => leS l i k = true
theorem SrtP.len {l : List Int} {f t : Nat} {R : List Nat} (h : SrtP l f t R) : R.length = t - f := by rw [h.perm.length_eq, List.length_range']
theorem SrtP.lt {l : List Int} {f t : Nat} {R : List Nat} (h : SrtP l f t R) {x : Nat} (hx : x ∈ R) : x < t := by
  rw [h.perm.mem_iff, List.mem_range'_1] at hx
  omega
theorem SrtP.none (l : List Int) (f : Nat) : SrtP l f f [] := ⟨by rw [Nat.sub_self]; exact List.Perm.refl _, List.Pairwise.nil⟩
theorem SrtP.one {l : List Int} {f t : Nat} (h : t = f + 1) : SrtP l f t [f] := ⟨by rw [h, show f + 1 - f = 1 by omega]; exact List.Perm.refl _, by simp⟩
theorem SrtP.merge {l : List Int} {f m t : Nat} {A B : List Nat} (h1 : f ≤ m) (h2 : m ≤ t) (ha : SrtP l f m A) (hb : SrtP l m t B) : SrtP l f t (List.merge A B (leS l)) := by
  refine ⟨?_, List.pairwise_merge (leS_trans l) (leS_total l) A B ha.ord hb.ord⟩
  refine List.Perm.trans (List.merge_perm_append (leS l)) ?_
  have e : List.range' f (t - f) = List.range' f (m - f) ++ List.range' m (t - m) := by
    have := List.range'_append_1 (s := f) (m := m - f) (n := t - m)
    rw [show f + (m - f) = m by omega, show m - f + (t - m) = t - f by omega] at this
    exact this.symm
  rw [e]
  exact ha.perm.append hb.perm
theorem SrtP.all {l : List Int} {R : List Nat} (h : SrtP l 0 l.length R) : R = sufN l := by
  have hp : R.Perm (List.range l.length) := by rw [List.range_eq_range']; exact h.perm
  refine sufN_uniq ⟨hp, ?_⟩
  have hn : R.Nodup := hp.nodup_iff.2 List.nodup_range
  refine (h.ord.and hn).imp_of_mem fun {a b} ha hb x => ?_
  have ha : a < l.length := by rw [hp.mem_iff, List.mem_range] at ha; exact ha
  have hb : b < l.length := by rw [hp.mem_iff, List.mem_range] at hb; exact hb
  rcases lsS_total ha hb x.2 with y | y
  · exact y
  · have := x.1
    unfold leS at this
    rw [y] at this; cases this
/-- A merging under way. -/
def Mrg (l : List Int) (A B O : List Nat) (p q : Nat) : Prop := List.merge A B (leS l) = O ++ List.merge (A.drop p) (B.drop q) (leS l)
theorem Mrg.start (l : List Int) (A B : List Nat) : Mrg l A B [] 0 0 := rfl
theorem ndrop {A : List Nat} {p : Nat} (h : p < A.length) : A.drop p = snth A p :: A.drop (p + 1) := by
  rw [List.drop_eq_getElem_cons h]
  simp [snth, h]
theorem Mrg.left {l : List Int} {A B O : List Nat} {p q : Nat} (h : Mrg l A B O p q) (hp : p < A.length) (hq : q < B.length) (hl : lsS l (snth B q) (snth A p) = false) : Mrg l A B (O ++ [snth A p]) (p + 1) q := by
  unfold Mrg at *
  rw [h, ndrop hp, ndrop hq, List.cons_merge_cons_pos _ _ _ (by unfold leS; rw [hl]; rfl), List.append_assoc]
  rfl
theorem Mrg.right {l : List Int} {A B O : List Nat} {p q : Nat} (h : Mrg l A B O p q) (hp : p < A.length) (hq : q < B.length) (hl : lsS l (snth B q) (snth A p) = true) : Mrg l A B (O ++ [snth B q]) p (q + 1) := by
  unfold Mrg at *
  rw [h, ndrop hp, ndrop hq, List.cons_merge_cons_neg _ _ _ (by unfold leS; rw [hl]; simp), List.append_assoc, ← ndrop hp]
  rfl
theorem Mrg.done {l : List Int} {A B O : List Nat} {p q : Nat} (h : Mrg l A B O p q) (he : A.length ≤ p ∨ B.length ≤ q) : List.merge A B (leS l) = O ++ A.drop p ++ B.drop q := by
  unfold Mrg at h
  rw [h, List.append_assoc]
  congr 1
  rcases he with e | e
  · rw [List.drop_eq_nil_of_le e, List.nil_append, List.nil_merge]
  · rw [List.drop_eq_nil_of_le e, List.append_nil, List.merge_right]
def natL (R : List Nat) : List Int := R.map fun p => ((p : Nat) : Int)
theorem natL_len (R : List Nat) : (natL R).length = R.length := by simp [natL]
theorem natL_nth {R : List Nat} {i : Nat} (h : i < R.length) : nth (natL R) i = ((snth R i : Nat) : Int) := by simp [nth, natL, snth, h]
theorem natL_app (R S : List Nat) : natL (R ++ S) = natL R ++ natL S := by simp [natL]



end Go.Proofs.YtpmaiblgnblpeaaDoor

namespace Go.Proofs.YtpmaiblgnblpeaaDoor
open Go.RowKit

/-- Which fields an op has: D, A, B, N; whether its N is a place. -/
def hD (op : Int) : Bool := decide (op = 1 ∨ op = 2 ∨ (3 ≤ op ∧ op ≤ 11) ∨ op = 13 ∨ op = 20)
def hA (op : Int) : Bool := decide ((2 ≤ op ∧ op ≤ 12) ∨ op = 14 ∨ op = 16 ∨ op = 18 ∨ op = 19)
def hB (op : Int) : Bool := decide ((3 ≤ op ∧ op ≤ 10) ∨ op = 12)
def hN (op : Int) : Bool := decide (op = 1 ∨ op = 11 ∨ op = 12 ∨ (14 ≤ op ∧ op ≤ 17) ∨ op = 20)
def hP (op : Int) : Bool := decide ((15 ≤ op ∧ op ≤ 17) ∨ op = 20)
/-- May a register's field be r? -/
def regOK (h : Bool) (r : Int) : Bool := if h then decide (0 ≤ r ∧ r < 16) else decide (r = 0)
/-- May N be x? -/
def numOK (n p : Bool) (x : Int) : Bool := if n then (if p then decide (0 ≤ x ∧ x < 16384) else decide (-16384 ≤ x ∧ x ≤ 16383)) else decide (x = 0)
def insOK (op d a b n : Int) : Bool := regOK (hD op) d && regOK (hA op) a && regOK (hB op) b && numOK (hN op) (hP op) n
/-- The word. -/
def encW (op d a b n : Int) : Int := op * 134217728 + d * 8388608 + a * 524288 + b * 32768 + n % 32768
/-- Encode's word and error. -/
def encV (op d a b n : Int) : Int := if op < 0 ∨ 21 < op then 0 else if insOK op d a b n then encW op d a b n else 0
def encE (op d a b n : Int) : Int := if op < 0 ∨ 21 < op then 10 else if insOK op d a b n then 0 else 11
/-- The fields of a word. -/
def wOp (w : Int) : Int := w / 134217728
def wD (w : Int) : Int := w / 8388608 % 16
def wA (w : Int) : Int := w / 524288 % 16
def wB (w : Int) : Int := w / 32768 % 16
def wN (w : Int) : Int := if hN (wOp w) && !hP (wOp w) && decide (16384 ≤ w % 32768) then w % 32768 - 32768 else w % 32768
/-- Is a word an instruction? -/
def isIns (w : Int) : Bool := decide (wOp w ≤ 21) && insOK (wOp w) (wD w) (wA w) (wB w) (wN w)











end Go.Proofs.YtpmaiblgnblpeaaDoor
