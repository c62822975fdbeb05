/-
  Instructions and their words, as plain functions of numbers; no Go in sight. Instructions and their words, there and back, as plain functions of numbers; no Go in sight. Where an instruction goes, as plain functions of numbers; no Go in sight. What is wrong with an object first, as plain mathematics; no Go in sight. Worlds that part in one block alone, and the marks that lie in it; no Go in sight. A taker in memory, and worlds that part in its block alone; no Go in sight.
-/
import Derived.RowKit
import Derived.Test.YthfcimmfkibmjaaGreatDoorWd01
import Derived.Test.YthfcimmfkibmjaaGreatDoorProg
import Derived.WalkKit
import Derived.WalkSpells
import Derived.WalkLawsBesides
import Derived.RowKit3
import Derived.Below
import Derived.Deep.QuietTactic
import Derived.BigQuiet
import Derived.WalkSmall
namespace Go.Proofs.YthfcimmfkibmjaaGreatDoor
open Go.RowKit

/-- Which fields an op has: D, A, B, N; whether its N is a place. -/
def hD (op : Int) : Bool := decide (op = 1 ∨ op = 2 ∨ (3 ≤ op ∧ op ≤ 11) ∨ op = 13 ∨ op = 20)
def hA (op : Int) : Bool := decide ((2 ≤ op ∧ op ≤ 12) ∨ op = 14 ∨ op = 16 ∨ op = 18 ∨ op = 19)
def hB (op : Int) : Bool := decide ((3 ≤ op ∧ op ≤ 10) ∨ op = 12)
def hN (op : Int) : Bool := decide (op = 1 ∨ op = 11 ∨ op = 12 ∨ (14 ≤ op ∧ op ≤ 17) ∨ op = 20)
def hP (op : Int) : Bool := decide ((15 ≤ op ∧ op ≤ 17) ∨ op = 20)
/-- May a register's field be r? -/
def regOK (h : Bool) (r : Int) : Bool := if h then decide (0 ≤ r ∧ r < 16) else decide (r = 0)
/-- May N be x? -/
def numOK (n p : Bool) (x : Int) : Bool := if n then (if p then decide (0 ≤ x ∧ x < 16384) else decide (-16384 ≤ x ∧ x ≤ 16383)) else decide (x = 0)
def insOK (op d a b n : Int) : Bool := regOK (hD op) d && regOK (hA op) a && regOK (hB op) b && numOK (hN op) (hP op) n
/-- The word. -/
def encW (op d a b n : Int) : Int := op * 134217728 + d * 8388608 + a * 524288 + b * 32768 + n % 32768
/-- Encode's word and error. -/
def encV (op d a b n : Int) : Int := if op < 0 ∨ 21 < op then 0 else if insOK op d a b n then encW op d a b n else 0
def encE (op d a b n : Int) : Int := if op < 0 ∨ 21 < op then 10 else if insOK op d a b n then 0 else 11
/-- The fields of a word. -/
def wOp (w : Int) : Int := w / 134217728
def wD (w : Int) : Int := w / 8388608 % 16
def wA (w : Int) : Int := w / 524288 % 16
def wB (w : Int) : Int := w / 32768 % 16
def wN (w : Int) : Int := if hN (wOp w) && !hP (wOp w) && decide (16384 ≤ w % 32768) then w % 32768 - 32768 else w % 32768
/-- Is a word an instruction? -/
def isIns (w : Int) : Bool := decide (wOp w ≤ 21) && insOK (wOp w) (wD w) (wA w) (wB w) (wN w)
/-- What Decode tells. -/
def dOp (w : Int) : Int := if isIns w then wOp w else -1
def dD (w : Int) : Int := if isIns w then wD w else 0
def dA (w : Int) : Int := if isIns w then wA w else 0
def dB (w : Int) : Int := if isIns w then wB w else 0
def dN (w : Int) : Int := if isIns w then wN w else w
/-- Is N's number below nought? -/
def nNeg (w : Int) : Bool := hN (w / 134217728) && !hP (w / 134217728) && decide (16384 ≤ w % 32768)

theorem wN_neg {w : Int} (h : nNeg w = true) : wN w = w % 32768 - 32768 := by
  unfold nNeg at h; unfold wN wOp; rw [h]; rfl
theorem wN_pos {w : Int} (h : nNeg w = false) : wN w = w % 32768 := by
  unfold nNeg at h; unfold wN wOp; rw [h]; rfl
theorem encW_fields (w : Int) : encW (wOp w) (wD w) (wA w) (wB w) (wN w) = w := by
  unfold encW
  have e : wN w % 32768 = w % 32768 := by
    cases h : nNeg w
    · rw [wN_pos h]; omega
    · rw [wN_neg h]; omega
  rw [e]
  unfold wOp wD wA wB
  omega
theorem enc_yes {w : Int} (h0 : 0 ≤ w) (h1 : w < 4294967296) (h : isIns w = true) : encV (wOp w) (wD w) (wA w) (wB w) (wN w) = w ∧ encE (wOp w) (wD w) (wA w) (wB w) (wN w) = 0 := by
  have hw := encW_fields w
  unfold isIns at h
  rw [Bool.and_eq_true, decide_eq_true_eq] at h
  have hop : 0 ≤ wOp w := by unfold wOp; omega
  have hneg : ¬ (wOp w < 0 ∨ 21 < wOp w) := by omega
  unfold encV encE
  rw [if_neg hneg, if_neg hneg, if_pos h.2, if_pos h.2, hw]
  exact ⟨rfl, rfl⟩
theorem enc_no {w : Int} (h0 : 0 ≤ w) (h : isIns w = false) : encV (wOp w) (wD w) (wA w) (wB w) (wN w) = 0 ∧ (encE (wOp w) (wD w) (wA w) (wB w) (wN w) = 10 ∨ encE (wOp w) (wD w) (wA w) (wB w) (wN w) = 11) := by
  unfold isIns at h
  have hop : 0 ≤ wOp w := by unfold wOp; omega
  unfold encV encE
  by_cases hb : wOp w < 0 ∨ 21 < wOp w
  · rw [if_pos hb, if_pos hb]; exact ⟨rfl, Or.inl rfl⟩
  · rw [if_neg hb, if_neg hb]
    have hle : wOp w ≤ 21 := by omega
    rw [decide_eq_true hle, Bool.true_and] at h
    rw [h]; exact ⟨rfl, Or.inr rfl⟩
/-- Does an op end a block? -/
def endsB (op : Int) : Bool := decide (op = -1 ∨ op = 0 ∨ op = 15 ∨ op = 16 ∨ op = 17 ∨ op = 18 ∨ op = 19 ∨ op = 21)
/-- Is a word one with a place? -/
def isT (w : Int) : Bool := decide (0 ≤ dOp w) && hP (dOp w)
def tgV (w : Int) : Int := if isT w then dN w else 0
/-- Aim's word and error. -/
def aimV (w p : Int) : Int := if isT w && decide (0 ≤ p ∧ p < 16384) then encV (dOp w) (dD w) (dA w) (dB w) p else 0
def aimE (w p : Int) : Int := if isT w then (if decide (0 ≤ p ∧ p < 16384) then encE (dOp w) (dD w) (dA w) (dB w) p else 11) else 10


end Go.Proofs.YthfcimmfkibmjaaGreatDoor

namespace Go.Proofs.YthfcimmfkibmjaaGreatDoor
open Go.RowKit

/-- What is wrong with a relocation: where it is; what stands there. -/
def relE (zs : List Rel) (code : List Int) (ns : Nat) (k : Nat) : Int := if rAt zs k < 0 ∨ (code.length : Int) ≤ rAt zs k ∨ (0 < k ∧ rAt zs k ≤ rAt zs (k - 1)) ∨ rSym zs k < 0 ∨ (ns : Int) ≤ rSym zs k then 24 else if isT (nth code (rAt zs k).toNat) = false ∨ ¬ tgV (nth code (rAt zs k).toNat) = 0 then 24 else 0
def relC (zs : List Rel) (code : List Int) (ns : Nat) : Int × Int := firstOf zs.length (relE zs code ns)
/-- A target that lies outside. -/
def relBad (zs : List Rel) (nc ns : Nat) (k : Nat) : Bool := decide (rAt zs k < 0 ∨ (nc : Int) ≤ rAt zs k ∨ (0 < k ∧ rAt zs k ≤ rAt zs (k - 1)) ∨ rSym zs k < 0 ∨ (ns : Int) ≤ rSym zs k)
def codE (code : List Int) (k : Nat) : Int := if isT (nth code k) = true ∧ (code.length : Int) < tgV (nth code k) then 22 else 0
def codC (code : List Int) : Int × Int := if (firstOf code.length (codE code)).1 = 0 then (0, 0) else (22, -1 - (firstOf code.length (codE code)).2)
def checkC (nm : ByteArray) (code : List Int) (dA : Int) (nd : Nat) (ss : List Sym) (rs : List Rel) : Int × Int :=
  if ¬ (sizeC (nameOK nm) code.length ss.length rs.length nd dA).1 = 0 then sizeC (nameOK nm) code.length ss.length rs.length nd dA
  else if ¬ (symC ss code.length).1 = 0 then symC ss code.length
  else if ¬ (relC rs code ss.length).1 = 0 then relC rs code ss.length
  else codC code



end Go.Proofs.YthfcimmfkibmjaaGreatDoor

namespace Go.Proofs.YthfcimmfkibmjaaGreatDoor
open Go.RowKit

/-- Nothing is other but what lies in block g, and new blocks. -/
def But (g : Nat) (w w' : World) : Prop := w'.os = w.os ∧ w'.tape = w.tape ∧ w'.output = w.output ∧ w.heap.size ≤ w'.heap.size ∧ ∀ k, k < w.heap.size → k ≠ g → w'.heap[k]? = w.heap[k]?
theorem But.refl (g : Nat) (w : World) : But g w w := ⟨rfl, rfl, rfl, Nat.le_refl _, fun _ _ _ => rfl⟩
theorem But.trans {g : Nat} {a b c : World} (h : But g a b) (k : But g b c) : But g a c :=
  ⟨k.1.trans h.1, k.2.1.trans h.2.1, k.2.2.1.trans h.2.2.1, Nat.le_trans h.2.2.2.1 k.2.2.2.1, fun i hi hn => (k.2.2.2.2 i (Nat.lt_of_lt_of_le hi h.2.2.2.1) hn).trans (h.2.2.2.2 i hi hn)⟩
theorem But.of {g : Nat} {w w' : World} (h : Below w.heap.size w w') : But g w w' := ⟨h.os, h.tape, h.output, h.size, fun k hk _ => h.block k hk⟩
theorem But.on {g : Nat} {a b c : World} (h : But g a b) (k : Below b.heap.size b c) : But g a c := h.trans (But.of k)
theorem But.set {g : Nat} {a b : World} (h : But g a b) (i : Nat) (v : Value) : But g a (b.setCell ⟨g, i, none⟩ v) :=
  h.trans ⟨rfl, rfl, rfl, Nat.le_of_eq (by simp [go_sem]), fun k _ hn => Below.heap_setCell _ _ _ _ hn⟩
theorem But.drewN {g : Nat} {a b : World} (h : But g a b) (n : Nat) : But g a (b.drewN n) := h
theorem But.cell {g : Nat} {w w' : World} (h : But g w w') {p : Addr} {v : Value} (hp : p.block ≠ g) (hc : w.cell? p = some v) : w'.cell? p = some v := by
  rw [World.cell?_of_block (w := w) (h.2.2.2.2 p.block (World.block_lt_of_cell? w _ hc) hp)]; exact hc
theorem But.below {g : Nat} {w0 w w' : World} (h : But g w w') (hb : Below w0.heap.size w0 w) (hg : w0.heap.size ≤ g) : Below w0.heap.size w0 w' :=
  ⟨h.1.trans hb.os, h.2.1.trans hb.tape, h.2.2.1.trans hb.output, Nat.le_trans hb.size h.2.2.2.1, fun k hk => (h.2.2.2.2 k (Nat.lt_of_lt_of_le hk hb.size) (by omega)).trans (hb.block k hk)⟩
/-- The marks: as many as an object's code may be long. -/
def MarksAt (w : World) (g : Nat) (m : Nat → Bool) : Prop := (∀ i, i < 16384 → w.cell? ⟨g, i, none⟩ = some (.bool (m i))) ∧ ∀ i, w.frozen? ⟨g, i, none⟩ = false
theorem MarksAt.keep {w w' : World} {g : Nat} {m : Nat → Bool} (h : MarksAt w g m) (hb : Below w.heap.size w w') : MarksAt w' g m :=
  ⟨fun i hi => lkeep hb (h.1 i hi), fun i => by
    have hl : g < w.heap.size := World.block_lt_of_cell? w _ (h.1 0 (by omega))
    rw [hb.frozen (p := ⟨g, i, none⟩) hl]; exact h.2 i⟩
theorem MarksAt.set {w : World} {g : Nat} {m : Nat → Bool} (h : MarksAt w g m) (i : Nat) : MarksAt (w.setCell ⟨g, i, none⟩ (.bool true)) g (fun j => j == i || m j) :=
  ⟨fun j hj => by
    by_cases hij : j = i
    · subst hij
      simp [go_sem, h.1 j hj]
    · have e : (j == i) = false := by simpa using hij
      simp only [e, Bool.false_or]
      rw [← h.1 j hj]
      simp [go_sem], fun j => by rw [← h.2 j]; simp [go_sem]⟩
theorem MarksAt.drewN {w : World} {g : Nat} {m : Nat → Bool} (h : MarksAt w g m) (n : Nat) : MarksAt (w.drewN n) g m := h
/-- Each place that is marked holds no target but 0. -/
def Safe (code : List Int) (m : Nat → Bool) : Prop := ∀ i, m i = true → tgV (nth code i) = 0
theorem Safe.set {code : List Int} {m : Nat → Bool} (h : Safe code m) (i : Nat) (e : tgV (nth code i) = 0) : Safe code (fun j => j == i || m j) := fun j hj => by
  simp at hj
  rcases hj with rfl | hj
  · exact e
  · exact h j hj
/-- The place ahead of which the next relocation may not lie. -/
def aheadV (zs : List Rel) (k : Nat) : Int := if k = 0 then -1 else rAt zs (k - 1)
theorem ahead_zero (zs : List Rel) : aheadV zs 0 = -1 := rfl
theorem ahead_succ (zs : List Rel) (k : Nat) : aheadV zs (k + 1) = rAt zs k := by unfold aheadV; rw [if_neg (by omega)]; rfl
theorem rel_past {zs : List Rel} {code : List Int} {ns k : Nat} (h : ∀ j, j < k → relE zs code ns j = 0) : -1 ≤ aheadV zs k := by
  unfold aheadV
  split
  · omega
  · next hk =>
    have := h (k - 1) (by omega)
    unfold relE at this
    split at this
    · omega
    · next h1 => omega
theorem rel_bad {zs : List Rel} {code : List Int} {ns k : Nat} (h : ∀ j, j < k → relE zs code ns j = 0) (e : rAt zs k ≤ aheadV zs k ∨ (code.length : Int) ≤ rAt zs k ∨ rSym zs k < 0 ∨ (ns : Int) ≤ rSym zs k) : relE zs code ns k = 24 := by
  have hp := rel_past h
  unfold aheadV at e hp
  unfold relE
  rw [if_pos]
  split at e
  · omega
  · rename_i hk; rw [if_neg hk] at hp; omega
theorem rel_fine {zs : List Rel} {code : List Int} {ns k : Nat} (h : ∀ j, j < k → relE zs code ns j = 0) (e : ¬ rAt zs k ≤ aheadV zs k) (e2 : ¬ (code.length : Int) ≤ rAt zs k) (e3 : ¬ rSym zs k < 0) (e4 : ¬ (ns : Int) ≤ rSym zs k) :
    0 ≤ rAt zs k ∧ (isT (nth code (rAt zs k).toNat) = false ∨ ¬ tgV (nth code (rAt zs k).toNat) = 0 → relE zs code ns k = 24) ∧ (¬ (isT (nth code (rAt zs k).toNat) = false ∨ ¬ tgV (nth code (rAt zs k).toNat) = 0) → relE zs code ns k = 0) := by
  have hp := rel_past h
  have h0 : 0 ≤ rAt zs k := by omega
  have hx : ¬ (rAt zs k < 0 ∨ (code.length : Int) ≤ rAt zs k ∨ (0 < k ∧ rAt zs k ≤ rAt zs (k - 1)) ∨ rSym zs k < 0 ∨ (ns : Int) ≤ rSym zs k) := by
    unfold aheadV at e
    split at e
    · omega
    · omega
  refine ⟨h0, fun hh => ?_, fun hh => ?_⟩
  · unfold relE; rw [if_neg hx, if_pos hh]
  · unfold relE; rw [if_neg hx, if_neg hh]


end Go.Proofs.YthfcimmfkibmjaaGreatDoor

namespace Go.Proofs.YthfcimmfkibmjaaGreatDoor
open Go.RowKit

theorem But.setAt {g : Nat} {a b : World} (h : But g a b) (i : Nat) (v : Value) : But g a (b.setCell ⟨g, i, none⟩ v) := h.set i v
/-- A taker: its bytes, where it stands, what is wrong. -/
def TkAt (w : World) (g : Nat) (A : Option Addr) (n c : Nat) (t : Tk) : Prop :=
  (w.cell? ⟨g, 0, none⟩ = some (.slice A n c) ∧ w.cell? ⟨g, 1, none⟩ = some (.int .i64 t.pos) ∧ w.cell? ⟨g, 2, none⟩ = some (.int .i64 t.bad) ∧ w.cell? ⟨g, 3, none⟩ = some (.int .i64 t.place)) ∧ ∀ i, w.frozen? ⟨g, i, none⟩ = false
theorem TkAt.keep {w w' : World} {g : Nat} {A : Option Addr} {n c : Nat} {t : Tk} (h : TkAt w g A n c t) (hb : Below w.heap.size w w') : TkAt w' g A n c t :=
  ⟨⟨lkeep hb h.1.1, lkeep hb h.1.2.1, lkeep hb h.1.2.2.1, lkeep hb h.1.2.2.2⟩, fun i => by
    have hl : g < w.heap.size := World.block_lt_of_cell? w ⟨g, 0, none⟩ h.1.1
    rw [hb.frozen (p := ⟨g, i, none⟩) hl]; exact h.2 i⟩
theorem TkAt.drewN {w : World} {g : Nat} {A : Option Addr} {n c : Nat} {t : Tk} (h : TkAt w g A n c t) (k : Nat) : TkAt (w.drewN k) g A n c t := h
theorem TkAt.posTo {w : World} {g : Nat} {A : Option Addr} {n c : Nat} {t : Tk} (h : TkAt w g A n c t) (p : Nat) : TkAt (w.setCell ⟨g, 1, none⟩ (.int .i64 p)) g A n c ⟨p, t.bad, t.place⟩ := by
  refine ⟨⟨?_, ?_, ?_, ?_⟩, fun i => ?_⟩
  · rw [← h.1.1]; simp [go_sem]
  · simp [go_sem, h.1.2.1]
  · rw [← h.1.2.2.1]; simp [go_sem]
  · rw [← h.1.2.2.2]; simp [go_sem]
  · rw [← h.2 i]; simp [go_sem]
theorem TkAt.wrongTo {w : World} {g : Nat} {A : Option Addr} {n c : Nat} {t : Tk} (h : TkAt w g A n c t) (e p : Int) : TkAt ((w.setCell ⟨g, 2, none⟩ (.int .i64 e)).setCell ⟨g, 3, none⟩ (.int .i64 p)) g A n c ⟨t.pos, e, p⟩ := by
  refine ⟨⟨?_, ?_, ?_, ?_⟩, fun i => ?_⟩
  · rw [← h.1.1]; simp [go_sem]
  · rw [← h.1.2.1]; simp [go_sem]
  · simp [go_sem, h.1.2.2.1]
  · simp [go_sem, h.1.2.2.2]
  · rw [← h.2 i]; simp [go_sem]

end Go.Proofs.YthfcimmfkibmjaaGreatDoor
