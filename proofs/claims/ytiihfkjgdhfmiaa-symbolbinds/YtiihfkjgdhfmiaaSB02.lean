/-
  Instructions and their words, as plain functions of numbers; no Go in sight. Instructions and their words, there and back, as plain functions of numbers; no Go in sight. Where an instruction goes, as plain functions of numbers; no Go in sight. What is wrong with an object first, as plain mathematics; no Go in sight. A list of objects in memory.
-/
import Derived.RowKit
import Derived.Test.YtiihfkjgdhfmiaaSB01
import Derived.Test.YtiihfkjgdhfmiaaProg
import Derived.WalkKit
import Derived.WalkSpells
import Derived.WalkLawsBesides
import Derived.RowKit3
import Derived.Below
import Derived.Deep.QuietTactic
import Derived.BigQuiet
import Derived.WalkSmall
import Derived.Laws.Rows
namespace Go.Proofs.Ytiihfkjgdhfmiaa
open Go.RowKit

/-- Which fields an op has: D, A, B, N; whether its N is a place. -/
def hD (op : Int) : Bool := decide (op = 1 ∨ op = 2 ∨ (3 ≤ op ∧ op ≤ 11) ∨ op = 13 ∨ op = 20)
def hA (op : Int) : Bool := decide ((2 ≤ op ∧ op ≤ 12) ∨ op = 14 ∨ op = 16 ∨ op = 18 ∨ op = 19)
def hB (op : Int) : Bool := decide ((3 ≤ op ∧ op ≤ 10) ∨ op = 12)
def hN (op : Int) : Bool := decide (op = 1 ∨ op = 11 ∨ op = 12 ∨ (14 ≤ op ∧ op ≤ 17) ∨ op = 20)
def hP (op : Int) : Bool := decide ((15 ≤ op ∧ op ≤ 17) ∨ op = 20)
/-- May a register's field be r? -/
def regOK (h : Bool) (r : Int) : Bool := if h then decide (0 ≤ r ∧ r < 16) else decide (r = 0)
/-- May N be x? -/
def numOK (n p : Bool) (x : Int) : Bool := if n then (if p then decide (0 ≤ x ∧ x < 16384) else decide (-16384 ≤ x ∧ x ≤ 16383)) else decide (x = 0)
def insOK (op d a b n : Int) : Bool := regOK (hD op) d && regOK (hA op) a && regOK (hB op) b && numOK (hN op) (hP op) n
/-- The word. -/
def encW (op d a b n : Int) : Int := op * 134217728 + d * 8388608 + a * 524288 + b * 32768 + n % 32768
/-- Encode's word and error. -/
def encV (op d a b n : Int) : Int := if op < 0 ∨ 21 < op then 0 else if insOK op d a b n then encW op d a b n else 0
def encE (op d a b n : Int) : Int := if op < 0 ∨ 21 < op then 10 else if insOK op d a b n then 0 else 11
/-- The fields of a word. -/
def wOp (w : Int) : Int := w / 134217728
def wD (w : Int) : Int := w / 8388608 % 16
def wA (w : Int) : Int := w / 524288 % 16
def wB (w : Int) : Int := w / 32768 % 16
def wN (w : Int) : Int := if hN (wOp w) && !hP (wOp w) && decide (16384 ≤ w % 32768) then w % 32768 - 32768 else w % 32768
/-- Is a word an instruction? -/
def isIns (w : Int) : Bool := decide (wOp w ≤ 21) && insOK (wOp w) (wD w) (wA w) (wB w) (wN w)
/-- What Decode tells. -/
def dOp (w : Int) : Int := if isIns w then wOp w else -1
def dD (w : Int) : Int := if isIns w then wD w else 0
def dA (w : Int) : Int := if isIns w then wA w else 0
def dB (w : Int) : Int := if isIns w then wB w else 0
def dN (w : Int) : Int := if isIns w then wN w else w
/-- Is N's number below nought? -/
def nNeg (w : Int) : Bool := hN (w / 134217728) && !hP (w / 134217728) && decide (16384 ≤ w % 32768)

theorem wN_neg {w : Int} (h : nNeg w = true) : wN w = w % 32768 - 32768 := by
  unfold nNeg at h; unfold wN wOp; rw [h]; rfl
theorem wN_pos {w : Int} (h : nNeg w = false) : wN w = w % 32768 := by
  unfold nNeg at h; unfold wN wOp; rw [h]; rfl
theorem encW_fields (w : Int) : encW (wOp w) (wD w) (wA w) (wB w) (wN w) = w := by
  unfold encW
  have e : wN w % 32768 = w % 32768 := by
    cases h : nNeg w
    · rw [wN_pos h]; omega
    · rw [wN_neg h]; omega
  rw [e]
  unfold wOp wD wA wB
  omega
theorem enc_yes {w : Int} (h0 : 0 ≤ w) (h1 : w < 4294967296) (h : isIns w = true) : encV (wOp w) (wD w) (wA w) (wB w) (wN w) = w ∧ encE (wOp w) (wD w) (wA w) (wB w) (wN w) = 0 := by
  have hw := encW_fields w
  unfold isIns at h
  rw [Bool.and_eq_true, decide_eq_true_eq] at h
  have hop : 0 ≤ wOp w := by unfold wOp; omega
  have hneg : ¬ (wOp w < 0 ∨ 21 < wOp w) := by omega
  unfold encV encE
  rw [if_neg hneg, if_neg hneg, if_pos h.2, if_pos h.2, hw]
  exact ⟨rfl, rfl⟩
theorem enc_no {w : Int} (h0 : 0 ≤ w) (h : isIns w = false) : encV (wOp w) (wD w) (wA w) (wB w) (wN w) = 0 ∧ (encE (wOp w) (wD w) (wA w) (wB w) (wN w) = 10 ∨ encE (wOp w) (wD w) (wA w) (wB w) (wN w) = 11) := by
  unfold isIns at h
  have hop : 0 ≤ wOp w := by unfold wOp; omega
  unfold encV encE
  by_cases hb : wOp w < 0 ∨ 21 < wOp w
  · rw [if_pos hb, if_pos hb]; exact ⟨rfl, Or.inl rfl⟩
  · rw [if_neg hb, if_neg hb]
    have hle : wOp w ≤ 21 := by omega
    rw [decide_eq_true hle, Bool.true_and] at h
    rw [h]; exact ⟨rfl, Or.inr rfl⟩
/-- Does an op end a block? -/
def endsB (op : Int) : Bool := decide (op = -1 ∨ op = 0 ∨ op = 15 ∨ op = 16 ∨ op = 17 ∨ op = 18 ∨ op = 19 ∨ op = 21)
/-- Is a word one with a place? -/
def isT (w : Int) : Bool := decide (0 ≤ dOp w) && hP (dOp w)
def tgV (w : Int) : Int := if isT w then dN w else 0
/-- Aim's word and error. -/
def aimV (w p : Int) : Int := if isT w && decide (0 ≤ p ∧ p < 16384) then encV (dOp w) (dD w) (dA w) (dB w) p else 0
def aimE (w p : Int) : Int := if isT w then (if decide (0 ≤ p ∧ p < 16384) then encE (dOp w) (dD w) (dA w) (dB w) p else 11) else 10





end Go.Proofs.Ytiihfkjgdhfmiaa

namespace Go.Proofs.Ytiihfkjgdhfmiaa
open Go.RowKit

/-- What is wrong with a relocation: where it is; what stands there. -/
def relE (zs : List Rel) (code : List Int) (ns : Nat) (k : Nat) : Int := if rAt zs k < 0 ∨ (code.length : Int) ≤ rAt zs k ∨ (0 < k ∧ rAt zs k ≤ rAt zs (k - 1)) ∨ rSym zs k < 0 ∨ (ns : Int) ≤ rSym zs k then 24 else if isT (nth code (rAt zs k).toNat) = false ∨ ¬ tgV (nth code (rAt zs k).toNat) = 0 then 24 else 0
def relC (zs : List Rel) (code : List Int) (ns : Nat) : Int × Int := firstOf zs.length (relE zs code ns)
/-- A target that lies outside. -/
def relBad (zs : List Rel) (nc ns : Nat) (k : Nat) : Bool := decide (rAt zs k < 0 ∨ (nc : Int) ≤ rAt zs k ∨ (0 < k ∧ rAt zs k ≤ rAt zs (k - 1)) ∨ rSym zs k < 0 ∨ (ns : Int) ≤ rSym zs k)
def codE (code : List Int) (k : Nat) : Int := if isT (nth code k) = true ∧ (code.length : Int) < tgV (nth code k) then 22 else 0
def codC (code : List Int) : Int × Int := if (firstOf code.length (codE code)).1 = 0 then (0, 0) else (22, -1 - (firstOf code.length (codE code)).2)
def checkC (nm : ByteArray) (code : List Int) (dA : Int) (nd : Nat) (ss : List Sym) (rs : List Rel) : Int × Int :=
  if ¬ (sizeC (nameOK nm) code.length ss.length rs.length nd dA).1 = 0 then sizeC (nameOK nm) code.length ss.length rs.length nd dA
  else if ¬ (symC ss code.length).1 = 0 then symC ss code.length
  else if ¬ (relC rs code ss.length).1 = 0 then relC rs code ss.length
  else codC code






end Go.Proofs.Ytiihfkjgdhfmiaa

namespace Go.Proofs.Ytiihfkjgdhfmiaa
open Go.RowKit

/-- A number of 64 bits. -/
def In64 (n : Int) : Prop := -9223372036854775808 ≤ n ∧ n ≤ 9223372036854775807
/-- An object in memory. -/
structure ObjIn (w : World) (A1 A2 A3 A4 : Option Addr) (c4 : Nat) (nm : ByteArray) (code : List Int) (dA : Int) (data : List Int) (ss : List Sym) (rs : List Rel) : Prop where
  cd : IntsAt w A1 .u32 code
  dt : IntsAt w A2 .i64 data
  sy : SymsAt w A3 ss
  rl : RelsAt w A4 rs
  cr : ∀ i, i < code.length → 0 ≤ nth code i ∧ nth code i < 4294967296
  dr : ∀ i, i < data.length → In64 (nth data i)
  da : In64 dA
  hc : code.length ≤ 1048576
  hd : data.length ≤ 1048576
  hs : ss.length ≤ 1048576
  hl : rs.length ≤ 1048576
  hN : ∀ i, (sName ss i).size ≤ 140737488355328
  r4 : rs.length ≤ c4
theorem ObjIn.keep {w w1 : World} {A1 A2 A3 A4 : Option Addr} {c4 : Nat} {nm : ByteArray} {code : List Int} {dA : Int} {data : List Int} {ss : List Sym} {rs : List Rel} (h : ObjIn w A1 A2 A3 A4 c4 nm code dA data ss rs) (hb : Below w.heap.size w w1) : ObjIn w1 A1 A2 A3 A4 c4 nm code dA data ss rs :=
  ⟨h.cd.keep hb, h.dt.keep hb, h.sy.keep hb, h.rl.keep hb, h.cr, h.dr, h.da, h.hc, h.hd, h.hs, h.hl, h.hN, h.r4⟩
/-- An object. -/
structure Ob where
  nm : ByteArray
  code : List Int
  dA : Int
  data : List Int
  ss : List Sym
  rs : List Rel
/-- Where its lists lie. -/
structure Pl where
  A1 : Option Addr
  A2 : Option Addr
  A3 : Option Addr
  A4 : Option Addr
  c1 : Nat
  c2 : Nat
  c3 : Nat
  c4 : Nat
def obD : Ob := ⟨⟨#[]⟩, [], 0, [], [], []⟩
def plD : Pl := ⟨none, none, none, none, 0, 0, 0, 0⟩
def ob (l : List Ob) (i : Nat) : Ob := l.getD i obD
/-- An object's cells. -/
def obCells (o : Ob) (p : Pl) : Array Value := #[.string o.nm, .slice p.A1 o.code.length p.c1, .int .i64 o.dA, .slice p.A2 o.data.length p.c2, .slice p.A3 o.ss.length p.c3, .slice p.A4 o.rs.length p.c4]
/-- A list of objects in memory: each cell of each. -/
def ObsAt (w : World) (A : Option Addr) (q : Nat → Pl) (l : List Ob) : Prop := ∀ i, i < l.length → ∃ a : Addr, A = some a ∧ w.cell? (a.add (i * 6)) = some (.string (ob l i).nm) ∧ w.cell? ((a.add (i * 6)).add 1) = some (.slice (q i).A1 (ob l i).code.length (q i).c1) ∧ w.cell? ((a.add (i * 6)).add 2) = some (.int .i64 (ob l i).dA) ∧ w.cell? ((a.add (i * 6)).add 3) = some (.slice (q i).A2 (ob l i).data.length (q i).c2) ∧ w.cell? ((a.add (i * 6)).add 4) = some (.slice (q i).A3 (ob l i).ss.length (q i).c3) ∧ w.cell? ((a.add (i * 6)).add 5) = some (.slice (q i).A4 (ob l i).rs.length (q i).c4)
/-- An object's own lists in memory. -/
def ObIn (w : World) (p : Pl) (o : Ob) : Prop := ObjIn w p.A1 p.A2 p.A3 p.A4 p.c4 o.nm o.code o.dA o.data o.ss o.rs
/-- Both. -/
structure ObsIn (w : World) (A : Option Addr) (q : Nat → Pl) (l : List Ob) : Prop where
  cells : ObsAt w A q l
  each : ∀ i, i < l.length → ObIn w (q i) (ob l i)
  few : l.length ≤ 64
theorem ObsAt.keep {w w1 : World} {A : Option Addr} {q : Nat → Pl} {l : List Ob} (h : ObsAt w A q l) (hb : Below w.heap.size w w1) : ObsAt w1 A q l := fun i hi => by
  obtain ⟨a, e, x0, x1, x2, x3, x4, x5⟩ := h i hi
  exact ⟨a, e, lkeep hb x0, lkeep hb x1, lkeep hb x2, lkeep hb x3, lkeep hb x4, lkeep hb x5⟩
theorem ObsAt.six {w w1 : World} {A : Option Addr} {q : Nat → Pl} {l : List Ob} (h : ObsAt w A q l) (hb : Below w.heap.size w w1) (i : Nat) (hi : i < l.length) : ∃ a : Addr, A = some a ∧ w1.cell? (a.add (i * 6)) = some (.string (ob l i).nm) ∧ w1.cell? ⟨(a.add (i * 6)).block, (a.add (i * 6)).off + 1, none⟩ = some (.slice (q i).A1 (ob l i).code.length (q i).c1) ∧ w1.cell? ⟨(a.add (i * 6)).block, (a.add (i * 6)).off + 2, none⟩ = some (.int .i64 (ob l i).dA) ∧ w1.cell? ⟨(a.add (i * 6)).block, (a.add (i * 6)).off + 3, none⟩ = some (.slice (q i).A2 (ob l i).data.length (q i).c2) ∧ w1.cell? ⟨(a.add (i * 6)).block, (a.add (i * 6)).off + 4, none⟩ = some (.slice (q i).A3 (ob l i).ss.length (q i).c3) ∧ w1.cell? ⟨(a.add (i * 6)).block, (a.add (i * 6)).off + 5, none⟩ = some (.slice (q i).A4 (ob l i).rs.length (q i).c4) := by
  obtain ⟨a, e, x0, x1, x2, x3, x4, x5⟩ := h i hi
  exact ⟨a, e, lkeep hb x0, lkeep hb x1, lkeep hb x2, lkeep hb x3, lkeep hb x4, lkeep hb x5⟩
theorem ObIn.keep {w w1 : World} {p : Pl} {o : Ob} (h : ObIn w p o) (hb : Below w.heap.size w w1) : ObIn w1 p o := ObjIn.keep h hb
theorem ObsIn.keep {w w1 : World} {A : Option Addr} {q : Nat → Pl} {l : List Ob} (h : ObsIn w A q l) (hb : Below w.heap.size w w1) : ObsIn w1 A q l := ⟨h.cells.keep hb, fun i hi => (h.each i hi).keep hb, h.few⟩
theorem drop_ob (l : List Ob) (k : Nat) (h : k < l.length) : l.drop k = ob l k :: l.drop (k + 1) := drop_at l obD k h
theorem take_ob (l : List Ob) (k : Nat) (h : k < l.length) : l.take (k + 1) = l.take k ++ [ob l k] := by
  rw [List.take_succ_eq_append_getElem h]
  simp [ob, h]


end Go.Proofs.Ytiihfkjgdhfmiaa
