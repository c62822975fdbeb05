/-
  What is found in an object, and which texts are names, as plain mathematics; no Go in sight. What is wrong with an object first, as plain mathematics; no Go in sight.
-/
import Derived.Test.YtbckolkgncajfaaGreatDoorLo01
import Derived.Test.YtbckolkgncajfaaGreatDoorLo03
namespace Go.Proofs.YtbckolkgncajfaaGreatDoor
open Go.RowKit

/-- The first symbol of that name: its number. -/
def ofFrom : List Sym → ByteArray → Nat → Int
  | [], _, _ => -1
  | x :: t, s, k => if (x.1.toList == s.toList) = true then (k : Int) else ofFrom t s (k + 1)
def ofS (l : List Sym) (s : ByteArray) : Int := ofFrom l s 0
/-- The first relocation with that At: its number. -/
def atFrom : List Rel → Int → Nat → Int
  | [], _, _ => -1
  | x :: t, p, k => if (x.1 == p) = true then (k : Int) else atFrom t p (k + 1)
def atR (l : List Rel) (p : Int) : Int := atFrom l p 0
theorem drop_at {α : Type} (l : List α) (z : α) (k : Nat) (h : k < l.length) : l.drop k = l.getD k z :: l.drop (k + 1) := by
  rw [List.drop_eq_getElem_cons h]; simp [List.getD, h]
theorem of_hit {l : List Sym} {s : ByteArray} {k : Nat} (h : k < l.length) (e : ((sName l k).toList == s.toList) = true) : ofFrom (l.drop k) s k = k := by
  rw [drop_at l symD k h, ofFrom]; exact if_pos e
theorem of_miss {l : List Sym} {s : ByteArray} {k : Nat} (h : k < l.length) (e : ((sName l k).toList == s.toList) = false) : ofFrom (l.drop k) s k = ofFrom (l.drop (k + 1)) s (k + 1) := by
  rw [drop_at l symD k h, ofFrom]; exact if_neg (by rw [show ((l.getD k symD).1.toList == s.toList) = false from e]; simp)
theorem at_hit {l : List Rel} {p : Int} {k : Nat} (h : k < l.length) (e : (rAt l k == p) = true) : atFrom (l.drop k) p k = k := by
  rw [drop_at l (0, 0) k h, atFrom]; exact if_pos e
theorem at_miss {l : List Rel} {p : Int} {k : Nat} (h : k < l.length) (e : (rAt l k == p) = false) : atFrom (l.drop k) p k = atFrom (l.drop (k + 1)) p (k + 1) := by
  rw [drop_at l (0, 0) k h, atFrom]; exact if_neg (by rw [show ((l.getD k (0, 0)).1 == p) = false from e]; simp)
theorem of_end {l : List Sym} {s : ByteArray} {k : Nat} (h : l.length ≤ k) : ofFrom (l.drop k) s k = -1 := by
  rw [List.drop_eq_nil_of_le h, ofFrom]
theorem at_end {l : List Rel} {p : Int} {k : Nat} (h : l.length ≤ k) : atFrom (l.drop k) p k = -1 := by
  rw [List.drop_eq_nil_of_le h, atFrom]
theorem retI {k : IntKind} {a b : Int} (h : a = b) : Ending.returned (.int k a) = .returned (.int k b) := by rw [h]
/-- Letters, and what else a name may hold. -/
def ltrI (b : Int) : Bool := decide (97 ≤ b ∧ b ≤ 122 ∨ 65 ≤ b ∧ b ≤ 90 ∨ b = 95)
def dgtI (b : Int) : Bool := decide (48 ≤ b ∧ b ≤ 57)
def goodI (b : Int) : Bool := ltrI b || dgtI b || b == 46
def goodL : List UInt8 → Bool
  | [] => true
  | c :: l => goodI c.toNat && goodL l
def nameOK (s : ByteArray) : Bool := match s.data.toList with
  | [] => false
  | c :: l => decide (l.length < 24) && ltrI c.toNat && goodL l
theorem sdrop (s : ByteArray) (k : Nat) (h : k < s.size) : s.data.toList.drop k = s[k] :: s.data.toList.drop (k + 1) := by
  have h' : k < s.data.toList.length := by simpa using h
  rw [List.drop_eq_getElem_cons h']; rfl
theorem name_cons (s : ByteArray) (h : 0 < s.size) : nameOK s = (decide (s.size ≤ 24) && ltrI s[0].toNat && goodL (s.data.toList.drop 1)) := by
  have e := sdrop s 0 h
  rw [List.drop_zero] at e
  have hl : s.size = (s.data.toList.drop 1).length + 1 := by
    have := congrArg List.length e
    simp at this ⊢; omega
  unfold nameOK
  rw [e]
  simp only []
  congr 2
  rw [decide_eq_decide, hl]
  show (List.drop 1 s.data.toList).length < 24 ↔ _
  omega
/-- The first place of a row at which something is. -/
def firstOf (n : Nat) (f : Nat → Int) : Int × Int := match (List.range n).find? (fun k => f k != 0) with
  | some k => (f k, k)
  | none => (0, 0)
theorem first_hit {n k : Nat} {f : Nat → Int} (hk : k < n) (h : ∀ j, j < k → f j = 0) (e : ¬ f k = 0) : firstOf n f = (f k, (k : Int)) := by
  unfold firstOf
  have : (List.range n).find? (fun k => f k != 0) = some k := by
    rw [List.find?_range_eq_some]
    exact ⟨by simpa using e, by simpa using hk, fun j hj => by simp [h j hj]⟩
  rw [this]
theorem first_none {n : Nat} {f : Nat → Int} (h : ∀ j, j < n → f j = 0) : firstOf n f = (0, 0) := by
  unfold firstOf
  have : (List.range n).find? (fun k => f k != 0) = none := by
    rw [List.find?_eq_none]
    intro j hj
    simp [h j (by simpa using hj)]
  rw [this]
/-- What is wrong with an object, 1 to 3 of the chapter. -/
def sizeC (ok : Bool) (nc ns nr nd : Nat) (dA : Int) : Int × Int := if ok = false then (20, -1) else if 16384 < nc then (21, -1) else if 256 < ns then (21, -2) else if nc < nr then (21, -3) else if dA < 0 ∨ 4096 < dA ∨ 4096 - dA < (nd : Int) then (25, -1) else (0, 0)
/-- What is wrong with a symbol. -/
def symE (zs : List Sym) (nc : Nat) (k : Nat) : Int := if nameOK (sName zs k) = false then 20 else if ¬ ofS zs (sName zs k) = k then 26 else if sKind zs k < 0 ∨ 3 < sKind zs k then 23 else if sAt zs k < 0 ∨ (nc : Int) < sAt zs k ∨ (sKind zs k = 3 ∧ ¬ sAt zs k = 0) then 22 else 0
def symC (zs : List Sym) (nc : Nat) : Int × Int := firstOf zs.length (symE zs nc)
theorem ret2I {a b c d : Int} (h : (a, b) = (c, d)) : Ending.returned (.tuple #[.int .i64 a, .int .i64 b]) = .returned (.tuple #[.int .i64 c, .int .i64 d]) := by
  cases h; rfl
theorem ofS_range (zs : List Sym) (s : ByteArray) : -1 ≤ ofS zs s ∧ ofS zs s ≤ zs.length := by
  have h : ∀ (l : List Sym) (k : Nat), -1 ≤ ofFrom l s k ∧ ofFrom l s k ≤ (l.length : Int) + k := by
    intro l
    induction l with
    | nil => intro k; simp only [ofFrom, List.length_nil]; omega
    | cons x t ih =>
      intro k
      rw [ofFrom]
      have := ih (k + 1)
      split
      · simp; omega
      · simp at this ⊢; omega
  have := h zs 0
  simpa [ofS] using this
theorem name_nil (s : ByteArray) (h : s.size = 0) : nameOK s = false := by
  have : s.data.toList = [] := by
    apply List.eq_nil_of_length_eq_zero; simpa using h
  unfold nameOK; rw [this]
theorem good_no {s : ByteArray} {k : Nat} (h : k < s.size) (e : goodI s[k].toNat = false) : goodL (s.data.toList.drop k) = false := by
  rw [sdrop s k h, goodL, e]; rfl
theorem good_on {s : ByteArray} {k : Nat} (h : k < s.size) (e : goodI s[k].toNat = true) : goodL (s.data.toList.drop k) = goodL (s.data.toList.drop (k + 1)) := by
  rw [sdrop s k h, goodL, e]; rfl
theorem good_end {s : ByteArray} {k : Nat} (h : s.size ≤ k) : goodL (s.data.toList.drop k) = true := by
  rw [List.drop_eq_nil_of_le (by simpa using h), goodL]




end Go.Proofs.YtbckolkgncajfaaGreatDoor

namespace Go.Proofs.YtbckolkgncajfaaGreatDoor
open Go.RowKit

/-- What is wrong with a relocation: where it is; what stands there. -/
def relE (zs : List Rel) (code : List Int) (ns : Nat) (k : Nat) : Int := if rAt zs k < 0 ∨ (code.length : Int) ≤ rAt zs k ∨ (0 < k ∧ rAt zs k ≤ rAt zs (k - 1)) ∨ rSym zs k < 0 ∨ (ns : Int) ≤ rSym zs k then 24 else if isT (nth code (rAt zs k).toNat) = false ∨ ¬ tgV (nth code (rAt zs k).toNat) = 0 then 24 else 0
def relC (zs : List Rel) (code : List Int) (ns : Nat) : Int × Int := firstOf zs.length (relE zs code ns)
/-- A target that lies outside. -/
def relBad (zs : List Rel) (nc ns : Nat) (k : Nat) : Bool := decide (rAt zs k < 0 ∨ (nc : Int) ≤ rAt zs k ∨ (0 < k ∧ rAt zs k ≤ rAt zs (k - 1)) ∨ rSym zs k < 0 ∨ (ns : Int) ≤ rSym zs k)
def codE (code : List Int) (k : Nat) : Int := if isT (nth code k) = true ∧ (code.length : Int) < tgV (nth code k) then 22 else 0
def codC (code : List Int) : Int × Int := if (firstOf code.length (codE code)).1 = 0 then (0, 0) else (22, -1 - (firstOf code.length (codE code)).2)
def checkC (nm : ByteArray) (code : List Int) (dA : Int) (nd : Nat) (ss : List Sym) (rs : List Rel) : Int × Int :=
  if ¬ (sizeC (nameOK nm) code.length ss.length rs.length nd dA).1 = 0 then sizeC (nameOK nm) code.length ss.length rs.length nd dA
  else if ¬ (symC ss code.length).1 = 0 then symC ss code.length
  else if ¬ (relC rs code ss.length).1 = 0 then relC rs code ss.length
  else codC code




end Go.Proofs.YtbckolkgncajfaaGreatDoor
