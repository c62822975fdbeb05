/-
  The names of the ops, as plain functions; no Go in sight.
-/
import Derived.RowKit
namespace Go.Proofs.YtfdkefnfebnmgaaDoor
open Go.RowKit

/-- The names, a blank behind each. -/
def nmB : ByteArray := ⟨#[116, 114, 97, 112, 32, 115, 101, 116, 32, 109, 111, 118, 101, 32, 97, 100, 100, 32, 115, 117, 98, 32, 109, 117, 108, 32, 97, 110, 100, 32, 111, 114, 32, 120, 111, 114, 32, 108, 101, 115, 115, 32, 115, 97, 109, 101, 32, 108, 111, 97, 100, 32, 115, 116, 111, 114, 101, 32, 105, 110, 32, 111, 117, 116, 32, 106, 117, 109, 112, 32, 122, 101, 114, 111, 32, 99, 97, 108, 108, 32, 99, 97, 108, 108, 115, 32, 103, 111, 32, 112, 108, 97, 99, 101, 32, 104, 97, 108, 116, 32]⟩
def nmL : List UInt8 := nmB.data.toList
/-- From where to where the op's name stands. -/
def scan : List UInt8 → Nat → Nat → Nat → Int → Option (Nat × Nat)
  | [], _, _, _, _ => none
  | c :: l, i, a, k, op => if c.toNat = 32 then (if (k : Int) = op then some (a, i) else scan l (i + 1) (i + 1) (k + 1) op) else scan l (i + 1) a k op
/-- An op's name. -/
def nameB (op : Int) : ByteArray := if op < 0 ∨ 21 < op then ⟨#[]⟩ else match scan nmL 0 0 0 op with
  | some p => nmB.extract p.1 p.2
  | none => ⟨#[]⟩
/-- The op of a name, of those on a list. -/
def ofAux : List Int → List UInt8 → Option Int
  | [], _ => none
  | k :: ks, l => if (nameB k).data.toList = l then some k else ofAux ks l
def ops : List Int := [0, 1, 2, 3, 4, 5, 6, 7, 8, 9, 10, 11, 12, 13, 14, 15, 16, 17, 18, 19, 20, 21]
def ofF (l : List UInt8) : Option Int := ofAux ops l

theorem nmB_size : nmB.size = 100 := by decide +kernel
theorem nm_drop (c : Nat) (h : c < nmB.size) : nmL.drop c = nmB[c] :: nmL.drop (c + 1) := by
  have h' : c < nmB.data.toList.length := by simpa using h
  unfold nmL
  rw [List.drop_eq_getElem_cons h']; rfl
theorem scan_ne {c a k : Nat} {op : Int} (h : c < nmB.size) (hb : ((nmB[c].toNat : Int) != 32) = true) : scan (nmL.drop c) c a k op = scan (nmL.drop (c + 1)) (c + 1) a k op := by
  rw [nm_drop c h, scan, if_neg]
  intro hc; rw [hc] at hb; simp at hb
theorem scan_at {c a k : Nat} {op : Int} (h : c < nmB.size) (hb : ((nmB[c].toNat : Int) != 32) = false) (hk : ((k : Int) == op) = true) : scan (nmL.drop c) c a k op = some (a, c) := by
  have hc : nmB[c].toNat = 32 := by simp at hb; omega
  rw [nm_drop c h, scan, if_pos hc, if_pos (by simpa using hk)]
theorem scan_on {c a k : Nat} {op : Int} (h : c < nmB.size) (hb : ((nmB[c].toNat : Int) != 32) = false) (hk : ((k : Int) == op) = false) : scan (nmL.drop c) c a k op = scan (nmL.drop (c + 1)) (c + 1) (c + 1) (k + 1) op := by
  have hc : nmB[c].toNat = 32 := by simp at hb; omega
  rw [nm_drop c h, scan, if_pos hc, if_neg (by simpa using hk)]
theorem name_some {op : Int} {a c : Nat} (h : ¬ (op < 0 ∨ 21 < op)) (hs : scan nmL 0 0 0 op = some (a, c)) : nameB op = nmB.extract a c := by
  unfold nameB; rw [if_neg h, hs]
theorem name_none {op : Int} (hs : scan nmL 0 0 0 op = none) : nameB op = ⟨#[]⟩ := by
  unfold nameB; split
  · rfl
  · rw [hs]
theorem name_out {op : Int} (h : op < 0 ∨ 21 < op) : nameB op = ⟨#[]⟩ := by
  unfold nameB; rw [if_pos h]
theorem ops_drop (j : Nat) (h : j < 22) : ops.drop j = (j : Int) :: ops.drop (j + 1) := by
  have : ∀ i : Fin 22, ops.drop i.val = (i.val : Int) :: ops.drop (i.val + 1) := by decide
  exact this ⟨j, h⟩
theorem of_yes {j : Nat} {l : List UInt8} (h : j < 22) (hn : (nameB j).data.toList = l) : ofAux (ops.drop j) l = some (j : Int) := by
  rw [ops_drop j h, ofAux, if_pos hn]
theorem of_no {j : Nat} {l : List UInt8} (h : j < 22) (hn : ¬ (nameB j).data.toList = l) : ofAux (ops.drop j) l = ofAux (ops.drop (j + 1)) l := by
  rw [ops_drop j h, ofAux, if_neg hn]

end Go.Proofs.YtfdkefnfebnmgaaDoor
