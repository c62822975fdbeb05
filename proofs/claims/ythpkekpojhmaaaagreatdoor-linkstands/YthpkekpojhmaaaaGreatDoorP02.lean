/-
  What is found in an object, and which texts are names, as plain mathematics; no Go in sight. What is wrong with an object first, as plain mathematics; no Go in sight. Worlds that part in one block alone, and the marks that lie in it; no Go in sight. errors.As at an error that is a refusal: what it answers.
-/
import Derived.Test.YthpkekpojhmaaaaGreatDoorProg
import Derived.Test.YthpkekpojhmaaaaGreatDoorP01
import Derived.WalkKit
import Derived.WalkSpells
import Derived.WalkLawsBesides
import Derived.RowKit3
import Derived.Below
import Derived.Deep.QuietTactic
import Derived.BigQuiet
import Derived.WalkSmall
import Derived.Laws.Rows
namespace Go.Proofs.YthpkekpojhmaaaaGreatDoor
open Go.RowKit

/-- The first symbol of that name: its number. -/
def ofFrom : List Sym → ByteArray → Nat → Int
  | [], _, _ => -1
  | x :: t, s, k => if (x.1.toList == s.toList) = true then (k : Int) else ofFrom t s (k + 1)
def ofS (l : List Sym) (s : ByteArray) : Int := ofFrom l s 0
/-- The first relocation with that At: its number. -/
def atFrom : List Rel → Int → Nat → Int
  | [], _, _ => -1
  | x :: t, p, k => if (x.1 == p) = true then (k : Int) else atFrom t p (k + 1)
def atR (l : List Rel) (p : Int) : Int := atFrom l p 0
theorem drop_at {α : Type} (l : List α) (z : α) (k : Nat) (h : k < l.length) : l.drop k = l.getD k z :: l.drop (k + 1) := by
  rw [List.drop_eq_getElem_cons h]; simp [List.getD, h]
theorem of_hit {l : List Sym} {s : ByteArray} {k : Nat} (h : k < l.length) (e : ((sName l k).toList == s.toList) = true) : ofFrom (l.drop k) s k = k := by
  rw [drop_at l symD k h, ofFrom]; exact if_pos e
theorem of_miss {l : List Sym} {s : ByteArray} {k : Nat} (h : k < l.length) (e : ((sName l k).toList == s.toList) = false) : ofFrom (l.drop k) s k = ofFrom (l.drop (k + 1)) s (k + 1) := by
  rw [drop_at l symD k h, ofFrom]; exact if_neg (by rw [show ((l.getD k symD).1.toList == s.toList) = false from e]; simp)
theorem at_hit {l : List Rel} {p : Int} {k : Nat} (h : k < l.length) (e : (rAt l k == p) = true) : atFrom (l.drop k) p k = k := by
  rw [drop_at l (0, 0) k h, atFrom]; exact if_pos e
theorem at_miss {l : List Rel} {p : Int} {k : Nat} (h : k < l.length) (e : (rAt l k == p) = false) : atFrom (l.drop k) p k = atFrom (l.drop (k + 1)) p (k + 1) := by
  rw [drop_at l (0, 0) k h, atFrom]; exact if_neg (by rw [show ((l.getD k (0, 0)).1 == p) = false from e]; simp)
theorem of_end {l : List Sym} {s : ByteArray} {k : Nat} (h : l.length ≤ k) : ofFrom (l.drop k) s k = -1 := by
  rw [List.drop_eq_nil_of_le h, ofFrom]
theorem at_end {l : List Rel} {p : Int} {k : Nat} (h : l.length ≤ k) : atFrom (l.drop k) p k = -1 := by
  rw [List.drop_eq_nil_of_le h, atFrom]
theorem retI {k : IntKind} {a b : Int} (h : a = b) : Ending.returned (.int k a) = .returned (.int k b) := by rw [h]
/-- Letters, and what else a name may hold. -/
def ltrI (b : Int) : Bool := decide (97 ≤ b ∧ b ≤ 122 ∨ 65 ≤ b ∧ b ≤ 90 ∨ b = 95)
def dgtI (b : Int) : Bool := decide (48 ≤ b ∧ b ≤ 57)
def goodI (b : Int) : Bool := ltrI b || dgtI b || b == 46
def goodL : List UInt8 → Bool
  | [] => true
  | c :: l => goodI c.toNat && goodL l
def nameOK (s : ByteArray) : Bool := match s.data.toList with
  | [] => false
  | c :: l => decide (l.length < 24) && ltrI c.toNat && goodL l
theorem sdrop (s : ByteArray) (k : Nat) (h : k < s.size) : s.data.toList.drop k = s[k] :: s.data.toList.drop (k + 1) := by
  have h' : k < s.data.toList.length := by simpa using h
  rw [List.drop_eq_getElem_cons h']; rfl
theorem name_cons (s : ByteArray) (h : 0 < s.size) : nameOK s = (decide (s.size ≤ 24) && ltrI s[0].toNat && goodL (s.data.toList.drop 1)) := by
  have e := sdrop s 0 h
  rw [List.drop_zero] at e
  have hl : s.size = (s.data.toList.drop 1).length + 1 := by
    have := congrArg List.length e
    simp at this ⊢; omega
  unfold nameOK
  rw [e]
  simp only []
  congr 2
  rw [decide_eq_decide, hl]
  show (List.drop 1 s.data.toList).length < 24 ↔ _
  omega
/-- The first place of a row at which something is. -/
def firstOf (n : Nat) (f : Nat → Int) : Int × Int := match (List.range n).find? (fun k => f k != 0) with
  | some k => (f k, k)
  | none => (0, 0)
theorem first_hit {n k : Nat} {f : Nat → Int} (hk : k < n) (h : ∀ j, j < k → f j = 0) (e : ¬ f k = 0) : firstOf n f = (f k, (k : Int)) := by
  unfold firstOf
  have : (List.range n).find? (fun k => f k != 0) = some k := by
    rw [List.find?_range_eq_some]
    exact ⟨by simpa using e, by simpa using hk, fun j hj => by simp [h j hj]⟩
  rw [this]
theorem first_none {n : Nat} {f : Nat → Int} (h : ∀ j, j < n → f j = 0) : firstOf n f = (0, 0) := by
  unfold firstOf
  have : (List.range n).find? (fun k => f k != 0) = none := by
    rw [List.find?_eq_none]
    intro j hj
    simp [h j (by simpa using hj)]
  rw [this]
/-- What is wrong with an object, 1 to 3 of the chapter. -/
def sizeC (ok : Bool) (nc ns nr nd : Nat) (dA : Int) : Int × Int := if ok = false then (20, -1) else if 16384 < nc then (21, -1) else if 256 < ns then (21, -2) else if nc < nr then (21, -3) else if dA < 0 ∨ 4096 < dA ∨ 4096 - dA < (nd : Int) then (25, -1) else (0, 0)
/-- What is wrong with a symbol. -/
def symE (zs : List Sym) (nc : Nat) (k : Nat) : Int := if nameOK (sName zs k) = false then 20 else if ¬ ofS zs (sName zs k) = k then 26 else if sKind zs k < 0 ∨ 3 < sKind zs k then 23 else if sAt zs k < 0 ∨ (nc : Int) < sAt zs k ∨ (sKind zs k = 3 ∧ ¬ sAt zs k = 0) then 22 else 0
def symC (zs : List Sym) (nc : Nat) : Int × Int := firstOf zs.length (symE zs nc)
theorem ret2I {a b c d : Int} (h : (a, b) = (c, d)) : Ending.returned (.tuple #[.int .i64 a, .int .i64 b]) = .returned (.tuple #[.int .i64 c, .int .i64 d]) := by
  cases h; rfl
theorem ofS_range (zs : List Sym) (s : ByteArray) : -1 ≤ ofS zs s ∧ ofS zs s ≤ zs.length := by
  have h : ∀ (l : List Sym) (k : Nat), -1 ≤ ofFrom l s k ∧ ofFrom l s k ≤ (l.length : Int) + k := by
    intro l
    induction l with
    | nil => intro k; simp only [ofFrom, List.length_nil]; omega
    | cons x t ih =>
      intro k
      rw [ofFrom]
      have := ih (k + 1)
      split
      · simp; omega
      · simp at this ⊢; omega
  have := h zs 0
  simpa [ofS] using this
theorem name_nil (s : ByteArray) (h : s.size = 0) : nameOK s = false := by
  have : s.data.toList = [] := by
    apply List.eq_nil_of_length_eq_zero; simpa using h
  unfold nameOK; rw [this]
theorem good_no {s : ByteArray} {k : Nat} (h : k < s.size) (e : goodI s[k].toNat = false) : goodL (s.data.toList.drop k) = false := by
  rw [sdrop s k h, goodL, e]; rfl
theorem good_on {s : ByteArray} {k : Nat} (h : k < s.size) (e : goodI s[k].toNat = true) : goodL (s.data.toList.drop k) = goodL (s.data.toList.drop (k + 1)) := by
  rw [sdrop s k h, goodL, e]; rfl
theorem good_end {s : ByteArray} {k : Nat} (h : s.size ≤ k) : goodL (s.data.toList.drop k) = true := by
  rw [List.drop_eq_nil_of_le (by simpa using h), goodL]







end Go.Proofs.YthpkekpojhmaaaaGreatDoor

namespace Go.Proofs.YthpkekpojhmaaaaGreatDoor
open Go.RowKit

/-- What is wrong with a relocation: where it is; what stands there. -/
def relE (zs : List Rel) (code : List Int) (ns : Nat) (k : Nat) : Int := if rAt zs k < 0 ∨ (code.length : Int) ≤ rAt zs k ∨ (0 < k ∧ rAt zs k ≤ rAt zs (k - 1)) ∨ rSym zs k < 0 ∨ (ns : Int) ≤ rSym zs k then 24 else if isT (nth code (rAt zs k).toNat) = false ∨ ¬ tgV (nth code (rAt zs k).toNat) = 0 then 24 else 0
def relC (zs : List Rel) (code : List Int) (ns : Nat) : Int × Int := firstOf zs.length (relE zs code ns)
/-- A target that lies outside. -/
def relBad (zs : List Rel) (nc ns : Nat) (k : Nat) : Bool := decide (rAt zs k < 0 ∨ (nc : Int) ≤ rAt zs k ∨ (0 < k ∧ rAt zs k ≤ rAt zs (k - 1)) ∨ rSym zs k < 0 ∨ (ns : Int) ≤ rSym zs k)
def codE (code : List Int) (k : Nat) : Int := if isT (nth code k) = true ∧ (code.length : Int) < tgV (nth code k) then 22 else 0
def codC (code : List Int) : Int × Int := if (firstOf code.length (codE code)).1 = 0 then (0, 0) else (22, -1 - (firstOf code.length (codE code)).2)
def checkC (nm : ByteArray) (code : List Int) (dA : Int) (nd : Nat) (ss : List Sym) (rs : List Rel) : Int × Int :=
  if ¬ (sizeC (nameOK nm) code.length ss.length rs.length nd dA).1 = 0 then sizeC (nameOK nm) code.length ss.length rs.length nd dA
  else if ¬ (symC ss code.length).1 = 0 then symC ss code.length
  else if ¬ (relC rs code ss.length).1 = 0 then relC rs code ss.length
  else codC code







end Go.Proofs.YthpkekpojhmaaaaGreatDoor

namespace Go.Proofs.YthpkekpojhmaaaaGreatDoor
open Go.RowKit

/-- Nothing is other but what lies in block g, and new blocks. -/
def But (g : Nat) (w w' : World) : Prop := w'.os = w.os ∧ w'.tape = w.tape ∧ w'.output = w.output ∧ w.heap.size ≤ w'.heap.size ∧ ∀ k, k < w.heap.size → k ≠ g → w'.heap[k]? = w.heap[k]?
theorem But.refl (g : Nat) (w : World) : But g w w := ⟨rfl, rfl, rfl, Nat.le_refl _, fun _ _ _ => rfl⟩
theorem But.trans {g : Nat} {a b c : World} (h : But g a b) (k : But g b c) : But g a c :=
  ⟨k.1.trans h.1, k.2.1.trans h.2.1, k.2.2.1.trans h.2.2.1, Nat.le_trans h.2.2.2.1 k.2.2.2.1, fun i hi hn => (k.2.2.2.2 i (Nat.lt_of_lt_of_le hi h.2.2.2.1) hn).trans (h.2.2.2.2 i hi hn)⟩
theorem But.of {g : Nat} {w w' : World} (h : Below w.heap.size w w') : But g w w' := ⟨h.os, h.tape, h.output, h.size, fun k hk _ => h.block k hk⟩
theorem But.on {g : Nat} {a b c : World} (h : But g a b) (k : Below b.heap.size b c) : But g a c := h.trans (But.of k)
theorem But.set {g : Nat} {a b : World} (h : But g a b) (i : Nat) (v : Value) : But g a (b.setCell ⟨g, i, none⟩ v) :=
  h.trans ⟨rfl, rfl, rfl, Nat.le_of_eq (by simp [go_sem]), fun k _ hn => Below.heap_setCell _ _ _ _ hn⟩
theorem But.drewN {g : Nat} {a b : World} (h : But g a b) (n : Nat) : But g a (b.drewN n) := h
theorem But.cell {g : Nat} {w w' : World} (h : But g w w') {p : Addr} {v : Value} (hp : p.block ≠ g) (hc : w.cell? p = some v) : w'.cell? p = some v := by
  rw [World.cell?_of_block (w := w) (h.2.2.2.2 p.block (World.block_lt_of_cell? w _ hc) hp)]; exact hc
theorem But.below {g : Nat} {w0 w w' : World} (h : But g w w') (hb : Below w0.heap.size w0 w) (hg : w0.heap.size ≤ g) : Below w0.heap.size w0 w' :=
  ⟨h.1.trans hb.os, h.2.1.trans hb.tape, h.2.2.1.trans hb.output, Nat.le_trans hb.size h.2.2.2.1, fun k hk => (h.2.2.2.2 k (Nat.lt_of_lt_of_le hk hb.size) (by omega)).trans (hb.block k hk)⟩
/-- The marks: as many as an object's code may be long. -/
def MarksAt (w : World) (g : Nat) (m : Nat → Bool) : Prop := (∀ i, i < 16384 → w.cell? ⟨g, i, none⟩ = some (.bool (m i))) ∧ ∀ i, w.frozen? ⟨g, i, none⟩ = false
theorem MarksAt.keep {w w' : World} {g : Nat} {m : Nat → Bool} (h : MarksAt w g m) (hb : Below w.heap.size w w') : MarksAt w' g m :=
  ⟨fun i hi => lkeep hb (h.1 i hi), fun i => by
    have hl : g < w.heap.size := World.block_lt_of_cell? w _ (h.1 0 (by omega))
    rw [hb.frozen (p := ⟨g, i, none⟩) hl]; exact h.2 i⟩
theorem MarksAt.set {w : World} {g : Nat} {m : Nat → Bool} (h : MarksAt w g m) (i : Nat) : MarksAt (w.setCell ⟨g, i, none⟩ (.bool true)) g (fun j => j == i || m j) :=
  ⟨fun j hj => by
    by_cases hij : j = i
    · subst hij
      simp [go_sem, h.1 j hj]
    · have e : (j == i) = false := by simpa using hij
      simp only [e, Bool.false_or]
      rw [← h.1 j hj]
      simp [go_sem], fun j => by rw [← h.2 j]; simp [go_sem]⟩
theorem MarksAt.drewN {w : World} {g : Nat} {m : Nat → Bool} (h : MarksAt w g m) (n : Nat) : MarksAt (w.drewN n) g m := h
/-- Each place that is marked holds no target but 0. -/
def Safe (code : List Int) (m : Nat → Bool) : Prop := ∀ i, m i = true → tgV (nth code i) = 0
theorem Safe.set {code : List Int} {m : Nat → Bool} (h : Safe code m) (i : Nat) (e : tgV (nth code i) = 0) : Safe code (fun j => j == i || m j) := fun j hj => by
  simp at hj
  rcases hj with rfl | hj
  · exact e
  · exact h j hj
/-- The place ahead of which the next relocation may not lie. -/
def aheadV (zs : List Rel) (k : Nat) : Int := if k = 0 then -1 else rAt zs (k - 1)
theorem ahead_zero (zs : List Rel) : aheadV zs 0 = -1 := rfl
theorem ahead_succ (zs : List Rel) (k : Nat) : aheadV zs (k + 1) = rAt zs k := by unfold aheadV; rw [if_neg (by omega)]; rfl
theorem rel_past {zs : List Rel} {code : List Int} {ns k : Nat} (h : ∀ j, j < k → relE zs code ns j = 0) : -1 ≤ aheadV zs k := by
  unfold aheadV
  split
  · omega
  · next hk =>
    have := h (k - 1) (by omega)
    unfold relE at this
    split at this
    · omega
    · next h1 => omega
theorem rel_bad {zs : List Rel} {code : List Int} {ns k : Nat} (h : ∀ j, j < k → relE zs code ns j = 0) (e : rAt zs k ≤ aheadV zs k ∨ (code.length : Int) ≤ rAt zs k ∨ rSym zs k < 0 ∨ (ns : Int) ≤ rSym zs k) : relE zs code ns k = 24 := by
  have hp := rel_past h
  unfold aheadV at e hp
  unfold relE
  rw [if_pos]
  split at e
  · omega
  · rename_i hk; rw [if_neg hk] at hp; omega
theorem rel_fine {zs : List Rel} {code : List Int} {ns k : Nat} (h : ∀ j, j < k → relE zs code ns j = 0) (e : ¬ rAt zs k ≤ aheadV zs k) (e2 : ¬ (code.length : Int) ≤ rAt zs k) (e3 : ¬ rSym zs k < 0) (e4 : ¬ (ns : Int) ≤ rSym zs k) :
    0 ≤ rAt zs k ∧ (isT (nth code (rAt zs k).toNat) = false ∨ ¬ tgV (nth code (rAt zs k).toNat) = 0 → relE zs code ns k = 24) ∧ (¬ (isT (nth code (rAt zs k).toNat) = false ∨ ¬ tgV (nth code (rAt zs k).toNat) = 0) → relE zs code ns k = 0) := by
  have hp := rel_past h
  have h0 : 0 ≤ rAt zs k := by omega
  have hx : ¬ (rAt zs k < 0 ∨ (code.length : Int) ≤ rAt zs k ∨ (0 < k ∧ rAt zs k ≤ rAt zs (k - 1)) ∨ rSym zs k < 0 ∨ (ns : Int) ≤ rSym zs k) := by
    unfold aheadV at e
    split at e
    · omega
    · omega
  refine ⟨h0, fun hh => ?_, fun hh => ?_⟩
  · unfold relE; rw [if_neg hx, if_pos hh]
  · unfold relE; rw [if_neg hx, if_neg hh]





end Go.Proofs.YthpkekpojhmaaaaGreatDoor

namespace Go.Proofs.YthpkekpojhmaaaaGreatDoor
open Go.RowKit


open Go.Extern.Stop Go.Stop Go.Extern

theorem run_two {α β : Type} {P : Program} {W : World} {m : Sem Value} {p1 : Sem α} {p2 : Sem β} (k : α → β → Sem Value) (e : m = (p1 >>= fun p => p2 >>= fun q => k p q)) : m.run P W = (p1 >>= fun p => p2 >>= fun q => k p q).run P W := by rw [e]
theorem as_set_run (v x : Value) (a b : Addr) (val : Value) (P : Program) (W W' : World) (hp : (ReflectliteValue.parts v).run P W = .ok (some (161, a, 409)) W) (hq : (ReflectliteValue.parts x).run P W = .ok (some (161, b, 153)) W) (hl : (loadVar 161 b).run P W = .ok val W) (hd : (Rtype.directlyAssignable 161 161).run P W = .ok true W) (hs : (storeVar 161 a val).run P W = .ok () W') :
    (ReflectliteValue.set #[v, x]).run P W = .ok (.tuple #[]) W' := by
  refine (run_two (p1 := ReflectliteValue.parts v) (p2 := ReflectliteValue.parts x) _ rfl).trans ?_
  simp only [Sem.run_bind, hp, hq, Result.andThen]
  simp [ReflectliteValue.flagAddr, hl, hd, hs, Result.andThen]
theorem as_set97 (ta b : Nat) (x y : Int) (u v : Value) (W : World) (hb0 : W.cell? ⟨b, 0, none⟩ = some (.int .i64 x)) (hb1 : W.cell? ⟨b, 1, none⟩ = some (.int .i64 y)) (h0 : W.cell? ⟨ta, 0, none⟩ = some u) (h1 : W.cell? ⟨ta, 1, none⟩ = some v) (f0 : W.frozen? ⟨ta, 0, none⟩ = false) (f1 : W.frozen? ⟨ta, 1, none⟩ = false) :
    (ReflectliteValue.set #[.agg #[.pointer (some ⟨4, 161, none⟩), .pointer (some ⟨ta, 0, none⟩), .int .u64 409], .agg #[.pointer (some ⟨4, 161, none⟩), .pointer (some ⟨b, 0, none⟩), .int .u64 153]]).run Tryz.prog W = .ok (.tuple #[]) ((W.setCell ⟨ta, 0, none⟩ (.int .i64 x)).setCell ⟨ta, 1, none⟩ (.int .i64 y)) :=
  as_set_run _ _ _ _ _ _ _ _ (as_parts97a _ _) (as_parts97 _ _) (as_load97 b x y W hb0 hb1) (as_direct97 _) (as_store97 ta x y u v W h0 h1 f0 f1)
theorem alloc_keep {w : World} {a : Addr} {v : Value} (h : w.cell? a = some v) (o : Obj) : (w.alloc o).cell? a = some v := lkeep (lb_alloc (Below.refl _ _) o) h
theorem alloc_fro {w : World} {a : Addr} (hl : a.block < w.heap.size) (h : w.frozen? a = false) (o : Obj) : (w.alloc o).frozen? a = false := by
  rw [(lb_alloc (Below.refl w.heap.size w) o).frozen (p := a) hl]; exact h
set_option maxHeartbeats 4000000 in
theorem as_hit (tb : Nat) (x y : Int) (u v : Value) (w : World) (hg : w.cell? ⟨0, 0, none⟩ = some (.iface 281 (.agg #[.pointer (some ⟨4, 154, none⟩)]))) (h0 : w.cell? ⟨tb, 0, none⟩ = some u) (h1 : w.cell? ⟨tb, 1, none⟩ = some v) (f0 : w.frozen? ⟨tb, 0, none⟩ = false) (f1 : w.frozen? ⟨tb, 1, none⟩ = false) :
    Calls Tryz.prog 87 #[.iface 161 (.agg #[.int .i64 x, .int .i64 y]), .iface 163 (.pointer (some ⟨tb, 0, none⟩))] w fun ev w' => ev = .returned (.bool true) ∧ w' = (((((w.alloc (.cells #[.pointer (some ⟨tb, 0, none⟩)] 163)).alloc (.cells #[.pointer (some ⟨4, 163, none⟩), .pointer (some ⟨w.heap.size, 0, none⟩), .int .u64 150] 244)).alloc (.cells #[.pointer (some ⟨4, 163, none⟩), .pointer (some ⟨w.heap.size, 0, none⟩), .int .u64 150] 244)).alloc (.cells #[.int .i64 x, .int .i64 y] 161)).setCell ⟨tb, 0, none⟩ (.int .i64 x)).setCell ⟨tb, 1, none⟩ (.int .i64 y) := by
  have h6 := @run_callFunc_extern Tryz.prog 138 _ (fun args => ReflectliteValue.unpack (args.getD 0 (.tuple #[]))) Tryz.func138 (by kernel_rfl) (by kernel_rfl) (by kernel_rfl) (by kernel_rfl)
  have h7 := @run_callFunc_extern Tryz.prog 139 _ (ReflectliteValue.methodAny (ReflectliteValue.valueError "reflectlite.Value.Type" 0) (fun t _ _ _ => ReflectliteType.toType t)) Tryz.func139 (by kernel_rfl) (by kernel_rfl) (by kernel_rfl) (by kernel_rfl)
  have h8 := @run_callFunc_extern Tryz.prog 140 _ (ReflectliteValue.method (ReflectliteValue.valueError "reflectlite.Value.IsNil" 0) ReflectliteValue.isNil) Tryz.func140 (by kernel_rfl) (by kernel_rfl) (by kernel_rfl) (by kernel_rfl)
  have h27 := @run_callFunc_extern Tryz.prog 209 _ (ReflectliteType.abiMethod fun t => do pure (.int .u8 (← Rtype.kind t))) Tryz.func209 (by kernel_rfl) (by kernel_rfl) (by kernel_rfl) (by kernel_rfl)
  have h37 := @run_callFunc_extern Tryz.prog 220 _ (ReflectliteType.method ReflectliteType.elem) Tryz.func220 (by kernel_rfl) (by kernel_rfl) (by kernel_rfl) (by kernel_rfl)
  have h38 := @run_callFunc_extern Tryz.prog 221 _ (ReflectliteType.relation "Implements" ReflectliteType.implements_) Tryz.func221 (by kernel_rfl) (by kernel_rfl) (by kernel_rfl) (by kernel_rfl)
  have h10 := @run_callFunc_extern Tryz.prog 168 _ ReflectliteType.typeOf Tryz.func168 (by kernel_rfl) (by kernel_rfl) (by kernel_rfl) (by kernel_rfl)
  have h35 := @run_callFunc_extern Tryz.prog 218 _ (ReflectliteType.relation "AssignableTo" ReflectliteType.assignableTo) Tryz.func218 (by kernel_rfl) (by kernel_rfl) (by kernel_rfl) (by kernel_rfl)
  have h11 := @run_callFunc_extern Tryz.prog 169 _ (ReflectliteValue.method (ReflectliteValue.valueError "reflectlite.Value.Elem" 0) ReflectliteValue.elem) Tryz.func169 (by kernel_rfl) (by kernel_rfl) (by kernel_rfl) (by kernel_rfl)
  have h12 := @run_callFunc_extern Tryz.prog 170 _ ReflectliteValue.set Tryz.func170 (by kernel_rfl) (by kernel_rfl) (by kernel_rfl) (by kernel_rfl)
  have tO := as_typeOf97
  have mA := as_asg
  have a25 := as_asg97
  have v25 := as_val97
  have f6 := as_val99
  have f7 := as_type99
  have mK := as_kind
  have mE := as_elem
  have mI := as_impl
  have k27 := as_kind99
  have k25 := as_kind97
  have e27 := as_elem99
  have i25 := as_impl97
  have htl : tb < w.heap.size := World.block_lt_of_cell? w ⟨tb, 0, none⟩ h0
  have n8 := as_isNil99 ⟨w.heap.size, 0, none⟩ ⟨tb, 0, none⟩ ((w.alloc (.cells #[.pointer (some ⟨tb, 0, none⟩)] 163)).alloc (.cells #[.pointer (some ⟨4, 163, none⟩), .pointer (some ⟨w.heap.size, 0, none⟩), .int .u64 150] 244)) (alloc_keep (by simp) _)
  have hg2 : ((w.alloc (.cells #[.pointer (some ⟨tb, 0, none⟩)] 163)).alloc (.cells #[.pointer (some ⟨4, 163, none⟩), .pointer (some ⟨w.heap.size, 0, none⟩), .int .u64 150] 244)).cell? ⟨0, 0, none⟩ = some (.iface 281 (.agg #[.pointer (some ⟨4, 154, none⟩)])) := alloc_keep (alloc_keep hg _) _
  have el := as_elemV99 ⟨w.heap.size, 0, none⟩ ⟨tb, 0, none⟩ (((w.alloc (.cells #[.pointer (some ⟨tb, 0, none⟩)] 163)).alloc (.cells #[.pointer (some ⟨4, 163, none⟩), .pointer (some ⟨w.heap.size, 0, none⟩), .int .u64 150] 244)).alloc (.cells #[.pointer (some ⟨4, 163, none⟩), .pointer (some ⟨w.heap.size, 0, none⟩), .int .u64 150] 244)) (alloc_keep (alloc_keep (by simp) _) _)
  have st := as_set97 tb (w.heap.size + 1 + 1 + 1) x y u v ((((w.alloc (.cells #[.pointer (some ⟨tb, 0, none⟩)] 163)).alloc (.cells #[.pointer (some ⟨4, 163, none⟩), .pointer (some ⟨w.heap.size, 0, none⟩), .int .u64 150] 244)).alloc (.cells #[.pointer (some ⟨4, 163, none⟩), .pointer (some ⟨w.heap.size, 0, none⟩), .int .u64 150] 244)).alloc (.cells #[.int .i64 x, .int .i64 y] 161)) (by rw [World.cell?_alloc_at _ _ _ _ (by simp)]; rfl) (by rw [World.cell?_alloc_at _ _ _ _ (by simp)]; rfl) (alloc_keep (alloc_keep (alloc_keep (alloc_keep h0 _) _) _) _) (alloc_keep (alloc_keep (alloc_keep (alloc_keep h1 _) _) _) _)
    (alloc_fro (by simp; omega) (alloc_fro (by simp; omega) (alloc_fro (by simp; omega) (alloc_fro htl f0 _) _) _) _) (alloc_fro (by simp; omega) (alloc_fro (by simp; omega) (alloc_fro (by simp; omega) (alloc_fro htl f1 _) _) _) _)
  go_enter Tryz.func87, Tryz.ntmps87
  go_wp2
  refine wp_loop_rounds 1 ?_
  rw [rounds_succ]
  go_wp2
  go_ret
  exact ⟨rfl, rfl⟩


end Go.Proofs.YthpkekpojhmaaaaGreatDoor
