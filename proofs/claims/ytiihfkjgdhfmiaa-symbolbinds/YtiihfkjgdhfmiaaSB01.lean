/-
  What every statement of this seat shares: that what was read stays read where only new memory is made, and how a law ends that returned true; no condition. Lists, and how they lie in memory; no Go in sight. What is found in an object, and which texts are names, as plain mathematics; no Go in sight.
-/
import Derived.Test.YtiihfkjgdhfmiaaRows
import Derived.WalkKit
import Derived.ProofKit
import Derived.OpenShut
import Derived.Stop.Joined
import Derived.Carry
import Derived.Lib.SmallJoins
import Derived.SizedLaws
import Derived.WalkSpells
import Derived.WalkLawsBesides
import Derived.RowKit3
import Derived.Below
namespace Go.Proofs.Ytiihfkjgdhfmiaa
open Go.ChangeShapes Go.WideShapes Go.ChangeAt Go.RowKit Go.Joins

theorem own : ownKnob Try.prog.godebug = none := by kernel_rfl
theorem laidOut : laidOutB Try.prog = true := by kernel_rfl

/-- What was read stays read, argument by argument, where only new memory is made. -/
theorem trodAll_below {H : Type} {enc : TypeId × Value → H} {P : Program} (hl : laidOutB P = true) {W W' : World} (hb : Below W.heap.size W W') :
    ∀ (ts : List TypeId) (vs : List Value) (ds : List (DataW H)) (ps : List MemPlace), (∀ t ∈ ts, P.readableRec t = true ∧ t < P.types.size) →
      DataW.TrodAll enc P W 0 (fun _ => true) true ts vs ds ps → (∀ x ∈ ps, x.block < W.heap.size) →
      DataW.TrodAll enc P W' 0 (fun b => decide (b < W.heap.size)) true ts vs ds ps
  | [], vs, ds, ps, _, h, _ => by
    obtain ⟨rfl, rfl, rfl⟩ := trodAll_nil h
    exact trodAll_mk0
  | t :: ts, vs, ds, ps, hts, h, hlt => by
    obtain ⟨v, vs', d, ds', p, q, rfl, rfl, rfl, h0, h1⟩ := trodAll_cons h
    obtain ⟨hr, hrow⟩ := hts t (List.mem_cons_self ..)
    exact trodAll_cons_mk (Below.trod hl hr hrow h0 hb fun x hx => hlt x (List.mem_append_left _ hx))
      (trodAll_below hl hb ts vs' ds' q (fun u hu => hts u (List.mem_cons_of_mem _ hu)) h1 fun x hx => hlt x (List.mem_append_right _ hx))

/-- The end of a law that returned true and made new memory alone. -/
theorem law_post {H : Type} {enc : TypeId × Value → H} {P : Program} (hl : laidOutB P = true) {f : Func} {s : ChangeSpec} {tb : TypeId} (hv : s.vars = []) (hres : f.resultTypes = #[tb]) (hu : P.underlying tb = some .bool)
    (hts : ∀ t ∈ f.params.toList, P.readableRec t = true ∧ t < P.types.size) {W W' : World} {args : Array Value} {ds gs : List (DataW H)} {before : List MemPlace}
    (hW : DataW.Whole enc P f.params.toList s.vars false W args.toList ds gs before) (hfn : s.fn H (ds ++ gs) = { results := [.lit (.bool true)], args := ds }) (hb : Below W.heap.size W W') :
    s.post enc P f false true false false W args (.bool true) W' := by
  have hW' := hW
  obtain ⟨p, q, hA, hV, rfl, hfz, hnd⟩ := hW
  refine ⟨ds, gs, p ++ q, [], p, [], hW', ?_, ?_, ?_, hb.frame _, fun h => by cases h⟩
  · rw [hfn, hres]
    exact trodAll_mk1 (shut_bool hu true)
  · rw [hfn]
    exact trodAll_below hl hb _ _ _ _ hts hA fun x hx => hW'.lt x (List.mem_append_left _ hx)
  · rw [hfn, hv]
    rfl

theorem boundsOf {k : IntKind} {x : Int} (h : (Lit.int k x).wf = true) : k.min ≤ x ∧ x ≤ k.max := by
  simpa [Lit.wf] using h





end Go.Proofs.Ytiihfkjgdhfmiaa

namespace Go.Proofs.Ytiihfkjgdhfmiaa
open Go.RowKit

theorem take_same {α : Type} {zs ys : List α} {z : α} {k : Nat} (h : zs.take k = ys.take k) (h1 : k < zs.length) (h2 : k < ys.length) (e : zs.getD k z = ys.getD k z) : zs.take (k + 1) = ys.take (k + 1) := by
  rw [List.take_succ_eq_append_getElem h1, List.take_succ_eq_append_getElem h2, h]
  have : zs[k] = ys[k] := by simpa [List.getD, h1, h2] using e
  rw [this]
theorem take_all {α : Type} {zs ys : List α} {k : Nat} (h : zs.take k = ys.take k) (h1 : zs.length ≤ k) (h2 : zs.length = ys.length) : zs = ys := by
  rw [List.take_of_length_le h1, List.take_of_length_le (by omega)] at h
  exact h
theorem ne_at {α : Type} {zs ys : List α} {z : α} {k : Nat} (e : ¬ zs.getD k z = ys.getD k z) : ¬ zs = ys := fun h => e (by rw [h])
theorem retB {a b : Bool} (h : a = b) : Ending.returned (.bool a) = .returned (.bool b) := by rw [h]
/-- The number at a place of a list. -/
def nth (zs : List Int) (k : Nat) : Int := zs.getD k 0
abbrev Sym := ByteArray × Int × Int
abbrev Rel := Int × Int
def symD : Sym := (⟨#[]⟩, 0, 0)
def sName (l : List Sym) (k : Nat) : ByteArray := (l.getD k symD).1
def sKind (l : List Sym) (k : Nat) : Int := (l.getD k symD).2.1
def sAt (l : List Sym) (k : Nat) : Int := (l.getD k symD).2.2
def rAt (l : List Rel) (k : Nat) : Int := (l.getD k (0, 0)).1
def rSym (l : List Rel) (k : Nat) : Int := (l.getD k (0, 0)).2
/-- How a list lies in memory: each cell of each item. -/
def IntsAt (w : World) (A : Option Addr) (K : IntKind) (zs : List Int) : Prop := ∀ i, i < zs.length → ∃ a : Addr, A = some a ∧ w.cell? (a.add i) = some (.int K (nth zs i))
def SymsAt (w : World) (A : Option Addr) (zs : List Sym) : Prop := ∀ i, i < zs.length → ∃ a : Addr, A = some a ∧ w.cell? (a.add (i * 3)) = some (.string (sName zs i)) ∧ w.cell? ((a.add (i * 3)).add 1) = some (.int .i8 (sKind zs i)) ∧ w.cell? ((a.add (i * 3)).add 2) = some (.int .i64 (sAt zs i))
def RelsAt (w : World) (A : Option Addr) (zs : List Rel) : Prop := ∀ i, i < zs.length → ∃ a : Addr, A = some a ∧ w.cell? (a.add (i * 2)) = some (.int .i64 (rAt zs i)) ∧ w.cell? ((a.add (i * 2)).add 1) = some (.int .i64 (rSym zs i))
theorem lb_alloc {w w1 : World} (h : Below w.heap.size w w1) (o : Obj) : Below w.heap.size w (w1.alloc o) := h.alloc h.size o
theorem lb_trans {w w1 w2 : World} (h : Below w.heap.size w w1) (k : Below w1.heap.size w1 w2) : Below w.heap.size w w2 := h.trans (k.mono h.size)
theorem lkeep {w w1 : World} (h : Below w.heap.size w w1) {p : Addr} {v : Value} (hc : w.cell? p = some v) : w1.cell? p = some v := by
  rw [h.cell (p := p) (World.block_lt_of_cell? w _ hc)]; exact hc
theorem IntsAt.keep {w w1 : World} {A : Option Addr} {K : IntKind} {zs : List Int} (h : IntsAt w A K zs) (hb : Below w.heap.size w w1) : IntsAt w1 A K zs := fun i hi => by
  obtain ⟨a, e, c⟩ := h i hi
  exact ⟨a, e, lkeep hb c⟩
theorem SymsAt.keep {w w1 : World} {A : Option Addr} {zs : List Sym} (h : SymsAt w A zs) (hb : Below w.heap.size w w1) : SymsAt w1 A zs := fun i hi => by
  obtain ⟨a, e, c, d, f⟩ := h i hi
  exact ⟨a, e, lkeep hb c, lkeep hb d, lkeep hb f⟩
theorem RelsAt.keep {w w1 : World} {A : Option Addr} {zs : List Rel} (h : RelsAt w A zs) (hb : Below w.heap.size w w1) : RelsAt w1 A zs := fun i hi => by
  obtain ⟨a, e, c, d⟩ := h i hi
  exact ⟨a, e, lkeep hb c, lkeep hb d⟩
theorem nth_ne {zs ys : List Int} {k : Nat} (e : ¬ nth zs k = nth ys k) : ¬ zs = ys := fun h => e (by rw [h])
theorem sym_same {zs ys : List Sym} {k : Nat} (e : sName zs k = sName ys k) (f : sKind zs k = sKind ys k) (g : sAt zs k = sAt ys k) : zs.getD k symD = ys.getD k symD := Prod.ext e (Prod.ext f g)
theorem rel_same {zs ys : List Rel} {k : Nat} (e : rAt zs k = rAt ys k) (f : rSym zs k = rSym ys k) : zs.getD k (0, 0) = ys.getD k (0, 0) := Prod.ext e f
/-- A row of cells, written up to k. -/
def wcur (f z : Nat → Value) (N k : Nat) : Array Value := ((List.range N).map fun i => if i < k then f i else z i).toArray
theorem wcur_size (f z : Nat → Value) (N k : Nat) : (wcur f z N k).size = N := by simp [wcur]
theorem wcur_get (f z : Nat → Value) (N k i : Nat) (h : i < N) : (wcur f z N k)[i]? = some (if i < k then f i else z i) := by simp [wcur, h]
theorem wcur_set (f z : Nat → Value) (N k : Nat) (h : k < N) : (wcur f z N k).setIfInBounds k (f k) = wcur f z N (k + 1) := by
  apply Array.ext_getElem?
  intro i
  by_cases hi : i < N
  · rw [wcur_get _ _ _ _ _ hi, Array.getElem?_setIfInBounds, wcur_size]
    by_cases hk : k = i
    · subst hk; simp [h]
    · rw [if_neg hk, wcur_get _ _ _ _ _ hi]
      by_cases h1 : i < k
      · simp [h1, show i < k + 1 by omega]
      · simp [h1, show ¬ i < k + 1 by omega]
  · rw [Array.getElem?_eq_none (by simp [wcur_size]; omega), Array.getElem?_eq_none (by simp [wcur_size]; omega)]
/-- The mark at a place. -/
def mark (i : Nat) : Int := 9437184 + i + 1
def wInt (k : IntKind) (zs : List Int) (i : Nat) : Value := if i < zs.length then .int k (nth zs i) else .int k (mark i)
def wSym (zs : List Sym) (i : Nat) : Value := if i / 3 < zs.length then (if i % 3 = 0 then .string (sName zs (i / 3)) else if i % 3 = 1 then .int .i8 (sKind zs (i / 3)) else .int .i64 (sAt zs (i / 3))) else (if i % 3 = 0 then .string ⟨#[]⟩ else if i % 3 = 1 then .int .i8 0 else .int .i64 (mark (i / 3)))
def zSym (i : Nat) : Value := if i % 3 = 0 then .string ⟨#[]⟩ else if i % 3 = 1 then .int .i8 0 else .int .i64 0
def wRel (zs : List Rel) (i : Nat) : Value := if i / 2 < zs.length then (if i % 2 = 0 then .int .i64 (rAt zs (i / 2)) else .int .i64 (rSym zs (i / 2))) else (if i % 2 = 0 then .int .i64 (mark (i / 2)) else .int .i64 0)





end Go.Proofs.Ytiihfkjgdhfmiaa

namespace Go.Proofs.Ytiihfkjgdhfmiaa
open Go.RowKit

/-- The first symbol of that name: its number. -/
def ofFrom : List Sym → ByteArray → Nat → Int
  | [], _, _ => -1
  | x :: t, s, k => if (x.1.toList == s.toList) = true then (k : Int) else ofFrom t s (k + 1)
def ofS (l : List Sym) (s : ByteArray) : Int := ofFrom l s 0
/-- The first relocation with that At: its number. -/
def atFrom : List Rel → Int → Nat → Int
  | [], _, _ => -1
  | x :: t, p, k => if (x.1 == p) = true then (k : Int) else atFrom t p (k + 1)
def atR (l : List Rel) (p : Int) : Int := atFrom l p 0
theorem drop_at {α : Type} (l : List α) (z : α) (k : Nat) (h : k < l.length) : l.drop k = l.getD k z :: l.drop (k + 1) := by
  rw [List.drop_eq_getElem_cons h]; simp [List.getD, h]
theorem of_hit {l : List Sym} {s : ByteArray} {k : Nat} (h : k < l.length) (e : ((sName l k).toList == s.toList) = true) : ofFrom (l.drop k) s k = k := by
  rw [drop_at l symD k h, ofFrom]; exact if_pos e
theorem of_miss {l : List Sym} {s : ByteArray} {k : Nat} (h : k < l.length) (e : ((sName l k).toList == s.toList) = false) : ofFrom (l.drop k) s k = ofFrom (l.drop (k + 1)) s (k + 1) := by
  rw [drop_at l symD k h, ofFrom]; exact if_neg (by rw [show ((l.getD k symD).1.toList == s.toList) = false from e]; simp)
theorem at_hit {l : List Rel} {p : Int} {k : Nat} (h : k < l.length) (e : (rAt l k == p) = true) : atFrom (l.drop k) p k = k := by
  rw [drop_at l (0, 0) k h, atFrom]; exact if_pos e
theorem at_miss {l : List Rel} {p : Int} {k : Nat} (h : k < l.length) (e : (rAt l k == p) = false) : atFrom (l.drop k) p k = atFrom (l.drop (k + 1)) p (k + 1) := by
  rw [drop_at l (0, 0) k h, atFrom]; exact if_neg (by rw [show ((l.getD k (0, 0)).1 == p) = false from e]; simp)
theorem of_end {l : List Sym} {s : ByteArray} {k : Nat} (h : l.length ≤ k) : ofFrom (l.drop k) s k = -1 := by
  rw [List.drop_eq_nil_of_le h, ofFrom]
theorem at_end {l : List Rel} {p : Int} {k : Nat} (h : l.length ≤ k) : atFrom (l.drop k) p k = -1 := by
  rw [List.drop_eq_nil_of_le h, atFrom]
theorem retI {k : IntKind} {a b : Int} (h : a = b) : Ending.returned (.int k a) = .returned (.int k b) := by rw [h]
/-- Letters, and what else a name may hold. -/
def ltrI (b : Int) : Bool := decide (97 ≤ b ∧ b ≤ 122 ∨ 65 ≤ b ∧ b ≤ 90 ∨ b = 95)
def dgtI (b : Int) : Bool := decide (48 ≤ b ∧ b ≤ 57)
def goodI (b : Int) : Bool := ltrI b || dgtI b || b == 46
def goodL : List UInt8 → Bool
  | [] => true
  | c :: l => goodI c.toNat && goodL l
def nameOK (s : ByteArray) : Bool := match s.data.toList with
  | [] => false
  | c :: l => decide (l.length < 24) && ltrI c.toNat && goodL l
theorem sdrop (s : ByteArray) (k : Nat) (h : k < s.size) : s.data.toList.drop k = s[k] :: s.data.toList.drop (k + 1) := by
  have h' : k < s.data.toList.length := by simpa using h
  rw [List.drop_eq_getElem_cons h']; rfl
theorem name_cons (s : ByteArray) (h : 0 < s.size) : nameOK s = (decide (s.size ≤ 24) && ltrI s[0].toNat && goodL (s.data.toList.drop 1)) := by
  have e := sdrop s 0 h
  rw [List.drop_zero] at e
  have hl : s.size = (s.data.toList.drop 1).length + 1 := by
    have := congrArg List.length e
    simp at this ⊢; omega
  unfold nameOK
  rw [e]
  simp only []
  congr 2
  rw [decide_eq_decide, hl]
  show (List.drop 1 s.data.toList).length < 24 ↔ _
  omega
/-- The first place of a row at which something is. -/
def firstOf (n : Nat) (f : Nat → Int) : Int × Int := match (List.range n).find? (fun k => f k != 0) with
  | some k => (f k, k)
  | none => (0, 0)
theorem first_hit {n k : Nat} {f : Nat → Int} (hk : k < n) (h : ∀ j, j < k → f j = 0) (e : ¬ f k = 0) : firstOf n f = (f k, (k : Int)) := by
  unfold firstOf
  have : (List.range n).find? (fun k => f k != 0) = some k := by
    rw [List.find?_range_eq_some]
    exact ⟨by simpa using e, by simpa using hk, fun j hj => by simp [h j hj]⟩
  rw [this]
theorem first_none {n : Nat} {f : Nat → Int} (h : ∀ j, j < n → f j = 0) : firstOf n f = (0, 0) := by
  unfold firstOf
  have : (List.range n).find? (fun k => f k != 0) = none := by
    rw [List.find?_eq_none]
    intro j hj
    simp [h j (by simpa using hj)]
  rw [this]
/-- What is wrong with an object, 1 to 3 of the chapter. -/
def sizeC (ok : Bool) (nc ns nr nd : Nat) (dA : Int) : Int × Int := if ok = false then (20, -1) else if 16384 < nc then (21, -1) else if 256 < ns then (21, -2) else if nc < nr then (21, -3) else if dA < 0 ∨ 4096 < dA ∨ 4096 - dA < (nd : Int) then (25, -1) else (0, 0)
/-- What is wrong with a symbol. -/
def symE (zs : List Sym) (nc : Nat) (k : Nat) : Int := if nameOK (sName zs k) = false then 20 else if ¬ ofS zs (sName zs k) = k then 26 else if sKind zs k < 0 ∨ 3 < sKind zs k then 23 else if sAt zs k < 0 ∨ (nc : Int) < sAt zs k ∨ (sKind zs k = 3 ∧ ¬ sAt zs k = 0) then 22 else 0
def symC (zs : List Sym) (nc : Nat) : Int × Int := firstOf zs.length (symE zs nc)
theorem ret2I {a b c d : Int} (h : (a, b) = (c, d)) : Ending.returned (.tuple #[.int .i64 a, .int .i64 b]) = .returned (.tuple #[.int .i64 c, .int .i64 d]) := by
  cases h; rfl
theorem ofS_range (zs : List Sym) (s : ByteArray) : -1 ≤ ofS zs s ∧ ofS zs s ≤ zs.length := by
  have h : ∀ (l : List Sym) (k : Nat), -1 ≤ ofFrom l s k ∧ ofFrom l s k ≤ (l.length : Int) + k := by
    intro l
    induction l with
    | nil => intro k; simp only [ofFrom, List.length_nil]; omega
    | cons x t ih =>
      intro k
      rw [ofFrom]
      have := ih (k + 1)
      split
      · simp; omega
      · simp at this ⊢; omega
  have := h zs 0
  simpa [ofS] using this
theorem name_nil (s : ByteArray) (h : s.size = 0) : nameOK s = false := by
  have : s.data.toList = [] := by
    apply List.eq_nil_of_length_eq_zero; simpa using h
  unfold nameOK; rw [this]
theorem good_no {s : ByteArray} {k : Nat} (h : k < s.size) (e : goodI s[k].toNat = false) : goodL (s.data.toList.drop k) = false := by
  rw [sdrop s k h, goodL, e]; rfl
theorem good_on {s : ByteArray} {k : Nat} (h : k < s.size) (e : goodI s[k].toNat = true) : goodL (s.data.toList.drop k) = goodL (s.data.toList.drop (k + 1)) := by
  rw [sdrop s k h, goodL, e]; rfl
theorem good_end {s : ByteArray} {k : Nat} (h : s.size ≤ k) : goodL (s.data.toList.drop k) = true := by
  rw [List.drop_eq_nil_of_le (by simpa using h), goodL]






end Go.Proofs.Ytiihfkjgdhfmiaa
