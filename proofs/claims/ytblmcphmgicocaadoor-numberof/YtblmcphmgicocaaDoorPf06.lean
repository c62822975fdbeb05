/-
  Which places of a text are named, which blocks there are; no Go in sight. A map of marks in memory: which places it has. A map of numbers by words; a set that is counted: both in memory.
-/
import Derived.Test.YtblmcphmgicocaaDoorProg
import Derived.WalkKit
import Derived.WalkSpells
import Derived.WalkLawsBesides
import Derived.RowKit3
import Derived.Below
import Derived.Deep.QuietTactic
import Derived.BigQuiet
import Derived.WalkSmall
import Derived.Laws.Rows
import Derived.Test.YtblmcphmgicocaaDoorPf05
import Derived.Maps.OwnSet
import Derived.Maps.Own
import Derived.Maps.OwnOps
import Derived.Test.YtblmcphmgicocaaDoorPf03
import Derived.Maps.Views
namespace Go.Proofs.YtblmcphmgicocaaDoor
open Go.RowKit

/-- Some place below k is told to be y. -/
def anyF (g : Nat → Option Int) (k : Nat) (y : Int) : Bool := (List.range k).any fun i => g i == some y
def setF (f : Int → Bool) (x : Int) (y : Int) : Bool := y == x || f y
def addK (f : Int → Bool) (g : Nat → Option Int) (k : Nat) (y : Int) : Bool := f y || anyF g k y
theorem anyF_succ (g : Nat → Option Int) (k : Nat) (y : Int) : anyF g (k + 1) y = (anyF g k y || g k == some y) := by simp [anyF, List.range_succ, List.any_append]
theorem anyF_iff {g : Nat → Option Int} {k : Nat} {y : Int} : anyF g k y = true ↔ ∃ i, i < k ∧ g i = some y := by
  simp [anyF, List.any_eq_true]
theorem addK_zero (f : Int → Bool) (g : Nat → Option Int) (y : Int) : addK f g 0 y = f y := by simp [addK, anyF]
theorem addK_some {f : Int → Bool} {g : Nat → Option Int} {k : Nat} {x : Int} (h : g k = some x) (y : Int) : setF (addK f g k) x y = addK f g (k + 1) y := by
  unfold setF addK
  rw [anyF_succ, h]
  have : (some x == some y) = (y == x) := by
    cases h1 : (y == x) <;> simp_all
    exact fun e => h1 e.symm
  rw [this]
  cases (y == x) <;> cases f y <;> cases anyF g k y <;> rfl
theorem addK_none {f : Int → Bool} {g : Nat → Option Int} {k : Nat} (h : g k = none) (y : Int) : addK f g k y = addK f g (k + 1) y := by
  unfold addK
  rw [anyF_succ, h]
  simp
def gLab (text : List Int) (i : Nat) : Option Int := if isT (nth text i) = true then some (tgV (nth text i)) else none
def gTak (text : List Int) (i : Nat) : Option Int := if (dOp (nth text i) == 20) = true then some (dN (nth text i)) else none
def gSit (text : List Int) (i : Nat) : Option Int := if (dOp (nth text i) == 17) = true ∨ (dOp (nth text i) == 18) = true then some ((i : Int) + 1) else none
def gEnd (text : List Int) (i : Nat) : Option Int := if endsB (dOp (nth text i)) = true then some ((i : Int) + 1) else none
def noF (_ : Int) : Bool := false
def labF (text : List Int) (ent : Int) : Int → Bool := addK (setF noF ent) (gLab text) text.length
def takF (text : List Int) : Int → Bool := addK noF (gTak text) text.length
def sitF (text : List Int) : Int → Bool := addK noF (gSit text) text.length
def begF (text : List Int) (ent : Int) : Int → Bool := addK (addK (setF (setF noF 0) ent) (gLab text) text.length) (gEnd text) text.length
/-- The places below k that a function names, rising. -/
def plcT (f : Int → Bool) (k : Nat) : List Int := ((List.range k).filter fun (i : Nat) => f (i : Int)).map fun (i : Nat) => (i : Int)
theorem plcT_zero (f : Int → Bool) : plcT f 0 = [] := rfl
theorem plcT_yes {f : Int → Bool} {k : Nat} (h : f (k : Int) = true) : plcT f (k + 1) = plcT f k ++ [(k : Int)] := by simp [plcT, List.range_succ, List.filter_append, h]
theorem plcT_no {f : Int → Bool} {k : Nat} (h : f (k : Int) = false) : plcT f (k + 1) = plcT f k := by simp [plcT, List.range_succ, List.filter_append, h]
theorem plcT_len (f : Int → Bool) (k : Nat) : (plcT f k).length ≤ k := by
  induction k with
  | zero => simp [plcT]
  | succ k ih =>
    cases h : f (k : Int)
    · rw [plcT_no h]; omega
    · rw [plcT_yes h]; simp; omega
theorem plcT_fit {f g : Int → Bool} {k : Nat} (h : ∀ i : Nat, i < k → f (i : Int) = g (i : Int)) : plcT f k = plcT g k := by
  unfold plcT
  congr 1
  apply List.filter_congr
  intro i hi
  exact h i (by simpa using hi)
theorem plcT_mem {f : Int → Bool} {k : Nat} {y : Int} : y ∈ plcT f k ↔ 0 ≤ y ∧ y < k ∧ f y = true := by
  unfold plcT
  rw [List.mem_map]
  constructor
  · rintro ⟨i, hi, rfl⟩
    rw [List.mem_filter] at hi
    have := hi.1
    simp at this
    exact ⟨by omega, by omega, hi.2⟩
  · rintro ⟨h0, h1, h2⟩
    refine ⟨y.toNat, ?_, by omega⟩
    rw [List.mem_filter]
    refine ⟨by simp; omega, ?_⟩
    rw [show ((y.toNat : Nat) : Int) = y by omega]
    exact h2
/-- Whether a place lies in the block i. -/
def hasB (l : List Rel) (p : Int) (i : Nat) : Bool := decide (rAt l i ≤ p ∧ p < rSym l i)
/-- The first block that has a place, or -1. -/
def ofB (l : List Rel) (p : Int) : Int := match (List.range l.length).find? (hasB l p) with
  | some k => (k : Int)
  | none => -1
theorem of_at {l : List Rel} {p : Int} {k : Nat} (hk : k < l.length) (h0 : ∀ j, j < k → hasB l p j = false) (h : hasB l p k = true) : ofB l p = (k : Int) := by
  have hf : (List.range l.length).find? (hasB l p) = some k := by
    rw [List.find?_range_eq_some]
    exact ⟨h, by simpa using hk, fun j hj => by rw [h0 j hj]; rfl⟩
  unfold ofB
  rw [hf]
theorem of_no {l : List Rel} {p : Int} (h0 : ∀ j, j < l.length → hasB l p j = false) : ofB l p = -1 := by
  have hf : (List.range l.length).find? (hasB l p) = none := by
    rw [List.find?_eq_none]
    intro j hj
    rw [h0 j (by simpa using hj)]; simp
  unfold ofB
  rw [hf]
/-- Blocks from their beginnings. -/
def zipN : List Int → Int → List Rel
  | [], _ => []
  | [a], e => [(a, e)]
  | a :: b :: r, e => (a, b) :: zipN (b :: r) e
theorem zipN_len : ∀ (bs : List Int) (e : Int), (zipN bs e).length = bs.length
  | [], _ => rfl
  | [_], _ => rfl
  | a :: b :: r, e => by rw [zipN, List.length_cons, zipN_len (b :: r) e]; rfl
theorem zipN_snoc : ∀ (bs : List Int) (x e : Int), bs ≠ [] → zipN (bs ++ [x]) e = zipN bs x ++ [(x, e)]
  | [], _, _, h => absurd rfl h
  | [a], x, e, _ => rfl
  | a :: b :: r, x, e, _ => by
    have := zipN_snoc (b :: r) x e (by simp)
    simp only [List.cons_append, zipN] at this ⊢
    rw [this]
theorem zipN_at : ∀ (bs : List Int) (e : Int) (k : Nat), k < bs.length → rAt (zipN bs e) k = nth bs k ∧ rSym (zipN bs e) k = if k + 1 < bs.length then nth bs (k + 1) else e
  | [], _, k, h => by simp at h
  | [a], e, k, h => by
    obtain rfl : k = 0 := by simpa using h
    exact ⟨rfl, rfl⟩
  | a :: b :: r, e, 0, _ => by
    refine ⟨rfl, ?_⟩
    rw [if_pos (by simp)]; rfl
  | a :: b :: r, e, k + 1, h => by
    have := zipN_at (b :: r) e k (by simpa using h)
    refine ⟨this.1, ?_⟩
    have h2 := this.2
    rw [show rSym (zipN (a :: b :: r) e) (k + 1) = rSym (zipN (b :: r) e) k from rfl, h2]
    by_cases hk : k + 1 < (b :: r).length
    · rw [if_pos hk, if_pos (by simpa using hk)]; rfl
    · rw [if_neg hk, if_neg (by simpa using hk)]
/-- The blocks of a text. -/
def blkL (text : List Int) (ent : Int) : List Rel := zipN (plcT (begF text ent) text.length) (text.length : Int)
theorem lab_iff {text : List Int} {ent y : Int} : labF text ent y = true ↔ y = ent ∨ anyF (gLab text) text.length y = true := by
  unfold labF addK setF noF
  simp
theorem beg_iff {text : List Int} {ent y : Int} : begF text ent y = true ↔ y = 0 ∨ labF text ent y = true ∨ anyF (gEnd text) text.length y = true := by
  rw [lab_iff]
  unfold begF addK setF noF
  rw [Bool.or_eq_true, Bool.or_eq_true, Bool.or_eq_true, Bool.or_eq_true, beq_iff_eq, beq_iff_eq]
  constructor
  · rintro (((h | h | h) | h) | h)
    · exact .inr (.inl (.inl h))
    · exact .inl h
    · cases h
    · exact .inr (.inl (.inr h))
    · exact .inr (.inr h)
  · rintro (h | (h | h) | h)
    · exact .inl (.inl (.inr (.inl h)))
    · exact .inl (.inl (.inl h))
    · exact .inl (.inr h)
    · exact .inr h
theorem end_iff {text : List Int} {i : Nat} (hi : i < text.length) : anyF (gEnd text) text.length ((i : Int) + 1) = true ↔ endsB (dOp (nth text i)) = true := by
  rw [anyF_iff]
  constructor
  · rintro ⟨j, hj, e⟩
    unfold gEnd at e
    split at e
    · next h3 =>
      have : j = i := by injection e with e; omega
      subst this
      exact h3
    · cases e
  · intro h
    exact ⟨i, hi, by unfold gEnd; rw [if_pos h]⟩
theorem beg_zero (text : List Int) (ent : Int) : begF text ent 0 = true := beg_iff.2 (.inl rfl)
theorem beg_lab {text : List Int} {ent y : Int} (h : labF text ent y = true) : begF text ent y = true := beg_iff.2 (.inr (.inl h))
theorem beg_end {text : List Int} {ent : Int} {i : Nat} (hi : i < text.length) (h : endsB (dOp (nth text i)) = true) : begF text ent ((i : Int) + 1) = true := beg_iff.2 (.inr (.inr ((end_iff hi).2 h)))
/-- What begins a block, at a place behind the first one. -/
theorem beg_succ {text : List Int} {ent : Int} {i : Nat} (hi : i < text.length) : begF text ent ((i : Int) + 1) = (labF text ent ((i : Int) + 1) || endsB (dOp (nth text i))) := by
  rw [Bool.eq_iff_iff, beg_iff, Bool.or_eq_true, end_iff hi]
  constructor
  · rintro (h | h | h)
    · omega
    · exact .inl h
    · exact .inr h
  · rintro (h | h)
    · exact .inr (.inl h)
    · exact .inr (.inr h)






end Go.Proofs.YtblmcphmgicocaaDoor

namespace Go.Proofs.YtblmcphmgicocaaDoor
open Go.RowKit

open Go.Maps Go.WideMaps
theorem lawI : Keyed Tryd.prog 3 := int_keyed Tryd.underlying3
/-- A map of marks, of at most n places. -/
def Mks (w : World) (b n : Nat) (f : Int → Bool) : Prop := ∃ D : DataW Unit, w.ownsMap Tryd.prog 3 unitElem b n D ∧ ∀ x : Int, Maps.has D (.int .i64 x) = f x
theorem Mks.made (w : World) : Mks (w.alloc (.map #[] 0)) w.heap.size 0 noF := ⟨_, World.ownsMap_made w Tryd.prog 3 unitElem, fun _x => rfl⟩
theorem Mks.lt {w : World} {b n : Nat} {f : Int → Bool} (h : Mks w b n f) : b < w.heap.size := by
  obtain ⟨D, h, _⟩ := h
  exact h.lt
theorem Mks.below {w w1 : World} {B b n : Nat} {f : Int → Bool} (h : Mks w b n f) (hb : Below B w w1) (hB : b < B) : Mks w1 b n f := by
  obtain ⟨D, ⟨es, clock, h1, h2⟩, h3⟩ := h
  exact ⟨D, ⟨es, clock, by rw [hb.block b hB]; exact h1, h2⟩, h3⟩
theorem Mks.keep {w w1 : World} {b n : Nat} {f : Int → Bool} (h : Mks w b n f) (hb : Below w.heap.size w w1) : Mks w1 b n f := h.below hb h.lt
theorem Mks.kept {w w1 : World} {b n : Nat} {row : Option Nat} {f : Int → Bool} (h : Mks w b n f) (hg : w.grownBy w1 row) (hne : some b ≠ row) : Mks w1 b n f := by
  obtain ⟨D, h1, h3⟩ := h
  exact ⟨D, h1.kept hg hne, h3⟩
theorem Mks.fit {w : World} {b n : Nat} {f g : Int → Bool} (h : Mks w b n f) (e : ∀ x, f x = g x) : Mks w b n g := by
  obtain ⟨D, h, h3⟩ := h
  exact ⟨D, h, fun s => by rw [← e s]; exact h3 s⟩
theorem Mks.more {w : World} {b n m : Nat} {f : Int → Bool} (h : Mks w b n f) (hn : n ≤ m) : Mks w b m f := by
  obtain ⟨D, h, h3⟩ := h
  exact ⟨D, h.mono hn, h3⟩
theorem keyI {x : Int} (h0 : -9223372036854775808 ≤ x) (h1 : x ≤ 9223372036854775807) : keyOf Tryd.prog 3 (.int .i64 x) = some (.int .i64 x) := keyOf_int_mk Tryd.underlying3 (WalkArith.wf_i64 (by omega))



end Go.Proofs.YtblmcphmgicocaaDoor

namespace Go.Proofs.YtblmcphmgicocaaDoor
open Go.RowKit

open Go.Maps Go.WideMaps
theorem lawU : Keyed Tryd.prog 26 := int_keyed Tryd.underlying26
theorem mapU : Tryd.prog.underlying 68 = some (.map 26 3) := by kernel_rfl
theorem zeroN (w : World) : (zeroValue 3).run Tryd.prog w = .ok (.int .i64 0) w := by kernel_rfl
theorem keyU {x : Int} (h0 : 0 ≤ x) (h1 : x < 4294967296) : keyOf Tryd.prog 26 (.int .u32 x) = some (.int .u32 x) := keyOf_int_mk Tryd.underlying26 (WalkArith.wf_u32 (by omega))
theorem elN {x : Int} (h0 : 0 ≤ x) (h1 : x ≤ 1000000000000) : plainElem (H := Unit) Tryd.prog 3 (.int .i64 x) = some (.lit (.int .i64 x), []) := plainElem_int Tryd.underlying3 (WalkArith.wf_i64 (by omega))
def nV (x : Option Nat) : Int := ((x.getD 0 : Nat) : Int)
/-- A map of numbers by words, of at most n words. -/
def Nms (w : World) (b n : Nat) (f : Int → Option Nat) : Prop := ∃ D : DataW Unit, w.ownsMap Tryd.prog 26 (plainElem Tryd.prog 3) b n D ∧ ∀ x : Int, Maps.has D (.int .u32 x) = (f x).isSome ∧ D.atKey (.int .u32 x) (.lit (.int .i64 0)) = .lit (.int .i64 (nV (f x)))
theorem Nms.made (w : World) : Nms (w.alloc (.map #[] 0)) w.heap.size 0 (fun _ => none) := ⟨_, World.ownsMap_made w Tryd.prog 26 (plainElem Tryd.prog 3), fun _x => ⟨rfl, rfl⟩⟩
theorem Nms.lt {w : World} {b n : Nat} {f : Int → Option Nat} (h : Nms w b n f) : b < w.heap.size := by
  obtain ⟨D, h, _⟩ := h
  exact h.lt
theorem Nms.same {w w1 : World} {b n : Nat} {f : Int → Option Nat} (h : Nms w b n f) (e : w1.heap[b]? = w.heap[b]?) : Nms w1 b n f := by
  obtain ⟨D, ⟨es, clock, h1, h2⟩, h3⟩ := h
  exact ⟨D, ⟨es, clock, by rw [e]; exact h1, h2⟩, h3⟩
theorem Nms.keep {w w1 : World} {b n : Nat} {f : Int → Option Nat} (h : Nms w b n f) (hb : Below w.heap.size w w1) : Nms w1 b n f := h.same (hb.block b h.lt)
theorem Nms.fit {w : World} {b n : Nat} {f g : Int → Option Nat} (h : Nms w b n f) (e : ∀ x, f x = g x) : Nms w b n g := by
  obtain ⟨D, h, h3⟩ := h
  exact ⟨D, h, fun s => by rw [← e s]; exact h3 s⟩
theorem Nms.more {w : World} {b n m : Nat} {f : Int → Option Nat} (h : Nms w b n f) (hn : n ≤ m) : Nms w b m f := by
  obtain ⟨D, h, h3⟩ := h
  exact ⟨D, h.mono hn, h3⟩
set_option maxRecDepth 100000 in
theorem Nms.look {w : World} {b n : Nat} {f : Int → Option Nat} (h : Nms w b n f) {x : Int} (h0 : 0 ≤ x) (h1 : x < 4294967296) : (Instr.lookup 68 (.map (some b)) (.int .u32 x) true).run Tryd.prog w = .ok (.tuple #[.int .i64 (nV (f x)), .bool (f x).isSome]) w := by
  obtain ⟨D, h, h3⟩ := h
  obtain ⟨v, ps, hrun, hv⟩ := h.look_ok lawU mapU (zeroN w) (elN (by omega) (by omega)) (keyU h0 h1)
  rw [(h3 x).2] at hv
  obtain ⟨a, rfl, e, _⟩ := plainElem_int_inv Tryd.underlying3 hv
  injection e with e _
  injection e with e
  injection e with _ e
  rw [hrun, (h3 x).1, e]
theorem Nms.put {w : World} {b n : Nat} {f : Int → Option Nat} (h : Nms w b n f) (hn : n < 1000000000000) {x : Int} (h0 : 0 ≤ x) (h1 : x < 4294967296) (m : Nat) (hm : m ≤ 1000000000000) : ∃ w', (Instr.mapUpdate 68 (.map (some b)) (.int .u32 x) (.int .i64 (m : Int))).run Tryd.prog w = .ok () w' ∧ Nms w' b (n + 1) (fun y => if y = x then some m else f y) ∧ w.grownBy w' (some b) := by
  obtain ⟨D, h, h3⟩ := h
  obtain ⟨w', hrun, k1, hg⟩ := h.update lawU mapU (by unfold maxLen; omega) (keyU h0 h1) (elN (x := (m : Int)) (by omega) (by omega))
  refine ⟨w', hrun, ⟨_, k1, fun y => ?_⟩, hg⟩
  show _ = (if y = x then some m else f y).isSome ∧ _ = DataW.lit (.int .i64 (nV (if y = x then some m else f y)))
  by_cases hy : y = x
  · subst hy
    rw [if_pos rfl]
    exact ⟨Maps.has_put_same h.isMap (by simp [WideAt.IsKeyLit]) _, Maps.atKey_put_same h.isMap (by simp [WideAt.IsKeyLit]) _ _⟩
  · rw [if_neg hy]
    have hne : (Lit.int .u32 y) ≠ .int .u32 x := fun e => by
      injection e with _ e
      exact hy e
    rw [Maps.has_put_other hne, Maps.atKey_put_other hne]
    exact h3 y
theorem mkNm (w : World) (c : Option Value) : c = none → (Instr.makeMap 68 none).run Tryd.prog w = .ok (.map (some w.heap.size)) (w.alloc (.map #[] 0)) := fun _ => by
  first | kernel_rfl | (simp [Instr.makeMap, run_underlying mapU, Result.andThen])
theorem wpList_nms_look (w : World) {ops : Array Oper} {rest : List Oper} {o : Oper} {a : Act} {Q : Exit → Act → World → Prop} (hg : o.guard = none) (m x : Operand) (hop : o.op = Op.lookup 68 m x true)
    (b n : Nat) (f : Int → Option Nat) (hk : Nms w b n f) (y : Int) (h0 : 0 ≤ y) (h1 : y < 4294967296) (hm : a.eval m = .map (some b)) (hx : a.eval x = .int .u32 y)
    (hK : wpList Tryd.prog ops Q rest (a.put o.dst (.tuple #[.int .i64 (nV (f y)), .bool (f y).isSome])) w) : wpList Tryd.prog ops Q (o :: rest) a w := by
  refine wpList_plain hg fun K' hK' => ?_
  have hrun := hk.look h0 h1
  unfold Oper.wp
  simp [execOp, hop, hm, hx, hrun, Result.andThen]
  exact hK' _ _ hK
theorem wpList_nms_put (w : World) {ops : Array Oper} {rest : List Oper} {o : Oper} {a : Act} {Q : Exit → Act → World → Prop} (hg : o.guard = none) (m x v : Operand) (hop : o.op = Op.mapUpdate 68 m x v)
    (b n : Nat) (f : Int → Option Nat) (hk : Nms w b n f) (hn : n < 1000000000000) (y : Int) (h0 : 0 ≤ y) (h1 : y < 4294967296) (z : Nat) (hz : z ≤ 1000000000000) (hm : a.eval m = .map (some b)) (hx : a.eval x = .int .u32 y) (hv : a.eval v = .int .i64 (z : Int))
    (hK : ∀ w', Nms w' b (n + 1) (fun u => if u = y then some z else f u) → w.grownBy w' (some b) → wpList Tryd.prog ops Q rest (a.put o.dst undef) w') : wpList Tryd.prog ops Q (o :: rest) a w := by
  refine wpList_plain hg fun K' hK' => ?_
  obtain ⟨w', hrun, k1, k2⟩ := hk.put hn h0 h1 z hz
  unfold Oper.wp
  simp [execOp, hop, hm, hx, hv, hrun, Result.andThen]
  exact hK' _ _ (hK w' k1 k2)
/-- A set of numbers, with how many there are. -/
def Cts (w : World) (b n : Nat) (f : Int → Bool) (c : Nat) : Prop := ∃ D : DataW Unit, w.ownsMap Tryd.prog 3 unitElem b n D ∧ (∀ x : Int, Maps.has D (.int .i64 x) = f x) ∧ Maps.size D = c
theorem mapC : Tryd.prog.underlying 75 = some (.map 3 76) := by kernel_rfl
theorem Cts.made (w : World) : Cts (w.alloc (.map #[] 0)) w.heap.size 0 (fun _ => false) 0 := ⟨_, World.ownsMap_made w Tryd.prog 3 unitElem, fun _x => rfl, rfl⟩
theorem Cts.fit {w : World} {b n c : Nat} {f g : Int → Bool} (h : Cts w b n f c) (e : ∀ x, f x = g x) : Cts w b n g c := by
  obtain ⟨D, h, h3, h4⟩ := h
  exact ⟨D, h, fun s => by rw [← e s]; exact h3 s, h4⟩
theorem Cts.alloc {w : World} {b n c : Nat} {f : Int → Bool} (h : Cts w b n f c) (o : Obj) : Cts (w.alloc o) b n f c := by
  obtain ⟨D, h, h3⟩ := h
  exact ⟨D, h.alloc o, h3⟩
theorem Cts.drew {w : World} {b n c : Nat} {f : Int → Bool} (h : Cts w b n f c) : Cts w.drew b n f c := by
  obtain ⟨D, h, h3⟩ := h
  exact ⟨D, h.drew, h3⟩
theorem Cts.len {w : World} {b n c : Nat} {f : Int → Bool} (h : Cts w b n f c) (ty : TypeId) : (Builtin.len_ #[75] ty #[.map (some b)]).run Tryd.prog w = .ok (.int .i64 (c : Int)) w := by
  obtain ⟨D, h, _, rfl⟩ := h
  exact h.len mapC ty
theorem mkCt (w : World) : (Instr.makeMap 75 none).run Tryd.prog w = .ok (.map (some w.heap.size)) (w.alloc (.map #[] 0)) := by
  first | kernel_rfl | (simp [Instr.makeMap, run_underlying mapC, Result.andThen])
theorem Cts.put {w : World} {b n c : Nat} {f : Int → Bool} (h : Cts w b n f c) (hn : n < 1000000000000) {x : Int} (h0 : -9223372036854775808 ≤ x) (h1 : x ≤ 9223372036854775807) : ∃ w', (Instr.mapUpdate 75 (.map (some b)) (.int .i64 x) (.agg #[])).run Tryd.prog w = .ok () w' ∧ Cts w' b (n + 1) (fun y => f y || (x == y)) (if f x = true then c else c + 1) ∧ w.grownBy w' (some b) := by
  obtain ⟨D, h, h3, h4⟩ := h
  obtain ⟨w', hrun, k1, hg⟩ := h.update lawI mapC (by unfold maxLen; omega) (keyI h0 h1) unitElem_mk
  refine ⟨w', hrun, ⟨_, k1, fun y => ?_, ?_⟩, hg⟩
  · show _ = (f y || (x == y))
    cases hy : (x == y) with
    | true =>
      have : x = y := by simpa using hy
      subst this
      rw [Bool.or_true]
      exact Maps.has_put_same h.isMap (by simp [WideAt.IsKeyLit]) _
    | false =>
      have hne : (Lit.int .i64 y) ≠ .int .i64 x := fun e => by
        injection e with _ e
        subst e
        simp at hy
      rw [Maps.has_put_other hne, Bool.or_false]
      exact h3 y
  · rw [Maps.size_put (h.tidy lawI), h3, h4]
theorem wpList_cts_put (w : World) {ops : Array Oper} {rest : List Oper} {o : Oper} {a : Act} {Q : Exit → Act → World → Prop} (hg : o.guard = none) (m x v : Operand) (hop : o.op = Op.mapUpdate 75 m x v)
    (b n c : Nat) (f : Int → Bool) (hk : Cts w b n f c) (hn : n < 1000000000000) (y : Int) (h0 : -9223372036854775808 ≤ y) (h1 : y ≤ 9223372036854775807) (hm : a.eval m = .map (some b)) (hx : a.eval x = .int .i64 y) (hv : a.eval v = .agg #[])
    (hK : ∀ w', Cts w' b (n + 1) (fun u => f u || (y == u)) (if f y = true then c else c + 1) → w.grownBy w' (some b) → wpList Tryd.prog ops Q rest (a.put o.dst undef) w') : wpList Tryd.prog ops Q (o :: rest) a w := by
  refine wpList_plain hg fun K' hK' => ?_
  obtain ⟨w', hrun, k1, k2⟩ := hk.put hn h0 h1
  unfold Oper.wp
  simp [execOp, hop, hm, hx, hv, hrun, Result.andThen]
  exact hK' _ _ (hK w' k1 k2)

end Go.Proofs.YtblmcphmgicocaaDoor
