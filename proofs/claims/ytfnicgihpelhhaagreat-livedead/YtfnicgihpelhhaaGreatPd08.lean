/-
  Words of 32 bits: fields side by side, and masks; no Go in sight. Which places of a text are named, which blocks there are; no Go in sight. A map of marks in memory: which places it has. Blocks lie one behind the other; no Go in sight.
-/
import Derived.Test.YtfnicgihpelhhaaGreatProg
import Derived.Laws.BitsAllLaws
import Derived.Test.YtfnicgihpelhhaaGreatPd07
import Derived.WalkKit
import Derived.WalkSpells
import Derived.WalkLawsBesides
import Derived.RowKit3
import Derived.Below
import Derived.Deep.QuietTactic
import Derived.BigQuiet
import Derived.WalkSmall
import Derived.Laws.Rows
import Derived.Test.YtfnicgihpelhhaaGreatPd05
import Derived.Maps.OwnSet
import Derived.Maps.Own
import Derived.Maps.OwnOps
namespace Go.Proofs.YtfnicgihpelhhaaGreat
open Go.RowKit

theorem or_add (X y q : Int) (k : Nat) (hX : X = (2 : Int) ^ k * q) (h0 : 0 ≤ q) (h1 : 0 ≤ y) (h2 : y < (2 : Int) ^ k) (h3 : X + y < 4294967296) : bits .or .u32 X y = X + y := by
  have hp : (0 : Int) < (2 : Int) ^ k := Int.pow_pos (by omega)
  have hX0 : 0 ≤ X := by rw [hX]; exact Int.mul_nonneg (Int.le_of_lt hp) h0
  obtain ⟨Q, rfl⟩ := Int.eq_ofNat_of_zero_le h0
  obtain ⟨Y, rfl⟩ := Int.eq_ofNat_of_zero_le h1
  rw [u32_or X Y hX0 (by omega) (by omega) (by omega)]
  have e : X.toNat = 2 ^ k * Q := by
    rw [hX]
    have : ((2 : Int) ^ k * (Q : Int)) = ((2 ^ k * Q : Nat) : Int) := by simp
    rw [this]; exact Int.toNat_natCast _
  have hy : Y < 2 ^ k := by
    have : ((2 ^ k : Nat) : Int) = (2 : Int) ^ k := by simp
    omega
  rw [Int.toNat_natCast, e, ← Nat.two_pow_add_eq_or_of_lt hy]
  rw [hX]; simp

theorem mask_mid (x : Int) (k : Nat) (m : Nat) (hm : m = 15 * 2 ^ k) (hm4 : m < 4294967296) (h0 : 0 ≤ x) (h1 : x < 4294967296) : bits .and .u32 x (m : Int) = x / (2 : Int) ^ k % 16 * (2 : Int) ^ k := by
  rw [u32_and x m h0 h1 (by omega) (by omega)]
  obtain ⟨X, rfl⟩ := Int.eq_ofNat_of_zero_le h0
  rw [Int.toNat_natCast, Int.toNat_natCast]
  have e : X &&& m = X / 2 ^ k % 16 * 2 ^ k := by
    have d := Nat.div_add_mod (X &&& m) (2 ^ k)
    have q : (X &&& m) / 2 ^ k = X / 2 ^ k % 16 := by
      rw [Nat.and_div_two_pow, hm, Nat.mul_div_cancel _ (Nat.two_pow_pos k)]
      exact Nat.and_two_pow_sub_one_eq_mod (X / 2 ^ k) 4
    have r : (X &&& m) % 2 ^ k = 0 := by
      rw [Nat.and_mod_two_pow, hm, Nat.mul_mod_left, Nat.and_zero]
    rw [q, r] at d
    rw [← d]; simp [Nat.mul_comm]
  rw [e]; simp





end Go.Proofs.YtfnicgihpelhhaaGreat

namespace Go.Proofs.YtfnicgihpelhhaaGreat
open Go.RowKit

/-- Some place below k is told to be y. -/
def anyF (g : Nat → Option Int) (k : Nat) (y : Int) : Bool := (List.range k).any fun i => g i == some y
def setF (f : Int → Bool) (x : Int) (y : Int) : Bool := y == x || f y
def addK (f : Int → Bool) (g : Nat → Option Int) (k : Nat) (y : Int) : Bool := f y || anyF g k y
theorem anyF_succ (g : Nat → Option Int) (k : Nat) (y : Int) : anyF g (k + 1) y = (anyF g k y || g k == some y) := by simp [anyF, List.range_succ, List.any_append]
theorem anyF_iff {g : Nat → Option Int} {k : Nat} {y : Int} : anyF g k y = true ↔ ∃ i, i < k ∧ g i = some y := by
  simp [anyF, List.any_eq_true]
theorem addK_zero (f : Int → Bool) (g : Nat → Option Int) (y : Int) : addK f g 0 y = f y := by simp [addK, anyF]
theorem addK_some {f : Int → Bool} {g : Nat → Option Int} {k : Nat} {x : Int} (h : g k = some x) (y : Int) : setF (addK f g k) x y = addK f g (k + 1) y := by
  unfold setF addK
  rw [anyF_succ, h]
  have : (some x == some y) = (y == x) := by
    cases h1 : (y == x) <;> simp_all
    exact fun e => h1 e.symm
  rw [this]
  cases (y == x) <;> cases f y <;> cases anyF g k y <;> rfl
theorem addK_none {f : Int → Bool} {g : Nat → Option Int} {k : Nat} (h : g k = none) (y : Int) : addK f g k y = addK f g (k + 1) y := by
  unfold addK
  rw [anyF_succ, h]
  simp
def gLab (text : List Int) (i : Nat) : Option Int := if isT (nth text i) = true then some (tgV (nth text i)) else none
def gTak (text : List Int) (i : Nat) : Option Int := if (dOp (nth text i) == 20) = true then some (dN (nth text i)) else none
def gSit (text : List Int) (i : Nat) : Option Int := if (dOp (nth text i) == 17) = true ∨ (dOp (nth text i) == 18) = true then some ((i : Int) + 1) else none
def gEnd (text : List Int) (i : Nat) : Option Int := if endsB (dOp (nth text i)) = true then some ((i : Int) + 1) else none
def noF (_ : Int) : Bool := false
def labF (text : List Int) (ent : Int) : Int → Bool := addK (setF noF ent) (gLab text) text.length
def takF (text : List Int) : Int → Bool := addK noF (gTak text) text.length
def sitF (text : List Int) : Int → Bool := addK noF (gSit text) text.length
def begF (text : List Int) (ent : Int) : Int → Bool := addK (addK (setF (setF noF 0) ent) (gLab text) text.length) (gEnd text) text.length
/-- The places below k that a function names, rising. -/
def plcT (f : Int → Bool) (k : Nat) : List Int := ((List.range k).filter fun (i : Nat) => f (i : Int)).map fun (i : Nat) => (i : Int)
theorem plcT_zero (f : Int → Bool) : plcT f 0 = [] := rfl
theorem plcT_yes {f : Int → Bool} {k : Nat} (h : f (k : Int) = true) : plcT f (k + 1) = plcT f k ++ [(k : Int)] := by simp [plcT, List.range_succ, List.filter_append, h]
theorem plcT_no {f : Int → Bool} {k : Nat} (h : f (k : Int) = false) : plcT f (k + 1) = plcT f k := by simp [plcT, List.range_succ, List.filter_append, h]
theorem plcT_len (f : Int → Bool) (k : Nat) : (plcT f k).length ≤ k := by
  induction k with
  | zero => simp [plcT]
  | succ k ih =>
    cases h : f (k : Int)
    · rw [plcT_no h]; omega
    · rw [plcT_yes h]; simp; omega
theorem plcT_fit {f g : Int → Bool} {k : Nat} (h : ∀ i : Nat, i < k → f (i : Int) = g (i : Int)) : plcT f k = plcT g k := by
  unfold plcT
  congr 1
  apply List.filter_congr
  intro i hi
  exact h i (by simpa using hi)
theorem plcT_mem {f : Int → Bool} {k : Nat} {y : Int} : y ∈ plcT f k ↔ 0 ≤ y ∧ y < k ∧ f y = true := by
  unfold plcT
  rw [List.mem_map]
  constructor
  · rintro ⟨i, hi, rfl⟩
    rw [List.mem_filter] at hi
    have := hi.1
    simp at this
    exact ⟨by omega, by omega, hi.2⟩
  · rintro ⟨h0, h1, h2⟩
    refine ⟨y.toNat, ?_, by omega⟩
    rw [List.mem_filter]
    refine ⟨by simp; omega, ?_⟩
    rw [show ((y.toNat : Nat) : Int) = y by omega]
    exact h2
/-- Whether a place lies in the block i. -/
def hasB (l : List Rel) (p : Int) (i : Nat) : Bool := decide (rAt l i ≤ p ∧ p < rSym l i)
/-- The first block that has a place, or -1. -/
def ofB (l : List Rel) (p : Int) : Int := match (List.range l.length).find? (hasB l p) with
  | some k => (k : Int)
  | none => -1
theorem of_at {l : List Rel} {p : Int} {k : Nat} (hk : k < l.length) (h0 : ∀ j, j < k → hasB l p j = false) (h : hasB l p k = true) : ofB l p = (k : Int) := by
  have hf : (List.range l.length).find? (hasB l p) = some k := by
    rw [List.find?_range_eq_some]
    exact ⟨h, by simpa using hk, fun j hj => by rw [h0 j hj]; rfl⟩
  unfold ofB
  rw [hf]
theorem of_no {l : List Rel} {p : Int} (h0 : ∀ j, j < l.length → hasB l p j = false) : ofB l p = -1 := by
  have hf : (List.range l.length).find? (hasB l p) = none := by
    rw [List.find?_eq_none]
    intro j hj
    rw [h0 j (by simpa using hj)]; simp
  unfold ofB
  rw [hf]
/-- Blocks from their beginnings. -/
def zipN : List Int → Int → List Rel
  | [], _ => []
  | [a], e => [(a, e)]
  | a :: b :: r, e => (a, b) :: zipN (b :: r) e
theorem zipN_len : ∀ (bs : List Int) (e : Int), (zipN bs e).length = bs.length
  | [], _ => rfl
  | [_], _ => rfl
  | a :: b :: r, e => by rw [zipN, List.length_cons, zipN_len (b :: r) e]; rfl
theorem zipN_snoc : ∀ (bs : List Int) (x e : Int), bs ≠ [] → zipN (bs ++ [x]) e = zipN bs x ++ [(x, e)]
  | [], _, _, h => absurd rfl h
  | [a], x, e, _ => rfl
  | a :: b :: r, x, e, _ => by
    have := zipN_snoc (b :: r) x e (by simp)
    simp only [List.cons_append, zipN] at this ⊢
    rw [this]
theorem zipN_at : ∀ (bs : List Int) (e : Int) (k : Nat), k < bs.length → rAt (zipN bs e) k = nth bs k ∧ rSym (zipN bs e) k = if k + 1 < bs.length then nth bs (k + 1) else e
  | [], _, k, h => by simp at h
  | [a], e, k, h => by
    obtain rfl : k = 0 := by simpa using h
    exact ⟨rfl, rfl⟩
  | a :: b :: r, e, 0, _ => by
    refine ⟨rfl, ?_⟩
    rw [if_pos (by simp)]; rfl
  | a :: b :: r, e, k + 1, h => by
    have := zipN_at (b :: r) e k (by simpa using h)
    refine ⟨this.1, ?_⟩
    have h2 := this.2
    rw [show rSym (zipN (a :: b :: r) e) (k + 1) = rSym (zipN (b :: r) e) k from rfl, h2]
    by_cases hk : k + 1 < (b :: r).length
    · rw [if_pos hk, if_pos (by simpa using hk)]; rfl
    · rw [if_neg hk, if_neg (by simpa using hk)]
/-- The blocks of a text. -/
def blkL (text : List Int) (ent : Int) : List Rel := zipN (plcT (begF text ent) text.length) (text.length : Int)
theorem lab_iff {text : List Int} {ent y : Int} : labF text ent y = true ↔ y = ent ∨ anyF (gLab text) text.length y = true := by
  unfold labF addK setF noF
  simp
theorem beg_iff {text : List Int} {ent y : Int} : begF text ent y = true ↔ y = 0 ∨ labF text ent y = true ∨ anyF (gEnd text) text.length y = true := by
  rw [lab_iff]
  unfold begF addK setF noF
  rw [Bool.or_eq_true, Bool.or_eq_true, Bool.or_eq_true, Bool.or_eq_true, beq_iff_eq, beq_iff_eq]
  constructor
  · rintro (((h | h | h) | h) | h)
    · exact .inr (.inl (.inl h))
    · exact .inl h
    · cases h
    · exact .inr (.inl (.inr h))
    · exact .inr (.inr h)
  · rintro (h | (h | h) | h)
    · exact .inl (.inl (.inr (.inl h)))
    · exact .inl (.inl (.inl h))
    · exact .inl (.inr h)
    · exact .inr h
theorem end_iff {text : List Int} {i : Nat} (hi : i < text.length) : anyF (gEnd text) text.length ((i : Int) + 1) = true ↔ endsB (dOp (nth text i)) = true := by
  rw [anyF_iff]
  constructor
  · rintro ⟨j, hj, e⟩
    unfold gEnd at e
    split at e
    · next h3 =>
      have : j = i := by injection e with e; omega
      subst this
      exact h3
    · cases e
  · intro h
    exact ⟨i, hi, by unfold gEnd; rw [if_pos h]⟩
theorem beg_zero (text : List Int) (ent : Int) : begF text ent 0 = true := beg_iff.2 (.inl rfl)
theorem beg_lab {text : List Int} {ent y : Int} (h : labF text ent y = true) : begF text ent y = true := beg_iff.2 (.inr (.inl h))
theorem beg_end {text : List Int} {ent : Int} {i : Nat} (hi : i < text.length) (h : endsB (dOp (nth text i)) = true) : begF text ent ((i : Int) + 1) = true := beg_iff.2 (.inr (.inr ((end_iff hi).2 h)))
/-- What begins a block, at a place behind the first one. -/
theorem beg_succ {text : List Int} {ent : Int} {i : Nat} (hi : i < text.length) : begF text ent ((i : Int) + 1) = (labF text ent ((i : Int) + 1) || endsB (dOp (nth text i))) := by
  rw [Bool.eq_iff_iff, beg_iff, Bool.or_eq_true, end_iff hi]
  constructor
  · rintro (h | h | h)
    · omega
    · exact .inl h
    · exact .inr h
  · rintro (h | h)
    · exact .inr (.inl h)
    · exact .inr (.inr h)



end Go.Proofs.YtfnicgihpelhhaaGreat

namespace Go.Proofs.YtfnicgihpelhhaaGreat
open Go.RowKit

open Go.Maps Go.WideMaps
theorem lawI : Keyed Tryz.prog 3 := int_keyed Tryz.underlying3
theorem zeroU (w : World) : (zeroValue 123).run Tryz.prog w = .ok (.agg #[]) w := by kernel_rfl
theorem mapU : Tryz.prog.underlying 122 = some (.map 3 123) := by kernel_rfl
theorem mkM (w : World) : (Instr.makeMap 122 none).run Tryz.prog w = .ok (.map (some w.heap.size)) (w.alloc (.map #[] 0)) := by
  first | kernel_rfl | (simp [Instr.makeMap, run_underlying mapU, Result.andThen])
/-- A map of marks, of at most n places. -/
def Mks (w : World) (b n : Nat) (f : Int → Bool) : Prop := ∃ D : DataW Unit, w.ownsMap Tryz.prog 3 unitElem b n D ∧ ∀ x : Int, Maps.has D (.int .i64 x) = f x
theorem Mks.made (w : World) : Mks (w.alloc (.map #[] 0)) w.heap.size 0 noF := ⟨_, World.ownsMap_made w Tryz.prog 3 unitElem, fun _x => rfl⟩
theorem Mks.lt {w : World} {b n : Nat} {f : Int → Bool} (h : Mks w b n f) : b < w.heap.size := by
  obtain ⟨D, h, _⟩ := h
  exact h.lt
theorem Mks.below {w w1 : World} {B b n : Nat} {f : Int → Bool} (h : Mks w b n f) (hb : Below B w w1) (hB : b < B) : Mks w1 b n f := by
  obtain ⟨D, ⟨es, clock, h1, h2⟩, h3⟩ := h
  exact ⟨D, ⟨es, clock, by rw [hb.block b hB]; exact h1, h2⟩, h3⟩
theorem Mks.keep {w w1 : World} {b n : Nat} {f : Int → Bool} (h : Mks w b n f) (hb : Below w.heap.size w w1) : Mks w1 b n f := h.below hb h.lt
theorem Mks.kept {w w1 : World} {b n : Nat} {row : Option Nat} {f : Int → Bool} (h : Mks w b n f) (hg : w.grownBy w1 row) (hne : some b ≠ row) : Mks w1 b n f := by
  obtain ⟨D, h1, h3⟩ := h
  exact ⟨D, h1.kept hg hne, h3⟩
theorem Mks.fit {w : World} {b n : Nat} {f g : Int → Bool} (h : Mks w b n f) (e : ∀ x, f x = g x) : Mks w b n g := by
  obtain ⟨D, h, h3⟩ := h
  exact ⟨D, h, fun s => by rw [← e s]; exact h3 s⟩
theorem Mks.more {w : World} {b n m : Nat} {f : Int → Bool} (h : Mks w b n f) (hn : n ≤ m) : Mks w b m f := by
  obtain ⟨D, h, h3⟩ := h
  exact ⟨D, h.mono hn, h3⟩
theorem keyI {x : Int} (h0 : -9223372036854775808 ≤ x) (h1 : x ≤ 9223372036854775807) : keyOf Tryz.prog 3 (.int .i64 x) = some (.int .i64 x) := keyOf_int_mk Tryz.underlying3 (WalkArith.wf_i64 (by omega))
theorem Mks.look {w : World} {b n : Nat} {f : Int → Bool} (h : Mks w b n f) {x : Int} (h0 : -9223372036854775808 ≤ x) (h1 : x ≤ 9223372036854775807) : (Instr.lookup 122 (.map (some b)) (.int .i64 x) true).run Tryz.prog w = .ok (.tuple #[.agg #[], .bool (f x)]) w := by
  obtain ⟨D, h, h3⟩ := h
  obtain ⟨v, ps, hrun, hv⟩ := h.look_ok lawI mapU (zeroU w) unitElem_mk (keyI h0 h1)
  obtain ⟨rfl, _⟩ := unitElem_inv hv
  rw [hrun, h3]
theorem Mks.put {w : World} {b n : Nat} {f : Int → Bool} (h : Mks w b n f) (hn : n < 1000000000000) {x : Int} (h0 : -9223372036854775808 ≤ x) (h1 : x ≤ 9223372036854775807) : ∃ w', (Instr.mapUpdate 122 (.map (some b)) (.int .i64 x) (.agg #[])).run Tryz.prog w = .ok () w' ∧ Mks w' b (n + 1) (setF f x) ∧ w.grownBy w' (some b) := by
  obtain ⟨D, h, h3⟩ := h
  obtain ⟨w', hrun, k1, hg⟩ := h.update lawI mapU (by unfold maxLen; omega) (keyI h0 h1) unitElem_mk
  refine ⟨w', hrun, ⟨_, k1, fun y => ?_⟩, hg⟩
  unfold setF
  cases hy : (y == x) with
  | true =>
    have : y = x := by simpa using hy
    subst this
    exact Maps.has_put_same h.isMap (by simp [WideAt.IsKeyLit]) _
  | false =>
    have hne : (Lit.int .i64 y) ≠ .int .i64 x := fun e => by
      injection e with _ e
      subst e
      simp at hy
    rw [Maps.has_put_other hne, Bool.false_or]
    exact h3 y
theorem wpList_mks_put (w : World) {ops : Array Oper} {rest : List Oper} {o : Oper} {a : Act} {Q : Exit → Act → World → Prop} (hg : o.guard = none) (m x v : Operand) (hop : o.op = Op.mapUpdate 122 m x v)
    (b n : Nat) (f : Int → Bool) (hk : Mks w b n f) (hn : n < 1000000000000) (y : Int) (h0 : -9223372036854775808 ≤ y) (h1 : y ≤ 9223372036854775807) (hm : a.eval m = .map (some b)) (hx : a.eval x = .int .i64 y) (hv : a.eval v = .agg #[])
    (hK : ∀ w', Mks w' b (n + 1) (setF f y) → w.grownBy w' (some b) → wpList Tryz.prog ops Q rest (a.put o.dst undef) w') : wpList Tryz.prog ops Q (o :: rest) a w := by
  refine wpList_plain hg fun K' hK' => ?_
  obtain ⟨w', hrun, k1, k2⟩ := hk.put hn h0 h1
  unfold Oper.wp
  simp [execOp, hop, hm, hx, hv, hrun, Result.andThen]
  exact hK' _ _ (hK w' k1 k2)
theorem wpList_mks_look (w : World) {ops : Array Oper} {rest : List Oper} {o : Oper} {a : Act} {Q : Exit → Act → World → Prop} (hg : o.guard = none) (m x : Operand) (hop : o.op = Op.lookup 122 m x true)
    (b n : Nat) (f : Int → Bool) (hk : Mks w b n f) (y : Int) (h0 : -9223372036854775808 ≤ y) (h1 : y ≤ 9223372036854775807) (hm : a.eval m = .map (some b)) (hx : a.eval x = .int .i64 y)
    (hK : wpList Tryz.prog ops Q rest (a.put o.dst (.tuple #[.agg #[], .bool (f y)])) w) : wpList Tryz.prog ops Q (o :: rest) a w := by
  refine wpList_plain hg fun K' hK' => ?_
  have hrun := hk.look h0 h1
  unfold Oper.wp
  simp [execOp, hop, hm, hx, hrun, Result.andThen]
  exact hK' _ _ hK
set_option maxHeartbeats 1000000 in
theorem mark_any (b n : Nat) (f : Int → Bool) (x : Int) (w : World) (hk : Mks w b n f) (hn : n < 1000000000000) (h0 : -9223372036854775808 ≤ x) (h1 : x ≤ 9223372036854775807) :
    Calls Tryz.prog 69 #[.map (some b), .int .i64 x] w fun e w' => e = .returned (.tuple #[]) ∧ Mks w' b (n + 1) (setF f x) ∧ w.grownBy w' (some b) := by
  have HK : Hid (Mks w b n f) := hk
  clear hk
  go_enter Tryz.func69, Tryz.ntmps69
  go_wp2_with (at_mapUpdate; refine wpList_mks_put _ rfl _ _ _ rfl b n f HK.out hn x h0 h1 rfl rfl rfl ?_; intro w2 hk2 hg2)
  refine bodyPost_end (v := .tuple #[]) (by simp [results, Tryz.results69, go_sem]) rfl ?_
  exact ⟨rfl, hk2, hg2⟩



end Go.Proofs.YtfnicgihpelhhaaGreat

namespace Go.Proofs.YtfnicgihpelhhaaGreat
open Go.RowKit

theorem nth_mem {l : List Int} {k : Nat} (h : k < l.length) : nth l k ∈ l := by
  unfold nth
  rw [List.getD_eq_getElem?_getD, List.getElem?_eq_getElem h]
  exact List.getElem_mem h
theorem mem_nth {l : List Int} {y : Int} (h : y ∈ l) : ∃ k, k < l.length ∧ nth l k = y := by
  obtain ⟨k, hk, e⟩ := List.mem_iff_getElem.1 h
  exact ⟨k, hk, by unfold nth; rw [List.getD_eq_getElem?_getD, List.getElem?_eq_getElem hk]; exact e⟩
theorem plc_rise {f : Int → Bool} {n i j : Nat} (hij : i < j) (hj : j < (plcT f n).length) : nth (plcT f n) i < nth (plcT f n) j := by
  have hp : (plcT f n).Pairwise (· < ·) := by
    unfold plcT
    rw [List.pairwise_map]
    exact (List.pairwise_lt_range.filter _).imp (fun {a b} h => by omega)
  rw [List.pairwise_iff_getElem] at hp
  have := hp i j (by omega) hj hij
  unfold nth
  rw [List.getD_eq_getElem?_getD, List.getD_eq_getElem?_getD, List.getElem?_eq_getElem hj, List.getElem?_eq_getElem (show i < (plcT f n).length by omega)]
  exact this
theorem plc_first {f : Int → Bool} {n : Nat} (hn : 0 < n) (h0 : f 0 = true) : 0 < (plcT f n).length ∧ nth (plcT f n) 0 = 0 := by
  have hm : (0 : Int) ∈ plcT f n := plcT_mem.2 ⟨by omega, by omega, h0⟩
  obtain ⟨k, hk, e⟩ := mem_nth hm
  by_cases hk0 : k = 0
  · subst hk0; exact ⟨hk, e⟩
  · have h1 := plc_rise (f := f) (n := n) (show 0 < k by omega) hk
    have h2 := plcT_mem.1 (nth_mem (show 0 < (plcT f n).length by omega))
    omega
section
variable {f : Int → Bool} {n : Nat}
def blkN (f : Int → Bool) (n : Nat) : List Rel := zipN (plcT f n) (n : Int)
theorem blkN_len : (blkN f n).length = (plcT f n).length := zipN_len _ _
theorem blk_from {k : Nat} (hk : k < (plcT f n).length) : rAt (blkN f n) k = nth (plcT f n) k := (zipN_at _ _ k hk).1
theorem blk_to {k : Nat} (hk : k < (plcT f n).length) : rSym (blkN f n) k = if k + 1 < (plcT f n).length then nth (plcT f n) (k + 1) else (n : Int) := (zipN_at _ _ k hk).2
theorem blk_wide {k : Nat} (hk : k < (plcT f n).length) : rAt (blkN f n) k < rSym (blkN f n) k := by
  rw [blk_from hk, blk_to hk]
  split
  · next h => exact plc_rise (by omega) h
  · exact (plcT_mem.1 (nth_mem hk)).2.1
theorem blk_next {k : Nat} (hk : k + 1 < (plcT f n).length) : rSym (blkN f n) k = rAt (blkN f n) (k + 1) := by
  rw [blk_from hk, blk_to (by omega), if_pos hk]
theorem blk_last {k : Nat} (hk : k + 1 = (plcT f n).length) : rSym (blkN f n) k = (n : Int) := by
  rw [blk_to (by omega), if_neg (by omega)]
theorem blk_of {k : Nat} (hk : k < (plcT f n).length) : ofB (blkN f n) (nth (plcT f n) k) = (k : Int) := by
  refine of_at (by rw [blkN_len]; exact hk) (fun j hj => ?_) ?_
  · unfold hasB
    rw [decide_eq_false_iff_not]
    intro h
    have h2 := h.2
    rw [blk_next (show j + 1 < (plcT f n).length by omega), blk_from (show j + 1 < (plcT f n).length by omega)] at h2
    by_cases e : j + 1 = k
    · rw [e] at h2; omega
    · have := plc_rise (f := f) (n := n) (show j + 1 < k by omega) hk
      omega
  · unfold hasB
    rw [decide_eq_true_eq]
    have := blk_wide hk
    rw [blk_from hk] at this ⊢
    exact ⟨Int.le_refl _, this⟩
theorem blk_begin {y : Int} (h : y ∈ plcT f n) : ∃ k : Nat, k < (blkN f n).length ∧ ofB (blkN f n) y = (k : Int) ∧ rAt (blkN f n) k = y := by
  obtain ⟨k, hk, e⟩ := mem_nth h
  subst e
  exact ⟨k, by rw [blkN_len]; exact hk, blk_of hk, blk_from hk⟩
end
/-- The end of what was gone through. -/
def covAt (l : List Rel) (k : Nat) : Int := if k = 0 then 0 else rSym l (k - 1)
theorem cov_zero (l : List Rel) : covAt l 0 = 0 := rfl
theorem cov_succ (l : List Rel) (k : Nat) : covAt l (k + 1) = rSym l k := by unfold covAt; rw [if_neg (by omega)]; rfl
theorem cov_here {f : Int → Bool} {n k : Nat} (hn : 0 < n) (h0 : f 0 = true) (hk : k < (blkN f n).length) : rAt (blkN f n) k = covAt (blkN f n) k ∧ rAt (blkN f n) k < rSym (blkN f n) k ∧ ofB (blkN f n) (rAt (blkN f n) k) = (k : Int) := by
  rw [blkN_len] at hk
  refine ⟨?_, blk_wide hk, by rw [blk_from hk]; exact blk_of hk⟩
  cases k with
  | zero => rw [blk_from hk, (plc_first hn h0).2]; rfl
  | succ k => rw [cov_succ, blk_next hk]
theorem cov_end {f : Int → Bool} {n : Nat} (hn : 0 < n) (h0 : f 0 = true) : covAt (blkN f n) (blkN f n).length = (n : Int) := by
  have hp := (plc_first hn h0).1
  obtain ⟨k, hk⟩ : ∃ k, (plcT f n).length = k + 1 := ⟨(plcT f n).length - 1, by omega⟩
  rw [blkN_len, hk, cov_succ, blk_last hk.symm]
/-- Every label, and every return site, begins a block. -/
theorem lab_beg {text : List Int} {ent y : Int} (h : y ∈ plcT (labF text ent) text.length) : y ∈ plcT (begF text ent) text.length := by
  rw [plcT_mem] at h ⊢
  exact ⟨h.1, h.2.1, beg_lab h.2.2⟩
theorem sit_beg {text : List Int} {ent y : Int} (h : y ∈ plcT (sitF text) text.length) : y ∈ plcT (begF text ent) text.length := by
  rw [plcT_mem] at h ⊢
  refine ⟨h.1, h.2.1, ?_⟩
  have h2 := h.2.2
  unfold sitF addK noF at h2
  rw [Bool.false_or, anyF_iff] at h2
  obtain ⟨i, hi, e⟩ := h2
  unfold gSit at e
  split at e
  · next h3 =>
    injection e with e
    subst e
    refine beg_end hi ?_
    unfold endsB
    rw [decide_eq_true_eq]
    simp at h3
    omega
  · cases e



end Go.Proofs.YtfnicgihpelhhaaGreat
