/-
  What the statements need of the program: Of, Same and Count of number, by what they answer. What is known of a word behind the first k places: the number of the first one that is the same; plain. A map of numbers by words; a set that is counted: both in memory. What the statements need of the program: Reads, Writes, Links, Alone, All, each by what it answers.
-/
import Derived.Test.YtokhclindfipbaaGreatDoorProg
import Derived.WalkKit
import Derived.WalkSpells
import Derived.WalkLawsBesides
import Derived.RowKit3
import Derived.Below
import Derived.Deep.QuietTactic
import Derived.BigQuiet
import Derived.WalkSmall
import Derived.Laws.Rows
import Derived.Test.YtokhclindfipbaaGreatDoorPa03
import Derived.Test.YtokhclindfipbaaGreatDoorPa28
import Derived.Test.YtokhclindfipbaaGreatDoorPa06
import Derived.Maps.Views
import Derived.Test.YtokhclindfipbaaGreatDoorPa18
import Derived.Deep.RegionHeld3
import Derived.Test.YtokhclindfipbaaGreatDoorPa24
import Derived.Test.YtokhclindfipbaaGreatDoorPa27
namespace Go.Proofs.YtokhclindfipbaaGreatDoor
open Go.RowKit

def NofR (text : List Int) (w : World) (e : Ending) (w' : World) : Prop := ∃ (A : Option Addr) (c : Nat), e = .returned (.tuple #[.slice A text.length c, .int .i64 0]) ∧ w'.ownsRow w.heap.size 3 1 (.slice A text.length c) text.length (iVals .i64 (numL text text.length)) ∧ Below w.heap.size w w'
def NofN (E : Int) (w : World) (e : Ending) (w' : World) : Prop := ∃ (A : Option Addr) (c : Nat), e = .returned (.tuple #[.slice A 0 c, .int .i64 E]) ∧ w'.ownsRow w.heap.size 3 1 (.slice A 0 c) 0 [] ∧ Below w.heap.size w w'
structure NofOK : Prop where
  ok : ∀ (A1 A2 : Option Addr) (c1 ml c2 : Nat) (ent : Int) (text : List Int) (w : World), IntsAt w A1 .u32 text → (∀ i, i < text.length → 0 ≤ nth text i ∧ nth text i < 4294967296) → text.length ≤ 1048576 → ml ≤ 1048576 → (checkI text ml ent).1 = 0 →
    Calls Tryz.prog 60 #[.agg #[.slice A1 text.length c1, .int .i64 ent, .slice A2 ml c2]] w (NofR text w)
  no : ∀ (A1 A2 : Option Addr) (c1 ml c2 : Nat) (ent : Int) (text : List Int) (w : World), IntsAt w A1 .u32 text → (∀ i, i < text.length → 0 ≤ nth text i ∧ nth text i < 4294967296) → text.length ≤ 1048576 → ml ≤ 1048576 → (checkI text ml ent).1 ≠ 0 →
    Calls Tryz.prog 60 #[.agg #[.slice A1 text.length c1, .int .i64 ent, .slice A2 ml c2]] w (NofN (checkI text ml ent).1 w)
def SameOK : Prop := ∀ (v u : Int) (w : World), 0 ≤ v → v < 4294967296 → 0 ≤ u → u < 4294967296 → Calls Tryz.prog 100 #[.int .u32 v, .int .u32 u] w fun e w' => e = .returned (.bool (smB v u)) ∧ Below w.heap.size w w'


end Go.Proofs.YtokhclindfipbaaGreatDoor

namespace Go.Proofs.YtokhclindfipbaaGreatDoor
open Go.RowKit

def knw (text : List Int) (k : Nat) (v : Int) : Option Nat := ((List.range k).find? fun j => smB (nth text j) v).map (numN text)
theorem knw_zero (text : List Int) (v : Int) : knw text 0 v = none := rfl
theorem knw_succ (text : List Int) (k : Nat) (v : Int) : knw text (k + 1) v = (knw text k v).or (if smB (nth text k) v = true then some (numN text k) else none) := by
  unfold knw
  rw [List.range_succ, List.find?_append]
  cases (List.range k).find? (fun j => smB (nth text j) v) with
  | some j => rfl
  | none =>
    rw [Option.none_or, Option.map_none, Option.none_or]
    by_cases h : smB (nth text k) v = true
    · rw [if_pos h]; simp [h]
    · rw [if_neg h]; simp [h]
theorem knw_new {text : List Int} {k : Nat} (h : fstP text k = k) : knw text k (nth text k) = none := by
  rcases fstP_cases text k with c | c
  · unfold knw
    have : (List.range k).find? (fun j => smB (nth text j) (nth text k)) = none := by
      rw [List.find?_eq_none]
      intro j hj
      rw [c.2 j (by simpa using hj)]; simp
    rw [this]; rfl
  · omega
theorem knw_old {text : List Int} {k : Nat} (h : fstP text k ≠ k) : knw text k (nth text k) = some (numN text k) := by
  rcases fstP_cases text k with c | ⟨c1, c2, c3⟩
  · exact absurd c.1 h
  · unfold knw
    have : (List.range k).find? (fun j => smB (nth text j) (nth text k)) = some (fstP text k) := by
      rw [List.find?_range_eq_some]
      exact ⟨c2, by simpa using c1, fun j hj => by rw [c3 j hj]; rfl⟩
    rw [this]
    show some (numN text (fstP text k)) = some (numN text k)
    unfold numN
    rw [fstP_new]
/-- A word that is known: nothing more is known behind it. -/
theorem knw_known {text : List Int} {k : Nat} (h : fstP text k ≠ k) (v : Int) : knw text (k + 1) v = knw text k v := by
  rw [knw_succ]
  by_cases c : smB (nth text k) v = true
  · rw [← (smB_iff.1 c).1, knw_old h]; rfl
  · rw [if_neg c, Option.or_none]
theorem rnk_known {text : List Int} {k : Nat} (h : fstP text k ≠ k) : rnk text (k + 1) = rnk text k := by rw [rnk_step, if_neg h]
theorem rnk_new {text : List Int} {k : Nat} (h : fstP text k = k) : rnk text (k + 1) = rnk text k + 1 := by rw [rnk_step, if_pos h]
/-- A word that is alone is not known behind. -/
theorem knw_alone {text : List Int} {k : Nat} (h : alB (nth text k) = true) (v : Int) : knw text (k + 1) v = knw text k v := by
  rw [knw_succ, if_neg, Option.or_none]
  intro c
  rw [(smB_iff.1 c).2] at h
  cases h
theorem alone_new {text : List Int} {k : Nat} (h : alB (nth text k) = true) : fstP text k = k := by
  rcases fstP_cases text k with c | ⟨_, c2, _⟩
  · exact c.1
  · rw [smB_iff] at c2
    rw [← c2.1, c2.2] at h
    cases h
/-- A new word that is not alone is known behind. -/
theorem knw_put {text : List Int} {k : Nat} (h : fstP text k = k) (ha : alB (nth text k) = false) (v : Int) : knw text (k + 1) v = if v = nth text k then some (rnk text k) else knw text k v := by
  rw [knw_succ]
  by_cases c : v = nth text k
  · rw [if_pos c, c, knw_new h, if_pos (smB_iff.2 ⟨rfl, ha⟩), num_new h]; rfl
  · rw [if_neg c, if_neg (fun x => c (smB_iff.1 x).1.symm), Option.or_none]
theorem sm_self (v : Int) : smB v v = !alB v := by
  unfold smB
  rw [beq_self_eq_true, Bool.true_and]
/-- Which numbers the first k are; how many. -/
def metF (l : List Int) (k : Nat) (x : Int) : Bool := (List.range k).any fun j => nth l j == x
theorem metF_zero (l : List Int) (x : Int) : metF l 0 x = false := rfl
theorem metF_succ (l : List Int) (k : Nat) (x : Int) : metF l (k + 1) x = (metF l k x || (nth l k == x)) := by
  unfold metF
  rw [List.range_succ, List.any_append]
  simp
theorem met_frs (l : List Int) (k : Nat) : metF l k (nth l k) = !frsB l k := by
  unfold metF frsB
  rw [Bool.eq_iff_iff]
  simp



end Go.Proofs.YtokhclindfipbaaGreatDoor

namespace Go.Proofs.YtokhclindfipbaaGreatDoor
open Go.RowKit

open Go.Maps Go.WideMaps
theorem lawU : Keyed Tryz.prog 93 := int_keyed Tryz.underlying93
theorem mapUn : Tryz.prog.underlying 155 = some (.map 93 3) := by kernel_rfl
theorem zeroN (w : World) : (zeroValue 3).run Tryz.prog w = .ok (.int .i64 0) w := by kernel_rfl
theorem keyU {x : Int} (h0 : 0 ≤ x) (h1 : x < 4294967296) : keyOf Tryz.prog 93 (.int .u32 x) = some (.int .u32 x) := keyOf_int_mk Tryz.underlying93 (WalkArith.wf_u32 (by omega))
theorem elN {x : Int} (h0 : 0 ≤ x) (h1 : x ≤ 1000000000000) : plainElem (H := Unit) Tryz.prog 3 (.int .i64 x) = some (.lit (.int .i64 x), []) := plainElem_int Tryz.underlying3 (WalkArith.wf_i64 (by omega))
def nV (x : Option Nat) : Int := ((x.getD 0 : Nat) : Int)
/-- A map of numbers by words, of at most n words. -/
def Nms (w : World) (b n : Nat) (f : Int → Option Nat) : Prop := ∃ D : DataW Unit, w.ownsMap Tryz.prog 93 (plainElem Tryz.prog 3) b n D ∧ ∀ x : Int, Maps.has D (.int .u32 x) = (f x).isSome ∧ D.atKey (.int .u32 x) (.lit (.int .i64 0)) = .lit (.int .i64 (nV (f x)))
theorem Nms.made (w : World) : Nms (w.alloc (.map #[] 0)) w.heap.size 0 (fun _ => none) := ⟨_, World.ownsMap_made w Tryz.prog 93 (plainElem Tryz.prog 3), fun _x => ⟨rfl, rfl⟩⟩
theorem Nms.lt {w : World} {b n : Nat} {f : Int → Option Nat} (h : Nms w b n f) : b < w.heap.size := by
  obtain ⟨D, h, _⟩ := h
  exact h.lt
theorem Nms.same {w w1 : World} {b n : Nat} {f : Int → Option Nat} (h : Nms w b n f) (e : w1.heap[b]? = w.heap[b]?) : Nms w1 b n f := by
  obtain ⟨D, ⟨es, clock, h1, h2⟩, h3⟩ := h
  exact ⟨D, ⟨es, clock, by rw [e]; exact h1, h2⟩, h3⟩
theorem Nms.keep {w w1 : World} {b n : Nat} {f : Int → Option Nat} (h : Nms w b n f) (hb : Below w.heap.size w w1) : Nms w1 b n f := h.same (hb.block b h.lt)
theorem Nms.fit {w : World} {b n : Nat} {f g : Int → Option Nat} (h : Nms w b n f) (e : ∀ x, f x = g x) : Nms w b n g := by
  obtain ⟨D, h, h3⟩ := h
  exact ⟨D, h, fun s => by rw [← e s]; exact h3 s⟩
theorem Nms.more {w : World} {b n m : Nat} {f : Int → Option Nat} (h : Nms w b n f) (hn : n ≤ m) : Nms w b m f := by
  obtain ⟨D, h, h3⟩ := h
  exact ⟨D, h.mono hn, h3⟩
set_option maxRecDepth 100000 in
theorem Nms.look {w : World} {b n : Nat} {f : Int → Option Nat} (h : Nms w b n f) {x : Int} (h0 : 0 ≤ x) (h1 : x < 4294967296) : (Instr.lookup 155 (.map (some b)) (.int .u32 x) true).run Tryz.prog w = .ok (.tuple #[.int .i64 (nV (f x)), .bool (f x).isSome]) w := by
  obtain ⟨D, h, h3⟩ := h
  obtain ⟨v, ps, hrun, hv⟩ := h.look_ok lawU mapUn (zeroN w) (elN (by omega) (by omega)) (keyU h0 h1)
  rw [(h3 x).2] at hv
  obtain ⟨a, rfl, e, _⟩ := plainElem_int_inv Tryz.underlying3 hv
  injection e with e _
  injection e with e
  injection e with _ e
  rw [hrun, (h3 x).1, e]
set_option maxRecDepth 100000 in
theorem Nms.put {w : World} {b n : Nat} {f : Int → Option Nat} (h : Nms w b n f) (hn : n < 1000000000000) {x : Int} (h0 : 0 ≤ x) (h1 : x < 4294967296) (m : Nat) (hm : m ≤ 1000000000000) : ∃ w', (Instr.mapUpdate 155 (.map (some b)) (.int .u32 x) (.int .i64 (m : Int))).run Tryz.prog w = .ok () w' ∧ Nms w' b (n + 1) (fun y => if y = x then some m else f y) ∧ w.grownBy w' (some b) := by
  obtain ⟨D, h, h3⟩ := h
  obtain ⟨w', hrun, k1, hg⟩ := h.update lawU mapUn (by unfold maxLen; omega) (keyU h0 h1) (elN (x := (m : Int)) (by omega) (by omega))
  refine ⟨w', hrun, ⟨_, k1, fun y => ?_⟩, hg⟩
  show _ = (if y = x then some m else f y).isSome ∧ _ = DataW.lit (.int .i64 (nV (if y = x then some m else f y)))
  by_cases hy : y = x
  · subst hy
    rw [if_pos rfl]
    exact ⟨Maps.has_put_same h.isMap (by simp [WideAt.IsKeyLit]) _, Maps.atKey_put_same h.isMap (by simp [WideAt.IsKeyLit]) _ _⟩
  · rw [if_neg hy]
    have hne : (Lit.int .u32 y) ≠ .int .u32 x := fun e => by
      injection e with _ e
      exact hy e
    rw [Maps.has_put_other hne, Maps.atKey_put_other hne]
    exact h3 y
theorem mkNm (w : World) (c : Option Value) : c = none → (Instr.makeMap 155 none).run Tryz.prog w = .ok (.map (some w.heap.size)) (w.alloc (.map #[] 0)) := fun _ => by
  first | kernel_rfl | (simp [Instr.makeMap, run_underlying mapUn, Result.andThen])
theorem wpList_nms_look (w : World) {ops : Array Oper} {rest : List Oper} {o : Oper} {a : Act} {Q : Exit → Act → World → Prop} (hg : o.guard = none) (m x : Operand) (hop : o.op = Op.lookup 155 m x true)
    (b n : Nat) (f : Int → Option Nat) (hk : Nms w b n f) (y : Int) (h0 : 0 ≤ y) (h1 : y < 4294967296) (hm : a.eval m = .map (some b)) (hx : a.eval x = .int .u32 y)
    (hK : wpList Tryz.prog ops Q rest (a.put o.dst (.tuple #[.int .i64 (nV (f y)), .bool (f y).isSome])) w) : wpList Tryz.prog ops Q (o :: rest) a w := by
  refine wpList_plain hg fun K' hK' => ?_
  have hrun := hk.look h0 h1
  unfold Oper.wp
  simp [execOp, hop, hm, hx, hrun, Result.andThen]
  exact hK' _ _ hK
theorem wpList_nms_put (w : World) {ops : Array Oper} {rest : List Oper} {o : Oper} {a : Act} {Q : Exit → Act → World → Prop} (hg : o.guard = none) (m x v : Operand) (hop : o.op = Op.mapUpdate 155 m x v)
    (b n : Nat) (f : Int → Option Nat) (hk : Nms w b n f) (hn : n < 1000000000000) (y : Int) (h0 : 0 ≤ y) (h1 : y < 4294967296) (z : Nat) (hz : z ≤ 1000000000000) (hm : a.eval m = .map (some b)) (hx : a.eval x = .int .u32 y) (hv : a.eval v = .int .i64 (z : Int))
    (hK : ∀ w', Nms w' b (n + 1) (fun u => if u = y then some z else f u) → w.grownBy w' (some b) → wpList Tryz.prog ops Q rest (a.put o.dst undef) w') : wpList Tryz.prog ops Q (o :: rest) a w := by
  refine wpList_plain hg fun K' hK' => ?_
  obtain ⟨w', hrun, k1, k2⟩ := hk.put hn h0 h1 z hz
  unfold Oper.wp
  simp [execOp, hop, hm, hx, hv, hrun, Result.andThen]
  exact hK' _ _ (hK w' k1 k2)
/-- A set of numbers, with how many there are. -/
def Cts (w : World) (b n : Nat) (f : Int → Bool) (c : Nat) : Prop := ∃ D : DataW Unit, w.ownsMap Tryz.prog 3 unitElem b n D ∧ (∀ x : Int, Maps.has D (.int .i64 x) = f x) ∧ Maps.size D = c
theorem mapC : Tryz.prog.underlying 174 = some (.map 3 176) := by kernel_rfl
theorem Cts.made (w : World) : Cts (w.alloc (.map #[] 0)) w.heap.size 0 (fun _ => false) 0 := ⟨_, World.ownsMap_made w Tryz.prog 3 unitElem, fun _x => rfl, rfl⟩
theorem Cts.fit {w : World} {b n c : Nat} {f g : Int → Bool} (h : Cts w b n f c) (e : ∀ x, f x = g x) : Cts w b n g c := by
  obtain ⟨D, h, h3, h4⟩ := h
  exact ⟨D, h, fun s => by rw [← e s]; exact h3 s, h4⟩
theorem Cts.alloc {w : World} {b n c : Nat} {f : Int → Bool} (h : Cts w b n f c) (o : Obj) : Cts (w.alloc o) b n f c := by
  obtain ⟨D, h, h3⟩ := h
  exact ⟨D, h.alloc o, h3⟩
theorem Cts.drew {w : World} {b n c : Nat} {f : Int → Bool} (h : Cts w b n f c) : Cts w.drew b n f c := by
  obtain ⟨D, h, h3⟩ := h
  exact ⟨D, h.drew, h3⟩
theorem Cts.len {w : World} {b n c : Nat} {f : Int → Bool} (h : Cts w b n f c) (ty : TypeId) : (Builtin.len_ #[174] ty #[.map (some b)]).run Tryz.prog w = .ok (.int .i64 (c : Int)) w := by
  obtain ⟨D, h, _, rfl⟩ := h
  exact h.len mapC ty
theorem mkCt (w : World) : (Instr.makeMap 174 none).run Tryz.prog w = .ok (.map (some w.heap.size)) (w.alloc (.map #[] 0)) := by
  first | kernel_rfl | (simp [Instr.makeMap, run_underlying mapC, Result.andThen])
theorem Cts.put {w : World} {b n c : Nat} {f : Int → Bool} (h : Cts w b n f c) (hn : n < 1000000000000) {x : Int} (h0 : -9223372036854775808 ≤ x) (h1 : x ≤ 9223372036854775807) : ∃ w', (Instr.mapUpdate 174 (.map (some b)) (.int .i64 x) (.agg #[])).run Tryz.prog w = .ok () w' ∧ Cts w' b (n + 1) (fun y => f y || (x == y)) (if f x = true then c else c + 1) ∧ w.grownBy w' (some b) := by
  obtain ⟨D, h, h3, h4⟩ := h
  obtain ⟨w', hrun, k1, hg⟩ := h.update lawI mapC (by unfold maxLen; omega) (keyI h0 h1) unitElem_mk
  refine ⟨w', hrun, ⟨_, k1, fun y => ?_, ?_⟩, hg⟩
  · show _ = (f y || (x == y))
    cases hy : (x == y) with
    | true =>
      have : x = y := by simpa using hy
      subst this
      rw [Bool.or_true]
      exact Maps.has_put_same h.isMap (by simp [WideAt.IsKeyLit]) _
    | false =>
      have hne : (Lit.int .i64 y) ≠ .int .i64 x := fun e => by
        injection e with _ e
        subst e
        simp at hy
      rw [Maps.has_put_other hne, Bool.or_false]
      exact h3 y
  · rw [Maps.size_put (h.tidy lawI), h3, h4]
theorem wpList_cts_put (w : World) {ops : Array Oper} {rest : List Oper} {o : Oper} {a : Act} {Q : Exit → Act → World → Prop} (hg : o.guard = none) (m x v : Operand) (hop : o.op = Op.mapUpdate 174 m x v)
    (b n c : Nat) (f : Int → Bool) (hk : Cts w b n f c) (hn : n < 1000000000000) (y : Int) (h0 : -9223372036854775808 ≤ y) (h1 : y ≤ 9223372036854775807) (hm : a.eval m = .map (some b)) (hx : a.eval x = .int .i64 y) (hv : a.eval v = .agg #[])
    (hK : ∀ w', Cts w' b (n + 1) (fun u => f u || (y == u)) (if f y = true then c else c + 1) → w.grownBy w' (some b) → wpList Tryz.prog ops Q rest (a.put o.dst undef) w') : wpList Tryz.prog ops Q (o :: rest) a w := by
  refine wpList_plain hg fun K' hK' => ?_
  obtain ⟨w', hrun, k1, k2⟩ := hk.put hn h0 h1
  unfold Oper.wp
  simp [execOp, hop, hm, hx, hv, hrun, Result.andThen]
  exact hK' _ _ (hK w' k1 k2)



end Go.Proofs.YtokhclindfipbaaGreatDoor

namespace Go.Proofs.YtokhclindfipbaaGreatDoor
open Go.RowKit

def AloneOK : Prop := ∀ (v : Int) (w : World), 0 ≤ v → v < 4294967296 → Calls Tryz.prog 113 #[.int .u32 v] w fun e w' => e = .returned (.bool (alB v)) ∧ Below w.heap.size w w'



end Go.Proofs.YtokhclindfipbaaGreatDoor
