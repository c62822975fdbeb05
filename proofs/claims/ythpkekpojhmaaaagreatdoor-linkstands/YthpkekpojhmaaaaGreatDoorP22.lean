/-
  A Global symbol is what its name stands for; one more Wanted symbol changes nothing; no Go in sight. Where objects stand in one text, as plain mathematics; no Go in sight. Rows of numbers as lists lie in memory; an image of its own memory; no Go in sight. What the program's Link and Bases are to be shown.
-/
import Derived.Test.YthpkekpojhmaaaaGreatDoorProg
import Derived.WalkKit
import Derived.WalkSpells
import Derived.WalkLawsBesides
import Derived.RowKit3
import Derived.Below
import Derived.Deep.QuietTactic
import Derived.BigQuiet
import Derived.WalkSmall
import Derived.Laws.Rows
import Derived.Test.YthpkekpojhmaaaaGreatDoorP21
import Derived.Laws.OwnMore
import Derived.Test.YthpkekpojhmaaaaGreatDoorP01
namespace Go.Proofs.YthpkekpojhmaaaaGreatDoor
open Go.RowKit

theorem Res.glob {l : List Ob} (h : Res l) {i k : Nat} (hi : i < l.length) (hk : k < (ob l i).ss.length) (h1 : sKind (ob l i).ss k = 1) : findF (sName (ob l i).ss k) l = some (i, sAt (ob l i).ss k) := by
  have ht := h.tw i hi k hk
  have hn : firstF (sName (ob l i).ss k) 1 l i k = none := by
    unfold twS at ht
    cases hf : firstF (sName (ob l i).ss k) 1 l i k with
    | none => rfl
    | some x =>
      rw [hf, if_pos ⟨by simp [h1], rfl⟩] at ht
      cases ht
  have ho := fst_no hn
  have hlow : ∀ j, j < i → rowW (sName (ob l i).ss k) 1 l j = none := fun j hj => by
    have := ho j (by omega)
    unfold hitO upTo at this
    rw [if_neg (by omega)] at this
    exact this
  have hrow : rowW (sName (ob l i).ss k) 1 l i = some (i, sAt (ob l i).ss k) := by
    have := ho i (by omega)
    unfold hitO upTo at this
    rw [if_pos rfl, show min k (ob l i).ss.length = k by omega] at this
    have hz : rowF (sName (ob l i).ss k) 1 (ob l i).ss k = none := by
      cases hr : rowF (sName (ob l i).ss k) 1 (ob l i).ss k with
      | none => rfl
      | some a => rw [hr] at this; cases this
    unfold rowW rowF
    rw [fst_hit (fst_no hz) (hitS_yes (by simp) (by simp [h1])) hk]
    rfl
  unfold findF
  rw [first_whole, fst_hit hlow hrow hi]
theorem Res.stand {l : List Ob} (h : Res l) {i k : Nat} (hi : i < l.length) (hk : k < (ob l i).ss.length) : ∃ (x : Nat) (y : Int), standS l i k = ((x : Int), y) ∧ x < l.length ∧ 0 ≤ y ∧ y ≤ (ob l x).code.length ∧ (sKind (ob l i).ss k = 0 ∨ sKind (ob l i).ss k = 1 → x = i ∧ y = sAt (ob l i).ss k) ∧ (sKind (ob l i).ss k ≠ 0 → findF (sName (ob l i).ss k) l = some (x, y)) := by
  have hm := may_sym (h.may i hi) k hk
  unfold standS
  by_cases h0 : sKind (ob l i).ss k = 0
  · rw [if_neg (by simp [h0])]
    exact ⟨i, _, rfl, hi, hm.1, hm.2.1, fun _ => ⟨rfl, rfl⟩, fun hn => absurd h0 hn⟩
  · rw [if_pos (by simpa using h0)]
    have hs := h.has hi hk h0
    cases hf : findF (sName (ob l i).ss k) l with
    | none => rw [hf] at hs; cases hs
    | some x =>
      obtain ⟨a, b, c⟩ := h.find hf
      refine ⟨x.1, x.2, rfl, a, b, c, fun ho => ?_, fun _ => rfl⟩
      have h1 : sKind (ob l i).ss k = 1 := by omega
      have := h.glob hi hk h1
      rw [hf] at this
      cases this
      exact ⟨rfl, rfl⟩
/-- One more object, with a Wanted symbol. -/
def moreN : ByteArray := ⟨#[111, 110, 101, 46, 109, 111, 114, 101, 46, 111, 98, 106, 101, 99, 116, 46, 104, 101, 114, 101, 95]⟩
def moreO (nm : ByteArray) : Ob := ⟨moreN, [], 0, [], [(nm, 3, 0)], []⟩
theorem ob_old {l : List Ob} {o : Ob} {i : Nat} (h : i < l.length) : ob (l ++ [o]) i = ob l i := by
  unfold ob
  rw [List.getD_eq_getElem?_getD, List.getD_eq_getElem?_getD, List.getElem?_append_left h]
theorem ob_new (l : List Ob) (o : Ob) : ob (l ++ [o]) l.length = o := by simp [ob]
theorem rowW_old {l : List Ob} {o : Ob} {i : Nat} (h : i < l.length) (nm : ByteArray) (kd : Int) : rowW nm kd (l ++ [o]) i = rowW nm kd l i := by unfold rowW; rw [ob_old h]
theorem rowW_new (l : List Ob) (nm n2 : ByteArray) (kd : Int) (h : kd ≠ 3) : rowW nm kd (l ++ [moreO n2]) l.length = none := by
  unfold rowW
  rw [ob_new]
  have : rowF nm kd (moreO n2).ss (moreO n2).ss.length = none := by
    refine fst_none fun j hj => ?_
    obtain rfl : j = 0 := by simp [moreO] at hj; omega
    refine hitS_no (Or.inr ?_)
    show ((3 : Int) == kd) = false
    simpa using fun e => h e.symm
  rw [this]
  rfl
theorem fstW (l : List Ob) (nm n2 : ByteArray) (kd : Int) (h : kd ≠ 3) : fstN (rowW nm kd (l ++ [moreO n2])) (l ++ [moreO n2]).length = fstN (rowW nm kd l) l.length := by
  rw [show (l ++ [moreO n2]).length = l.length + 1 by simp, fstN, rowW_new l nm n2 kd h, fst_same (fun j hj => rowW_old hj nm kd)]
  cases fstN (rowW nm kd l) l.length <;> rfl
theorem find_more (l : List Ob) (nm n2 : ByteArray) : findF nm (l ++ [moreO n2]) = findF nm l := by
  unfold findF
  rw [first_whole, first_whole, first_whole, first_whole, fstW l nm n2 1 (by decide), fstW l nm n2 2 (by decide)]
theorem first_more (l : List Ob) (nm n2 : ByteArray) {i : Nat} (k : Nat) (hi : i < l.length) : firstF nm 1 (l ++ [moreO n2]) i k = firstF nm 1 l i k := by
  unfold firstF
  rw [show (l ++ [moreO n2]).length = l.length + 1 by simp, show min (l.length + 1) (i + 1) = i + 1 by omega, show min l.length (i + 1) = i + 1 by omega]
  refine fst_same fun j hj => ?_
  unfold hitO upTo
  rw [ob_old (by omega)]
theorem may_more {nm : ByteArray} (h : nameOK nm = true) : MayBe (moreO nm).nm (moreO nm).code (moreO nm).dA (moreO nm).data.length (moreO nm).ss (moreO nm).rs := by
  refine ⟨?_, fun j hj => ?_, fun j hj => absurd hj (Nat.not_lt_zero _), fun j hj => absurd hj (Nat.not_lt_zero _)⟩
  · exact ⟨show nameOK moreN = true by decide +kernel, Nat.zero_le _, by simp [moreO], Nat.le_refl _, Int.le_refl _, show (0 : Int) ≤ 4096 by decide, show ((0 : Nat) : Int) ≤ 4096 - 0 by decide⟩
  · obtain rfl : j = 0 := by simp [moreO] at hj; omega
    unfold symE
    have e : sName (moreO nm).ss 0 = nm := rfl
    have e2 : ofS (moreO nm).ss nm = 0 := by simp [ofS, ofFrom, moreO]
    rw [e, h, e2]
    rfl
theorem Res.more {l : List Ob} (h : Res l) (hl : l.length < 32) {i k : Nat} (hi : i < l.length) (hk : k < (ob l i).ss.length) (h1 : sKind (ob l i).ss k = 1) (hn : ∀ j, j < l.length → (ob l j).nm.toList ≠ moreN.toList) : Res (l ++ [moreO (sName (ob l i).ss k)]) := by
  have hlen : (l ++ [moreO (sName (ob l i).ss k)]).length = l.length + 1 := by simp
  refine ⟨by omega, fun j hj => ?_, fun j hj m hm => ?_, fun j hj m hm => ?_, fun j hj m hm => ?_⟩
  · by_cases he : j < l.length
    · rw [ob_old he]; exact h.may j he
    · obtain rfl : j = l.length := by omega
      rw [ob_new]
      exact may_more (may_names (h.may i hi) k hk).2
  · by_cases he : j < l.length
    · rw [ob_old he, ob_old (by omega)]; exact h.own j he m hm
    · obtain rfl : j = l.length := by omega
      rw [ob_new, ob_old hm]
      exact hn m hm
  · by_cases he : j < l.length
    · rw [ob_old he] at hm
      have := h.tw j he m hm
      unfold twS at this ⊢
      rw [ob_old he, first_more l _ _ m he]
      exact this
    · obtain rfl : j = l.length := by omega
      rw [ob_new] at hm
      obtain rfl : m = 0 := by simp [moreO] at hm; omega
      unfold twS
      rw [ob_new, if_neg]
      rintro ⟨hc, _⟩
      exact absurd hc (by simp [moreO, sKind])
  · by_cases he : j < l.length
    · rw [ob_old he] at hm
      have := h.un j he m hm
      unfold unS at this ⊢
      rw [ob_old he, find_more]
      exact this
    · obtain rfl : j = l.length := by omega
      rw [ob_new] at hm
      obtain rfl : m = 0 := by simp [moreO] at hm; omega
      unfold unS
      rw [ob_new, find_more]
      have e : sName (moreO (sName (ob l i).ss k)).ss 0 = sName (ob l i).ss k := rfl
      rw [e, h.glob hi hk h1, if_neg]
      rintro ⟨_, hc⟩
      cases hc
theorem stand_old {l : List Ob} {n2 : ByteArray} {j m : Nat} (hj : j < l.length) : standS (l ++ [moreO n2]) j m = standS l j m := by
  unfold standS
  rw [ob_old hj, find_more]
theorem rowT_old {l : List Ob} {n2 : ByteArray} {j : Nat} (hj : j < l.length) (m : Nat) : rowT (l ++ [moreO n2]) j m = rowT l j m := by
  unfold rowT
  exact List.map_congr_left fun x _ => stand_old hj
theorem rowT_new {l : List Ob} (_h : Res l) {i k : Nat} (_hi : i < l.length) (_hk : k < (ob l i).ss.length) (h1 : sKind (ob l i).ss k = 1) : rowT (l ++ [moreO (sName (ob l i).ss k)]) l.length 1 = [standS l i k] := by
  show [standS (l ++ [moreO (sName (ob l i).ss k)]) l.length 0] = _
  unfold standS
  rw [ob_new, find_more]
  have e : sName (moreO (sName (ob l i).ss k)).ss 0 = sName (ob l i).ss k := rfl
  have e2 : sKind (moreO (sName (ob l i).ss k)).ss 0 = 3 := rfl
  rw [e, e2, if_pos (by decide), if_pos (by simp [h1])]
theorem resL_ok {l : List Ob} (h : Res l) : resL l = rowsT l l.length := by unfold resL; rw [ok_res h]



end Go.Proofs.YthpkekpojhmaaaaGreatDoor

namespace Go.Proofs.YthpkekpojhmaaaaGreatDoor
open Go.RowKit

theorem wrapI64 {n : Int} (h0 : -9223372036854775808 ≤ n) (h1 : n ≤ 9223372036854775807) : IntKind.i64.wrap n = n := by
  simp [IntKind.wrap, IntKind.bits, IntKind.signed]
  omega
/-- The base of an object. -/
def bsF (l : List Ob) : Nat → Nat
  | 0 => 0
  | i + 1 => bsF l i + (ob l i).code.length + 1
/-- An object whose Trap would be too far. -/
def farO (l : List Ob) (i : Nat) : Option Nat := if 16384 ≤ bsF l i + (ob l i).code.length then some i else none
def farL (l : List Ob) : Option Nat := fstN (farO l) l.length
def farI : Option Nat → Int
  | some i => i
  | none => -1
/-- What Bases tells. -/
def basE (l : List Ob) : Int := if 32 < l.length then 21 else if (farL l).isSome = true then 42 else 0
def basL (l : List Ob) : List Int := if basE l = 0 then (List.range l.length).map fun i => (bsF l i : Int) else []
theorem farO_no {l : List Ob} {i : Nat} (h : ¬ 16384 ≤ bsF l i + (ob l i).code.length) : farO l i = none := by
  unfold farO; rw [if_neg h]
theorem farO_yes {l : List Ob} {i : Nat} (h : 16384 ≤ bsF l i + (ob l i).code.length) : farO l i = some i := by
  unfold farO; rw [if_pos h]
/-- Bases stay small as long as nothing was too far. -/
theorem bsF_small {l : List Ob} {i : Nat} (h : ∀ j, j < i → farO l j = none) : bsF l i ≤ 16384 := by
  cases i with
  | zero => simp [bsF]
  | succ i =>
    have := h i (by omega)
    unfold farO at this
    split at this
    · cases this
    · rw [bsF]; omega
/-- Bases of short codes. -/
theorem bsF_some {l : List Ob} : ∀ {i : Nat}, (∀ j, j < i → (ob l j).code.length ≤ 1048576) → bsF l i ≤ 1048577 * i
  | 0, _ => by simp [bsF]
  | i + 1, h => by
    have a := bsF_some (l := l) (i := i) (fun j hj => h j (by omega))
    have b := h i (by omega)
    rw [bsF]
    omega
/-- What lies in the memory: an address's number, if an object has one there. -/
def putM (m : Nat → Option Int) (a : Nat) (v : Int) (x : Nat) : Option Int := if x = a then some v else m x
def rowM (m : Nat → Option Int) (o : Ob) : Nat → (Nat → Option Int)
  | 0 => m
  | k + 1 => putM (rowM m o k) (o.dA.toNat + k) (nth o.data k)
def memM (l : List Ob) : Nat → (Nat → Option Int)
  | 0 => fun _ => none
  | i + 1 => rowM (memM l i) (ob l i) (ob l i).data.length
def overS (l : List Ob) (i k : Nat) : Option (Int × Int × Int) := if (rowM (memM l i) (ob l i) k ((ob l i).dA.toNat + k)).isSome = true then some (43, i, ((ob l i).dA.toNat + k : Nat)) else none
def badM (l : List Ob) (mem : Nat) (i : Nat) : Option (Int × Int × Int) := if 0 < (ob l i).data.length ∧ (mem : Int) < (ob l i).dA + (ob l i).data.length then some (25, i, 0) else fstN (overS l i) (ob l i).data.length
def datE (l : List Ob) (mem : Nat) : Option (Int × Int × Int) := fstN (badM l mem) l.length
def valM (m : Nat → Option Int) (a : Nat) : Int := (m a).getD 0
def datL (l : List Ob) (mem : Nat) : List Int := (List.range mem).map (valM (memM l l.length))
/-- A word's target, where it has gone. -/
def toF (l : List Ob) (i k : Nat) : Int :=
  if 0 ≤ atR (ob l i).rs k then (bsF l (standS l i (rSym (ob l i).rs (atR (ob l i).rs k).toNat).toNat).1.toNat : Int) + (standS l i (rSym (ob l i).rs (atR (ob l i).rs k).toNat).toNat).2
  else tgV (nth (ob l i).code k) + bsF l i
def wordF (l : List Ob) (i k : Nat) : Int := if isT (nth (ob l i).code k) = true then aimV (nth (ob l i).code k) (toF l i k) else nth (ob l i).code k
def codeF (l : List Ob) (i k : Nat) : List Int := (List.range k).map (wordF l i)
def textF (l : List Ob) : Nat → List Int
  | 0 => []
  | i + 1 => textF l i ++ (codeF l i (ob l i).code.length ++ [0])
theorem codeF_succ (l : List Ob) (i k : Nat) : codeF l i (k + 1) = codeF l i k ++ [wordF l i k] := by simp [codeF, List.range_succ]
theorem codeF_len (l : List Ob) (i k : Nat) : (codeF l i k).length = k := by simp [codeF]
theorem textF_len (l : List Ob) : ∀ n : Nat, (textF l n).length = bsF l n
  | 0 => rfl
  | i + 1 => by rw [textF, bsF, List.length_append, List.length_append, codeF_len, textF_len l i]; simp; omega
/-- Link's error. -/
def lnkE (l : List Ob) (nm : ByteArray) (mem : Int) : Option (Int × Int × Int) :=
  if mem < 0 ∨ 4096 < mem then some (1, 0, 0) else match resE l with
    | some x => some x
    | none => if (findF nm l).isSome = false then some (41, 0, 0) else match farL l with
      | some i => some (42, i, 0)
      | none => datE l mem.toNat
/-- Link's image. -/
def lnkT (l : List Ob) (nm : ByteArray) (mem : Int) : List Int := if (lnkE l nm mem).isSome = true then [] else textF l l.length
def lnkN (l : List Ob) (nm : ByteArray) (mem : Int) : Int := if (lnkE l nm mem).isSome = true then 0 else (bsF l (dfI (findF nm l)) : Int) + dfA (findF nm l)
def lnkM (l : List Ob) (nm : ByteArray) (mem : Int) : List Int := if (lnkE l nm mem).isSome = true then [] else datL l mem.toNat


end Go.Proofs.YthpkekpojhmaaaaGreatDoor

namespace Go.Proofs.YthpkekpojhmaaaaGreatDoor
open Go.RowKit

theorem zany_form {w : World} {b n : Nat} {e : TypeId} {sz : Nat} {v : Value} {xs : List Value} (h : w.ownsRow b e sz v n xs) : ∃ A n c, v = .slice A n c := by
  rcases h.2 with ⟨rfl, _⟩ | ⟨g, cap, cur, rfl, _⟩
  · exact ⟨_, _, _, rfl⟩
  · exact ⟨_, _, _, rfl⟩

/-- A new block reads as it was made. -/
theorem znew_cells (w : World) (l : List Value) (T : TypeId) (h : l.length ≤ 1048576) : ∀ j u, l[j]? = some u → (w.alloc (.cells l.toArray T)).cell? ((⟨w.heap.size, 0, none⟩ : Addr).add j) = some u := by
  have hr : (w.alloc (.cells l.toArray T)).ownsRow w.heap.size T 1 (.slice (some ⟨w.heap.size, 0, none⟩) l.length l.length) l.length l := by
    refine ⟨by omega, Or.inr ⟨w.heap.size, l.length, l.toArray, rfl, Nat.le_refl _, heap_alloc_new _ _, Nat.le_refl _, by unfold maxLen; omega, by simp, ?_⟩⟩
    simp only [Nat.mul_one]
    exact List.take_length
  exact hr.cells rfl
/-- Items as cells. -/
def ziVals (K : IntKind) (zs : List Int) : List Value := zs.map (Value.int K)
theorem ziVals_snoc (K : IntKind) (zs : List Int) (x : Int) : ziVals K (zs ++ [x]) = ziVals K zs ++ [.int K x] := by simp [ziVals]
theorem zadd0 (j i : Nat) : (⟨j, 0, none⟩ : Addr).add i = ⟨j, i, none⟩ := by
  unfold Addr.add
  split <;> simp_all
theorem zbox_set {w : World} {B : Nat} {cs : Array Value} {t : TypeId} (h : w.heap[B]? = some (.cells cs t (0, 0))) (i : Nat) (v : Value) : (w.setCell ⟨B, i, none⟩ v).heap[B]? = some (.cells (cs.setIfInBounds i v) t (0, 0)) := by
  simp [World.setCell, Array.getElem?_modify, h]
theorem zbox_fro {w : World} {B : Nat} {cs : Array Value} {t : TypeId} (h : w.heap[B]? = some (.cells cs t (0, 0))) (i : Nat) : w.frozen? ⟨B, i, none⟩ = false := by
  simp [World.frozen?, h]
theorem zown_form {w : World} {b n : Nat} {e : TypeId} {sz : Nat} {v : Value} {xs : List Value} (h : w.ownsRow b e sz v n xs) : ∃ A c, v = .slice A n c := by
  rcases h.2 with ⟨rfl, rfl⟩ | ⟨g, cap, cur, rfl, _⟩
  · exact ⟨_, _, rfl⟩
  · exact ⟨_, _, rfl⟩
theorem zownsRow_mono {w : World} {b b' : Nat} {e : TypeId} {k n : Nat} {v : Value} {xs : List Value} (h : w.ownsRow b e k v n xs) (hb : b' ≤ b) : w.ownsRow b' e k v n xs := by
  refine ⟨h.1, ?_⟩
  rcases h.2 with h0 | ⟨g, cap, cur, hv, hg, r⟩
  · exact Or.inl h0
  · exact Or.inr ⟨g, cap, cur, hv, Nat.le_trans hb hg, r⟩
theorem ziVals_get {K : IntKind} {l : List Int} {i : Nat} (h : i < l.length) : (ziVals K l)[i]? = some (.int K (nth l i)) := by simp [ziVals, nth, List.getD, h]
theorem zadd_add (j k i : Nat) : ((⟨j, 0, none⟩ : Addr).add k).add i = (⟨j, 0, none⟩ : Addr).add (k + i) := by
  rw [zadd0, zadd0]
  unfold Addr.add
  split
  · next h => subst h; rfl
  · rfl
theorem zrow_ints {w : World} {base c n : Nat} {e : TypeId} {A : Option Addr} {K : IntKind} {l : List Int} (h : w.ownsRow base e 1 (.slice A n c) l.length (ziVals K l)) : IntsAt w A K l := fun i hi => by
  rcases h.2 with ⟨_, h0⟩ | ⟨j, cap, cur, hv, hb, hg, hc, _⟩
  · omega
  · cases hv
    exact ⟨_, rfl, h.cells rfl i _ (ziVals_get hi)⟩
theorem zrow_keep {w w1 : World} {base n : Nat} {e : TypeId} {sz : Nat} {v : Value} {xs : List Value} (h : w.ownsRow base e sz v n xs) (hb : Below w.heap.size w w1) : w1.ownsRow base e sz v n xs := by
  refine h.kept (row := none) ⟨hb.os, hb.tape, hb.output, hb.size, fun k hk _ => hb.block k hk⟩ ?_
  cases hv : v.ownBlock <;> simp
theorem lb_box {w w1 : World} {B : Nat} {cs : Array Value} {t : TypeId} (h : w.heap[B]? = some (.cells cs t (0, 0))) (hb : Below w.heap.size w w1) : w1.heap[B]? = some (.cells cs t (0, 0)) := by
  rw [hb.block B (Array.getElem?_eq_some_iff.1 h).1]; exact h

/-- The two lists of an image, each a row of its own behind base. -/
structure RowsI (w : World) (base : Nat) (A1 A2 : Option Addr) (c1 c2 : Nat) (text mem : List Int) : Prop where
  r1 : w.ownsRow base 78 1 (.slice A1 text.length c1) text.length (ziVals .u32 text)
  r2 : w.ownsRow base 2 1 (.slice A2 mem.length c2) mem.length (ziVals .i64 mem)
theorem RowsI.keep {w w1 : World} {base : Nat} {A1 A2 : Option Addr} {c1 c2 : Nat} {text mem : List Int} (h : RowsI w base A1 A2 c1 c2 text mem) (hb : Below w.heap.size w w1) : RowsI w1 base A1 A2 c1 c2 text mem := ⟨zrow_keep h.r1 hb, zrow_keep h.r2 hb⟩
theorem RowsI.mono {w : World} {base base' : Nat} {A1 A2 : Option Addr} {c1 c2 : Nat} {text mem : List Int} (h : RowsI w base A1 A2 c1 c2 text mem) (hb : base' ≤ base) : RowsI w base' A1 A2 c1 c2 text mem := ⟨zownsRow_mono h.r1 hb, zownsRow_mono h.r2 hb⟩
theorem row_setB {w1 : World} {B base n : Nat} {e : TypeId} {sz : Nat} {v : Value} {xs : List Value} (h : w1.ownsRow base e sz v n xs) (hB : B < base) (i : Nat) (x : Value) : (w1.setCell ⟨B, i, none⟩ x).ownsRow base e sz v n xs := ownsRow_setCell_below h hB x
theorem RowsI.set {w : World} {B base : Nat} {A1 A2 : Option Addr} {c1 c2 : Nat} {text mem : List Int} (h : RowsI w base A1 A2 c1 c2 text mem) (hB : B < base) (i : Nat) (x : Value) : RowsI (w.setCell ⟨B, i, none⟩ x) base A1 A2 c1 c2 text mem := ⟨row_setB h.r1 hB i x, row_setB h.r2 hB i x⟩
theorem no_ints (w : World) (K : IntKind) : IntsAt w none K [] := fun i hi => by simp at hi






theorem zbox3_cell {w : World} {B : Nat} {x y z : Value} {t : TypeId} (h : w.heap[B]? = some (.cells #[x, y, z] t (0, 0))) : w.cell? ⟨B, 0, none⟩ = some x ∧ w.cell? ⟨B, 1, none⟩ = some y ∧ w.cell? ⟨B, 2, none⟩ = some z := by
  refine ⟨?_, ?_, ?_⟩ <;> simp [World.cell?, h]


end Go.Proofs.YthpkekpojhmaaaaGreatDoor

namespace Go.Proofs.YthpkekpojhmaaaaGreatDoor
open Go.RowKit

theorem info3 : ∃ i, Tryz.prog.info? 3 = some i ∧ i.zero = some (.int .i64 0) ∧ i.size = 1 ∧ i.bytes = 8 :=
  ⟨(Tryz.prog.info? 3).get (by kernel_rfl), by kernel_rfl, by kernel_rfl, by kernel_rfl, by kernel_rfl⟩
def basT (l : List Ob) (k : Nat) : List Int := (List.range k).map fun i => (bsF l i : Int)
theorem basT_succ (l : List Ob) (k : Nat) : basT l (k + 1) = basT l k ++ [(bsF l k : Int)] := by simp [basT, List.range_succ]
theorem basT_len (l : List Ob) (k : Nat) : (basT l k).length = k := by simp [basT]
def vI (zs : List Int) : List Value := zs.map (Value.int .i64)
theorem vI_snoc (zs : List Int) (x : Int) : vI (zs ++ [x]) = vI zs ++ [.int .i64 x] := by simp [vI]
theorem one_one {x : Int} : ∀ u ∈ [Value.int .i64 x], u.oneCell' = true := fun u hu => by
  simp only [List.mem_cons, List.not_mem_nil, or_false] at hu
  rw [hu]; rfl
/-- An answer of Bases. -/
def BasP (l : List Ob) (w : World) (e : Ending) (w' : World) : Prop :=
  ∃ (A : Option Addr) (c : Nat), e = .returned (.tuple #[.slice A (basL l).length c, .int .i64 (basE l)]) ∧ w'.ownsRow w.heap.size 3 1 (.slice A (basL l).length c) (basL l).length (vI (basL l)) ∧ Below w.heap.size w w'
theorem bas_err {l : List Ob} {E : Int} (h : basE l = E) (h0 : E ≠ 0) {w w' : World} (hb : Below w.heap.size w w') : BasP l w (.returned (.tuple #[.slice none 0 0, .int .i64 E])) w' := by
  have e : basL l = [] := by unfold basL; rw [if_neg (by rw [h]; exact h0)]
  refine ⟨none, 0, by rw [e, h]; rfl, ?_, hb⟩
  rw [e]
  exact World.ownsRow_nil _ _ _ _
def vU (zs : List Int) : List Value := zs.map (Value.int .u32)
/-- An answer of Link. -/
def LnkP (l : List Ob) (nm : ByteArray) (mem : Int) (w : World) (e : Ending) (w' : World) : Prop :=
  ∃ (A1 A2 : Option Addr) (c1 c2 : Nat), e = .returned (.tuple #[.agg #[.slice A1 (lnkT l nm mem).length c1, .int .i64 (lnkN l nm mem), .slice A2 (lnkM l nm mem).length c2], .int .i64 (t1 (lnkE l nm mem)), .int .i64 (t2 (lnkE l nm mem)), .int .i64 (t3 (lnkE l nm mem))]) ∧ w'.ownsRow w.heap.size 78 1 (.slice A1 (lnkT l nm mem).length c1) (lnkT l nm mem).length (vU (lnkT l nm mem)) ∧ w'.ownsRow w.heap.size 2 1 (.slice A2 (lnkM l nm mem).length c2) (lnkM l nm mem).length (vI (lnkM l nm mem)) ∧ Below w.heap.size w w'
theorem lnk_err {l : List Ob} {nm : ByteArray} {mem : Int} {x : Int × Int × Int} (h : lnkE l nm mem = some x) {w w' : World} (hb : Below w.heap.size w w') : LnkP l nm mem w (.returned (.tuple #[.agg #[.slice none 0 0, .int .i64 0, .slice none 0 0], .int .i64 x.1, .int .i64 x.2.1, .int .i64 x.2.2])) w' := by
  have e1 : lnkT l nm mem = [] := by unfold lnkT; rw [h]; rfl
  have e2 : lnkN l nm mem = 0 := by unfold lnkN; rw [h]; rfl
  have e3 : lnkM l nm mem = [] := by unfold lnkM; rw [h]; rfl
  refine ⟨none, none, 0, 0, by rw [e1, e2, e3, h]; rfl, ?_, ?_, hb⟩
  · rw [e1]; exact World.ownsRow_nil _ _ _ _
  · rw [e3]; exact World.ownsRow_nil _ _ _ _
theorem img_keep {w0 w1 : World} {g : Nat} (h : w0.heap[g]? = some (.cells #[.slice none 0 0, .int .i64 0, .slice none 0 0] 29 (0, 0))) (hb : Below w0.heap.size w0 w1) : w1.cell? ⟨g, 0, none⟩ = some (.slice none 0 0) ∧ w1.cell? ⟨g, 1, none⟩ = some (.int .i64 0) ∧ w1.cell? ⟨g, 2, none⟩ = some (.slice none 0 0) ∧ w1.frozen? ⟨g, 0, none⟩ = false ∧ w1.frozen? ⟨g, 1, none⟩ = false ∧ w1.frozen? ⟨g, 2, none⟩ = false := by
  have hg : g < w0.heap.size := (Array.getElem?_eq_some_iff.1 h).1
  have h1 : w1.heap[g]? = some (.cells #[.slice none 0 0, .int .i64 0, .slice none 0 0] 29 (0, 0)) := by rw [hb.block g hg]; exact h
  refine ⟨?_, ?_, ?_, ?_, ?_, ?_⟩ <;> simp [World.cell?, World.frozen?, h1]
theorem farI_none : farI none = -1 := rfl
theorem lnk_arg {l : List Ob} {nm : ByteArray} {mem : Int} (h : mem < 0 ∨ 4096 < mem) : lnkE l nm mem = some (1, 0, 0) := by unfold lnkE; rw [if_pos h]
theorem lnk_res {l : List Ob} {nm : ByteArray} {mem : Int} {x : Int × Int × Int} (h : ¬ (mem < 0 ∨ 4096 < mem)) (hx : resE l = some x) : lnkE l nm mem = some x := by unfold lnkE; rw [if_neg h, hx]
theorem lnk_ent {l : List Ob} {nm : ByteArray} {mem : Int} (h : ¬ (mem < 0 ∨ 4096 < mem)) (hx : resE l = none) (hf : findF nm l = none) : lnkE l nm mem = some (41, 0, 0) := by unfold lnkE; rw [if_neg h, hx, hf]; rfl
theorem lnk_far {l : List Ob} {nm : ByteArray} {mem : Int} {x : Nat × Int} {i : Nat} (h : ¬ (mem < 0 ∨ 4096 < mem)) (hx : resE l = none) (hf : findF nm l = some x) (hi : farL l = some i) : lnkE l nm mem = some (42, (i : Int), 0) := by unfold lnkE; rw [if_neg h, hx, hf, hi]; rfl
theorem lnk_dat {l : List Ob} {nm : ByteArray} {mem : Int} {x : Nat × Int} (h : ¬ (mem < 0 ∨ 4096 < mem)) (hx : resE l = none) (hf : findF nm l = some x) (hi : farL l = none) : lnkE l nm mem = datE l mem.toNat := by unfold lnkE; rw [if_neg h, hx, hf, hi]; rfl
theorem res_none {l : List Ob} {x : Int × Int × Int} (h : resE l = some x) : ¬ x.1 = 0 := by
  unfold resE at h
  cases hc : chkL l with
  | some y => rw [hc] at h; cases h; exact chkL_errs l _ hc
  | none => rw [hc] at h; exact namL_errs l _ h
theorem dat_err {l : List Ob} {mem : Nat} {x : Int × Int × Int} (h : datE l mem = some x) : ¬ x.1 = 0 := by
  obtain ⟨k, _, hk, _⟩ := fst_some h
  unfold badM at hk
  split at hk
  · cases hk; simp
  · obtain ⟨j, _, hj, _⟩ := fst_some hk
    unfold overS at hj
    split at hj
    · cases hj; simp
    · cases hj
theorem own_intsV {w : World} {b n c : Nat} {e : TypeId} {A : Option Addr} {K : IntKind} {zs : List Int} (h : w.ownsRow b e 1 (.slice A n c) n (zs.map (Value.int K))) : IntsAt w A K zs := fun i hi => by
  have hn : n = zs.length := by have := h.1; simp at this; omega
  rcases h.2 with ⟨_, h0⟩ | ⟨g, cap, cur, hv, _⟩
  · omega
  · cases hv
    exact ⟨_, rfl, h.cells rfl i _ (by rw [List.getElem?_map, List.getElem?_eq_getElem hi]; simp [nth, hi])⟩
theorem own_some {w : World} {b n c : Nat} {e : TypeId} {A : Option Addr} {xs : List Value} (h : w.ownsRow b e 1 (.slice A n c) n xs) (hn : 0 < n) : ∃ g, A = some ⟨g, 0, none⟩ := by
  rcases h.2 with ⟨_, h0⟩ | ⟨g, cap, cur, hv, _⟩
  · omega
  · cases hv; exact ⟨g, rfl⟩
theorem all_u {zs : List Int} : ∀ u ∈ vU zs, u.oneCell' = true := fun u hu => by
  simp only [vU, List.mem_map] at hu
  obtain ⟨x, _, rfl⟩ := hu
  rfl
theorem vU_app (xs ys : List Int) : vU (xs ++ ys) = vU xs ++ vU ys := by simp [vU]
theorem blkA {w w1 : World} {g : Nat} {o : Obj} (h : w.heap[g]? = some o) (hb : Below w.heap.size w w1) : w1.heap[g]? = some o := by
  rw [hb.block g (Array.getElem?_eq_some_iff.1 h).1]; exact h
theorem box_far {w w1 : World} {g b n : Nat} {o : Obj} {e : TypeId} {sz : Nat} {v : Value} {xs : List Value} (h : w.heap[g]? = some o) (hv : w.ownsRow b e sz v n xs) (hg : w.grownBy w1 v.ownBlock) (hb : g < b) : w1.heap[g]? = some o := by
  rw [hg.block g (Array.getElem?_eq_some_iff.1 h).1 (fun e => by have := (hv.lt g e.symm).1; omega)]; exact h
theorem grown_cell (w : World) (g k : Nat) (u : Value) : w.grownBy (w.setCell ⟨g, k, none⟩ u) (some g) := ⟨rfl, rfl, rfl, by simp [World.setCell], fun i _ hi => Below.heap_setCell _ _ _ _ (fun e => hi (by rw [e]))⟩
theorem own_set3 {w : World} {b n g : Nat} {e : TypeId} {sz : Nat} {v : Value} {xs : List Value} (h : w.ownsRow b e sz v n xs) (hg : g < b) {i j k : Nat} {u1 u2 u3 : Value} : (((w.setCell ⟨g, i, none⟩ u1).setCell ⟨g, j, none⟩ u2).setCell ⟨g, k, none⟩ u3).ownsRow b e sz v n xs := by
  have far : ∀ {w1 : World}, w1.ownsRow b e sz v n xs → ∀ c, v.ownBlock = some c → some g ≠ some c := fun h1 c hc e => by
    cases e
    have := (h1.lt _ hc).1
    omega
  have a := own_apart h (grown_cell w g i u1) (far h)
  have a2 := own_apart a (grown_cell _ g j u2) (far a)
  exact own_apart a2 (grown_cell _ g k u3) (far a2)
theorem bas_ok {l : List Ob} (h : Res l) (hf : farL l = none) : basE l = 0 ∧ basL l = basT l l.length := by
  have e : basE l = 0 := by
    unfold basE
    rw [if_neg (by have := h.few; omega), hf]
    rfl
  exact ⟨e, by unfold basL; rw [if_pos e]; rfl⟩
theorem far_len {l : List Ob} (h : farL l = none) : bsF l l.length ≤ 16384 := bsF_small fun j hj => fst_no h j hj
theorem lnkT_len (l : List Ob) (nm : ByteArray) (mem : Int) : (lnkT l nm mem).length ≤ 16384 := by
  unfold lnkT
  split
  · simp
  · rename_i h
    rw [textF_len]
    refine far_len ?_
    unfold lnkE at h
    split at h
    · simp at h
    · split at h
      · simp at h
      · split at h
        · simp at h
        · split at h
          · simp at h
          · assumption
theorem lnkM_len (l : List Ob) (nm : ByteArray) (mem : Int) : (lnkM l nm mem).length ≤ 4096 := by
  unfold lnkM
  split
  · simp
  · rename_i h
    unfold datL
    rw [List.length_map, List.length_range]
    unfold lnkE at h
    split at h
    · simp at h
    · omega
theorem basL_len (l : List Ob) : (basL l).length ≤ 32 := by
  unfold basL
  split
  · rename_i h
    rw [List.length_map, List.length_range]
    unfold basE at h
    split at h
    · simp at h
    · omega
  · simp
/-- What the program's Link and Bases are to be shown. -/
def ProgL : Prop := ∀ (A : Option Addr) (ca : Nat) (q : Nat → Pl) (l : List Ob) (nm : ByteArray) (mem : Int) (w : World), ObsIn w A q l → nm.size ≤ 65536 → Calls Tryz.prog 8 #[.slice A l.length ca, .string nm, .int .i64 mem] w (LnkP l nm mem w)
def ProgB : Prop := ∀ (A : Option Addr) (ca : Nat) (q : Nat → Pl) (l : List Ob) (w : World), ObsIn w A q l → Calls Tryz.prog 10 #[.slice A l.length ca] w (BasP l w)


end Go.Proofs.YthpkekpojhmaaaaGreatDoor
