/-
  The names that were learnt, as plain mathematics; no Go in sight. A map of meanings in memory: what it knows of each name. learn: a name is kept.
-/
import Derived.Test.YtiihfkjgdhfmiaaProg
import Derived.WalkKit
import Derived.WalkSpells
import Derived.WalkLawsBesides
import Derived.RowKit3
import Derived.Below
import Derived.Deep.QuietTactic
import Derived.BigQuiet
import Derived.WalkSmall
import Derived.Laws.Rows
import Derived.Test.YtiihfkjgdhfmiaaSB05
import Derived.Test.YtiihfkjgdhfmiaaSB06
import Derived.Maps.OwnSet
import Derived.Maps.Own
import Derived.Maps.OwnOps
namespace Go.Proofs.Ytiihfkjgdhfmiaa
open Go.RowKit

theorem fst_congr {β : Type} {f g : Nat → Option β} : ∀ {n : Nat}, (∀ j, j < n → f j = g j) → fstN f n = fstN g n
  | 0, _ => rfl
  | n + 1, h => by rw [fstN, fstN, fst_congr (fun j hj => h j (by omega)), h n (by omega)]
theorem rowF_succ (nm : ByteArray) (kd : Int) (ss : List Sym) (n : Nat) : rowF nm kd ss (n + 1) = match rowF nm kd ss n with
    | some a => some a
    | none => hitS nm kd ss n := by unfold rowF; rw [fstN]; cases fstN (hitS nm kd ss) n <;> rfl
theorem hitO_other (nm : ByteArray) (kd : Int) (l : List Ob) {o s o' s' i : Nat} (h : upTo l o s i = upTo l o' s' i) : hitO nm kd l o s i = hitO nm kd l o' s' i := by unfold hitO; rw [h]
/-- One symbol more. -/
theorem firstF_step (nm : ByteArray) (kd : Int) (l : List Ob) {i k : Nat} (hi : i < l.length) (hk : k < (ob l i).ss.length) : firstF nm kd l i (k + 1) = match firstF nm kd l i k with
    | some x => some x
    | none => (hitS nm kd (ob l i).ss k).map fun a => (i, a) := by
  unfold firstF
  rw [show min l.length (i + 1) = i + 1 by omega, fstN, fstN]
  rw [fst_congr (f := hitO nm kd l i (k + 1)) (g := hitO nm kd l i k) (fun j hj => hitO_other _ _ _ (by unfold upTo; rw [if_neg (by omega), if_neg (by omega)]))]
  cases fstN (hitO nm kd l i k) i with
  | some b => rfl
  | none =>
    show hitO nm kd l i (k + 1) i = match hitO nm kd l i k i with
      | some x => some x
      | none => _
    unfold hitO
    rw [show upTo l i (k + 1) i = k + 1 by unfold upTo; rw [if_pos rfl]; omega, show upTo l i k i = k by unfold upTo; rw [if_pos rfl]; omega, rowF_succ]
    cases rowF nm kd (ob l i).ss k <;> rfl
/-- The next object. -/
theorem firstF_next (nm : ByteArray) (kd : Int) (l : List Ob) {i : Nat} (hi : i < l.length) : firstF nm kd l (i + 1) 0 = firstF nm kd l i (ob l i).ss.length := by
  unfold firstF
  rw [show min l.length (i + 1) = i + 1 by omega]
  have key : fstN (hitO nm kd l (i + 1) 0) (i + 1) = fstN (hitO nm kd l i (ob l i).ss.length) (i + 1) := fst_congr (fun j hj => hitO_other _ _ _ (by
    unfold upTo
    rw [if_neg (by omega)]
    split
    · next h => subst h; omega
    · rfl))
  by_cases h : i + 1 < l.length
  · rw [show min l.length (i + 1 + 1) = i + 1 + 1 by omega, fstN, key]
    cases fstN (hitO nm kd l i (ob l i).ss.length) (i + 1) with
    | some b => rfl
    | none =>
      show hitO nm kd l (i + 1) 0 (i + 1) = none
      unfold hitO
      rw [show upTo l (i + 1) 0 (i + 1) = 0 by unfold upTo; rw [if_pos rfl]; omega]
      rfl
  · rw [show min l.length (i + 1 + 1) = i + 1 by omega, key]
theorem firstF_zero (nm : ByteArray) (kd : Int) (l : List Ob) : firstF nm kd l 0 0 = none := by
  unfold firstF
  refine fst_none fun j hj => ?_
  obtain rfl : j = 0 := by omega
  unfold hitO
  rw [show upTo l 0 0 0 = 0 by unfold upTo; rw [if_pos rfl]; omega]
  rfl
/-- What a name stands for below a place, and the kind of the symbol that says so. -/
def seenF (nm : ByteArray) (l : List Ob) (o s : Nat) : Option ((Nat × Int) × Int) := match firstF nm 1 l o s with
  | some x => some (x, 1)
  | none => (firstF nm 2 l o s).map fun x => (x, 2)
def mI : Option ((Nat × Int) × Int) → Nat
  | some x => x.1.1
  | none => 0
def mA : Option ((Nat × Int) × Int) → Int
  | some x => x.1.2
  | none => 0
def mK : Option ((Nat × Int) × Int) → Int
  | some x => x.2
  | none => 0
theorem seen_zero (nm : ByteArray) (l : List Ob) : seenF nm l 0 0 = none := by
  unfold seenF
  rw [firstF_zero, firstF_zero]
  rfl
theorem seen_next (nm : ByteArray) (l : List Ob) {i : Nat} (hi : i < l.length) : seenF nm l (i + 1) 0 = seenF nm l i (ob l i).ss.length := by
  unfold seenF
  rw [firstF_next _ _ _ hi, firstF_next _ _ _ hi]
theorem seen_kind (nm : ByteArray) (l : List Ob) (o s : Nat) : (mK (seenF nm l o s) == 1) = (firstF nm 1 l o s).isSome := by
  unfold seenF
  cases firstF nm 1 l o s with
  | some x => rfl
  | none => cases firstF nm 2 l o s <;> rfl
theorem seen_find (nm : ByteArray) (l : List Ob) : (seenF nm l l.length 0).isSome = (findF nm l).isSome ∧ mI (seenF nm l l.length 0) = dfI (findF nm l) ∧ mA (seenF nm l l.length 0) = dfA (findF nm l) := by
  unfold seenF findF
  cases firstF nm 1 l l.length 0 with
  | some x => exact ⟨rfl, rfl, rfl⟩
  | none => cases firstF nm 2 l l.length 0 <;> exact ⟨rfl, rfl, rfl⟩
/-- A symbol of another name. -/
theorem seen_other {nm : ByteArray} {l : List Ob} {i k : Nat} (hi : i < l.length) (hk : k < (ob l i).ss.length) (h : ((sName (ob l i).ss k).toList == nm.toList) = false) : seenF nm l i (k + 1) = seenF nm l i k := by
  unfold seenF
  rw [firstF_step nm 1 l hi hk, firstF_step nm 2 l hi hk, hitS_no (kd := 1) (Or.inl h), hitS_no (kd := 2) (Or.inl h)]
  cases firstF nm 1 l i k with
  | some x => rfl
  | none => cases firstF nm 2 l i k <;> rfl
/-- What is kept, once a symbol was met. -/
def learnV (v : Option ((Nat × Int) × Int)) (i : Nat) (at_ kd : Int) : Option ((Nat × Int) × Int) := if (kd == 1) = true ∨ (kd == 2) = true ∧ v.isSome = false then some ((i, at_), kd) else v
theorem seen_same {nm : ByteArray} {l : List Ob} {i k : Nat} (hi : i < l.length) (hk : k < (ob l i).ss.length) (h : ((sName (ob l i).ss k).toList == nm.toList) = true) (hg : (sKind (ob l i).ss k == 1) = true → (firstF nm 1 l i k).isSome = false) : seenF nm l i (k + 1) = learnV (seenF nm l i k) i (sAt (ob l i).ss k) (sKind (ob l i).ss k) := by
  unfold seenF learnV
  rw [firstF_step nm 1 l hi hk, firstF_step nm 2 l hi hk]
  cases h1 : (sKind (ob l i).ss k == 1) with
  | true =>
    have := hg h1
    rw [hitS_yes h h1]
    cases hf : firstF nm 1 l i k with
    | some x => rw [hf] at this; cases this
    | none =>
      rw [if_pos (Or.inl rfl)]
      have e : sKind (ob l i).ss k = 1 := by simpa using h1
      rw [e]
      rfl
  | false =>
    rw [hitS_no (kd := 1) (Or.inr h1)]
    cases hf : firstF nm 1 l i k with
    | some x =>
      rw [if_neg (by simp)]
    | none =>
      cases h2 : (sKind (ob l i).ss k == 2) with
      | true =>
        rw [hitS_yes h h2]
        have e : sKind (ob l i).ss k = 2 := by simpa using h2
        cases hf2 : firstF nm 2 l i k with
        | some x => rw [if_neg (by simp)]; rfl
        | none => rw [if_pos (by simp), e]; rfl
      | false =>
        rw [hitS_no (kd := 2) (Or.inr h2), if_neg (by simp)]
        cases hf2 : firstF nm 2 l i k <;> rfl
/-- A map's meaning with one name's turned. -/
def putF (f : ByteArray → Option ((Nat × Int) × Int)) (s : ByteArray) (v : Option ((Nat × Int) × Int)) (x : ByteArray) : Option ((Nat × Int) × Int) := if (s.toList == x.toList) = true then v else f x
theorem bytes_eq {a b : ByteArray} (h : (a.toList == b.toList) = true) : a = b := by
  have h : a.toList = b.toList := by simpa using h
  rw [ByteArray.toList_eq, ByteArray.toList_eq] at h
  cases a; cases b; simp at h; congr
/-- All names, one symbol more. -/
theorem seen_put {l : List Ob} {i k : Nat} {f : ByteArray → Option ((Nat × Int) × Int)} (hi : i < l.length) (hk : k < (ob l i).ss.length) (hf : ∀ x, f x = seenF x l i k) (ht : twS l i k = none) (x : ByteArray) : putF f (sName (ob l i).ss k) (learnV (f (sName (ob l i).ss k)) i (sAt (ob l i).ss k) (sKind (ob l i).ss k)) x = seenF x l i (k + 1) := by
  unfold putF
  cases hx : ((sName (ob l i).ss k).toList == x.toList) with
  | false =>
    rw [if_neg (by simp), seen_other hi hk hx]
    exact hf x
  | true =>
    rw [if_pos rfl]
    have e := bytes_eq hx
    rw [seen_same hi hk hx, hf, e]
    intro hg
    unfold twS at ht
    split at ht
    · cases ht
    · next hn =>
      cases hs : (firstF x 1 l i k).isSome with
      | false => rfl
      | true => rw [e] at hn; exact absurd ⟨hg, hs⟩ hn
theorem learn_no {v : Option ((Nat × Int) × Int)} {i : Nat} {a kd : Int} (h1 : (kd == 1) = false) (h2 : (kd == 2) = false ∨ v.isSome = true) : learnV v i a kd = v := by
  unfold learnV
  rw [if_neg]
  rintro (h | ⟨h, h'⟩)
  · rw [h1] at h; cases h
  · rcases h2 with h2 | h2
    · rw [h2] at h; cases h
    · rw [h2] at h'; cases h'
theorem learn_yes {v : Option ((Nat × Int) × Int)} {i : Nat} {a kd : Int} (h : (kd == 1) = true ∨ (kd == 2) = true ∧ v.isSome = false) : learnV v i a kd = some ((i, a), kd) := by
  unfold learnV
  rw [if_pos h]
theorem putF_same (f : ByteArray → Option ((Nat × Int) × Int)) (s x : ByteArray) : putF f s (f s) x = f x := by
  unfold putF
  split
  · next h => rw [bytes_eq h]
  · rfl
/-- What was found stays found. -/
theorem firstF_row {nm : ByteArray} {kd : Int} {l : List Ob} {i j : Nat} {x : Nat × Int} (hi : i < l.length) (h : firstF nm kd l i j = some x) : ∀ d, j + d ≤ (ob l i).ss.length → firstF nm kd l i (j + d) = some x
  | 0, _ => h
  | d + 1, hd => by rw [show j + (d + 1) = j + d + 1 by omega, firstF_step nm kd l hi (by omega), firstF_row hi h d (by omega)]
theorem firstF_objs {nm : ByteArray} {kd : Int} {l : List Ob} {i : Nat} {x : Nat × Int} (h : firstF nm kd l i 0 = some x) : ∀ d, i + d ≤ l.length → firstF nm kd l (i + d) 0 = some x
  | 0, _ => h
  | d + 1, hd => by
    rw [show i + (d + 1) = i + d + 1 by omega, firstF_next nm kd l (by omega)]
    have := firstF_row (by omega) (firstF_objs h d (by omega)) (ob l (i + d)).ss.length (by omega)
    rwa [Nat.zero_add] at this
theorem firstF_full {nm : ByteArray} {kd : Int} {l : List Ob} {i j : Nat} {x : Nat × Int} (hi : i < l.length) (hj : j ≤ (ob l i).ss.length) (h : firstF nm kd l i j = some x) : firstF nm kd l l.length 0 = some x := by
  have a := firstF_row hi h ((ob l i).ss.length - j) (by omega)
  rw [show j + ((ob l i).ss.length - j) = (ob l i).ss.length by omega, ← firstF_next nm kd l hi] at a
  have b := firstF_objs a (l.length - (i + 1)) (by omega)
  rwa [show i + 1 + (l.length - (i + 1)) = l.length by omega] at b
theorem firstF_same {nm : ByteArray} {kd : Int} {l : List Ob} {i k : Nat} (hi : i < l.length) (hk : k < (ob l i).ss.length) (h : hitS nm kd (ob l i).ss k = none) (h0 : firstF nm kd l i k = none) : firstF nm kd l i (k + 1) = none := by
  rw [firstF_step nm kd l hi hk, h0, h]
  rfl
/-- Find's own state. -/
theorem find_put {nm : ByteArray} {l : List Ob} {i k : Nat} {f : ByteArray → Option ((Nat × Int) × Int)} (hi : i < l.length) (hk : k < (ob l i).ss.length) (hn : ((sName (ob l i).ss k).toList == nm.toList) = true) (hf : f nm = seenF nm l i k) (h1 : firstF nm 1 l i k = none) : putF f (sName (ob l i).ss k) (learnV (f (sName (ob l i).ss k)) i (sAt (ob l i).ss k) (sKind (ob l i).ss k)) nm = seenF nm l i (k + 1) := by
  unfold putF
  rw [if_pos hn, bytes_eq hn, hf, seen_same hi hk hn (fun _ => by rw [h1]; rfl)]
theorem find_hit {nm : ByteArray} {l : List Ob} {i k : Nat} (hi : i < l.length) (hk : k < (ob l i).ss.length) (hn : ((sName (ob l i).ss k).toList == nm.toList) = true) (h1 : firstF nm 1 l i k = none) (hg : (sKind (ob l i).ss k == 1) = true) : firstF nm 1 l i (k + 1) = some (i, sAt (ob l i).ss k) := by
  rw [firstF_step nm 1 l hi hk, h1, hitS_yes hn hg]
  rfl
/-- What the map tells is what the name stands for. -/
def Tells (v : Option ((Nat × Int) × Int)) (x : Option (Nat × Int)) : Prop := v.isSome = x.isSome ∧ mI v = dfI x ∧ mA v = dfA x
theorem tells_hit {nm : ByteArray} {l : List Ob} {i k : Nat} (hi : i < l.length) (hk : k < (ob l i).ss.length) (hn : ((sName (ob l i).ss k).toList == nm.toList) = true) (h1 : firstF nm 1 l i k = none) (hg : (sKind (ob l i).ss k == 1) = true) : Tells (seenF nm l i (k + 1)) (findF nm l) := by
  have a := find_hit hi hk hn h1 hg
  have b := firstF_full hi (by omega) a
  unfold seenF findF
  rw [a, b]
  exact ⟨rfl, rfl, rfl⟩
theorem tells_full (nm : ByteArray) (l : List Ob) : Tells (seenF nm l l.length 0) (findF nm l) := seen_find nm l

end Go.Proofs.Ytiihfkjgdhfmiaa

namespace Go.Proofs.Ytiihfkjgdhfmiaa
open Go.RowKit

open Go.Maps Go.WideMaps
/-- How a meaning reads. -/
def meanElem (v : Value) : Option (DataW Unit × List MemPlace) := match v with
  | .agg xs => match xs.toList with
    | [.int .i64 a, .int .i64 b, .int .i8 k] => some (.agg [.lit (.int .i64 a), .lit (.int .i64 b), .lit (.int .i8 k)], [])
    | _ => none
  | _ => none
theorem mean_inv {v : Value} {z : DataW Unit × List MemPlace} (h : meanElem v = some z) : ∃ a b k : Int, v = .agg #[.int .i64 a, .int .i64 b, .int .i8 k] ∧ z = (.agg [.lit (.int .i64 a), .lit (.int .i64 b), .lit (.int .i8 k)], []) := by
  unfold meanElem at h
  split at h
  · next xs =>
    split at h
    · next a b k e1 =>
      cases h
      refine ⟨a, b, k, ?_, rfl⟩
      have x1 : xs = #[.int .i64 a, .int .i64 b, .int .i8 k] := Array.ext' (by rw [e1])
      rw [x1]
    · cases h
  · cases h
def mVal (v : Option ((Nat × Int) × Int)) : Value := .agg #[.int .i64 (mI v), .int .i64 (mA v), .int .i8 (mK v)]
def mDat (v : Option ((Nat × Int) × Int)) : DataW Unit := .agg [.lit (.int .i64 (mI v)), .lit (.int .i64 (mA v)), .lit (.int .i8 (mK v))]
theorem mean_val (v : Option ((Nat × Int) × Int)) : meanElem (mVal v) = some (mDat v, []) := rfl
theorem mean_of {u : Value} {v : Option ((Nat × Int) × Int)} {ps : List MemPlace} (h : meanElem u = some (mDat v, ps)) : u = mVal v := by
  obtain ⟨a, b, k, rfl, e⟩ := mean_inv h
  unfold mDat at e
  injection e with e1 e2
  injection e1 with e1
  injection e1 with a1 e1
  injection e1 with b1 e1
  injection e1 with k1 e1
  injection a1 with a1; injection a1 with _ a1
  injection b1 with b1; injection b1 with _ b1
  injection k1 with k1; injection k1 with _ k1
  unfold mVal
  rw [a1, b1, k1]
theorem law9m : Keyed Try.prog 9 := string_keyed Try.underlying9
theorem zeroM (w : World) : (zeroValue 73).run Try.prog w = .ok (mVal none) w := by kernel_rfl
/-- A map of meanings, of at most n names. -/
def Knows (w : World) (b n : Nat) (f : ByteArray → Option ((Nat × Int) × Int)) : Prop := ∃ D : DataW Unit, w.ownsMap Try.prog 9 meanElem b n D ∧ ∀ s : ByteArray, Maps.has D (.string s.data.toList) = (f s).isSome ∧ D.atKey (.string s.data.toList) (mDat none) = mDat (f s)
theorem Knows.made (w : World) : Knows (w.alloc (.map #[] 0)) w.heap.size 0 (fun _ => none) := ⟨_, World.ownsMap_made w Try.prog 9 meanElem, fun _s => ⟨rfl, rfl⟩⟩
theorem Knows.lt {w : World} {b n : Nat} {f : ByteArray → Option ((Nat × Int) × Int)} (h : Knows w b n f) : b < w.heap.size := by
  obtain ⟨D, h, _⟩ := h
  exact h.lt
theorem Knows.below {w w1 : World} {B b n : Nat} {f : ByteArray → Option ((Nat × Int) × Int)} (h : Knows w b n f) (hb : Below B w w1) (hB : b < B) : Knows w1 b n f := by
  obtain ⟨D, ⟨es, clock, h1, h2⟩, h3⟩ := h
  exact ⟨D, ⟨es, clock, by rw [hb.block b hB]; exact h1, h2⟩, h3⟩
theorem Knows.keep {w w1 : World} {b n : Nat} {f : ByteArray → Option ((Nat × Int) × Int)} (h : Knows w b n f) (hb : Below w.heap.size w w1) : Knows w1 b n f := h.below hb h.lt
theorem Knows.fit {w : World} {b n : Nat} {f g : ByteArray → Option ((Nat × Int) × Int)} (h : Knows w b n f) (e : ∀ x, f x = g x) : Knows w b n g := by
  obtain ⟨D, h, h3⟩ := h
  exact ⟨D, h, fun s => by rw [← e s]; exact h3 s⟩
theorem Knows.more {w : World} {b n m : Nat} {f : ByteArray → Option ((Nat × Int) × Int)} (h : Knows w b n f) (hn : n ≤ m) : Knows w b m f := by
  obtain ⟨D, h, h3⟩ := h
  exact ⟨D, h.mono hn, h3⟩
theorem key9 {s : ByteArray} (hs : s.size ≤ 140737488355328) : keyOf Try.prog 9 (.string s) = some (.string s.data.toList) := keyOf_string_mk Try.underlying9 (by unfold maxLen; omega)
theorem Knows.look_ok {w : World} {b n : Nat} {f : ByteArray → Option ((Nat × Int) × Int)} (h : Knows w b n f) {s : ByteArray} (hs : s.size ≤ 140737488355328) : (Instr.lookup 62 (.map (some b)) (.string s) true).run Try.prog w = .ok (.tuple #[mVal (f s), .bool (f s).isSome]) w := by
  obtain ⟨D, h, h3⟩ := h
  obtain ⟨v, ps, hrun, hv⟩ := h.look_ok law9m Try.underlying62 (zeroM w) (mean_val none) (key9 hs)
  rw [(h3 s).2] at hv
  rw [hrun, mean_of hv, (h3 s).1]
theorem Knows.look {w : World} {b n : Nat} {f : ByteArray → Option ((Nat × Int) × Int)} (h : Knows w b n f) {s : ByteArray} (hs : s.size ≤ 140737488355328) : (Instr.lookup 62 (.map (some b)) (.string s) false).run Try.prog w = .ok (mVal (f s)) w := by
  obtain ⟨D, h, h3⟩ := h
  obtain ⟨v, ps, hrun, hv⟩ := h.lookup law9m Try.underlying62 (zeroM w) (mean_val none) (key9 hs)
  rw [(h3 s).2] at hv
  rw [hrun, mean_of hv]
theorem Knows.put {w : World} {b n : Nat} {f : ByteArray → Option ((Nat × Int) × Int)} (h : Knows w b n f) (hn : n < 1000000000000) {s : ByteArray} (hs : s.size ≤ 140737488355328) (x : (Nat × Int) × Int) : ∃ w', (Instr.mapUpdate 62 (.map (some b)) (.string s) (mVal (some x))).run Try.prog w = .ok () w' ∧ Knows w' b (n + 1) (putF f s (some x)) ∧ w.grownBy w' (some b) := by
  obtain ⟨D, h, h3⟩ := h
  obtain ⟨w', hrun, h1, hg⟩ := h.update law9m Try.underlying62 (by unfold maxLen; omega) (key9 hs) (mean_val (some x))
  refine ⟨w', hrun, ⟨_, h1, fun y => ?_⟩, hg⟩
  unfold putF
  cases hy : (s.toList == y.toList) with
  | true =>
    rw [bytes_eq hy, if_pos rfl]
    exact ⟨Maps.has_put_same h.isMap (by simp [WideAt.IsKeyLit]) _, Maps.atKey_put_same h.isMap (by simp [WideAt.IsKeyLit]) _ _⟩
  | false =>
    rw [if_neg (by simp)]
    have hne : (Lit.string y.data.toList) ≠ .string s.data.toList := fun e => by
      injection e with e
      have : y.toList = s.toList := by rw [ByteArray.toList_eq, ByteArray.toList_eq]; exact e
      rw [this] at hy
      simp at hy
    rw [Maps.has_put_other hne, Maps.atKey_put_other hne]
    exact h3 y
/-- The same at the operation. -/
theorem wpList_look_ok (w : World) {ops : Array Oper} {rest : List Oper} {o : Oper} {a : Act} {Q : Exit → Act → World → Prop} (hg : o.guard = none) (m x : Operand) (hop : o.op = Op.lookup 62 m x true)
    (b n : Nat) (f : ByteArray → Option ((Nat × Int) × Int)) (hk : Knows w b n f) (s : ByteArray) (hs : s.size ≤ 140737488355328) (hm : a.eval m = .map (some b)) (hx : a.eval x = .string s)
    (hK : wpList Try.prog ops Q rest (a.put o.dst (.tuple #[mVal (f s), .bool (f s).isSome])) w) : wpList Try.prog ops Q (o :: rest) a w := by
  refine wpList_plain hg fun K' hK' => ?_
  have hrun := hk.look_ok hs
  unfold Oper.wp
  simp [execOp, hop, hm, hx, hrun, Result.andThen]
  exact hK' _ _ hK
theorem wpList_look_put (w : World) {ops : Array Oper} {rest : List Oper} {o : Oper} {a : Act} {Q : Exit → Act → World → Prop} (hg : o.guard = none) (m x v : Operand) (hop : o.op = Op.mapUpdate 62 m x v)
    (b n : Nat) (f : ByteArray → Option ((Nat × Int) × Int)) (hk : Knows w b n f) (hn : n < 1000000000000) (s : ByteArray) (hs : s.size ≤ 140737488355328) (y : (Nat × Int) × Int) (hm : a.eval m = .map (some b)) (hx : a.eval x = .string s) (hv : a.eval v = mVal (some y))
    (hK : ∀ w', Knows w' b (n + 1) (putF f s (some y)) → w.grownBy w' (some b) → wpList Try.prog ops Q rest (a.put o.dst undef) w') : wpList Try.prog ops Q (o :: rest) a w := by
  refine wpList_plain hg fun K' hK' => ?_
  obtain ⟨w', hrun, h1, h2⟩ := hk.put hn hs y
  unfold Oper.wp
  simp [execOp, hop, hm, hx, hv, hrun, Result.andThen]
  exact hK' _ _ (hK w' h1 h2)

end Go.Proofs.Ytiihfkjgdhfmiaa

namespace Go.Proofs.Ytiihfkjgdhfmiaa
open Go.RowKit

open Go.Maps Go.WideMaps
theorem grown_alloc {w w1 : World} {b : Nat} (h : w.grownBy w1 (some b)) (o : Obj) : w.grownBy (w1.alloc o) (some b) := h.trans (World.grownBy_alloc w1 o _)
set_option maxHeartbeats 4000000 in
set_option maxRecDepth 100000 in
theorem learn_any (b n : Nat) (f : ByteArray → Option ((Nat × Int) × Int)) (nm : ByteArray) (kd at_ : Int) (i : Nat) (w : World) (hk : Knows w b n f) (hn : n < 1000000000000) (hs : nm.size ≤ 140737488355328) :
    Calls Try.prog 27 #[.map (some b), .int .i64 i, .agg #[.string nm, .int .i8 kd, .int .i64 at_]] w fun e w' => e = .returned (.tuple #[]) ∧ Knows w' b (n + 1) (putF f nm (learnV (f nm) i at_ kd)) ∧ w.grownBy w' (some b) := by
  have HK : Hid (Knows (w.alloc (.cells #[.string nm, .int .i8 kd, .int .i64 at_] 52)) b n f) := hk.keep (lb_alloc (Below.refl _ _) _)
  have HK1 : Hid (Knows ((w.alloc (.cells #[.string nm, .int .i8 kd, .int .i64 at_] 52)).alloc (.cells #[.int .i64 (mI (f nm)), .int .i64 (mA (f nm)), .int .i8 (mK (f nm))] 73)) b n f) := HK.out.keep (lb_alloc (Below.refl _ _) _)
  have HG : Hid (w.grownBy ((w.alloc (.cells #[.string nm, .int .i8 kd, .int .i64 at_] 52)).alloc (.cells #[.int .i64 (mI (f nm)), .int .i64 (mA (f nm)), .int .i8 (mK (f nm))] 73)) (some b)) := (World.grownBy_alloc w _ _).trans (World.grownBy_alloc _ _ _)
  clear hk
  go_enter Try.func27, Try.ntmps27
  cases h1 : (kd == 1) with
  | true =>
    go_wp2_with (first | (at_lookup; refine wpList_look_ok _ rfl _ _ rfl b n f HK.out nm hs rfl rfl ?_; unfold mVal) | (at_mapUpdate; refine wpList_look_put _ rfl _ _ _ rfl b n f HK1.out hn nm hs ((i, at_), kd) rfl rfl rfl ?_; intro w2 hk2 hg2; have HK2 : Hid (Knows w2 b (n + 1) (putF f nm (some ((i, at_), kd)))) := hk2; have HG2 : Hid (w.grownBy w2 (some b)) := HG.out.trans hg2; clear hk2 hg2))
    refine bodyPost_end (v := .tuple #[]) (by simp [results, Try.results27, go_sem]) rfl ?_
    exact ⟨rfl, by rw [learn_yes (Or.inl h1)]; exact HK2.out, HG2.out⟩
  | false =>
    cases h2 : (kd == 2) with
    | true =>
      cases h3 : (f nm).isSome with
      | false =>
        go_wp2_with (first | ((at_lookup; refine wpList_look_ok _ rfl _ _ rfl b n f HK.out nm hs rfl rfl ?_; unfold mVal); rw [h3]) | (at_mapUpdate; refine wpList_look_put _ rfl _ _ _ rfl b n f HK1.out hn nm hs ((i, at_), kd) rfl rfl rfl ?_; intro w2 hk2 hg2; have HK2 : Hid (Knows w2 b (n + 1) (putF f nm (some ((i, at_), kd)))) := hk2; have HG2 : Hid (w.grownBy w2 (some b)) := HG.out.trans hg2; clear hk2 hg2))
        refine bodyPost_end (v := .tuple #[]) (by simp [results, Try.results27, go_sem]) rfl ?_
        exact ⟨rfl, by rw [learn_yes (Or.inr ⟨h2, h3⟩)]; exact HK2.out, HG2.out⟩
      | true =>
        go_wp2_with ((at_lookup; refine wpList_look_ok _ rfl _ _ rfl b n f HK.out nm hs rfl rfl ?_; unfold mVal); rw [h3])
        refine bodyPost_end (v := .tuple #[]) (by simp [results, Try.results27, go_sem]) rfl ?_
        exact ⟨rfl, by rw [learn_no h1 (Or.inr h3)]; exact (HK1.out.fit fun x => (putF_same f nm x).symm).more (Nat.le_succ _), HG.out⟩
    | false =>
      go_wp2_with (at_lookup; refine wpList_look_ok _ rfl _ _ rfl b n f HK.out nm hs rfl rfl ?_; unfold mVal)
      refine bodyPost_end (v := .tuple #[]) (by simp [results, Try.results27, go_sem]) rfl ?_
      exact ⟨rfl, by rw [learn_no h1 (Or.inl h2)]; exact (HK1.out.fit fun x => (putF_same f nm x).symm).more (Nat.le_succ _), HG.out⟩

end Go.Proofs.Ytiihfkjgdhfmiaa
