/-
  Two lists of the same objects are equal. What names stand for, as plain mathematics; no Go in sight. What is asked of a list of objects, as plain mathematics; no Go in sight.
-/
import Derived.Test.YtiihfkjgdhfmiaaProg
import Derived.WalkKit
import Derived.WalkSpells
import Derived.WalkLawsBesides
import Derived.RowKit3
import Derived.Below
import Derived.Deep.QuietTactic
import Derived.BigQuiet
import Derived.WalkSmall
import Derived.Laws.Rows
import Derived.Test.YtiihfkjgdhfmiaaSR02
import Derived.Test.YtiihfkjgdhfmiaaSR07
import Derived.Deep.RegionHeld3
namespace Go.Proofs.Ytiihfkjgdhfmiaa
open Go.RowKit

set_option maxHeartbeats 4000000 in
set_option maxRecDepth 100000 in
theorem eqobs_same (A B : Option Addr) (ca cb : Nat) (q r : Nat → Pl) (l : List Ob) (w : World) (hA : ObsIn w A q l) (hB : ObsIn w B r l) :
    Calls Try.prog 13 #[.slice A l.length ca, .slice B l.length cb] w fun e w' => e = .returned (.bool true) ∧ Below w.heap.size w w' := by
  have HA : Hid (ObsIn w A q l) := hA
  have HB : Hid (ObsIn w B r l) := hB
  have hf := hA.few
  clear hA hB
  go_enter Try.func13, Try.ntmps13
  go_wp2
  go_loopw [5] (fun i wr => ∃ k : Nat, i = .int .i64 k ∧ k ≤ l.length ∧ Hid (Below w.heap.size w wr)) (fun i _ => l.length - (intOf i).toNat)
  case atStart => exact ⟨0, rfl, Nat.zero_le _, Below.refl _ _⟩
  case round =>
    obtain ⟨k, rfl, hk, HB1⟩ := hrel
    by_cases hlt : k < l.length
    · obtain ⟨a, ea, x0, x1, x2, x3, x4, x5⟩ := HA.out.cells.six HB1.out k hlt
      obtain ⟨b, eb, y0, y1, y2, y3, y4, y5⟩ := HB.out.cells.six HB1.out k hlt
      have oA := (HA.out.each k hlt).keep HB1.out
      have oB := (HB.out.each k hlt).keep HB1.out
      have CE := fun wx (hx : Below wr.heap.size wr wx) => eqobj_same (ob l k).nm (ob l k).dA (q k).A1 (q k).A2 (q k).A3 (q k).A4 (q k).c1 (q k).c2 (q k).c3 (q k).c4 (ob l k).code (ob l k).data (ob l k).ss (ob l k).rs wx (r k).A1 (r k).A2 (r k).A3 (r k).A4 (r k).c1 (r k).c2 (r k).c3 (r k).c4 (oA.keep hx).cd (oA.keep hx).dt (oA.keep hx).sy (oA.keep hx).rl oA.hc oA.hd oA.hs oA.hl (oB.keep hx).cd (oB.keep hx).dt (oB.keep hx).sy (oB.keep hx).rl
      clear oA oB
      subst ea eb
      have BW : Below w.heap.size w wr.drew := HB1.out.drew
      have BR : Below wr.heap.size wr wr.drew := (Below.refl _ _).drew
      go_wp2_with fail
      go_region_held3 (fun X => Below w.heap.size w X ∧ Below wr.heap.size wr X ∧ X.cell? (a.add (k * 6)) = some (.string (ob l k).nm) ∧ X.cell? ⟨(a.add (k * 6)).block, (a.add (k * 6)).off + 1, none⟩ = some (.slice (q k).A1 (ob l k).code.length (q k).c1) ∧ X.cell? ⟨(a.add (k * 6)).block, (a.add (k * 6)).off + 2, none⟩ = some (.int .i64 (ob l k).dA) ∧ X.cell? ⟨(a.add (k * 6)).block, (a.add (k * 6)).off + 3, none⟩ = some (.slice (q k).A2 (ob l k).data.length (q k).c2) ∧ X.cell? ⟨(a.add (k * 6)).block, (a.add (k * 6)).off + 4, none⟩ = some (.slice (q k).A3 (ob l k).ss.length (q k).c3) ∧ X.cell? ⟨(a.add (k * 6)).block, (a.add (k * 6)).off + 5, none⟩ = some (.slice (q k).A4 (ob l k).rs.length (q k).c4) ∧ X.cell? (b.add (k * 6)) = some (.string (ob l k).nm) ∧ X.cell? ⟨(b.add (k * 6)).block, (b.add (k * 6)).off + 1, none⟩ = some (.slice (r k).A1 (ob l k).code.length (r k).c1) ∧ X.cell? ⟨(b.add (k * 6)).block, (b.add (k * 6)).off + 2, none⟩ = some (.int .i64 (ob l k).dA) ∧ X.cell? ⟨(b.add (k * 6)).block, (b.add (k * 6)).off + 3, none⟩ = some (.slice (r k).A2 (ob l k).data.length (r k).c2) ∧ X.cell? ⟨(b.add (k * 6)).block, (b.add (k * 6)).off + 4, none⟩ = some (.slice (r k).A3 (ob l k).ss.length (r k).c3) ∧ X.cell? ⟨(b.add (k * 6)).block, (b.add (k * 6)).off + 5, none⟩ = some (.slice (r k).A4 (ob l k).rs.length (r k).c4))
        (first | (refine ⟨lb_trans ?_ hb, lb_trans ?_ hb, lkeep hb ?_, lkeep hb ?_, lkeep hb ?_, lkeep hb ?_, lkeep hb ?_, lkeep hb ?_, lkeep hb ?_, lkeep hb ?_, lkeep hb ?_, lkeep hb ?_, lkeep hb ?_, lkeep hb ?_⟩ <;> (simp [*]; done)) | (simp [*]; done))
        ((go_at_call 29; refine (CE _ (by first | assumption | exact (‹Below _ _ _ ∧ _›).2.1)).mono ?_; rintro e w1 ⟨rfl, hb⟩))
      rename_i hS'
      have HB2 : Hid (Below w.heap.size w _) := hS'.1
      clear hS' CE x0 x1 x2 x3 x4 x5 y0 y1 y2 y3 y4 y5 BW BR
      go_wp2
      go_roundw
      case rel => exact ⟨k + 1, by go_num, by omega, HB2⟩
      case measure => simp [intOf]; omega
    · go_wp2
      go_ret
      exact ⟨rfl, HB1.out⟩



end Go.Proofs.Ytiihfkjgdhfmiaa

namespace Go.Proofs.Ytiihfkjgdhfmiaa
open Go.RowKit

/-- The first of what a function gives below a number. -/
def fstN {β : Type} (f : Nat → Option β) : Nat → Option β
  | 0 => none
  | n + 1 => match fstN f n with
    | some b => some b
    | none => f n
theorem fst_none {β : Type} {f : Nat → Option β} : ∀ {n : Nat}, (∀ j, j < n → f j = none) → fstN f n = none
  | 0, _ => rfl
  | n + 1, h => by
    rw [fstN, fst_none (fun j hj => h j (by omega))]
    exact h n (by omega)
theorem fst_hit {β : Type} {f : Nat → Option β} {k : Nat} {b : β} (h : ∀ j, j < k → f j = none) (e : f k = some b) : ∀ {n : Nat}, k < n → fstN f n = some b
  | 0, hk => absurd hk (Nat.not_lt_zero _)
  | n + 1, hk => by
    rw [fstN]
    by_cases hn : k < n
    · rw [fst_hit h e hn]
    · obtain rfl : k = n := by omega
      rw [fst_none h]
      exact e
theorem fst_step {β : Type} {f : Nat → Option β} {k : Nat} (h : ∀ j, j < k → f j = none) (e : f k = none) : ∀ j, j < k + 1 → f j = none := fun j hj => by
  by_cases he : j = k
  · rw [he]; exact e
  · exact h j (by omega)
theorem fst_some {β : Type} {f : Nat → Option β} {b : β} : ∀ {n : Nat}, fstN f n = some b → ∃ k, k < n ∧ f k = some b ∧ ∀ j, j < k → f j = none
  | 0, h => by cases h
  | n + 1, h => by
    rw [fstN] at h
    cases hf : fstN f n with
    | some c =>
      rw [hf] at h
      obtain ⟨k, hk, h1, h2⟩ := fst_some hf
      cases h
      exact ⟨k, by omega, h1, h2⟩
    | none =>
      rw [hf] at h
      exact ⟨n, by omega, h, fun j hj => by
        cases hj' : f j with
        | none => rfl
        | some c =>
          exfalso
          have := fst_no hf j hj
          rw [hj'] at this
          cases this⟩
where fst_no {β : Type} {f : Nat → Option β} : ∀ {n : Nat}, fstN f n = none → ∀ j, j < n → f j = none
  | 0, _, j, hj => absurd hj (Nat.not_lt_zero _)
  | n + 1, h, j, hj => by
    rw [fstN] at h
    cases hf : fstN f n with
    | some c => rw [hf] at h; cases h
    | none =>
      rw [hf] at h
      by_cases he : j = n
      · rw [he]; exact h
      · exact fst_no hf j (by omega)
theorem fst_no {β : Type} {f : Nat → Option β} {n : Nat} (h : fstN f n = none) (j : Nat) (hj : j < n) : f j = none := fst_some.fst_no h j hj
/-- A symbol of a name and kind. -/
def hitS (nm : ByteArray) (kd : Int) (ss : List Sym) (k : Nat) : Option Int := if ((sName ss k).toList == nm.toList) = true ∧ (sKind ss k == kd) = true then some (sAt ss k) else none
def rowF (nm : ByteArray) (kd : Int) (ss : List Sym) (n : Nat) : Option Int := fstN (hitS nm kd ss) n
/-- How many symbols of an object are looked at, below a place. -/
def upTo (l : List Ob) (o s i : Nat) : Nat := if i = o then min s (ob l i).ss.length else (ob l i).ss.length
def hitO (nm : ByteArray) (kd : Int) (l : List Ob) (o s i : Nat) : Option (Nat × Int) := (rowF nm kd (ob l i).ss (upTo l o s i)).map fun a => (i, a)
/-- The first symbol of a name and kind below a place. -/
def firstF (nm : ByteArray) (kd : Int) (l : List Ob) (o s : Nat) : Option (Nat × Int) := fstN (hitO nm kd l o s) (min l.length (o + 1))
/-- What a name stands for. -/
def findF (nm : ByteArray) (l : List Ob) : Option (Nat × Int) := match firstF nm 1 l l.length 0 with
  | some x => some x
  | none => firstF nm 2 l l.length 0
def dfI : Option (Nat × Int) → Nat
  | some x => x.1
  | none => 0
def dfA : Option (Nat × Int) → Int
  | some x => x.2
  | none => 0
/-- An answer of first, of Find. -/
def DefP (x : Option (Nat × Int)) (w : World) (e : Ending) (w' : World) : Prop := e = .returned (.tuple #[.agg #[.int .i64 (dfI x), .int .i64 (dfA x)], .bool x.isSome]) ∧ Below w.heap.size w w'
theorem hitS_no {nm : ByteArray} {kd : Int} {ss : List Sym} {k : Nat} (h : ((sName ss k).toList == nm.toList) = false ∨ (sKind ss k == kd) = false) : hitS nm kd ss k = none := by
  unfold hitS
  rw [if_neg]
  rintro ⟨h1, h2⟩
  rcases h with h | h
  · rw [h1] at h; cases h
  · rw [h2] at h; cases h
theorem hitS_yes {nm : ByteArray} {kd : Int} {ss : List Sym} {k : Nat} (h : ((sName ss k).toList == nm.toList) = true) (h2 : (sKind ss k == kd) = true) : hitS nm kd ss k = some (sAt ss k) := by
  unfold hitS
  rw [if_pos ⟨h, h2⟩]
theorem hitO_no {nm : ByteArray} {kd : Int} {l : List Ob} {o s i k : Nat} (h : ∀ j, j < k → hitS nm kd (ob l i).ss j = none) (hk : upTo l o s i ≤ k) : hitO nm kd l o s i = none := by
  unfold hitO rowF
  rw [fst_none (fun j hj => h j (by omega))]
  rfl
theorem hitO_yes {nm : ByteArray} {kd : Int} {l : List Ob} {o s i k : Nat} {a : Int} (h : ∀ j, j < k → hitS nm kd (ob l i).ss j = none) (e : hitS nm kd (ob l i).ss k = some a) (hk : k < upTo l o s i) : hitO nm kd l o s i = some (i, a) := by
  unfold hitO rowF
  rw [fst_hit h e hk]
  rfl


end Go.Proofs.Ytiihfkjgdhfmiaa

namespace Go.Proofs.Ytiihfkjgdhfmiaa
open Go.RowKit

/-- An object's Check. -/
def obC (o : Ob) : Int × Int := checkC o.nm o.code o.dA o.data.length o.ss o.rs
/-- An object's name, one ahead has it. -/
def sameN (l : List Ob) (i k : Nat) : Option Unit := if ((ob l k).nm.toList == (ob l i).nm.toList) = true then some () else none
/-- What is wrong with an object. -/
def badO (l : List Ob) (i : Nat) : Option (Int × Int × Int) :=
  if (obC (ob l i)).1 = 0 then match fstN (sameN l i) i with
    | some _ => some (26, i, -1)
    | none => none
  else some ((obC (ob l i)).1, i, (obC (ob l i)).2)
def chkL (l : List Ob) : Option (Int × Int × Int) := if 32 < l.length then some (21, 32, 0) else fstN (badO l) l.length
/-- A Global symbol whose name one ahead has. -/
def twS (l : List Ob) (i k : Nat) : Option (Int × Int × Int) := if (sKind (ob l i).ss k == 1) = true ∧ (firstF (sName (ob l i).ss k) 1 l i k).isSome = true then some (26, i, k) else none
/-- A Wanted symbol whose name stands for nothing. -/
def unS (l : List Ob) (i k : Nat) : Option (Int × Int × Int) := if (sKind (ob l i).ss k == 3) = true ∧ (findF (sName (ob l i).ss k) l).isSome = false then some (40, i, k) else none
def twO (l : List Ob) (i : Nat) : Option (Int × Int × Int) := fstN (twS l i) (ob l i).ss.length
def unO (l : List Ob) (i : Nat) : Option (Int × Int × Int) := fstN (unS l i) (ob l i).ss.length
def namL (l : List Ob) : Option (Int × Int × Int) := match fstN (twO l) l.length with
  | some x => some x
  | none => fstN (unO l) l.length
def t1 : Option (Int × Int × Int) → Int
  | some x => x.1
  | none => 0
def t2 : Option (Int × Int × Int) → Int
  | some x => x.2.1
  | none => 0
def t3 : Option (Int × Int × Int) → Int
  | some x => x.2.2
  | none => 0
/-- An answer of check, of names. -/
def ErrP (x : Option (Int × Int × Int)) (w : World) (e : Ending) (w' : World) : Prop := e = .returned (.tuple #[.int .i64 (t1 x), .int .i64 (t2 x), .int .i64 (t3 x)]) ∧ Below w.heap.size w w'
/-- An error is no OK. -/
def Errs (x : Option (Int × Int × Int)) : Prop := ∀ y, x = some y → ¬ y.1 = 0
theorem fst_errs {f : Nat → Option (Int × Int × Int)} (h : ∀ i, Errs (f i)) (n : Nat) : Errs (fstN f n) := fun y e => by
  obtain ⟨k, _, hk, _⟩ := fst_some e
  exact h k y hk
theorem badO_errs (l : List Ob) (i : Nat) : Errs (badO l i) := fun y e => by
  unfold badO at e
  split at e
  · split at e
    · cases e; simp
    · cases e
  · next h => cases e; exact h
theorem chkL_errs (l : List Ob) : Errs (chkL l) := fun y e => by
  unfold chkL at e
  split at e
  · cases e; simp
  · exact fst_errs (badO_errs l) _ y e
theorem twO_errs (l : List Ob) (i : Nat) : Errs (twO l i) := fst_errs (fun k y e => by
  unfold twS at e
  split at e
  · cases e; simp
  · cases e) _
theorem unO_errs (l : List Ob) (i : Nat) : Errs (unO l i) := fst_errs (fun k y e => by
  unfold unS at e
  split at e
  · cases e; simp
  · cases e) _
theorem namL_errs (l : List Ob) : Errs (namL l) := fun y e => by
  unfold namL at e
  split at e
  · next h => cases e; exact fst_errs (twO_errs l) _ _ h
  · exact fst_errs (unO_errs l) _ y e


end Go.Proofs.Ytiihfkjgdhfmiaa
