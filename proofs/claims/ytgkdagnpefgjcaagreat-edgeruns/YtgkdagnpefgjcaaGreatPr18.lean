/-
  What the statements need of the program: Edges, Reached, Back, each by what it answers.
-/
import Derived.Test.YtgkdagnpefgjcaaGreatProg
import Derived.WalkKit
import Derived.WalkSpells
import Derived.WalkLawsBesides
import Derived.RowKit3
import Derived.Below
import Derived.Deep.QuietTactic
import Derived.BigQuiet
import Derived.WalkSmall
import Derived.Laws.Rows
import Derived.Test.YtgkdagnpefgjcaaGreatPr17
namespace Go.Proofs.YtgkdagnpefgjcaaGreat
open Go.RowKit

/-- Lists beside a code. -/
def ZE (E : Int) (L : List (List Int)) (w : World) (e : Ending) (w' : World) : Prop := ∃ (A : Option Addr) (c : Nat), e = .returned (.tuple #[.slice A L.length c, .int .i64 E]) ∧ IntsZ w' A L ∧ Below w.heap.size w w'
def ZR (L : List (List Int)) (w : World) (e : Ending) (w' : World) : Prop := ∃ (A : Option Addr) (c : Nat), e = .returned (.slice A L.length c) ∧ IntsZ w' A L ∧ Below w.heap.size w w'
def BE (E : Int) (n : Nat) (F : Int → Bool) (w : World) (e : Ending) (w' : World) : Prop := ∃ (A : Option Addr) (c : Nat), e = .returned (.tuple #[.slice A n c, .int .i64 E]) ∧ BolsAt w' A n F ∧ Below w.heap.size w w'
def outE (text : List Int) (ml : Nat) (ent : Int) : List (List Int) := if (checkI text ml ent).1 = 0 then edgT text ent (blkL text ent).length else []
def outN (text : List Int) (ml : Nat) (ent : Int) : Nat := if (checkI text ml ent).1 = 0 then (blkL text ent).length else 0
noncomputable def outR (text : List Int) (ent : Int) : Int → Bool := rchF (edgT text ent (blkL text ent).length) (ofB (blkL text ent) ent)
def EdgesOK : Prop := ∀ (A1 A2 : Option Addr) (c1 ml c2 : Nat) (ent : Int) (text : List Int) (w : World), IntsAt w A1 .u32 text → (∀ i, i < text.length → 0 ≤ nth text i ∧ nth text i < 4294967296) → text.length ≤ 1048576 → ml ≤ 1048576 →
  Calls Tryz.prog 7 #[.agg #[.slice A1 text.length c1, .int .i64 ent, .slice A2 ml c2]] w (ZE (checkI text ml ent).1 (outE text ml ent) w)
def ReachedOK : Prop := ∀ (A1 A2 : Option Addr) (c1 ml c2 : Nat) (ent : Int) (text : List Int) (w : World), IntsAt w A1 .u32 text → (∀ i, i < text.length → 0 ≤ nth text i ∧ nth text i < 4294967296) → text.length ≤ 1048576 → ml ≤ 1048576 →
  Calls Tryz.prog 8 #[.agg #[.slice A1 text.length c1, .int .i64 ent, .slice A2 ml c2]] w (BE (checkI text ml ent).1 (outN text ml ent) (outR text ent) w)
theorem ZP.lists {L : List (List Int)} {w w' : World} {e : Ending} (h : ZP L w e w') : ZR L w e w' := by
  obtain ⟨A, c, vs, he, hz, hb⟩ := h
  exact ⟨A, c, he, hz.ints, hb⟩


end Go.Proofs.YtgkdagnpefgjcaaGreat
