/-
  A map of marks in memory: which places it has. What gather answers.
-/
import Derived.Test.YtpmaiblgnblpeaaDoorProg
import Derived.WalkKit
import Derived.WalkSpells
import Derived.WalkLawsBesides
import Derived.RowKit3
import Derived.Below
import Derived.Deep.QuietTactic
import Derived.BigQuiet
import Derived.WalkSmall
import Derived.Laws.Rows
import Derived.Maps.OwnSet
import Derived.Maps.Own
import Derived.Maps.OwnOps
import Derived.Test.YtpmaiblgnblpeaaDoorPf14
import Derived.Deep.AppendLies
import Derived.Deep.DeepCutAuto
import Derived.Deep.RegionHeld3
import Derived.Great.BuildSlice
import Derived.Laws.BitsAllLaws
import Derived.Laws.CopyOwn
import Derived.Laws.Tables
import Derived.Test.YtpmaiblgnblpeaaDoorPf08
namespace Go.Proofs.YtpmaiblgnblpeaaDoor
open Go.RowKit

open Go.Maps Go.WideMaps
theorem lawI : Keyed Tryd.prog 3 := int_keyed Tryd.underlying3
/-- A map of marks, of at most n places. -/
def Mks (w : World) (b n : Nat) (f : Int → Bool) : Prop := ∃ D : DataW Unit, w.ownsMap Tryd.prog 3 unitElem b n D ∧ ∀ x : Int, Maps.has D (.int .i64 x) = f x
theorem Mks.made (w : World) : Mks (w.alloc (.map #[] 0)) w.heap.size 0 noF := ⟨_, World.ownsMap_made w Tryd.prog 3 unitElem, fun _x => rfl⟩
theorem Mks.lt {w : World} {b n : Nat} {f : Int → Bool} (h : Mks w b n f) : b < w.heap.size := by
  obtain ⟨D, h, _⟩ := h
  exact h.lt
theorem Mks.below {w w1 : World} {B b n : Nat} {f : Int → Bool} (h : Mks w b n f) (hb : Below B w w1) (hB : b < B) : Mks w1 b n f := by
  obtain ⟨D, ⟨es, clock, h1, h2⟩, h3⟩ := h
  exact ⟨D, ⟨es, clock, by rw [hb.block b hB]; exact h1, h2⟩, h3⟩
theorem Mks.keep {w w1 : World} {b n : Nat} {f : Int → Bool} (h : Mks w b n f) (hb : Below w.heap.size w w1) : Mks w1 b n f := h.below hb h.lt
theorem Mks.kept {w w1 : World} {b n : Nat} {row : Option Nat} {f : Int → Bool} (h : Mks w b n f) (hg : w.grownBy w1 row) (hne : some b ≠ row) : Mks w1 b n f := by
  obtain ⟨D, h1, h3⟩ := h
  exact ⟨D, h1.kept hg hne, h3⟩
theorem Mks.fit {w : World} {b n : Nat} {f g : Int → Bool} (h : Mks w b n f) (e : ∀ x, f x = g x) : Mks w b n g := by
  obtain ⟨D, h, h3⟩ := h
  exact ⟨D, h, fun s => by rw [← e s]; exact h3 s⟩
theorem Mks.more {w : World} {b n m : Nat} {f : Int → Bool} (h : Mks w b n f) (hn : n ≤ m) : Mks w b m f := by
  obtain ⟨D, h, h3⟩ := h
  exact ⟨D, h.mono hn, h3⟩
theorem keyI {x : Int} (h0 : -9223372036854775808 ≤ x) (h1 : x ≤ 9223372036854775807) : keyOf Tryd.prog 3 (.int .i64 x) = some (.int .i64 x) := keyOf_int_mk Tryd.underlying3 (WalkArith.wf_i64 (by omega))






end Go.Proofs.YtpmaiblgnblpeaaDoor

namespace Go.Proofs.YtpmaiblgnblpeaaDoor
open Go.RowKit

/-- The places that are told: none, if the image may not be. -/
def outL (text : List Int) (ml : Nat) (ent : Int) (f : Int → Bool) : List Int := if (checkI text ml ent).1 = 0 then plcT f text.length else []
theorem outL_ok {text : List Int} {ml : Nat} {ent : Int} {f : Int → Bool} (h : (checkI text ml ent).1 = 0) : outL text ml ent f = plcT f text.length := if_pos h
theorem outL_no {text : List Int} {ml : Nat} {ent : Int} {f : Int → Bool} (h : ¬ (checkI text ml ent).1 = 0) : outL text ml ent f = [] := if_neg h
def GatP (E : Int) (ps : List Int) (w : World) (e : Ending) (w' : World) : Prop :=
  ∃ (A : Option Addr) (c : Nat), e = .returned (.tuple #[.slice A ps.length c, .int .i64 E]) ∧ w'.ownsRow w.heap.size 3 1 (.slice A ps.length c) ps.length (iVals .i64 ps) ∧ Below w.heap.size w w'
theorem gat_no {text : List Int} {ml : Nat} {ent : Int} {f : Int → Bool} (h : ¬ (checkI text ml ent).1 = 0) {w w' : World} (hb : Below w.heap.size w w') : GatP (checkI text ml ent).1 (outL text ml ent f) w (.returned (.tuple #[.slice none 0 0, .int .i64 (checkI text ml ent).1])) w' := by
  rw [outL_no h]
  exact ⟨none, 0, rfl, World.ownsRow_nil _ _ _ _, hb⟩
theorem infoI : ∃ i, Tryd.prog.info? 3 = some i ∧ i.zero = some (.int .i64 0) ∧ i.size = 1 ∧ i.bytes = 8 :=
  ⟨(Tryd.prog.info? 3).get (by kernel_rfl), by kernel_rfl, by kernel_rfl, by kernel_rfl, by kernel_rfl⟩
theorem one_oneI {x : Int} : ∀ u ∈ [Value.int .i64 x], u.oneCell' = true := fun u hu => by
  simp only [List.mem_cons, List.not_mem_nil, or_false] at hu
  rw [hu]; rfl
theorem own_sl {w : World} {b n : Nat} {e : TypeId} {sz : Nat} {v : Value} {xs : List Value} (h : w.ownsRow b e sz v n xs) : ∃ A c, v = .slice A n c := own_form h
/-- A row stays where a map is written. -/
theorem row_map {w w1 : World} {base : Nat} {e : TypeId} {sz : Nat} {v : Value} {n : Nat} {xs : List Value} {b : Nat} (h : w.ownsRow base e sz v n xs) (hg : w.grownBy w1 (some b)) (hb : ∀ cs t, w.heap[b]? ≠ some (.cells cs t (0, 0))) : w1.ownsRow base e sz v n xs := by
  refine h.kept hg ?_
  rcases h.2 with ⟨rfl, _⟩ | ⟨g, cap, cur, rfl, _, hg2, _⟩
  · exact .inl rfl
  · refine .inr fun e => ?_
    cases e
    exact hb _ _ hg2









end Go.Proofs.YtpmaiblgnblpeaaDoor
