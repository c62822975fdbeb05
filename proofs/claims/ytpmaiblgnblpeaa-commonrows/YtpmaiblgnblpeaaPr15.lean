/-
  Lists of lists of numbers, how they lie in memory. CopyInts of the document: a list of its own.
-/
import Derived.Test.YtpmaiblgnblpeaaProg
import Derived.WalkKit
import Derived.WalkSpells
import Derived.WalkLawsBesides
import Derived.RowKit3
import Derived.Below
import Derived.Deep.QuietTactic
import Derived.BigQuiet
import Derived.WalkSmall
import Derived.Laws.Rows
import Derived.Deep.AppendLies
import Derived.Test.YtpmaiblgnblpeaaPr08
import Derived.Test.YtpmaiblgnblpeaaPr13
import Derived.Test.YtpmaiblgnblpeaaPr07
import Derived.Deep.DeepCutAuto
import Derived.Deep.RegionHeld3
import Derived.Great.BuildSlice
import Derived.Laws.BitsAllLaws
import Derived.Laws.CopyOwn
import Derived.Laws.Tables
import Derived.Test.YtpmaiblgnblpeaaPr11
import Derived.Test.YtpmaiblgnblpeaaPr14
namespace Go.Proofs.Ytpmaiblgnblpeaa
open Go.RowKit

def rowZ (L : List (List Int)) (i : Nat) : List Int := L.getD i []
/-- A list of lists of its own: each row a block of its own behind base. -/
structure RowsZ (w : World) (base : Nat) (V : Value) (vs : List Value) (L : List (List Int)) : Prop where
  bag : w.ownsRow base 22 1 V L.length vs
  row : ∀ i, i < L.length → w.ownsRow base 3 1 (vn vs i) (rowZ L i).length (iVals .i64 (rowZ L i))
/-- A list of lists, to be read. -/
def IntsZ (w : World) (A : Option Addr) (L : List (List Int)) : Prop := ∀ i, i < L.length → ∃ (a : Addr) (R : Option Addr) (k : Nat), A = some a ∧ w.cell? (a.add i) = some (.slice R (rowZ L i).length k) ∧ IntsAt w R .i64 (rowZ L i)
theorem IntsZ.keep {w w1 : World} {A : Option Addr} {L : List (List Int)} (h : IntsZ w A L) (hb : Below w.heap.size w w1) : IntsZ w1 A L := fun i hi => by
  obtain ⟨a, R, k, e, c, r⟩ := h i hi
  exact ⟨a, R, k, e, lkeep hb c, r.keep hb⟩
theorem RowsZ.nil (w : World) (base : Nat) : RowsZ w base (.slice none 0 0) [] [] := ⟨World.ownsRow_nil _ _ _ _, fun _i hi => absurd hi (Nat.not_lt_zero _)⟩
theorem RowsZ.keep {w w1 : World} {base : Nat} {V : Value} {vs : List Value} {L : List (List Int)} (h : RowsZ w base V vs L) (hb : Below w.heap.size w w1) : RowsZ w1 base V vs L := ⟨row_keep h.bag hb, fun i hi => row_keep (h.row i hi) hb⟩
theorem RowsZ.mono {w : World} {base b' : Nat} {V : Value} {vs : List Value} {L : List (List Int)} (h : RowsZ w base V vs L) (hb : b' ≤ base) : RowsZ w b' V vs L := ⟨ownsRow_mono h.bag hb, fun i hi => ownsRow_mono (h.row i hi) hb⟩
theorem RowsZ.len {w : World} {base : Nat} {V : Value} {vs : List Value} {L : List (List Int)} (h : RowsZ w base V vs L) : vs.length = L.length := by have := h.bag.1; omega
theorem row_other {w w1 : World} {b b2 : Nat} {e e2 : TypeId} {sz sz2 n n2 : Nat} {v v2 : Value} {xs xs2 : List Value} (h : w.ownsRow b e sz v n xs) (h2 : w.ownsRow b2 e2 sz2 v2 n2 xs2) (hne : e ≠ e2) (hg : w.grownBy w1 v2.ownBlock) : w1.ownsRow b e sz v n xs := by
  refine h.kept hg ?_
  rcases h.2 with ⟨rfl, _⟩ | ⟨g, cap, cur, rfl, _, hg1, _⟩
  · exact .inl rfl
  · refine .inr fun e => ?_
    rcases h2.2 with ⟨rfl, _⟩ | ⟨g2, cap2, cur2, rfl, _, hg2, _⟩
    · cases e
    · cases e
      rw [hg1] at hg2
      injection hg2 with hg2
      injection hg2 with _ hh
      exact hne hh
/-- One row more. -/
theorem RowsZ.add {w w1 : World} {base : Nat} {V V1 r : Value} {vs : List Value} {L : List (List Int)} {l : List Int} (h : RowsZ w base V vs L) (hr : w.ownsRow base 3 1 r l.length (iVals .i64 l)) (h1 : w1.ownsRow base 22 1 V1 (L.length + 1) (vs ++ [r])) (hg : w.grownBy w1 V.ownBlock) : RowsZ w1 base V1 (vs ++ [r]) (L ++ [l]) := by
  refine ⟨by simpa using h1, fun i hi => ?_⟩
  have hl := h.len
  by_cases he : i < L.length
  · have a : vn (vs ++ [r]) i = vn vs i := vn_old vs r i (by omega)
    have b : rowZ (L ++ [l]) i = rowZ L i := by
      unfold rowZ
      rw [List.getD_eq_getElem?_getD, List.getD_eq_getElem?_getD, List.getElem?_append_left he]
    rw [a, b]
    exact row_other (h.row i he) h.bag (by decide) hg
  · have hi' : i = L.length := by simp at hi; omega
    subst hi'
    have a : vn (vs ++ [r]) L.length = r := by rw [← hl]; exact vn_last vs r
    have b : rowZ (L ++ [l]) L.length = l := by simp [rowZ]
    rw [a, b]
    exact row_other hr h.bag (by decide) hg
theorem RowsZ.row_other {w w1 : World} {base : Nat} {V : Value} {vs : List Value} {L : List (List Int)} {b n : Nat} {v : Value} {xs : List Value} (h : RowsZ w base V vs L) (hv : w.ownsRow b 3 1 v n xs) (hoff : ∀ i, i < L.length → ∀ k, (vn vs i).ownBlock = some k → v.ownBlock ≠ some k) (hg : w.grownBy w1 v.ownBlock) : RowsZ w1 base V vs L :=
  ⟨Go.Proofs.Ytpmaiblgnblpeaa.row_other h.bag hv (by decide) hg, fun i hi => by
    refine (h.row i hi).kept hg ?_
    cases hk : (vn vs i).ownBlock with
    | none => exact .inl rfl
    | some k => exact .inr fun e => hoff i hi k hk e.symm⟩
theorem RowsZ.ints {w : World} {base c n : Nat} {A : Option Addr} {vs : List Value} {L : List (List Int)} (h : RowsZ w base (.slice A n c) vs L) : IntsZ w A L := fun i hi => by
  obtain ⟨R, k, e⟩ := own_form (h.row i hi)
  have hr := h.row i hi
  rw [e] at hr
  rcases h.bag.2 with ⟨_, h0⟩ | ⟨j, cap, cur, hv, hb, hg, hc, _⟩
  · omega
  · cases hv
    have hl := h.len
    refine ⟨_, R, k, rfl, ?_, row_ints hr⟩
    refine h.bag.cells rfl i _ ?_
    rw [← e]
    unfold vn
    rw [List.getD_eq_getElem?_getD, List.getElem?_eq_getElem (by omega)]
    rfl
theorem infoS : ∃ i, Try.prog.info? 22 = some i ∧ i.zero = some (.slice none 0 0) ∧ i.size = 1 ∧ i.bytes = 24 :=
  ⟨(Try.prog.info? 22).get (by kernel_rfl), by kernel_rfl, by kernel_rfl, by kernel_rfl, by kernel_rfl⟩
theorem one_slice {A : Option Addr} {n c : Nat} : ∀ u ∈ [Value.slice A n c], u.oneCell' = true := fun u hu => by
  simp only [List.mem_cons, List.not_mem_nil, or_false] at hu
  rw [hu]; rfl
theorem rowZ_map {f : Nat → List Int} {n i : Nat} (h : i < n) : rowZ ((List.range n).map f) i = f i := by simp [rowZ, h]
def hasZ (l : List Int) (x : Int) : Bool := decide (x ∈ l)
/-- Edges turned round. -/
def backR (L : List (List Int)) (k : Nat) (y : Int) : Bool := hasZ (rowZ L y.toNat) (k : Int)
def backT (L : List (List Int)) (k : Nat) : List (List Int) := (List.range k).map fun j => plcT (backR L j) L.length
theorem backT_succ (L : List (List Int)) (k : Nat) : backT L (k + 1) = backT L k ++ [plcT (backR L k) L.length] := by simp [backT, List.range_succ]
theorem backT_len (L : List (List Int)) (k : Nat) : (backT L k).length = k := by simp [backT]
/-- An answer that is a list of lists. -/
def ZP (L : List (List Int)) (w : World) (e : Ending) (w' : World) : Prop := ∃ (A : Option Addr) (c : Nat) (vs : List Value), e = .returned (.slice A L.length c) ∧ RowsZ w' w.heap.size (.slice A L.length c) vs L ∧ Below w.heap.size w w'








end Go.Proofs.Ytpmaiblgnblpeaa

namespace Go.Proofs.Ytpmaiblgnblpeaa
open Go.RowKit

theorem copyints_any (O : Option Addr) (ca : Nat) (zs : List Int) (w : World) (hA : IntsAt w O .i64 zs) (h0 : O = none → ca = 0) (hz : zs.length ≤ 1048576) :
    Calls Try.prog 14 #[.slice O zs.length ca] w fun e w' => CopyP 3 1 zs.length (iVals .i64 zs) w e w' := by
  rw [← zNews_vals]
  obtain ⟨i0, hi, hz0, hz1, hz2⟩ := infoI
  cases O with
  | none =>
    obtain rfl := h0 rfl
    have hl : zs.length = 0 := by
      cases zs with
      | nil => rfl
      | cons x t => obtain ⟨a, e, _⟩ := hA 0 (by simp); cases e
    have hn : iNews .i64 zs = [] := by unfold iNews; rw [hl]; rfl
    rw [hl, hn]
    have hr := run_append_owned_none (P := Try.prog) (w := w) w.heap.size 22 22 3 i0 1 Try.underlying22 hi (.slice none 0 0) 0 [] (World.ownsRow_nil w _ _ _)
    go_enter Try.func14, Try.ntmps14
    go_wp2
    go_ret
    exact copyP_mk rfl (World.ownsRow_nil w _ _ _) (World.grownBy.refl w _)
  | some a =>
    go_enter Try.func14, Try.ntmps14
    go_wp2_with (at_builtin; refine wpList_append_own _ rfl (.tmp 4) (.tmp 5) 22 rfl w.heap.size 3 i0 (.int .i64 0) 1 8 Try.underlying22 hi hz0 hz1 hz2 rfl (by decide) (.slice none 0 0) 0 [] rfl (World.ownsRow_nil w _ _ _) a zs.length ca (iNews .i64 zs) rfl (by simp [iNews]) (iNews_cell hA) (iNews_one _ _) (by unfold maxLen; omega) (by omega) (Nat.le_refl _) ?_; intro v' w' hown hgrow hnil)
    go_ret
    exact copyP_mk rfl (by simpa using hown) hgrow







end Go.Proofs.Ytpmaiblgnblpeaa
