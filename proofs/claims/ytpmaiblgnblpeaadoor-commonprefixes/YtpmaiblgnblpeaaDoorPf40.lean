/-
  A bag in memory; one more list in it. Numbers as marks.
-/
import Derived.Test.YtpmaiblgnblpeaaDoorProg
import Derived.WalkKit
import Derived.WalkSpells
import Derived.WalkLawsBesides
import Derived.RowKit3
import Derived.Below
import Derived.Deep.QuietTactic
import Derived.BigQuiet
import Derived.WalkSmall
import Derived.Laws.Rows
import Derived.Test.YtpmaiblgnblpeaaDoorPf39
import Derived.Test.YtpmaiblgnblpeaaDoorPf08
import Derived.Test.YtpmaiblgnblpeaaDoorPf10
namespace Go.Proofs.YtpmaiblgnblpeaaDoor
open Go.RowKit


/-- A bag lies at B: its seventeen lists. -/
def BagIs (w : World) (B : Nat) (f : Nat → Value) : Prop := ∃ cs : Array Value, w.heap[B]? = some (.cells cs 52 (0, 0)) ∧ ∀ k, k < 17 → cs[k]? = some (f k)
def upd (f : Nat → Value) (K : Nat) (v : Value) : Nat → Value := fun k => if k = K then v else f k
theorem BagIs.cell {w : World} {B : Nat} {f : Nat → Value} (h : BagIs w B f) (k : Nat) (hk : k < 17) : w.cell? ⟨B, k, none⟩ = some (f k) := by
  obtain ⟨cs, h1, h2⟩ := h
  rw [cell_of_row w B k cs 52 (0, 0) h1]
  exact h2 k hk
theorem BagIs.fro {w : World} {B : Nat} {f : Nat → Value} (h : BagIs w B f) (k : Nat) : w.frozen? ⟨B, k, none⟩ = false := by
  obtain ⟨cs, h1, _⟩ := h
  exact frozen_of_row w B k cs 52 h1
theorem BagIs.lt {w : World} {B : Nat} {f : Nat → Value} (h : BagIs w B f) : B < w.heap.size := by
  obtain ⟨cs, h1, _⟩ := h
  exact (Array.getElem?_eq_some_iff.1 h1).1
theorem BagIs.keep {w w' : World} {B : Nat} {f : Nat → Value} (h : BagIs w B f) (e : w'.heap[B]? = w.heap[B]?) : BagIs w' B f := by
  obtain ⟨cs, h1, h2⟩ := h
  exact ⟨cs, e.trans h1, h2⟩
theorem BagIs.not {w : World} {B : Nat} {f : Nat → Value} (h : BagIs w B f) {e : TypeId} (he : e ≠ 52) : Not w e (some B) := fun b hb cur hc => by
  obtain ⟨cs, h1, _⟩ := h
  cases hb
  rw [h1] at hc
  simp only [Option.some.injEq, Obj.cells.injEq] at hc
  exact he hc.2.1.symm
theorem grown_set (w : World) (B k : Nat) (v : Value) : w.grownBy (w.setCell ⟨B, k, none⟩ v) (some B) :=
  ⟨rfl, rfl, rfl, by simp, fun b _ hb => heap_setCell_other w ⟨B, k, none⟩ b v (fun e => hb (by simp [e]))⟩
theorem BagIs.set {w : World} {B : Nat} {f : Nat → Value} (h : BagIs w B f) (K : Nat) (hK : K < 17) (v : Value) : BagIs (w.setCell ⟨B, K, none⟩ v) B (upd f K v) := by
  obtain ⟨cs, h1, h2⟩ := h
  refine ⟨cs.setIfInBounds K v, heap_setCell_same w B K cs 52 v h1, fun k hk => ?_⟩
  unfold upd
  rw [Array.getElem?_setIfInBounds]
  by_cases e : k = K
  · subst e
    have hlt : k < cs.size := (Array.getElem?_eq_some_iff.1 (h2 k hk)).1
    simp [hlt]
  · rw [if_neg (fun e2 => e e2.symm), if_neg e]
    exact h2 k hk
theorem BagIs.off {w : World} {B : Nat} {f : Nat → Value} (h : BagIs w B f) {base : Nat} {e : TypeId} {size : Nat} {v : Value} {n : Nat} {xs : List Value} (hv : w.ownsRow base e size v n xs) (he : e ≠ 52) : v.ownBlock ≠ some B := fun hb => by
  obtain ⟨cur, hc⟩ := own_block hv hb
  exact h.not he B rfl cur hc
/-- A list was put into a bag. -/
def Added (n B K : Nat) (TS : TypeId) (f : Nat → Value) (l : List Value) (v : Value) (w : World) (r : Ending) (w' : World) : Prop :=
  r = .returned (.tuple #[]) ∧ ∃ V, BagIs w' B (upd f K V) ∧ w'.ownsRow n TS 1 V (l.length + 1) (l ++ [v]) ∧ Below n w w' ∧ ∀ b, b < w.heap.size → b ≠ B → (f K).ownBlock ≠ some b → w'.heap[b]? = w.heap[b]?
theorem added {n B K : Nat} {TS : TypeId} {f : Nat → Value} {l : List Value} {v V : Value} {w w1 : World} (hTS : TS ≠ 52) (hK : K < 17) (hn : n ≤ B) (hb : BagIs w B f) (ho : w.ownsRow n TS 1 (f K) l.length l) (o : Obj) (ho1 : w1.ownsRow n TS 1 V (l.length + 1) (l ++ [v])) (hg : (w.alloc o).grownBy w1 (f K).ownBlock) : Added n B K TS f l v w (.returned (.tuple #[])) (w1.setCell ⟨B, K, none⟩ V) := by
  have hlt := hb.lt
  have hB1 : w1.heap[B]? = w.heap[B]? := by
    rw [hg.block B (by simp; omega) (fun e => hb.off ho hTS e.symm), Below.heap_alloc w o B hlt]
  have hb1 := hb.keep hB1
  refine ⟨rfl, V, hb1.set K hK V, own_other ho1 (grown_set _ _ _ _) (hb1.not hTS), ?_, fun b h1 h2 h3 => ?_⟩
  · refine Below.setCell ?_ hn _
    refine Below.grown ((Below.refl n w).alloc (by omega) o) hg (by simp; omega) (fun k hk => ?_)
    exact (ho.lt k hk).1
  · rw [heap_setCell_other _ _ _ _ (fun e => h2 e), hg.block b (by simp; omega) (fun e => h3 e.symm), Below.heap_alloc w o b h1]





end Go.Proofs.YtpmaiblgnblpeaaDoor

namespace Go.Proofs.YtpmaiblgnblpeaaDoor
open Go.RowKit


theorem num_wide (n i : Nat) (h0 : 0 ≤ n) (h1 : n ≤ 300) (h2 : 0 ≤ i) (h3 : i ≤ 2097152) (w : World) : Calls Tryd.prog 17 #[.int .i64 n, .int .i64 i] w fun e w' => e = .returned (.int .i64 (1048576 * (n : Int) + (i : Int) + 1)) ∧ w' = w := by
  go_enter Tryd.func17, Tryd.ntmps17
  go_wp2
  go_ret
  exact ⟨rfl, rfl⟩
theorem Wm.drew {T TS : TypeId} {size : Nat} {mk : Nat → Nat → List Value} {rs : List (Value × Nat)} {V : Value} {w0 w : World} {n i : Nat} (h : Wm T TS size mk rs V w0 w n i) : Wm T TS size mk rs V w0 w.drew n i :=
  ⟨h.wr, h.bag, h.fr.os, h.fr.tape, h.fr.output, h.fr.size, h.fr.block⟩
def mkL (n i : Nat) : List Value := [.int .i64 (1048576 * (n : Int) + (i : Int) + 1)]
theorem mkL_len (n i : Nat) : (mkL n i).length = 1 := rfl
def mkW (n i : Nat) : List Value := [.int .u32 (1048576 * (n : Int) + (i : Int) + 1)]
theorem mkW_len (n i : Nat) : (mkW n i).length = 1 := rfl






end Go.Proofs.YtpmaiblgnblpeaaDoor
