/-
  What every statement of this seat shares: that what was read stays read where only new memory is made, and how a law ends that returned true; no condition. The listed variables lie as the program's text lays them, in a world that the door leaves. Lists, and how they lie in memory; no Go in sight. Worlds that part in one block alone; no Go in sight.
-/
import Derived.Test.YtkdafkdogmemcaaDoorProg
import Derived.WalkKit
import Derived.ProofKit
import Derived.OpenShut
import Derived.Stop.Joined
import Derived.Carry
import Derived.Lib.SmallJoins
import Derived.SizedLaws
import Derived.WalkSpells
import Derived.WalkLawsBesides
import Derived.RowKit3
import Derived.Below
import Derived.Deep.QuietTactic
import Derived.BigQuiet
import Derived.WalkSmall
import Derived.Laws.Rows
import Derived.Test.YtkdafkdogmemcaaDoorRows
import Derived.Stop.LaidErr
import Derived.LaidSub
import Derived.LaidMore
import Derived.LaidHandle
import Derived.MakeChecks
namespace Go.Proofs.YtkdafkdogmemcaaDoor
open Go.ChangeShapes Go.WideShapes Go.ChangeAt Go.RowKit Go.Joins

theorem own : ownKnob Tryd.prog.godebug = none := by kernel_rfl
theorem laidOut : laidOutB Tryd.prog = true := by kernel_rfl

/-- What was read stays read, argument by argument, where only new memory is made. -/
theorem trodAll_below {H : Type} {enc : TypeId × Value → H} {P : Program} (hl : laidOutB P = true) {W W' : World} (hb : Below W.heap.size W W') :
    ∀ (ts : List TypeId) (vs : List Value) (ds : List (DataW H)) (ps : List MemPlace), (∀ t ∈ ts, P.readableRec t = true ∧ t < P.types.size) →
      DataW.TrodAll enc P W 0 (fun _ => true) true ts vs ds ps → (∀ x ∈ ps, x.block < W.heap.size) →
      DataW.TrodAll enc P W' 0 (fun b => decide (b < W.heap.size)) true ts vs ds ps
  | [], vs, ds, ps, _, h, _ => by
    obtain ⟨rfl, rfl, rfl⟩ := trodAll_nil h
    exact trodAll_mk0
  | t :: ts, vs, ds, ps, hts, h, hlt => by
    obtain ⟨v, vs', d, ds', p, q, rfl, rfl, rfl, h0, h1⟩ := trodAll_cons h
    obtain ⟨hr, hrow⟩ := hts t (List.mem_cons_self ..)
    exact trodAll_cons_mk (Below.trod hl hr hrow h0 hb fun x hx => hlt x (List.mem_append_left _ hx))
      (trodAll_below hl hb ts vs' ds' q (fun u hu => hts u (List.mem_cons_of_mem _ hu)) h1 fun x hx => hlt x (List.mem_append_right _ hx))

/-- The end of a law that returned true and made new memory alone. -/
theorem law_post {H : Type} {enc : TypeId × Value → H} {P : Program} (hl : laidOutB P = true) {f : Func} {s : ChangeSpec} {tb : TypeId} (hv : s.vars = []) (hres : f.resultTypes = #[tb]) (hu : P.underlying tb = some .bool)
    (hts : ∀ t ∈ f.params.toList, P.readableRec t = true ∧ t < P.types.size) {W W' : World} {args : Array Value} {ds gs : List (DataW H)} {before : List MemPlace}
    (hW : DataW.Whole enc P f.params.toList s.vars false W args.toList ds gs before) (hfn : s.fn H (ds ++ gs) = { results := [.lit (.bool true)], args := ds }) (hb : Below W.heap.size W W') :
    s.post enc P f false true false false W args (.bool true) W' := by
  have hW' := hW
  obtain ⟨p, q, hA, hV, rfl, hfz, hnd⟩ := hW
  refine ⟨ds, gs, p ++ q, [], p, [], hW', ?_, ?_, ?_, hb.frame _, fun h => by cases h⟩
  · rw [hfn, hres]
    exact trodAll_mk1 (shut_bool hu true)
  · rw [hfn]
    exact trodAll_below hl hb _ _ _ _ hts hA fun x hx => hW'.lt x (List.mem_append_left _ hx)
  · rw [hfn, hv]
    rfl

theorem boundsOf {k : IntKind} {x : Int} (h : (Lit.int k x).wf = true) : k.min ≤ x ∧ x ≤ k.max := by
  simpa [Lit.wf] using h






end Go.Proofs.YtkdafkdogmemcaaDoor

namespace Go.Proofs.YtkdafkdogmemcaaDoor
open Go.ChangeShapes Go.WideShapes Go.ChangeAt Go.RowKit Go.Joins

abbrev laid1 : List (String × DataW Unit) := Rows.pruneSpotsRow.laid
theorem door1_met (os : Os) (args : Array Value) : laidMetH Tryd.prog laid1 ((World.doorLaid Tryd.prog 24 os).forCall (fun _ _ => 0) ⟨#[], args, []⟩).memory :=
  laidMetH_of_parts3 (fuel := 8) (laidMet_of_run' 8 (by kernel_rfl) (by kernel_rfl)) (by kernel_rfl) (by kernel_rfl)

end Go.Proofs.YtkdafkdogmemcaaDoor

namespace Go.Proofs.YtkdafkdogmemcaaDoor
open Go.RowKit

theorem take_same {α : Type} {zs ys : List α} {z : α} {k : Nat} (h : zs.take k = ys.take k) (h1 : k < zs.length) (h2 : k < ys.length) (e : zs.getD k z = ys.getD k z) : zs.take (k + 1) = ys.take (k + 1) := by
  rw [List.take_succ_eq_append_getElem h1, List.take_succ_eq_append_getElem h2, h]
  have : zs[k] = ys[k] := by simpa [List.getD, h1, h2] using e
  rw [this]
theorem take_all {α : Type} {zs ys : List α} {k : Nat} (h : zs.take k = ys.take k) (h1 : zs.length ≤ k) (h2 : zs.length = ys.length) : zs = ys := by
  rw [List.take_of_length_le h1, List.take_of_length_le (by omega)] at h
  exact h
theorem ne_at {α : Type} {zs ys : List α} {z : α} {k : Nat} (e : ¬ zs.getD k z = ys.getD k z) : ¬ zs = ys := fun h => e (by rw [h])
theorem retB {a b : Bool} (h : a = b) : Ending.returned (.bool a) = .returned (.bool b) := by rw [h]
/-- The number at a place of a list. -/
def nth (zs : List Int) (k : Nat) : Int := zs.getD k 0
abbrev Sym := ByteArray × Int × Int
abbrev Rel := Int × Int
def symD : Sym := (⟨#[]⟩, 0, 0)
def sName (l : List Sym) (k : Nat) : ByteArray := (l.getD k symD).1
def sKind (l : List Sym) (k : Nat) : Int := (l.getD k symD).2.1
def sAt (l : List Sym) (k : Nat) : Int := (l.getD k symD).2.2
def rAt (l : List Rel) (k : Nat) : Int := (l.getD k (0, 0)).1
def rSym (l : List Rel) (k : Nat) : Int := (l.getD k (0, 0)).2
/-- How a list lies in memory: each cell of each item. -/
def IntsAt (w : World) (A : Option Addr) (K : IntKind) (zs : List Int) : Prop := ∀ i, i < zs.length → ∃ a : Addr, A = some a ∧ w.cell? (a.add i) = some (.int K (nth zs i))
def SymsAt (w : World) (A : Option Addr) (zs : List Sym) : Prop := ∀ i, i < zs.length → ∃ a : Addr, A = some a ∧ w.cell? (a.add (i * 3)) = some (.string (sName zs i)) ∧ w.cell? ((a.add (i * 3)).add 1) = some (.int .i8 (sKind zs i)) ∧ w.cell? ((a.add (i * 3)).add 2) = some (.int .i64 (sAt zs i))
def RelsAt (w : World) (A : Option Addr) (zs : List Rel) : Prop := ∀ i, i < zs.length → ∃ a : Addr, A = some a ∧ w.cell? (a.add (i * 2)) = some (.int .i64 (rAt zs i)) ∧ w.cell? ((a.add (i * 2)).add 1) = some (.int .i64 (rSym zs i))
theorem lb_alloc {w w1 : World} (h : Below w.heap.size w w1) (o : Obj) : Below w.heap.size w (w1.alloc o) := h.alloc h.size o
theorem lb_trans {w w1 w2 : World} (h : Below w.heap.size w w1) (k : Below w1.heap.size w1 w2) : Below w.heap.size w w2 := h.trans (k.mono h.size)
theorem lkeep {w w1 : World} (h : Below w.heap.size w w1) {p : Addr} {v : Value} (hc : w.cell? p = some v) : w1.cell? p = some v := by
  rw [h.cell (p := p) (World.block_lt_of_cell? w _ hc)]; exact hc
theorem IntsAt.keep {w w1 : World} {A : Option Addr} {K : IntKind} {zs : List Int} (h : IntsAt w A K zs) (hb : Below w.heap.size w w1) : IntsAt w1 A K zs := fun i hi => by
  obtain ⟨a, e, c⟩ := h i hi
  exact ⟨a, e, lkeep hb c⟩
theorem SymsAt.keep {w w1 : World} {A : Option Addr} {zs : List Sym} (h : SymsAt w A zs) (hb : Below w.heap.size w w1) : SymsAt w1 A zs := fun i hi => by
  obtain ⟨a, e, c, d, f⟩ := h i hi
  exact ⟨a, e, lkeep hb c, lkeep hb d, lkeep hb f⟩
theorem RelsAt.keep {w w1 : World} {A : Option Addr} {zs : List Rel} (h : RelsAt w A zs) (hb : Below w.heap.size w w1) : RelsAt w1 A zs := fun i hi => by
  obtain ⟨a, e, c, d⟩ := h i hi
  exact ⟨a, e, lkeep hb c, lkeep hb d⟩
theorem nth_ne {zs ys : List Int} {k : Nat} (e : ¬ nth zs k = nth ys k) : ¬ zs = ys := fun h => e (by rw [h])
theorem sym_same {zs ys : List Sym} {k : Nat} (e : sName zs k = sName ys k) (f : sKind zs k = sKind ys k) (g : sAt zs k = sAt ys k) : zs.getD k symD = ys.getD k symD := Prod.ext e (Prod.ext f g)
theorem rel_same {zs ys : List Rel} {k : Nat} (e : rAt zs k = rAt ys k) (f : rSym zs k = rSym ys k) : zs.getD k (0, 0) = ys.getD k (0, 0) := Prod.ext e f
/-- A row of cells, written up to k. -/
def wcur (f z : Nat → Value) (N k : Nat) : Array Value := ((List.range N).map fun i => if i < k then f i else z i).toArray
theorem wcur_size (f z : Nat → Value) (N k : Nat) : (wcur f z N k).size = N := by simp [wcur]
theorem wcur_get (f z : Nat → Value) (N k i : Nat) (h : i < N) : (wcur f z N k)[i]? = some (if i < k then f i else z i) := by simp [wcur, h]
theorem wcur_set (f z : Nat → Value) (N k : Nat) (h : k < N) : (wcur f z N k).setIfInBounds k (f k) = wcur f z N (k + 1) := by
  apply Array.ext_getElem?
  intro i
  by_cases hi : i < N
  · rw [wcur_get _ _ _ _ _ hi, Array.getElem?_setIfInBounds, wcur_size]
    by_cases hk : k = i
    · subst hk; simp [h]
    · rw [if_neg hk, wcur_get _ _ _ _ _ hi]
      by_cases h1 : i < k
      · simp [h1, show i < k + 1 by omega]
      · simp [h1, show ¬ i < k + 1 by omega]
  · rw [Array.getElem?_eq_none (by simp [wcur_size]; omega), Array.getElem?_eq_none (by simp [wcur_size]; omega)]
/-- The mark at a place. -/
def mark (i : Nat) : Int := 9437184 + i + 1
def wInt (k : IntKind) (zs : List Int) (i : Nat) : Value := if i < zs.length then .int k (nth zs i) else .int k (mark i)
def wSym (zs : List Sym) (i : Nat) : Value := if i / 3 < zs.length then (if i % 3 = 0 then .string (sName zs (i / 3)) else if i % 3 = 1 then .int .i8 (sKind zs (i / 3)) else .int .i64 (sAt zs (i / 3))) else (if i % 3 = 0 then .string ⟨#[]⟩ else if i % 3 = 1 then .int .i8 0 else .int .i64 (mark (i / 3)))
def zSym (i : Nat) : Value := if i % 3 = 0 then .string ⟨#[]⟩ else if i % 3 = 1 then .int .i8 0 else .int .i64 0
def wRel (zs : List Rel) (i : Nat) : Value := if i / 2 < zs.length then (if i % 2 = 0 then .int .i64 (rAt zs (i / 2)) else .int .i64 (rSym zs (i / 2))) else (if i % 2 = 0 then .int .i64 (mark (i / 2)) else .int .i64 0)










end Go.Proofs.YtkdafkdogmemcaaDoor

namespace Go.Proofs.YtkdafkdogmemcaaDoor
open Go.RowKit

/-- Nothing is other but what lies in block g, and new blocks. -/
def But (g : Nat) (w w' : World) : Prop := w'.os = w.os ∧ w'.tape = w.tape ∧ w'.output = w.output ∧ w.heap.size ≤ w'.heap.size ∧ ∀ k, k < w.heap.size → k ≠ g → w'.heap[k]? = w.heap[k]?
theorem But.refl (g : Nat) (w : World) : But g w w := ⟨rfl, rfl, rfl, Nat.le_refl _, fun _ _ _ => rfl⟩
theorem But.trans {g : Nat} {a b c : World} (h : But g a b) (k : But g b c) : But g a c :=
  ⟨k.1.trans h.1, k.2.1.trans h.2.1, k.2.2.1.trans h.2.2.1, Nat.le_trans h.2.2.2.1 k.2.2.2.1, fun i hi hn => (k.2.2.2.2 i (Nat.lt_of_lt_of_le hi h.2.2.2.1) hn).trans (h.2.2.2.2 i hi hn)⟩
theorem But.of {g : Nat} {w w' : World} (h : Below w.heap.size w w') : But g w w' := ⟨h.os, h.tape, h.output, h.size, fun k hk _ => h.block k hk⟩
theorem But.on {g : Nat} {a b c : World} (h : But g a b) (k : Below b.heap.size b c) : But g a c := h.trans (But.of k)
theorem But.set {g : Nat} {a b : World} (h : But g a b) (i : Nat) (v : Value) : But g a (b.setCell ⟨g, i, none⟩ v) :=
  h.trans ⟨rfl, rfl, rfl, Nat.le_of_eq (by simp [go_sem]), fun k _ hn => Below.heap_setCell _ _ _ _ hn⟩
theorem But.drewN {g : Nat} {a b : World} (h : But g a b) (n : Nat) : But g a (b.drewN n) := h
theorem But.cell {g : Nat} {w w' : World} (h : But g w w') {p : Addr} {v : Value} (hp : p.block ≠ g) (hc : w.cell? p = some v) : w'.cell? p = some v := by
  rw [World.cell?_of_block (w := w) (h.2.2.2.2 p.block (World.block_lt_of_cell? w _ hc) hp)]; exact hc
theorem But.below {g : Nat} {w0 w w' : World} (h : But g w w') (hb : Below w0.heap.size w0 w) (hg : w0.heap.size ≤ g) : Below w0.heap.size w0 w' :=
  ⟨h.1.trans hb.os, h.2.1.trans hb.tape, h.2.2.1.trans hb.output, Nat.le_trans hb.size h.2.2.2.1, fun k hk => (h.2.2.2.2 k (Nat.lt_of_lt_of_le hk hb.size) (by omega)).trans (hb.block k hk)⟩








end Go.Proofs.YtkdafkdogmemcaaDoor
