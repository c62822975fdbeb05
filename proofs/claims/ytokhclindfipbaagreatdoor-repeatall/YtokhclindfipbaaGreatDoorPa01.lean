/-
  What every statement of this seat shares: that what was read stays read where only new memory is made, and how a law ends that returned true; no condition. Lists, and how they lie in memory; no Go in sight. An image, or bytes, that came in, opened: the lists, where they lie; no condition. Where the listed variables lie; a world that meets this.
-/
import Derived.Test.YtokhclindfipbaaGreatDoorRows
import Derived.WalkKit
import Derived.ProofKit
import Derived.OpenShut
import Derived.Stop.Joined
import Derived.Carry
import Derived.Lib.SmallJoins
import Derived.SizedLaws
import Derived.Test.YtokhclindfipbaaGreatDoorProg
import Derived.WalkSpells
import Derived.WalkLawsBesides
import Derived.RowKit3
import Derived.Below
import Derived.Deep.SlicePairs
import Derived.Deep.Strs
import Derived.Deep.QuietTactic
import Derived.BigQuiet
import Derived.WalkSmall
import Derived.Laws.Rows
import Derived.Stop.LaidErr
import Derived.LaidSub
import Derived.LaidMore
import Derived.LaidHandle
import Derived.MakeChecks
namespace Go.Proofs.YtokhclindfipbaaGreatDoor
open Go.ChangeShapes Go.WideShapes Go.ChangeAt Go.RowKit Go.Joins

theorem own : ownKnob Tryz.prog.godebug = none := by kernel_rfl
theorem laidOut : laidOutB Tryz.prog = true := by kernel_rfl

/-- What was read stays read, argument by argument, where only new memory is made. -/
theorem trodAll_below {H : Type} {enc : TypeId × Value → H} {P : Program} (hl : laidOutB P = true) {W W' : World} (hb : Below W.heap.size W W') :
    ∀ (ts : List TypeId) (vs : List Value) (ds : List (DataW H)) (ps : List MemPlace), (∀ t ∈ ts, P.readableRec t = true ∧ t < P.types.size) →
      DataW.TrodAll enc P W 0 (fun _ => true) true ts vs ds ps → (∀ x ∈ ps, x.block < W.heap.size) →
      DataW.TrodAll enc P W' 0 (fun b => decide (b < W.heap.size)) true ts vs ds ps
  | [], vs, ds, ps, _, h, _ => by
    obtain ⟨rfl, rfl, rfl⟩ := trodAll_nil h
    exact trodAll_mk0
  | t :: ts, vs, ds, ps, hts, h, hlt => by
    obtain ⟨v, vs', d, ds', p, q, rfl, rfl, rfl, h0, h1⟩ := trodAll_cons h
    obtain ⟨hr, hrow⟩ := hts t (List.mem_cons_self ..)
    exact trodAll_cons_mk (Below.trod hl hr hrow h0 hb fun x hx => hlt x (List.mem_append_left _ hx))
      (trodAll_below hl hb ts vs' ds' q (fun u hu => hts u (List.mem_cons_of_mem _ hu)) h1 fun x hx => hlt x (List.mem_append_right _ hx))

/-- The end of a law that returned true and made new memory alone. -/
theorem law_post {H : Type} {enc : TypeId × Value → H} {P : Program} (hl : laidOutB P = true) {f : Func} {s : ChangeSpec} {tb : TypeId} (hv : s.vars = []) (hres : f.resultTypes = #[tb]) (hu : P.underlying tb = some .bool)
    (hts : ∀ t ∈ f.params.toList, P.readableRec t = true ∧ t < P.types.size) {W W' : World} {args : Array Value} {ds gs : List (DataW H)} {before : List MemPlace}
    (hW : DataW.Whole enc P f.params.toList s.vars false W args.toList ds gs before) (hfn : s.fn H (ds ++ gs) = { results := [.lit (.bool true)], args := ds }) (hb : Below W.heap.size W W') :
    s.post enc P f false true false false W args (.bool true) W' := by
  have hW' := hW
  obtain ⟨p, q, hA, hV, rfl, hfz, hnd⟩ := hW
  refine ⟨ds, gs, p ++ q, [], p, [], hW', ?_, ?_, ?_, hb.frame _, fun h => by cases h⟩
  · rw [hfn, hres]
    exact trodAll_mk1 (shut_bool hu true)
  · rw [hfn]
    exact trodAll_below hl hb _ _ _ _ hts hA fun x hx => hW'.lt x (List.mem_append_left _ hx)
  · rw [hfn, hv]
    rfl

theorem boundsOf {k : IntKind} {x : Int} (h : (Lit.int k x).wf = true) : k.min ≤ x ∧ x ≤ k.max := by
  simpa [Lit.wf] using h











end Go.Proofs.YtokhclindfipbaaGreatDoor

namespace Go.Proofs.YtokhclindfipbaaGreatDoor
open Go.RowKit

theorem take_same {α : Type} {zs ys : List α} {z : α} {k : Nat} (h : zs.take k = ys.take k) (h1 : k < zs.length) (h2 : k < ys.length) (e : zs.getD k z = ys.getD k z) : zs.take (k + 1) = ys.take (k + 1) := by
  rw [List.take_succ_eq_append_getElem h1, List.take_succ_eq_append_getElem h2, h]
  have : zs[k] = ys[k] := by simpa [List.getD, h1, h2] using e
  rw [this]
theorem take_all {α : Type} {zs ys : List α} {k : Nat} (h : zs.take k = ys.take k) (h1 : zs.length ≤ k) (h2 : zs.length = ys.length) : zs = ys := by
  rw [List.take_of_length_le h1, List.take_of_length_le (by omega)] at h
  exact h
theorem ne_at {α : Type} {zs ys : List α} {z : α} {k : Nat} (e : ¬ zs.getD k z = ys.getD k z) : ¬ zs = ys := fun h => e (by rw [h])
theorem retB {a b : Bool} (h : a = b) : Ending.returned (.bool a) = .returned (.bool b) := by rw [h]
/-- The number at a place of a list. -/
def nth (zs : List Int) (k : Nat) : Int := zs.getD k 0
abbrev Sym := ByteArray × Int × Int
abbrev Rel := Int × Int
def symD : Sym := (⟨#[]⟩, 0, 0)
def sName (l : List Sym) (k : Nat) : ByteArray := (l.getD k symD).1
def sKind (l : List Sym) (k : Nat) : Int := (l.getD k symD).2.1
def sAt (l : List Sym) (k : Nat) : Int := (l.getD k symD).2.2
def rAt (l : List Rel) (k : Nat) : Int := (l.getD k (0, 0)).1
def rSym (l : List Rel) (k : Nat) : Int := (l.getD k (0, 0)).2
/-- How a list lies in memory: each cell of each item. -/
def IntsAt (w : World) (A : Option Addr) (K : IntKind) (zs : List Int) : Prop := ∀ i, i < zs.length → ∃ a : Addr, A = some a ∧ w.cell? (a.add i) = some (.int K (nth zs i))
def SymsAt (w : World) (A : Option Addr) (zs : List Sym) : Prop := ∀ i, i < zs.length → ∃ a : Addr, A = some a ∧ w.cell? (a.add (i * 3)) = some (.string (sName zs i)) ∧ w.cell? ((a.add (i * 3)).add 1) = some (.int .i8 (sKind zs i)) ∧ w.cell? ((a.add (i * 3)).add 2) = some (.int .i64 (sAt zs i))
def RelsAt (w : World) (A : Option Addr) (zs : List Rel) : Prop := ∀ i, i < zs.length → ∃ a : Addr, A = some a ∧ w.cell? (a.add (i * 2)) = some (.int .i64 (rAt zs i)) ∧ w.cell? ((a.add (i * 2)).add 1) = some (.int .i64 (rSym zs i))
theorem lb_alloc {w w1 : World} (h : Below w.heap.size w w1) (o : Obj) : Below w.heap.size w (w1.alloc o) := h.alloc h.size o
theorem lb_trans {w w1 w2 : World} (h : Below w.heap.size w w1) (k : Below w1.heap.size w1 w2) : Below w.heap.size w w2 := h.trans (k.mono h.size)
theorem lkeep {w w1 : World} (h : Below w.heap.size w w1) {p : Addr} {v : Value} (hc : w.cell? p = some v) : w1.cell? p = some v := by
  rw [h.cell (p := p) (World.block_lt_of_cell? w _ hc)]; exact hc
theorem IntsAt.keep {w w1 : World} {A : Option Addr} {K : IntKind} {zs : List Int} (h : IntsAt w A K zs) (hb : Below w.heap.size w w1) : IntsAt w1 A K zs := fun i hi => by
  obtain ⟨a, e, c⟩ := h i hi
  exact ⟨a, e, lkeep hb c⟩
theorem SymsAt.keep {w w1 : World} {A : Option Addr} {zs : List Sym} (h : SymsAt w A zs) (hb : Below w.heap.size w w1) : SymsAt w1 A zs := fun i hi => by
  obtain ⟨a, e, c, d, f⟩ := h i hi
  exact ⟨a, e, lkeep hb c, lkeep hb d, lkeep hb f⟩
theorem RelsAt.keep {w w1 : World} {A : Option Addr} {zs : List Rel} (h : RelsAt w A zs) (hb : Below w.heap.size w w1) : RelsAt w1 A zs := fun i hi => by
  obtain ⟨a, e, c, d⟩ := h i hi
  exact ⟨a, e, lkeep hb c, lkeep hb d⟩
theorem nth_ne {zs ys : List Int} {k : Nat} (e : ¬ nth zs k = nth ys k) : ¬ zs = ys := fun h => e (by rw [h])
theorem sym_same {zs ys : List Sym} {k : Nat} (e : sName zs k = sName ys k) (f : sKind zs k = sKind ys k) (g : sAt zs k = sAt ys k) : zs.getD k symD = ys.getD k symD := Prod.ext e (Prod.ext f g)
theorem rel_same {zs ys : List Rel} {k : Nat} (e : rAt zs k = rAt ys k) (f : rSym zs k = rSym ys k) : zs.getD k (0, 0) = ys.getD k (0, 0) := Prod.ext e f
/-- A row of cells, written up to k. -/
def wcur (f z : Nat → Value) (N k : Nat) : Array Value := ((List.range N).map fun i => if i < k then f i else z i).toArray
theorem wcur_size (f z : Nat → Value) (N k : Nat) : (wcur f z N k).size = N := by simp [wcur]
theorem wcur_get (f z : Nat → Value) (N k i : Nat) (h : i < N) : (wcur f z N k)[i]? = some (if i < k then f i else z i) := by simp [wcur, h]
theorem wcur_set (f z : Nat → Value) (N k : Nat) (h : k < N) : (wcur f z N k).setIfInBounds k (f k) = wcur f z N (k + 1) := by
  apply Array.ext_getElem?
  intro i
  by_cases hi : i < N
  · rw [wcur_get _ _ _ _ _ hi, Array.getElem?_setIfInBounds, wcur_size]
    by_cases hk : k = i
    · subst hk; simp [h]
    · rw [if_neg hk, wcur_get _ _ _ _ _ hi]
      by_cases h1 : i < k
      · simp [h1, show i < k + 1 by omega]
      · simp [h1, show ¬ i < k + 1 by omega]
  · rw [Array.getElem?_eq_none (by simp [wcur_size]; omega), Array.getElem?_eq_none (by simp [wcur_size]; omega)]
/-- The mark at a place. -/
def mark (i : Nat) : Int := 9437184 + i + 1
def wInt (k : IntKind) (zs : List Int) (i : Nat) : Value := if i < zs.length then .int k (nth zs i) else .int k (mark i)
def wSym (zs : List Sym) (i : Nat) : Value := if i / 3 < zs.length then (if i % 3 = 0 then .string (sName zs (i / 3)) else if i % 3 = 1 then .int .i8 (sKind zs (i / 3)) else .int .i64 (sAt zs (i / 3))) else (if i % 3 = 0 then .string ⟨#[]⟩ else if i % 3 = 1 then .int .i8 0 else .int .i64 (mark (i / 3)))
def zSym (i : Nat) : Value := if i % 3 = 0 then .string ⟨#[]⟩ else if i % 3 = 1 then .int .i8 0 else .int .i64 0
def wRel (zs : List Rel) (i : Nat) : Value := if i / 2 < zs.length then (if i % 2 = 0 then .int .i64 (rAt zs (i / 2)) else .int .i64 (rSym zs (i / 2))) else (if i % 2 = 0 then .int .i64 (mark (i / 2)) else .int .i64 0)















end Go.Proofs.YtokhclindfipbaaGreatDoor

namespace Go.Proofs.YtokhclindfipbaaGreatDoor
open Go.ChangeShapes Go.WideShapes Go.ChangeAt Go.RowKit Go.Joins

theorem open_i {H : Type} {enc : TypeId × Value → H} {W : World} {base : Nat} {sp : Nat → Bool} {held : Bool} {fuel : Nat} {cs : List Value} {x : DataW H × List MemPlace} {t e : TypeId} {k : IntKind} (ht : Tryz.prog.underlying t = some (.slice e)) (he : Tryz.prog.underlying e = some (.int k)) (hc : Tryz.prog.cellsOf e = 1) (h : DataW.trod enc Tryz.prog W base sp held fuel t cs = some x) :
    ∃ (O : Option Addr) (cap : Nat) (zs : List Int), cs = [.slice O zs.length cap] ∧ IntsAt W O k zs ∧ zs.length ≤ maxLen ∧ (∀ i, i < zs.length → (Lit.int k (nth zs i)).wf = true) ∧ (O = none → cap = 0) := by
  rcases open_ints ht he hc h with ⟨rfl, _⟩ | ⟨a, len, cap, zs, rfl, _, hl, hm, hz, _, hcell, hwf⟩
  · exact ⟨none, 0, [], rfl, fun i hi => by simp at hi, by simp, fun i hi => by simp at hi, fun _ => rfl⟩
  · have hlen : len ≤ zs.length := by rw [hz]; split <;> omega
    have hn : ∀ i, i < len → nth (zs.take len) i = zs.getD i 0 := fun i hi => by simp [nth, List.getD, hi]
    have hl2 : (zs.take len).length = len := by rw [List.length_take, Nat.min_eq_left hlen]
    refine ⟨some a, cap, zs.take len, by rw [hl2], ?_, by omega, ?_, fun h => by cases h⟩
    · intro i hi
      rw [hl2] at hi
      exact ⟨a, rfl, by rw [hn i hi]; exact hcell i (by omega)⟩
    · intro i hi
      rw [hl2] at hi
      rw [hn i hi]
      refine hwf _ ?_
      simp [List.getD, show i < zs.length by omega]
set_option maxRecDepth 100000 in
theorem open_bs {H : Type} {enc : TypeId × Value → H} {W : World} {b0 base : Nat} {sp : Nat → Bool} {held : Bool} {v : Value} {d : DataW H} {p : List MemPlace} (hv : Value.okWide Tryz.prog W .any b0 121 v) (h : DataW.Trod enc Tryz.prog W base sp held 121 v d p) :
    ∃ (O : Option Addr) (cap : Nat) (zs : List Int), v = .slice O zs.length cap ∧ IntsAt W O .u8 zs ∧ zs.length ≤ maxLen ∧ (∀ i, i < zs.length → 0 ≤ nth zs i ∧ nth zs i < 256) ∧ (O = none → cap = 0) := by
  obtain ⟨a, len, c, rfl⟩ := okWide_slice Tryz.underlying121 hv
  obtain ⟨fuel, hf⟩ := h
  obtain ⟨O, cap, zs, e, k, hl, hwf, u⟩ := open_i Tryz.underlying121 Tryz.underlying5 (by kernel_rfl) hf
  refine ⟨O, cap, zs, ?_, k, hl, fun i hi => ?_, u⟩
  · simpa [Value.cells] using e
  · have := hwf i hi
    simp [Lit.wf, IntKind.min, IntKind.max, IntKind.signed, IntKind.bits] at this
    omega

theorem three {cs : Array Value} (h : cs.size = 3) : ∃ a b c, cs = #[a, b, c] := by
  obtain ⟨l⟩ := cs
  match l, h with
  | [a, b, c], _ => exact ⟨a, b, c, rfl⟩
set_option maxRecDepth 100000 in
theorem openImg {H : Type} {enc : TypeId × Value → H} {W : World} {b0 base : Nat} {spare : Nat → Bool} {held : Bool} {v : Value} {d : DataW H} {p : List MemPlace}
    (hv : Value.okWide Tryz.prog W .any b0 25 v) (h : DataW.Trod enc Tryz.prog W base spare held 25 v d p) :
    ∃ (ent : Int) (A1 A2 : Option Addr) (c1 c2 : Nat) (text mem : List Int), v = .agg #[.slice A1 text.length c1, .int .i64 ent, .slice A2 mem.length c2] ∧
      IntsAt W A1 .u32 text ∧ IntsAt W A2 .i64 mem ∧ (∀ i, i < text.length → 0 ≤ nth text i ∧ nth text i < 4294967296) ∧ (∀ i, i < mem.length → -9223372036854775808 ≤ nth mem i ∧ nth mem i < 9223372036854775808) ∧ (A1 = none → c1 = 0) ∧ (A2 = none → c2 = 0) := by
  obtain ⟨cs, rfl, hsz⟩ := okWide_struct Tryz.underlying25 hv
  obtain ⟨v0, v1, v2, rfl⟩ := three (hsz.trans (by kernel_rfl))
  obtain ⟨fuel, hf⟩ := h
  obtain ⟨xs, n, _, hdd, _, hlen, hf⟩ := DataW.trod_struct Tryz.underlying25 hf
  match xs, hlen with
  | [y0, y1, y2], _ =>
    have h0 := hf 0 _ rfl
    have h1 := hf 1 _ rfl
    have h2 := hf 2 _ rfl
    simp [Value.cells, show Tryz.prog.cellsOf 22 = 1 by kernel_rfl, show Tryz.prog.cellsOf 3 = 1 by kernel_rfl, show Tryz.prog.cellsOf 23 = 1 by kernel_rfl] at h0 h1 h2
    obtain ⟨A1, c1, text, e0, k0, _, r0, u1⟩ := open_i Tryz.underlying22 Tryz.underlying93 (by kernel_rfl) h0
    obtain ⟨ent, e1, _, _⟩ := DataW.trod_int Tryz.underlying3 h1
    obtain ⟨A2, c2, mem, e2, k2, _, r2, u2⟩ := open_i Tryz.underlying23 Tryz.underlying2 (by kernel_rfl) h2
    simp at e0 e1 e2
    subst e0 e1 e2
    refine ⟨ent, A1, A2, c1, c2, text, mem, rfl, k0, k2, fun i hi => ?_, fun i hi => ?_, u1, u2⟩
    · have := r0 i hi
      simp [Lit.wf, IntKind.min, IntKind.max, IntKind.signed, IntKind.bits] at this
      omega
    · have := r2 i hi
      simp [Lit.wf, IntKind.min, IntKind.max, IntKind.signed, IntKind.bits] at this
      omega



end Go.Proofs.YtokhclindfipbaaGreatDoor

namespace Go.Proofs.YtokhclindfipbaaGreatDoor
open Go.ChangeShapes Go.WideShapes Go.ChangeAt Go.RowKit Go.Joins

abbrev laid1 : List (String × DataW Unit) := Rows.repeatAllRow.laid
theorem door1_met (os : Os) (args : Array Value) : laidMetH Tryz.prog laid1 ((World.doorLaid Tryz.prog 40 os).forCall (fun _ _ => 0) ⟨#[], args, []⟩).memory :=
  laidMetH_of_parts3 (fuel := 8) (laidMet_of_run' 8 (by kernel_rfl) (by kernel_rfl)) (by kernel_rfl) (by kernel_rfl)

end Go.Proofs.YtokhclindfipbaaGreatDoor
