/-
  What every statement of this seat shares: that what was read stays read where only new memory is made, and how a law ends that returned true; no condition. errors.As at an error that is a refusal: facts on the entries that it comes to. Instructions and their words, as plain functions of numbers; no Go in sight. Instructions and their words, there and back, as plain functions of numbers; no Go in sight. Where an instruction goes, as plain functions of numbers; no Go in sight. Lists, and how they lie in memory; no Go in sight.
-/
import Derived.Test.YthpkekpojhmaaaaGreatDoorRows
import Derived.WalkKit
import Derived.ProofKit
import Derived.OpenShut
import Derived.Stop.Joined
import Derived.Carry
import Derived.Lib.SmallJoins
import Derived.SizedLaws
import Derived.Test.YthpkekpojhmaaaaGreatDoorProg
import Derived.WalkSpells
import Derived.WalkLawsBesides
import Derived.RowKit3
import Derived.Below
import Derived.Deep.QuietTactic
import Derived.BigQuiet
import Derived.WalkSmall
import Derived.Laws.Rows
import Derived.LaidEql
import Derived.Stop.Asserts
import Derived.RowKitTokens
import Derived.RowKit
namespace Go.Proofs.YthpkekpojhmaaaaGreatDoor
open Go.ChangeShapes Go.WideShapes Go.ChangeAt Go.RowKit Go.Joins

theorem own : ownKnob Tryz.prog.godebug = none := by kernel_rfl
theorem laidOut : laidOutB Tryz.prog = true := by kernel_rfl

/-- What was read stays read, argument by argument, where only new memory is made. -/
theorem trodAll_below {H : Type} {enc : TypeId × Value → H} {P : Program} (hl : laidOutB P = true) {W W' : World} (hb : Below W.heap.size W W') :
    ∀ (ts : List TypeId) (vs : List Value) (ds : List (DataW H)) (ps : List MemPlace), (∀ t ∈ ts, P.readableRec t = true ∧ t < P.types.size) →
      DataW.TrodAll enc P W 0 (fun _ => true) true ts vs ds ps → (∀ x ∈ ps, x.block < W.heap.size) →
      DataW.TrodAll enc P W' 0 (fun b => decide (b < W.heap.size)) true ts vs ds ps
  | [], vs, ds, ps, _, h, _ => by
    obtain ⟨rfl, rfl, rfl⟩ := trodAll_nil h
    exact trodAll_mk0
  | t :: ts, vs, ds, ps, hts, h, hlt => by
    obtain ⟨v, vs', d, ds', p, q, rfl, rfl, rfl, h0, h1⟩ := trodAll_cons h
    obtain ⟨hr, hrow⟩ := hts t (List.mem_cons_self ..)
    exact trodAll_cons_mk (Below.trod hl hr hrow h0 hb fun x hx => hlt x (List.mem_append_left _ hx))
      (trodAll_below hl hb ts vs' ds' q (fun u hu => hts u (List.mem_cons_of_mem _ hu)) h1 fun x hx => hlt x (List.mem_append_right _ hx))

/-- The end of a law that returned true and made new memory alone. -/
theorem law_post {H : Type} {enc : TypeId × Value → H} {P : Program} (hl : laidOutB P = true) {f : Func} {s : ChangeSpec} {tb : TypeId} (hv : s.vars = []) (hres : f.resultTypes = #[tb]) (hu : P.underlying tb = some .bool)
    (hts : ∀ t ∈ f.params.toList, P.readableRec t = true ∧ t < P.types.size) {W W' : World} {args : Array Value} {ds gs : List (DataW H)} {before : List MemPlace}
    (hW : DataW.Whole enc P f.params.toList s.vars false W args.toList ds gs before) (hfn : s.fn H (ds ++ gs) = { results := [.lit (.bool true)], args := ds }) (hb : Below W.heap.size W W') :
    s.post enc P f false true false false W args (.bool true) W' := by
  have hW' := hW
  obtain ⟨p, q, hA, hV, rfl, hfz, hnd⟩ := hW
  refine ⟨ds, gs, p ++ q, [], p, [], hW', ?_, ?_, ?_, hb.frame _, fun h => by cases h⟩
  · rw [hfn, hres]
    exact trodAll_mk1 (shut_bool hu true)
  · rw [hfn]
    exact trodAll_below hl hb _ _ _ _ hts hA fun x hx => hW'.lt x (List.mem_append_left _ hx)
  · rw [hfn, hv]
    rfl

theorem boundsOf {k : IntKind} {x : Int} (h : (Lit.int k x).wf = true) : k.min ≤ x ∧ x ≤ k.max := by
  simpa [Lit.wf] using h


end Go.Proofs.YthpkekpojhmaaaaGreatDoor

namespace Go.Proofs.YthpkekpojhmaaaaGreatDoor
open Go.RowKit


open Go.Extern.Stop Go.Stop Go.Extern

theorem as_nil (t : Value) (w : World) : Calls Tryz.prog 87 #[.nilIface, t] w fun e w' => e = .returned (.bool false) ∧ w' = w := by
  go_enter Tryz.func87, Tryz.ntmps87
  go_wp2
  go_ret
  exact ⟨rfl, rfl⟩
theorem as_val99 (t : Addr) (w : World) : (ReflectliteValue.unpack (.iface 163 (.pointer (some t)))).run Tryz.prog w = .ok (.agg #[.pointer (some ⟨4, 163, none⟩), .pointer (some ⟨w.heap.size, 0, none⟩), .int .u64 150]) (w.alloc (.cells #[.pointer (some t)] 163)) := by kernel_rfl
theorem as_type99 (a : Addr) (w : World) : (ReflectliteValue.methodAny (ReflectliteValue.valueError "reflectlite.Value.Type" 0) (fun t _ _ _ => ReflectliteType.toType t) #[.agg #[.pointer (some ⟨4, 163, none⟩), .pointer (some a), .int .u64 150]]).run Tryz.prog w = .ok (.iface 281 (.agg #[.pointer (some ⟨4, 163, none⟩)])) w := by kernel_rfl
theorem as_kind (h : Value) (w : World) : (Go.method 441 281 (.agg #[h]) "Kind").run Tryz.prog w = .ok (209, h) w := by kernel_rfl
theorem as_kind99 (w : World) : ((ReflectliteType.abiMethod fun t => (fun a : Nat => Value.int IntKind.u8 (a : Int)) <$> Rtype.kind t) #[.pointer (some ⟨4, 163, none⟩)]).run Tryz.prog w = .ok (.int .u8 22) w := by kernel_rfl
theorem as_kind97 (w : World) : ((ReflectliteType.abiMethod fun t => (fun a : Nat => Value.int IntKind.u8 (a : Int)) <$> Rtype.kind t) #[.pointer (some ⟨4, 161, none⟩)]).run Tryz.prog w = .ok (.int .u8 25) w := by kernel_rfl
theorem as_method (z : Sem Value) (f : TypeId → Addr → Nat → Nat → Sem Value) (v : Value) :
    ReflectliteValue.method z f #[v] = (do match ← ReflectliteValue.parts v with | none => z | some (t, a, fl) => f t a fl (fl % 32)) := rfl
theorem as_parts99 (a : Addr) (w : World) : (ReflectliteValue.parts (.agg #[.pointer (some ⟨4, 163, none⟩), .pointer (some a), .int .u64 150])).run Tryz.prog w = .ok (some (163, a, 150)) w := by kernel_rfl
theorem as_isNil99 (a p : Addr) (W : World) (ha : W.cell? a = some (.pointer (some p))) :
    (ReflectliteValue.method (ReflectliteValue.valueError "reflectlite.Value.IsNil" 0) ReflectliteValue.isNil #[.agg #[.pointer (some ⟨4, 163, none⟩), .pointer (some a), .int .u64 150]]).run Tryz.prog W = .ok (.bool false) W := by
  rw [as_method]
  simp only [Sem.run_bind, as_parts99, Result.andThen]
  simp [ReflectliteValue.isNil, loadVar, isAgg, underlying, Tryz.underlying163, ha, Result.andThen]
theorem as_elem (h : Value) (w : World) : (Go.method 441 281 (.agg #[h]) "Elem").run Tryz.prog w = .ok (220, .agg #[h]) w := by kernel_rfl
theorem as_impl (h : Value) (w : World) : (Go.method 441 281 (.agg #[h]) "Implements").run Tryz.prog w = .ok (221, .agg #[h]) w := by kernel_rfl
theorem as_asg (h : Value) (w : World) : (Go.method 441 281 (.agg #[h]) "AssignableTo").run Tryz.prog w = .ok (218, .agg #[h]) w := by kernel_rfl
theorem as_elem99 (w : World) : (ReflectliteType.method ReflectliteType.elem #[.agg #[.pointer (some ⟨4, 163, none⟩)]]).run Tryz.prog w = .ok (.iface 281 (.agg #[.pointer (some ⟨4, 161, none⟩)])) w := by kernel_rfl
theorem as_impl97 (w : World) : (ReflectliteType.relation "Implements" ReflectliteType.implements_ #[.agg #[.pointer (some ⟨4, 161, none⟩)], .iface 281 (.agg #[.pointer (some ⟨4, 154, none⟩)])]).run Tryz.prog w = .ok (.bool true) w := by kernel_rfl
theorem as_typeOf97 (v : Value) (w : World) : (ReflectliteType.typeOf #[.iface 161 v]).run Tryz.prog w = .ok (.iface 281 (.agg #[.pointer (some ⟨4, 161, none⟩)])) w := by kernel_rfl
theorem as_asg97 (w : World) : (ReflectliteType.relation "AssignableTo" ReflectliteType.assignableTo #[.agg #[.pointer (some ⟨4, 161, none⟩)], .iface 281 (.agg #[.pointer (some ⟨4, 161, none⟩)])]).run Tryz.prog w = .ok (.bool true) w := by kernel_rfl
theorem as_val97 (x y : Int) (w : World) : (ReflectliteValue.unpack (.iface 161 (.agg #[.int .i64 x, .int .i64 y]))).run Tryz.prog w = .ok (.agg #[.pointer (some ⟨4, 161, none⟩), .pointer (some ⟨w.heap.size, 0, none⟩), .int .u64 153]) (w.alloc (.cells #[.int .i64 x, .int .i64 y] 161)) := by kernel_rfl
theorem as_elemOf99 (w : World) : (Rtype.elem? 163).run Tryz.prog w = .ok (some 161) w := by kernel_rfl
theorem as_mk97 (p : Addr) (w : World) : (ReflectliteValue.mk 161 p ReflectliteValue.flagAddr).run Tryz.prog w = .ok (.agg #[.pointer (some ⟨4, 161, none⟩), .pointer (some p), .int .u64 409]) w := by kernel_rfl
theorem as_elemV99 (a p : Addr) (W : World) (ha : W.cell? a = some (.pointer (some p))) :
    (ReflectliteValue.method (ReflectliteValue.valueError "reflectlite.Value.Elem" 0) ReflectliteValue.elem #[.agg #[.pointer (some ⟨4, 163, none⟩), .pointer (some a), .int .u64 150]]).run Tryz.prog W = .ok (.agg #[.pointer (some ⟨4, 161, none⟩), .pointer (some p), .int .u64 409]) W := by
  rw [as_method]
  simp only [Sem.run_bind, as_parts99, Result.andThen]
  simp [ReflectliteValue.elem, loadVar, isAgg, underlying, Tryz.underlying163, ha, Result.andThen, as_elemOf99, as_mk97]
theorem as_parts97a (a : Addr) (w : World) : (ReflectliteValue.parts (.agg #[.pointer (some ⟨4, 161, none⟩), .pointer (some a), .int .u64 409])).run Tryz.prog w = .ok (some (161, a, 409)) w := by kernel_rfl
theorem as_parts97 (a : Addr) (w : World) : (ReflectliteValue.parts (.agg #[.pointer (some ⟨4, 161, none⟩), .pointer (some a), .int .u64 153])).run Tryz.prog w = .ok (some (161, a, 153)) w := by kernel_rfl
theorem as_direct97 (w : World) : (Rtype.directlyAssignable 161 161).run Tryz.prog w = .ok true w := by kernel_rfl
theorem as_load97 (b : Nat) (x y : Int) (W : World) (h0 : W.cell? ⟨b, 0, none⟩ = some (.int .i64 x)) (h1 : W.cell? ⟨b, 1, none⟩ = some (.int .i64 y)) : (loadVar 161 ⟨b, 0, none⟩).run Tryz.prog W = .ok (.agg #[.int .i64 x, .int .i64 y]) W := by
  simp [loadVar, go_sem, h0, h1]
theorem as_store97 (b : Nat) (x y : Int) (u v : Value) (W : World) (h0 : W.cell? ⟨b, 0, none⟩ = some u) (h1 : W.cell? ⟨b, 1, none⟩ = some v) (f0 : W.frozen? ⟨b, 0, none⟩ = false) (f1 : W.frozen? ⟨b, 1, none⟩ = false) : (storeVar 161 ⟨b, 0, none⟩ (.agg #[.int .i64 x, .int .i64 y])).run Tryz.prog W = .ok () ((W.setCell ⟨b, 0, none⟩ (.int .i64 x)).setCell ⟨b, 1, none⟩ (.int .i64 y)) := by
  simp [storeVar, go_sem, h0, h1, f0, f1]


end Go.Proofs.YthpkekpojhmaaaaGreatDoor

namespace Go.Proofs.YthpkekpojhmaaaaGreatDoor
open Go.RowKit

/-- Which fields an op has: D, A, B, N; whether its N is a place. -/
def hD (op : Int) : Bool := decide (op = 1 ∨ op = 2 ∨ (3 ≤ op ∧ op ≤ 11) ∨ op = 13 ∨ op = 20)
def hA (op : Int) : Bool := decide ((2 ≤ op ∧ op ≤ 12) ∨ op = 14 ∨ op = 16 ∨ op = 18 ∨ op = 19)
def hB (op : Int) : Bool := decide ((3 ≤ op ∧ op ≤ 10) ∨ op = 12)
def hN (op : Int) : Bool := decide (op = 1 ∨ op = 11 ∨ op = 12 ∨ (14 ≤ op ∧ op ≤ 17) ∨ op = 20)
def hP (op : Int) : Bool := decide ((15 ≤ op ∧ op ≤ 17) ∨ op = 20)
/-- May a register's field be r? -/
def regOK (h : Bool) (r : Int) : Bool := if h then decide (0 ≤ r ∧ r < 16) else decide (r = 0)
/-- May N be x? -/
def numOK (n p : Bool) (x : Int) : Bool := if n then (if p then decide (0 ≤ x ∧ x < 16384) else decide (-16384 ≤ x ∧ x ≤ 16383)) else decide (x = 0)
def insOK (op d a b n : Int) : Bool := regOK (hD op) d && regOK (hA op) a && regOK (hB op) b && numOK (hN op) (hP op) n
/-- The word. -/
def encW (op d a b n : Int) : Int := op * 134217728 + d * 8388608 + a * 524288 + b * 32768 + n % 32768
/-- Encode's word and error. -/
def encV (op d a b n : Int) : Int := if op < 0 ∨ 21 < op then 0 else if insOK op d a b n then encW op d a b n else 0
def encE (op d a b n : Int) : Int := if op < 0 ∨ 21 < op then 10 else if insOK op d a b n then 0 else 11
/-- The fields of a word. -/
def wOp (w : Int) : Int := w / 134217728
def wD (w : Int) : Int := w / 8388608 % 16
def wA (w : Int) : Int := w / 524288 % 16
def wB (w : Int) : Int := w / 32768 % 16
def wN (w : Int) : Int := if hN (wOp w) && !hP (wOp w) && decide (16384 ≤ w % 32768) then w % 32768 - 32768 else w % 32768
/-- Is a word an instruction? -/
def isIns (w : Int) : Bool := decide (wOp w ≤ 21) && insOK (wOp w) (wD w) (wA w) (wB w) (wN w)
/-- What Decode tells. -/
def dOp (w : Int) : Int := if isIns w then wOp w else -1
def dD (w : Int) : Int := if isIns w then wD w else 0
def dA (w : Int) : Int := if isIns w then wA w else 0
def dB (w : Int) : Int := if isIns w then wB w else 0
def dN (w : Int) : Int := if isIns w then wN w else w
/-- Is N's number below nought? -/
def nNeg (w : Int) : Bool := hN (w / 134217728) && !hP (w / 134217728) && decide (16384 ≤ w % 32768)

theorem wN_neg {w : Int} (h : nNeg w = true) : wN w = w % 32768 - 32768 := by
  unfold nNeg at h; unfold wN wOp; rw [h]; rfl
theorem wN_pos {w : Int} (h : nNeg w = false) : wN w = w % 32768 := by
  unfold nNeg at h; unfold wN wOp; rw [h]; rfl
theorem encW_fields (w : Int) : encW (wOp w) (wD w) (wA w) (wB w) (wN w) = w := by
  unfold encW
  have e : wN w % 32768 = w % 32768 := by
    cases h : nNeg w
    · rw [wN_pos h]; omega
    · rw [wN_neg h]; omega
  rw [e]
  unfold wOp wD wA wB
  omega
theorem enc_yes {w : Int} (h0 : 0 ≤ w) (h1 : w < 4294967296) (h : isIns w = true) : encV (wOp w) (wD w) (wA w) (wB w) (wN w) = w ∧ encE (wOp w) (wD w) (wA w) (wB w) (wN w) = 0 := by
  have hw := encW_fields w
  unfold isIns at h
  rw [Bool.and_eq_true, decide_eq_true_eq] at h
  have hop : 0 ≤ wOp w := by unfold wOp; omega
  have hneg : ¬ (wOp w < 0 ∨ 21 < wOp w) := by omega
  unfold encV encE
  rw [if_neg hneg, if_neg hneg, if_pos h.2, if_pos h.2, hw]
  exact ⟨rfl, rfl⟩
theorem enc_no {w : Int} (h0 : 0 ≤ w) (h : isIns w = false) : encV (wOp w) (wD w) (wA w) (wB w) (wN w) = 0 ∧ (encE (wOp w) (wD w) (wA w) (wB w) (wN w) = 10 ∨ encE (wOp w) (wD w) (wA w) (wB w) (wN w) = 11) := by
  unfold isIns at h
  have hop : 0 ≤ wOp w := by unfold wOp; omega
  unfold encV encE
  by_cases hb : wOp w < 0 ∨ 21 < wOp w
  · rw [if_pos hb, if_pos hb]; exact ⟨rfl, Or.inl rfl⟩
  · rw [if_neg hb, if_neg hb]
    have hle : wOp w ≤ 21 := by omega
    rw [decide_eq_true hle, Bool.true_and] at h
    rw [h]; exact ⟨rfl, Or.inr rfl⟩
/-- Does an op end a block? -/
def endsB (op : Int) : Bool := decide (op = -1 ∨ op = 0 ∨ op = 15 ∨ op = 16 ∨ op = 17 ∨ op = 18 ∨ op = 19 ∨ op = 21)
/-- Is a word one with a place? -/
def isT (w : Int) : Bool := decide (0 ≤ dOp w) && hP (dOp w)
def tgV (w : Int) : Int := if isT w then dN w else 0
/-- Aim's word and error. -/
def aimV (w p : Int) : Int := if isT w && decide (0 ≤ p ∧ p < 16384) then encV (dOp w) (dD w) (dA w) (dB w) p else 0
def aimE (w p : Int) : Int := if isT w then (if decide (0 ≤ p ∧ p < 16384) then encE (dOp w) (dD w) (dA w) (dB w) p else 11) else 10






end Go.Proofs.YthpkekpojhmaaaaGreatDoor

namespace Go.Proofs.YthpkekpojhmaaaaGreatDoor
open Go.RowKit

theorem take_same {α : Type} {zs ys : List α} {z : α} {k : Nat} (h : zs.take k = ys.take k) (h1 : k < zs.length) (h2 : k < ys.length) (e : zs.getD k z = ys.getD k z) : zs.take (k + 1) = ys.take (k + 1) := by
  rw [List.take_succ_eq_append_getElem h1, List.take_succ_eq_append_getElem h2, h]
  have : zs[k] = ys[k] := by simpa [List.getD, h1, h2] using e
  rw [this]
theorem take_all {α : Type} {zs ys : List α} {k : Nat} (h : zs.take k = ys.take k) (h1 : zs.length ≤ k) (h2 : zs.length = ys.length) : zs = ys := by
  rw [List.take_of_length_le h1, List.take_of_length_le (by omega)] at h
  exact h
theorem ne_at {α : Type} {zs ys : List α} {z : α} {k : Nat} (e : ¬ zs.getD k z = ys.getD k z) : ¬ zs = ys := fun h => e (by rw [h])
theorem retB {a b : Bool} (h : a = b) : Ending.returned (.bool a) = .returned (.bool b) := by rw [h]
/-- The number at a place of a list. -/
def nth (zs : List Int) (k : Nat) : Int := zs.getD k 0
abbrev Sym := ByteArray × Int × Int
abbrev Rel := Int × Int
def symD : Sym := (⟨#[]⟩, 0, 0)
def sName (l : List Sym) (k : Nat) : ByteArray := (l.getD k symD).1
def sKind (l : List Sym) (k : Nat) : Int := (l.getD k symD).2.1
def sAt (l : List Sym) (k : Nat) : Int := (l.getD k symD).2.2
def rAt (l : List Rel) (k : Nat) : Int := (l.getD k (0, 0)).1
def rSym (l : List Rel) (k : Nat) : Int := (l.getD k (0, 0)).2
/-- How a list lies in memory: each cell of each item. -/
def IntsAt (w : World) (A : Option Addr) (K : IntKind) (zs : List Int) : Prop := ∀ i, i < zs.length → ∃ a : Addr, A = some a ∧ w.cell? (a.add i) = some (.int K (nth zs i))
def SymsAt (w : World) (A : Option Addr) (zs : List Sym) : Prop := ∀ i, i < zs.length → ∃ a : Addr, A = some a ∧ w.cell? (a.add (i * 3)) = some (.string (sName zs i)) ∧ w.cell? ((a.add (i * 3)).add 1) = some (.int .i8 (sKind zs i)) ∧ w.cell? ((a.add (i * 3)).add 2) = some (.int .i64 (sAt zs i))
def RelsAt (w : World) (A : Option Addr) (zs : List Rel) : Prop := ∀ i, i < zs.length → ∃ a : Addr, A = some a ∧ w.cell? (a.add (i * 2)) = some (.int .i64 (rAt zs i)) ∧ w.cell? ((a.add (i * 2)).add 1) = some (.int .i64 (rSym zs i))
theorem lb_alloc {w w1 : World} (h : Below w.heap.size w w1) (o : Obj) : Below w.heap.size w (w1.alloc o) := h.alloc h.size o
theorem lb_trans {w w1 w2 : World} (h : Below w.heap.size w w1) (k : Below w1.heap.size w1 w2) : Below w.heap.size w w2 := h.trans (k.mono h.size)
theorem lkeep {w w1 : World} (h : Below w.heap.size w w1) {p : Addr} {v : Value} (hc : w.cell? p = some v) : w1.cell? p = some v := by
  rw [h.cell (p := p) (World.block_lt_of_cell? w _ hc)]; exact hc
theorem IntsAt.keep {w w1 : World} {A : Option Addr} {K : IntKind} {zs : List Int} (h : IntsAt w A K zs) (hb : Below w.heap.size w w1) : IntsAt w1 A K zs := fun i hi => by
  obtain ⟨a, e, c⟩ := h i hi
  exact ⟨a, e, lkeep hb c⟩
theorem SymsAt.keep {w w1 : World} {A : Option Addr} {zs : List Sym} (h : SymsAt w A zs) (hb : Below w.heap.size w w1) : SymsAt w1 A zs := fun i hi => by
  obtain ⟨a, e, c, d, f⟩ := h i hi
  exact ⟨a, e, lkeep hb c, lkeep hb d, lkeep hb f⟩
theorem RelsAt.keep {w w1 : World} {A : Option Addr} {zs : List Rel} (h : RelsAt w A zs) (hb : Below w.heap.size w w1) : RelsAt w1 A zs := fun i hi => by
  obtain ⟨a, e, c, d⟩ := h i hi
  exact ⟨a, e, lkeep hb c, lkeep hb d⟩
theorem nth_ne {zs ys : List Int} {k : Nat} (e : ¬ nth zs k = nth ys k) : ¬ zs = ys := fun h => e (by rw [h])
theorem sym_same {zs ys : List Sym} {k : Nat} (e : sName zs k = sName ys k) (f : sKind zs k = sKind ys k) (g : sAt zs k = sAt ys k) : zs.getD k symD = ys.getD k symD := Prod.ext e (Prod.ext f g)
theorem rel_same {zs ys : List Rel} {k : Nat} (e : rAt zs k = rAt ys k) (f : rSym zs k = rSym ys k) : zs.getD k (0, 0) = ys.getD k (0, 0) := Prod.ext e f
/-- A row of cells, written up to k. -/
def wcur (f z : Nat → Value) (N k : Nat) : Array Value := ((List.range N).map fun i => if i < k then f i else z i).toArray
theorem wcur_size (f z : Nat → Value) (N k : Nat) : (wcur f z N k).size = N := by simp [wcur]
theorem wcur_get (f z : Nat → Value) (N k i : Nat) (h : i < N) : (wcur f z N k)[i]? = some (if i < k then f i else z i) := by simp [wcur, h]
theorem wcur_set (f z : Nat → Value) (N k : Nat) (h : k < N) : (wcur f z N k).setIfInBounds k (f k) = wcur f z N (k + 1) := by
  apply Array.ext_getElem?
  intro i
  by_cases hi : i < N
  · rw [wcur_get _ _ _ _ _ hi, Array.getElem?_setIfInBounds, wcur_size]
    by_cases hk : k = i
    · subst hk; simp [h]
    · rw [if_neg hk, wcur_get _ _ _ _ _ hi]
      by_cases h1 : i < k
      · simp [h1, show i < k + 1 by omega]
      · simp [h1, show ¬ i < k + 1 by omega]
  · rw [Array.getElem?_eq_none (by simp [wcur_size]; omega), Array.getElem?_eq_none (by simp [wcur_size]; omega)]
/-- The mark at a place. -/
def mark (i : Nat) : Int := 9437184 + i + 1
def wInt (k : IntKind) (zs : List Int) (i : Nat) : Value := if i < zs.length then .int k (nth zs i) else .int k (mark i)
def wSym (zs : List Sym) (i : Nat) : Value := if i / 3 < zs.length then (if i % 3 = 0 then .string (sName zs (i / 3)) else if i % 3 = 1 then .int .i8 (sKind zs (i / 3)) else .int .i64 (sAt zs (i / 3))) else (if i % 3 = 0 then .string ⟨#[]⟩ else if i % 3 = 1 then .int .i8 0 else .int .i64 (mark (i / 3)))
def zSym (i : Nat) : Value := if i % 3 = 0 then .string ⟨#[]⟩ else if i % 3 = 1 then .int .i8 0 else .int .i64 0
def wRel (zs : List Rel) (i : Nat) : Value := if i / 2 < zs.length then (if i % 2 = 0 then .int .i64 (rAt zs (i / 2)) else .int .i64 (rSym zs (i / 2))) else (if i % 2 = 0 then .int .i64 (mark (i / 2)) else .int .i64 0)






end Go.Proofs.YthpkekpojhmaaaaGreatDoor
