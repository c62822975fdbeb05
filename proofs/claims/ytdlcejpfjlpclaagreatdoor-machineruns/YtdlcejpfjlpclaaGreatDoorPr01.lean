/-
  What every statement of this seat shares: that what was read stays read where only new memory is made, and how a law ends that returned true; no condition. Instructions and their words, as plain functions of numbers; no Go in sight. Instructions and their words, there and back, as plain functions of numbers; no Go in sight.
-/
import Derived.Test.YtdlcejpfjlpclaaGreatDoorRows
import Derived.WalkKit
import Derived.ProofKit
import Derived.OpenShut
import Derived.Stop.Joined
import Derived.Carry
import Derived.Lib.SmallJoins
import Derived.SizedLaws
import Derived.Test.YtdlcejpfjlpclaaGreatDoorProg
import Derived.RowKit
namespace Go.Proofs.YtdlcejpfjlpclaaGreatDoor
open Go.ChangeShapes Go.WideShapes Go.ChangeAt Go.RowKit Go.Joins

theorem own : ownKnob Tryz.prog.godebug = none := by kernel_rfl
theorem laidOut : laidOutB Tryz.prog = true := by kernel_rfl

/-- What was read stays read, argument by argument, where only new memory is made. -/
theorem trodAll_below {H : Type} {enc : TypeId × Value → H} {P : Program} (hl : laidOutB P = true) {W W' : World} (hb : Below W.heap.size W W') :
    ∀ (ts : List TypeId) (vs : List Value) (ds : List (DataW H)) (ps : List MemPlace), (∀ t ∈ ts, P.readableRec t = true ∧ t < P.types.size) →
      DataW.TrodAll enc P W 0 (fun _ => true) true ts vs ds ps → (∀ x ∈ ps, x.block < W.heap.size) →
      DataW.TrodAll enc P W' 0 (fun b => decide (b < W.heap.size)) true ts vs ds ps
  | [], vs, ds, ps, _, h, _ => by
    obtain ⟨rfl, rfl, rfl⟩ := trodAll_nil h
    exact trodAll_mk0
  | t :: ts, vs, ds, ps, hts, h, hlt => by
    obtain ⟨v, vs', d, ds', p, q, rfl, rfl, rfl, h0, h1⟩ := trodAll_cons h
    obtain ⟨hr, hrow⟩ := hts t (List.mem_cons_self ..)
    exact trodAll_cons_mk (Below.trod hl hr hrow h0 hb fun x hx => hlt x (List.mem_append_left _ hx))
      (trodAll_below hl hb ts vs' ds' q (fun u hu => hts u (List.mem_cons_of_mem _ hu)) h1 fun x hx => hlt x (List.mem_append_right _ hx))

/-- The end of a law that returned true and made new memory alone. -/
theorem law_post {H : Type} {enc : TypeId × Value → H} {P : Program} (hl : laidOutB P = true) {f : Func} {s : ChangeSpec} {tb : TypeId} (hv : s.vars = []) (hres : f.resultTypes = #[tb]) (hu : P.underlying tb = some .bool)
    (hts : ∀ t ∈ f.params.toList, P.readableRec t = true ∧ t < P.types.size) {W W' : World} {args : Array Value} {ds gs : List (DataW H)} {before : List MemPlace}
    (hW : DataW.Whole enc P f.params.toList s.vars false W args.toList ds gs before) (hfn : s.fn H (ds ++ gs) = { results := [.lit (.bool true)], args := ds }) (hb : Below W.heap.size W W') :
    s.post enc P f false true false false W args (.bool true) W' := by
  have hW' := hW
  obtain ⟨p, q, hA, hV, rfl, hfz, hnd⟩ := hW
  refine ⟨ds, gs, p ++ q, [], p, [], hW', ?_, ?_, ?_, hb.frame _, fun h => by cases h⟩
  · rw [hfn, hres]
    exact trodAll_mk1 (shut_bool hu true)
  · rw [hfn]
    exact trodAll_below hl hb _ _ _ _ hts hA fun x hx => hW'.lt x (List.mem_append_left _ hx)
  · rw [hfn, hv]
    rfl

theorem boundsOf {k : IntKind} {x : Int} (h : (Lit.int k x).wf = true) : k.min ≤ x ∧ x ≤ k.max := by
  simpa [Lit.wf] using h


end Go.Proofs.YtdlcejpfjlpclaaGreatDoor

namespace Go.Proofs.YtdlcejpfjlpclaaGreatDoor
open Go.RowKit

/-- Which fields an op has: D, A, B, N; whether its N is a place. -/
def hD (op : Int) : Bool := decide (op = 1 ∨ op = 2 ∨ (3 ≤ op ∧ op ≤ 11) ∨ op = 13 ∨ op = 20)
def hA (op : Int) : Bool := decide ((2 ≤ op ∧ op ≤ 12) ∨ op = 14 ∨ op = 16 ∨ op = 18 ∨ op = 19)
def hB (op : Int) : Bool := decide ((3 ≤ op ∧ op ≤ 10) ∨ op = 12)
def hN (op : Int) : Bool := decide (op = 1 ∨ op = 11 ∨ op = 12 ∨ (14 ≤ op ∧ op ≤ 17) ∨ op = 20)
def hP (op : Int) : Bool := decide ((15 ≤ op ∧ op ≤ 17) ∨ op = 20)
/-- May a register's field be r? -/
def regOK (h : Bool) (r : Int) : Bool := if h then decide (0 ≤ r ∧ r < 16) else decide (r = 0)
/-- May N be x? -/
def numOK (n p : Bool) (x : Int) : Bool := if n then (if p then decide (0 ≤ x ∧ x < 16384) else decide (-16384 ≤ x ∧ x ≤ 16383)) else decide (x = 0)
def insOK (op d a b n : Int) : Bool := regOK (hD op) d && regOK (hA op) a && regOK (hB op) b && numOK (hN op) (hP op) n
/-- The word. -/
def encW (op d a b n : Int) : Int := op * 134217728 + d * 8388608 + a * 524288 + b * 32768 + n % 32768
/-- Encode's word and error. -/
def encV (op d a b n : Int) : Int := if op < 0 ∨ 21 < op then 0 else if insOK op d a b n then encW op d a b n else 0
def encE (op d a b n : Int) : Int := if op < 0 ∨ 21 < op then 10 else if insOK op d a b n then 0 else 11
/-- The fields of a word. -/
def wOp (w : Int) : Int := w / 134217728
def wD (w : Int) : Int := w / 8388608 % 16
def wA (w : Int) : Int := w / 524288 % 16
def wB (w : Int) : Int := w / 32768 % 16
def wN (w : Int) : Int := if hN (wOp w) && !hP (wOp w) && decide (16384 ≤ w % 32768) then w % 32768 - 32768 else w % 32768
/-- Is a word an instruction? -/
def isIns (w : Int) : Bool := decide (wOp w ≤ 21) && insOK (wOp w) (wD w) (wA w) (wB w) (wN w)



end Go.Proofs.YtdlcejpfjlpclaaGreatDoor

namespace Go.Proofs.YtdlcejpfjlpclaaGreatDoor
open Go.RowKit

/-- What Decode tells. -/
def dOp (w : Int) : Int := if isIns w then wOp w else -1
def dD (w : Int) : Int := if isIns w then wD w else 0
def dA (w : Int) : Int := if isIns w then wA w else 0
def dB (w : Int) : Int := if isIns w then wB w else 0
def dN (w : Int) : Int := if isIns w then wN w else w
/-- Is N's number below nought? -/
def nNeg (w : Int) : Bool := hN (w / 134217728) && !hP (w / 134217728) && decide (16384 ≤ w % 32768)

theorem wN_neg {w : Int} (h : nNeg w = true) : wN w = w % 32768 - 32768 := by
  unfold nNeg at h; unfold wN wOp; rw [h]; rfl
theorem wN_pos {w : Int} (h : nNeg w = false) : wN w = w % 32768 := by
  unfold nNeg at h; unfold wN wOp; rw [h]; rfl
theorem encW_fields (w : Int) : encW (wOp w) (wD w) (wA w) (wB w) (wN w) = w := by
  unfold encW
  have e : wN w % 32768 = w % 32768 := by
    cases h : nNeg w
    · rw [wN_pos h]; omega
    · rw [wN_neg h]; omega
  rw [e]
  unfold wOp wD wA wB
  omega
theorem enc_yes {w : Int} (h0 : 0 ≤ w) (h1 : w < 4294967296) (h : isIns w = true) : encV (wOp w) (wD w) (wA w) (wB w) (wN w) = w ∧ encE (wOp w) (wD w) (wA w) (wB w) (wN w) = 0 := by
  have hw := encW_fields w
  unfold isIns at h
  rw [Bool.and_eq_true, decide_eq_true_eq] at h
  have hop : 0 ≤ wOp w := by unfold wOp; omega
  have hneg : ¬ (wOp w < 0 ∨ 21 < wOp w) := by omega
  unfold encV encE
  rw [if_neg hneg, if_neg hneg, if_pos h.2, if_pos h.2, hw]
  exact ⟨rfl, rfl⟩
theorem enc_no {w : Int} (h0 : 0 ≤ w) (h : isIns w = false) : encV (wOp w) (wD w) (wA w) (wB w) (wN w) = 0 ∧ (encE (wOp w) (wD w) (wA w) (wB w) (wN w) = 10 ∨ encE (wOp w) (wD w) (wA w) (wB w) (wN w) = 11) := by
  unfold isIns at h
  have hop : 0 ≤ wOp w := by unfold wOp; omega
  unfold encV encE
  by_cases hb : wOp w < 0 ∨ 21 < wOp w
  · rw [if_pos hb, if_pos hb]; exact ⟨rfl, Or.inl rfl⟩
  · rw [if_neg hb, if_neg hb]
    have hle : wOp w ≤ 21 := by omega
    rw [decide_eq_true hle, Bool.true_and] at h
    rw [h]; exact ⟨rfl, Or.inr rfl⟩



end Go.Proofs.YtdlcejpfjlpclaaGreatDoor
