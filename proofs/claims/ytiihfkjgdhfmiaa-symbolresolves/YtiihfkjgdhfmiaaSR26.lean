/-
  What is asked of an object, answer by answer, as plain mathematics; no Go in sight. The zero value of the array of marks; no condition. What is asked of an object, as a list of closures; no condition.
-/
import Derived.Test.YtiihfkjgdhfmiaaProg
import Derived.WalkKit
import Derived.WalkSpells
import Derived.WalkLawsBesides
import Derived.RowKit3
import Derived.Below
import Derived.Deep.QuietTactic
import Derived.BigQuiet
import Derived.WalkSmall
import Derived.Test.YtiihfkjgdhfmiaaSR02
import Derived.Test.YtiihfkjgdhfmiaaSR20
import Derived.Test.YtiihfkjgdhfmiaaSR01
import Derived.Test.YtiihfkjgdhfmiaaSR18
import Derived.Great.BuildSlice
namespace Go.Proofs.Ytiihfkjgdhfmiaa
open Go.RowKit

def ansQ (nm : ByteArray) (code : List Int) (dA : Int) (nd : Nat) (ss : List Sym) (rs : List Rel) : Nat → Int × Int
  | 0 => (rfs (!nameOK nm) 20, rfs (!nameOK nm) (-1))
  | 1 => (rfs (decide (16384 < code.length)) 21, rfs (decide (16384 < code.length)) (-1))
  | 2 => (rfs (decide (256 < ss.length)) 21, rfs (decide (256 < ss.length)) (-2))
  | 3 => (rfs (decide (code.length < rs.length)) 21, rfs (decide (code.length < rs.length)) (-3))
  | 4 => (rfs (!decide (0 ≤ dA ∧ (nd : Int) ≤ 4096 - dA)) 25, rfs (!decide (0 ≤ dA ∧ (nd : Int) ≤ 4096 - dA)) (-1))
  | 5 => symC ss code.length
  | 6 => relC rs code ss.length
  | 7 => codC code
  | _ => (0, 0)
theorem rfs_zero {b : Bool} {e : Int} (he : ¬ e = 0) (h : rfs b e = 0) : b = false := by
  cases b with
  | false => rfl
  | true => exact absurd h he
theorem rfs_not {b : Bool} {e : Int} (h : ¬ rfs b e = 0) : b = true := by
  cases b with
  | false => exact absurd rfl h
  | true => rfl
theorem z0 {nm : ByteArray} {code : List Int} {dA : Int} {nd : Nat} {ss : List Sym} {rs : List Rel} (h : (ansQ nm code dA nd ss rs 0).1 = 0) : ¬ nameOK nm = false := by
  have := rfs_zero (by omega) h
  simpa using this
theorem z1 {nm : ByteArray} {code : List Int} {dA : Int} {nd : Nat} {ss : List Sym} {rs : List Rel} (h : (ansQ nm code dA nd ss rs 1).1 = 0) : ¬ 16384 < code.length := of_decide_eq_false (rfs_zero (by omega) h)
theorem z2 {nm : ByteArray} {code : List Int} {dA : Int} {nd : Nat} {ss : List Sym} {rs : List Rel} (h : (ansQ nm code dA nd ss rs 2).1 = 0) : ¬ 256 < ss.length := of_decide_eq_false (rfs_zero (by omega) h)
theorem z3 {nm : ByteArray} {code : List Int} {dA : Int} {nd : Nat} {ss : List Sym} {rs : List Rel} (h : (ansQ nm code dA nd ss rs 3).1 = 0) : ¬ code.length < rs.length := of_decide_eq_false (rfs_zero (by omega) h)
theorem z4 {nm : ByteArray} {code : List Int} {dA : Int} {nd : Nat} {ss : List Sym} {rs : List Rel} (h : (ansQ nm code dA nd ss rs 4).1 = 0) : ¬ (dA < 0 ∨ 4096 < dA ∨ 4096 - dA < (nd : Int)) := by
  have := rfs_zero (by omega) h
  rw [Bool.not_eq_false'] at this
  have := of_decide_eq_true this
  omega
theorem cod_zero {code : List Int} (h : (codC code).1 = 0) : codC code = (0, 0) := by
  unfold codC at h ⊢
  split at h
  · next h1 => rw [if_pos h1]
  · omega
theorem size_zero {nm : ByteArray} {code : List Int} {dA : Int} {nd : Nat} {ss : List Sym} {rs : List Rel} {k : Nat} (h : ∀ j, j < k → (ansQ nm code dA nd ss rs j).1 = 0) (hk : 5 ≤ k) : sizeC (nameOK nm) code.length ss.length rs.length nd dA = (0, 0) := by
  unfold sizeC; rw [if_neg (z0 (h 0 (by omega))), if_neg (z1 (h 1 (by omega))), if_neg (z2 (h 2 (by omega))), if_neg (z3 (h 3 (by omega))), if_neg (z4 (h 4 (by omega)))]
theorem ans_hit {nm : ByteArray} {code : List Int} {dA : Int} {nd : Nat} {ss : List Sym} {rs : List Rel} : ∀ (k : Nat), k < 8 → (∀ j, j < k → (ansQ nm code dA nd ss rs j).1 = 0) → ¬ (ansQ nm code dA nd ss rs k).1 = 0 → checkC nm code dA nd ss rs = ansQ nm code dA nd ss rs k
  | 0, _, _, e => by
    have hb : (!nameOK nm) = true := rfs_not e
    have hn : nameOK nm = false := by simpa using hb
    have hs : sizeC (nameOK nm) code.length ss.length rs.length nd dA = (20, -1) := by unfold sizeC; rw [if_pos hn]
    unfold checkC ansQ
    rw [hs, if_pos (by simp), hb]; rfl
  | 1, _, h, e => by
    have hb := rfs_not e
    have hs : sizeC (nameOK nm) code.length ss.length rs.length nd dA = (21, -1) := by unfold sizeC; rw [if_neg (z0 (h 0 (by omega))), if_pos (of_decide_eq_true hb)]
    unfold checkC ansQ
    rw [hs, if_pos (by simp), hb]; rfl
  | 2, _, h, e => by
    have hb := rfs_not e
    have hs : sizeC (nameOK nm) code.length ss.length rs.length nd dA = (21, -2) := by unfold sizeC; rw [if_neg (z0 (h 0 (by omega))), if_neg (z1 (h 1 (by omega))), if_pos (of_decide_eq_true hb)]
    unfold checkC ansQ
    rw [hs, if_pos (by simp), hb]; rfl
  | 3, _, h, e => by
    have hb := rfs_not e
    have hs : sizeC (nameOK nm) code.length ss.length rs.length nd dA = (21, -3) := by unfold sizeC; rw [if_neg (z0 (h 0 (by omega))), if_neg (z1 (h 1 (by omega))), if_neg (z2 (h 2 (by omega))), if_pos (of_decide_eq_true hb)]
    unfold checkC ansQ
    rw [hs, if_pos (by simp), hb]; rfl
  | 4, _, h, e => by
    have hb := rfs_not e
    have hx : dA < 0 ∨ 4096 < dA ∨ 4096 - dA < (nd : Int) := by
      have hb' := hb
      rw [Bool.not_eq_true'] at hb'
      have := of_decide_eq_false hb'
      omega
    have hs : sizeC (nameOK nm) code.length ss.length rs.length nd dA = (25, -1) := by unfold sizeC; rw [if_neg (z0 (h 0 (by omega))), if_neg (z1 (h 1 (by omega))), if_neg (z2 (h 2 (by omega))), if_neg (z3 (h 3 (by omega))), if_pos hx]
    unfold checkC ansQ
    rw [hs, if_pos (by simp), hb]; rfl
  | 5, _, h, e => by
    have hs := size_zero (nm := nm) (nd := nd) (dA := dA) h (by omega)
    unfold checkC
    rw [hs, if_neg (by simp), if_pos (show ¬ (symC ss code.length).1 = 0 from e)]; rfl
  | 6, _, h, e => by
    have hs := size_zero (nm := nm) (nd := nd) (dA := dA) h (by omega)
    unfold checkC
    rw [hs, if_neg (by simp), if_neg (by simpa using (show (symC ss code.length).1 = 0 from h 5 (by omega))), if_pos (show ¬ (relC rs code ss.length).1 = 0 from e)]; rfl
  | 7, _, h, _ => by
    have hs := size_zero (nm := nm) (nd := nd) (dA := dA) h (by omega)
    unfold checkC
    rw [hs, if_neg (by simp), if_neg (by simpa using (show (symC ss code.length).1 = 0 from h 5 (by omega))), if_neg (by simpa using (show (relC rs code ss.length).1 = 0 from h 6 (by omega)))]; rfl
  | k + 8, hk, _, _ => by omega
theorem ans_none {nm : ByteArray} {code : List Int} {dA : Int} {nd : Nat} {ss : List Sym} {rs : List Rel} (h : ∀ j, j < 8 → (ansQ nm code dA nd ss rs j).1 = 0) : checkC nm code dA nd ss rs = (0, 0) := by
  have hs := size_zero (nm := nm) (nd := nd) (dA := dA) h (by omega)
  unfold checkC
  rw [hs, if_neg (by simp), if_neg (by simpa using (show (symC ss code.length).1 = 0 from h 5 (by omega))), if_neg (by simpa using (show (relC rs code ss.length).1 = 0 from h 6 (by omega)))]
  exact cod_zero (h 7 (by omega))




end Go.Proofs.Ytiihfkjgdhfmiaa

namespace Go.Proofs.Ytiihfkjgdhfmiaa
open Go.RowKit

/-- So many bools, each false. -/
def chkF : List Value → Nat → Bool
  | [], 0 => true
  | (.bool false) :: l, n + 1 => chkF l n
  | _, _ => false
theorem chkF_ok : ∀ (l : List Value) (n : Nat), chkF l n = true → l.length = n ∧ ∀ i, i < n → l[i]? = some (.bool false)
  | [], 0, _ => ⟨rfl, fun i h => by omega⟩
  | (.bool false) :: l, n + 1, h => by
    obtain ⟨h1, h2⟩ := chkF_ok l n h
    refine ⟨by simp [h1], fun i hi => ?_⟩
    cases i with
    | zero => rfl
    | succ i => simpa using h2 i (by omega)
def zeroIs (o : Option TypeInfo) (n : Nat) : Bool := match o with
  | some i => (match i.zero with
    | some (.agg cs) => chkF cs.toList n
    | _ => false)
  | none => false
theorem zero73_ok : zeroIs (Try.prog.info? 103) 16384 = true := by kernel_rfl
theorem zero73 : ∃ cs : Array Value, cs.size = 16384 ∧ (∀ i, i < 16384 → cs[i]? = some (.bool false)) ∧ ∀ w : World, (zeroValue 103).run Try.prog w = .ok (.agg cs) w := by
  have h := zero73_ok
  unfold zeroIs at h
  cases hi : Try.prog.info? 103 with
  | none => rw [hi] at h; cases h
  | some i =>
    rw [hi] at h
    simp only [] at h
    cases hz : i.zero with
    | none => rw [hz] at h; cases h
    | some v =>
      rw [hz] at h
      cases v with
      | agg cs =>
        simp only [] at h
        obtain ⟨h1, h2⟩ := chkF_ok _ _ h
        refine ⟨cs, by simpa using h1, fun i hi => by simpa using h2 i hi, fun w => ?_⟩
        simp [zeroValue, typeInfo, hi, hz]
      | _ => cases h




end Go.Proofs.Ytiihfkjgdhfmiaa

namespace Go.Proofs.Ytiihfkjgdhfmiaa
open Go.RowKit

set_option maxRecDepth 100000 in
set_option maxHeartbeats 1000000 in
theorem questions_raw (nm : ByteArray) (dA : Int) (A1 A2 A3 A4 : Option Addr) (nc c1 nd c2 ns c3 nr c4 : Nat) (cs : Array Value) (hz : ∀ w : World, (zeroValue 103).run Try.prog w = .ok (.agg cs) w) (w : World) :
    Calls Try.prog 52 #[.agg #[.string nm, .slice A1 nc c1, .int .i64 dA, .slice A2 nd c2, .slice A3 ns c3, .slice A4 nr c4]] w fun e w' => e = .returned (.slice (some ⟨w.heap.size + 2, 0, none⟩) 8 8) ∧ w' = ((w.alloc (.cells #[.string nm, .slice A1 nc c1, .int .i64 dA, .slice A2 nd c2, .slice A3 ns c3, .slice A4 nr c4] 49)).alloc (.cells cs 103)).alloc (.cells #[.func (.func 57) #[] #[.pointer (some ⟨w.heap.size, 0, none⟩)], .func (.func 60) #[] #[.pointer (some ⟨w.heap.size, 0, none⟩)], .func (.func 61) #[] #[.pointer (some ⟨w.heap.size, 0, none⟩)], .func (.func 62) #[] #[.pointer (some ⟨w.heap.size, 0, none⟩)], .func (.func 63) #[] #[.pointer (some ⟨w.heap.size, 0, none⟩)], .func (.func 65) #[] #[.pointer (some ⟨w.heap.size, 0, none⟩)], .func (.func 67) #[] #[.pointer (some ⟨w.heap.size, 0, none⟩), .pointer (some ⟨w.heap.size + 1, 0, none⟩)], .func (.func 69) #[] #[.pointer (some ⟨w.heap.size, 0, none⟩), .pointer (some ⟨w.heap.size + 1, 0, none⟩)]] 100) := by
  have hmf := mkFn
  go_enter Try.func52, Try.ntmps52
  go_wp2
  go_ret
  exact ⟨rfl, rfl⟩




end Go.Proofs.Ytiihfkjgdhfmiaa
