/-
  Package object: the later questions, each by what it answers; the lists are at most 2^20 long, names at most 2^47 bytes, words of 32 bits. What is asked of an object, answer by answer, as plain mathematics; no Go in sight. The zero value of the array of marks; no condition.
-/
import Derived.Test.YtiihfkjgdhfmiaaProg
import Derived.WalkKit
import Derived.WalkSpells
import Derived.WalkLawsBesides
import Derived.RowKit3
import Derived.Below
import Derived.Deep.QuietTactic
import Derived.BigQuiet
import Derived.WalkSmall
import Derived.Test.YtiihfkjgdhfmiaaSB22
import Derived.Test.YtiihfkjgdhfmiaaSB26
import Derived.Test.YtiihfkjgdhfmiaaSB02
import Derived.Test.YtiihfkjgdhfmiaaSB21
import Derived.Test.YtiihfkjgdhfmiaaSB01
namespace Go.Proofs.Ytiihfkjgdhfmiaa
open Go.RowKit

theorem q6_any (nm : ByteArray) (dA : Int) (A1 A2 A3 A4 : Option Addr) (nc c1 nd c2 c3 nr c4 : Nat) (zs : List Sym) (b : Nat) (w : World) (o0 : w.cell? ⟨b, 0, none⟩ = some (.string nm)) (o1 : w.cell? ⟨b, 1, none⟩ = some (.slice A1 nc c1)) (o2 : w.cell? ⟨b, 2, none⟩ = some (.int .i64 dA)) (o3 : w.cell? ⟨b, 3, none⟩ = some (.slice A2 nd c2)) (o4 : w.cell? ⟨b, 4, none⟩ = some (.slice A3 zs.length c3)) (o5 : w.cell? ⟨b, 5, none⟩ = some (.slice A4 nr c4)) (hA : SymsAt w A3 zs) (hz : zs.length ≤ 1048576) (hN : ∀ i, (sName zs i).size ≤ 140737488355328) : Calls Try.prog 65 #[.pointer (some ⟨b, 0, none⟩)] w fun r w' => r = .returned (.tuple #[.int .i64 (symC zs nc).1, .int .i64 (symC zs nc).2]) ∧ Below w.heap.size w w' := by
  go_enter Try.func65, Try.ntmps65
  go_wp2_with fail
  refine (asksyms_any nm dA A1 A2 A3 A4 nc c1 nd c2 c3 nr c4 zs _ hA hz hN).mono ?_
  rintro r w1 ⟨rfl, hb⟩
  have HB : Hid (Below w.heap.size w w1) := hb
  clear hb
  go_wp2
  go_ret2
  exact ⟨rfl, HB.out⟩
theorem q7_any (nm : ByteArray) (dA : Int) (A1 A2 A3 A4 : Option Addr) (c1 nd c2 ns c3 c4 : Nat) (code : List Int) (zs : List Rel) (g : Nat) (m0 : Nat → Bool) (b : Nat) (w0 w : World) (o0 : w.cell? ⟨b, 0, none⟩ = some (.string nm)) (o1 : w.cell? ⟨b, 1, none⟩ = some (.slice A1 code.length c1)) (o2 : w.cell? ⟨b, 2, none⟩ = some (.int .i64 dA)) (o3 : w.cell? ⟨b, 3, none⟩ = some (.slice A2 nd c2)) (o4 : w.cell? ⟨b, 4, none⟩ = some (.slice A3 ns c3)) (o5 : w.cell? ⟨b, 5, none⟩ = some (.slice A4 zs.length c4)) (hC : IntsAt w0 A1 .u32 code) (hR : ∀ i, i < code.length → 0 ≤ nth code i ∧ nth code i < 4294967296) (hA : RelsAt w0 A4 zs) (hb0 : Below w0.heap.size w0 w) (hg0 : w0.heap.size ≤ g) (hz : zs.length ≤ 1048576) (hc : code.length ≤ 16384) (hm : MarksAt w g m0) (hs : Safe code m0) : Calls Try.prog 67 #[.pointer (some ⟨b, 0, none⟩), .pointer (some ⟨g, 0, none⟩)] w fun r w' => r = .returned (.tuple #[.int .i64 (relC zs code ns).1, .int .i64 (relC zs code ns).2]) ∧ But g w w' ∧ ∃ m, MarksAt w' g m ∧ Safe code m := by
  go_enter Try.func67, Try.ntmps67
  go_wp2_with fail
  refine (askrels_any nm dA A1 A2 A3 A4 c1 nd c2 ns c3 c4 code zs g m0 w0 _ hC hR hA hb0 hg0 hz hc hm hs).mono ?_
  rintro r w1 ⟨rfl, hb, m, hm1, hs1⟩
  have HB : Hid (But g w w1) := hb
  have HM : Hid (MarksAt w1 g m) := hm1
  have HS : Hid (Safe code m) := hs1
  clear hb hm1 hs1
  go_wp2
  go_ret2
  exact ⟨rfl, HB.out, m, HM.out, HS.out⟩
theorem q8_any (nm : ByteArray) (dA : Int) (A1 A2 A3 A4 : Option Addr) (c1 nd c2 ns c3 nr c4 : Nat) (code : List Int) (g : Nat) (m : Nat → Bool) (b : Nat) (w : World) (o0 : w.cell? ⟨b, 0, none⟩ = some (.string nm)) (o1 : w.cell? ⟨b, 1, none⟩ = some (.slice A1 code.length c1)) (o2 : w.cell? ⟨b, 2, none⟩ = some (.int .i64 dA)) (o3 : w.cell? ⟨b, 3, none⟩ = some (.slice A2 nd c2)) (o4 : w.cell? ⟨b, 4, none⟩ = some (.slice A3 ns c3)) (o5 : w.cell? ⟨b, 5, none⟩ = some (.slice A4 nr c4)) (hC : IntsAt w A1 .u32 code) (hR : ∀ i, i < code.length → 0 ≤ nth code i ∧ nth code i < 4294967296) (hc : code.length ≤ 16384) (hm : MarksAt w g m) (hs : Safe code m) : Calls Try.prog 69 #[.pointer (some ⟨b, 0, none⟩), .pointer (some ⟨g, 0, none⟩)] w fun r w' => r = .returned (.tuple #[.int .i64 (codC code).1, .int .i64 (codC code).2]) ∧ Below w.heap.size w w' := by
  go_enter Try.func69, Try.ntmps69
  go_wp2_with fail
  refine (asktgts_any nm dA A1 A2 A3 A4 c1 nd c2 ns c3 nr c4 code g m _ hC hR hc hm hs).mono ?_
  rintro r w1 ⟨rfl, hb⟩
  have HB : Hid (Below w.heap.size w w1) := hb
  clear hb
  go_wp2
  go_ret2
  exact ⟨rfl, HB.out⟩




end Go.Proofs.Ytiihfkjgdhfmiaa

namespace Go.Proofs.Ytiihfkjgdhfmiaa
open Go.RowKit

def ansQ (nm : ByteArray) (code : List Int) (dA : Int) (nd : Nat) (ss : List Sym) (rs : List Rel) : Nat → Int × Int
  | 0 => (rfs (!nameOK nm) 20, rfs (!nameOK nm) (-1))
  | 1 => (rfs (decide (16384 < code.length)) 21, rfs (decide (16384 < code.length)) (-1))
  | 2 => (rfs (decide (256 < ss.length)) 21, rfs (decide (256 < ss.length)) (-2))
  | 3 => (rfs (decide (code.length < rs.length)) 21, rfs (decide (code.length < rs.length)) (-3))
  | 4 => (rfs (!decide (0 ≤ dA ∧ (nd : Int) ≤ 4096 - dA)) 25, rfs (!decide (0 ≤ dA ∧ (nd : Int) ≤ 4096 - dA)) (-1))
  | 5 => symC ss code.length
  | 6 => relC rs code ss.length
  | 7 => codC code
  | _ => (0, 0)
theorem rfs_zero {b : Bool} {e : Int} (he : ¬ e = 0) (h : rfs b e = 0) : b = false := by
  cases b with
  | false => rfl
  | true => exact absurd h he
theorem rfs_not {b : Bool} {e : Int} (h : ¬ rfs b e = 0) : b = true := by
  cases b with
  | false => exact absurd rfl h
  | true => rfl
theorem z0 {nm : ByteArray} {code : List Int} {dA : Int} {nd : Nat} {ss : List Sym} {rs : List Rel} (h : (ansQ nm code dA nd ss rs 0).1 = 0) : ¬ nameOK nm = false := by
  have := rfs_zero (by omega) h
  simpa using this
theorem z1 {nm : ByteArray} {code : List Int} {dA : Int} {nd : Nat} {ss : List Sym} {rs : List Rel} (h : (ansQ nm code dA nd ss rs 1).1 = 0) : ¬ 16384 < code.length := of_decide_eq_false (rfs_zero (by omega) h)
theorem z2 {nm : ByteArray} {code : List Int} {dA : Int} {nd : Nat} {ss : List Sym} {rs : List Rel} (h : (ansQ nm code dA nd ss rs 2).1 = 0) : ¬ 256 < ss.length := of_decide_eq_false (rfs_zero (by omega) h)
theorem z3 {nm : ByteArray} {code : List Int} {dA : Int} {nd : Nat} {ss : List Sym} {rs : List Rel} (h : (ansQ nm code dA nd ss rs 3).1 = 0) : ¬ code.length < rs.length := of_decide_eq_false (rfs_zero (by omega) h)
theorem z4 {nm : ByteArray} {code : List Int} {dA : Int} {nd : Nat} {ss : List Sym} {rs : List Rel} (h : (ansQ nm code dA nd ss rs 4).1 = 0) : ¬ (dA < 0 ∨ 4096 < dA ∨ 4096 - dA < (nd : Int)) := by
  have := rfs_zero (by omega) h
  rw [Bool.not_eq_false'] at this
  have := of_decide_eq_true this
  omega
theorem cod_zero {code : List Int} (h : (codC code).1 = 0) : codC code = (0, 0) := by
  unfold codC at h ⊢
  split at h
  · next h1 => rw [if_pos h1]
  · omega
theorem size_zero {nm : ByteArray} {code : List Int} {dA : Int} {nd : Nat} {ss : List Sym} {rs : List Rel} {k : Nat} (h : ∀ j, j < k → (ansQ nm code dA nd ss rs j).1 = 0) (hk : 5 ≤ k) : sizeC (nameOK nm) code.length ss.length rs.length nd dA = (0, 0) := by
  unfold sizeC; rw [if_neg (z0 (h 0 (by omega))), if_neg (z1 (h 1 (by omega))), if_neg (z2 (h 2 (by omega))), if_neg (z3 (h 3 (by omega))), if_neg (z4 (h 4 (by omega)))]
theorem ans_hit {nm : ByteArray} {code : List Int} {dA : Int} {nd : Nat} {ss : List Sym} {rs : List Rel} : ∀ (k : Nat), k < 8 → (∀ j, j < k → (ansQ nm code dA nd ss rs j).1 = 0) → ¬ (ansQ nm code dA nd ss rs k).1 = 0 → checkC nm code dA nd ss rs = ansQ nm code dA nd ss rs k
  | 0, _, _, e => by
    have hb : (!nameOK nm) = true := rfs_not e
    have hn : nameOK nm = false := by simpa using hb
    have hs : sizeC (nameOK nm) code.length ss.length rs.length nd dA = (20, -1) := by unfold sizeC; rw [if_pos hn]
    unfold checkC ansQ
    rw [hs, if_pos (by simp), hb]; rfl
  | 1, _, h, e => by
    have hb := rfs_not e
    have hs : sizeC (nameOK nm) code.length ss.length rs.length nd dA = (21, -1) := by unfold sizeC; rw [if_neg (z0 (h 0 (by omega))), if_pos (of_decide_eq_true hb)]
    unfold checkC ansQ
    rw [hs, if_pos (by simp), hb]; rfl
  | 2, _, h, e => by
    have hb := rfs_not e
    have hs : sizeC (nameOK nm) code.length ss.length rs.length nd dA = (21, -2) := by unfold sizeC; rw [if_neg (z0 (h 0 (by omega))), if_neg (z1 (h 1 (by omega))), if_pos (of_decide_eq_true hb)]
    unfold checkC ansQ
    rw [hs, if_pos (by simp), hb]; rfl
  | 3, _, h, e => by
    have hb := rfs_not e
    have hs : sizeC (nameOK nm) code.length ss.length rs.length nd dA = (21, -3) := by unfold sizeC; rw [if_neg (z0 (h 0 (by omega))), if_neg (z1 (h 1 (by omega))), if_neg (z2 (h 2 (by omega))), if_pos (of_decide_eq_true hb)]
    unfold checkC ansQ
    rw [hs, if_pos (by simp), hb]; rfl
  | 4, _, h, e => by
    have hb := rfs_not e
    have hx : dA < 0 ∨ 4096 < dA ∨ 4096 - dA < (nd : Int) := by
      have hb' := hb
      rw [Bool.not_eq_true'] at hb'
      have := of_decide_eq_false hb'
      omega
    have hs : sizeC (nameOK nm) code.length ss.length rs.length nd dA = (25, -1) := by unfold sizeC; rw [if_neg (z0 (h 0 (by omega))), if_neg (z1 (h 1 (by omega))), if_neg (z2 (h 2 (by omega))), if_neg (z3 (h 3 (by omega))), if_pos hx]
    unfold checkC ansQ
    rw [hs, if_pos (by simp), hb]; rfl
  | 5, _, h, e => by
    have hs := size_zero (nm := nm) (nd := nd) (dA := dA) h (by omega)
    unfold checkC
    rw [hs, if_neg (by simp), if_pos (show ¬ (symC ss code.length).1 = 0 from e)]; rfl
  | 6, _, h, e => by
    have hs := size_zero (nm := nm) (nd := nd) (dA := dA) h (by omega)
    unfold checkC
    rw [hs, if_neg (by simp), if_neg (by simpa using (show (symC ss code.length).1 = 0 from h 5 (by omega))), if_pos (show ¬ (relC rs code ss.length).1 = 0 from e)]; rfl
  | 7, _, h, _ => by
    have hs := size_zero (nm := nm) (nd := nd) (dA := dA) h (by omega)
    unfold checkC
    rw [hs, if_neg (by simp), if_neg (by simpa using (show (symC ss code.length).1 = 0 from h 5 (by omega))), if_neg (by simpa using (show (relC rs code ss.length).1 = 0 from h 6 (by omega)))]; rfl
  | k + 8, hk, _, _ => by omega
theorem ans_none {nm : ByteArray} {code : List Int} {dA : Int} {nd : Nat} {ss : List Sym} {rs : List Rel} (h : ∀ j, j < 8 → (ansQ nm code dA nd ss rs j).1 = 0) : checkC nm code dA nd ss rs = (0, 0) := by
  have hs := size_zero (nm := nm) (nd := nd) (dA := dA) h (by omega)
  unfold checkC
  rw [hs, if_neg (by simp), if_neg (by simpa using (show (symC ss code.length).1 = 0 from h 5 (by omega))), if_neg (by simpa using (show (relC rs code ss.length).1 = 0 from h 6 (by omega)))]
  exact cod_zero (h 7 (by omega))




end Go.Proofs.Ytiihfkjgdhfmiaa

namespace Go.Proofs.Ytiihfkjgdhfmiaa
open Go.RowKit

/-- So many bools, each false. -/
def chkF : List Value → Nat → Bool
  | [], 0 => true
  | (.bool false) :: l, n + 1 => chkF l n
  | _, _ => false
theorem chkF_ok : ∀ (l : List Value) (n : Nat), chkF l n = true → l.length = n ∧ ∀ i, i < n → l[i]? = some (.bool false)
  | [], 0, _ => ⟨rfl, fun i h => by omega⟩
  | (.bool false) :: l, n + 1, h => by
    obtain ⟨h1, h2⟩ := chkF_ok l n h
    refine ⟨by simp [h1], fun i hi => ?_⟩
    cases i with
    | zero => rfl
    | succ i => simpa using h2 i (by omega)
def zeroIs (o : Option TypeInfo) (n : Nat) : Bool := match o with
  | some i => (match i.zero with
    | some (.agg cs) => chkF cs.toList n
    | _ => false)
  | none => false
theorem zero73_ok : zeroIs (Try.prog.info? 103) 16384 = true := by kernel_rfl
theorem zero73 : ∃ cs : Array Value, cs.size = 16384 ∧ (∀ i, i < 16384 → cs[i]? = some (.bool false)) ∧ ∀ w : World, (zeroValue 103).run Try.prog w = .ok (.agg cs) w := by
  have h := zero73_ok
  unfold zeroIs at h
  cases hi : Try.prog.info? 103 with
  | none => rw [hi] at h; cases h
  | some i =>
    rw [hi] at h
    simp only [] at h
    cases hz : i.zero with
    | none => rw [hz] at h; cases h
    | some v =>
      rw [hz] at h
      cases v with
      | agg cs =>
        simp only [] at h
        obtain ⟨h1, h2⟩ := chkF_ok _ _ h
        refine ⟨cs, by simpa using h1, fun i hi => by simpa using h2 i hi, fun w => ?_⟩
        simp [zeroValue, typeInfo, hi, hz]
      | _ => cases h




end Go.Proofs.Ytiihfkjgdhfmiaa
