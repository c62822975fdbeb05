/-
  The program: what is saved at each spot, and a sum. The program: Of. The law's works. CopySpots. EqSpots.
-/
import Derived.Test.YtbljifaciahdcaaProg
import Derived.WalkKit
import Derived.WalkSpells
import Derived.WalkLawsBesides
import Derived.RowKit3
import Derived.Below
import Derived.Deep.QuietTactic
import Derived.BigQuiet
import Derived.WalkSmall
import Derived.Laws.Rows
import Derived.Test.YtbljifaciahdcaaGs04
import Derived.Test.YtbljifaciahdcaaGs02
import Derived.Lib.LaidTab
import Derived.Laws.MakeOwn
import Derived.Deep.Cut
import Derived.Deep.RegionHeld3
import Derived.Test.YtbljifaciahdcaaGs03
import Derived.DataElems
import Derived.OwnWalk
import Derived.Laws.OwnMore
import Derived.Deep.Slices
import Derived.Laws.AppendOwn
import Derived.Lib.BufferOwn
namespace Go.Proofs.Ytbljifaciahdcaa
open Go.RowKit

theorem made_wcur (f : Nat → Value) (z : Value) (N : Nat) : madeCells #[z] N = wcur f (fun _ => z) N 0 := by
  apply Array.ext_getElem?
  intro i
  by_cases hi : i < N
  · rw [wcur_get _ _ _ _ _ hi]; simp [madeCells, hi, Nat.mod_one]
  · rw [Array.getElem?_eq_none (by simp [madeCells]; omega), Array.getElem?_eq_none (by simp [wcur_size]; omega)]
theorem set_rowN {w : World} {g k : Nat} {cur : Array Value} {t : TypeId} (h : w.heap[g]? = some (.cells cur t (0, 0))) (u : Value) : (w.setCell ⟨g, k, none⟩ u).heap[g]? = some (.cells (cur.setIfInBounds k u) t (0, 0)) := by
  simp [World.setCell, Array.getElem?_modify, h]
def fV (f : Nat → Int) (i : Nat) : Value := .int .i64 (f i)
def zI (_ : Nat) : Value := .int .i64 0
theorem infoI3 : ∃ i, Try.prog.info? 3 = some i ∧ i.zero = some (.int .i64 0) ∧ i.size = 1 ∧ i.bytes = 8 :=
  ⟨(Try.prog.info? 3).get (by kernel_rfl), by kernel_rfl, by kernel_rfl, by kernel_rfl, by kernel_rfl⟩
theorem made_ints (f : Nat → Value) (n : Nat) (hn : n ≤ 1048576) (w : World) : (Instr.makeSlice 35 (.int .i64 (n : Int)) (.int .i64 (n : Int))).run Try.prog w = .ok (.slice (some ⟨w.heap.size, 0, none⟩) n n) (w.alloc (.cells (wcur f zI n 0) 3)) := by
  obtain ⟨i, hi, hz, hs, hb⟩ := infoI3
  have h := run_makeSlice (P := Try.prog) w 35 3 i _ Try.underlying35 hi hz .i64 .i64 (n : Int) (n : Int) (by omega) (by omega) (by rw [hs]; omega) (by rw [hb]; omega) (by omega)
  rw [hs, Nat.mul_one, show ((n : Int)).toNat = n by omega] at h
  rw [h, show zI = fun _ => .int .i64 0 from rfl, ← made_wcur f (.int .i64 0) n]
  rfl
set_option maxRecDepth 100000 in
set_option maxHeartbeats 4000000 in
theorem psum_any (f : Nat → Int) (g : Nat) (N : Nat) (w : World) (h : w.heap[g]? = some (.cells (wcur (fV f) zI N N) 3 (0, 0))) (hb : ∀ k : Nat, k ≤ N → -1125899906842624 ≤ addF f k ∧ addF f k ≤ 1125899906842624) (hN : N ≤ 1048576) :
    Calls Try.prog 14 #[.slice (some ⟨g, 0, none⟩) N N] w fun e w' => e = .returned (.int .i64 (addF f N)) ∧ w' = w := by
  have HC : Hid (∀ k, k < N → w.cell? ⟨g, k, none⟩ = some (.int .i64 (f k))) := fun k hk => by
    rw [Lib.cell_of_heap h, wcur_get _ _ _ _ _ hk, if_pos hk]; rfl
  have HS : Hid (∀ k : Nat, k ≤ N → -1125899906842624 ≤ addF f k ∧ addF f k ≤ 1125899906842624) := hb
  have HN : Hid (∀ k, addF f (k + 1) = addF f k + f k) := fun _ => rfl
  have HZ : Hid (addF f 0 = 0) := rfl
  clear h hb
  go_enter Try.func14, Try.ntmps14
  go_wp2
  go_loopw [3, 8] (fun vs vi wr => ∃ k : Nat, vi = .int .i64 (k : Int) ∧ k ≤ N ∧ vs = .int .i64 (addF f k) ∧ Hid (wr = w)) (fun _ vi _ => N - (intOf vi).toNat)
  case atStart => exact ⟨0, rfl, Nat.zero_le _, by rw [HZ.out], rfl⟩
  case round =>
    clear HZ
    obtain ⟨k, rfl, hk, rfl, HW⟩ := hrel
    obtain rfl := HW.out
    clear HW
    by_cases hlt : k < N
    · have hlt' : (k : Int) < (N : Int) := by omega
      have hk0 : (0 : Int) ≤ (k : Int) := by omega
      have q := HC.out k hlt
      have hb1 := HS.out k hk
      have hb2 := HS.out (k + 1) hlt
      have hn := HN.out k
      rw [hn] at hb2
      generalize hs : addF f k = s at *
      generalize f k = x at *
      obtain ⟨b1, b2⟩ := hb1
      obtain ⟨b3, b4⟩ := hb2
      have hv : wrap64 (s + x) = s + x := by unfold wrap64; omega
      go_wp2
      go_roundw
      case rel => exact ⟨k + 1, by go_num, hlt, by rw [hn], by first | exact rfl | exact trivial⟩
      case measure => simp [intOf]; omega
    · obtain rfl : k = N := by omega
      go_wp2
      go_ret
      exact ⟨rfl, rfl⟩
set_option maxRecDepth 100000 in
set_option maxHeartbeats 4000000 in
theorem psaved_any (n : Int) (A : Option Addr) (c : Nat) (l : List Spt) (w : World) (hA : SpAt w A l) (hI : SpI l) (hn : 1 ≤ n ∧ n ≤ 16384) (hl : l.length ≤ 65536) :
    Calls Try.prog 15 #[.int .i64 n, .slice A l.length c] w fun e w' => e = .returned (.slice (some ⟨w.heap.size, 0, none⟩) l.length l.length) ∧ w'.heap[w.heap.size]? = some (.cells (wcur (fV (savN n l)) zI l.length l.length) 3 (0, 0)) ∧ Below w.heap.size w w' := by
  have HA : Hid (SpAt w A l) := hA
  have HI : Hid (SpI l) := hI
  have hmk := made_ints (fV (savN n l)) l.length (by omega)
  have HB1 : Hid (Below w.heap.size w (w.alloc (.cells (wcur (fV (savN n l)) zI l.length 0) 3))) := lb_alloc (Below.refl _ _) _
  have HX1 : Hid ((w.alloc (.cells (wcur (fV (savN n l)) zI l.length 0) 3)).heap[w.heap.size]? = some (.cells (wcur (fV (savN n l)) zI l.length 0) 3 (0, 0))) := heap_alloc_new _ _
  obtain ⟨hn1, hn2⟩ := hn
  clear hA hI
  go_enter Try.func15, Try.ntmps15
  go_wp2
  go_loopw [13] (fun i wr => ∃ k : Nat, i = .int .i64 k ∧ k ≤ l.length ∧ Hid (Below w.heap.size w wr) ∧ Hid (wr.heap[w.heap.size]? = some (.cells (wcur (fV (savN n l)) zI l.length k) 3 (0, 0)))) (fun i _ => l.length - (intOf i).toNat)
  case atStart => exact ⟨0, rfl, Nat.zero_le _, HB1, HX1⟩
  case round =>
    clear hmk HB1 HX1
    obtain ⟨k, rfl, hk, HB, HX⟩ := hrel
    by_cases hlt : k < l.length
    · have hlt' : (k : Int) < (l.length : Int) := by omega
      have hk0 : (0 : Int) ≤ (k : Int) := by omega
      obtain ⟨a, ea, q0, q1, q2⟩ := (HA.out.keep HB.out) k hlt
      subst ea
      replace q1 : wr.cell? ⟨(a.add (k * 3)).block, (a.add (k * 3)).off + 1, none⟩ = some (.int .i8 (spt l k).2.1) := q1
      replace q2 : wr.cell? ⟨(a.add (k * 3)).block, (a.add (k * 3)).off + 2, none⟩ = some (.int .i8 (spt l k).2.2) := q2
      have hin := HI.out k hlt
      have CO := fun Z => pcost_any (spt l k).2.1 Z hin
      have hcb := costN_b (spt l k).2.1
      have HSet : Hid ((wcur (fV (savN n l)) zI l.length k).setIfInBounds k (.int .i64 (n - costN (spt l k).2.1)) = wcur (fV (savN n l)) zI l.length (k + 1)) := wcur_set (fV (savN n l)) zI l.length k hlt
      have HGt : Hid ((wcur (fV (savN n l)) zI l.length k)[k]? = some (.int .i64 0)) := by
        unfold Hid
        rw [wcur_get _ _ _ _ _ hlt, if_neg (by omega)]; rfl
      generalize costN (spt l k).2.1 = x at CO HSet hcb
      generalize (spt l k).1 = s0 at q0
      generalize (spt l k).2.1 = s1 at q1 CO hin
      generalize (spt l k).2.2 = s2 at q2
      obtain ⟨c1, c2⟩ := hcb
      clear hin
      have hv : wrap64 (n - x) = n - x := by unfold wrap64; omega
      go_wp2_with fail
      refine (CO _).mono ?_
      rintro e w1 ⟨rfl, hb1⟩
      have hB2 : Hid (Below w.heap.size w w1) := lb_trans (lb_alloc HB.out _) hb1
      have hx1 : w1.heap[w.heap.size]? = some (.cells (wcur (fV (savN n l)) zI l.length k) 3 (0, 0)) := (hb1.block w.heap.size (by have := (Array.getElem?_eq_some_iff.1 HX.out).1; rw [World.size_alloc]; omega)).trans ((Below.heap_alloc _ _ _ (Array.getElem?_eq_some_iff.1 HX.out).1).trans HX.out)
      have cg : w1.cell? ⟨w.heap.size, k, none⟩ = some (.int .i64 0) := (by rw [Lib.cell_of_heap hx1]; exact HGt.out)
      have fg : w1.frozen? ⟨w.heap.size, k, none⟩ = false := Lib.frozen_of_heap hx1 k
      have HX2 : Hid _ := hx1
      clear hx1 hb1 CO
      go_wp2
      have HX3 : Hid ((w1.setCell ⟨w.heap.size, k, none⟩ (.int .i64 (n - x))).heap[w.heap.size]? = some (.cells (wcur (fV (savN n l)) zI l.length (k + 1)) 3 (0, 0))) := by
        unfold Hid
        rw [set_rowN HX2.out, HSet.out]
      have HB3 : Hid (Below w.heap.size w (w1.setCell ⟨w.heap.size, k, none⟩ (.int .i64 (n - x)))) := hB2.out.setCell (Nat.le_refl _) _
      go_roundw
      case rel => exact ⟨k + 1, by go_num, by omega, HB3, HX3⟩
      case measure => simp [intOf]; omega
    · obtain rfl : k = l.length := by omega
      have HX' := HX
      go_wp2
      go_ret
      exact ⟨rfl, HX'.out, HB.out⟩

end Go.Proofs.Ytbljifaciahdcaa

namespace Go.Proofs.Ytbljifaciahdcaa
open Go.RowKit

set_option maxRecDepth 100000 in
set_option maxHeartbeats 4000000 in
theorem pof_any (n : Int) (A : Option Addr) (c : Nat) (l : List Spt) (w : World) (hA : SpAt w A l) (hI : SpI l) (hl : l.length ≤ 65536) (_hc : l.length ≤ c) : Calls Try.prog 7 #[.int .i64 n, .slice A l.length c] w fun e w' => e = .returned (.int .i64 (gainN n l)) ∧ Below w.heap.size w w' := by
  by_cases h0 : 0 < l.length
  · have h0' : ((l.length : Int) == 0) = false := by rw [beq_eq_false_iff_ne]; omega
    by_cases h1 : n < 1
    · have HV : Hid (gainN n l = 0) := gain_no (by omega)
      clear hA hI
      go_enter Try.func7, Try.ntmps7
      go_wp2
      go_ret
      exact ⟨by rw [HV.out]; rfl, Below.refl _ _⟩
    · by_cases h2 : 16384 < n
      · have HV : Hid (gainN n l = 0) := gain_no (by omega)
        clear hA hI
        go_enter Try.func7, Try.ntmps7
        go_wp2
        go_ret
        exact ⟨by rw [HV.out]; rfl, Below.refl _ _⟩
      · have hn : 1 ≤ n ∧ n ≤ 16384 := by omega
        have HV : Hid (gainN n l = addF (savN n l) l.length - sizeN (spt l 0).2.1 n) := by
          unfold Hid
          rw [gain_yes h0 hn, addF_sum]
        have hb := addF_b (savN_b l hn)
        have hsb := sizeN_b (c := (spt l 0).2.1) (n := n) hn
        have CV : Hid (∀ Z, Below w.heap.size w Z → Calls Try.prog 15 #[.int .i64 n, .slice A l.length c] Z fun e w' => e = .returned (.slice (some ⟨Z.heap.size, 0, none⟩) l.length l.length) ∧ w'.heap[Z.heap.size]? = some (.cells (wcur (fV (savN n l)) zI l.length l.length) 3 (0, 0)) ∧ Below Z.heap.size Z w') := fun Z hZ => psaved_any n A c l Z (hA.keep hZ) hI hn hl
        have CS : Hid (∀ (g : Nat) (Z : World), Z.heap[g]? = some (.cells (wcur (fV (savN n l)) zI l.length l.length) 3 (0, 0)) → Calls Try.prog 14 #[.slice (some ⟨g, 0, none⟩) l.length l.length] Z fun e w' => e = .returned (.int .i64 (addF (savN n l) l.length)) ∧ w' = Z) := fun g Z h => psum_any (savN n l) g l.length Z h (fun k hk => by have := hb k; omega) (by omega)
        have CZ : Hid (∀ Z, Calls Try.prog 11 #[.int .i8 (spt l 0).2.1, .int .i64 n] Z fun e w' => e = .returned (.int .i64 (sizeN (spt l 0).2.1 n)) ∧ Below Z.heap.size Z w') := fun Z => psize_any (spt l 0).2.1 n Z
        have hbl := hb l.length
        obtain ⟨a, ea, -, -, -⟩ := hA 0 h0
        subst ea
        have HA : Hid (∀ Z, Below w.heap.size w Z → Z.cell? ⟨a.block, a.off + 1, none⟩ = some (.int .i8 (spt l 0).2.1)) := fun Z hZ => by
          obtain ⟨a', ea, -, p, -⟩ := (hA.keep hZ) 0 h0
          cases ea
          rw [show a.add (0 * 3) = a by simp [Addr.add]] at p
          exact p
        rw [HV.out]
        clear hA hI HV hb
        generalize sizeN (spt l 0).2.1 n = q at *
        generalize (spt l 0).2.1 = c0 at *
        generalize addF (savN n l) l.length = t at *
        have hv : IntKind.i64.wrap (t - q) = t - q := by
          simp [IntKind.wrap, IntKind.signed, IntKind.bits]
          omega
        have hl0 : (0 : Int) < (l.length : Int) := by omega
        go_enter Try.func7, Try.ntmps7
        go_upto_region 3 with fail
        have B0 : Below w.heap.size w w.drew := (Below.refl _ _).drew
        go_region_held3 (fun Z => Below w.heap.size w Z ∧ Z.cell? ⟨a.block, a.off + 1, none⟩ = some (.int .i8 c0)) (first | assumption | exact ⟨B0, HA.out _ B0⟩ | exact ⟨hq1, HA.out _ hq1⟩ | exact ⟨hq3, HA.out _ hq3⟩)
          (first
            | (go_at_call 15; refine (CV.out _ (And.left (by assumption))).mono ?_; rintro e w1 ⟨rfl, hx1, hb1⟩; have hq1 : Below w.heap.size w w1 := lb_trans (And.left (by assumption)) hb1; clear hb1 CV)
            | (go_at_call 14; refine (CS.out _ _ hx1).mono ?_; rintro e w2 ⟨rfl, rfl⟩; clear CS)
            | (go_at_call 11; refine (CZ.out _).mono ?_; rintro e w3 ⟨rfl, hb3⟩; have hq3 : Below w.heap.size w w3 := lb_trans (And.left (by assumption)) hb3; clear hb3 CZ))
        all_goals (
          have HE : Hid (Below w.heap.size w w3) := hq3
          clear hq1 hq3
          go_wp2
          go_ret
          exact ⟨rfl, HE.out⟩)
  · have HV : Hid (gainN n l = 0) := gain_no (by omega)
    have h0' : ((l.length : Int) == 0) = true := by rw [show l.length = 0 by omega]; rfl
    clear hA hI
    go_enter Try.func7, Try.ntmps7
    go_wp2
    go_ret
    exact ⟨by rw [HV.out]; rfl, Below.refl _ _⟩

end Go.Proofs.Ytbljifaciahdcaa

namespace Go.Proofs.Ytbljifaciahdcaa
open Go.RowKit

def D2 : List Spt := [(0, 3, 0), (0, 3, 0)]
def D3 : List Spt := [(0, 3, 0), (0, 4, 0), (0, 3, 0)]
theorem s34 : sizeN 3 4 = 5 := by rw [sizeN, if_neg (by decide), if_neg (by decide), if_pos (by decide), wrap_small (by decide)]; rfl
theorem d2_in : SpI D2 := fun i hi => by
  have hq : i = 0 ∨ i = 1 := by
    have : D2.length = 2 := rfl
    omega
  rcases hq with rfl | rfl <;> exact (by decide : (-128 : Int) ≤ 3 ∧ (3 : Int) ≤ 127)
theorem d3_in : SpI D3 := fun i hi => by
  have hq : i = 0 ∨ i = 1 ∨ i = 2 := by
    have : D3.length = 3 := rfl
    omega
  rcases hq with rfl | rfl | rfl
  · exact (by decide : (-128 : Int) ≤ 3 ∧ (3 : Int) ≤ 127)
  · exact (by decide : (-128 : Int) ≤ 4 ∧ (4 : Int) ≤ 127)
  · exact (by decide : (-128 : Int) ≤ 3 ∧ (3 : Int) ≤ 127)
theorem D2_g : gainN 4 D2 = 1 := by
  rw [gain_yes (by decide) (by decide)]
  show - sizeN 3 4 + 4 - costN 3 + 4 - costN 3 = 1
  rw [s34]; rfl
theorem D3_g : gainN 4 D3 = 2 := by
  rw [gain_yes (by decide) (by decide)]
  show - sizeN 3 4 + 4 - costN 3 + 4 - costN 4 + 4 - costN 3 = 2
  rw [s34]; rfl
theorem ret64 {x y : Int} (h : x = y) : Ending.returned (.int .i64 x) = .returned (.int .i64 y) := by rw [h]
theorem d2_at {Z : World} {b : Nat} (h : Z.heap[b]? = some (.cells #[.int .i64 0, .int .i8 3, .int .i8 0, .int .i64 0, .int .i8 3, .int .i8 0] 32 (0, 0))) : SpAt Z (some ⟨b, 0, none⟩) D2 := fun j hj => by
  have hc := fun k => cell_of_row Z b k _ _ (0, 0) h
  have hq : j = 0 ∨ j = 1 := by
    have : D2.length = 2 := rfl
    omega
  rcases hq with rfl | rfl
  · exact ⟨_, rfl, (hc 0).trans rfl, (hc 1).trans rfl, (hc 2).trans rfl⟩
  · exact ⟨_, rfl, (hc 3).trans rfl, (hc 4).trans rfl, (hc 5).trans rfl⟩
theorem d3_at {Z : World} {b : Nat} (h : Z.heap[b]? = some (.cells #[.int .i64 0, .int .i8 3, .int .i8 0, .int .i64 0, .int .i8 4, .int .i8 0, .int .i64 0, .int .i8 3, .int .i8 0] 32 (0, 0))) : SpAt Z (some ⟨b, 0, none⟩) D3 := fun j hj => by
  have hc := fun k => cell_of_row Z b k _ _ (0, 0) h
  have hq : j = 0 ∨ j = 1 ∨ j = 2 := by
    have : D3.length = 3 := rfl
    omega
  rcases hq with rfl | rfl | rfl
  · exact ⟨_, rfl, (hc 0).trans rfl, (hc 1).trans rfl, (hc 2).trans rfl⟩
  · exact ⟨_, rfl, (hc 3).trans rfl, (hc 4).trans rfl, (hc 5).trans rfl⟩
  · exact ⟨_, rfl, (hc 6).trans rfl, (hc 7).trans rfl, (hc 8).trans rfl⟩
set_option maxRecDepth 100000 in
set_option maxHeartbeats 4000000 in
theorem works_any (w : World) : Calls Try.prog 5 #[] w fun e w' => e = .returned (.bool true) ∧ Below w.heap.size w w' := by
  have CC := fun Z => pcost_any 4 Z (by unfold In8; omega)
  rw [show costN 4 = 3 from rfl] at CC
  have CS := fun Z => psize_any 3 4 Z
  rw [s34] at CS
  obtain ⟨W, HW⟩ : ∃ W, Hid ((w.alloc (.cells #[.int .i64 0, .int .i8 3, .int .i8 0] 32)).alloc (.cells #[.int .i64 0, .int .i8 3, .int .i8 0, .int .i64 0, .int .i8 3, .int .i8 0] 32) = W) := ⟨_, rfl⟩
  have HB : Hid (Below w.heap.size w W) := by unfold Hid; rw [← HW.out]; exact lb_alloc (lb_alloc (Below.refl _ _) _) _
  have h0 : W.heap[w.heap.size]? = some (.cells #[.int .i64 0, .int .i8 3, .int .i8 0] 32 (0, 0)) := by rw [← HW.out]; exact (Below.heap_alloc _ _ _ (by simp)).trans (heap_alloc_new _ _)
  have h1 : W.heap[w.heap.size + 1]? = some (.cells #[.int .i64 0, .int .i8 3, .int .i8 0, .int .i64 0, .int .i8 3, .int .i8 0] 32 (0, 0)) := by
    rw [← HW.out]
    have := heap_alloc_new (w.alloc (.cells #[.int .i64 0, .int .i8 3, .int .i8 0] 32)) (.cells #[.int .i64 0, .int .i8 3, .int .i8 0, .int .i64 0, .int .i8 3, .int .i8 0] 32)
    rwa [World.size_alloc] at this
  have C1 := pof_any 4 (some ⟨w.heap.size + 1, 0, none⟩) 2 D2 W (d2_at h1) d2_in (by decide) (by decide)
  rw [D2_g, show D2.length = 2 from rfl] at C1
  have H0 : Hid (∀ Z, Below W.heap.size W Z → Z.cell? ⟨w.heap.size, 0, none⟩ = some (.int .i64 0) ∧ Z.cell? ⟨w.heap.size, 1, none⟩ = some (.int .i8 3) ∧ Z.cell? ⟨w.heap.size, 2, none⟩ = some (.int .i8 0)) := fun Z hZ => by
    have hz := (hZ.block w.heap.size (Array.getElem?_eq_some_iff.1 h0).1).trans h0
    exact ⟨(cell_of_row Z _ 0 _ _ (0, 0) hz).trans rfl, (cell_of_row Z _ 1 _ _ (0, 0) hz).trans rfl, (cell_of_row Z _ 2 _ _ (0, 0) hz).trans rfl⟩
  clear h0 h1
  go_enter Try.func5, Try.ntmps5
  go_wp2_with fail
  rw [HW.out]
  clear HW
  refine C1.mono ?_
  rintro e w1 ⟨rfl, hb1⟩
  have HB1 : Hid (Below W.heap.size W w1) := hb1
  obtain ⟨x0, x1, x2⟩ := H0.out w1 hb1
  clear hb1 C1
  have HB2 : Hid (Below W.heap.size W (w1.alloc (.cells #[.int .i64 0, .int .i8 3, .int .i8 0, .int .i64 0, .int .i8 4, .int .i8 0, .int .i64 0, .int .i8 3, .int .i8 0] 32))) := lb_alloc HB1.out _
  have C2 := pof_any 4 (some ⟨w1.heap.size, 0, none⟩) 3 D3 _ (d3_at (heap_alloc_new w1 (.cells #[.int .i64 0, .int .i8 3, .int .i8 0, .int .i64 0, .int .i8 4, .int .i8 0, .int .i64 0, .int .i8 3, .int .i8 0] 32))) d3_in (by decide) (by decide)
  rw [D3_g, show D3.length = 3 from rfl] at C2
  go_wp2_with fail
  refine C2.mono ?_
  rintro e w2 ⟨rfl, hb2⟩
  have HB3 : Hid (Below W.heap.size W w2) := lb_trans HB2.out hb2
  clear hb2 C2 x0 x1 x2
  go_wp2_with fail
  refine (CC _).mono ?_
  rintro e w3 ⟨rfl, hb3⟩
  have HB4 : Hid (Below W.heap.size W w3) := lb_trans HB3.out hb3
  clear hb3 CC
  go_wp2_with fail
  refine (CS _).mono ?_
  rintro e w4 ⟨rfl, hb4⟩
  have HB5 : Hid (Below w.heap.size w w4) := lb_trans HB.out (lb_trans HB4.out hb4)
  clear hb4 CS
  go_wp2
  go_ret
  exact ⟨rfl, HB5.out⟩

end Go.Proofs.Ytbljifaciahdcaa

namespace Go.Proofs.Ytbljifaciahdcaa
open Go.RowKit

def SpsP (L : List Spt) (w : World) (e : Ending) (w' : World) : Prop := ∃ (A : Option Addr) (c : Nat), e = .returned (.slice A L.length c) ∧ w'.ownsRow w.heap.size 32 3 (.slice A L.length c) L.length (spNews L) ∧ Below w.heap.size w w'
theorem sps_cell {w : World} {a : Addr} {l : List Spt} (h : SpAt w (some a) l) : ∀ (j : Nat) (u : Value), (spNews l)[j]? = some u → w.cell? (a.add j) = some u := fun j u hu => by
  have hj : j < l.length * 3 := by
    by_cases c : j < (spNews l).length
    · rw [spNews_len] at c; exact c
    · rw [List.getElem?_eq_none (by omega)] at hu; cases hu
  obtain ⟨q, r, rfl, hr⟩ : ∃ q r, j = q * 3 + r ∧ r < 3 := ⟨j / 3, j % 3, by omega, by omega⟩
  have hq : q < l.length := by omega
  obtain ⟨a', ea, c0, c1, c2⟩ := h q hq
  cases ea
  obtain ⟨n0, n1, n2⟩ := spNews_get hq
  have add2 : ∀ i, (a.add (q * 3)).add i = a.add (q * 3 + i) := fun i => Addr.add_add a _ i
  rw [add2] at c1 c2
  have : r = 0 ∨ r = 1 ∨ r = 2 := by omega
  rcases this with rfl | rfl | rfl
  · rw [Nat.add_zero] at hu ⊢
    rw [n0] at hu; cases hu; exact c0
  · rw [n1] at hu; cases hu; exact c1
  · rw [n2] at hu; cases hu; exact c2
set_option maxHeartbeats 2000000 in
theorem copyspots_any (O : Option Addr) (ca : Nat) (zs : List Spt) (w : World) (hA : SpAt w O zs) (h0 : O = none → ca = 0) (hz : zs.length ≤ 1048576) :
    Calls Try.prog 6 #[.slice O zs.length ca] w (SpsP zs w) := by
  obtain ⟨iB, hi, hz0, hz1, hz2⟩ := infoSp
  cases O with
  | none =>
    obtain rfl := h0 rfl
    obtain rfl : zs = [] := by
      cases zs with
      | nil => rfl
      | cons x t => obtain ⟨a, e, _⟩ := hA 0 (by simp); cases e
    have hr := run_append_owned_none (P := Try.prog) (w := w) w.heap.size 22 22 32 iB 3 Try.underlying22 hi (.slice none 0 0) 0 [] (World.ownsRow_nil w _ _ _)
    clear hA
    go_enter Try.func6, Try.ntmps6
    go_wp2
    go_ret
    exact ⟨none, 0, rfl, World.ownsRow_nil w _ _ _, Below.refl _ _⟩
  | some a =>
    have hc := sps_cell hA
    have hln : (spNews zs).length = zs.length * 3 := spNews_len zs
    have HZ : Hid (([] : List Value) ++ spNews zs = spNews zs) := List.nil_append _
    clear hA
    go_enter Try.func6, Try.ntmps6
    go_wp2_with (at_builtin; refine wpList_append_own _ rfl (.tmp 4) (.tmp 5) 22 rfl w.heap.size 32 iB (.agg #[.int .i64 0, .int .i8 0, .int .i8 0]) 3 16 Try.underlying22 hi hz0 hz1 hz2 rfl (by decide) (.slice none 0 0) 0 [] rfl (World.ownsRow_nil w _ _ _) a zs.length ca (spNews zs) rfl hln hc (spNews_one zs) (by unfold maxLen; omega) (by omega) (Nat.le_refl _) ?_; intro v' w' hown hgrow _; have HO : Hid (w'.ownsRow w.heap.size 32 3 v' (0 + zs.length) (([] : List Value) ++ spNews zs)) := hown; have HG : Hid (Below w.heap.size w w') := (Below.refl _ _).grown hgrow (Nat.le_refl _) (fun k e => by cases e); clear hown hgrow)
    rw [Nat.zero_add, HZ.out] at HO
    obtain ⟨X, k, rfl, -⟩ := own_formS HO.out
    go_ret
    exact ⟨X, k, rfl, HO.out, HG.out⟩

end Go.Proofs.Ytbljifaciahdcaa

namespace Go.Proofs.Ytbljifaciahdcaa
open Go.RowKit

theorem spt_take {zs ys : List Spt} {k : Nat} (h : zs.take k = ys.take k) (h1 : k < zs.length) (h2 : k < ys.length) (e : spt zs k = spt ys k) : zs.take (k + 1) = ys.take (k + 1) := take_same (z := spD) h h1 h2 e
theorem spt_ne {zs ys : List Spt} {k : Nat} (e : ¬ spt zs k = spt ys k) : ¬ zs = ys := fun h => e (by rw [h])
set_option maxRecDepth 100000 in
set_option maxHeartbeats 4000000 in
theorem eqspots_any (A B : Option Addr) (ca cb : Nat) (zs ys : List Spt) (w : World) (hA : SpAt w A zs) (hB : SpAt w B ys) (hz : zs.length ≤ 1048576) :
    Calls Try.prog 13 #[.slice A zs.length ca, .slice B ys.length cb] w fun e w' => e = .returned (.bool (decide (zs = ys))) ∧ Below w.heap.size w w' := by
  by_cases hl : zs.length = ys.length
  · have hl' : ((zs.length : Int) != (ys.length : Int)) = false := by rw [hl]; simp
    have HL : Hid (zs.length = ys.length) := hl
    clear hl
    go_enter Try.func13, Try.ntmps13
    go_wp2
    go_loopw [5] (fun i wr => ∃ (k m : Nat), i = .int .i64 k ∧ k ≤ zs.length ∧ wr = w.drewN m ∧ Hid (zs.take k = ys.take k)) (fun i _ => zs.length - (intOf i).toNat)
    case atStart => exact ⟨0, 0, rfl, by omega, rfl, by simp [Hid]⟩
    case round =>
      obtain ⟨k, m, rfl, hk, rfl, HT⟩ := hrel
      by_cases hlt : k < zs.length
      · have hkl := HL.out
        obtain ⟨a, rfl, c0, c1, c2⟩ := hA k hlt
        obtain ⟨b, rfl, d0, d1, d2⟩ := hB k (by omega)
        have hlt2 : (k : Int) < (ys.length : Int) := by omega
        clear hkl
        have HN : Hid (¬ spt zs k = spt ys k → ¬ zs = ys) := spt_ne
        have HS : Hid (spt zs k = spt ys k → zs.take (k + 1) = ys.take (k + 1)) := fun e => spt_take HT.out hlt (by have := HL.out; omega) e
        generalize spt zs k = s at *
        generalize spt ys k = t at *
        obtain ⟨s0, s1, s2⟩ := s
        obtain ⟨t0, t1, t2⟩ := t
        have p0 : w.cell? (a.add (k * 3)) = some (.int .i64 s0) := c0
        have q0 : w.cell? (b.add (k * 3)) = some (.int .i64 t0) := d0
        have p1 : w.cell? (⟨(a.add (k * 3)).block, (a.add (k * 3)).off + 1, none⟩) = some (.int .i8 s1) := c1
        have q1 : w.cell? (⟨(b.add (k * 3)).block, (b.add (k * 3)).off + 1, none⟩) = some (.int .i8 t1) := d1
        have p2 : w.cell? (⟨(a.add (k * 3)).block, (a.add (k * 3)).off + 2, none⟩) = some (.int .i8 s2) := c2
        have q2 : w.cell? (⟨(b.add (k * 3)).block, (b.add (k * 3)).off + 2, none⟩) = some (.int .i8 t2) := d2
        clear c0 c1 c2 d0 d1 d2
        by_cases h0 : ¬ s0 = t0
        · have HE : Hid (¬ zs = ys) := HN.out (fun h => by cases h; exact h0 rfl)
          have e0 : (s0 == t0) = false := by simpa using h0
          clear h0 HN HS
          go_wp2_with fail
          go_quiet (fail)
          go_wp2
          go_ret
          exact ⟨retB (decide_eq_false HE.out).symm, below_drewN (below_drewN (Below.refl _ _) _) _⟩
        have H0 : Hid (s0 = t0) := Classical.not_not.1 h0
        have e0 : (s0 == t0) = true := by simpa using H0.out
        clear h0
        by_cases h1 : ¬ s1 = t1
        · have HE : Hid (¬ zs = ys) := HN.out (fun h => by cases h; exact h1 rfl)
          have e1 : (s1 == t1) = false := by simpa using h1
          clear h1 HN HS
          go_wp2_with fail
          go_quiet (fail)
          go_wp2
          go_ret
          exact ⟨retB (decide_eq_false HE.out).symm, below_drewN (below_drewN (Below.refl _ _) _) _⟩
        have H1 : Hid (s1 = t1) := Classical.not_not.1 h1
        have e1 : (s1 == t1) = true := by simpa using H1.out
        clear h1
        by_cases h2 : ¬ s2 = t2
        · have HE : Hid (¬ zs = ys) := HN.out (fun h => by cases h; exact h2 rfl)
          have e2 : (s2 == t2) = false := by simpa using h2
          clear h2 HN HS
          go_wp2_with fail
          go_quiet (fail)
          go_wp2
          go_ret
          exact ⟨retB (decide_eq_false HE.out).symm, below_drewN (below_drewN (Below.refl _ _) _) _⟩
        have H2 : Hid (s2 = t2) := Classical.not_not.1 h2
        have e2 : (s2 == t2) = true := by simpa using H2.out
        have HTk : Hid (zs.take (k + 1) = ys.take (k + 1)) := HS.out (by rw [H0.out, H1.out, H2.out])
        clear h2 HN HS
        go_wp2_with fail
        go_quiet (fail)
        go_wp2
        go_roundw
        case rel => exact ⟨k + 1, _, by go_num, by omega, rfl, HTk⟩
        case measure => simp [intOf]; omega
      · go_wp2
        go_ret
        exact ⟨retB (decide_eq_true (take_all HT.out (by omega) HL.out)).symm, below_drewN (Below.refl _ _) _⟩
  · have hl' : ((zs.length : Int) != (ys.length : Int)) = true := by simp; omega
    have HL : Hid (¬ zs.length = ys.length) := hl
    clear hl
    go_enter Try.func13, Try.ntmps13
    go_wp2
    go_ret
    exact ⟨retB (decide_eq_false (fun h => HL.out (by rw [h]))).symm, Below.refl _ _⟩




end Go.Proofs.Ytbljifaciahdcaa
