/-
  The weight of a list of objects. A list of numbers copied into memory of its own, with marks behind it, by the document's helpers; it is at most 2^20 long. A list of symbols copied into memory of its own, with marks behind it, by the document's helper; it is at most 2^20 long.
-/
import Derived.Test.YtiihfkjgdhfmiaaProg
import Derived.WalkKit
import Derived.WalkSpells
import Derived.WalkLawsBesides
import Derived.RowKit3
import Derived.Below
import Derived.Deep.QuietTactic
import Derived.BigQuiet
import Derived.WalkSmall
import Derived.Laws.Rows
import Derived.Test.YtiihfkjgdhfmiaaSB02
import Derived.Test.YtiihfkjgdhfmiaaSB01
import Derived.Laws.MakeOwn
namespace Go.Proofs.Ytiihfkjgdhfmiaa
open Go.RowKit

/-- No list or text of an object is longer than any can be. -/
structure LightO (o : Ob) : Prop where
  n : o.nm.size ≤ 140737488355328
  c : o.code.length ≤ 140737488355328
  d : o.data.length ≤ 140737488355328
  s : o.ss.length ≤ 140737488355328
  r : o.rs.length ≤ 140737488355328
  e : ∀ i, (sName o.ss i).size ≤ 140737488355328
/-- An object's weight but for its names' ones. -/
def wtO (o : Ob) : Nat := o.nm.size + 4 * o.code.length + 8 * o.data.length + o.rs.length + o.ss.length
/-- How SizeObjects ends. -/
def SzP (l : List Ob) (w : World) (e : Ending) (w' : World) : Prop := ∃ n : Nat, e = .returned (.int .i64 n) ∧ n ≤ 2111064472813567 ∧ (n ≤ 2147483647 → ∀ i, i < l.length → wtO (ob l i) ≤ n) ∧ Below w.heap.size w w'
theorem lt_step {l : List Ob} {k n m : Nat} (h : ∀ i, i < k → wtO (ob l i) ≤ n) (hm : n ≤ m) (hk : wtO (ob l k) ≤ m) : ∀ i, i < k + 1 → wtO (ob l i) ≤ m := fun i hi => by
  by_cases e : i = k
  · subst e; exact hk
  · exact Nat.le_trans (h i (by omega)) hm
set_option maxHeartbeats 4000000 in
set_option maxRecDepth 100000 in
theorem sizeobs_any (A : Option Addr) (ca : Nat) (q : Nat → Pl) (l : List Ob) (w : World) (hA : ObsAt w A q l) (hS : ∀ i, i < l.length → SymsAt w (q i).A3 (ob l i).ss) (hL : ∀ i, i < l.length → LightO (ob l i)) (hl : l.length ≤ 64) :
    Calls Try.prog 17 #[.slice A l.length ca] w (SzP l w) := by
  have HA : Hid (ObsAt w A q l) := hA
  have HS : Hid (∀ i, i < l.length → SymsAt w (q i).A3 (ob l i).ss) := hS
  have HL : Hid (∀ i, i < l.length → LightO (ob l i)) := hL
  clear hA hS hL
  go_enter Try.func17, Try.ntmps17
  go_wp2
  go_loopw [4, 3] (fun i t wr => ∃ (k n : Nat), i = .int .i64 k ∧ t = .int .i64 n ∧ k ≤ l.length ∧ n ≤ 2111064472813567 ∧ Hid (∀ i, i < k → wtO (ob l i) ≤ n) ∧ Hid (Below w.heap.size w wr)) (fun i _ _ => l.length - (intOf i).toNat)
  case atStart => exact ⟨0, l.length, rfl, rfl, Nat.zero_le _, by omega, fun i hi => absurd hi (Nat.not_lt_zero _), Below.refl _ _⟩
  case round =>
    obtain ⟨k, n, rfl, rfl, hk, hn, HW, HB⟩ := hrel
    by_cases hlt : k < l.length
    · by_cases hbig : n ≤ 2147483647
      · have hlt' : (k : Int) < (l.length : Int) := by omega
        have hbig' : (n : Int) ≤ 2147483647 := by omega
        obtain ⟨a, ea, x0, x1, x2, x3, x4, x5⟩ := HA.out.six HB.out k hlt
        have hLk := HL.out k hlt
        have h1 := hLk.n
        have h2 := hLk.c
        have h3 := hLk.d
        have h4 := hLk.s
        have h5 := hLk.r
        have HLe : Hid _ := hLk.e
        have HSk : Hid _ := HS.out k hlt
        clear hLk
        subst ea
        go_wp2
        go_quiet (fail)
        have HB0 : Hid (Below w.heap.size w (wr.drewN nq)) := below_drewN HB.out _
        obtain ⟨m0, hm0⟩ : ∃ m : Nat, m = n + (ob l k).nm.size + 4 * (ob l k).code.length + 8 * (ob l k).data.length + (ob l k).rs.length + (ob l k).ss.length := ⟨_, rfl⟩
        have hm1 : (n : Int) + ((ob l k).nm.size : Int) + 4 * ((ob l k).code.length : Int) + 8 * ((ob l k).data.length : Int) + ((ob l k).rs.length : Int) + ((ob l k).ss.length : Int) = (m0 : Int) := by omega
        have hm2 : m0 ≤ 2111064472813567 := by omega
        have HM3 : Hid (n ≤ m0) := by unfold Hid; omega
        have HM4 : Hid (wtO (ob l k) ≤ m0) := by unfold Hid wtO; omega
        rw [hm1]
        clear hm0 hm1 x0 x1 x2 x3 x4 x5 h1 h2 h3 h5
        generalize wr.drewN nq = wz at HB0 ⊢
        go_wp2
        go_loopw [5, 3] (fun i t wr => ∃ (j m : Nat), i = .int .i64 j ∧ t = .int .i64 m ∧ j ≤ (ob l k).ss.length ∧ m0 ≤ m ∧ m ≤ 2111064472813567 ∧ Hid (Below w.heap.size w wr)) (fun i _ _ => (ob l k).ss.length - (intOf i).toNat)
        case atStart => exact ⟨0, m0, rfl, rfl, Nat.zero_le _, Nat.le_refl _, hm2, HB0⟩
        case round =>
          clear HB0
          obtain ⟨j, m, rfl, rfl, hj, hm3, hm4, HB1⟩ := hrel
          obtain ⟨b, eb, x0, x1, x2, x3, x4, x5⟩ := HA.out.six HB1.out k hlt
          obtain rfl := Option.some.inj eb
          clear eb x0 x1 x2 x3 x5
          by_cases hjl : j < (ob l k).ss.length
          · have hjl' : (j : Int) < ((ob l k).ss.length : Int) := by omega
            by_cases hmb : m ≤ 2147483647
            · have hmb' : (m : Int) ≤ 2147483647 := by omega
              obtain ⟨a3, e3, s0, s1, s2⟩ := HSk.out j hjl
              have t0 := lkeep HB1.out s0
              have hsz := HLe.out j
              rw [e3] at x4
              clear s0 s1 s2 e3
              go_wp2
              go_roundw
              case rel => exact ⟨j + 1, m + (sName (ob l k).ss j).size, by go_num, by go_num, by omega, by omega, by omega, HB1⟩
              case measure => simp [intOf]; omega
            · have hmb' : ¬ (m : Int) ≤ 2147483647 := by omega
              go_wp2
              go_roundw
              case rel => exact ⟨k + 1, m, by go_num, rfl, by omega, hm4, lt_step HW.out (Nat.le_trans HM3.out hm3) (Nat.le_trans HM4.out hm3), HB1⟩
              case measure => simp [intOf]; omega
          · have hjl' : ¬ (j : Int) < ((ob l k).ss.length : Int) := by omega
            go_wp2
            go_roundw
            case rel => exact ⟨k + 1, m, by go_num, rfl, by omega, hm4, lt_step HW.out (Nat.le_trans HM3.out hm3) (Nat.le_trans HM4.out hm3), HB1⟩
            case measure => simp [intOf]; omega
      · have hlt' : (k : Int) < (l.length : Int) := by omega
        have hbig' : ¬ (n : Int) ≤ 2147483647 := by omega
        go_wp2
        go_ret
        exact ⟨n, rfl, hn, fun h => absurd h hbig, HB.out⟩
    · have hlt' : ¬ (k : Int) < (l.length : Int) := by omega
      go_wp2
      go_ret
      exact ⟨n, rfl, hn, fun _ i hi => HW.out i (by omega), HB.out⟩
/-- How heavy ends. -/
def HvL (l : List Ob) (w : World) (e : Ending) (w' : World) : Prop := ∃ B : Bool, e = .returned (.bool B) ∧ (B = false → l.length ≤ 64 ∧ ∀ i, i < l.length → wtO (ob l i) ≤ 524288) ∧ Below w.heap.size w w'
theorem long_any (n : Int) (w : World) : Calls Try.prog 16 #[.int .i64 n] w fun e w' => e = .returned (.bool (decide (2147483647 < n))) ∧ w' = w := by
  go_enter Try.func16, Try.ntmps16
  go_wp2
  go_ret
  exact ⟨rfl, rfl⟩
set_option maxHeartbeats 4000000 in
set_option maxRecDepth 100000 in
theorem heavy_any (A : Option Addr) (ca : Nat) (q : Nat → Pl) (l : List Ob) (w : World) (hA : ObsAt w A q l) (hS : ∀ i, i < l.length → SymsAt w (q i).A3 (ob l i).ss) (hL : ∀ i, i < l.length → LightO (ob l i)) :
    Calls Try.prog 5 #[.slice A l.length ca] w (HvL l w) := by
  by_cases hl : 64 < l.length
  · have hl' : (64 : Int) < (l.length : Int) := by omega
    clear hA hS hL
    go_enter Try.func5, Try.ntmps5
    go_wp2
    go_ret
    exact ⟨true, rfl, fun h => (by cases h), Below.refl _ _⟩
  · have hl' : ¬ (64 : Int) < (l.length : Int) := by omega
    have hl4 : l.length ≤ 64 := by omega
    have CZ : Hid (∀ wx, Below w.heap.size w wx → Calls Try.prog 17 #[.slice A l.length ca] wx (SzP l wx)) := fun wx hx => sizeobs_any A ca q l wx (hA.keep hx) (fun i hi => (hS i hi).keep hx) hL hl4
    clear hA hS hL hl
    go_enter Try.func5, Try.ntmps5
    go_wp2_with fail
    refine (CZ.out _ (Below.refl _ _)).mono ?_
    rintro e w1 ⟨n, rfl, hn, -, hb1⟩
    have HB1 : Hid (Below w.heap.size w w1) := hb1
    clear hb1
    go_wp2_with fail
    refine (long_any _ _).mono ?_
    rintro e w2 ⟨rfl, rfl⟩
    by_cases hlo : 2147483647 < n
    · have hlo' : (2147483647 : Int) < (n : Int) := by omega
      go_wp2
      go_ret
      exact ⟨true, rfl, fun h => (by cases h), HB1.out⟩
    · have hlo' : ¬ (2147483647 : Int) < (n : Int) := by omega
      go_wp2_with fail
      refine (CZ.out _ HB1.out).mono ?_
      rintro e w3 ⟨m, rfl, hm, hwt, hb3⟩
      have HB3 : Hid (Below w.heap.size w w3) := lb_trans HB1.out hb3
      have HWt : Hid (m ≤ 2147483647 → ∀ i, i < l.length → wtO (ob l i) ≤ m) := hwt
      clear hwt hb3
      go_wp2
      go_ret
      refine ⟨_, rfl, fun h => ⟨hl4, fun i hi => ?_⟩, HB3.out⟩
      have h1 : (n : Int) ≤ 2147483647 ∧ (m : Int) ≤ 524288 := by simpa using h
      have h2 := h1.2
      exact Nat.le_trans (HWt.out (by omega) i hi) (by omega)



end Go.Proofs.Ytiihfkjgdhfmiaa

namespace Go.Proofs.Ytiihfkjgdhfmiaa
open Go.RowKit

theorem num_any (n i : Int) (h0 : 0 ≤ n) (h1 : n ≤ 9) (h2 : 0 ≤ i) (h3 : i ≤ 2097152) (w : World) : Calls Try.prog 20 #[.int .i64 n, .int .i64 i] w fun e w' => e = .returned (.int .i64 (1048576 * n + i + 1)) ∧ w' = w := by
  go_enter Try.func20, Try.ntmps20
  go_wp2
  go_ret
  exact ⟨rfl, rfl⟩
theorem made_wcur (f : Nat → Value) (z : Value) (N : Nat) : madeCells #[z] N = wcur f (fun _ => z) N 0 := by
  apply Array.ext_getElem?
  intro i
  by_cases hi : i < N
  · rw [wcur_get _ _ _ _ _ hi]; simp [madeCells, hi, Nat.mod_one]
  · rw [Array.getElem?_eq_none (by simp [madeCells]; omega), Array.getElem?_eq_none (by simp [wcur_size]; omega)]
theorem info45 : ∃ i, Try.prog.info? 78 = some i ∧ i.zero = some (.int .u32 0) ∧ i.size = 1 ∧ i.bytes = 4 :=
  ⟨(Try.prog.info? 78).get (by kernel_rfl), by kernel_rfl, by kernel_rfl, by kernel_rfl, by kernel_rfl⟩
theorem make22 (f : Nat → Value) (n : Nat) (hn : n ≤ 1048576) (w : World) : (Instr.makeSlice 44 (.int .i64 ((n : Int) + 64)) (.int .i64 ((n : Int) + 64))).run Try.prog w = .ok (.slice (some ⟨w.heap.size, 0, none⟩) (n + 64) (n + 64)) (w.alloc (.cells (wcur f (fun _ => .int .u32 0) (n + 64) 0) 78)) := by
  obtain ⟨i, hi, hz, hs, hb⟩ := info45
  have h := run_makeSlice (P := Try.prog) w 44 78 i _ Try.underlying44 hi hz .i64 .i64 ((n : Int) + 64) ((n : Int) + 64) (by omega) (by omega) (by rw [hs]; omega) (by rw [hb]; omega) (by omega)
  rw [hs, Nat.mul_one, show ((n : Int) + 64).toNat = n + 64 by omega] at h
  rw [h, ← made_wcur f (.int .u32 0) (n + 64)]
  rfl
set_option maxRecDepth 100000 in
set_option maxHeartbeats 1000000 in
theorem widewords_any (O : Option Addr) (ca : Nat) (zs : List Int) (w : World) (hA : IntsAt w O .u32 zs) (hz : zs.length ≤ 1048576) :
    Calls Try.prog 32 #[.slice O zs.length ca] w fun e w' => e = .returned (.slice (some ⟨w.heap.size, 0, none⟩) zs.length (zs.length + 64)) ∧ w' = w.alloc (.cells (wcur (wInt .u32 zs) (fun _ => .int .u32 0) (zs.length + 64) (zs.length + 64)) 78) := by
  have hm := make22 (wInt .u32 zs) zs.length hz
  go_enter Try.func32, Try.ntmps32
  go_wp2
  go_loopw [4] (fun i wr => ∃ k : Nat, i = .int .i64 k ∧ k ≤ zs.length + 64 ∧ wr = w.alloc (.cells (wcur (wInt .u32 zs) (fun _ => .int .u32 0) (zs.length + 64) k) 78)) (fun i _ => zs.length + 64 - (intOf i).toNat)
  case atStart => exact ⟨0, rfl, by omega, rfl⟩
  case round =>
    obtain ⟨k, rfl, hk, rfl⟩ := hrel
    clear hm
    have hsz := wcur_size (wInt .u32 zs) (fun _ => .int .u32 0) (zs.length + 64) k
    by_cases hlt : k < zs.length + 64
    · have hg : (wcur (wInt .u32 zs) (fun _ => .int .u32 0) (zs.length + 64) k)[k]? = some (.int .u32 0) := by rw [wcur_get _ _ _ _ _ hlt]; simp
      have hs := wcur_set (wInt .u32 zs) (fun _ => .int .u32 0) (zs.length + 64) k hlt
      by_cases h2 : k < zs.length
      · obtain ⟨a, rfl, c1⟩ := hA k h2
        rw [show wInt .u32 zs k = .int .u32 (nth zs k) by simp [wInt, h2]] at hs
        have HS : Hid _ := hs
        clear hs
        have c2 : (w.alloc (.cells (wcur (wInt .u32 zs) (fun _ => .int .u32 0) (zs.length + 64) k) 78)).cell? (a.add k) = some (.int .u32 (nth zs k)) := lkeep (lb_alloc (Below.refl _ _) _) c1
        clear c1
        go_wp2
        go_roundw
        case rel => exact ⟨k + 1, by go_num, by omega, by rw [← HS.out]⟩
        case measure => simp [intOf]; omega
      · rw [show wInt .u32 zs k = .int .u32 (9437184 + k + 1) by simp [wInt, h2, mark]] at hs
        have HS : Hid _ := hs
        clear hs
        go_wp2_with fail
        refine (num_any 9 k (by omega) (by omega) (by omega) (by omega) _).mono ?_
        rintro e w1 ⟨rfl, rfl⟩
        go_wp2
        go_roundw
        case rel => exact ⟨k + 1, by go_num, by omega, by rw [← HS.out]⟩
        case measure => simp [intOf]; omega
    · obtain rfl : k = zs.length + 64 := by omega
      clear hlt hk
      go_wp2
      go_ret
      exact ⟨rfl, rfl⟩

theorem info2 : ∃ i, Try.prog.info? 2 = some i ∧ i.zero = some (.int .i64 0) ∧ i.size = 1 ∧ i.bytes = 8 :=
  ⟨(Try.prog.info? 2).get (by kernel_rfl), by kernel_rfl, by kernel_rfl, by kernel_rfl, by kernel_rfl⟩
theorem make23 (f : Nat → Value) (n : Nat) (hn : n ≤ 1048576) (w : World) : (Instr.makeSlice 45 (.int .i64 ((n : Int) + 64)) (.int .i64 ((n : Int) + 64))).run Try.prog w = .ok (.slice (some ⟨w.heap.size, 0, none⟩) (n + 64) (n + 64)) (w.alloc (.cells (wcur f (fun _ => .int .i64 0) (n + 64) 0) 2)) := by
  obtain ⟨i, hi, hz, hs, hb⟩ := info2
  have h := run_makeSlice (P := Try.prog) w 45 2 i _ Try.underlying45 hi hz .i64 .i64 ((n : Int) + 64) ((n : Int) + 64) (by omega) (by omega) (by rw [hs]; omega) (by rw [hb]; omega) (by omega)
  rw [hs, Nat.mul_one, show ((n : Int) + 64).toNat = n + 64 by omega] at h
  rw [h, ← made_wcur f (.int .i64 0) (n + 64)]
  rfl
set_option maxRecDepth 100000 in
set_option maxHeartbeats 1000000 in
theorem widelongs_any (O : Option Addr) (ca : Nat) (zs : List Int) (w : World) (hA : IntsAt w O .i64 zs) (hz : zs.length ≤ 1048576) :
    Calls Try.prog 33 #[.slice O zs.length ca] w fun e w' => e = .returned (.slice (some ⟨w.heap.size, 0, none⟩) zs.length (zs.length + 64)) ∧ w' = w.alloc (.cells (wcur (wInt .i64 zs) (fun _ => .int .i64 0) (zs.length + 64) (zs.length + 64)) 2) := by
  have hm := make23 (wInt .i64 zs) zs.length hz
  go_enter Try.func33, Try.ntmps33
  go_wp2
  go_loopw [4] (fun i wr => ∃ k : Nat, i = .int .i64 k ∧ k ≤ zs.length + 64 ∧ wr = w.alloc (.cells (wcur (wInt .i64 zs) (fun _ => .int .i64 0) (zs.length + 64) k) 2)) (fun i _ => zs.length + 64 - (intOf i).toNat)
  case atStart => exact ⟨0, rfl, by omega, rfl⟩
  case round =>
    obtain ⟨k, rfl, hk, rfl⟩ := hrel
    clear hm
    have hsz := wcur_size (wInt .i64 zs) (fun _ => .int .i64 0) (zs.length + 64) k
    by_cases hlt : k < zs.length + 64
    · have hg : (wcur (wInt .i64 zs) (fun _ => .int .i64 0) (zs.length + 64) k)[k]? = some (.int .i64 0) := by rw [wcur_get _ _ _ _ _ hlt]; simp
      have hs := wcur_set (wInt .i64 zs) (fun _ => .int .i64 0) (zs.length + 64) k hlt
      by_cases h2 : k < zs.length
      · obtain ⟨a, rfl, c1⟩ := hA k h2
        rw [show wInt .i64 zs k = .int .i64 (nth zs k) by simp [wInt, h2]] at hs
        have HS : Hid _ := hs
        clear hs
        have c2 : (w.alloc (.cells (wcur (wInt .i64 zs) (fun _ => .int .i64 0) (zs.length + 64) k) 2)).cell? (a.add k) = some (.int .i64 (nth zs k)) := lkeep (lb_alloc (Below.refl _ _) _) c1
        clear c1
        go_wp2
        go_roundw
        case rel => exact ⟨k + 1, by go_num, by omega, by rw [← HS.out]⟩
        case measure => simp [intOf]; omega
      · rw [show wInt .i64 zs k = .int .i64 (9437184 + k + 1) by simp [wInt, h2, mark]] at hs
        have HS : Hid _ := hs
        clear hs
        go_wp2_with fail
        refine (num_any 9 k (by omega) (by omega) (by omega) (by omega) _).mono ?_
        rintro e w1 ⟨rfl, rfl⟩
        go_wp2
        go_roundw
        case rel => exact ⟨k + 1, by go_num, by omega, by rw [← HS.out]⟩
        case measure => simp [intOf]; omega
    · obtain rfl : k = zs.length + 64 := by omega
      clear hlt hk
      go_wp2
      go_ret
      exact ⟨rfl, rfl⟩







end Go.Proofs.Ytiihfkjgdhfmiaa

namespace Go.Proofs.Ytiihfkjgdhfmiaa
open Go.RowKit

theorem info42 : ∃ i, Try.prog.info? 52 = some i ∧ i.zero = some (.agg #[.string ⟨#[]⟩, .int .i8 0, .int .i64 0]) ∧ i.size = 3 ∧ i.bytes = 32 :=
  ⟨(Try.prog.info? 52).get (by kernel_rfl), by kernel_rfl, by kernel_rfl, by kernel_rfl, by kernel_rfl⟩
theorem made_sym (f : Nat → Value) (N : Nat) : madeCells #[.string ⟨#[]⟩, .int .i8 0, .int .i64 0] N = wcur f zSym N 0 := by
  apply Array.ext_getElem?
  intro i
  by_cases hi : i < N
  · rw [wcur_get _ _ _ _ _ hi]
    have h : i % 3 = 0 ∨ i % 3 = 1 ∨ i % 3 = 2 := by omega
    rcases h with h | h | h <;> simp [madeCells, hi, h, zSym]
  · rw [Array.getElem?_eq_none (by simp [madeCells]; omega), Array.getElem?_eq_none (by simp [wcur_size]; omega)]
theorem make24 (f : Nat → Value) (n : Nat) (hn : n ≤ 1048576) (w : World) : (Instr.makeSlice 46 (.int .i64 ((n : Int) + 64)) (.int .i64 ((n : Int) + 64))).run Try.prog w = .ok (.slice (some ⟨w.heap.size, 0, none⟩) (n + 64) (n + 64)) (w.alloc (.cells (wcur f zSym ((n + 64) * 3) 0) 52)) := by
  obtain ⟨i, hi, hz, hs, hb⟩ := info42
  have h := run_makeSlice (P := Try.prog) w 46 52 i _ Try.underlying46 hi hz .i64 .i64 ((n : Int) + 64) ((n : Int) + 64) (by omega) (by omega) (by rw [hs]; omega) (by rw [hb]; omega) (by omega)
  rw [hs, show ((n : Int) + 64).toNat = n + 64 by omega] at h
  rw [h, ← made_sym f ((n + 64) * 3)]
  rfl
theorem wSym_item0 (zs : List Sym) (k : Nat) (h : k < zs.length) : wSym zs (k * 3) = .string (sName zs k) := by
  have e : (k * 3) / 3 = k := by omega
  have m : (k * 3) % 3 = 0 := by omega
  simp [wSym, e, m, h]
theorem wSym_item1 (zs : List Sym) (k : Nat) (h : k < zs.length) : wSym zs (k * 3 + 1) = .int .i8 (sKind zs k) := by
  have e : (k * 3 + 1) / 3 = k := by omega
  have m : (k * 3 + 1) % 3 = 1 := by omega
  simp [wSym, e, m, h]
theorem wSym_item2 (zs : List Sym) (k : Nat) (h : k < zs.length) : wSym zs (k * 3 + 2) = .int .i64 (sAt zs k) := by
  have e : (k * 3 + 2) / 3 = k := by omega
  have m : (k * 3 + 2) % 3 = 2 := by omega
  simp [wSym, e, m, h]
theorem sym_item (zs : List Sym) (k : Nat) (_hk : k < zs.length + 64) (h : k < zs.length) : ((((wcur (wSym zs) zSym ((zs.length + 64) * 3) (k * 3)).setIfInBounds (k * 3) (.string (sName zs k))).setIfInBounds (k * 3 + 1) (.int .i8 (sKind zs k))).setIfInBounds (k * 3 + 2) (.int .i64 (sAt zs k))) = wcur (wSym zs) zSym ((zs.length + 64) * 3) ((k + 1) * 3) := by
  rw [← wSym_item0 zs k h, wcur_set _ _ _ _ (by omega), ← wSym_item1 zs k h, wcur_set _ _ _ _ (by omega), ← wSym_item2 zs k h, wcur_set _ _ _ _ (by omega), show (k + 1) * 3 = k * 3 + 3 by omega]
theorem wSym_mark0 (zs : List Sym) (k : Nat) (h : ¬ k < zs.length) : wSym zs (k * 3) = .string ⟨#[]⟩ := by
  have e : (k * 3) / 3 = k := by omega
  have m : (k * 3) % 3 = 0 := by omega
  simp [wSym, e, m, h]
theorem wSym_mark1 (zs : List Sym) (k : Nat) (h : ¬ k < zs.length) : wSym zs (k * 3 + 1) = .int .i8 0 := by
  have e : (k * 3 + 1) / 3 = k := by omega
  have m : (k * 3 + 1) % 3 = 1 := by omega
  simp [wSym, e, m, h]
theorem wSym_mark2 (zs : List Sym) (k : Nat) (h : ¬ k < zs.length) : wSym zs (k * 3 + 2) = .int .i64 (9437184 + k + 1) := by
  have e : (k * 3 + 2) / 3 = k := by omega
  have m : (k * 3 + 2) % 3 = 2 := by omega
  simp [wSym, e, m, h, mark]
theorem sym_mark (zs : List Sym) (k : Nat) (hk : k < zs.length + 64) (h : ¬ k < zs.length) : ((((wcur (wSym zs) zSym ((zs.length + 64) * 3) (k * 3)).setIfInBounds (k * 3) (.string ⟨#[]⟩)).setIfInBounds (k * 3 + 1) (.int .i8 0)).setIfInBounds (k * 3 + 2) (.int .i64 (9437184 + k + 1))) = wcur (wSym zs) zSym ((zs.length + 64) * 3) ((k + 1) * 3) := by
  rw [← wSym_mark0 zs k h, wcur_set _ _ _ _ (by omega), ← wSym_mark1 zs k h, wcur_set _ _ _ _ (by omega), ← wSym_mark2 zs k h, wcur_set _ _ _ _ (by omega), show (k + 1) * 3 = k * 3 + 3 by omega]
set_option maxRecDepth 100000 in
set_option maxHeartbeats 1000000 in
theorem widesym_any (O : Option Addr) (ca : Nat) (zs : List Sym) (w : World) (hA : SymsAt w O zs) (hz : zs.length ≤ 1048576) :
    Calls Try.prog 34 #[.slice O zs.length ca] w fun e w' => e = .returned (.slice (some ⟨w.heap.size, 0, none⟩) zs.length (zs.length + 64)) ∧ w' = w.alloc (.cells (wcur (wSym zs) zSym ((zs.length + 64) * 3) ((zs.length + 64) * 3)) 52) := by
  have hm := make24 (wSym zs) zs.length hz
  go_enter Try.func34, Try.ntmps34
  go_wp2
  go_loopw [4] (fun i wr => ∃ k : Nat, i = .int .i64 k ∧ k ≤ zs.length + 64 ∧ wr = w.alloc (.cells (wcur (wSym zs) zSym ((zs.length + 64) * 3) (k * 3)) 52)) (fun i _ => zs.length + 64 - (intOf i).toNat)
  case atStart => exact ⟨0, rfl, by omega, rfl⟩
  case round =>
    obtain ⟨k, rfl, hk, rfl⟩ := hrel
    clear hm
    have hsz := wcur_size (wSym zs) zSym ((zs.length + 64) * 3) (k * 3)
    by_cases hlt : k < zs.length + 64
    · have hg0 : (wcur (wSym zs) zSym ((zs.length + 64) * 3) (k * 3))[k * 3]? = some (zSym (k * 3)) := by rw [wcur_get _ _ _ _ _ (by omega), if_neg (by omega)]
      have hg1 : (wcur (wSym zs) zSym ((zs.length + 64) * 3) (k * 3))[k * 3 + 1]? = some (zSym (k * 3 + 1)) := by rw [wcur_get _ _ _ _ _ (by omega), if_neg (by omega)]
      have hg2 : (wcur (wSym zs) zSym ((zs.length + 64) * 3) (k * 3))[k * 3 + 2]? = some (zSym (k * 3 + 2)) := by rw [wcur_get _ _ _ _ _ (by omega), if_neg (by omega)]
      by_cases h2 : k < zs.length
      · obtain ⟨a, rfl, c0, c1, c2⟩ := hA k h2
        have HS : Hid _ := sym_item zs k hlt h2
        have d0 : (w.alloc (.cells (wcur (wSym zs) zSym ((zs.length + 64) * 3) (k * 3)) 52)).cell? (a.add (k * 3)) = some (.string (sName zs k)) := lkeep (lb_alloc (Below.refl _ _) _) c0
        have d1 : (w.alloc (.cells (wcur (wSym zs) zSym ((zs.length + 64) * 3) (k * 3)) 52)).cell? (⟨(a.add (k * 3)).block, (a.add (k * 3)).off + 1, none⟩) = some (.int .i8 (sKind zs k)) := lkeep (lb_alloc (Below.refl _ _) _) c1
        have d2 : (w.alloc (.cells (wcur (wSym zs) zSym ((zs.length + 64) * 3) (k * 3)) 52)).cell? (⟨(a.add (k * 3)).block, (a.add (k * 3)).off + 2, none⟩) = some (.int .i64 (sAt zs k)) := lkeep (lb_alloc (Below.refl _ _) _) c2
        clear c0 c1 c2
        go_wp2
        go_roundw
        case rel => exact ⟨k + 1, by go_num, by omega, by rw [← HS.out]⟩
        case measure => simp [intOf]; omega
      · have HS : Hid _ := sym_mark zs k hlt h2
        go_wp2_with fail
        refine (num_any 9 k (by omega) (by omega) (by omega) (by omega) _).mono ?_
        rintro e w1 ⟨rfl, rfl⟩
        go_wp2
        go_roundw
        case rel => exact ⟨k + 1, by go_num, by omega, by rw [← HS.out]⟩
        case measure => simp [intOf]; omega
    · obtain rfl : k = zs.length + 64 := by omega
      clear hlt hk
      go_wp2
      go_ret
      exact ⟨rfl, rfl⟩







end Go.Proofs.Ytiihfkjgdhfmiaa
