/-
  What is asked of a list of objects, as plain mathematics; no Go in sight. A list of numbers copied into memory of its own, with marks behind it, by the document's helpers; it is at most 2^20 long. A list of relocations copied into memory of its own, with marks behind it, by the document's helper; it is at most 2^20 long. A list of symbols copied into memory of its own, with marks behind it, by the document's helper; it is at most 2^20 long.
-/
import Derived.Test.YthpkekpojhmaaaaGreatDoorProg
import Derived.WalkKit
import Derived.WalkSpells
import Derived.WalkLawsBesides
import Derived.RowKit3
import Derived.Below
import Derived.Deep.QuietTactic
import Derived.BigQuiet
import Derived.WalkSmall
import Derived.Laws.Rows
import Derived.Test.YthpkekpojhmaaaaGreatDoorP19
import Derived.Laws.MakeOwn
import Derived.Test.YthpkekpojhmaaaaGreatDoorP01
namespace Go.Proofs.YthpkekpojhmaaaaGreatDoor
open Go.RowKit

/-- An object's Check. -/
def obC (o : Ob) : Int × Int := checkC o.nm o.code o.dA o.data.length o.ss o.rs
/-- An object's name, one ahead has it. -/
def sameN (l : List Ob) (i k : Nat) : Option Unit := if ((ob l k).nm.toList == (ob l i).nm.toList) = true then some () else none
/-- What is wrong with an object. -/
def badO (l : List Ob) (i : Nat) : Option (Int × Int × Int) :=
  if (obC (ob l i)).1 = 0 then match fstN (sameN l i) i with
    | some _ => some (26, i, -1)
    | none => none
  else some ((obC (ob l i)).1, i, (obC (ob l i)).2)
def chkL (l : List Ob) : Option (Int × Int × Int) := if 32 < l.length then some (21, 32, 0) else fstN (badO l) l.length
/-- A Global symbol whose name one ahead has. -/
def twS (l : List Ob) (i k : Nat) : Option (Int × Int × Int) := if (sKind (ob l i).ss k == 1) = true ∧ (firstF (sName (ob l i).ss k) 1 l i k).isSome = true then some (26, i, k) else none
/-- A Wanted symbol whose name stands for nothing. -/
def unS (l : List Ob) (i k : Nat) : Option (Int × Int × Int) := if (sKind (ob l i).ss k == 3) = true ∧ (findF (sName (ob l i).ss k) l).isSome = false then some (40, i, k) else none
def twO (l : List Ob) (i : Nat) : Option (Int × Int × Int) := fstN (twS l i) (ob l i).ss.length
def unO (l : List Ob) (i : Nat) : Option (Int × Int × Int) := fstN (unS l i) (ob l i).ss.length
def namL (l : List Ob) : Option (Int × Int × Int) := match fstN (twO l) l.length with
  | some x => some x
  | none => fstN (unO l) l.length
def t1 : Option (Int × Int × Int) → Int
  | some x => x.1
  | none => 0
def t2 : Option (Int × Int × Int) → Int
  | some x => x.2.1
  | none => 0
def t3 : Option (Int × Int × Int) → Int
  | some x => x.2.2
  | none => 0
/-- An answer of check, of names. -/
def ErrP (x : Option (Int × Int × Int)) (w : World) (e : Ending) (w' : World) : Prop := e = .returned (.tuple #[.int .i64 (t1 x), .int .i64 (t2 x), .int .i64 (t3 x)]) ∧ Below w.heap.size w w'
/-- An error is no OK. -/
def Errs (x : Option (Int × Int × Int)) : Prop := ∀ y, x = some y → ¬ y.1 = 0
theorem fst_errs {f : Nat → Option (Int × Int × Int)} (h : ∀ i, Errs (f i)) (n : Nat) : Errs (fstN f n) := fun y e => by
  obtain ⟨k, _, hk, _⟩ := fst_some e
  exact h k y hk
theorem badO_errs (l : List Ob) (i : Nat) : Errs (badO l i) := fun y e => by
  unfold badO at e
  split at e
  · split at e
    · cases e; simp
    · cases e
  · next h => cases e; exact h
theorem chkL_errs (l : List Ob) : Errs (chkL l) := fun y e => by
  unfold chkL at e
  split at e
  · cases e; simp
  · exact fst_errs (badO_errs l) _ y e
theorem twO_errs (l : List Ob) (i : Nat) : Errs (twO l i) := fst_errs (fun k y e => by
  unfold twS at e
  split at e
  · cases e; simp
  · cases e) _
theorem unO_errs (l : List Ob) (i : Nat) : Errs (unO l i) := fst_errs (fun k y e => by
  unfold unS at e
  split at e
  · cases e; simp
  · cases e) _
theorem namL_errs (l : List Ob) : Errs (namL l) := fun y e => by
  unfold namL at e
  split at e
  · next h => cases e; exact fst_errs (twO_errs l) _ _ h
  · exact fst_errs (unO_errs l) _ y e



end Go.Proofs.YthpkekpojhmaaaaGreatDoor

namespace Go.Proofs.YthpkekpojhmaaaaGreatDoor
open Go.RowKit

theorem num_any (n i : Int) (h0 : 0 ≤ n) (h1 : n ≤ 9) (h2 : 0 ≤ i) (h3 : i ≤ 2097152) (w : World) : Calls Tryz.prog 36 #[.int .i64 n, .int .i64 i] w fun e w' => e = .returned (.int .i64 (1048576 * n + i + 1)) ∧ w' = w := by
  go_enter Tryz.func36, Tryz.ntmps36
  go_wp2
  go_ret
  exact ⟨rfl, rfl⟩
theorem made_wcur (f : Nat → Value) (z : Value) (N : Nat) : madeCells #[z] N = wcur f (fun _ => z) N 0 := by
  apply Array.ext_getElem?
  intro i
  by_cases hi : i < N
  · rw [wcur_get _ _ _ _ _ hi]; simp [madeCells, hi, Nat.mod_one]
  · rw [Array.getElem?_eq_none (by simp [madeCells]; omega), Array.getElem?_eq_none (by simp [wcur_size]; omega)]
theorem info45 : ∃ i, Tryz.prog.info? 78 = some i ∧ i.zero = some (.int .u32 0) ∧ i.size = 1 ∧ i.bytes = 4 :=
  ⟨(Tryz.prog.info? 78).get (by kernel_rfl), by kernel_rfl, by kernel_rfl, by kernel_rfl, by kernel_rfl⟩
theorem make22 (f : Nat → Value) (n : Nat) (hn : n ≤ 1048576) (w : World) : (Instr.makeSlice 26 (.int .i64 ((n : Int) + 64)) (.int .i64 ((n : Int) + 64))).run Tryz.prog w = .ok (.slice (some ⟨w.heap.size, 0, none⟩) (n + 64) (n + 64)) (w.alloc (.cells (wcur f (fun _ => .int .u32 0) (n + 64) 0) 78)) := by
  obtain ⟨i, hi, hz, hs, hb⟩ := info45
  have h := run_makeSlice (P := Tryz.prog) w 26 78 i _ Tryz.underlying26 hi hz .i64 .i64 ((n : Int) + 64) ((n : Int) + 64) (by omega) (by omega) (by rw [hs]; omega) (by rw [hb]; omega) (by omega)
  rw [hs, Nat.mul_one, show ((n : Int) + 64).toNat = n + 64 by omega] at h
  rw [h, ← made_wcur f (.int .u32 0) (n + 64)]
  rfl
set_option maxRecDepth 100000 in
set_option maxHeartbeats 1000000 in
theorem widewords_any (O : Option Addr) (ca : Nat) (zs : List Int) (w : World) (hA : IntsAt w O .u32 zs) (hz : zs.length ≤ 1048576) :
    Calls Tryz.prog 88 #[.slice O zs.length ca] w fun e w' => e = .returned (.slice (some ⟨w.heap.size, 0, none⟩) zs.length (zs.length + 64)) ∧ w' = w.alloc (.cells (wcur (wInt .u32 zs) (fun _ => .int .u32 0) (zs.length + 64) (zs.length + 64)) 78) := by
  have hm := make22 (wInt .u32 zs) zs.length hz
  go_enter Tryz.func88, Tryz.ntmps88
  go_wp2
  go_loopw [4] (fun i wr => ∃ k : Nat, i = .int .i64 k ∧ k ≤ zs.length + 64 ∧ wr = w.alloc (.cells (wcur (wInt .u32 zs) (fun _ => .int .u32 0) (zs.length + 64) k) 78)) (fun i _ => zs.length + 64 - (intOf i).toNat)
  case atStart => exact ⟨0, rfl, by omega, rfl⟩
  case round =>
    obtain ⟨k, rfl, hk, rfl⟩ := hrel
    clear hm
    have hsz := wcur_size (wInt .u32 zs) (fun _ => .int .u32 0) (zs.length + 64) k
    by_cases hlt : k < zs.length + 64
    · have hg : (wcur (wInt .u32 zs) (fun _ => .int .u32 0) (zs.length + 64) k)[k]? = some (.int .u32 0) := by rw [wcur_get _ _ _ _ _ hlt]; simp
      have hs := wcur_set (wInt .u32 zs) (fun _ => .int .u32 0) (zs.length + 64) k hlt
      by_cases h2 : k < zs.length
      · obtain ⟨a, rfl, c1⟩ := hA k h2
        rw [show wInt .u32 zs k = .int .u32 (nth zs k) by simp [wInt, h2]] at hs
        have HS : Hid _ := hs
        clear hs
        have c2 : (w.alloc (.cells (wcur (wInt .u32 zs) (fun _ => .int .u32 0) (zs.length + 64) k) 78)).cell? (a.add k) = some (.int .u32 (nth zs k)) := lkeep (lb_alloc (Below.refl _ _) _) c1
        clear c1
        go_wp2
        go_roundw
        case rel => exact ⟨k + 1, by go_num, by omega, by rw [← HS.out]⟩
        case measure => simp [intOf]; omega
      · rw [show wInt .u32 zs k = .int .u32 (9437184 + k + 1) by simp [wInt, h2, mark]] at hs
        have HS : Hid _ := hs
        clear hs
        go_wp2_with fail
        refine (num_any 9 k (by omega) (by omega) (by omega) (by omega) _).mono ?_
        rintro e w1 ⟨rfl, rfl⟩
        go_wp2
        go_roundw
        case rel => exact ⟨k + 1, by go_num, by omega, by rw [← HS.out]⟩
        case measure => simp [intOf]; omega
    · obtain rfl : k = zs.length + 64 := by omega
      clear hlt hk
      go_wp2
      go_ret
      exact ⟨rfl, rfl⟩

theorem info2 : ∃ i, Tryz.prog.info? 2 = some i ∧ i.zero = some (.int .i64 0) ∧ i.size = 1 ∧ i.bytes = 8 :=
  ⟨(Tryz.prog.info? 2).get (by kernel_rfl), by kernel_rfl, by kernel_rfl, by kernel_rfl, by kernel_rfl⟩
theorem make23 (f : Nat → Value) (n : Nat) (hn : n ≤ 1048576) (w : World) : (Instr.makeSlice 27 (.int .i64 ((n : Int) + 64)) (.int .i64 ((n : Int) + 64))).run Tryz.prog w = .ok (.slice (some ⟨w.heap.size, 0, none⟩) (n + 64) (n + 64)) (w.alloc (.cells (wcur f (fun _ => .int .i64 0) (n + 64) 0) 2)) := by
  obtain ⟨i, hi, hz, hs, hb⟩ := info2
  have h := run_makeSlice (P := Tryz.prog) w 27 2 i _ Tryz.underlying27 hi hz .i64 .i64 ((n : Int) + 64) ((n : Int) + 64) (by omega) (by omega) (by rw [hs]; omega) (by rw [hb]; omega) (by omega)
  rw [hs, Nat.mul_one, show ((n : Int) + 64).toNat = n + 64 by omega] at h
  rw [h, ← made_wcur f (.int .i64 0) (n + 64)]
  rfl
set_option maxRecDepth 100000 in
set_option maxHeartbeats 1000000 in
theorem widelongs_any (O : Option Addr) (ca : Nat) (zs : List Int) (w : World) (hA : IntsAt w O .i64 zs) (hz : zs.length ≤ 1048576) :
    Calls Tryz.prog 89 #[.slice O zs.length ca] w fun e w' => e = .returned (.slice (some ⟨w.heap.size, 0, none⟩) zs.length (zs.length + 64)) ∧ w' = w.alloc (.cells (wcur (wInt .i64 zs) (fun _ => .int .i64 0) (zs.length + 64) (zs.length + 64)) 2) := by
  have hm := make23 (wInt .i64 zs) zs.length hz
  go_enter Tryz.func89, Tryz.ntmps89
  go_wp2
  go_loopw [4] (fun i wr => ∃ k : Nat, i = .int .i64 k ∧ k ≤ zs.length + 64 ∧ wr = w.alloc (.cells (wcur (wInt .i64 zs) (fun _ => .int .i64 0) (zs.length + 64) k) 2)) (fun i _ => zs.length + 64 - (intOf i).toNat)
  case atStart => exact ⟨0, rfl, by omega, rfl⟩
  case round =>
    obtain ⟨k, rfl, hk, rfl⟩ := hrel
    clear hm
    have hsz := wcur_size (wInt .i64 zs) (fun _ => .int .i64 0) (zs.length + 64) k
    by_cases hlt : k < zs.length + 64
    · have hg : (wcur (wInt .i64 zs) (fun _ => .int .i64 0) (zs.length + 64) k)[k]? = some (.int .i64 0) := by rw [wcur_get _ _ _ _ _ hlt]; simp
      have hs := wcur_set (wInt .i64 zs) (fun _ => .int .i64 0) (zs.length + 64) k hlt
      by_cases h2 : k < zs.length
      · obtain ⟨a, rfl, c1⟩ := hA k h2
        rw [show wInt .i64 zs k = .int .i64 (nth zs k) by simp [wInt, h2]] at hs
        have HS : Hid _ := hs
        clear hs
        have c2 : (w.alloc (.cells (wcur (wInt .i64 zs) (fun _ => .int .i64 0) (zs.length + 64) k) 2)).cell? (a.add k) = some (.int .i64 (nth zs k)) := lkeep (lb_alloc (Below.refl _ _) _) c1
        clear c1
        go_wp2
        go_roundw
        case rel => exact ⟨k + 1, by go_num, by omega, by rw [← HS.out]⟩
        case measure => simp [intOf]; omega
      · rw [show wInt .i64 zs k = .int .i64 (9437184 + k + 1) by simp [wInt, h2, mark]] at hs
        have HS : Hid _ := hs
        clear hs
        go_wp2_with fail
        refine (num_any 9 k (by omega) (by omega) (by omega) (by omega) _).mono ?_
        rintro e w1 ⟨rfl, rfl⟩
        go_wp2
        go_roundw
        case rel => exact ⟨k + 1, by go_num, by omega, by rw [← HS.out]⟩
        case measure => simp [intOf]; omega
    · obtain rfl : k = zs.length + 64 := by omega
      clear hlt hk
      go_wp2
      go_ret
      exact ⟨rfl, rfl⟩








end Go.Proofs.YthpkekpojhmaaaaGreatDoor

namespace Go.Proofs.YthpkekpojhmaaaaGreatDoor
open Go.RowKit

theorem info44 : ∃ i, Tryz.prog.info? 83 = some i ∧ i.zero = some (.agg #[.int .i64 0, .int .i64 0]) ∧ i.size = 2 ∧ i.bytes = 16 :=
  ⟨(Tryz.prog.info? 83).get (by kernel_rfl), by kernel_rfl, by kernel_rfl, by kernel_rfl, by kernel_rfl⟩
theorem made_rel (f : Nat → Value) (N : Nat) : madeCells #[.int .i64 0, .int .i64 0] N = wcur f (fun _ => .int .i64 0) N 0 := by
  apply Array.ext_getElem?
  intro i
  by_cases hi : i < N
  · rw [wcur_get _ _ _ _ _ hi]
    have h : i % 2 = 0 ∨ i % 2 = 1 := by omega
    rcases h with h | h <;> simp [madeCells, hi, h]
  · rw [Array.getElem?_eq_none (by simp [madeCells]; omega), Array.getElem?_eq_none (by simp [wcur_size]; omega)]
theorem make25 (f : Nat → Value) (n : Nat) (hn : n ≤ 1048576) (w : World) : (Instr.makeSlice 73 (.int .i64 ((n : Int) + 64)) (.int .i64 ((n : Int) + 64))).run Tryz.prog w = .ok (.slice (some ⟨w.heap.size, 0, none⟩) (n + 64) (n + 64)) (w.alloc (.cells (wcur f (fun _ => .int .i64 0) ((n + 64) * 2) 0) 83)) := by
  obtain ⟨i, hi, hz, hs, hb⟩ := info44
  have h := run_makeSlice (P := Tryz.prog) w 73 83 i _ Tryz.underlying73 hi hz .i64 .i64 ((n : Int) + 64) ((n : Int) + 64) (by omega) (by omega) (by rw [hs]; omega) (by rw [hb]; omega) (by omega)
  rw [hs, show ((n : Int) + 64).toNat = n + 64 by omega] at h
  rw [h, ← made_rel f ((n + 64) * 2)]
  rfl
theorem wRel_item0 (zs : List Rel) (k : Nat) (h : k < zs.length) : wRel zs (k * 2) = .int .i64 (rAt zs k) := by
  have e : (k * 2) / 2 = k := by omega
  have m : (k * 2) % 2 = 0 := by omega
  simp [wRel, e, m, h]
theorem wRel_item1 (zs : List Rel) (k : Nat) (h : k < zs.length) : wRel zs (k * 2 + 1) = .int .i64 (rSym zs k) := by
  have e : (k * 2 + 1) / 2 = k := by omega
  have m : (k * 2 + 1) % 2 = 1 := by omega
  simp [wRel, e, m, h]
theorem rel_item (zs : List Rel) (k : Nat) (_hk : k < zs.length + 64) (h : k < zs.length) : (((wcur (wRel zs) (fun _ => .int .i64 0) ((zs.length + 64) * 2) (k * 2)).setIfInBounds (k * 2) (.int .i64 (rAt zs k))).setIfInBounds (k * 2 + 1) (.int .i64 (rSym zs k))) = wcur (wRel zs) (fun _ => .int .i64 0) ((zs.length + 64) * 2) ((k + 1) * 2) := by
  rw [← wRel_item0 zs k h, wcur_set _ _ _ _ (by omega), ← wRel_item1 zs k h, wcur_set _ _ _ _ (by omega), show (k + 1) * 2 = k * 2 + 2 by omega]
theorem wRel_mark0 (zs : List Rel) (k : Nat) (h : ¬ k < zs.length) : wRel zs (k * 2) = .int .i64 (9437184 + k + 1) := by
  have e : (k * 2) / 2 = k := by omega
  have m : (k * 2) % 2 = 0 := by omega
  simp [wRel, e, m, h, mark]
theorem wRel_mark1 (zs : List Rel) (k : Nat) (h : ¬ k < zs.length) : wRel zs (k * 2 + 1) = .int .i64 0 := by
  have e : (k * 2 + 1) / 2 = k := by omega
  have m : (k * 2 + 1) % 2 = 1 := by omega
  simp [wRel, e, m, h]
theorem rel_mark (zs : List Rel) (k : Nat) (hk : k < zs.length + 64) (h : ¬ k < zs.length) : (((wcur (wRel zs) (fun _ => .int .i64 0) ((zs.length + 64) * 2) (k * 2)).setIfInBounds (k * 2) (.int .i64 (9437184 + k + 1))).setIfInBounds (k * 2 + 1) (.int .i64 0)) = wcur (wRel zs) (fun _ => .int .i64 0) ((zs.length + 64) * 2) ((k + 1) * 2) := by
  rw [← wRel_mark0 zs k h, wcur_set _ _ _ _ (by omega), ← wRel_mark1 zs k h, wcur_set _ _ _ _ (by omega), show (k + 1) * 2 = k * 2 + 2 by omega]
set_option maxRecDepth 100000 in
set_option maxHeartbeats 1000000 in
theorem widerel_any (O : Option Addr) (ca : Nat) (zs : List Rel) (w : World) (hA : RelsAt w O zs) (hz : zs.length ≤ 1048576) :
    Calls Tryz.prog 91 #[.slice O zs.length ca] w fun e w' => e = .returned (.slice (some ⟨w.heap.size, 0, none⟩) zs.length (zs.length + 64)) ∧ w' = w.alloc (.cells (wcur (wRel zs) (fun _ => .int .i64 0) ((zs.length + 64) * 2) ((zs.length + 64) * 2)) 83) := by
  have hm := make25 (wRel zs) zs.length hz
  go_enter Tryz.func91, Tryz.ntmps91
  go_wp2
  go_loopw [4] (fun i wr => ∃ k : Nat, i = .int .i64 k ∧ k ≤ zs.length + 64 ∧ wr = w.alloc (.cells (wcur (wRel zs) (fun _ => .int .i64 0) ((zs.length + 64) * 2) (k * 2)) 83)) (fun i _ => zs.length + 64 - (intOf i).toNat)
  case atStart => exact ⟨0, rfl, by omega, rfl⟩
  case round =>
    obtain ⟨k, rfl, hk, rfl⟩ := hrel
    clear hm
    have hsz := wcur_size (wRel zs) (fun _ => .int .i64 0) ((zs.length + 64) * 2) (k * 2)
    by_cases hlt : k < zs.length + 64
    · have hg0 : (wcur (wRel zs) (fun _ => .int .i64 0) ((zs.length + 64) * 2) (k * 2))[k * 2]? = some ((fun _ => .int .i64 0) (k * 2)) := by rw [wcur_get _ _ _ _ _ (by omega), if_neg (by omega)]
      have hg1 : (wcur (wRel zs) (fun _ => .int .i64 0) ((zs.length + 64) * 2) (k * 2))[k * 2 + 1]? = some ((fun _ => .int .i64 0) (k * 2 + 1)) := by rw [wcur_get _ _ _ _ _ (by omega), if_neg (by omega)]
      by_cases h2 : k < zs.length
      · obtain ⟨a, rfl, c0, c1⟩ := hA k h2
        have HS : Hid _ := rel_item zs k hlt h2
        have d0 : (w.alloc (.cells (wcur (wRel zs) (fun _ => .int .i64 0) ((zs.length + 64) * 2) (k * 2)) 83)).cell? (a.add (k * 2)) = some (.int .i64 (rAt zs k)) := lkeep (lb_alloc (Below.refl _ _) _) c0
        have d1 : (w.alloc (.cells (wcur (wRel zs) (fun _ => .int .i64 0) ((zs.length + 64) * 2) (k * 2)) 83)).cell? (⟨(a.add (k * 2)).block, (a.add (k * 2)).off + 1, none⟩) = some (.int .i64 (rSym zs k)) := lkeep (lb_alloc (Below.refl _ _) _) c1
        clear c0 c1
        go_wp2
        go_roundw
        case rel => exact ⟨k + 1, by go_num, by omega, by rw [← HS.out]⟩
        case measure => simp [intOf]; omega
      · have HS : Hid _ := rel_mark zs k hlt h2
        go_wp2_with fail
        refine (num_any 9 k (by omega) (by omega) (by omega) (by omega) _).mono ?_
        rintro e w1 ⟨rfl, rfl⟩
        go_wp2
        go_roundw
        case rel => exact ⟨k + 1, by go_num, by omega, by rw [← HS.out]⟩
        case measure => simp [intOf]; omega
    · obtain rfl : k = zs.length + 64 := by omega
      clear hlt hk
      go_wp2
      go_ret
      exact ⟨rfl, rfl⟩








end Go.Proofs.YthpkekpojhmaaaaGreatDoor

namespace Go.Proofs.YthpkekpojhmaaaaGreatDoor
open Go.RowKit

theorem info42 : ∃ i, Tryz.prog.info? 131 = some i ∧ i.zero = some (.agg #[.string ⟨#[]⟩, .int .i8 0, .int .i64 0]) ∧ i.size = 3 ∧ i.bytes = 32 :=
  ⟨(Tryz.prog.info? 131).get (by kernel_rfl), by kernel_rfl, by kernel_rfl, by kernel_rfl, by kernel_rfl⟩
theorem made_sym (f : Nat → Value) (N : Nat) : madeCells #[.string ⟨#[]⟩, .int .i8 0, .int .i64 0] N = wcur f zSym N 0 := by
  apply Array.ext_getElem?
  intro i
  by_cases hi : i < N
  · rw [wcur_get _ _ _ _ _ hi]
    have h : i % 3 = 0 ∨ i % 3 = 1 ∨ i % 3 = 2 := by omega
    rcases h with h | h | h <;> simp [madeCells, hi, h, zSym]
  · rw [Array.getElem?_eq_none (by simp [madeCells]; omega), Array.getElem?_eq_none (by simp [wcur_size]; omega)]
theorem make24 (f : Nat → Value) (n : Nat) (hn : n ≤ 1048576) (w : World) : (Instr.makeSlice 72 (.int .i64 ((n : Int) + 64)) (.int .i64 ((n : Int) + 64))).run Tryz.prog w = .ok (.slice (some ⟨w.heap.size, 0, none⟩) (n + 64) (n + 64)) (w.alloc (.cells (wcur f zSym ((n + 64) * 3) 0) 131)) := by
  obtain ⟨i, hi, hz, hs, hb⟩ := info42
  have h := run_makeSlice (P := Tryz.prog) w 72 131 i _ Tryz.underlying72 hi hz .i64 .i64 ((n : Int) + 64) ((n : Int) + 64) (by omega) (by omega) (by rw [hs]; omega) (by rw [hb]; omega) (by omega)
  rw [hs, show ((n : Int) + 64).toNat = n + 64 by omega] at h
  rw [h, ← made_sym f ((n + 64) * 3)]
  rfl
theorem wSym_item0 (zs : List Sym) (k : Nat) (h : k < zs.length) : wSym zs (k * 3) = .string (sName zs k) := by
  have e : (k * 3) / 3 = k := by omega
  have m : (k * 3) % 3 = 0 := by omega
  simp [wSym, e, m, h]
theorem wSym_item1 (zs : List Sym) (k : Nat) (h : k < zs.length) : wSym zs (k * 3 + 1) = .int .i8 (sKind zs k) := by
  have e : (k * 3 + 1) / 3 = k := by omega
  have m : (k * 3 + 1) % 3 = 1 := by omega
  simp [wSym, e, m, h]
theorem wSym_item2 (zs : List Sym) (k : Nat) (h : k < zs.length) : wSym zs (k * 3 + 2) = .int .i64 (sAt zs k) := by
  have e : (k * 3 + 2) / 3 = k := by omega
  have m : (k * 3 + 2) % 3 = 2 := by omega
  simp [wSym, e, m, h]
theorem sym_item (zs : List Sym) (k : Nat) (_hk : k < zs.length + 64) (h : k < zs.length) : ((((wcur (wSym zs) zSym ((zs.length + 64) * 3) (k * 3)).setIfInBounds (k * 3) (.string (sName zs k))).setIfInBounds (k * 3 + 1) (.int .i8 (sKind zs k))).setIfInBounds (k * 3 + 2) (.int .i64 (sAt zs k))) = wcur (wSym zs) zSym ((zs.length + 64) * 3) ((k + 1) * 3) := by
  rw [← wSym_item0 zs k h, wcur_set _ _ _ _ (by omega), ← wSym_item1 zs k h, wcur_set _ _ _ _ (by omega), ← wSym_item2 zs k h, wcur_set _ _ _ _ (by omega), show (k + 1) * 3 = k * 3 + 3 by omega]
theorem wSym_mark0 (zs : List Sym) (k : Nat) (h : ¬ k < zs.length) : wSym zs (k * 3) = .string ⟨#[]⟩ := by
  have e : (k * 3) / 3 = k := by omega
  have m : (k * 3) % 3 = 0 := by omega
  simp [wSym, e, m, h]
theorem wSym_mark1 (zs : List Sym) (k : Nat) (h : ¬ k < zs.length) : wSym zs (k * 3 + 1) = .int .i8 0 := by
  have e : (k * 3 + 1) / 3 = k := by omega
  have m : (k * 3 + 1) % 3 = 1 := by omega
  simp [wSym, e, m, h]
theorem wSym_mark2 (zs : List Sym) (k : Nat) (h : ¬ k < zs.length) : wSym zs (k * 3 + 2) = .int .i64 (9437184 + k + 1) := by
  have e : (k * 3 + 2) / 3 = k := by omega
  have m : (k * 3 + 2) % 3 = 2 := by omega
  simp [wSym, e, m, h, mark]
theorem sym_mark (zs : List Sym) (k : Nat) (hk : k < zs.length + 64) (h : ¬ k < zs.length) : ((((wcur (wSym zs) zSym ((zs.length + 64) * 3) (k * 3)).setIfInBounds (k * 3) (.string ⟨#[]⟩)).setIfInBounds (k * 3 + 1) (.int .i8 0)).setIfInBounds (k * 3 + 2) (.int .i64 (9437184 + k + 1))) = wcur (wSym zs) zSym ((zs.length + 64) * 3) ((k + 1) * 3) := by
  rw [← wSym_mark0 zs k h, wcur_set _ _ _ _ (by omega), ← wSym_mark1 zs k h, wcur_set _ _ _ _ (by omega), ← wSym_mark2 zs k h, wcur_set _ _ _ _ (by omega), show (k + 1) * 3 = k * 3 + 3 by omega]
set_option maxRecDepth 100000 in
set_option maxHeartbeats 1000000 in
theorem widesym_any (O : Option Addr) (ca : Nat) (zs : List Sym) (w : World) (hA : SymsAt w O zs) (hz : zs.length ≤ 1048576) :
    Calls Tryz.prog 90 #[.slice O zs.length ca] w fun e w' => e = .returned (.slice (some ⟨w.heap.size, 0, none⟩) zs.length (zs.length + 64)) ∧ w' = w.alloc (.cells (wcur (wSym zs) zSym ((zs.length + 64) * 3) ((zs.length + 64) * 3)) 131) := by
  have hm := make24 (wSym zs) zs.length hz
  go_enter Tryz.func90, Tryz.ntmps90
  go_wp2
  go_loopw [4] (fun i wr => ∃ k : Nat, i = .int .i64 k ∧ k ≤ zs.length + 64 ∧ wr = w.alloc (.cells (wcur (wSym zs) zSym ((zs.length + 64) * 3) (k * 3)) 131)) (fun i _ => zs.length + 64 - (intOf i).toNat)
  case atStart => exact ⟨0, rfl, by omega, rfl⟩
  case round =>
    obtain ⟨k, rfl, hk, rfl⟩ := hrel
    clear hm
    have hsz := wcur_size (wSym zs) zSym ((zs.length + 64) * 3) (k * 3)
    by_cases hlt : k < zs.length + 64
    · have hg0 : (wcur (wSym zs) zSym ((zs.length + 64) * 3) (k * 3))[k * 3]? = some (zSym (k * 3)) := by rw [wcur_get _ _ _ _ _ (by omega), if_neg (by omega)]
      have hg1 : (wcur (wSym zs) zSym ((zs.length + 64) * 3) (k * 3))[k * 3 + 1]? = some (zSym (k * 3 + 1)) := by rw [wcur_get _ _ _ _ _ (by omega), if_neg (by omega)]
      have hg2 : (wcur (wSym zs) zSym ((zs.length + 64) * 3) (k * 3))[k * 3 + 2]? = some (zSym (k * 3 + 2)) := by rw [wcur_get _ _ _ _ _ (by omega), if_neg (by omega)]
      by_cases h2 : k < zs.length
      · obtain ⟨a, rfl, c0, c1, c2⟩ := hA k h2
        have HS : Hid _ := sym_item zs k hlt h2
        have d0 : (w.alloc (.cells (wcur (wSym zs) zSym ((zs.length + 64) * 3) (k * 3)) 131)).cell? (a.add (k * 3)) = some (.string (sName zs k)) := lkeep (lb_alloc (Below.refl _ _) _) c0
        have d1 : (w.alloc (.cells (wcur (wSym zs) zSym ((zs.length + 64) * 3) (k * 3)) 131)).cell? (⟨(a.add (k * 3)).block, (a.add (k * 3)).off + 1, none⟩) = some (.int .i8 (sKind zs k)) := lkeep (lb_alloc (Below.refl _ _) _) c1
        have d2 : (w.alloc (.cells (wcur (wSym zs) zSym ((zs.length + 64) * 3) (k * 3)) 131)).cell? (⟨(a.add (k * 3)).block, (a.add (k * 3)).off + 2, none⟩) = some (.int .i64 (sAt zs k)) := lkeep (lb_alloc (Below.refl _ _) _) c2
        clear c0 c1 c2
        go_wp2
        go_roundw
        case rel => exact ⟨k + 1, by go_num, by omega, by rw [← HS.out]⟩
        case measure => simp [intOf]; omega
      · have HS : Hid _ := sym_mark zs k hlt h2
        go_wp2_with fail
        refine (num_any 9 k (by omega) (by omega) (by omega) (by omega) _).mono ?_
        rintro e w1 ⟨rfl, rfl⟩
        go_wp2
        go_roundw
        case rel => exact ⟨k + 1, by go_num, by omega, by rw [← HS.out]⟩
        case measure => simp [intOf]; omega
    · obtain rfl : k = zs.length + 64 := by omega
      clear hlt hk
      go_wp2
      go_ret
      exact ⟨rfl, rfl⟩








end Go.Proofs.YthpkekpojhmaaaaGreatDoor
