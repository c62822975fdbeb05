/-
  Rows that are made and then written, one place after the other. resolveAll: what each symbol stands for. askObjects: the objects may be, and no two have one name. What the program's Resolve and Find are to be shown. Resolve: which place of which object each symbol stands for. The program's Link. EqInts: two lists of ints. The two objects that lives links. The two objects as two makes them, and what linking them is to tell. lives: both objects link, one alone does not. At of the program. A list of objects that grows by one a time; no call in sight. What the walk of LinkStands wants besides. Objects that were read, one by one. An object that was read joins the others.
-/
import Derived.Test.YthpkekpojhmaaaaGreatDoorProg
import Derived.WalkKit
import Derived.WalkSpells
import Derived.WalkLawsBesides
import Derived.RowKit3
import Derived.Below
import Derived.Deep.QuietTactic
import Derived.BigQuiet
import Derived.WalkSmall
import Derived.Laws.Rows
import Derived.Test.YthpkekpojhmaaaaGreatDoorP08
import Derived.Test.YthpkekpojhmaaaaGreatDoorP04
import Derived.Deep.RegionWith
import Derived.Deep.RegionHeld3
import Derived.Test.YthpkekpojhmaaaaGreatDoorP06
import Derived.Test.YthpkekpojhmaaaaGreatDoorP07
import Derived.Deep.DeepCutAuto
import Derived.Test.YthpkekpojhmaaaaGreatDoorP03
import Derived.Test.YthpkekpojhmaaaaGreatDoorP01
import Derived.Test.YthpkekpojhmaaaaGreatDoorP05
namespace Go.Proofs.YthpkekpojhmaaaaGreatDoor
open Go.RowKit

open Go.Maps Go.WideMaps
/-- A row of N cells, its first ones written. -/
def fillA (xs : List Value) (z : Value) (N : Nat) : Array Value := (xs ++ List.replicate (N - xs.length) z).toArray
theorem fill_size {xs : List Value} {z : Value} {N : Nat} (h : xs.length ≤ N) : (fillA xs z N).size = N := by
  simp [fillA]; omega
theorem fill_set {xs : List Value} {z : Value} {N : Nat} (h : xs.length < N) (v : Value) : (fillA xs z N).setIfInBounds xs.length v = fillA (xs ++ [v]) z N := by
  unfold fillA
  obtain ⟨m, hm⟩ : ∃ m, N - xs.length = m + 1 := ⟨N - xs.length - 1, by omega⟩
  rw [hm, show N - (xs ++ [v]).length = m by simp; omega, List.replicate_succ]
  simp
theorem fill_at {xs : List Value} {z : Value} {N i : Nat} (h : i < xs.length) : (fillA xs z N)[i]? = xs[i]? := by
  simp [fillA, List.getElem?_append_left h]
theorem fill_z {xs : List Value} {z : Value} {N i : Nat} (h : xs.length ≤ i) (hi : i < N) : (fillA xs z N)[i]? = some z := by
  simp [fillA, List.getElem?_append_right h, List.getElem?_replicate]
  omega
theorem fill_all {xs : List Value} {z : Value} {N : Nat} (h : xs.length = N) : (fillA xs z N).toList = xs := by
  simp [fillA, h]
theorem made_one (N : Nat) (z : Value) : madeCells #[z] N = fillA [] z N := by
  apply Array.ext_getElem?
  intro i
  by_cases hi : i < N
  · rw [fill_z (Nat.zero_le _) hi]
    simp [madeCells, hi, Nat.mod_one]
  · rw [Array.getElem?_eq_none (by simp [madeCells]; omega), Array.getElem?_eq_none (by rw [fill_size (Nat.zero_le _)]; omega)]
theorem made_two (N : Nat) : madeCells #[.int .i64 0, .int .i64 0] N = fillA [] (.int .i64 0) N := by
  apply Array.ext_getElem?
  intro i
  by_cases hi : i < N
  · rw [fill_z (Nat.zero_le _) hi]
    have h : i % 2 = 0 ∨ i % 2 = 1 := by omega
    rcases h with h | h <;> simp [madeCells, hi, h]
  · rw [Array.getElem?_eq_none (by simp [madeCells]; omega), Array.getElem?_eq_none (by rw [fill_size (Nat.zero_le _)]; omega)]
theorem info41 : ∃ i, Tryz.prog.info? 77 = some i ∧ i.zero = some (.slice none 0 0) ∧ i.size = 1 ∧ i.bytes = 24 :=
  ⟨(Tryz.prog.info? 77).get (by kernel_rfl), by kernel_rfl, by kernel_rfl, by kernel_rfl, by kernel_rfl⟩
theorem info34 : ∃ i, Tryz.prog.info? 69 = some i ∧ i.zero = some (.agg #[.int .i64 0, .int .i64 0]) ∧ i.size = 2 ∧ i.bytes = 16 :=
  ⟨(Tryz.prog.info? 69).get (by kernel_rfl), by kernel_rfl, by kernel_rfl, by kernel_rfl, by kernel_rfl⟩
theorem make26 (n : Nat) (hn : n ≤ 64) (w : World) : (Instr.makeSlice 65 (.int .i64 n) (.int .i64 n)).run Tryz.prog w = .ok (.slice (some ⟨w.heap.size, 0, none⟩) n n) (w.alloc (.cells (fillA [] (.slice none 0 0) n) 77)) := by
  obtain ⟨i, hi, hz, hs, hb⟩ := info41
  have h := run_makeSlice (P := Tryz.prog) w 65 77 i _ Tryz.underlying65 hi hz .i64 .i64 n n (by omega) (by omega) (by rw [hs]; omega) (by rw [hb]; omega) (by omega)
  rw [hs, show ((n : Int)).toNat = n by omega, Nat.mul_one] at h
  rw [h, ← made_one n]
  rfl
theorem make41 (n : Nat) (hn : n ≤ 1048576) (w : World) : (Instr.makeSlice 77 (.int .i64 n) (.int .i64 n)).run Tryz.prog w = .ok (.slice (some ⟨w.heap.size, 0, none⟩) n n) (w.alloc (.cells (fillA [] (.int .i64 0) (n * 2)) 69)) := by
  obtain ⟨i, hi, hz, hs, hb⟩ := info34
  have h := run_makeSlice (P := Tryz.prog) w 77 69 i _ Tryz.underlying77 hi hz .i64 .i64 n n (by omega) (by omega) (by rw [hs]; omega) (by rw [hb]; omega) (by omega)
  rw [hs, show ((n : Int)).toNat = n by omega] at h
  rw [h, ← made_two (n * 2)]
  rfl
theorem cell_of {w : World} {g p : Nat} {cur : Array Value} {t : TypeId} {u : Value} (h : w.heap[g]? = some (.cells cur t (0, 0))) (hp : cur[p]? = some u) : w.cell? ⟨g, p, none⟩ = some u := by
  simp [World.cell?, h, hp]
theorem froz_of {w : World} {g p : Nat} {cur : Array Value} {t : TypeId} (h : w.heap[g]? = some (.cells cur t (0, 0))) : w.frozen? ⟨g, p, none⟩ = false := by
  simp [World.frozen?, h]
theorem blk_keep {w w1 : World} {g : Nat} {o : Obj} (h : w.heap[g]? = some o) (hb : Below w.heap.size w w1) : w1.heap[g]? = some o := by
  rw [hb.block g (Array.getElem?_eq_some_iff.1 h).1]; exact h
theorem blk_set {w : World} {g k : Nat} {o : Obj} {b : Nat} (h : w.heap[g]? = some o) (hb : g ≠ b) (u : Value) : (w.setCell ⟨b, k, none⟩ u).heap[g]? = some o := by
  rw [Below.heap_setCell _ _ _ _ hb]; exact h
theorem grown_set (w : World) (g k : Nat) (u : Value) : w.grownBy (w.setCell ⟨g, k, none⟩ u) (some g) := ⟨rfl, rfl, rfl, by simp [World.setCell], fun i _ hi => Below.heap_setCell _ _ _ _ (fun e => hi (by rw [e]))⟩
/-- The rows of the first k objects are written. -/
structure Fil (w : World) (B g : Nat) (l : List Ob) (k : Nat) (vs : List Value) : Prop where
  box : w.heap[B]? = some (.cells #[F0, F1 g, F1 g, F1 g] 127 (0, 0))
  len : vs.length = k
  bag : w.heap[B + 1]? = some (.cells (fillA vs (.slice none 0 0) l.length) 77 (0, 0))
  row : ∀ i, i < k → w.ownsRow B 69 2 (vn vs i) (ob l i).ss.length (dNews (rowT l i (ob l i).ss.length))
/-- .. and the first j places of the next. -/
structure RowF (w : World) (B g : Nat) (l : List Ob) (k j h : Nat) (vs : List Value) : Prop where
  box : w.heap[B]? = some (.cells #[F0, F1 g, F1 g, F1 g] 127 (0, 0))
  len : vs.length = k
  bag : w.heap[B + 1]? = some (.cells (fillA (vs ++ [.slice (some ⟨h, 0, none⟩) (ob l k).ss.length (ob l k).ss.length]) (.slice none 0 0) l.length) 77 (0, 0))
  row : ∀ i, i < k → w.ownsRow B 69 2 (vn vs i) (ob l i).ss.length (dNews (rowT l i (ob l i).ss.length))
  far : ∀ i, i < k → (vn vs i).ownBlock ≠ some h
  hB : B + 1 < h
  cur : w.heap[h]? = some (.cells (fillA (dNews (rowT l k j)) (.int .i64 0) ((ob l k).ss.length * 2)) 69 (0, 0))
theorem Fil.keep {w w1 : World} {B g k : Nat} {l : List Ob} {vs : List Value} (h : Fil w B g l k vs) (hb : Below w.heap.size w w1) : Fil w1 B g l k vs := ⟨blk_keep h.box hb, h.len, blk_keep h.bag hb, fun i hi => own_keep (h.row i hi) hb⟩
theorem RowF.keep {w w1 : World} {B g k j h : Nat} {l : List Ob} {vs : List Value} (H : RowF w B g l k j h vs) (hb : Below w.heap.size w w1) : RowF w1 B g l k j h vs := ⟨blk_keep H.box hb, H.len, blk_keep H.bag hb, fun i hi => own_keep (H.row i hi) hb, H.far, H.hB, blk_keep H.cur hb⟩
theorem dNews_len : ∀ l : List Rel, (dNews l).length = l.length * 2
  | [] => rfl
  | x :: l => by rw [dNews, List.length_cons, List.length_cons, dNews_len l, List.length_cons]; omega
theorem rowD_len (l : List Ob) (i j : Nat) : (dNews (rowT l i j)).length = j * 2 := by rw [dNews_len, rowT_len]
theorem lt_of_blk {w : World} {g : Nat} {o : Obj} (h : w.heap[g]? = some o) : g < w.heap.size := (Array.getElem?_eq_some_iff.1 h).1
/-- A row is made and put in its place. -/
theorem Fil.start {w : World} {B g k : Nat} {l : List Ob} {vs : List Value} (h : Fil w B g l k vs) (hk : k < l.length) : RowF ((w.alloc (.cells (fillA [] (.int .i64 0) ((ob l k).ss.length * 2)) 69)).setCell ⟨B + 1, k, none⟩ (.slice (some ⟨w.heap.size, 0, none⟩) (ob l k).ss.length (ob l k).ss.length)) B g l k 0 w.heap.size vs := by
  have hb := lb_alloc (Below.refl w.heap.size w) (.cells (fillA [] (.int .i64 0) ((ob l k).ss.length * 2)) 69)
  have hB := lt_of_blk h.bag
  refine ⟨blk_set (blk_keep h.box hb) (by omega) _, h.len, ?_, fun i hi => ?_, fun i hi => ?_, by omega, ?_⟩
  · rw [set_rowM (blk_keep h.bag hb), ← h.len, fill_set (by rw [h.len]; exact hk)]
  · refine own_apart (own_keep (h.row i hi) hb) (grown_set _ _ _ _) fun b hb1 hb2 => ?_
    obtain ⟨cur, hc⟩ := own_block (own_keep (h.row i hi) hb) hb1
    cases hb2
    rw [blk_keep h.bag hb] at hc
    simp at hc
  · intro e
    have := (own_lt (h.row i hi) e)
    omega
  · refine blk_set ?_ (by omega) _
    have := heap_alloc_new w (.cells (fillA [] (.int .i64 0) ((ob l k).ss.length * 2)) 69)
    exact this
/-- One place is written. -/
theorem RowF.set {w : World} {B g k j h : Nat} {l : List Ob} {vs : List Value} (H : RowF w B g l k j h vs) (hj : j < (ob l k).ss.length) {x y : Int} (e : standS l k j = (x, y)) : RowF ((w.setCell ⟨h, j * 2, none⟩ (.int .i64 x)).setCell ⟨h, j * 2 + 1, none⟩ (.int .i64 y)) B g l k (j + 1) h vs := by
  have hB := H.hB
  refine ⟨blk_set (blk_set H.box (by omega) _) (by omega) _, H.len, blk_set (blk_set H.bag (by omega) _) (by omega) _, fun i hi => ?_, H.far, H.hB, ?_⟩
  · have a : ∀ b, (vn vs i).ownBlock = some b → some h ≠ some b := fun b hb1 hb2 => H.far i hi (by rw [hb1]; exact hb2.symm)
    exact own_apart (own_apart (H.row i hi) (grown_set _ _ _ _) a) (grown_set _ _ _ _) a
  · rw [set_rowM (set_rowM H.cur _)]
    have e1 : (fillA (dNews (rowT l k j)) (.int .i64 0) ((ob l k).ss.length * 2)).setIfInBounds (j * 2) (.int .i64 x) = fillA (dNews (rowT l k j) ++ [.int .i64 x]) (.int .i64 0) ((ob l k).ss.length * 2) := by
      have := fill_set (xs := dNews (rowT l k j)) (z := .int .i64 0) (N := (ob l k).ss.length * 2) (by rw [rowD_len]; omega) (.int .i64 x)
      rwa [rowD_len] at this
    have e2 : (fillA (dNews (rowT l k j) ++ [.int .i64 x]) (.int .i64 0) ((ob l k).ss.length * 2)).setIfInBounds (j * 2 + 1) (.int .i64 y) = fillA (dNews (rowT l k j) ++ [.int .i64 x] ++ [.int .i64 y]) (.int .i64 0) ((ob l k).ss.length * 2) := by
      have := fill_set (xs := dNews (rowT l k j) ++ [.int .i64 x]) (z := .int .i64 0) (N := (ob l k).ss.length * 2) (by rw [List.length_append, rowD_len]; simp; omega) (.int .i64 y)
      rwa [List.length_append, rowD_len] at this
    rw [e1, e2, rowT_succ, dNews_snoc, e]
    simp
/-- A row is whole. -/
theorem RowF.done {w : World} {B g k h : Nat} {l : List Ob} {vs : List Value} (H : RowF w B g l k (ob l k).ss.length h vs) (hs : (ob l k).ss.length ≤ 1048576) : Fil w B g l (k + 1) (vs ++ [.slice (some ⟨h, 0, none⟩) (ob l k).ss.length (ob l k).ss.length]) := by
  refine ⟨H.box, by rw [List.length_append, H.len]; rfl, H.bag, fun i hi => ?_⟩
  by_cases hik : i < k
  · rw [vn_old _ _ _ (by rw [H.len]; exact hik)]
    exact H.row i hik
  · obtain rfl : i = vs.length := by rw [H.len]; omega
    rw [vn_last, H.len]
    have hB := H.hB
    refine ⟨rowD_len l k _, .inr ⟨h, (ob l k).ss.length, _, rfl, by omega, H.cur, Nat.le_refl _, by unfold maxLen; omega, ?_, ?_⟩⟩
    · rw [fill_size (by rw [rowD_len]; omega)]
    · rw [fill_all (rowD_len l k _), ← rowD_len l k _, List.take_length]
/-- All rows are whole. -/
theorem Fil.end {w : World} {B g : Nat} {l : List Ob} {vs : List Value} (h : Fil w B g l l.length vs) (hl : l.length ≤ 64) : RowsD w B 77 69 (.slice (some ⟨B + 1, 0, none⟩) l.length l.length) vs (rowsT l l.length) := by
  refine ⟨?_, fun i hi => ?_⟩
  · rw [rowsT_len]
    refine ⟨by rw [h.len, Nat.mul_one], .inr ⟨B + 1, l.length, _, rfl, by omega, h.bag, Nat.le_refl _, by unfold maxLen; omega, ?_, ?_⟩⟩
    · rw [fill_size (by rw [h.len]; exact Nat.le_refl _), Nat.mul_one]
    · rw [fill_all h.len, Nat.mul_one]
      rw [← h.len, List.take_length]
  · rw [rowsT_len] at hi
    rw [rowsT_at l hi, rowT_len]
    exact h.row i hi
/-- A symbol that is Global or Weak stands for something. -/
theorem find_own {l : List Ob} {i j : Nat} (hi : i < l.length) (hj : j < (ob l i).ss.length) (h : (sKind (ob l i).ss j == 1) = true ∨ (sKind (ob l i).ss j == 2) = true) : (findF (sName (ob l i).ss j) l).isSome = true := by
  have key : ∀ kd : Int, (sKind (ob l i).ss j == kd) = true → ∃ x, firstF (sName (ob l i).ss j) kd l l.length 0 = some x := fun kd hk => by
    have a := firstF_step (sName (ob l i).ss j) kd l hi hj
    rw [hitS_yes (by simp) hk] at a
    cases hf : firstF (sName (ob l i).ss j) kd l i j with
    | some x => rw [hf] at a; exact ⟨x, firstF_full hi (by omega) a⟩
    | none => rw [hf] at a; exact ⟨_, firstF_full hi (by omega) a⟩
  unfold findF
  rcases h with h | h
  · obtain ⟨x, e⟩ := key 1 h
    rw [e]; rfl
  · obtain ⟨x, e⟩ := key 2 h
    cases firstF (sName (ob l i).ss j) 1 l l.length 0 with
    | some y => rfl
    | none => rw [e]; rfl


end Go.Proofs.YthpkekpojhmaaaaGreatDoor

namespace Go.Proofs.YthpkekpojhmaaaaGreatDoor
open Go.RowKit

open Go.Maps Go.WideMaps
/-- An answer of resolveAll. -/
def AllP (l : List Ob) (w : World) (e : Ending) (w' : World) : Prop :=
  (∃ x, fstN (unO l) l.length = some x ∧ e = .returned (.tuple #[.slice none 0 0, .int .i64 x.1, .int .i64 x.2.1, .int .i64 x.2.2]) ∧ Below w.heap.size w w') ∨
  (fstN (unO l) l.length = none ∧ ∃ (O : Option Addr) (c : Nat) (vs : List Value), e = .returned (.tuple #[.slice O l.length c, .int .i64 0, .int .i64 0, .int .i64 0]) ∧ RowsD w' w.heap.size 77 69 (.slice O l.length c) vs (rowsT l l.length) ∧ Below w.heap.size w w')

set_option maxHeartbeats 8000000 in
set_option maxRecDepth 100000 in
theorem pall_any (A : Option Addr) (ca : Nat) (q : Nat → Pl) (l : List Ob) (b n g : Nat) (w : World) (hA : ObsIn w A q l) (hkn : Knows w b n (seenA l l.length 0)) (hc : w.cell? ⟨g, 0, none⟩ = some (.map (some b))) (hkd : ∀ i, i < l.length → ∀ j, j < (ob l i).ss.length → 0 ≤ sKind (ob l i).ss j ∧ sKind (ob l i).ss j ≤ 3) :
    Calls Tryz.prog 72 #[.slice A l.length ca, .agg #[F0, F1 g, F1 g, F1 g]] w (AllP l w) := by
  have hf := hA.few
  have hm1 := make26 l.length hf
  obtain ⟨w0, hw0⟩ : ∃ w0, w0 = (w.alloc (.cells #[F0, F1 g, F1 g, F1 g] 127)).alloc (.cells (fillA [] (.slice none 0 0) l.length) 77) := ⟨_, rfl⟩
  have HB0 : Hid (Below w.heap.size w w0) := by rw [Hid, hw0]; exact lb_alloc (lb_alloc (Below.refl _ _) _) _
  have HF0 : Hid (Fil w0 w.heap.size g l 0 []) := by
    rw [Hid, hw0]
    refine ⟨blk_keep (heap_alloc_new w _) (lb_alloc (Below.refl _ _) _), rfl, ?_, fun i hi => absurd hi (Nat.not_lt_zero _)⟩
    have := heap_alloc_new (w.alloc (.cells #[F0, F1 g, F1 g, F1 g] 127)) (.cells (fillA [] (.slice none 0 0) l.length) 77)
    simpa using this
  have HA : Hid (ObsIn w A q l) := hA
  have HKn : Hid (Knows w b n (seenA l l.length 0)) := hkn
  have HC : Hid (w.cell? ⟨g, 0, none⟩ = some (.map (some b))) := hc
  have HKd : Hid (∀ i, i < l.length → ∀ j, j < (ob l i).ss.length → 0 ≤ sKind (ob l i).ss j ∧ sKind (ob l i).ss j ≤ 3) := hkd
  clear hA hkn hc hkd
  go_enter Tryz.func72, Tryz.ntmps72
  go_wp2
  rw [← hw0]
  go_loopw [20] (fun i wr => ∃ (k : Nat) (vs : List Value), i = .int .i64 k ∧ k ≤ l.length ∧ Hid (Fil wr w.heap.size g l k vs) ∧ Hid (∀ i, i < k → unO l i = none) ∧ Hid (Below w.heap.size w wr)) (fun i _ => l.length - (intOf i).toNat)
  case atStart => exact ⟨0, [], rfl, Nat.zero_le _, HF0, fun i hi => absurd hi (Nat.not_lt_zero _), HB0⟩
  case round =>
    clear hm1
    obtain ⟨k, vs, rfl, hk, HF, HN, HB⟩ := hrel
    by_cases hkl : k < l.length
    · have hkl' : (k : Int) < (l.length : Int) := by omega
      obtain ⟨a, ea, x0, x1, x2, x3, x4, x5⟩ := HA.out.cells.six HB.out k hkl
      subst ea
      have hss := (HA.out.each k hkl).hs
      have hm2 := make41 (ob l k).ss.length hss
      obtain ⟨W, hW⟩ : ∃ W, W = wr.alloc (.cells #[.string (ob l k).nm, .slice (q k).A1 (ob l k).code.length (q k).c1, .int .i64 (ob l k).dA, .slice (q k).A2 (ob l k).data.length (q k).c2, .slice (q k).A3 (ob l k).ss.length (q k).c3, .slice (q k).A4 (ob l k).rs.length (q k).c4] 75) := ⟨_, rfl⟩
      have HFW : Hid (Fil W w.heap.size g l k vs) := by rw [Hid, hW]; exact HF.out.keep (lb_alloc (Below.refl _ _) _)
      have HBW : Hid (Below w.heap.size w W) := by rw [Hid, hW]; exact lb_alloc HB.out _
      have y0 : W.cell? ⟨wr.heap.size, 4, none⟩ = some (.slice (q k).A3 (ob l k).ss.length (q k).c3) := by rw [hW]; simp [go_sem]
      have HL : Hid (Below W.heap.size W (W.alloc (.cells (fillA [] (.int .i64 0) ((ob l k).ss.length * 2)) 69))) := lb_alloc (Below.refl _ _) _
      have HG : Hid ((W.alloc (.cells (fillA [] (.int .i64 0) ((ob l k).ss.length * 2)) 69)).heap[w.heap.size + 1]? = some (.cells (fillA vs (.slice none 0 0) l.length) 77 (0, 0))) := blk_keep HFW.out.bag HL.out
      have z0 : (W.alloc (.cells (fillA [] (.int .i64 0) ((ob l k).ss.length * 2)) 69)).cell? ⟨w.heap.size + 1, k, none⟩ = some (.slice none 0 0) := cell_of HG.out (fill_z (by rw [HFW.out.len]; exact Nat.le_refl _) hkl)
      have z1 : (W.alloc (.cells (fillA [] (.int .i64 0) ((ob l k).ss.length * 2)) 69)).frozen? ⟨w.heap.size + 1, k, none⟩ = false := froz_of HG.out
      obtain ⟨V, hV⟩ : ∃ V, V = (W.alloc (.cells (fillA [] (.int .i64 0) ((ob l k).ss.length * 2)) 69)).setCell ⟨w.heap.size + 1, k, none⟩ (.slice (some ⟨W.heap.size, 0, none⟩) (ob l k).ss.length (ob l k).ss.length) := ⟨_, rfl⟩
      have HFV : Hid (RowF V w.heap.size g l k 0 W.heap.size vs) := by rw [Hid, hV]; exact HFW.out.start hkl
      have HBV : Hid (Below w.heap.size w V) := by rw [Hid, hV]; exact (lb_alloc HBW.out _).setCell (Nat.le_succ _) _
      have y1 : V.cell? ⟨wr.heap.size, 4, none⟩ = some (.slice (q k).A3 (ob l k).ss.length (q k).c3) := by
        rw [hV]
        refine cell_grown (lkeep HL.out y0) (grown_set _ _ _ _) ?_
        have := lt_of_blk HF.out.bag
        show wr.heap.size ≠ w.heap.size + 1
        omega
      go_upto_region 5 with fail
      rw [← hW]
      have HW : Hid (W = _) := hW
      clear hW
      have HV : Hid (V = _) := hV
      clear hV
      go_upto_region 6 with fail
      rw [← HV.out]
      clear hm2 z0 z1 y0 HV HW x0 x1 x2 x3 x4 x5 HG HL
      go_wp2
      go_loopw [35] (fun i wr => ∃ (j : Nat), i = .int .i64 j ∧ j ≤ (ob l k).ss.length ∧ Hid (RowF wr w.heap.size g l k j W.heap.size vs) ∧ Hid (∀ m, m < j → unS l k m = none) ∧ Hid (Below w.heap.size w wr)) (fun i _ => (ob l k).ss.length - (intOf i).toNat)
      case atStart => exact ⟨0, rfl, Nat.zero_le _, HFV, fun i hi => absurd hi (Nat.not_lt_zero _), HBV⟩
      case round =>
        clear HF HFW HFV HB HBW HBV y1
        obtain ⟨j, rfl, hj, HF, HS, HB⟩ := hrel
        by_cases hjl : j < (ob l k).ss.length
        · have hjl' : (j : Int) < ((ob l k).ss.length : Int) := by omega
          obtain ⟨a3, e3, s0, s1, s2⟩ := (HA.out.each k hkl).sy j hjl
          have t0 := lkeep HB.out s0
          have t1 : wr.cell? ⟨(a3.add (j * 3)).block, (a3.add (j * 3)).off + 1, none⟩ = some (.int .i8 (sKind (ob l k).ss j)) := lkeep HB.out s1
          have t2 : wr.cell? ⟨(a3.add (j * 3)).block, (a3.add (j * 3)).off + 2, none⟩ = some (.int .i64 (sAt (ob l k).ss j)) := lkeep HB.out s2
          rw [e3]
          clear s0 s1 s2
          obtain ⟨kd, hkd⟩ : ∃ kd, kd = sKind (ob l k).ss j := ⟨_, rfl⟩
          have HKD : Hid (kd = sKind (ob l k).ss j) := hkd
          have hk03 := HKd.out k hkl j hjl
          rw [← hkd] at t1 hk03
          clear hkd
          by_cases hk0 : kd = 0
          · subst hk0
            clear hk03
            obtain ⟨W5, hW5⟩ : ∃ W5, W5 = wr.alloc (.cells #[.string (sName (ob l k).ss j), .int .i8 0, .int .i64 (sAt (ob l k).ss j)] 131) := ⟨_, rfl⟩
            have c0 : W5.cell? ⟨wr.heap.size, 0, none⟩ = some (.string (sName (ob l k).ss j)) := by rw [hW5]; simp [go_sem]
            have c1 : W5.cell? ⟨wr.heap.size, 1, none⟩ = some (.int .i8 0) := by rw [hW5]; simp [go_sem]
            have c2 : W5.cell? ⟨wr.heap.size, 2, none⟩ = some (.int .i64 (sAt (ob l k).ss j)) := by rw [hW5]; simp [go_sem]
            have cB : W5.cell? ⟨w.heap.size, 0, none⟩ = some (.func (.func 109) #[] #[]) := by rw [hW5]; exact lkeep (lb_alloc (Below.refl _ _) _) (cell_of HF.out.box rfl)
            have HBK : Hid (Below w.heap.size w W5) := by rw [Hid, hW5]; exact lb_alloc HB.out _
            have HF5 : Hid (RowF W5 w.heap.size g l k j W.heap.size vs) := by rw [Hid, hW5]; exact HF.out.keep (lb_alloc (Below.refl _ _) _)
            have hL := lb_alloc (Below.refl W5.heap.size W5) (.cells #[.int .i64 0, .int .i64 0] 69)
            have d0 := lkeep hL c0
            have d1 := lkeep hL c1
            have d2 := lkeep hL c2
            have dB := lkeep hL cB
            clear hL
            have C := fown_any k (sName (ob l k).ss j) 0 (sAt (ob l k).ss j)
            go_upto_region 9 with fail
            rw [← hW5]
            clear hW5 HF HB
            go_cut [13, 14] (fun x y wx => ∃ p, x = .pointer (some ⟨p, 0, none⟩) ∧ y = .bool true ∧ wx.cell? ⟨p, 0, none⟩ = some (.int .i64 k) ∧ wx.cell? ⟨p, 1, none⟩ = some (.int .i64 (sAt (ob l k).ss j)) ∧ Hid (Below W5.heap.size W5 wx))
            case first =>
              have hWW := Below.refl W5.heap.size W5
              go_region_held3 (fun W' => Below W5.heap.size W5 W' ∧ W'.cell? ⟨wr.heap.size, 0, none⟩ = some (.string (sName (ob l k).ss j)) ∧ W'.cell? ⟨wr.heap.size, 1, none⟩ = some (.int .i8 0) ∧ W'.cell? ⟨wr.heap.size, 2, none⟩ = some (.int .i64 (sAt (ob l k).ss j)) ∧ W'.cell? ⟨w.heap.size, 0, none⟩ = some (.func (.func 109) #[] #[]))
                (first | (refine ⟨?_, lkeep ?_ c0, lkeep ?_ c1, lkeep ?_ c2, lkeep ?_ cB⟩ <;> ((repeat (first | assumption | exact (‹Below _ _ _ ∧ _›).1 | apply Below.drew | apply lb_alloc)); done)))
                (first | (go_at_call 109; refine (C _).mono ?_; rintro e w1 ⟨rfl, rfl⟩))
              all_goals (go_wp2_with fail; go_meet; refine ⟨_, rfl, rfl, by simp [go_sem], by simp [go_sem], ?_⟩; unfold Hid; repeat (first | exact Below.refl _ _ | apply Below.drew | apply lb_alloc))
            case rest =>
              obtain ⟨p, rfl, rfl, p0, p1, HBc⟩ := hcut
              clear c0 c1 c2 cB d0 d1 d2 dB C
              have HFc : Hid (RowF wc w.heap.size g l k j W.heap.size vs) := HF5.out.keep HBc.out
              have HBw : Hid (Below w.heap.size w wc) := lb_trans HBK.out HBc.out
              have HUN : Hid (unS l k j = none) := unS_no (Or.inl (by rw [← HKD.out]; rfl))
              have HST : Hid (standS l k j = ((k : Int), sAt (ob l k).ss j)) := by unfold Hid standS; rw [← HKD.out]; rfl
              have b0 : wc.cell? ⟨w.heap.size + 1, k, none⟩ = some (.slice (some ⟨W.heap.size, 0, none⟩) (ob l k).ss.length (ob l k).ss.length) := cell_of HFc.out.bag (by rw [fill_at (by rw [List.length_append, HFc.out.len]; simp), ← HFc.out.len]; simp)
              have q0 : wc.cell? ⟨W.heap.size, j * 2, none⟩ = some (.int .i64 0) := cell_of HFc.out.cur (fill_z (by rw [rowD_len]; exact Nat.le_refl _) (by omega))
              have q1 : wc.cell? ⟨W.heap.size, j * 2 + 1, none⟩ = some (.int .i64 0) := cell_of HFc.out.cur (fill_z (by rw [rowD_len]; omega) (by omega))
              have q2 : wc.frozen? ⟨W.heap.size, j * 2, none⟩ = false := froz_of HFc.out.cur
              have q3 : wc.frozen? ⟨W.heap.size, j * 2 + 1, none⟩ = false := froz_of HFc.out.cur
              have HF6 : Hid (RowF ((wc.setCell ⟨W.heap.size, j * 2, none⟩ (.int .i64 k)).setCell ⟨W.heap.size, j * 2 + 1, none⟩ (.int .i64 (sAt (ob l k).ss j))) w.heap.size g l k (j + 1) W.heap.size vs) := HFc.out.set hjl HST.out
              have HB6 : Hid (Below w.heap.size w ((wc.setCell ⟨W.heap.size, j * 2, none⟩ (.int .i64 k)).setCell ⟨W.heap.size, j * 2 + 1, none⟩ (.int .i64 (sAt (ob l k).ss j)))) := (HBw.out.setCell (by have := HFc.out.hB; show w.heap.size ≤ W.heap.size; omega) _).setCell (by have := HFc.out.hB; show w.heap.size ≤ W.heap.size; omega) _
              have HS2 : Hid (∀ m, m < j + 1 → unS l k m = none) := fst_step HS.out HUN.out
              go_upto_region 12 with fail
              go_region_with (fail)
              all_goals (go_wp2_with fail; go_roundw; (case rel => exact ⟨j + 1, by go_num, by omega, RowF.keep HF6.out (by repeat (first | exact Below.refl _ _ | apply Below.drew)), HS2, lb_trans HB6.out (by repeat (first | exact Below.refl _ _ | apply Below.drew))⟩); (case measure => simp [intOf]; omega))
          · have hk1 : 0 ≤ kd := by omega
            have hk4 : kd < 4 := by omega
            have hbx : (#[F0, F1 g, F1 g, F1 g] : Array Value)[kd.toNat]? = some (F1 g) := by
              rcases (show kd = 1 ∨ kd = 2 ∨ kd = 3 by omega) with rfl | rfl | rfl <;> rfl
            obtain ⟨W5, hW5⟩ : ∃ W5, W5 = wr.alloc (.cells #[.string (sName (ob l k).ss j), .int .i8 kd, .int .i64 (sAt (ob l k).ss j)] 131) := ⟨_, rfl⟩
            have c0 : W5.cell? ⟨wr.heap.size, 0, none⟩ = some (.string (sName (ob l k).ss j)) := by rw [hW5]; simp [go_sem]
            have c1 : W5.cell? ⟨wr.heap.size, 1, none⟩ = some (.int .i8 kd) := by rw [hW5]; simp [go_sem]
            have c2 : W5.cell? ⟨wr.heap.size, 2, none⟩ = some (.int .i64 (sAt (ob l k).ss j)) := by rw [hW5]; simp [go_sem]
            have cB : W5.cell? ⟨w.heap.size, kd.toNat, none⟩ = some (.func (.func 110) #[] #[.pointer (some ⟨g, 0, none⟩)]) := by rw [hW5]; exact lkeep (lb_alloc (Below.refl _ _) _) (cell_of HF.out.box hbx)
            have HBK : Hid (Below w.heap.size w W5) := by rw [Hid, hW5]; exact lb_alloc HB.out _
            have HF5 : Hid (RowF W5 w.heap.size g l k j W.heap.size vs) := by rw [Hid, hW5]; exact HF.out.keep (lb_alloc (Below.refl _ _) _)
            have hL := lb_alloc (Below.refl W5.heap.size W5) (.cells #[.int .i64 0, .int .i64 0] 69)
            have d0 := lkeep hL c0
            have d1 := lkeep hL c1
            have d2 := lkeep hL c2
            have dB := lkeep hL cB
            clear hL
            have C : ∀ wx, Below w.heap.size w wx → _ := fun wx hx => fnamed_any k (sName (ob l k).ss j) kd (sAt (ob l k).ss j) b n g (seenA l l.length 0) wx (HKn.out.keep hx) ((HA.out.each k hkl).hN j) (lkeep hx HC.out)
            obtain ⟨v, hv⟩ : ∃ v, v = seenA l l.length 0 (sName (ob l k).ss j) := ⟨_, rfl⟩
            rw [← hv] at C
            have HT : Hid (Tells v (findF (sName (ob l k).ss j) l)) := by rw [Hid, hv]; exact tells_full _ l
            clear hv
            go_upto_region 9 with fail
            rw [← hW5]
            clear hW5 HF HB
            go_cut [13, 14] (fun x y wx => ∃ p, x = .pointer (some ⟨p, 0, none⟩) ∧ y = .bool v.isSome ∧ wx.cell? ⟨p, 0, none⟩ = some (.int .i64 (mI v)) ∧ wx.cell? ⟨p, 1, none⟩ = some (.int .i64 (mA v)) ∧ Hid (Below W5.heap.size W5 wx))
            case first =>
              have hWW := Below.refl W5.heap.size W5
              go_region_held3 (fun W' => Below W5.heap.size W5 W' ∧ W'.cell? ⟨wr.heap.size, 0, none⟩ = some (.string (sName (ob l k).ss j)) ∧ W'.cell? ⟨wr.heap.size, 1, none⟩ = some (.int .i8 kd) ∧ W'.cell? ⟨wr.heap.size, 2, none⟩ = some (.int .i64 (sAt (ob l k).ss j)) ∧ W'.cell? ⟨w.heap.size, kd.toNat, none⟩ = some (.func (.func 110) #[] #[.pointer (some ⟨g, 0, none⟩)]))
                (first | (refine ⟨?_, lkeep ?_ c0, lkeep ?_ c1, lkeep ?_ c2, lkeep ?_ cB⟩ <;> ((repeat (first | assumption | exact (‹Below _ _ _ ∧ _›).1 | apply Below.drew | apply lb_alloc)); done)))
                (first | (go_at_call 110; refine (C _ (by repeat (first | exact HBK.out | exact lb_trans HBK.out (‹Below _ _ _ ∧ _›).1 | apply Below.drew | apply lb_alloc))).mono ?_; rintro e w1 ⟨rfl, rfl⟩))
              all_goals (go_wp2_with fail; go_meet; refine ⟨_, rfl, rfl, by simp [go_sem], by simp [go_sem], ?_⟩; unfold Hid; repeat (first | exact Below.refl _ _ | apply Below.drew | apply lb_alloc))
            case rest =>
              obtain ⟨p, rfl, rfl, p0, p1, HBc⟩ := hcut
              clear c0 c1 c2 cB d0 d1 d2 dB C
              have HFc : Hid (RowF wc w.heap.size g l k j W.heap.size vs) := HF5.out.keep HBc.out
              have HBw : Hid (Below w.heap.size w wc) := lb_trans HBK.out HBc.out
              cases hv : v.isSome
              · have HUN : Hid (unS l k j = some (40, (k : Int), (j : Int))) := by
                  have hfi : (findF (sName (ob l k).ss j) l).isSome = false := by rw [← HT.out.1]; exact hv
                  refine unS_yes ?_ hfi
                  rw [← HKD.out]
                  rcases (show kd = 1 ∨ kd = 2 ∨ kd = 3 by omega) with e | e | e
                  · have := find_own hkl hjl (Or.inl (by rw [← HKD.out, e]; rfl))
                    rw [hfi] at this; cases this
                  · have := find_own hkl hjl (Or.inr (by rw [← HKD.out, e]; rfl))
                    rw [hfi] at this; cases this
                  · rw [e]; rfl
                have HX : Hid (fstN (unO l) l.length = some (40, (k : Int), (j : Int))) := fst_hit HN.out (fst_hit HS.out HUN.out hjl) hkl
                go_wp2
                refine bodyPost_ret (v := .tuple #[.slice none 0 0, .int .i64 40, .int .i64 k, .int .i64 j]) (by simp [results, Tryz.results72, go_sem]) rfl (Or.inl ⟨_, HX.out, rfl, HBw.out⟩)
              · have HUN : Hid (unS l k j = none) := unS_no (Or.inr (by rw [← HT.out.1]; exact hv))
                have HST : Hid (standS l k j = ((mI v : Int), mA v)) := by
                  unfold Hid standS
                  rw [← HKD.out, if_pos (by simpa using hk0), HT.out.2.1, HT.out.2.2]
                have b0 : wc.cell? ⟨w.heap.size + 1, k, none⟩ = some (.slice (some ⟨W.heap.size, 0, none⟩) (ob l k).ss.length (ob l k).ss.length) := cell_of HFc.out.bag (by rw [fill_at (by rw [List.length_append, HFc.out.len]; simp), ← HFc.out.len]; simp)
                have q0 : wc.cell? ⟨W.heap.size, j * 2, none⟩ = some (.int .i64 0) := cell_of HFc.out.cur (fill_z (by rw [rowD_len]; exact Nat.le_refl _) (by omega))
                have q1 : wc.cell? ⟨W.heap.size, j * 2 + 1, none⟩ = some (.int .i64 0) := cell_of HFc.out.cur (fill_z (by rw [rowD_len]; omega) (by omega))
                have q2 : wc.frozen? ⟨W.heap.size, j * 2, none⟩ = false := froz_of HFc.out.cur
                have q3 : wc.frozen? ⟨W.heap.size, j * 2 + 1, none⟩ = false := froz_of HFc.out.cur
                have HF6 : Hid (RowF ((wc.setCell ⟨W.heap.size, j * 2, none⟩ (.int .i64 (mI v))).setCell ⟨W.heap.size, j * 2 + 1, none⟩ (.int .i64 (mA v))) w.heap.size g l k (j + 1) W.heap.size vs) := HFc.out.set hjl HST.out
                have HB6 : Hid (Below w.heap.size w ((wc.setCell ⟨W.heap.size, j * 2, none⟩ (.int .i64 (mI v))).setCell ⟨W.heap.size, j * 2 + 1, none⟩ (.int .i64 (mA v)))) := (HBw.out.setCell (by have := HFc.out.hB; show w.heap.size ≤ W.heap.size; omega) _).setCell (by have := HFc.out.hB; show w.heap.size ≤ W.heap.size; omega) _
                have HS2 : Hid (∀ m, m < j + 1 → unS l k m = none) := fst_step HS.out HUN.out
                go_upto_region 12 with fail
                go_region_with (fail)
                all_goals (go_wp2_with fail; go_roundw; (case rel => exact ⟨j + 1, by go_num, by omega, RowF.keep HF6.out (by repeat (first | exact Below.refl _ _ | apply Below.drew)), HS2, lb_trans HB6.out (by repeat (first | exact Below.refl _ _ | apply Below.drew))⟩); (case measure => simp [intOf]; omega))
        · have hjl' : ¬ (j : Int) < ((ob l k).ss.length : Int) := by omega
          obtain rfl : j = (ob l k).ss.length := by omega
          have HF2 : Hid (Fil wr w.heap.size g l (k + 1) (vs ++ [.slice (some ⟨W.heap.size, 0, none⟩) (ob l k).ss.length (ob l k).ss.length])) := HF.out.done hss
          have HU : Hid (unO l k = none) := fst_none HS.out
          go_wp2
          go_roundw
          case rel => exact ⟨k + 1, _, by go_num, by omega, HF2, fst_step HN.out HU.out, HB⟩
          case measure => simp [intOf]; omega
    · have hkl' : ¬ (k : Int) < (l.length : Int) := by omega
      obtain rfl : k = l.length := by omega
      have HX : Hid (fstN (unO l) l.length = none) := fst_none HN.out
      have HR : Hid (RowsD wr w.heap.size 77 69 (.slice (some ⟨w.heap.size + 1, 0, none⟩) l.length l.length) vs (rowsT l l.length)) := HF.out.end hf
      go_wp2
      refine bodyPost_ret (v := .tuple #[.slice (some ⟨w.heap.size + 1, 0, none⟩) l.length l.length, .int .i64 0, .int .i64 0, .int .i64 0]) (by simp [results, Tryz.results72, go_sem]) rfl (Or.inr ⟨HX.out, _, _, _, rfl, HR.out, HB.out⟩)


end Go.Proofs.YthpkekpojhmaaaaGreatDoor

namespace Go.Proofs.YthpkekpojhmaaaaGreatDoor
open Go.RowKit

open Go.Maps Go.WideMaps
/-- The map holds just the names of the first k objects. -/
def MetO (l : List Ob) (k : Nat) (D : DataW Unit) : Prop := Maps.IsMap D ∧ ∀ s : ByteArray, Maps.has D (.string s.data.toList) = true ↔ ∃ j, j < k ∧ (ob l j).nm = s
theorem metO_zero (l : List Ob) : MetO l 0 (.map []) := ⟨Maps.isMap_empty, fun s => ⟨fun h => by simp [Maps.has] at h, fun ⟨j, h, _⟩ => by omega⟩⟩
theorem metO_step {l : List Ob} {k : Nat} {D d : DataW Unit} (h : MetO l k D) : MetO l (k + 1) (D.put (.string (ob l k).nm.data.toList) d) := by
  refine ⟨h.1.put _ _, fun s => ?_⟩
  by_cases hs : s = (ob l k).nm
  · subst hs
    exact ⟨fun _ => ⟨k, by omega, rfl⟩, fun _ => Maps.has_put_same h.1 (by simp [WideAt.IsKeyLit]) d⟩
  · rw [Maps.has_put_other (fun e => hs (bytes_same (by injection e)))]
    rw [h.2 s]
    constructor
    · rintro ⟨j, hj, e⟩; exact ⟨j, by omega, e⟩
    · rintro ⟨j, hj, e⟩
      refine ⟨j, ?_, e⟩
      by_cases hjk : j = k
      · subst hjk; exact absurd e.symm hs
      · omega
theorem metO_yes {l : List Ob} {k : Nat} {D : DataW Unit} (h : MetO l k D) (e : Maps.has D (.string (ob l k).nm.data.toList) = true) : fstN (sameN l k) k = some () := by
  obtain ⟨j, hj, ej⟩ := (h.2 _).1 e
  cases hf : fstN (sameN l k) k with
  | some u => rfl
  | none =>
    have := fst_no hf j hj
    rw [sameN_yes (by rw [ej]; simp)] at this
    cases this
theorem metO_no {l : List Ob} {k : Nat} {D : DataW Unit} (h : MetO l k D) (e : Maps.has D (.string (ob l k).nm.data.toList) = false) : fstN (sameN l k) k = none := by
  refine fst_none fun j hj => sameN_no ?_
  cases c : ((ob l j).nm.toList == (ob l k).nm.toList) with
  | false => rfl
  | true =>
    have : Maps.has D (.string (ob l k).nm.data.toList) = true := (h.2 _).2 ⟨j, hj, bytes_eq c⟩
    rw [e] at this; cases this
theorem nm_small {s : ByteArray} (h : nameOK s = true) : s.size ≤ 24 := by
  by_cases h0 : 0 < s.size
  · rw [name_cons s h0] at h
    simp at h
    omega
  · omega
theorem obC_name {o : Ob} (h : (obC o).1 = 0) : o.nm.size ≤ 24 := nm_small (check_may h).1.1
set_option maxHeartbeats 4000000 in
set_option maxRecDepth 100000 in
theorem pask_any (A : Option Addr) (ca : Nat) (q : Nat → Pl) (l : List Ob) (w : World) (hA : ObsIn w A q l) :
    Calls Tryz.prog 70 #[.slice A l.length ca] w (ErrP (chkL l) w) := by
  have HA : Hid (ObsIn w A q l) := hA
  have hf := hA.few
  have hmm := mkMap
  clear hA
  by_cases hm : 32 < l.length
  · have hm' : (32 : Int) < (l.length : Int) := by omega
    have HX : Hid (chkL l = some (21, 32, 0)) := by unfold Hid chkL; rw [if_pos hm]
    go_enter Tryz.func70, Tryz.ntmps70
    go_wp2
    go_ret3
    exact ⟨ret3I (by rw [HX.out]; rfl) (by rw [HX.out]; rfl) (by rw [HX.out]; rfl), Below.refl _ _⟩
  · have hm' : ¬ (32 : Int) < (l.length : Int) := by omega
    have HX : Hid (chkL l = fstN (badO l) l.length) := by unfold Hid chkL; rw [if_neg hm]
    go_enter Tryz.func70, Tryz.ntmps70
    go_wp2
    go_loopw [20] (fun i wr => ∃ (k : Nat) (D : DataW Unit), i = .int .i64 k ∧ k ≤ l.length ∧ Hid (wr.ownsMap Tryz.prog 9 (plainElem Tryz.prog 3) w.heap.size k D) ∧ Hid (MetO l k D) ∧ Hid (∀ j, j < k → badO l j = none) ∧ Hid (Below w.heap.size w wr)) (fun i _ => l.length - (intOf i).toNat)
    case atStart => exact ⟨0, _, rfl, Nat.zero_le _, World.ownsMap_made w Tryz.prog 9 (plainElem Tryz.prog 3), metO_zero l, fun j hj => absurd hj (Nat.not_lt_zero _), lb_alloc (Below.refl _ _) _⟩
    case round =>
      obtain ⟨k, D, rfl, hk, HO, HM, HN, HB⟩ := hrel
      by_cases hkl : k < l.length
      · have hkl' : (k : Int) < (l.length : Int) := by omega
        obtain ⟨a, ea, x0, x1, x2, x3, x4, x5⟩ := HA.out.cells.six HB.out k hkl
        obtain ⟨W, hW⟩ : ∃ W, W = wr.alloc (.cells #[.string (ob l k).nm, .slice (q k).A1 (ob l k).code.length (q k).c1, .int .i64 (ob l k).dA, .slice (q k).A2 (ob l k).data.length (q k).c2, .slice (q k).A3 (ob l k).ss.length (q k).c3, .slice (q k).A4 (ob l k).rs.length (q k).c4] 75) := ⟨_, rfl⟩
        have HBW : Hid (Below w.heap.size w W) := by rw [Hid, hW]; exact lb_alloc HB.out _
        have HOW : Hid (W.ownsMap Tryz.prog 9 (plainElem Tryz.prog 3) w.heap.size k D) := by rw [Hid, hW]; exact HO.out.alloc _
        have HNm : Hid (W.cell? ⟨wr.heap.size, 0, none⟩ = some (.string (ob l k).nm)) := by rw [Hid, hW]; simp [go_sem]
        have oA := (HA.out.each k hkl).keep HBW.out
        have CC := objcheck_any (ob l k).nm (ob l k).dA (q k).A1 (q k).A2 (q k).A3 (q k).A4 (q k).c1 (ob l k).data.length (q k).c2 (q k).c3 (q k).c4 (ob l k).code (ob l k).ss (ob l k).rs W oA.cd oA.sy oA.rl oA.cr oA.hc oA.hd oA.hs oA.hl oA.hN oA.da
        obtain ⟨E, hE⟩ : ∃ E, E = (obC (ob l k)).1 := ⟨_, rfl⟩
        obtain ⟨M, hM⟩ : ∃ M, M = (obC (ob l k)).2 := ⟨_, rfl⟩
        change Calls Tryz.prog 82 _ W (fun e w' => e = .returned (.tuple #[.int .i64 (obC (ob l k)).1, .int .i64 (obC (ob l k)).2]) ∧ Below W.heap.size W w') at CC
        rw [← hE, ← hM] at CC
        have HE : Hid (E = (obC (ob l k)).1) := hE
        have HMM : Hid (M = (obC (ob l k)).2) := hM
        clear oA hE hM
        subst ea
        by_cases he : E = 0
        · subst he
          go_wp2_with fail
          rw [← hW]
          refine CC.mono ?_
          rintro e w1 ⟨rfl, hb1⟩
          have HB1 : Hid (Below w.heap.size w w1) := lb_trans HBW.out hb1
          have HO1 : Hid (w1.ownsMap Tryz.prog 9 (plainElem Tryz.prog 3) w.heap.size k D) := ownsMap_below HOW.out hb1 HOW.out.lt
          have n0 : w1.cell? ⟨wr.heap.size, 0, none⟩ = some (.string (ob l k).nm) := lkeep hb1 HNm.out
          have hkey : keyOf Tryz.prog 9 (.string (ob l k).nm) = some (.string (ob l k).nm.data.toList) := keyOf_string_mk Tryz.underlying9 (by have := obC_name HE.out.symm; unfold maxLen; omega)
          clear CC hb1 x0 x1 x2 x3 x4 x5
          cases h2 : Maps.has D (.string (ob l k).nm.data.toList)
          · have HN2 : Hid _ := fst_step HN.out (show badO l k = none by
                unfold badO
                rw [if_pos HE.out.symm, metO_no HM.out h2])
            go_wp2_with (first | (at_lookup; refine wpList_lookup_own_ok_int _ rfl _ _ 202 rfl 9 3 .i64 law9 Tryz.underlying202 Tryz.underlying3 (zero3 _) w.heap.size k D rfl HO1.out _ _ rfl hkey ?_; intro c hat hwc) | (at_mapUpdate; refine wpList_mapUpdate_own _ rfl _ _ _ 202 rfl 9 3 law9 Tryz.underlying202 _ w.heap.size k _ rfl HO1.out (by unfold maxLen; omega) _ _ _ rfl rfl hkey _ [] (plainElem_int Tryz.underlying3 (WalkArith.wf_i64 (by omega))) ?_; intro w6 hown6 hgrow6; have HO6 : Hid (w6.ownsMap Tryz.prog 9 (plainElem Tryz.prog 3) w.heap.size (k + 1) _) := hown6; have HB6 : Hid (Below w.heap.size w w6) := grown_below HB1.out hgrow6 (Nat.le_refl _) HB1.out.size; clear hown6 hgrow6))
            go_roundw
            case rel => exact ⟨k + 1, _, by go_num, by omega, HO6, metO_step HM.out, HN2, HB6⟩
            case measure => simp [intOf]; omega
          · have HX2 : Hid (chkL l = some (26, (k : Int), -1)) := by
              rw [Hid, HX.out]
              refine fst_hit HN.out ?_ hkl
              unfold badO
              rw [if_pos HE.out.symm, metO_yes HM.out h2]
            go_wp2_with (at_lookup; refine wpList_lookup_own_ok_int _ rfl _ _ 202 rfl 9 3 .i64 law9 Tryz.underlying202 Tryz.underlying3 (zero3 _) w.heap.size k D rfl HO1.out _ _ rfl hkey ?_; intro c hat hwc)
            go_ret3
            exact ⟨ret3I (by rw [HX2.out]; rfl) (by rw [HX2.out]; rfl) (by rw [HX2.out]; rfl), HB1.out⟩
        · have he' : (E != 0) = true := by simpa using he
          have HX2 : Hid (chkL l = some (E, (k : Int), M)) := by
            rw [Hid, HX.out]
            refine fst_hit HN.out ?_ hkl
            unfold badO
            rw [if_neg (by rw [← HE.out]; exact he), ← HE.out, ← HMM.out]
          clear he
          go_wp2_with fail
          rw [← hW]
          refine CC.mono ?_
          rintro e w1 ⟨rfl, hb1⟩
          have HB1 : Hid (Below w.heap.size w w1) := lb_trans HBW.out hb1
          clear CC hb1 x0 x1 x2 x3 x4 x5
          go_wp2
          go_ret3
          exact ⟨ret3I (by rw [HX2.out]; rfl) (by rw [HX2.out]; rfl) (by rw [HX2.out]; rfl), HB1.out⟩
      · have hkl' : ¬ (k : Int) < (l.length : Int) := by omega
        have HX2 : Hid (chkL l = none) := by rw [Hid, HX.out]; exact fst_none (fun j hj => HN.out j (by omega))
        go_wp2
        go_ret3
        exact ⟨ret3I (by rw [HX2.out]; rfl) (by rw [HX2.out]; rfl) (by rw [HX2.out]; rfl), HB.out⟩


end Go.Proofs.YthpkekpojhmaaaaGreatDoor

namespace Go.Proofs.YthpkekpojhmaaaaGreatDoor
open Go.RowKit

/-- What the program's Resolve and Find tell. -/
def ProgR : Prop := ∀ (A : Option Addr) (ca : Nat) (q : Nat → Pl) (l : List Ob) (w : World), ObsIn w A q l → Calls Tryz.prog 22 #[.slice A l.length ca] w (ResP 77 69 l w)
def ProgF : Prop := ∀ (A : Option Addr) (ca : Nat) (q : Nat → Pl) (l : List Ob) (nm : ByteArray) (w : World), ObsIn w A q l → nm.size ≤ 140737488355328 → Calls Tryz.prog 23 #[.slice A l.length ca, .string nm] w (DefP (findF nm l) w)


end Go.Proofs.YthpkekpojhmaaaaGreatDoor

namespace Go.Proofs.YthpkekpojhmaaaaGreatDoor
open Go.RowKit

open Go.Maps Go.WideMaps
theorem progF : ProgF := fun A ca q l nm w h hs => pfind_any A ca q l nm w h hs
theorem kinds_of {l : List Ob} (h : chkL l = none) (i : Nat) (hi : i < l.length) (j : Nat) (hj : j < (ob l i).ss.length) : 0 ≤ sKind (ob l i).ss j ∧ sKind (ob l i).ss j ≤ 3 := by
  unfold chkL at h
  split at h
  · cases h
  · have a := fst_no h i hi
    unfold badO at a
    split at a
    · next e =>
      have b := sym_parts.1 ((check_may e).2.1 j hj)
      exact ⟨b.2.2.1, b.2.2.2.1⟩
    · cases a
set_option maxHeartbeats 4000000 in
set_option maxRecDepth 100000 in
theorem progR : ProgR := fun A ca q l w hA => by
  have HA : Hid (ObsIn w A q l) := hA
  have C1 := pask_any A ca q l w hA
  clear hA
  unfold ErrP at C1
  obtain ⟨x, hx⟩ : ∃ x, x = chkL l := ⟨_, rfl⟩
  rw [← hx] at C1
  have HX : Hid (x = chkL l) := hx
  have hE : Errs x := by rw [hx]; exact chkL_errs l
  clear hx
  go_enter Tryz.func22, Tryz.ntmps22
  go_wp2_with fail
  refine C1.mono ?_
  rintro e w1 ⟨rfl, hb1⟩
  have HB1 : Hid (Below w.heap.size w w1) := hb1
  clear C1 hb1
  cases x with
  | some y =>
    have he : (y.1 != 0) = true := by simpa using hE y rfl
    have HR : Hid (resE l = some y) := by unfold Hid resE; rw [← HX.out]
    have HL : Hid (resL l = []) := by unfold Hid resL; rw [HR.out]
    have e1 : t1 (some y) = y.1 := rfl
    have e2 : t2 (some y) = y.2.1 := rfl
    have e3 : t3 (some y) = y.2.2 := rfl
    rw [e1, e2, e3]
    clear hE
    go_wp2
    refine bodyPost_ret (v := .tuple #[.slice none 0 0, .int .i64 y.1, .int .i64 y.2.1, .int .i64 y.2.2]) (by simp [results, Tryz.results22, go_sem]) rfl ⟨none, 0, [], ?_, ?_, HB1.out⟩
    · rw [HL.out, HR.out]; rfl
    · rw [HL.out]; exact RowsD.nil _ _ _ _
  | none =>
    have e1 : t1 none = 0 := rfl
    have e2 : t2 none = 0 := rfl
    have e3 : t3 none = 0 := rfl
    rw [e1, e2, e3]
    clear hE
    have C2 := plearn_any A ca q l w1 (HA.out.keep HB1.out)
    go_wp2_with fail
    refine C2.mono ?_
    rintro e w2 (⟨y, hy, rfl, hb2⟩ | ⟨hy, n, rfl, hk2, hb2⟩)
    · have HB2 : Hid (Below w.heap.size w w2) := lb_trans HB1.out hb2
      have HR : Hid (resE l = some y) := by unfold Hid resE namL; rw [← HX.out, hy]
      have HL : Hid (resL l = []) := by unfold Hid resL; rw [HR.out]
      have he : (y.1 != 0) = true := by simpa using fst_errs (twO_errs l) _ y hy
      clear C2 hb2 hy
      go_wp2
      refine bodyPost_ret (v := .tuple #[.slice none 0 0, .int .i64 y.1, .int .i64 y.2.1, .int .i64 y.2.2]) (by simp [results, Tryz.results22, go_sem]) rfl ⟨none, 0, [], ?_, ?_, HB2.out⟩
      · rw [HL.out, HR.out]; rfl
      · rw [HL.out]; exact RowsD.nil _ _ _ _
    · have HB2 : Hid (Below w.heap.size w w2) := lb_trans HB1.out hb2
      have HK2 : Hid (Knows w2 w1.heap.size n (seenA l l.length 0)) := hk2
      have HT : Hid (fstN (twO l) l.length = none) := hy
      clear C2 hb2 hy hk2
      have C3 := finders_any w1.heap.size w2
      go_wp2_with fail
      refine C3.mono ?_
      rintro e w3 ⟨rfl, hc3, hb3⟩
      have HB3 : Hid (Below w.heap.size w w3) := lb_trans HB2.out hb3
      have C4 := pall_any A ca q l w1.heap.size n w2.heap.size w3 (HA.out.keep HB3.out) (HK2.out.keep hb3) hc3 (kinds_of HX.out.symm)
      clear C3 hb3 hc3
      go_wp2_with fail
      refine C4.mono ?_
      rintro e w4 (⟨y, hy, rfl, hb4⟩ | ⟨hy, O, c, vs, rfl, hr4, hb4⟩)
      · have HB4 : Hid (Below w.heap.size w w4) := lb_trans HB3.out hb4
        have HR : Hid (resE l = some y) := by unfold Hid resE namL; rw [← HX.out, HT.out, hy]
        have HL : Hid (resL l = []) := by unfold Hid resL; rw [HR.out]
        clear C4 hb4 hy
        go_wp2
        refine bodyPost_ret (v := .tuple #[.slice none 0 0, .int .i64 y.1, .int .i64 y.2.1, .int .i64 y.2.2]) (by simp [results, Tryz.results22, go_sem]) rfl ⟨none, 0, [], ?_, ?_, HB4.out⟩
        · rw [HL.out, HR.out]; rfl
        · rw [HL.out]; exact RowsD.nil _ _ _ _
      · have HB4 : Hid (Below w.heap.size w w4) := lb_trans HB3.out hb4
        have HR : Hid (resE l = none) := by unfold Hid resE namL; rw [← HX.out, HT.out, hy]
        have HL : Hid (resL l = rowsT l l.length) := by unfold Hid resL; rw [HR.out]
        have HRW : Hid (RowsD w4 w.heap.size 77 69 (.slice O l.length c) vs (rowsT l l.length)) := ⟨own_base hr4.bag HB3.out.size, fun i hi => own_base (hr4.row i hi) HB3.out.size⟩
        clear C4 hb4 hy hr4
        go_wp2
        refine bodyPost_ret (v := .tuple #[.slice O l.length c, .int .i64 0, .int .i64 0, .int .i64 0]) (by simp [results, Tryz.results22, go_sem]) rfl ⟨O, c, vs, ?_, ?_, HB4.out⟩
        · rw [HL.out, HR.out, rowsT_len]; rfl
        · rw [HL.out, rowsT_len]; exact HRW.out


end Go.Proofs.YthpkekpojhmaaaaGreatDoor

namespace Go.Proofs.YthpkekpojhmaaaaGreatDoor
open Go.RowKit

theorem dat_in {l : List Ob} (h : Res l) : DatIn l := fun i hi => by
  obtain ⟨_, _, _, _, h5, h6, h7⟩ := (h.may i hi).1
  exact ⟨h5, h6, by omega⟩
set_option maxHeartbeats 16000000 in
set_option maxRecDepth 100000 in
theorem progL : ProgL := fun A ca q l nm mem w hA hnm => by
  obtain ⟨w0, hw0⟩ : ∃ w0, w0 = w.alloc (.cells #[.slice none 0 0, .int .i64 0, .slice none 0 0] 29) := ⟨_, rfl⟩
  have HB0 : Hid (Below w.heap.size w w0) := by rw [Hid, hw0]; exact lb_alloc (Below.refl _ _) _
  have HZ : Hid (w0.heap[w.heap.size]? = some (.cells #[.slice none 0 0, .int .i64 0, .slice none 0 0] 29 (0, 0))) := by rw [Hid, hw0]; exact heap_alloc_new _ _
  have HA : Hid (ObsIn w A q l) := hA
  have hf := hA.few
  have HCd : Hid (∀ j, j < l.length → (ob l j).code.length ≤ 1048576) := fun j hj => (hA.each j hj).hc
  clear hA
  go_enter Tryz.func8, Tryz.ntmps8
  by_cases ha : mem < 0
  · have HX : Hid (lnkE l nm mem = some (1, 0, 0)) := lnk_arg (Or.inl ha)
    go_upto_region 1 with fail
    rw [← hw0]
    clear hw0
    obtain ⟨z0, z1, z2, f0, f1, f2⟩ := img_keep (w1 := w0) HZ.out (Below.refl _ _)
    go_wp2
    refine bodyPost_ret (v := .tuple #[.agg #[.slice none 0 0, .int .i64 0, .slice none 0 0], .int .i64 1, .int .i64 0, .int .i64 0]) (by simp [results, Tryz.results8, go_sem, z0, z1, z2]) rfl ?_
    exact lnk_err HX.out (((lb_trans HB0.out (Below.refl _ _)).setCell (Nat.le_refl _) _).setCell (Nat.le_refl _) _ |>.setCell (Nat.le_refl _) _)
  by_cases ha2 : 4096 < mem
  · have HX : Hid (lnkE l nm mem = some (1, 0, 0)) := lnk_arg (Or.inr ha2)
    go_upto_region 1 with fail
    rw [← hw0]
    clear hw0
    obtain ⟨z0, z1, z2, f0, f1, f2⟩ := img_keep (w1 := w0) HZ.out (Below.refl _ _)
    go_wp2
    refine bodyPost_ret (v := .tuple #[.agg #[.slice none 0 0, .int .i64 0, .slice none 0 0], .int .i64 1, .int .i64 0, .int .i64 0]) (by simp [results, Tryz.results8, go_sem, z0, z1, z2]) rfl ?_
    exact lnk_err HX.out (((lb_trans HB0.out (Below.refl _ _)).setCell (Nat.le_refl _) _).setCell (Nat.le_refl _) _ |>.setCell (Nat.le_refl _) _)
  have HM : Hid (¬ (mem < 0 ∨ 4096 < mem)) := by rw [Hid]; omega
  obtain ⟨m, rfl⟩ : ∃ m : Nat, mem = (m : Int) := ⟨mem.toNat, by omega⟩
  have hm4 : m ≤ 4096 := by omega
  have C1 := progR A ca q l w0 (HA.out.keep HB0.out)
  go_upto_region 1 with fail
  rw [← hw0]
  clear hw0
  go_wp2_with fail
  refine C1.mono ?_
  rintro e w1 ⟨A1, c1, v1, rfl, r1, hb1⟩
  have HK1 : Hid (Below w0.heap.size w0 w1) := hb1
  clear C1 hb1
  cases hx : resE l with
  | some x =>
    have he : (x.1 != 0) = true := by simpa using res_none hx
    have HX : Hid (lnkE l nm (m : Int) = some x) := lnk_res HM.out hx
    have e1 : t1 (some x) = x.1 := rfl
    have e2 : t2 (some x) = x.2.1 := rfl
    have e3 : t3 (some x) = x.2.2 := rfl
    rw [e1, e2, e3]
    clear r1 hx e1 e2 e3
    obtain ⟨z0, z1, z2, f0, f1, f2⟩ := img_keep (w1 := w1) HZ.out HK1.out
    go_wp2
    refine bodyPost_ret (v := .tuple #[.agg #[.slice none 0 0, .int .i64 0, .slice none 0 0], .int .i64 x.1, .int .i64 x.2.1, .int .i64 x.2.2]) (by simp [results, Tryz.results8, go_sem, z0, z1, z2]) rfl ?_
    exact lnk_err HX.out (((lb_trans HB0.out HK1.out).setCell (Nat.le_refl _) _).setCell (Nat.le_refl _) _ |>.setCell (Nat.le_refl _) _)
  | none =>
    have HS : Hid (Res l) := res_ok hx
    have HRE : Hid (resE l = none) := hx
    have e1 : t1 none = 0 := rfl
    have e2 : t2 none = 0 := rfl
    have e3 : t3 none = 0 := rfl
    rw [e1, e2, e3]
    have hrl : resL l = rowsT l l.length := by unfold resL; rw [hx]
    rw [hrl] at r1
    rw [hrl, rowsT_len]
    rw [rowsT_len] at r1
    have HR1 : Hid (RowsAt w1 A1 (rowsT l l.length)) := rows_at r1
    clear e1 e2 e3 hrl r1 hx
    have C2 := progF A ca q l nm w1 (HA.out.keep (lb_trans HB0.out HK1.out)) (by omega)
    obtain ⟨fx, hfx⟩ : ∃ fx, fx = findF nm l := ⟨_, rfl⟩
    rw [← hfx] at C2
    unfold DefP at C2
    have HFX : Hid (fx = findF nm l) := hfx
    clear hfx
    go_wp2_with fail
    refine C2.mono ?_
    rintro e w2 ⟨rfl, hb2⟩
    have HK2 : Hid (Below w0.heap.size w0 w2) := lb_trans HK1.out hb2
    have HK12 : Hid (Below w1.heap.size w1 w2) := hb2
    clear C2 hb2
    cases fx with
    | none =>
      have HX : Hid (lnkE l nm (m : Int) = some (41, 0, 0)) := lnk_ent HM.out HRE.out HFX.out.symm
      have e1 : dfI none = 0 := rfl
      have e2 : dfA none = 0 := rfl
      have e3 : (none : Option (Nat × Int)).isSome = false := rfl
      rw [e1, e2, e3]
      obtain ⟨z0, z1, z2, f0, f1, f2⟩ := img_keep (w1 := (w2.alloc (.cells #[.int .i64 0, .int .i64 0] 69))) HZ.out (lb_alloc HK2.out _)
      go_wp2
      refine bodyPost_ret (v := .tuple #[.agg #[.slice none 0 0, .int .i64 0, .slice none 0 0], .int .i64 41, .int .i64 0, .int .i64 0]) (by simp [results, Tryz.results8, go_sem, z0, z1, z2]) rfl ?_
      exact lnk_err HX.out (((lb_trans HB0.out (lb_alloc HK2.out _)).setCell (Nat.le_refl _) _).setCell (Nat.le_refl _) _ |>.setCell (Nat.le_refl _) _)
    | some x =>
      obtain ⟨xi, xa⟩ := x
      obtain ⟨hxl, hxa0, hxa1⟩ := HS.out.find HFX.out.symm
      simp only at hxl hxa0 hxa1
      have hxl' : (xi : Int) < (l.length : Int) := by omega
      have e1 : dfI (some (xi, xa)) = xi := rfl
      have e2 : dfA (some (xi, xa)) = xa := rfl
      have e3 : (some (xi, xa)).isSome = true := rfl
      rw [e1, e2, e3]
      clear e1 e2 e3
      obtain ⟨Wd, hWd⟩ : ∃ Wd, Wd = w2.alloc (.cells #[.int .i64 xi, .int .i64 xa] 69) := ⟨_, rfl⟩
      have hbd : Below w2.heap.size w2 Wd := by rw [hWd]; exact lb_alloc (Below.refl _ _) _
      have HKd : Hid (Below w0.heap.size w0 Wd) := lb_trans HK2.out hbd
      have HK1d : Hid (Below w1.heap.size w1 Wd) := lb_trans HK12.out hbd
      have HD0 : Hid (Wd.cell? ⟨w2.heap.size, 0, none⟩ = some (.int .i64 xi)) := by rw [Hid, hWd]; simp [go_sem]
      have HD1 : Hid (Wd.cell? ⟨w2.heap.size, 1, none⟩ = some (.int .i64 xa)) := by rw [Hid, hWd]; simp [go_sem]
      have hsz2 : w.heap.size < w2.heap.size := by have := (Array.getElem?_eq_some_iff.1 HZ.out).1; have := HK2.out.size; omega
      have C3 := basesOf_any A ca q l Wd (HA.out.keep (lb_trans HB0.out HKd.out))
      go_upto_region 9 with fail
      rw [← hWd]
      clear hWd hbd
      go_wp2_with fail
      refine C3.mono ?_
      rintro e w3 (⟨i, hfar, rfl, hb3⟩ | ⟨hfar, B3, c3, rfl, r3, hb3⟩)
      · have HX : Hid (lnkE l nm (m : Int) = some (42, (i : Int), 0)) := lnk_far HM.out HRE.out HFX.out.symm hfar
        have HK3 : Hid (Below w0.heap.size w0 w3) := lb_trans HKd.out hb3
        clear C3 hb3 hfar
        obtain ⟨z0, z1, z2, f0, f1, f2⟩ := img_keep (w1 := w3) HZ.out HK3.out
        go_wp2
        refine bodyPost_ret (v := .tuple #[.agg #[.slice none 0 0, .int .i64 0, .slice none 0 0], .int .i64 42, .int .i64 i, .int .i64 0]) (by simp [results, Tryz.results8, go_sem, z0, z1, z2]) rfl ?_
        exact lnk_err HX.out (((lb_trans HB0.out HK3.out).setCell (Nat.le_refl _) _).setCell (Nat.le_refl _) _ |>.setCell (Nat.le_refl _) _)
      · have HFar : Hid (farL l = none) := hfar
        have HLD : Hid (lnkE l nm (m : Int) = datE l m) := by rw [Hid, lnk_dat HM.out HRE.out HFX.out.symm hfar]; rfl
        have HK3 : Hid (Below w0.heap.size w0 w3) := lb_trans HKd.out hb3
        have HKd3 : Hid (Below Wd.heap.size Wd w3) := hb3
        have HBs : Hid (IntsAt w3 B3 .i64 (basT l l.length)) := own_intsV r3
        clear C3 hb3 hfar r3
        have C4 := fill_any A ca q l m w3 (HA.out.keep (lb_trans HB0.out HK3.out)) hm4 (dat_in HS.out)
        go_wp2_with fail
        refine C4.mono ?_
        rintro e w4 (⟨y, hy, rfl, hb4⟩ | ⟨hy, O4, rfl, r4, hb4⟩)
        · have he : (y.1 != 0) = true := by simpa using dat_err hy
          have HX : Hid (lnkE l nm (m : Int) = some y) := by rw [Hid, HLD.out, hy]
          have HK4 : Hid (Below w0.heap.size w0 w4) := lb_trans HK3.out hb4
          clear C4 hb4 hy
          obtain ⟨z0, z1, z2, f0, f1, f2⟩ := img_keep (w1 := w4) HZ.out HK4.out
          go_wp2
          refine bodyPost_ret (v := .tuple #[.agg #[.slice none 0 0, .int .i64 0, .slice none 0 0], .int .i64 y.1, .int .i64 y.2.1, .int .i64 y.2.2]) (by simp [results, Tryz.results8, go_sem, z0, z1, z2]) rfl ?_
          exact lnk_err HX.out (((lb_trans HB0.out HK4.out).setCell (Nat.le_refl _) _).setCell (Nat.le_refl _) _ |>.setCell (Nat.le_refl _) _)
        · have HX : Hid (lnkE l nm (m : Int) = none) := by rw [Hid, HLD.out, hy]
          have HK4 : Hid (Below w0.heap.size w0 w4) := lb_trans HK3.out hb4
          have HK34 : Hid (Below w3.heap.size w3 w4) := hb4
          have HR4 : Hid (w4.ownsRow w3.heap.size 2 1 (.slice O4 m m) m (vI (datL l m))) := r4
          have hd0 : w4.cell? ⟨w2.heap.size, 0, none⟩ = some (.int .i64 xi) := lkeep (lb_trans HKd3.out hb4) HD0.out
          have hd1 : w4.cell? ⟨w2.heap.size, 1, none⟩ = some (.int .i64 xa) := lkeep (lb_trans HKd3.out hb4) HD1.out
          clear C4 hb4 hy r4
          go_upto_region 15 with fail
          have hyx := HCd.out xi hxl
          have hbx := sum_fits HCd.out hf (Nat.le_of_lt hxl)
          have hbd : Below w4.heap.size w4 w4.drew := ⟨rfl, rfl, rfl, Nat.le_refl _, fun _ _ => rfl⟩
          have CJ := join_any A ca q l B3 c3 A1 c1 w4.drew (HA.out.keep (lb_trans HB0.out (lb_trans HK4.out hbd))) HS.out HFar.out (HBs.out.keep (lb_trans HK34.out hbd)) (HR1.out.keep (lb_trans HK1d.out (lb_trans HKd3.out (lb_trans HK34.out hbd))))
          have HRd : Hid (w4.drew.ownsRow w3.heap.size 2 1 (.slice O4 m m) m (vI (datL l m))) := own_keep HR4.out hbd
          have HKD : Hid (Below w0.heap.size w0 w4.drew) := lb_trans HK4.out hbd
          have HBD : Hid (IntsAt w4.drew B3 .i64 (basT l l.length)) := HBs.out.keep (lb_trans HK34.out hbd)
          refine wp_region_held_drew (S := fun X : World => X.cell? ⟨w2.heap.size, 0, none⟩ = some (.int .i64 xi) ∧ X.cell? ⟨w2.heap.size, 1, none⟩ = some (.int .i64 xa)) (by kernel_rfl) ⟨hd0, hd1⟩ (fun hHeld => ?_)
          refine wpAnyH_take (i := 0) (oi := { dst := some 69, op := Op.move (Operand.tmp 0), type := 22, pos := "link.go:32", after := #[], guard := none }) (v := ?_) rfl (by kernel_rfl) (by kernel_rfl) (by kernel_rfl) (fun _ _ _ h => h) (Or.inl ⟨by rfl, ?_⟩) hHeld ?_
          rotate_left
          · intro X hSX
            go_simp
            first | done | with_reducible rfl
          try simp only [Act.put, List.setIfInBounds_toArray, List.set_cons_zero, List.set_cons_succ]
          refine wpAnyH_take (i := 1) (oi := { dst := some 70, op := Op.move (Operand.tmp 13), type := 33, pos := "link.go:32", after := #[], guard := none }) (v := ?_) rfl (by kernel_rfl) (by kernel_rfl) (by kernel_rfl) (fun _ _ _ h => h) (Or.inl ⟨by rfl, ?_⟩) hHeld ?_
          rotate_left
          · intro X hSX
            go_simp
            first | done | with_reducible rfl
          try simp only [Act.put, List.setIfInBounds_toArray, List.set_cons_zero, List.set_cons_succ]
          refine wpAnyH_take (i := 2) (oi := { dst := some 71, op := Op.move (Operand.tmp 10), type := 65, pos := "link.go:32", after := #[], guard := none }) (v := ?_) rfl (by kernel_rfl) (by kernel_rfl) (by kernel_rfl) (fun _ _ _ h => h) (Or.inl ⟨by rfl, ?_⟩) hHeld ?_
          rotate_left
          · intro X hSX
            go_simp
            first | done | with_reducible rfl
          try simp only [Act.put, List.setIfInBounds_toArray, List.set_cons_zero, List.set_cons_succ]
          refine wpAnyH_take (i := 4) (oi := { dst := some 73, op := Op.load 69 (Operand.tmp 11), type := 69, pos := "link.go:32", after := #[], guard := none }) (v := ?_) rfl (by kernel_rfl) (by kernel_rfl) (by kernel_rfl) (fun _ _ _ h => h) (Or.inl ⟨by rfl, ?_⟩) hHeld ?_
          rotate_left
          · intro X hSX
            go_simp
            first | done | with_reducible rfl
          try simp only [Act.put, List.setIfInBounds_toArray, List.set_cons_zero, List.set_cons_succ]
          refine wpAnyH_take (i := 5) (oi := { dst := some 74, op := Op.move (Operand.tmp 13), type := 33, pos := "link.go:32", after := #[], guard := none }) (v := ?_) rfl (by kernel_rfl) (by kernel_rfl) (by kernel_rfl) (fun _ _ _ h => h) (Or.inl ⟨by rfl, ?_⟩) hHeld ?_
          rotate_left
          · intro X hSX
            go_simp
            first | done | with_reducible rfl
          try simp only [Act.put, List.setIfInBounds_toArray, List.set_cons_zero, List.set_cons_succ]
          refine wpAnyH_take (i := 7) (oi := { dst := some 76, op := Op.move (Operand.tmp 14), type := 27, pos := "link.go:32", after := #[], guard := none }) (v := ?_) rfl (by kernel_rfl) (by kernel_rfl) (by kernel_rfl) (fun _ _ _ h => h) (Or.inl ⟨by rfl, ?_⟩) hHeld ?_
          rotate_left
          · intro X hSX
            go_simp
            first | done | with_reducible rfl
          try simp only [Act.put, List.setIfInBounds_toArray, List.set_cons_zero, List.set_cons_succ]
          generalize w4.drew = X4 at hHeld CJ HRd HKD HBD ⊢
          refine wpAnyH_ready (rs := [3]) (by kernel_rfl) (by simp) (AllReadyH.cons (o := { dst := some 72, op := Op.call { callee := Callee.value (Operand.func 39), args := #[Operand.tmp 69, Operand.tmp 70, Operand.tmp 71], argTypes := #[22, 33, 65] }, type := 26, pos := "link.go:32", after := #[{ on := 0, ground := Ground.data }, { on := 1, ground := Ground.data }, { on := 2, ground := Ground.data }], guard := none }) rfl (fun K hK => ?_) AllReadyH.nil)
          go_simp
          refine CJ.mono ?_
          rintro e X5 ⟨O5, c5, rfl, r5, hb5⟩
          have HR5 : Hid (X5.ownsRow X4.heap.size 78 1 (.slice O5 (bsF l l.length) c5) (bsF l l.length) (vU (textF l l.length))) := r5
          have HB5 : Hid (Below X4.heap.size X4 X5) := hb5
          have C40 := placeOf_any l xi xa B3 c3 X5 (HBD.out.keep hb5) hxl hbx ⟨hxa0, by omega⟩
          try simp only []
          refine hK.out _ _ ⟨lkeep hb5 hHeld.1, lkeep hb5 hHeld.2⟩ (fun hHeld2 => ?_)
          clear hK K CJ r5 hb5
          try simp only [Act.put, List.setIfInBounds_toArray, List.set_cons_zero, List.set_cons_succ]
          refine wpAnyH_ready (rs := [6]) (by kernel_rfl) (by simp) (AllReadyH.cons (o := { dst := some 75, op := Op.call { callee := Callee.value (Operand.func 40), args := #[Operand.tmp 73, Operand.tmp 74], argTypes := #[69, 33] }, type := 3, pos := "link.go:32", after := #[{ on := 4, ground := Ground.data }, { on := 5, ground := Ground.data }, { on := 3, ground := Ground.chain }], guard := none }) rfl (fun K hK => ?_) AllReadyH.nil)
          go_simp
          refine C40.mono ?_
          rintro e X6 ⟨rfl, hb6⟩
          have HB6 : Hid (Below X5.heap.size X5 X6) := hb6
          try simp only []
          refine hK.out _ _ ⟨lkeep hb6 hHeld2.1, lkeep hb6 hHeld2.2⟩ (fun hHeld3 => ?_)
          clear hK K C40 hb6
          try simp only [Act.put, List.setIfInBounds_toArray, List.set_cons_zero, List.set_cons_succ]
          refine wpAnyH_take (i := 8) (oi := { dst := some 77, op := Op.build 29 #[(0, Operand.tmp 72), (1, Operand.tmp 75), (2, Operand.tmp 76)], type := 29, pos := "link.go:32", after := #[{ on := 3, ground := Ground.data }, { on := 6, ground := Ground.data }, { on := 7, ground := Ground.data }], guard := none }) (v := ?_) rfl (by kernel_rfl) (by kernel_rfl) (by kernel_rfl) (fun _ _ _ h => h) (Or.inl ⟨by rfl, ?_⟩) hHeld3 ?_
          rotate_left
          · intro X hSX
            go_simp
            first | done | with_reducible rfl
          try simp only [Act.put, List.setIfInBounds_toArray, List.set_cons_zero, List.set_cons_succ]
          have HK6 : Hid (Below w0.heap.size w0 X6) := lb_trans HKD.out (lb_trans HB5.out HB6.out)
          obtain ⟨z0, z1, z2, f0, f1, f2⟩ := img_keep (w1 := X6) HZ.out HK6.out
          refine wpAnyH_ready (rs := [9]) (by kernel_rfl) (by simp) (AllReadyH.cons (o := { dst := none, op := Op.store 29 (Operand.tmp 6) (Operand.tmp 77), type := 0, pos := "link.go:32", after := #[{ on := 8, ground := Ground.data }, { on := 6, ground := Ground.chain }, { on := 0, ground := Ground.phase }, { on := 1, ground := Ground.phase }, { on := 2, ground := Ground.phase }, { on := 3, ground := Ground.phase }, { on := 4, ground := Ground.phase }, { on := 5, ground := Ground.phase }, { on := 6, ground := Ground.phase }, { on := 7, ground := Ground.phase }, { on := 8, ground := Ground.phase }], guard := none }) rfl (fun K hK => ?_) AllReadyH.nil)
          go_simp
          refine hK.out _ _ ⟨cell_set_ne (cell_set_ne (cell_set_ne hHeld3.1 (Nat.ne_of_gt hsz2)) (Nat.ne_of_gt hsz2)) (Nat.ne_of_gt hsz2), cell_set_ne (cell_set_ne (cell_set_ne hHeld3.2 (Nat.ne_of_gt hsz2)) (Nat.ne_of_gt hsz2)) (Nat.ne_of_gt hsz2)⟩ (fun hHeld4 => ?_)
          clear hK K
          try simp only [Act.put, List.setIfInBounds_toArray, List.set_cons_zero, List.set_cons_succ]
          refine wpAnyH_take (i := 10) (oi := { dst := some 7, op := Op.assign (Operand.const (Value.int IntKind.i64 0)), type := 30, pos := "link.go:32", after := #[{ on := 9, ground := Ground.chain }, { on := 0, ground := Ground.phase }, { on := 1, ground := Ground.phase }, { on := 2, ground := Ground.phase }, { on := 3, ground := Ground.phase }, { on := 4, ground := Ground.phase }, { on := 5, ground := Ground.phase }, { on := 6, ground := Ground.phase }, { on := 7, ground := Ground.phase }, { on := 8, ground := Ground.phase }, { on := 9, ground := Ground.phase }], guard := none }) (v := ?_) rfl (by kernel_rfl) (by kernel_rfl) (by kernel_rfl) (fun _ _ _ h => h) (Or.inl ⟨by rfl, ?_⟩) hHeld4 ?_
          rotate_left
          · intro X hSX
            go_simp
            first | done | with_reducible rfl
          try simp only [Act.put, List.setIfInBounds_toArray, List.set_cons_zero, List.set_cons_succ]
          refine wpAnyH_take (i := 11) (oi := { dst := some 8, op := Op.assign (Operand.const (Value.int IntKind.i64 0)), type := 3, pos := "link.go:32", after := #[{ on := 10, ground := Ground.chain }, { on := 0, ground := Ground.phase }, { on := 1, ground := Ground.phase }, { on := 2, ground := Ground.phase }, { on := 3, ground := Ground.phase }, { on := 4, ground := Ground.phase }, { on := 5, ground := Ground.phase }, { on := 6, ground := Ground.phase }, { on := 7, ground := Ground.phase }, { on := 8, ground := Ground.phase }, { on := 9, ground := Ground.phase }, { on := 10, ground := Ground.phase }], guard := none }) (v := ?_) rfl (by kernel_rfl) (by kernel_rfl) (by kernel_rfl) (fun _ _ _ h => h) (Or.inl ⟨by rfl, ?_⟩) hHeld4 ?_
          rotate_left
          · intro X hSX
            go_simp
            first | done | with_reducible rfl
          try simp only [Act.put, List.setIfInBounds_toArray, List.set_cons_zero, List.set_cons_succ]
          refine wpAnyH_take (i := 12) (oi := { dst := some 9, op := Op.assign (Operand.const (Value.int IntKind.i64 0)), type := 3, pos := "link.go:32", after := #[{ on := 11, ground := Ground.chain }, { on := 0, ground := Ground.phase }, { on := 1, ground := Ground.phase }, { on := 2, ground := Ground.phase }, { on := 3, ground := Ground.phase }, { on := 4, ground := Ground.phase }, { on := 5, ground := Ground.phase }, { on := 6, ground := Ground.phase }, { on := 7, ground := Ground.phase }, { on := 8, ground := Ground.phase }, { on := 9, ground := Ground.phase }, { on := 10, ground := Ground.phase }, { on := 11, ground := Ground.phase }], guard := none }) (v := ?_) rfl (by kernel_rfl) (by kernel_rfl) (by kernel_rfl) (fun _ _ _ h => h) (Or.inl ⟨by rfl, ?_⟩) hHeld4 ?_
          rotate_left
          · intro X hSX
            go_simp
            first | done | with_reducible rfl
          try simp only [Act.put, List.setIfInBounds_toArray, List.set_cons_zero, List.set_cons_succ]
          refine wpAnyH_done (by kernel_rfl) ?_ _
          clear hHeld hHeld2 hHeld3 hHeld4 hd0 hd1
          have HT : Hid (lnkT l nm (m : Int) = textF l l.length) := by unfold Hid lnkT; rw [HX.out]; rfl
          have HN : Hid (lnkN l nm (m : Int) = (bsF l xi : Int) + xa) := by unfold Hid lnkN; rw [HX.out, ← HFX.out]; rfl
          have HMM : Hid (lnkM l nm (m : Int) = datL l m) := by unfold Hid lnkM; rw [HX.out]; rfl
          have HS0 : Hid (w.heap.size < w0.heap.size) := (Array.getElem?_eq_some_iff.1 HZ.out).1
          have HS4 : Hid (w0.heap.size ≤ X4.heap.size) := HKD.out.size
          have HS3 : Hid (w0.heap.size ≤ w3.heap.size) := HK3.out.size
          have HRw : Hid (X6.ownsRow w3.heap.size 2 1 (.slice O4 m m) m (vI (datL l m))) := own_keep HRd.out (lb_trans HB5.out HB6.out)
          have HRt : Hid (X6.ownsRow X4.heap.size 78 1 (.slice O5 (bsF l l.length) c5) (bsF l l.length) (vU (textF l l.length))) := own_keep HR5.out HB6.out
          have HLT : Hid ((textF l l.length).length = bsF l l.length) := textF_len l l.length
          have HLM : Hid ((datL l m).length = m) := by unfold Hid datL; simp
          go_wp2
          refine bodyPost_ret (v := .tuple #[.agg #[.slice O5 (bsF l l.length) c5, .int .i64 ((bsF l xi : Int) + xa), .slice O4 m m], .int .i64 0, .int .i64 0, .int .i64 0]) (by simp [results, Tryz.results8, go_sem, z0, z1, z2]) rfl ⟨O5, O4, c5, m, ?_, ?_, ?_, ?_⟩
          · rw [HT.out, HN.out, HMM.out, HX.out, HLT.out, HLM.out]; rfl
          · rw [HT.out, HLT.out]
            exact own_base (own_set3 HRt.out (by have := HS0.out; have := HS4.out; omega)) (by have := HS0.out; have := HS4.out; omega)
          · rw [HMM.out, HLM.out]
            exact own_base (own_set3 HRw.out (by have := HS0.out; have := HS3.out; omega)) (by have := HS0.out; have := HS3.out; omega)
          · exact (((lb_trans HB0.out HK6.out).setCell (Nat.le_refl _) _).setCell (Nat.le_refl _) _).setCell (Nat.le_refl _) _

end Go.Proofs.YthpkekpojhmaaaaGreatDoor

namespace Go.Proofs.YthpkekpojhmaaaaGreatDoor
open Go.RowKit

set_option maxRecDepth 100000 in
set_option maxHeartbeats 1000000 in
theorem eqints_any (A B : Option Addr) (ca cb : Nat) (zs ys : List Int) (w : World) (hA : IntsAt w A .i64 zs) (hB : IntsAt w B .i64 ys) (hz : zs.length ≤ 1048576) :
    Calls Tryz.prog 12 #[.slice A zs.length ca, .slice B ys.length cb] w fun e w' => e = .returned (.bool (decide (zs = ys))) ∧ Below w.heap.size w w' := by
  by_cases hl : zs.length = ys.length
  · have hl' : ((zs.length : Int) == (ys.length : Int)) = true := by rw [hl]; simp
    have HL : Hid (zs.length = ys.length) := hl
    clear hl
    go_enter Tryz.func12, Tryz.ntmps12
    go_wp2
    go_loopw [5] (fun i wr => ∃ (k m : Nat), i = .int .i64 k ∧ k ≤ zs.length ∧ wr = w.drewN m ∧ Hid (zs.take k = ys.take k)) (fun i _ => zs.length - (intOf i).toNat)
    case atStart => exact ⟨0, 0, rfl, by omega, rfl, by simp [Hid]⟩
    case round =>
      obtain ⟨k, m, rfl, hk, rfl, HT⟩ := hrel
      by_cases hlt : k < zs.length
      · obtain ⟨a, rfl, c1⟩ := hA k hlt
        obtain ⟨b, rfl, c2⟩ := hB k (by have := HL.out; omega)
        have hlt2 : (k : Int) < (ys.length : Int) := by have := HL.out; omega
        by_cases he : nth zs k = nth ys k
        · have HE : Hid (nth zs k = nth ys k) := he
          have he' : (nth zs k == nth ys k) = true := by simpa using he
          clear he
          go_wp2_with fail
          go_quiet (fail)
          go_wp2
          go_roundw
          case rel => exact ⟨k + 1, _, by go_num, by omega, rfl, take_same HT.out hlt (by omega) HE.out⟩
          case measure => simp [intOf]; omega
        · have HE : Hid (¬ nth zs k = nth ys k) := he
          have he' : (nth zs k == nth ys k) = false := by simpa using he
          clear he
          go_wp2_with fail
          go_quiet (fail)
          go_wp2
          go_ret
          exact ⟨retB (decide_eq_false (nth_ne HE.out)).symm, below_drewN (below_drewN (Below.refl _ _) _) _⟩
      · go_wp2
        go_ret
        exact ⟨retB (decide_eq_true (take_all HT.out (by omega) HL.out)).symm, below_drewN (Below.refl _ _) _⟩
  · have hl' : ((zs.length : Int) == (ys.length : Int)) = false := by simp; omega
    have HL : Hid (¬ zs.length = ys.length) := hl
    clear hl
    go_enter Tryz.func12, Tryz.ntmps12
    go_wp2
    go_ret
    exact ⟨retB (decide_eq_false (fun h => HL.out (by rw [h]))).symm, Below.refl _ _⟩


end Go.Proofs.YthpkekpojhmaaaaGreatDoor

namespace Go.Proofs.YthpkekpojhmaaaaGreatDoor
open Go.RowKit

def twoA : Ob := ⟨⟨#[97]⟩, [2281701376, 2818572288], 1, [7, 8], [(⟨#[102]⟩, 3, 0), (⟨#[109, 97, 105, 110]⟩, 1, 0)], [(0, 0)]⟩
def twoB : Ob := ⟨⟨#[98]⟩, [142606341, 2558001152], 0, [], [(⟨#[102]⟩, 1, 0)], []⟩
def twoL : List Ob := [twoA, twoB]
def oneL : List Ob := [twoA]
def nmM : ByteArray := ⟨#[109, 97, 105, 110]⟩
theorem al_sz (w : World) (o : Obj) : (w.alloc o).heap.size = w.heap.size + 1 := by simp
/-- Blocks laid one behind another. -/
def als : World → List Obj → World
  | w, [] => w
  | w, o :: os => als (w.alloc o) os
theorem als_old : ∀ (os : List Obj) (w : World) (i : Nat), i < w.heap.size → (als w os).heap[i]? = w.heap[i]?
  | [], _, _, _ => rfl
  | o :: os, w, i, h => by
    show (als (w.alloc o) os).heap[i]? = _
    rw [als_old os (w.alloc o) i (by rw [al_sz]; omega), Below.heap_alloc w o i h]
theorem als_all : ∀ (os : List Obj) (w : World) (i : Nat) (o : Obj), os[i]? = some o → (als w os).heap[w.heap.size + i]? = some o
  | [], _, _, _, h => by simp at h
  | p :: os, w, 0, o, h => by
    simp at h
    subst h
    show (als (w.alloc p) os).heap[w.heap.size]? = _
    rw [als_old os (w.alloc p) _ (by rw [al_sz]; omega)]
    exact heap_alloc_new _ _
  | p :: os, w, i + 1, o, h => by
    have := als_all os (w.alloc p) i o (by simpa using h)
    rw [al_sz] at this
    show (als (w.alloc p) os).heap[w.heap.size + (i + 1)]? = _
    rw [show w.heap.size + (i + 1) = w.heap.size + 1 + i by omega]
    exact this
theorem als_at (w : World) (os : List Obj) (i : Nat) (o : Obj) (h : os[i]? = some o) : (als w os).heap[w.heap.size + i]? = some o := als_all os w i o h
def twoQ (g : Nat) (i : Nat) : Pl := if i = 0 then ⟨some ⟨g, 0, none⟩, some ⟨g + 1, 0, none⟩, some ⟨g + 1 + 1, 0, none⟩, some ⟨g + 1 + 1 + 1, 0, none⟩, 2, 2, 2, 1⟩ else ⟨some ⟨g + 1 + 1 + 1 + 1 + 1, 0, none⟩, none, some ⟨g + 1 + 1 + 1 + 1 + 1 + 1, 0, none⟩, none, 2, 0, 1, 0⟩
theorem sName_few (l : List Sym) (h : ∀ s ∈ l, s.1.size ≤ 140737488355328) (i : Nat) : (sName l i).size ≤ 140737488355328 := by
  unfold sName
  by_cases hi : i < l.length
  · rw [List.getD_eq_getElem?_getD, List.getElem?_eq_getElem hi]
    exact h _ (List.getElem_mem hi)
  · rw [List.getD_eq_getElem?_getD, List.getElem?_eq_none (by omega)]
    exact (by decide : (⟨#[]⟩ : ByteArray).size ≤ 140737488355328)
theorem two_lt {P : Nat → Prop} (h0 : P 0) (h1 : P 1) (m : Nat) (hm : m < 2) : P m := by
  have hq : m = 0 ∨ m = 1 := by omega
  rcases hq with rfl | rfl
  · exact h0
  · exact h1
theorem one_lt {P : Nat → Prop} (h0 : P 0) (m : Nat) (hm : m < 1) : P m := by
  have hq : m = 0 := by omega
  subst hq
  exact h0


end Go.Proofs.YthpkekpojhmaaaaGreatDoor

namespace Go.Proofs.YthpkekpojhmaaaaGreatDoor
open Go.RowKit

theorem twoA_in {w : World} {g : Nat} (h0 : w.heap[g]? = some (.cells #[.int .u32 2281701376, .int .u32 2818572288] 78 (0, 0))) (h1 : w.heap[g + 1]? = some (.cells #[.int .i64 7, .int .i64 8] 2 (0, 0))) (h2 : w.heap[g + 1 + 1]? = some (.cells #[.string ⟨#[102]⟩, .int .i8 3, .int .i64 0, .string ⟨#[109, 97, 105, 110]⟩, .int .i8 1, .int .i64 0] 131 (0, 0))) (h3 : w.heap[g + 1 + 1 + 1]? = some (.cells #[.int .i64 0, .int .i64 0] 83 (0, 0))) : ObIn w (twoQ g 0) twoA :=
  ⟨two_lt ⟨_, rfl, Lib.cell_of_heap h0 0⟩ ⟨_, rfl, Lib.cell_of_heap h0 1⟩, two_lt ⟨_, rfl, Lib.cell_of_heap h1 0⟩ ⟨_, rfl, Lib.cell_of_heap h1 1⟩,
   two_lt ⟨_, rfl, Lib.cell_of_heap h2 0, Lib.cell_of_heap h2 1, Lib.cell_of_heap h2 2⟩ ⟨_, rfl, Lib.cell_of_heap h2 3, Lib.cell_of_heap h2 4, Lib.cell_of_heap h2 5⟩,
   one_lt ⟨_, rfl, Lib.cell_of_heap h3 0, Lib.cell_of_heap h3 1⟩, two_lt (by decide) (by decide), two_lt ⟨by decide, by decide⟩ ⟨by decide, by decide⟩, ⟨by decide, by decide⟩, by decide, by decide, by decide, by decide, sName_few _ (by decide), Nat.le_refl 1⟩
theorem twoB_in {w : World} {g : Nat} (h5 : w.heap[g + 1 + 1 + 1 + 1 + 1]? = some (.cells #[.int .u32 142606341, .int .u32 2558001152] 78 (0, 0))) (h6 : w.heap[g + 1 + 1 + 1 + 1 + 1 + 1]? = some (.cells #[.string ⟨#[102]⟩, .int .i8 1, .int .i64 0] 131 (0, 0))) : ObIn w (twoQ g 1) twoB :=
  ⟨two_lt ⟨_, rfl, Lib.cell_of_heap h5 0⟩ ⟨_, rfl, Lib.cell_of_heap h5 1⟩, fun i hi => by simp [twoB] at hi,
   one_lt ⟨_, rfl, Lib.cell_of_heap h6 0, Lib.cell_of_heap h6 1, Lib.cell_of_heap h6 2⟩,
   fun i hi => by simp [twoB] at hi, two_lt (by decide) (by decide), fun i hi => by simp [twoB] at hi, ⟨by decide, by decide⟩, by decide, by decide, by decide, by decide, sName_few _ (by decide), Nat.zero_le _⟩
set_option maxRecDepth 100000 in
theorem two_in (w : World) : ObsIn (((((((((w.alloc (.cells #[.int .u32 2281701376, .int .u32 2818572288] 78)).alloc (.cells #[.int .i64 7, .int .i64 8] 2)).alloc (.cells #[.string ⟨#[102]⟩, .int .i8 3, .int .i64 0, .string ⟨#[109, 97, 105, 110]⟩, .int .i8 1, .int .i64 0] 131)).alloc (.cells #[.int .i64 0, .int .i64 0] 83)).alloc (.cells #[.string ⟨#[97]⟩, .slice (some ⟨w.heap.size, 0, none⟩) 2 2, .int .i64 1, .slice (some ⟨w.heap.size + 1, 0, none⟩) 2 2, .slice (some ⟨w.heap.size + 1 + 1, 0, none⟩) 2 2, .slice (some ⟨w.heap.size + 1 + 1 + 1, 0, none⟩) 1 1] 75)).alloc (.cells #[.int .u32 142606341, .int .u32 2558001152] 78)).alloc (.cells #[.string ⟨#[102]⟩, .int .i8 1, .int .i64 0] 131)).alloc (.cells #[.string ⟨#[98]⟩, .slice (some ⟨w.heap.size + 1 + 1 + 1 + 1 + 1, 0, none⟩) 2 2, .int .i64 0, .slice none 0 0, .slice (some ⟨w.heap.size + 1 + 1 + 1 + 1 + 1 + 1, 0, none⟩) 1 1, .slice none 0 0] 75)).alloc (.cells #[.string ⟨#[97]⟩, .slice (some ⟨w.heap.size, 0, none⟩) 2 2, .int .i64 1, .slice (some ⟨w.heap.size + 1, 0, none⟩) 2 2, .slice (some ⟨w.heap.size + 1 + 1, 0, none⟩) 2 2, .slice (some ⟨w.heap.size + 1 + 1 + 1, 0, none⟩) 1 1, .string ⟨#[98]⟩, .slice (some ⟨w.heap.size + 1 + 1 + 1 + 1 + 1, 0, none⟩) 2 2, .int .i64 0, .slice none 0 0, .slice (some ⟨w.heap.size + 1 + 1 + 1 + 1 + 1 + 1, 0, none⟩) 1 1, .slice none 0 0] 75)) (some ⟨w.heap.size + 1 + 1 + 1 + 1 + 1 + 1 + 1 + 1, 0, none⟩) (twoQ w.heap.size) twoL := by
  show ObsIn (als w [.cells #[.int .u32 2281701376, .int .u32 2818572288] 78, .cells #[.int .i64 7, .int .i64 8] 2, .cells #[.string ⟨#[102]⟩, .int .i8 3, .int .i64 0, .string ⟨#[109, 97, 105, 110]⟩, .int .i8 1, .int .i64 0] 131, .cells #[.int .i64 0, .int .i64 0] 83, .cells #[.string ⟨#[97]⟩, .slice (some ⟨w.heap.size, 0, none⟩) 2 2, .int .i64 1, .slice (some ⟨w.heap.size + 1, 0, none⟩) 2 2, .slice (some ⟨w.heap.size + 1 + 1, 0, none⟩) 2 2, .slice (some ⟨w.heap.size + 1 + 1 + 1, 0, none⟩) 1 1] 75, .cells #[.int .u32 142606341, .int .u32 2558001152] 78, .cells #[.string ⟨#[102]⟩, .int .i8 1, .int .i64 0] 131, .cells #[.string ⟨#[98]⟩, .slice (some ⟨w.heap.size + 1 + 1 + 1 + 1 + 1, 0, none⟩) 2 2, .int .i64 0, .slice none 0 0, .slice (some ⟨w.heap.size + 1 + 1 + 1 + 1 + 1 + 1, 0, none⟩) 1 1, .slice none 0 0] 75, .cells #[.string ⟨#[97]⟩, .slice (some ⟨w.heap.size, 0, none⟩) 2 2, .int .i64 1, .slice (some ⟨w.heap.size + 1, 0, none⟩) 2 2, .slice (some ⟨w.heap.size + 1 + 1, 0, none⟩) 2 2, .slice (some ⟨w.heap.size + 1 + 1 + 1, 0, none⟩) 1 1, .string ⟨#[98]⟩, .slice (some ⟨w.heap.size + 1 + 1 + 1 + 1 + 1, 0, none⟩) 2 2, .int .i64 0, .slice none 0 0, .slice (some ⟨w.heap.size + 1 + 1 + 1 + 1 + 1 + 1, 0, none⟩) 1 1, .slice none 0 0] 75]) _ _ _
  have k0 : (als w [.cells #[.int .u32 2281701376, .int .u32 2818572288] 78, .cells #[.int .i64 7, .int .i64 8] 2, .cells #[.string ⟨#[102]⟩, .int .i8 3, .int .i64 0, .string ⟨#[109, 97, 105, 110]⟩, .int .i8 1, .int .i64 0] 131, .cells #[.int .i64 0, .int .i64 0] 83, .cells #[.string ⟨#[97]⟩, .slice (some ⟨w.heap.size, 0, none⟩) 2 2, .int .i64 1, .slice (some ⟨w.heap.size + 1, 0, none⟩) 2 2, .slice (some ⟨w.heap.size + 1 + 1, 0, none⟩) 2 2, .slice (some ⟨w.heap.size + 1 + 1 + 1, 0, none⟩) 1 1] 75, .cells #[.int .u32 142606341, .int .u32 2558001152] 78, .cells #[.string ⟨#[102]⟩, .int .i8 1, .int .i64 0] 131, .cells #[.string ⟨#[98]⟩, .slice (some ⟨w.heap.size + 1 + 1 + 1 + 1 + 1, 0, none⟩) 2 2, .int .i64 0, .slice none 0 0, .slice (some ⟨w.heap.size + 1 + 1 + 1 + 1 + 1 + 1, 0, none⟩) 1 1, .slice none 0 0] 75, .cells #[.string ⟨#[97]⟩, .slice (some ⟨w.heap.size, 0, none⟩) 2 2, .int .i64 1, .slice (some ⟨w.heap.size + 1, 0, none⟩) 2 2, .slice (some ⟨w.heap.size + 1 + 1, 0, none⟩) 2 2, .slice (some ⟨w.heap.size + 1 + 1 + 1, 0, none⟩) 1 1, .string ⟨#[98]⟩, .slice (some ⟨w.heap.size + 1 + 1 + 1 + 1 + 1, 0, none⟩) 2 2, .int .i64 0, .slice none 0 0, .slice (some ⟨w.heap.size + 1 + 1 + 1 + 1 + 1 + 1, 0, none⟩) 1 1, .slice none 0 0] 75]).heap[w.heap.size]? = some (.cells #[.int .u32 2281701376, .int .u32 2818572288] 78 (0, 0)) := als_at w _ 0 _ rfl
  have k1 : (als w [.cells #[.int .u32 2281701376, .int .u32 2818572288] 78, .cells #[.int .i64 7, .int .i64 8] 2, .cells #[.string ⟨#[102]⟩, .int .i8 3, .int .i64 0, .string ⟨#[109, 97, 105, 110]⟩, .int .i8 1, .int .i64 0] 131, .cells #[.int .i64 0, .int .i64 0] 83, .cells #[.string ⟨#[97]⟩, .slice (some ⟨w.heap.size, 0, none⟩) 2 2, .int .i64 1, .slice (some ⟨w.heap.size + 1, 0, none⟩) 2 2, .slice (some ⟨w.heap.size + 1 + 1, 0, none⟩) 2 2, .slice (some ⟨w.heap.size + 1 + 1 + 1, 0, none⟩) 1 1] 75, .cells #[.int .u32 142606341, .int .u32 2558001152] 78, .cells #[.string ⟨#[102]⟩, .int .i8 1, .int .i64 0] 131, .cells #[.string ⟨#[98]⟩, .slice (some ⟨w.heap.size + 1 + 1 + 1 + 1 + 1, 0, none⟩) 2 2, .int .i64 0, .slice none 0 0, .slice (some ⟨w.heap.size + 1 + 1 + 1 + 1 + 1 + 1, 0, none⟩) 1 1, .slice none 0 0] 75, .cells #[.string ⟨#[97]⟩, .slice (some ⟨w.heap.size, 0, none⟩) 2 2, .int .i64 1, .slice (some ⟨w.heap.size + 1, 0, none⟩) 2 2, .slice (some ⟨w.heap.size + 1 + 1, 0, none⟩) 2 2, .slice (some ⟨w.heap.size + 1 + 1 + 1, 0, none⟩) 1 1, .string ⟨#[98]⟩, .slice (some ⟨w.heap.size + 1 + 1 + 1 + 1 + 1, 0, none⟩) 2 2, .int .i64 0, .slice none 0 0, .slice (some ⟨w.heap.size + 1 + 1 + 1 + 1 + 1 + 1, 0, none⟩) 1 1, .slice none 0 0] 75]).heap[w.heap.size + 1]? = some (.cells #[.int .i64 7, .int .i64 8] 2 (0, 0)) := als_at w _ 1 _ rfl
  have k2 : (als w [.cells #[.int .u32 2281701376, .int .u32 2818572288] 78, .cells #[.int .i64 7, .int .i64 8] 2, .cells #[.string ⟨#[102]⟩, .int .i8 3, .int .i64 0, .string ⟨#[109, 97, 105, 110]⟩, .int .i8 1, .int .i64 0] 131, .cells #[.int .i64 0, .int .i64 0] 83, .cells #[.string ⟨#[97]⟩, .slice (some ⟨w.heap.size, 0, none⟩) 2 2, .int .i64 1, .slice (some ⟨w.heap.size + 1, 0, none⟩) 2 2, .slice (some ⟨w.heap.size + 1 + 1, 0, none⟩) 2 2, .slice (some ⟨w.heap.size + 1 + 1 + 1, 0, none⟩) 1 1] 75, .cells #[.int .u32 142606341, .int .u32 2558001152] 78, .cells #[.string ⟨#[102]⟩, .int .i8 1, .int .i64 0] 131, .cells #[.string ⟨#[98]⟩, .slice (some ⟨w.heap.size + 1 + 1 + 1 + 1 + 1, 0, none⟩) 2 2, .int .i64 0, .slice none 0 0, .slice (some ⟨w.heap.size + 1 + 1 + 1 + 1 + 1 + 1, 0, none⟩) 1 1, .slice none 0 0] 75, .cells #[.string ⟨#[97]⟩, .slice (some ⟨w.heap.size, 0, none⟩) 2 2, .int .i64 1, .slice (some ⟨w.heap.size + 1, 0, none⟩) 2 2, .slice (some ⟨w.heap.size + 1 + 1, 0, none⟩) 2 2, .slice (some ⟨w.heap.size + 1 + 1 + 1, 0, none⟩) 1 1, .string ⟨#[98]⟩, .slice (some ⟨w.heap.size + 1 + 1 + 1 + 1 + 1, 0, none⟩) 2 2, .int .i64 0, .slice none 0 0, .slice (some ⟨w.heap.size + 1 + 1 + 1 + 1 + 1 + 1, 0, none⟩) 1 1, .slice none 0 0] 75]).heap[w.heap.size + 1 + 1]? = some (.cells #[.string ⟨#[102]⟩, .int .i8 3, .int .i64 0, .string ⟨#[109, 97, 105, 110]⟩, .int .i8 1, .int .i64 0] 131 (0, 0)) := als_at w _ 2 _ rfl
  have k3 : (als w [.cells #[.int .u32 2281701376, .int .u32 2818572288] 78, .cells #[.int .i64 7, .int .i64 8] 2, .cells #[.string ⟨#[102]⟩, .int .i8 3, .int .i64 0, .string ⟨#[109, 97, 105, 110]⟩, .int .i8 1, .int .i64 0] 131, .cells #[.int .i64 0, .int .i64 0] 83, .cells #[.string ⟨#[97]⟩, .slice (some ⟨w.heap.size, 0, none⟩) 2 2, .int .i64 1, .slice (some ⟨w.heap.size + 1, 0, none⟩) 2 2, .slice (some ⟨w.heap.size + 1 + 1, 0, none⟩) 2 2, .slice (some ⟨w.heap.size + 1 + 1 + 1, 0, none⟩) 1 1] 75, .cells #[.int .u32 142606341, .int .u32 2558001152] 78, .cells #[.string ⟨#[102]⟩, .int .i8 1, .int .i64 0] 131, .cells #[.string ⟨#[98]⟩, .slice (some ⟨w.heap.size + 1 + 1 + 1 + 1 + 1, 0, none⟩) 2 2, .int .i64 0, .slice none 0 0, .slice (some ⟨w.heap.size + 1 + 1 + 1 + 1 + 1 + 1, 0, none⟩) 1 1, .slice none 0 0] 75, .cells #[.string ⟨#[97]⟩, .slice (some ⟨w.heap.size, 0, none⟩) 2 2, .int .i64 1, .slice (some ⟨w.heap.size + 1, 0, none⟩) 2 2, .slice (some ⟨w.heap.size + 1 + 1, 0, none⟩) 2 2, .slice (some ⟨w.heap.size + 1 + 1 + 1, 0, none⟩) 1 1, .string ⟨#[98]⟩, .slice (some ⟨w.heap.size + 1 + 1 + 1 + 1 + 1, 0, none⟩) 2 2, .int .i64 0, .slice none 0 0, .slice (some ⟨w.heap.size + 1 + 1 + 1 + 1 + 1 + 1, 0, none⟩) 1 1, .slice none 0 0] 75]).heap[w.heap.size + 1 + 1 + 1]? = some (.cells #[.int .i64 0, .int .i64 0] 83 (0, 0)) := als_at w _ 3 _ rfl
  have k5 : (als w [.cells #[.int .u32 2281701376, .int .u32 2818572288] 78, .cells #[.int .i64 7, .int .i64 8] 2, .cells #[.string ⟨#[102]⟩, .int .i8 3, .int .i64 0, .string ⟨#[109, 97, 105, 110]⟩, .int .i8 1, .int .i64 0] 131, .cells #[.int .i64 0, .int .i64 0] 83, .cells #[.string ⟨#[97]⟩, .slice (some ⟨w.heap.size, 0, none⟩) 2 2, .int .i64 1, .slice (some ⟨w.heap.size + 1, 0, none⟩) 2 2, .slice (some ⟨w.heap.size + 1 + 1, 0, none⟩) 2 2, .slice (some ⟨w.heap.size + 1 + 1 + 1, 0, none⟩) 1 1] 75, .cells #[.int .u32 142606341, .int .u32 2558001152] 78, .cells #[.string ⟨#[102]⟩, .int .i8 1, .int .i64 0] 131, .cells #[.string ⟨#[98]⟩, .slice (some ⟨w.heap.size + 1 + 1 + 1 + 1 + 1, 0, none⟩) 2 2, .int .i64 0, .slice none 0 0, .slice (some ⟨w.heap.size + 1 + 1 + 1 + 1 + 1 + 1, 0, none⟩) 1 1, .slice none 0 0] 75, .cells #[.string ⟨#[97]⟩, .slice (some ⟨w.heap.size, 0, none⟩) 2 2, .int .i64 1, .slice (some ⟨w.heap.size + 1, 0, none⟩) 2 2, .slice (some ⟨w.heap.size + 1 + 1, 0, none⟩) 2 2, .slice (some ⟨w.heap.size + 1 + 1 + 1, 0, none⟩) 1 1, .string ⟨#[98]⟩, .slice (some ⟨w.heap.size + 1 + 1 + 1 + 1 + 1, 0, none⟩) 2 2, .int .i64 0, .slice none 0 0, .slice (some ⟨w.heap.size + 1 + 1 + 1 + 1 + 1 + 1, 0, none⟩) 1 1, .slice none 0 0] 75]).heap[w.heap.size + 1 + 1 + 1 + 1 + 1]? = some (.cells #[.int .u32 142606341, .int .u32 2558001152] 78 (0, 0)) := als_at w _ 5 _ rfl
  have k6 : (als w [.cells #[.int .u32 2281701376, .int .u32 2818572288] 78, .cells #[.int .i64 7, .int .i64 8] 2, .cells #[.string ⟨#[102]⟩, .int .i8 3, .int .i64 0, .string ⟨#[109, 97, 105, 110]⟩, .int .i8 1, .int .i64 0] 131, .cells #[.int .i64 0, .int .i64 0] 83, .cells #[.string ⟨#[97]⟩, .slice (some ⟨w.heap.size, 0, none⟩) 2 2, .int .i64 1, .slice (some ⟨w.heap.size + 1, 0, none⟩) 2 2, .slice (some ⟨w.heap.size + 1 + 1, 0, none⟩) 2 2, .slice (some ⟨w.heap.size + 1 + 1 + 1, 0, none⟩) 1 1] 75, .cells #[.int .u32 142606341, .int .u32 2558001152] 78, .cells #[.string ⟨#[102]⟩, .int .i8 1, .int .i64 0] 131, .cells #[.string ⟨#[98]⟩, .slice (some ⟨w.heap.size + 1 + 1 + 1 + 1 + 1, 0, none⟩) 2 2, .int .i64 0, .slice none 0 0, .slice (some ⟨w.heap.size + 1 + 1 + 1 + 1 + 1 + 1, 0, none⟩) 1 1, .slice none 0 0] 75, .cells #[.string ⟨#[97]⟩, .slice (some ⟨w.heap.size, 0, none⟩) 2 2, .int .i64 1, .slice (some ⟨w.heap.size + 1, 0, none⟩) 2 2, .slice (some ⟨w.heap.size + 1 + 1, 0, none⟩) 2 2, .slice (some ⟨w.heap.size + 1 + 1 + 1, 0, none⟩) 1 1, .string ⟨#[98]⟩, .slice (some ⟨w.heap.size + 1 + 1 + 1 + 1 + 1, 0, none⟩) 2 2, .int .i64 0, .slice none 0 0, .slice (some ⟨w.heap.size + 1 + 1 + 1 + 1 + 1 + 1, 0, none⟩) 1 1, .slice none 0 0] 75]).heap[w.heap.size + 1 + 1 + 1 + 1 + 1 + 1]? = some (.cells #[.string ⟨#[102]⟩, .int .i8 1, .int .i64 0] 131 (0, 0)) := als_at w _ 6 _ rfl
  have k8 : (als w [.cells #[.int .u32 2281701376, .int .u32 2818572288] 78, .cells #[.int .i64 7, .int .i64 8] 2, .cells #[.string ⟨#[102]⟩, .int .i8 3, .int .i64 0, .string ⟨#[109, 97, 105, 110]⟩, .int .i8 1, .int .i64 0] 131, .cells #[.int .i64 0, .int .i64 0] 83, .cells #[.string ⟨#[97]⟩, .slice (some ⟨w.heap.size, 0, none⟩) 2 2, .int .i64 1, .slice (some ⟨w.heap.size + 1, 0, none⟩) 2 2, .slice (some ⟨w.heap.size + 1 + 1, 0, none⟩) 2 2, .slice (some ⟨w.heap.size + 1 + 1 + 1, 0, none⟩) 1 1] 75, .cells #[.int .u32 142606341, .int .u32 2558001152] 78, .cells #[.string ⟨#[102]⟩, .int .i8 1, .int .i64 0] 131, .cells #[.string ⟨#[98]⟩, .slice (some ⟨w.heap.size + 1 + 1 + 1 + 1 + 1, 0, none⟩) 2 2, .int .i64 0, .slice none 0 0, .slice (some ⟨w.heap.size + 1 + 1 + 1 + 1 + 1 + 1, 0, none⟩) 1 1, .slice none 0 0] 75, .cells #[.string ⟨#[97]⟩, .slice (some ⟨w.heap.size, 0, none⟩) 2 2, .int .i64 1, .slice (some ⟨w.heap.size + 1, 0, none⟩) 2 2, .slice (some ⟨w.heap.size + 1 + 1, 0, none⟩) 2 2, .slice (some ⟨w.heap.size + 1 + 1 + 1, 0, none⟩) 1 1, .string ⟨#[98]⟩, .slice (some ⟨w.heap.size + 1 + 1 + 1 + 1 + 1, 0, none⟩) 2 2, .int .i64 0, .slice none 0 0, .slice (some ⟨w.heap.size + 1 + 1 + 1 + 1 + 1 + 1, 0, none⟩) 1 1, .slice none 0 0] 75]).heap[w.heap.size + 1 + 1 + 1 + 1 + 1 + 1 + 1 + 1]? = some (.cells #[.string ⟨#[97]⟩, .slice (some ⟨w.heap.size, 0, none⟩) 2 2, .int .i64 1, .slice (some ⟨w.heap.size + 1, 0, none⟩) 2 2, .slice (some ⟨w.heap.size + 1 + 1, 0, none⟩) 2 2, .slice (some ⟨w.heap.size + 1 + 1 + 1, 0, none⟩) 1 1, .string ⟨#[98]⟩, .slice (some ⟨w.heap.size + 1 + 1 + 1 + 1 + 1, 0, none⟩) 2 2, .int .i64 0, .slice none 0 0, .slice (some ⟨w.heap.size + 1 + 1 + 1 + 1 + 1 + 1, 0, none⟩) 1 1, .slice none 0 0] 75 (0, 0)) := als_at w _ 8 _ rfl
  have c8 := fun j => Lib.cell_of_heap k8 j
  generalize als w _ = X at k0 k1 k2 k3 k5 k6 c8 ⊢
  clear k8
  refine ⟨two_lt ⟨_, rfl, c8 0, c8 1, c8 2, c8 3, c8 4, c8 5⟩ ⟨_, rfl, c8 6, c8 7, c8 8, c8 9, c8 10, c8 11⟩, two_lt (twoA_in k0 k1 k2 k3) (twoB_in k5 k6), by decide⟩
/-- The first alone. -/
theorem one_in {w : World} {A : Option Addr} {q : Nat → Pl} (h : ObsIn w A q twoL) : ObsIn w A q oneL :=
  ⟨one_lt (h.cells 0 (by decide)), one_lt (h.each 0 (by decide)), by decide⟩
set_option maxHeartbeats 1000000 in
set_option maxRecDepth 100000 in
theorem two_any (w : World) : Calls Tryz.prog 32 #[] w fun e w' => ∃ (a : Addr) (q : Nat → Pl), e = .returned (.slice (some a) 2 2) ∧ ObsIn w' (some a) q twoL ∧ Below w.heap.size w w' := by
  have HI : Hid _ := two_in w
  have HB : Hid (Below w.heap.size w (((((((((w.alloc (.cells #[.int .u32 2281701376, .int .u32 2818572288] 78)).alloc (.cells #[.int .i64 7, .int .i64 8] 2)).alloc (.cells #[.string ⟨#[102]⟩, .int .i8 3, .int .i64 0, .string ⟨#[109, 97, 105, 110]⟩, .int .i8 1, .int .i64 0] 131)).alloc (.cells #[.int .i64 0, .int .i64 0] 83)).alloc (.cells #[.string ⟨#[97]⟩, .slice (some ⟨w.heap.size, 0, none⟩) 2 2, .int .i64 1, .slice (some ⟨w.heap.size + 1, 0, none⟩) 2 2, .slice (some ⟨w.heap.size + 1 + 1, 0, none⟩) 2 2, .slice (some ⟨w.heap.size + 1 + 1 + 1, 0, none⟩) 1 1] 75)).alloc (.cells #[.int .u32 142606341, .int .u32 2558001152] 78)).alloc (.cells #[.string ⟨#[102]⟩, .int .i8 1, .int .i64 0] 131)).alloc (.cells #[.string ⟨#[98]⟩, .slice (some ⟨w.heap.size + 1 + 1 + 1 + 1 + 1, 0, none⟩) 2 2, .int .i64 0, .slice none 0 0, .slice (some ⟨w.heap.size + 1 + 1 + 1 + 1 + 1 + 1, 0, none⟩) 1 1, .slice none 0 0] 75)).alloc (.cells #[.string ⟨#[97]⟩, .slice (some ⟨w.heap.size, 0, none⟩) 2 2, .int .i64 1, .slice (some ⟨w.heap.size + 1, 0, none⟩) 2 2, .slice (some ⟨w.heap.size + 1 + 1, 0, none⟩) 2 2, .slice (some ⟨w.heap.size + 1 + 1 + 1, 0, none⟩) 1 1, .string ⟨#[98]⟩, .slice (some ⟨w.heap.size + 1 + 1 + 1 + 1 + 1, 0, none⟩) 2 2, .int .i64 0, .slice none 0 0, .slice (some ⟨w.heap.size + 1 + 1 + 1 + 1 + 1 + 1, 0, none⟩) 1 1, .slice none 0 0] 75))) := lb_alloc (lb_alloc (lb_alloc (lb_alloc (lb_alloc (lb_alloc (lb_alloc (lb_alloc (lb_alloc (Below.refl _ _) _) _) _) _) _) _) _) _) _
  go_enter Tryz.func32, Tryz.ntmps32
  go_wp2
  go_ret
  exact ⟨_, _, rfl, HI.out, HB.out⟩
theorem two_lnk : lnkE twoL nmM 4 = none := by decide +kernel
theorem two_text : lnkT twoL nmM 4 = [2281701379, 2818572288, 0, 142606341, 2558001152, 0] := by decide +kernel
theorem two_ent : lnkN twoL nmM 4 = 0 := by decide +kernel
theorem two_mem : lnkM twoL nmM 4 = [0, 7, 8, 0] := by decide +kernel
theorem one_lnk : lnkE oneL nmM 4 = some (40, 0, 0) := by decide +kernel
theorem two_bas : basE twoL = 0 := by decide +kernel
theorem two_basL : basL twoL = [0, 3] := by decide +kernel


end Go.Proofs.YthpkekpojhmaaaaGreatDoor

namespace Go.Proofs.YthpkekpojhmaaaaGreatDoor
open Go.RowKit

theorem link_two {A : Option Addr} {ca : Nat} {q : Nat → Pl} {w : World} (L : ProgL) (h : ObsIn w A q twoL) : Calls Tryz.prog 8 #[.slice A 2 ca, .string nmM, .int .i64 4] w fun e w' => ∃ (A1 A2 : Option Addr) (c1 c2 : Nat), e = .returned (.tuple #[.agg #[.slice A1 6 c1, .int .i64 0, .slice A2 4 c2], .int .i64 0, .int .i64 0, .int .i64 0]) ∧ IntsAt w' A1 .u32 [2281701379, 2818572288, 0, 142606341, 2558001152, 0] ∧ IntsAt w' A2 .i64 [0, 7, 8, 0] ∧ Below w.heap.size w w' := by
  refine (L A ca q twoL nmM 4 w h (by decide)).mono ?_
  rintro e w' ⟨A1, A2, c1, c2, rfl, h1, h2, hb⟩
  rw [two_text] at h1 ⊢
  rw [two_mem] at h2 ⊢
  rw [two_lnk, two_ent]
  exact ⟨A1, A2, c1, c2, rfl, zrow_ints (l := [2281701379, 2818572288, 0, 142606341, 2558001152, 0]) h1, zrow_ints (l := [0, 7, 8, 0]) h2, hb⟩
theorem link_one {A : Option Addr} {ca : Nat} {q : Nat → Pl} {w : World} (L : ProgL) (h : ObsIn w A q twoL) : Calls Tryz.prog 8 #[.slice A 1 ca, .string nmM, .int .i64 4] w fun e w' => ∃ (A1 A2 : Option Addr) (n1 n2 c1 c2 : Nat) (N : Int), e = .returned (.tuple #[.agg #[.slice A1 n1 c1, .int .i64 N, .slice A2 n2 c2], .int .i64 40, .int .i64 0, .int .i64 0]) ∧ Below w.heap.size w w' := by
  refine (L A ca q oneL nmM 4 w (one_in h) (by decide)).mono ?_
  rintro e w' ⟨A1, A2, c1, c2, rfl, h1, h2, hb⟩
  rw [one_lnk]
  exact ⟨A1, A2, _, _, c1, c2, _, rfl, hb⟩
theorem bases_two {A : Option Addr} {ca : Nat} {q : Nat → Pl} {w : World} (B : ProgB) (h : ObsIn w A q twoL) : Calls Tryz.prog 10 #[.slice A 2 ca] w fun e w' => ∃ (P : Option Addr) (c : Nat), e = .returned (.tuple #[.slice P 2 c, .int .i64 0]) ∧ IntsAt w' P .i64 [0, 3] ∧ Below w.heap.size w w' := by
  refine (B A ca q twoL w h).mono ?_
  rintro e w' ⟨P, c, rfl, h1, hb⟩
  rw [two_basL] at h1 ⊢
  rw [two_bas]
  exact ⟨P, c, rfl, zrow_ints (l := [0, 3]) h1, hb⟩
theorem eqi_same {A B : Option Addr} {ca cb n : Nat} {zs : List Int} {w : World} (hn : zs.length = n) (hA : IntsAt w A .i64 zs) (hB : IntsAt w B .i64 zs) (hz : zs.length ≤ 1048576) : Calls Tryz.prog 12 #[.slice A n ca, .slice B n cb] w fun e w' => e = .returned (.bool true) ∧ Below w.heap.size w w' := by
  have h := eqints_any A B ca cb zs zs w hA hB hz
  rw [decide_eq_true rfl, hn] at h
  exact h
theorem eql_same {A B : Option Addr} {ca cb n : Nat} {zs : List Int} {w : World} (hn : zs.length = n) (hA : IntsAt w A .i64 zs) (hB : IntsAt w B .i64 zs) (hz : zs.length ≤ 1048576) : Calls Tryz.prog 34 #[.slice A n ca, .slice B n cb] w fun e w' => e = .returned (.bool true) ∧ Below w.heap.size w w' := by
  have h := eqlongs_any A B ca cb zs zs w hA hB hz
  rw [decide_eq_true rfl, hn] at h
  exact h
theorem eqw_same {A B : Option Addr} {ca cb n : Nat} {zs : List Int} {w : World} (hn : zs.length = n) (hA : IntsAt w A .u32 zs) (hB : IntsAt w B .u32 zs) (hz : zs.length ≤ 1048576) : Calls Tryz.prog 33 #[.slice A n ca, .slice B n cb] w fun e w' => e = .returned (.bool true) ∧ Below w.heap.size w w' := by
  have h := eqwords_any A B ca cb zs zs w hA hB hz
  rw [decide_eq_true rfl, hn] at h
  exact h
theorem block_ints {w : World} {B : Nat} {K : IntKind} {t : TypeId} {zs : List Int} (h : w.heap[B]? = some (.cells (zs.map (Value.int K)).toArray t (0, 0))) : IntsAt w (some ⟨B, 0, none⟩) K zs := fun i hi => by
  refine ⟨_, rfl, ?_⟩
  have := Lib.cell_of_heap h i
  rw [show ((⟨B, 0, none⟩ : Addr).add i) = ⟨B, i, none⟩ by simp [Addr.add]; exact fun h => h.symm]
  rw [this]
  simp [nth, List.getD_eq_getElem?_getD, List.getElem?_eq_getElem hi]
set_option maxHeartbeats 8000000 in
set_option maxRecDepth 100000 in
theorem lives_any (L : ProgL) (B : ProgB) (w : World) : Calls Tryz.prog 6 #[] w fun e w' => e = .returned (.bool true) ∧ Below w.heap.size w w' := by
  go_enter Tryz.func6, Tryz.ntmps6
  go_wp2_with fail
  refine (two_any _).mono ?_
  rintro e w1 ⟨a1, q1, rfl, hi1, hb1⟩
  have HB1 : Hid (Below w.heap.size w w1) := hb1
  have C1 := link_two (ca := 2) L hi1
  clear hb1 hi1
  go_wp2_with fail
  refine C1.mono ?_
  rintro e w2 ⟨T1, T2, c1, c2, rfl, ht, hm, hb2⟩
  have HB2 : Hid (Below w.heap.size w (w2.alloc (.cells #[.slice T1 6 c1, .int .i64 0, .slice T2 4 c2] 29))) := lb_alloc (lb_trans HB1.out hb2) _
  have HT : Hid (IntsAt (w2.alloc (.cells #[.slice T1 6 c1, .int .i64 0, .slice T2 4 c2] 29)) T1 .u32 [2281701379, 2818572288, 0, 142606341, 2558001152, 0]) := ht.keep (lb_alloc (Below.refl _ _) _)
  have HM : Hid (IntsAt (w2.alloc (.cells #[.slice T1 6 c1, .int .i64 0, .slice T2 4 c2] 29)) T2 .i64 [0, 7, 8, 0]) := hm.keep (lb_alloc (Below.refl _ _) _)
  have HX : Hid ((w2.alloc (.cells #[.slice T1 6 c1, .int .i64 0, .slice T2 4 c2] 29)).heap[w2.heap.size]? = some (.cells #[.slice T1 6 c1, .int .i64 0, .slice T2 4 c2] 29 (0, 0))) := heap_alloc_new _ _
  clear C1 hb2 ht hm HB1
  go_wp2_with fail
  refine (two_any _).mono ?_
  rintro e w3 ⟨a3, q3, rfl, hi3, hb3⟩
  have HK3 : Hid _ := hb3
  have C3 := link_one (ca := 2) L hi3
  clear hb3 hi3
  go_wp2_with fail
  refine C3.mono ?_
  rintro e w4 ⟨S1, S2, n1, n2, s1, s2, Nn, rfl, hb4⟩
  have HK4 : Hid _ := lb_alloc (lb_trans HK3.out hb4) (.cells #[.slice S1 n1 s1, .int .i64 Nn, .slice S2 n2 s2] 29)
  clear C3 hb4 HK3
  go_wp2_with fail
  refine (two_any _).mono ?_
  rintro e w5 ⟨a5, q5, rfl, hi5, hb5⟩
  have HK5 : Hid _ := lb_trans HK4.out hb5
  have C5 := bases_two (ca := 2) B hi5
  clear hb5 hi5 HK4
  go_wp2_with fail
  refine C5.mono ?_
  rintro e w6 ⟨P, cp, rfl, hp, hb6⟩
  have HK6 : Hid _ := lb_trans HK5.out hb6
  have C6 := eqi_same (ca := cp) (cb := 2) (n := 2) (zs := [0, 3]) rfl (hp.keep (lb_alloc (Below.refl _ _) (.cells #[.int .i64 0, .int .i64 3] 3))) (block_ints (w := w6.alloc (.cells #[.int .i64 0, .int .i64 3] 3)) (heap_alloc_new w6 (.cells #[.int .i64 0, .int .i64 3] 3))) (by decide)
  have HK6' : Hid _ := lb_alloc HK6.out (.cells #[.int .i64 0, .int .i64 3] 3)
  clear C5 hb6 hp HK5 HK6
  go_wp2_with fail
  refine C6.mono ?_
  rintro e w7 ⟨rfl, hb7⟩
  have HK7 : Hid _ := lb_trans HK6'.out hb7
  clear C6 hb7 HK6'
  obtain ⟨d0, d1, d2⟩ := zbox3_cell (lb_box HX.out HK7.out)
  have C8 := eqw_same (ca := c1) (cb := 6) (n := 6) (zs := [2281701379, 2818572288, 0, 142606341, 2558001152, 0]) rfl (HT.out.keep (lb_alloc HK7.out (.cells #[.int .u32 2281701379, .int .u32 2818572288, .int .u32 0, .int .u32 142606341, .int .u32 2558001152, .int .u32 0] 78))) (block_ints (heap_alloc_new w7 (.cells #[.int .u32 2281701379, .int .u32 2818572288, .int .u32 0, .int .u32 142606341, .int .u32 2558001152, .int .u32 0] 78))) (by decide)
  have HK7' : Hid _ := lb_alloc HK7.out (.cells #[.int .u32 2281701379, .int .u32 2818572288, .int .u32 0, .int .u32 142606341, .int .u32 2558001152, .int .u32 0] 78)
  clear HK7
  go_wp2_with fail
  refine C8.mono ?_
  rintro e w8 ⟨rfl, hb8⟩
  have HK8 : Hid _ := lb_trans HK7'.out hb8
  clear C8 hb8 HK7' d0 d1 d2
  obtain ⟨d0, d1, d2⟩ := zbox3_cell (lb_box HX.out HK8.out)
  have C9 := eql_same (ca := c2) (cb := 4) (n := 4) (zs := [0, 7, 8, 0]) rfl (HM.out.keep (lb_alloc HK8.out (.cells #[.int .i64 0, .int .i64 7, .int .i64 8, .int .i64 0] 2))) (block_ints (heap_alloc_new w8 (.cells #[.int .i64 0, .int .i64 7, .int .i64 8, .int .i64 0] 2))) (by decide)
  have HK8' : Hid _ := lb_alloc HK8.out (.cells #[.int .i64 0, .int .i64 7, .int .i64 8, .int .i64 0] 2)
  clear HK8
  go_wp2_with fail
  refine C9.mono ?_
  rintro e w9 ⟨rfl, hb9⟩
  have HB9 : Hid (Below w.heap.size w w9) := lb_trans HB2.out (lb_trans HK8'.out hb9)
  clear C9 hb9 HK8' d0 d1 d2
  go_wp2
  go_ret
  exact ⟨rfl, HB9.out⟩


end Go.Proofs.YthpkekpojhmaaaaGreatDoor

namespace Go.Proofs.YthpkekpojhmaaaaGreatDoor
open Go.RowKit

theorem at1_any (a b p : Int) (g : Nat) (w : World) (hc : w.cell? ⟨g, 0, none⟩ = some (.int .i64 p)) : Calls Tryz.prog 80 #[.agg #[.int .i64 a, .int .i64 b], .pointer (some ⟨g, 0, none⟩)] w fun e w' => e = .returned (.bool (a == p)) ∧ Below w.heap.size w w' := by
  have hc1 : (w.alloc (.cells #[.int .i64 a, .int .i64 b] 83)).cell? ⟨g, 0, none⟩ = some (.int .i64 p) := lkeep (lb_alloc (Below.refl _ _) _) hc
  go_enter Tryz.func80, Tryz.ntmps80
  go_wp2
  go_ret
  exact ⟨rfl, lb_alloc (Below.refl _ _) _⟩
set_option maxRecDepth 100000 in
set_option maxHeartbeats 1000000 in
theorem idxrel_any (A : Option Addr) (cp : Nat) (zs : List Rel) (p : Int) (g : Nat) (w : World) (hA : RelsAt w A zs) (hc : w.cell? ⟨g, 0, none⟩ = some (.int .i64 p)) (hz : zs.length ≤ 1048576) :
    Calls Tryz.prog 79 #[.slice A zs.length cp, .func (.func 80) #[] #[.pointer (some ⟨g, 0, none⟩)]] w fun e w' => e = .returned (.int .i64 (atR zs p)) ∧ Below w.heap.size w w' := by
  go_enter Tryz.func79, Tryz.ntmps79
  go_wp2
  go_loopw [8] (fun i wr => ∃ k : Nat, i = .int .i64 k ∧ k ≤ zs.length ∧ Below w.heap.size w wr ∧ Hid (atFrom (zs.drop k) p k = atR zs p)) (fun i _ => zs.length - (intOf i).toNat)
  case atStart => exact ⟨0, rfl, by omega, Below.refl _ _, rfl⟩
  case round =>
    obtain ⟨k, rfl, hk, hB, HT⟩ := hrel
    rename_i wr _
    have HB : Hid (Below w.heap.size w wr) := hB
    clear hB
    by_cases hlt : k < zs.length
    · obtain ⟨a, rfl, c0, c1'⟩ := (hA.keep HB.out) k hlt
      have d1 : wr.cell? ⟨(a.add (k * 2)).block, (a.add (k * 2)).off + 1, none⟩ = some (.int .i64 (rSym zs k)) := c1'
      clear c1'
      have hg := lkeep HB.out hc
      have C := at1_any (rAt zs k) (rSym zs k) p g wr hg
      cases he : (rAt zs k == p) with
      | false =>
        have HE : Hid _ := at_miss hlt he
        rw [he] at C
        clear he
        go_wp2_with (go_at_call 80; refine C.mono ?_; rintro e w2 ⟨rfl, hb2⟩)
        have HB2 : Hid (Below w.heap.size w _) := lb_trans HB.out (by assumption)
        go_roundw
        case rel => exact ⟨k + 1, by go_num, by omega, HB2.out, by rw [Hid, ← HE.out]; exact HT.out⟩
        case measure => simp [intOf]; omega
      | true =>
        have HE : Hid _ := at_hit hlt he
        rw [he] at C
        clear he
        go_wp2_with (go_at_call 80; refine C.mono ?_; rintro e w2 ⟨rfl, hb2⟩)
        have HB2 : Hid (Below w.heap.size w _) := lb_trans HB.out (by assumption)
        go_ret
        exact ⟨retI (by rw [← HT.out, HE.out]), HB2.out⟩
    · have HE : Hid _ := at_end (p := p) (by omega : zs.length ≤ k)
      go_wp2
      go_ret
      exact ⟨retI (by rw [← HT.out, HE.out]), HB.out⟩
theorem objat_any (nm : ByteArray) (dA : Int) (A1 A2 A4 A : Option Addr) (n1 c1 n2 c2 n4 c4 cp : Nat) (zs : List Rel) (s : Int) (w : World) (hA : RelsAt w A zs) (hz : zs.length ≤ 1048576) : Calls Tryz.prog 26 #[.agg #[.string nm, .slice A1 n1 c1, .int .i64 dA, .slice A2 n2 c2, .slice A4 n4 c4, .slice A zs.length cp], .int .i64 s] w fun e w' => e = .returned (.int .i64 (atR zs s)) ∧ Below w.heap.size w w' := by
  have hmf := mkFn
  go_enter Tryz.func26, Tryz.ntmps26
  go_wp2_with fail
  refine (idxrel_any A cp zs s _ _ (hA.keep ?bel) ?cel hz).mono ?_
  case bel => exact lb_alloc (lb_alloc (Below.refl _ _) _) _
  case cel => simp [go_sem]
  rintro e w1 ⟨rfl, hb⟩
  have HB : Hid (Below w.heap.size w w1) := lb_trans (lb_alloc (lb_alloc (Below.refl _ _) _) _) hb
  clear hb
  go_wp2
  go_ret
  exact ⟨rfl, HB.out⟩


end Go.Proofs.YthpkekpojhmaaaaGreatDoor

namespace Go.Proofs.YthpkekpojhmaaaaGreatDoor
open Go.RowKit

/-- All blocks but those of one type stay. -/
def QuietT (T : TypeId) (w w' : World) : Prop := ∀ (b : Nat) (cur : Array Value) (t : TypeId), w.heap[b]? = some (.cells cur t (0, 0)) → t ≠ T → w'.heap[b]? = w.heap[b]?
theorem QuietT.trans {T : TypeId} {w w1 w2 : World} (h : QuietT T w w1) (k : QuietT T w1 w2) : QuietT T w w2 := fun b cur t hb ht => by
  have e := h b cur t hb ht
  rw [k b cur t (by rw [e]; exact hb) ht, e]
theorem below_quiet {T : TypeId} {w w' : World} (h : Below w.heap.size w w') : QuietT T w w' := fun b _ _ hb _ => h.block b (Array.getElem?_eq_some_iff.1 hb).1
theorem own_quiet {T : TypeId} {w w' : World} {base : Nat} {e : TypeId} {size : Nat} {v : Value} {n : Nat} {xs : List Value} (h : w.ownsRow base e size v n xs) (he : e ≠ T) (hq : QuietT T w w') : w'.ownsRow base e size v n xs :=
  own_same h fun b hb => by
    obtain ⟨cur, hc⟩ := own_block h hb
    exact hq b cur e hc he
/-- An append to a row of the type leaves the others. -/
theorem grown_quiet {T : TypeId} {w w1 : World} {base size n : Nat} {V : Value} {xs : List Value} (o : Obj) (h : w.ownsRow base T size V n xs) (hg : (w.alloc o).grownBy w1 V.ownBlock) : QuietT T w w1 := fun b cur t hb ht => by
  have hlt := (Array.getElem?_eq_some_iff.1 hb).1
  rw [hg.block b (by simp; omega) (fun e => ?_), Below.heap_alloc w o b hlt]
  obtain ⟨c2, h2⟩ := own_block h (b := b) (by first | exact e | exact e.symm)
  rw [hb] at h2
  simp only [Option.some.injEq, Obj.cells.injEq] at h2
  exact ht h2.2.1
/-- The cells of objects. -/
def gCells (p : Pl) (o : Ob) : List Value := [.string o.nm, .slice p.A1 o.code.length p.c1, .int .i64 o.dA, .slice p.A2 o.data.length p.c2, .slice p.A3 o.ss.length p.c3, .slice p.A4 o.rs.length p.c4]
def gsCells (q : Nat → Pl) (l : List Ob) : Nat → List Value
  | 0 => []
  | k + 1 => gsCells q l k ++ gCells (q k) (ob l k)
theorem gsCells_len (q : Nat → Pl) (l : List Ob) : ∀ k, (gsCells q l k).length = k * 6
  | 0 => rfl
  | k + 1 => by rw [gsCells, List.length_append, gsCells_len q l k]; simp [gCells]; omega
theorem gsCells_get (q : Nat → Pl) (l : List Ob) : ∀ {k i j : Nat}, i < k → j < 6 → (gsCells q l k)[i * 6 + j]? = (gCells (q i) (ob l i))[j]?
  | 0, _, _, h, _ => by omega
  | k + 1, i, j, h, hj => by
    rw [gsCells]
    by_cases he : i = k
    · subst he
      rw [List.getElem?_append_right (by rw [gsCells_len]; omega), gsCells_len, show i * 6 + j - i * 6 = j by omega]
    · rw [List.getElem?_append_left (by rw [gsCells_len]; omega)]
      exact gsCells_get q l (by omega) hj
/-- Other places behind k do not matter. -/
theorem gsCells_upd {q q' : Nat → Pl} {l : List Ob} : ∀ {k : Nat}, (∀ i, i < k → q i = q' i) → gsCells q l k = gsCells q' l k
  | 0, _ => rfl
  | k + 1, h => by rw [gsCells, gsCells, gsCells_upd (k := k) (fun i hi => h i (by omega)), h k (by omega)]
def updQ (q : Nat → Pl) (k : Nat) (p : Pl) : Nat → Pl := fun i => if i = k then p else q i
theorem updQ_old {q : Nat → Pl} {k i : Nat} {p : Pl} (h : i < k) : updQ q k p i = q i := by unfold updQ; rw [if_neg (by omega)]
theorem updQ_new {q : Nat → Pl} {k : Nat} {p : Pl} : updQ q k p k = p := by unfold updQ; rw [if_pos rfl]
theorem gsCells_next (q : Nat → Pl) (l : List Ob) (k : Nat) (p : Pl) : gsCells (updQ q k p) l (k + 1) = gsCells q l k ++ gCells p (ob l k) := by
  rw [gsCells, updQ_new, gsCells_upd (q := updQ q k p) (q' := q) (fun i hi => updQ_old hi)]
theorem gr_obs {w : World} {base c : Nat} {A : Option Addr} {q : Nat → Pl} {l : List Ob} {T : TypeId} (h : w.ownsRow base T 6 (.slice A l.length c) l.length (gsCells q l l.length)) : ObsAt w A q l := fun i hi => by
  rcases h.2 with ⟨_, h0⟩ | ⟨j, cap, cur, hv, hb, hg, hc, _⟩
  · omega
  · cases hv
    have g := fun j hj => gsCells_get q l (k := l.length) (i := i) (j := j) hi hj
    have g0 := g 0 (by omega)
    rw [Nat.add_zero] at g0
    exact ⟨_, rfl, h.cells rfl _ _ g0, by rw [zadd_add]; exact h.cells rfl _ _ (g 1 (by omega)), by rw [zadd_add]; exact h.cells rfl _ _ (g 2 (by omega)), by rw [zadd_add]; exact h.cells rfl _ _ (g 3 (by omega)), by rw [zadd_add]; exact h.cells rfl _ _ (g 4 (by omega)), by rw [zadd_add]; exact h.cells rfl _ _ (g 5 (by omega))⟩
/-- Objects that were read so far: a list of its own, and of each what P says, which only blocks of other types may unmake. -/
structure Grown (T : TypeId) (P : World → Pl → Ob → Prop) (w : World) (base : Nat) (V : Value) (q : Nat → Pl) (l : List Ob) (k : Nat) : Prop where
  row : w.ownsRow base T 6 V k (gsCells q l k)
  each : ∀ i, i < k → P w (q i) (ob l i)
theorem Grown.start (T : TypeId) (P : World → Pl → Ob → Prop) (w : World) (base : Nat) (q : Nat → Pl) (l : List Ob) : Grown T P w base (.slice none 0 0) q l 0 :=
  ⟨World.ownsRow_nil _ _ _ _, fun i hi => by omega⟩
theorem Grown.keep {T : TypeId} {P : World → Pl → Ob → Prop} {w w' : World} {base : Nat} {V : Value} {q : Nat → Pl} {l : List Ob} {k : Nat} (h : Grown T P w base V q l k) (hP : ∀ w w' p o, P w p o → QuietT T w w' → P w' p o) (hb : Below w.heap.size w w') : Grown T P w' base V q l k :=
  ⟨zrow_keep h.row hb, fun i hi => hP _ _ _ _ (h.each i hi) (below_quiet hb)⟩
theorem Grown.next {T : TypeId} {P : World → Pl → Ob → Prop} {w w1 : World} {base : Nat} {V V1 : Value} {q : Nat → Pl} {l : List Ob} {k : Nat} {p : Pl} (h : Grown T P w base V q l k) (hP : ∀ w w' p o, P w p o → QuietT T w w' → P w' p o) (hp : P w p (ob l k)) (o : Obj) (hown : w1.ownsRow base T 6 V1 (k + 1) (gsCells q l k ++ gCells p (ob l k))) (hg : (w.alloc o).grownBy w1 V.ownBlock) : Grown T P w1 base V1 (updQ q k p) l (k + 1) := by
  have hq := grown_quiet o h.row hg
  refine ⟨by rw [gsCells_next]; exact hown, fun i hi => ?_⟩
  by_cases he : i = k
  · subst he
    rw [updQ_new]
    exact hP _ _ _ _ hp hq
  · rw [updQ_old (by omega)]
    exact hP _ _ _ _ (h.each i (by omega)) hq


end Go.Proofs.YthpkekpojhmaaaaGreatDoor

namespace Go.Proofs.YthpkekpojhmaaaaGreatDoor
open Go.RowKit

theorem own_none {w : World} {b n c : Nat} {e : TypeId} {sz : Nat} {A : Option Addr} {xs : List Value} (h : w.ownsRow b e sz (.slice A n c) n xs) : A = none → c = 0 := fun hA => by
  rcases h.2 with ⟨hv, _⟩ | ⟨g, cap, cur, hv, _⟩
  · cases hv; rfl
  · cases hv; cases hA
theorem copy_in {l : List Ob} {w w0 w' : World} {A : Option Addr} {q0 : Nat → Pl} {c : Nat} {A0 : Option Addr} {q : Nat → Pl} (h0 : ObsIn w0 A0 q0 l) (ho : w'.ownsRow w.heap.size 75 6 (.slice A l.length c) l.length (oN l q l.length)) (hw : ∀ i, i < l.length → OwnO w' w.heap.size (q i) (ob l i)) : ObsIn w' A q l := ⟨oN_at ho, fun i hi => (hw i hi).inn (h0.each i hi), h0.few⟩
/-- A copy of an object, which can be copied again. -/
theorem copyob2_any (o : Ob) (p : Pl) (w : World) (h : ObIn w p o) (h0 : NoneO p) :
    Calls Tryz.prog 24 #[.agg #[.string o.nm, .slice p.A1 o.code.length p.c1, .int .i64 o.dA, .slice p.A2 o.data.length p.c2, .slice p.A3 o.ss.length p.c3, .slice p.A4 o.rs.length p.c4]] w fun e w' => ∃ p' : Pl, e = .returned (.agg #[.string o.nm, .slice p'.A1 o.code.length p'.c1, .int .i64 o.dA, .slice p'.A2 o.data.length p'.c2, .slice p'.A3 o.ss.length p'.c3, .slice p'.A4 o.rs.length p'.c4]) ∧ Below w.heap.size w w' ∧ ObIn w' p' o ∧ NoneO p' := by
  refine (copyobj_any o.nm o.dA p.A1 p.A2 p.A3 p.A4 p.c1 p.c2 p.c3 p.c4 o.code o.data o.ss o.rs w h.cd h.dt h.sy h.rl h0.1 h0.2.1 h0.2.2.1 h0.2.2.2 h.hc h.hd h.hs h.hl).mono ?_
  rintro e w' ⟨O1, O2, O3, O4, k1, k2, k3, k4, rfl, hb, r1, r2, r3, r4⟩
  obtain ⟨_, c, e4, h4⟩ := own_any r4
  refine ⟨⟨O1, O2, O3, O4, k1, k2, k3, k4⟩, rfl, hb, ⟨nrow_ints r1, nrow_ints r2, nrow_syms r3, nrow_rels r4, h.cr, h.dr, h.da, h.hc, h.hd, h.hs, h.hl, h.hN, ?_⟩, own_none r1, own_none r2, own_none r3, own_none r4⟩
  cases e4
  exact h4
theorem lnk_nz {l : List Ob} {nm : ByteArray} {mem : Int} {x : Int × Int × Int} (h : lnkE l nm mem = some x) : ¬ x.1 = 0 := by
  unfold lnkE at h
  split at h
  · cases h; simp
  · split at h
    · rename_i y hy
      cases h
      exact res_none hy
    · split at h
      · cases h; simp
      · split at h
        · cases h; simp
        · exact dat_err h
/-- The image that was linked. -/
structure Made (l : List Ob) (x : Nat × Int) (m : Nat) (T M : Option Addr) (cT cM : Nat) (ds : List Int) (W : World) : Prop where
  t : IntsAt W T .u32 (textF l l.length)
  m : IntsAt W M .i64 ds
  nt : T = none → cT = 0
  nm : M = none → cM = 0
theorem Made.keep {l : List Ob} {x : Nat × Int} {m : Nat} {T M : Option Addr} {cT cM : Nat} {ds : List Int} {W W' : World} (h : Made l x m T M cT cM ds W) (hb : Below W.heap.size W W') : Made l x m T M cT cM ds W' := ⟨h.t.keep hb, h.m.keep hb, h.nt, h.nm⟩
theorem link_ok {l : List Ob} {nm : ByteArray} {m : Nat} {x : Nat × Int} {w w' : World} {e : Ending} (hE : lnkE l nm (m : Int) = none) (hL : Lnk l nm (m : Int) x) (h : LnkP l nm (m : Int) w e w') : ∃ (T M : Option Addr) (cT cM : Nat), e = .returned (.tuple #[.agg #[.slice T (bsF l l.length) cT, .int .i64 ((bsF l x.1 : Int) + x.2), .slice M m cM], .int .i64 0, .int .i64 0, .int .i64 0]) ∧ Made l x m T M cT cM (datL l m) w' ∧ Below w.heap.size w w' := by
  obtain ⟨T, M, cT, cM, e1, r1, r2, hb⟩ := h
  have hm : lnkM l nm (m : Int) = datL l m := by unfold lnkM; rw [hE]; rfl
  have hl : (datL l m).length = m := by simp [datL]
  rw [Lnk.lnkT hE] at e1 r1
  rw [hm] at e1 r2
  rw [Lnk.lnkN hE hL.found, hE, textF_len, hl] at e1
  exact ⟨T, M, cT, cM, e1, ⟨own_intsV r1, own_intsV r2, own_none r1, own_none r2⟩, hb⟩
/-- CopyImage, then Check: nothing is refused. -/
theorem chk_ok {l : List Ob} {nm : ByteArray} {m : Nat} {x : Nat × Int} {T M : Option Addr} {cT cM : Nat} {w : World} (hL : Lnk l nm (m : Int) x) (hM : Made l x m T M cT cM (datL l m) w) :
    Calls Tryz.prog 21 #[.agg #[.slice T (bsF l l.length) cT, .int .i64 ((bsF l x.1 : Int) + x.2), .slice M m cM]] w fun e w' => ∃ (T' M' : Option Addr) (cT' cM' : Nat), e = .returned (.agg #[.slice T' (bsF l l.length) cT', .int .i64 ((bsF l x.1 : Int) + x.2), .slice M' m cM']) ∧ Below w.heap.size w w' ∧ IntsAt w' T' .u32 (textF l l.length) := by
  have hl : (datL l m).length = m := by simp [datL]
  have hs := hL.short
  have h1 := hL.m1
  have C := copyimg_any T M cT cM (textF l l.length) (datL l m) ((bsF l x.1 : Int) + x.2) w hM.t hM.m hM.nt hM.nm (by rw [textF_len]; omega) (by rw [hl]; omega)
  rw [textF_len, hl] at C
  refine C.mono ?_
  rintro e w' ⟨T', M', k1, k2, rfl, r, hb⟩
  exact ⟨T', M', k1, k2, by rw [textF_len, hl], hb, zrow_ints r.r1⟩
theorem may_ok {l : List Ob} {nm : ByteArray} {m : Nat} {x : Nat × Int} {T M : Option Addr} {cT cM : Nat} {w : World} (hL : Lnk l nm (m : Int) x) (hT : IntsAt w T .u32 (textF l l.length)) (hc : ∀ i, i < l.length → ∀ k, k < (ob l i).code.length → 0 ≤ nth (ob l i).code k ∧ nth (ob l i).code k < 4294967296) :
    Calls Tryz.prog 20 #[.agg #[.slice T (bsF l l.length) cT, .int .i64 ((bsF l x.1 : Int) + x.2), .slice M m cM]] w fun e w' => e = .returned (.tuple #[.int .i64 0, .int .i64 0]) ∧ Below w.heap.size w w' := by
  have hs := hL.short
  have h1 := hL.m1
  have C := icheck_any T M cT m cM ((bsF l x.1 : Int) + x.2) (textF l l.length) w hT (text_range hc) (by rw [textF_len]; omega) (by omega)
  have e := may_zero hL.may
  rw [Int.toNat_natCast] at e
  rw [e, textF_len] at C
  exact C
/-- Bases tells all bases. -/
theorem bas_all {l : List Ob} {nm : ByteArray} {mem : Int} {x : Nat × Int} {w w' : World} {e : Ending} (hL : Lnk l nm mem x) (h : BasP l w e w') : ∃ (B : Option Addr) (c : Nat), e = .returned (.tuple #[.slice B l.length c, .int .i64 0]) ∧ IntsAt w' B .i64 (basT l l.length) ∧ Below w.heap.size w w' := by
  obtain ⟨B, c, e1, r, hb⟩ := h
  obtain ⟨h0, h1⟩ := bas_none (by have := hL.res.few; omega) hL.near
  rw [h1, basT_len] at e1 r
  rw [h0] at e1
  exact ⟨B, c, e1, own_intsV r, hb⟩
/-- Resolve tells all places. -/
theorem res_all {l : List Ob} {nm : ByteArray} {mem : Int} {x : Nat × Int} {w w' : World} {e : Ending} {TS TD : TypeId} (hE : lnkE l nm mem = none) (_hL : Lnk l nm mem x) (h : ResP TS TD l w e w') : ∃ (D : Option Addr) (c : Nat), e = .returned (.tuple #[.slice D l.length c, .int .i64 0, .int .i64 0, .int .i64 0]) ∧ RowsAt w' D (rowsT l l.length) ∧ Below w.heap.size w w' := by
  have hr : resE l = none := by
    unfold lnkE at hE
    split at hE
    · cases hE
    · split at hE
      · cases hE
      · assumption
  obtain ⟨D, c, vs, e1, r, hb⟩ := h
  have hl : resL l = rowsT l l.length := by unfold resL; rw [hr]
  rw [hl, rowsT_len] at e1 r
  rw [hr] at e1
  exact ⟨D, c, e1, rows_at r, hb⟩
theorem fnd_all {l : List Ob} {nm : ByteArray} {mem : Int} {x : Nat × Int} {w w' : World} {e : Ending} (hL : Lnk l nm mem x) (h : DefP (findF nm l) w e w') : e = .returned (.tuple #[.agg #[.int .i64 (x.1 : Int), .int .i64 x.2], .bool true]) ∧ Below w.heap.size w w' := by
  rw [hL.found] at h
  exact h

end Go.Proofs.YthpkekpojhmaaaaGreatDoor

namespace Go.Proofs.YthpkekpojhmaaaaGreatDoor
open Go.RowKit

theorem nat_up (j : Nat) : Value.int .i64 ((j : Int) + 1) = .int .i64 ((j + 1 : Nat) : Int) := by rw [Int.natCast_succ]
theorem meas_up {n j : Nat} (h : j < n) : n - (intOf (.int .i64 ((j : Int) + 1))).toNat < n - (intOf (.int .i64 (j : Int))).toNat := by
  simp [intOf]
  omega
theorem atR_ge (rs : List Rel) (p : Int) : -1 ≤ atR rs p := by
  by_cases h : 0 ≤ atR rs p
  · omega
  · unfold atR at h ⊢
    have key : ∀ (l : List Rel) (k : Nat), -1 ≤ atFrom l p k := by
      intro l
      induction l with
      | nil => intro k; simp [atFrom]
      | cons a l ih =>
        intro k
        unfold atFrom
        split
        · omega
        · exact ih (k + 1)
    exact key rs 0
theorem one_g {p : Pl} {o : Ob} : ∀ u ∈ gCells p o, u.oneCell' = true := fun u hu => by
  simp only [gCells, List.mem_cons, List.not_mem_nil, or_false] at hu
  rcases hu with rfl | rfl | rfl | rfl | rfl | rfl <;> rfl
/-- An object that was read: memory of its own. -/
def ReadO (b : Nat) (w : World) (p : Pl) (o : Ob) : Prop := RowsO w b p.A1 p.A2 p.A3 p.A4 p.c1 p.c2 p.c3 p.c4 o.code o.data o.ss o.rs
theorem readO_quiet {b : Nat} (w w' : World) (p : Pl) (o : Ob) (h : ReadO b w p o) (hq : QuietT 75 w w') : ReadO b w' p o := ⟨own_quiet h.r1 (by decide) hq, own_quiet h.r2 (by decide) hq, own_quiet h.r3 (by decide) hq, own_quiet h.r4 (by decide) hq⟩
theorem readO_in {b : Nat} {w w0 : World} {p p0 : Pl} {o : Ob} (h : ReadO b w p o) (h0 : ObIn w0 p0 o) : ObIn w p o := by
  obtain ⟨_, c, e4, h4⟩ := own_any h.r4
  refine ⟨row_ints h.r1, row_ints h.r2, row_syms h.r3, row_rels h.r4, h0.cr, h0.dr, h0.da, h0.hc, h0.hd, h0.hs, h0.hl, h0.hN, ?_⟩
  cases e4
  exact h4
theorem grown_in {b : Nat} {w w0 : World} {A A0 : Option Addr} {c : Nat} {q q0 : Nat → Pl} {l : List Ob} (h : Grown 75 (ReadO b) w b (.slice A l.length c) q l l.length) (h0 : ObsIn w0 A0 q0 l) : ObsIn w A q l := ⟨gr_obs h.row, fun i hi => readO_in (h.each i hi) (h0.each i hi), h0.few⟩
theorem info75 : ∃ i, Tryz.prog.info? 75 = some i ∧ i.zero = some (.agg #[.string ⟨#[]⟩, .slice none 0 0, .int .i64 0, .slice none 0 0, .slice none 0 0, .slice none 0 0]) ∧ i.size = 6 ∧ i.bytes = 120 :=
  ⟨(Tryz.prog.info? 75).get (by kernel_rfl), by kernel_rfl, by kernel_rfl, by kernel_rfl, by kernel_rfl⟩
theorem copy6 {w : World} {B : Nat} {p : Pl} {o : Ob} (h : CopyAt w B p o) : w.cell? ⟨B, 0, none⟩ = some (.string o.nm) ∧ w.cell? ⟨B, 1, none⟩ = some (.slice p.A1 o.code.length p.c1) ∧ w.cell? ⟨B, 2, none⟩ = some (.int .i64 o.dA) ∧ w.cell? ⟨B, 3, none⟩ = some (.slice p.A2 o.data.length p.c2) ∧ w.cell? ⟨B, 4, none⟩ = some (.slice p.A3 o.ss.length p.c3) ∧ w.cell? ⟨B, 5, none⟩ = some (.slice p.A4 o.rs.length p.c4) := by
  refine ⟨?_, ?_, ?_, ?_, ?_, ?_⟩ <;> simp [World.cell?, show w.heap[B]? = _ from h]
theorem CopyAt.keep {w w1 : World} {B : Nat} {p : Pl} {o : Ob} (h : CopyAt w B p o) (hb : Below w.heap.size w w1) : CopyAt w1 B p o := (hb.block _ (Array.getElem?_eq_some_iff.1 h).1).trans h
theorem grown_form {T : TypeId} {P : World → Pl → Ob → Prop} {w : World} {b : Nat} {V : Value} {q : Nat → Pl} {l : List Ob} {k : Nat} (h : Grown T P w b V q l k) : ∃ (O : Option Addr) (c : Nat), V = .slice O k c := by
  obtain ⟨O, c, e, -⟩ := own_any h.row
  exact ⟨O, c, e⟩

end Go.Proofs.YthpkekpojhmaaaaGreatDoor

namespace Go.Proofs.YthpkekpojhmaaaaGreatDoor
open Go.RowKit

theorem read_step {w5 w w1 : World} {O : Option Addr} {c : Nat} {v : Value} {q : Nat → Pl} {l : List Ob} {k : Nat} {p : Pl} (h : Grown 75 (ReadO w5.heap.size) w w5.heap.size (.slice O k c) q l k) (hp : ReadO w5.heap.size w p (ob l k)) (hK : Below w5.heap.size w5 w) (o : Obj) (hown : w1.ownsRow w5.heap.size 75 6 v (k + 1) (gsCells q l k ++ gCells p (ob l k))) (hg : (w.alloc o).grownBy w1 (Value.slice O k c).ownBlock) :
    ∃ (gv cv : Nat), v = .slice (some ⟨gv, 0, none⟩) (k + 1) cv ∧ Hid (Grown 75 (ReadO w5.heap.size) w1 w5.heap.size (.slice (some ⟨gv, 0, none⟩) (k + 1) cv) (updQ q k p) l (k + 1)) ∧ Hid (Below w5.heap.size w5 w1) := by
  obtain ⟨gv, cv, rfl⟩ := ownsRow_succ hown
  exact ⟨gv, cv, rfl, h.next readO_quiet hp o hown hg, (lb_alloc hK _).grown hg (by have := hK.size; simp; omega) (fun b hb => ((h.row.alloc o).lt b hb).1)⟩

end Go.Proofs.YthpkekpojhmaaaaGreatDoor
