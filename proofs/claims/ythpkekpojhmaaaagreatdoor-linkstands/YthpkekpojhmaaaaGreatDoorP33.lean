/-
  Rows that are made and then written, one place after the other. resolveAll: what each symbol stands for. askObjects: the objects may be, and no two have one name. What the program's Resolve and Find are to be shown.
-/
import Derived.Test.YthpkekpojhmaaaaGreatDoorProg
import Derived.WalkKit
import Derived.WalkSpells
import Derived.WalkLawsBesides
import Derived.RowKit3
import Derived.Below
import Derived.Deep.QuietTactic
import Derived.BigQuiet
import Derived.WalkSmall
import Derived.Laws.Rows
import Derived.Test.YthpkekpojhmaaaaGreatDoorP30
import Derived.Test.YthpkekpojhmaaaaGreatDoorP16
import Derived.Test.YthpkekpojhmaaaaGreatDoorP32
import Derived.Deep.RegionWith
import Derived.Deep.RegionHeld3
import Derived.Test.YthpkekpojhmaaaaGreatDoorP15
import Derived.Test.YthpkekpojhmaaaaGreatDoorP31
import Derived.Test.YthpkekpojhmaaaaGreatDoorP21
namespace Go.Proofs.YthpkekpojhmaaaaGreatDoor
open Go.RowKit

open Go.Maps Go.WideMaps
/-- A row of N cells, its first ones written. -/
def fillA (xs : List Value) (z : Value) (N : Nat) : Array Value := (xs ++ List.replicate (N - xs.length) z).toArray
theorem fill_size {xs : List Value} {z : Value} {N : Nat} (h : xs.length ≤ N) : (fillA xs z N).size = N := by
  simp [fillA]; omega
theorem fill_set {xs : List Value} {z : Value} {N : Nat} (h : xs.length < N) (v : Value) : (fillA xs z N).setIfInBounds xs.length v = fillA (xs ++ [v]) z N := by
  unfold fillA
  obtain ⟨m, hm⟩ : ∃ m, N - xs.length = m + 1 := ⟨N - xs.length - 1, by omega⟩
  rw [hm, show N - (xs ++ [v]).length = m by simp; omega, List.replicate_succ]
  simp
theorem fill_at {xs : List Value} {z : Value} {N i : Nat} (h : i < xs.length) : (fillA xs z N)[i]? = xs[i]? := by
  simp [fillA, List.getElem?_append_left h]
theorem fill_z {xs : List Value} {z : Value} {N i : Nat} (h : xs.length ≤ i) (hi : i < N) : (fillA xs z N)[i]? = some z := by
  simp [fillA, List.getElem?_append_right h, List.getElem?_replicate]
  omega
theorem fill_all {xs : List Value} {z : Value} {N : Nat} (h : xs.length = N) : (fillA xs z N).toList = xs := by
  simp [fillA, h]
theorem made_one (N : Nat) (z : Value) : madeCells #[z] N = fillA [] z N := by
  apply Array.ext_getElem?
  intro i
  by_cases hi : i < N
  · rw [fill_z (Nat.zero_le _) hi]
    simp [madeCells, hi, Nat.mod_one]
  · rw [Array.getElem?_eq_none (by simp [madeCells]; omega), Array.getElem?_eq_none (by rw [fill_size (Nat.zero_le _)]; omega)]
theorem made_two (N : Nat) : madeCells #[.int .i64 0, .int .i64 0] N = fillA [] (.int .i64 0) N := by
  apply Array.ext_getElem?
  intro i
  by_cases hi : i < N
  · rw [fill_z (Nat.zero_le _) hi]
    have h : i % 2 = 0 ∨ i % 2 = 1 := by omega
    rcases h with h | h <;> simp [madeCells, hi, h]
  · rw [Array.getElem?_eq_none (by simp [madeCells]; omega), Array.getElem?_eq_none (by rw [fill_size (Nat.zero_le _)]; omega)]
theorem info41 : ∃ i, Tryz.prog.info? 77 = some i ∧ i.zero = some (.slice none 0 0) ∧ i.size = 1 ∧ i.bytes = 24 :=
  ⟨(Tryz.prog.info? 77).get (by kernel_rfl), by kernel_rfl, by kernel_rfl, by kernel_rfl, by kernel_rfl⟩
theorem info34 : ∃ i, Tryz.prog.info? 69 = some i ∧ i.zero = some (.agg #[.int .i64 0, .int .i64 0]) ∧ i.size = 2 ∧ i.bytes = 16 :=
  ⟨(Tryz.prog.info? 69).get (by kernel_rfl), by kernel_rfl, by kernel_rfl, by kernel_rfl, by kernel_rfl⟩
theorem make26 (n : Nat) (hn : n ≤ 64) (w : World) : (Instr.makeSlice 65 (.int .i64 n) (.int .i64 n)).run Tryz.prog w = .ok (.slice (some ⟨w.heap.size, 0, none⟩) n n) (w.alloc (.cells (fillA [] (.slice none 0 0) n) 77)) := by
  obtain ⟨i, hi, hz, hs, hb⟩ := info41
  have h := run_makeSlice (P := Tryz.prog) w 65 77 i _ Tryz.underlying65 hi hz .i64 .i64 n n (by omega) (by omega) (by rw [hs]; omega) (by rw [hb]; omega) (by omega)
  rw [hs, show ((n : Int)).toNat = n by omega, Nat.mul_one] at h
  rw [h, ← made_one n]
  rfl
theorem make41 (n : Nat) (hn : n ≤ 1048576) (w : World) : (Instr.makeSlice 77 (.int .i64 n) (.int .i64 n)).run Tryz.prog w = .ok (.slice (some ⟨w.heap.size, 0, none⟩) n n) (w.alloc (.cells (fillA [] (.int .i64 0) (n * 2)) 69)) := by
  obtain ⟨i, hi, hz, hs, hb⟩ := info34
  have h := run_makeSlice (P := Tryz.prog) w 77 69 i _ Tryz.underlying77 hi hz .i64 .i64 n n (by omega) (by omega) (by rw [hs]; omega) (by rw [hb]; omega) (by omega)
  rw [hs, show ((n : Int)).toNat = n by omega] at h
  rw [h, ← made_two (n * 2)]
  rfl
theorem cell_of {w : World} {g p : Nat} {cur : Array Value} {t : TypeId} {u : Value} (h : w.heap[g]? = some (.cells cur t (0, 0))) (hp : cur[p]? = some u) : w.cell? ⟨g, p, none⟩ = some u := by
  simp [World.cell?, h, hp]
theorem froz_of {w : World} {g p : Nat} {cur : Array Value} {t : TypeId} (h : w.heap[g]? = some (.cells cur t (0, 0))) : w.frozen? ⟨g, p, none⟩ = false := by
  simp [World.frozen?, h]
theorem blk_keep {w w1 : World} {g : Nat} {o : Obj} (h : w.heap[g]? = some o) (hb : Below w.heap.size w w1) : w1.heap[g]? = some o := by
  rw [hb.block g (Array.getElem?_eq_some_iff.1 h).1]; exact h
theorem blk_set {w : World} {g k : Nat} {o : Obj} {b : Nat} (h : w.heap[g]? = some o) (hb : g ≠ b) (u : Value) : (w.setCell ⟨b, k, none⟩ u).heap[g]? = some o := by
  rw [Below.heap_setCell _ _ _ _ hb]; exact h
theorem grown_set (w : World) (g k : Nat) (u : Value) : w.grownBy (w.setCell ⟨g, k, none⟩ u) (some g) := ⟨rfl, rfl, rfl, by simp [World.setCell], fun i _ hi => Below.heap_setCell _ _ _ _ (fun e => hi (by rw [e]))⟩
/-- The rows of the first k objects are written. -/
structure Fil (w : World) (B g : Nat) (l : List Ob) (k : Nat) (vs : List Value) : Prop where
  box : w.heap[B]? = some (.cells #[F0, F1 g, F1 g, F1 g] 127 (0, 0))
  len : vs.length = k
  bag : w.heap[B + 1]? = some (.cells (fillA vs (.slice none 0 0) l.length) 77 (0, 0))
  row : ∀ i, i < k → w.ownsRow B 69 2 (vn vs i) (ob l i).ss.length (dNews (rowT l i (ob l i).ss.length))
/-- .. and the first j places of the next. -/
structure RowF (w : World) (B g : Nat) (l : List Ob) (k j h : Nat) (vs : List Value) : Prop where
  box : w.heap[B]? = some (.cells #[F0, F1 g, F1 g, F1 g] 127 (0, 0))
  len : vs.length = k
  bag : w.heap[B + 1]? = some (.cells (fillA (vs ++ [.slice (some ⟨h, 0, none⟩) (ob l k).ss.length (ob l k).ss.length]) (.slice none 0 0) l.length) 77 (0, 0))
  row : ∀ i, i < k → w.ownsRow B 69 2 (vn vs i) (ob l i).ss.length (dNews (rowT l i (ob l i).ss.length))
  far : ∀ i, i < k → (vn vs i).ownBlock ≠ some h
  hB : B + 1 < h
  cur : w.heap[h]? = some (.cells (fillA (dNews (rowT l k j)) (.int .i64 0) ((ob l k).ss.length * 2)) 69 (0, 0))
theorem Fil.keep {w w1 : World} {B g k : Nat} {l : List Ob} {vs : List Value} (h : Fil w B g l k vs) (hb : Below w.heap.size w w1) : Fil w1 B g l k vs := ⟨blk_keep h.box hb, h.len, blk_keep h.bag hb, fun i hi => own_keep (h.row i hi) hb⟩
theorem RowF.keep {w w1 : World} {B g k j h : Nat} {l : List Ob} {vs : List Value} (H : RowF w B g l k j h vs) (hb : Below w.heap.size w w1) : RowF w1 B g l k j h vs := ⟨blk_keep H.box hb, H.len, blk_keep H.bag hb, fun i hi => own_keep (H.row i hi) hb, H.far, H.hB, blk_keep H.cur hb⟩
theorem dNews_len : ∀ l : List Rel, (dNews l).length = l.length * 2
  | [] => rfl
  | x :: l => by rw [dNews, List.length_cons, List.length_cons, dNews_len l, List.length_cons]; omega
theorem rowD_len (l : List Ob) (i j : Nat) : (dNews (rowT l i j)).length = j * 2 := by rw [dNews_len, rowT_len]
theorem lt_of_blk {w : World} {g : Nat} {o : Obj} (h : w.heap[g]? = some o) : g < w.heap.size := (Array.getElem?_eq_some_iff.1 h).1
/-- A row is made and put in its place. -/
theorem Fil.start {w : World} {B g k : Nat} {l : List Ob} {vs : List Value} (h : Fil w B g l k vs) (hk : k < l.length) : RowF ((w.alloc (.cells (fillA [] (.int .i64 0) ((ob l k).ss.length * 2)) 69)).setCell ⟨B + 1, k, none⟩ (.slice (some ⟨w.heap.size, 0, none⟩) (ob l k).ss.length (ob l k).ss.length)) B g l k 0 w.heap.size vs := by
  have hb := lb_alloc (Below.refl w.heap.size w) (.cells (fillA [] (.int .i64 0) ((ob l k).ss.length * 2)) 69)
  have hB := lt_of_blk h.bag
  refine ⟨blk_set (blk_keep h.box hb) (by omega) _, h.len, ?_, fun i hi => ?_, fun i hi => ?_, by omega, ?_⟩
  · rw [set_rowM (blk_keep h.bag hb), ← h.len, fill_set (by rw [h.len]; exact hk)]
  · refine own_apart (own_keep (h.row i hi) hb) (grown_set _ _ _ _) fun b hb1 hb2 => ?_
    obtain ⟨cur, hc⟩ := own_block (own_keep (h.row i hi) hb) hb1
    cases hb2
    rw [blk_keep h.bag hb] at hc
    simp at hc
  · intro e
    have := (own_lt (h.row i hi) e)
    omega
  · refine blk_set ?_ (by omega) _
    have := heap_alloc_new w (.cells (fillA [] (.int .i64 0) ((ob l k).ss.length * 2)) 69)
    exact this
/-- One place is written. -/
theorem RowF.set {w : World} {B g k j h : Nat} {l : List Ob} {vs : List Value} (H : RowF w B g l k j h vs) (hj : j < (ob l k).ss.length) {x y : Int} (e : standS l k j = (x, y)) : RowF ((w.setCell ⟨h, j * 2, none⟩ (.int .i64 x)).setCell ⟨h, j * 2 + 1, none⟩ (.int .i64 y)) B g l k (j + 1) h vs := by
  have hB := H.hB
  refine ⟨blk_set (blk_set H.box (by omega) _) (by omega) _, H.len, blk_set (blk_set H.bag (by omega) _) (by omega) _, fun i hi => ?_, H.far, H.hB, ?_⟩
  · have a : ∀ b, (vn vs i).ownBlock = some b → some h ≠ some b := fun b hb1 hb2 => H.far i hi (by rw [hb1]; exact hb2.symm)
    exact own_apart (own_apart (H.row i hi) (grown_set _ _ _ _) a) (grown_set _ _ _ _) a
  · rw [set_rowM (set_rowM H.cur _)]
    have e1 : (fillA (dNews (rowT l k j)) (.int .i64 0) ((ob l k).ss.length * 2)).setIfInBounds (j * 2) (.int .i64 x) = fillA (dNews (rowT l k j) ++ [.int .i64 x]) (.int .i64 0) ((ob l k).ss.length * 2) := by
      have := fill_set (xs := dNews (rowT l k j)) (z := .int .i64 0) (N := (ob l k).ss.length * 2) (by rw [rowD_len]; omega) (.int .i64 x)
      rwa [rowD_len] at this
    have e2 : (fillA (dNews (rowT l k j) ++ [.int .i64 x]) (.int .i64 0) ((ob l k).ss.length * 2)).setIfInBounds (j * 2 + 1) (.int .i64 y) = fillA (dNews (rowT l k j) ++ [.int .i64 x] ++ [.int .i64 y]) (.int .i64 0) ((ob l k).ss.length * 2) := by
      have := fill_set (xs := dNews (rowT l k j) ++ [.int .i64 x]) (z := .int .i64 0) (N := (ob l k).ss.length * 2) (by rw [List.length_append, rowD_len]; simp; omega) (.int .i64 y)
      rwa [List.length_append, rowD_len] at this
    rw [e1, e2, rowT_succ, dNews_snoc, e]
    simp
/-- A row is whole. -/
theorem RowF.done {w : World} {B g k h : Nat} {l : List Ob} {vs : List Value} (H : RowF w B g l k (ob l k).ss.length h vs) (hs : (ob l k).ss.length ≤ 1048576) : Fil w B g l (k + 1) (vs ++ [.slice (some ⟨h, 0, none⟩) (ob l k).ss.length (ob l k).ss.length]) := by
  refine ⟨H.box, by rw [List.length_append, H.len]; rfl, H.bag, fun i hi => ?_⟩
  by_cases hik : i < k
  · rw [vn_old _ _ _ (by rw [H.len]; exact hik)]
    exact H.row i hik
  · obtain rfl : i = vs.length := by rw [H.len]; omega
    rw [vn_last, H.len]
    have hB := H.hB
    refine ⟨rowD_len l k _, .inr ⟨h, (ob l k).ss.length, _, rfl, by omega, H.cur, Nat.le_refl _, by unfold maxLen; omega, ?_, ?_⟩⟩
    · rw [fill_size (by rw [rowD_len]; omega)]
    · rw [fill_all (rowD_len l k _), ← rowD_len l k _, List.take_length]
/-- All rows are whole. -/
theorem Fil.end {w : World} {B g : Nat} {l : List Ob} {vs : List Value} (h : Fil w B g l l.length vs) (hl : l.length ≤ 64) : RowsD w B 77 69 (.slice (some ⟨B + 1, 0, none⟩) l.length l.length) vs (rowsT l l.length) := by
  refine ⟨?_, fun i hi => ?_⟩
  · rw [rowsT_len]
    refine ⟨by rw [h.len, Nat.mul_one], .inr ⟨B + 1, l.length, _, rfl, by omega, h.bag, Nat.le_refl _, by unfold maxLen; omega, ?_, ?_⟩⟩
    · rw [fill_size (by rw [h.len]; exact Nat.le_refl _), Nat.mul_one]
    · rw [fill_all h.len, Nat.mul_one]
      rw [← h.len, List.take_length]
  · rw [rowsT_len] at hi
    rw [rowsT_at l hi, rowT_len]
    exact h.row i hi
/-- A symbol that is Global or Weak stands for something. -/
theorem find_own {l : List Ob} {i j : Nat} (hi : i < l.length) (hj : j < (ob l i).ss.length) (h : (sKind (ob l i).ss j == 1) = true ∨ (sKind (ob l i).ss j == 2) = true) : (findF (sName (ob l i).ss j) l).isSome = true := by
  have key : ∀ kd : Int, (sKind (ob l i).ss j == kd) = true → ∃ x, firstF (sName (ob l i).ss j) kd l l.length 0 = some x := fun kd hk => by
    have a := firstF_step (sName (ob l i).ss j) kd l hi hj
    rw [hitS_yes (by simp) hk] at a
    cases hf : firstF (sName (ob l i).ss j) kd l i j with
    | some x => rw [hf] at a; exact ⟨x, firstF_full hi (by omega) a⟩
    | none => rw [hf] at a; exact ⟨_, firstF_full hi (by omega) a⟩
  unfold findF
  rcases h with h | h
  · obtain ⟨x, e⟩ := key 1 h
    rw [e]; rfl
  · obtain ⟨x, e⟩ := key 2 h
    cases firstF (sName (ob l i).ss j) 1 l l.length 0 with
    | some y => rfl
    | none => rw [e]; rfl


end Go.Proofs.YthpkekpojhmaaaaGreatDoor

namespace Go.Proofs.YthpkekpojhmaaaaGreatDoor
open Go.RowKit

open Go.Maps Go.WideMaps
/-- An answer of resolveAll. -/
def AllP (l : List Ob) (w : World) (e : Ending) (w' : World) : Prop :=
  (∃ x, fstN (unO l) l.length = some x ∧ e = .returned (.tuple #[.slice none 0 0, .int .i64 x.1, .int .i64 x.2.1, .int .i64 x.2.2]) ∧ Below w.heap.size w w') ∨
  (fstN (unO l) l.length = none ∧ ∃ (O : Option Addr) (c : Nat) (vs : List Value), e = .returned (.tuple #[.slice O l.length c, .int .i64 0, .int .i64 0, .int .i64 0]) ∧ RowsD w' w.heap.size 77 69 (.slice O l.length c) vs (rowsT l l.length) ∧ Below w.heap.size w w')

set_option maxHeartbeats 8000000 in
set_option maxRecDepth 100000 in
theorem pall_any (A : Option Addr) (ca : Nat) (q : Nat → Pl) (l : List Ob) (b n g : Nat) (w : World) (hA : ObsIn w A q l) (hkn : Knows w b n (seenA l l.length 0)) (hc : w.cell? ⟨g, 0, none⟩ = some (.map (some b))) (hkd : ∀ i, i < l.length → ∀ j, j < (ob l i).ss.length → 0 ≤ sKind (ob l i).ss j ∧ sKind (ob l i).ss j ≤ 3) :
    Calls Tryz.prog 72 #[.slice A l.length ca, .agg #[F0, F1 g, F1 g, F1 g]] w (AllP l w) := by
  have hf := hA.few
  have hm1 := make26 l.length hf
  obtain ⟨w0, hw0⟩ : ∃ w0, w0 = (w.alloc (.cells #[F0, F1 g, F1 g, F1 g] 127)).alloc (.cells (fillA [] (.slice none 0 0) l.length) 77) := ⟨_, rfl⟩
  have HB0 : Hid (Below w.heap.size w w0) := by rw [Hid, hw0]; exact lb_alloc (lb_alloc (Below.refl _ _) _) _
  have HF0 : Hid (Fil w0 w.heap.size g l 0 []) := by
    rw [Hid, hw0]
    refine ⟨blk_keep (heap_alloc_new w _) (lb_alloc (Below.refl _ _) _), rfl, ?_, fun i hi => absurd hi (Nat.not_lt_zero _)⟩
    have := heap_alloc_new (w.alloc (.cells #[F0, F1 g, F1 g, F1 g] 127)) (.cells (fillA [] (.slice none 0 0) l.length) 77)
    simpa using this
  have HA : Hid (ObsIn w A q l) := hA
  have HKn : Hid (Knows w b n (seenA l l.length 0)) := hkn
  have HC : Hid (w.cell? ⟨g, 0, none⟩ = some (.map (some b))) := hc
  have HKd : Hid (∀ i, i < l.length → ∀ j, j < (ob l i).ss.length → 0 ≤ sKind (ob l i).ss j ∧ sKind (ob l i).ss j ≤ 3) := hkd
  clear hA hkn hc hkd
  go_enter Tryz.func72, Tryz.ntmps72
  go_wp2
  rw [← hw0]
  go_loopw [20] (fun i wr => ∃ (k : Nat) (vs : List Value), i = .int .i64 k ∧ k ≤ l.length ∧ Hid (Fil wr w.heap.size g l k vs) ∧ Hid (∀ i, i < k → unO l i = none) ∧ Hid (Below w.heap.size w wr)) (fun i _ => l.length - (intOf i).toNat)
  case atStart => exact ⟨0, [], rfl, Nat.zero_le _, HF0, fun i hi => absurd hi (Nat.not_lt_zero _), HB0⟩
  case round =>
    clear hm1
    obtain ⟨k, vs, rfl, hk, HF, HN, HB⟩ := hrel
    by_cases hkl : k < l.length
    · have hkl' : (k : Int) < (l.length : Int) := by omega
      obtain ⟨a, ea, x0, x1, x2, x3, x4, x5⟩ := HA.out.cells.six HB.out k hkl
      subst ea
      have hss := (HA.out.each k hkl).hs
      have hm2 := make41 (ob l k).ss.length hss
      obtain ⟨W, hW⟩ : ∃ W, W = wr.alloc (.cells #[.string (ob l k).nm, .slice (q k).A1 (ob l k).code.length (q k).c1, .int .i64 (ob l k).dA, .slice (q k).A2 (ob l k).data.length (q k).c2, .slice (q k).A3 (ob l k).ss.length (q k).c3, .slice (q k).A4 (ob l k).rs.length (q k).c4] 75) := ⟨_, rfl⟩
      have HFW : Hid (Fil W w.heap.size g l k vs) := by rw [Hid, hW]; exact HF.out.keep (lb_alloc (Below.refl _ _) _)
      have HBW : Hid (Below w.heap.size w W) := by rw [Hid, hW]; exact lb_alloc HB.out _
      have y0 : W.cell? ⟨wr.heap.size, 4, none⟩ = some (.slice (q k).A3 (ob l k).ss.length (q k).c3) := by rw [hW]; simp [go_sem]
      have HL : Hid (Below W.heap.size W (W.alloc (.cells (fillA [] (.int .i64 0) ((ob l k).ss.length * 2)) 69))) := lb_alloc (Below.refl _ _) _
      have HG : Hid ((W.alloc (.cells (fillA [] (.int .i64 0) ((ob l k).ss.length * 2)) 69)).heap[w.heap.size + 1]? = some (.cells (fillA vs (.slice none 0 0) l.length) 77 (0, 0))) := blk_keep HFW.out.bag HL.out
      have z0 : (W.alloc (.cells (fillA [] (.int .i64 0) ((ob l k).ss.length * 2)) 69)).cell? ⟨w.heap.size + 1, k, none⟩ = some (.slice none 0 0) := cell_of HG.out (fill_z (by rw [HFW.out.len]; exact Nat.le_refl _) hkl)
      have z1 : (W.alloc (.cells (fillA [] (.int .i64 0) ((ob l k).ss.length * 2)) 69)).frozen? ⟨w.heap.size + 1, k, none⟩ = false := froz_of HG.out
      obtain ⟨V, hV⟩ : ∃ V, V = (W.alloc (.cells (fillA [] (.int .i64 0) ((ob l k).ss.length * 2)) 69)).setCell ⟨w.heap.size + 1, k, none⟩ (.slice (some ⟨W.heap.size, 0, none⟩) (ob l k).ss.length (ob l k).ss.length) := ⟨_, rfl⟩
      have HFV : Hid (RowF V w.heap.size g l k 0 W.heap.size vs) := by rw [Hid, hV]; exact HFW.out.start hkl
      have HBV : Hid (Below w.heap.size w V) := by rw [Hid, hV]; exact (lb_alloc HBW.out _).setCell (Nat.le_succ _) _
      have y1 : V.cell? ⟨wr.heap.size, 4, none⟩ = some (.slice (q k).A3 (ob l k).ss.length (q k).c3) := by
        rw [hV]
        refine cell_grown (lkeep HL.out y0) (grown_set _ _ _ _) ?_
        have := lt_of_blk HF.out.bag
        show wr.heap.size ≠ w.heap.size + 1
        omega
      go_upto_region 5 with fail
      rw [← hW]
      have HW : Hid (W = _) := hW
      clear hW
      have HV : Hid (V = _) := hV
      clear hV
      go_upto_region 6 with fail
      rw [← HV.out]
      clear hm2 z0 z1 y0 HV HW x0 x1 x2 x3 x4 x5 HG HL
      go_wp2
      go_loopw [35] (fun i wr => ∃ (j : Nat), i = .int .i64 j ∧ j ≤ (ob l k).ss.length ∧ Hid (RowF wr w.heap.size g l k j W.heap.size vs) ∧ Hid (∀ m, m < j → unS l k m = none) ∧ Hid (Below w.heap.size w wr)) (fun i _ => (ob l k).ss.length - (intOf i).toNat)
      case atStart => exact ⟨0, rfl, Nat.zero_le _, HFV, fun i hi => absurd hi (Nat.not_lt_zero _), HBV⟩
      case round =>
        clear HF HFW HFV HB HBW HBV y1
        obtain ⟨j, rfl, hj, HF, HS, HB⟩ := hrel
        by_cases hjl : j < (ob l k).ss.length
        · have hjl' : (j : Int) < ((ob l k).ss.length : Int) := by omega
          obtain ⟨a3, e3, s0, s1, s2⟩ := (HA.out.each k hkl).sy j hjl
          have t0 := lkeep HB.out s0
          have t1 : wr.cell? ⟨(a3.add (j * 3)).block, (a3.add (j * 3)).off + 1, none⟩ = some (.int .i8 (sKind (ob l k).ss j)) := lkeep HB.out s1
          have t2 : wr.cell? ⟨(a3.add (j * 3)).block, (a3.add (j * 3)).off + 2, none⟩ = some (.int .i64 (sAt (ob l k).ss j)) := lkeep HB.out s2
          rw [e3]
          clear s0 s1 s2
          obtain ⟨kd, hkd⟩ : ∃ kd, kd = sKind (ob l k).ss j := ⟨_, rfl⟩
          have HKD : Hid (kd = sKind (ob l k).ss j) := hkd
          have hk03 := HKd.out k hkl j hjl
          rw [← hkd] at t1 hk03
          clear hkd
          by_cases hk0 : kd = 0
          · subst hk0
            clear hk03
            obtain ⟨W5, hW5⟩ : ∃ W5, W5 = wr.alloc (.cells #[.string (sName (ob l k).ss j), .int .i8 0, .int .i64 (sAt (ob l k).ss j)] 131) := ⟨_, rfl⟩
            have c0 : W5.cell? ⟨wr.heap.size, 0, none⟩ = some (.string (sName (ob l k).ss j)) := by rw [hW5]; simp [go_sem]
            have c1 : W5.cell? ⟨wr.heap.size, 1, none⟩ = some (.int .i8 0) := by rw [hW5]; simp [go_sem]
            have c2 : W5.cell? ⟨wr.heap.size, 2, none⟩ = some (.int .i64 (sAt (ob l k).ss j)) := by rw [hW5]; simp [go_sem]
            have cB : W5.cell? ⟨w.heap.size, 0, none⟩ = some (.func (.func 109) #[] #[]) := by rw [hW5]; exact lkeep (lb_alloc (Below.refl _ _) _) (cell_of HF.out.box rfl)
            have HBK : Hid (Below w.heap.size w W5) := by rw [Hid, hW5]; exact lb_alloc HB.out _
            have HF5 : Hid (RowF W5 w.heap.size g l k j W.heap.size vs) := by rw [Hid, hW5]; exact HF.out.keep (lb_alloc (Below.refl _ _) _)
            have hL := lb_alloc (Below.refl W5.heap.size W5) (.cells #[.int .i64 0, .int .i64 0] 69)
            have d0 := lkeep hL c0
            have d1 := lkeep hL c1
            have d2 := lkeep hL c2
            have dB := lkeep hL cB
            clear hL
            have C := fown_any k (sName (ob l k).ss j) 0 (sAt (ob l k).ss j)
            go_upto_region 9 with fail
            rw [← hW5]
            clear hW5 HF HB
            go_cut [13, 14] (fun x y wx => ∃ p, x = .pointer (some ⟨p, 0, none⟩) ∧ y = .bool true ∧ wx.cell? ⟨p, 0, none⟩ = some (.int .i64 k) ∧ wx.cell? ⟨p, 1, none⟩ = some (.int .i64 (sAt (ob l k).ss j)) ∧ Hid (Below W5.heap.size W5 wx))
            case first =>
              have hWW := Below.refl W5.heap.size W5
              go_region_held3 (fun W' => Below W5.heap.size W5 W' ∧ W'.cell? ⟨wr.heap.size, 0, none⟩ = some (.string (sName (ob l k).ss j)) ∧ W'.cell? ⟨wr.heap.size, 1, none⟩ = some (.int .i8 0) ∧ W'.cell? ⟨wr.heap.size, 2, none⟩ = some (.int .i64 (sAt (ob l k).ss j)) ∧ W'.cell? ⟨w.heap.size, 0, none⟩ = some (.func (.func 109) #[] #[]))
                (first | (refine ⟨?_, lkeep ?_ c0, lkeep ?_ c1, lkeep ?_ c2, lkeep ?_ cB⟩ <;> ((repeat (first | assumption | exact (‹Below _ _ _ ∧ _›).1 | apply Below.drew | apply lb_alloc)); done)))
                (first | (go_at_call 109; refine (C _).mono ?_; rintro e w1 ⟨rfl, rfl⟩))
              all_goals (go_wp2_with fail; go_meet; refine ⟨_, rfl, rfl, by simp [go_sem], by simp [go_sem], ?_⟩; unfold Hid; repeat (first | exact Below.refl _ _ | apply Below.drew | apply lb_alloc))
            case rest =>
              obtain ⟨p, rfl, rfl, p0, p1, HBc⟩ := hcut
              clear c0 c1 c2 cB d0 d1 d2 dB C
              have HFc : Hid (RowF wc w.heap.size g l k j W.heap.size vs) := HF5.out.keep HBc.out
              have HBw : Hid (Below w.heap.size w wc) := lb_trans HBK.out HBc.out
              have HUN : Hid (unS l k j = none) := unS_no (Or.inl (by rw [← HKD.out]; rfl))
              have HST : Hid (standS l k j = ((k : Int), sAt (ob l k).ss j)) := by unfold Hid standS; rw [← HKD.out]; rfl
              have b0 : wc.cell? ⟨w.heap.size + 1, k, none⟩ = some (.slice (some ⟨W.heap.size, 0, none⟩) (ob l k).ss.length (ob l k).ss.length) := cell_of HFc.out.bag (by rw [fill_at (by rw [List.length_append, HFc.out.len]; simp), ← HFc.out.len]; simp)
              have q0 : wc.cell? ⟨W.heap.size, j * 2, none⟩ = some (.int .i64 0) := cell_of HFc.out.cur (fill_z (by rw [rowD_len]; exact Nat.le_refl _) (by omega))
              have q1 : wc.cell? ⟨W.heap.size, j * 2 + 1, none⟩ = some (.int .i64 0) := cell_of HFc.out.cur (fill_z (by rw [rowD_len]; omega) (by omega))
              have q2 : wc.frozen? ⟨W.heap.size, j * 2, none⟩ = false := froz_of HFc.out.cur
              have q3 : wc.frozen? ⟨W.heap.size, j * 2 + 1, none⟩ = false := froz_of HFc.out.cur
              have HF6 : Hid (RowF ((wc.setCell ⟨W.heap.size, j * 2, none⟩ (.int .i64 k)).setCell ⟨W.heap.size, j * 2 + 1, none⟩ (.int .i64 (sAt (ob l k).ss j))) w.heap.size g l k (j + 1) W.heap.size vs) := HFc.out.set hjl HST.out
              have HB6 : Hid (Below w.heap.size w ((wc.setCell ⟨W.heap.size, j * 2, none⟩ (.int .i64 k)).setCell ⟨W.heap.size, j * 2 + 1, none⟩ (.int .i64 (sAt (ob l k).ss j)))) := (HBw.out.setCell (by have := HFc.out.hB; show w.heap.size ≤ W.heap.size; omega) _).setCell (by have := HFc.out.hB; show w.heap.size ≤ W.heap.size; omega) _
              have HS2 : Hid (∀ m, m < j + 1 → unS l k m = none) := fst_step HS.out HUN.out
              go_upto_region 12 with fail
              go_region_with (fail)
              all_goals (go_wp2_with fail; go_roundw; (case rel => exact ⟨j + 1, by go_num, by omega, RowF.keep HF6.out (by repeat (first | exact Below.refl _ _ | apply Below.drew)), HS2, lb_trans HB6.out (by repeat (first | exact Below.refl _ _ | apply Below.drew))⟩); (case measure => simp [intOf]; omega))
          · have hk1 : 0 ≤ kd := by omega
            have hk4 : kd < 4 := by omega
            have hbx : (#[F0, F1 g, F1 g, F1 g] : Array Value)[kd.toNat]? = some (F1 g) := by
              rcases (show kd = 1 ∨ kd = 2 ∨ kd = 3 by omega) with rfl | rfl | rfl <;> rfl
            obtain ⟨W5, hW5⟩ : ∃ W5, W5 = wr.alloc (.cells #[.string (sName (ob l k).ss j), .int .i8 kd, .int .i64 (sAt (ob l k).ss j)] 131) := ⟨_, rfl⟩
            have c0 : W5.cell? ⟨wr.heap.size, 0, none⟩ = some (.string (sName (ob l k).ss j)) := by rw [hW5]; simp [go_sem]
            have c1 : W5.cell? ⟨wr.heap.size, 1, none⟩ = some (.int .i8 kd) := by rw [hW5]; simp [go_sem]
            have c2 : W5.cell? ⟨wr.heap.size, 2, none⟩ = some (.int .i64 (sAt (ob l k).ss j)) := by rw [hW5]; simp [go_sem]
            have cB : W5.cell? ⟨w.heap.size, kd.toNat, none⟩ = some (.func (.func 110) #[] #[.pointer (some ⟨g, 0, none⟩)]) := by rw [hW5]; exact lkeep (lb_alloc (Below.refl _ _) _) (cell_of HF.out.box hbx)
            have HBK : Hid (Below w.heap.size w W5) := by rw [Hid, hW5]; exact lb_alloc HB.out _
            have HF5 : Hid (RowF W5 w.heap.size g l k j W.heap.size vs) := by rw [Hid, hW5]; exact HF.out.keep (lb_alloc (Below.refl _ _) _)
            have hL := lb_alloc (Below.refl W5.heap.size W5) (.cells #[.int .i64 0, .int .i64 0] 69)
            have d0 := lkeep hL c0
            have d1 := lkeep hL c1
            have d2 := lkeep hL c2
            have dB := lkeep hL cB
            clear hL
            have C : ∀ wx, Below w.heap.size w wx → _ := fun wx hx => fnamed_any k (sName (ob l k).ss j) kd (sAt (ob l k).ss j) b n g (seenA l l.length 0) wx (HKn.out.keep hx) ((HA.out.each k hkl).hN j) (lkeep hx HC.out)
            obtain ⟨v, hv⟩ : ∃ v, v = seenA l l.length 0 (sName (ob l k).ss j) := ⟨_, rfl⟩
            rw [← hv] at C
            have HT : Hid (Tells v (findF (sName (ob l k).ss j) l)) := by rw [Hid, hv]; exact tells_full _ l
            clear hv
            go_upto_region 9 with fail
            rw [← hW5]
            clear hW5 HF HB
            go_cut [13, 14] (fun x y wx => ∃ p, x = .pointer (some ⟨p, 0, none⟩) ∧ y = .bool v.isSome ∧ wx.cell? ⟨p, 0, none⟩ = some (.int .i64 (mI v)) ∧ wx.cell? ⟨p, 1, none⟩ = some (.int .i64 (mA v)) ∧ Hid (Below W5.heap.size W5 wx))
            case first =>
              have hWW := Below.refl W5.heap.size W5
              go_region_held3 (fun W' => Below W5.heap.size W5 W' ∧ W'.cell? ⟨wr.heap.size, 0, none⟩ = some (.string (sName (ob l k).ss j)) ∧ W'.cell? ⟨wr.heap.size, 1, none⟩ = some (.int .i8 kd) ∧ W'.cell? ⟨wr.heap.size, 2, none⟩ = some (.int .i64 (sAt (ob l k).ss j)) ∧ W'.cell? ⟨w.heap.size, kd.toNat, none⟩ = some (.func (.func 110) #[] #[.pointer (some ⟨g, 0, none⟩)]))
                (first | (refine ⟨?_, lkeep ?_ c0, lkeep ?_ c1, lkeep ?_ c2, lkeep ?_ cB⟩ <;> ((repeat (first | assumption | exact (‹Below _ _ _ ∧ _›).1 | apply Below.drew | apply lb_alloc)); done)))
                (first | (go_at_call 110; refine (C _ (by repeat (first | exact HBK.out | exact lb_trans HBK.out (‹Below _ _ _ ∧ _›).1 | apply Below.drew | apply lb_alloc))).mono ?_; rintro e w1 ⟨rfl, rfl⟩))
              all_goals (go_wp2_with fail; go_meet; refine ⟨_, rfl, rfl, by simp [go_sem], by simp [go_sem], ?_⟩; unfold Hid; repeat (first | exact Below.refl _ _ | apply Below.drew | apply lb_alloc))
            case rest =>
              obtain ⟨p, rfl, rfl, p0, p1, HBc⟩ := hcut
              clear c0 c1 c2 cB d0 d1 d2 dB C
              have HFc : Hid (RowF wc w.heap.size g l k j W.heap.size vs) := HF5.out.keep HBc.out
              have HBw : Hid (Below w.heap.size w wc) := lb_trans HBK.out HBc.out
              cases hv : v.isSome
              · have HUN : Hid (unS l k j = some (40, (k : Int), (j : Int))) := by
                  have hfi : (findF (sName (ob l k).ss j) l).isSome = false := by rw [← HT.out.1]; exact hv
                  refine unS_yes ?_ hfi
                  rw [← HKD.out]
                  rcases (show kd = 1 ∨ kd = 2 ∨ kd = 3 by omega) with e | e | e
                  · have := find_own hkl hjl (Or.inl (by rw [← HKD.out, e]; rfl))
                    rw [hfi] at this; cases this
                  · have := find_own hkl hjl (Or.inr (by rw [← HKD.out, e]; rfl))
                    rw [hfi] at this; cases this
                  · rw [e]; rfl
                have HX : Hid (fstN (unO l) l.length = some (40, (k : Int), (j : Int))) := fst_hit HN.out (fst_hit HS.out HUN.out hjl) hkl
                go_wp2
                refine bodyPost_ret (v := .tuple #[.slice none 0 0, .int .i64 40, .int .i64 k, .int .i64 j]) (by simp [results, Tryz.results72, go_sem]) rfl (Or.inl ⟨_, HX.out, rfl, HBw.out⟩)
              · have HUN : Hid (unS l k j = none) := unS_no (Or.inr (by rw [← HT.out.1]; exact hv))
                have HST : Hid (standS l k j = ((mI v : Int), mA v)) := by
                  unfold Hid standS
                  rw [← HKD.out, if_pos (by simpa using hk0), HT.out.2.1, HT.out.2.2]
                have b0 : wc.cell? ⟨w.heap.size + 1, k, none⟩ = some (.slice (some ⟨W.heap.size, 0, none⟩) (ob l k).ss.length (ob l k).ss.length) := cell_of HFc.out.bag (by rw [fill_at (by rw [List.length_append, HFc.out.len]; simp), ← HFc.out.len]; simp)
                have q0 : wc.cell? ⟨W.heap.size, j * 2, none⟩ = some (.int .i64 0) := cell_of HFc.out.cur (fill_z (by rw [rowD_len]; exact Nat.le_refl _) (by omega))
                have q1 : wc.cell? ⟨W.heap.size, j * 2 + 1, none⟩ = some (.int .i64 0) := cell_of HFc.out.cur (fill_z (by rw [rowD_len]; omega) (by omega))
                have q2 : wc.frozen? ⟨W.heap.size, j * 2, none⟩ = false := froz_of HFc.out.cur
                have q3 : wc.frozen? ⟨W.heap.size, j * 2 + 1, none⟩ = false := froz_of HFc.out.cur
                have HF6 : Hid (RowF ((wc.setCell ⟨W.heap.size, j * 2, none⟩ (.int .i64 (mI v))).setCell ⟨W.heap.size, j * 2 + 1, none⟩ (.int .i64 (mA v))) w.heap.size g l k (j + 1) W.heap.size vs) := HFc.out.set hjl HST.out
                have HB6 : Hid (Below w.heap.size w ((wc.setCell ⟨W.heap.size, j * 2, none⟩ (.int .i64 (mI v))).setCell ⟨W.heap.size, j * 2 + 1, none⟩ (.int .i64 (mA v)))) := (HBw.out.setCell (by have := HFc.out.hB; show w.heap.size ≤ W.heap.size; omega) _).setCell (by have := HFc.out.hB; show w.heap.size ≤ W.heap.size; omega) _
                have HS2 : Hid (∀ m, m < j + 1 → unS l k m = none) := fst_step HS.out HUN.out
                go_upto_region 12 with fail
                go_region_with (fail)
                all_goals (go_wp2_with fail; go_roundw; (case rel => exact ⟨j + 1, by go_num, by omega, RowF.keep HF6.out (by repeat (first | exact Below.refl _ _ | apply Below.drew)), HS2, lb_trans HB6.out (by repeat (first | exact Below.refl _ _ | apply Below.drew))⟩); (case measure => simp [intOf]; omega))
        · have hjl' : ¬ (j : Int) < ((ob l k).ss.length : Int) := by omega
          obtain rfl : j = (ob l k).ss.length := by omega
          have HF2 : Hid (Fil wr w.heap.size g l (k + 1) (vs ++ [.slice (some ⟨W.heap.size, 0, none⟩) (ob l k).ss.length (ob l k).ss.length])) := HF.out.done hss
          have HU : Hid (unO l k = none) := fst_none HS.out
          go_wp2
          go_roundw
          case rel => exact ⟨k + 1, _, by go_num, by omega, HF2, fst_step HN.out HU.out, HB⟩
          case measure => simp [intOf]; omega
    · have hkl' : ¬ (k : Int) < (l.length : Int) := by omega
      obtain rfl : k = l.length := by omega
      have HX : Hid (fstN (unO l) l.length = none) := fst_none HN.out
      have HR : Hid (RowsD wr w.heap.size 77 69 (.slice (some ⟨w.heap.size + 1, 0, none⟩) l.length l.length) vs (rowsT l l.length)) := HF.out.end hf
      go_wp2
      refine bodyPost_ret (v := .tuple #[.slice (some ⟨w.heap.size + 1, 0, none⟩) l.length l.length, .int .i64 0, .int .i64 0, .int .i64 0]) (by simp [results, Tryz.results72, go_sem]) rfl (Or.inr ⟨HX.out, _, _, _, rfl, HR.out, HB.out⟩)


end Go.Proofs.YthpkekpojhmaaaaGreatDoor

namespace Go.Proofs.YthpkekpojhmaaaaGreatDoor
open Go.RowKit

open Go.Maps Go.WideMaps
/-- The map holds just the names of the first k objects. -/
def MetO (l : List Ob) (k : Nat) (D : DataW Unit) : Prop := Maps.IsMap D ∧ ∀ s : ByteArray, Maps.has D (.string s.data.toList) = true ↔ ∃ j, j < k ∧ (ob l j).nm = s
theorem metO_zero (l : List Ob) : MetO l 0 (.map []) := ⟨Maps.isMap_empty, fun s => ⟨fun h => by simp [Maps.has] at h, fun ⟨j, h, _⟩ => by omega⟩⟩
theorem metO_step {l : List Ob} {k : Nat} {D d : DataW Unit} (h : MetO l k D) : MetO l (k + 1) (D.put (.string (ob l k).nm.data.toList) d) := by
  refine ⟨h.1.put _ _, fun s => ?_⟩
  by_cases hs : s = (ob l k).nm
  · subst hs
    exact ⟨fun _ => ⟨k, by omega, rfl⟩, fun _ => Maps.has_put_same h.1 (by simp [WideAt.IsKeyLit]) d⟩
  · rw [Maps.has_put_other (fun e => hs (bytes_same (by injection e)))]
    rw [h.2 s]
    constructor
    · rintro ⟨j, hj, e⟩; exact ⟨j, by omega, e⟩
    · rintro ⟨j, hj, e⟩
      refine ⟨j, ?_, e⟩
      by_cases hjk : j = k
      · subst hjk; exact absurd e.symm hs
      · omega
theorem metO_yes {l : List Ob} {k : Nat} {D : DataW Unit} (h : MetO l k D) (e : Maps.has D (.string (ob l k).nm.data.toList) = true) : fstN (sameN l k) k = some () := by
  obtain ⟨j, hj, ej⟩ := (h.2 _).1 e
  cases hf : fstN (sameN l k) k with
  | some u => rfl
  | none =>
    have := fst_no hf j hj
    rw [sameN_yes (by rw [ej]; simp)] at this
    cases this
theorem metO_no {l : List Ob} {k : Nat} {D : DataW Unit} (h : MetO l k D) (e : Maps.has D (.string (ob l k).nm.data.toList) = false) : fstN (sameN l k) k = none := by
  refine fst_none fun j hj => sameN_no ?_
  cases c : ((ob l j).nm.toList == (ob l k).nm.toList) with
  | false => rfl
  | true =>
    have : Maps.has D (.string (ob l k).nm.data.toList) = true := (h.2 _).2 ⟨j, hj, bytes_eq c⟩
    rw [e] at this; cases this
theorem nm_small {s : ByteArray} (h : nameOK s = true) : s.size ≤ 24 := by
  by_cases h0 : 0 < s.size
  · rw [name_cons s h0] at h
    simp at h
    omega
  · omega
theorem obC_name {o : Ob} (h : (obC o).1 = 0) : o.nm.size ≤ 24 := nm_small (check_may h).1.1
set_option maxHeartbeats 4000000 in
set_option maxRecDepth 100000 in
theorem pask_any (A : Option Addr) (ca : Nat) (q : Nat → Pl) (l : List Ob) (w : World) (hA : ObsIn w A q l) :
    Calls Tryz.prog 70 #[.slice A l.length ca] w (ErrP (chkL l) w) := by
  have HA : Hid (ObsIn w A q l) := hA
  have hf := hA.few
  have hmm := mkMap
  clear hA
  by_cases hm : 32 < l.length
  · have hm' : (32 : Int) < (l.length : Int) := by omega
    have HX : Hid (chkL l = some (21, 32, 0)) := by unfold Hid chkL; rw [if_pos hm]
    go_enter Tryz.func70, Tryz.ntmps70
    go_wp2
    go_ret3
    exact ⟨ret3I (by rw [HX.out]; rfl) (by rw [HX.out]; rfl) (by rw [HX.out]; rfl), Below.refl _ _⟩
  · have hm' : ¬ (32 : Int) < (l.length : Int) := by omega
    have HX : Hid (chkL l = fstN (badO l) l.length) := by unfold Hid chkL; rw [if_neg hm]
    go_enter Tryz.func70, Tryz.ntmps70
    go_wp2
    go_loopw [20] (fun i wr => ∃ (k : Nat) (D : DataW Unit), i = .int .i64 k ∧ k ≤ l.length ∧ Hid (wr.ownsMap Tryz.prog 9 (plainElem Tryz.prog 3) w.heap.size k D) ∧ Hid (MetO l k D) ∧ Hid (∀ j, j < k → badO l j = none) ∧ Hid (Below w.heap.size w wr)) (fun i _ => l.length - (intOf i).toNat)
    case atStart => exact ⟨0, _, rfl, Nat.zero_le _, World.ownsMap_made w Tryz.prog 9 (plainElem Tryz.prog 3), metO_zero l, fun j hj => absurd hj (Nat.not_lt_zero _), lb_alloc (Below.refl _ _) _⟩
    case round =>
      obtain ⟨k, D, rfl, hk, HO, HM, HN, HB⟩ := hrel
      by_cases hkl : k < l.length
      · have hkl' : (k : Int) < (l.length : Int) := by omega
        obtain ⟨a, ea, x0, x1, x2, x3, x4, x5⟩ := HA.out.cells.six HB.out k hkl
        obtain ⟨W, hW⟩ : ∃ W, W = wr.alloc (.cells #[.string (ob l k).nm, .slice (q k).A1 (ob l k).code.length (q k).c1, .int .i64 (ob l k).dA, .slice (q k).A2 (ob l k).data.length (q k).c2, .slice (q k).A3 (ob l k).ss.length (q k).c3, .slice (q k).A4 (ob l k).rs.length (q k).c4] 75) := ⟨_, rfl⟩
        have HBW : Hid (Below w.heap.size w W) := by rw [Hid, hW]; exact lb_alloc HB.out _
        have HOW : Hid (W.ownsMap Tryz.prog 9 (plainElem Tryz.prog 3) w.heap.size k D) := by rw [Hid, hW]; exact HO.out.alloc _
        have HNm : Hid (W.cell? ⟨wr.heap.size, 0, none⟩ = some (.string (ob l k).nm)) := by rw [Hid, hW]; simp [go_sem]
        have oA := (HA.out.each k hkl).keep HBW.out
        have CC := objcheck_any (ob l k).nm (ob l k).dA (q k).A1 (q k).A2 (q k).A3 (q k).A4 (q k).c1 (ob l k).data.length (q k).c2 (q k).c3 (q k).c4 (ob l k).code (ob l k).ss (ob l k).rs W oA.cd oA.sy oA.rl oA.cr oA.hc oA.hd oA.hs oA.hl oA.hN oA.da
        obtain ⟨E, hE⟩ : ∃ E, E = (obC (ob l k)).1 := ⟨_, rfl⟩
        obtain ⟨M, hM⟩ : ∃ M, M = (obC (ob l k)).2 := ⟨_, rfl⟩
        change Calls Tryz.prog 82 _ W (fun e w' => e = .returned (.tuple #[.int .i64 (obC (ob l k)).1, .int .i64 (obC (ob l k)).2]) ∧ Below W.heap.size W w') at CC
        rw [← hE, ← hM] at CC
        have HE : Hid (E = (obC (ob l k)).1) := hE
        have HMM : Hid (M = (obC (ob l k)).2) := hM
        clear oA hE hM
        subst ea
        by_cases he : E = 0
        · subst he
          go_wp2_with fail
          rw [← hW]
          refine CC.mono ?_
          rintro e w1 ⟨rfl, hb1⟩
          have HB1 : Hid (Below w.heap.size w w1) := lb_trans HBW.out hb1
          have HO1 : Hid (w1.ownsMap Tryz.prog 9 (plainElem Tryz.prog 3) w.heap.size k D) := ownsMap_below HOW.out hb1 HOW.out.lt
          have n0 : w1.cell? ⟨wr.heap.size, 0, none⟩ = some (.string (ob l k).nm) := lkeep hb1 HNm.out
          have hkey : keyOf Tryz.prog 9 (.string (ob l k).nm) = some (.string (ob l k).nm.data.toList) := keyOf_string_mk Tryz.underlying9 (by have := obC_name HE.out.symm; unfold maxLen; omega)
          clear CC hb1 x0 x1 x2 x3 x4 x5
          cases h2 : Maps.has D (.string (ob l k).nm.data.toList)
          · have HN2 : Hid _ := fst_step HN.out (show badO l k = none by
                unfold badO
                rw [if_pos HE.out.symm, metO_no HM.out h2])
            go_wp2_with (first | (at_lookup; refine wpList_lookup_own_ok_int _ rfl _ _ 202 rfl 9 3 .i64 law9 Tryz.underlying202 Tryz.underlying3 (zero3 _) w.heap.size k D rfl HO1.out _ _ rfl hkey ?_; intro c hat hwc) | (at_mapUpdate; refine wpList_mapUpdate_own _ rfl _ _ _ 202 rfl 9 3 law9 Tryz.underlying202 _ w.heap.size k _ rfl HO1.out (by unfold maxLen; omega) _ _ _ rfl rfl hkey _ [] (plainElem_int Tryz.underlying3 (WalkArith.wf_i64 (by omega))) ?_; intro w6 hown6 hgrow6; have HO6 : Hid (w6.ownsMap Tryz.prog 9 (plainElem Tryz.prog 3) w.heap.size (k + 1) _) := hown6; have HB6 : Hid (Below w.heap.size w w6) := grown_below HB1.out hgrow6 (Nat.le_refl _) HB1.out.size; clear hown6 hgrow6))
            go_roundw
            case rel => exact ⟨k + 1, _, by go_num, by omega, HO6, metO_step HM.out, HN2, HB6⟩
            case measure => simp [intOf]; omega
          · have HX2 : Hid (chkL l = some (26, (k : Int), -1)) := by
              rw [Hid, HX.out]
              refine fst_hit HN.out ?_ hkl
              unfold badO
              rw [if_pos HE.out.symm, metO_yes HM.out h2]
            go_wp2_with (at_lookup; refine wpList_lookup_own_ok_int _ rfl _ _ 202 rfl 9 3 .i64 law9 Tryz.underlying202 Tryz.underlying3 (zero3 _) w.heap.size k D rfl HO1.out _ _ rfl hkey ?_; intro c hat hwc)
            go_ret3
            exact ⟨ret3I (by rw [HX2.out]; rfl) (by rw [HX2.out]; rfl) (by rw [HX2.out]; rfl), HB1.out⟩
        · have he' : (E != 0) = true := by simpa using he
          have HX2 : Hid (chkL l = some (E, (k : Int), M)) := by
            rw [Hid, HX.out]
            refine fst_hit HN.out ?_ hkl
            unfold badO
            rw [if_neg (by rw [← HE.out]; exact he), ← HE.out, ← HMM.out]
          clear he
          go_wp2_with fail
          rw [← hW]
          refine CC.mono ?_
          rintro e w1 ⟨rfl, hb1⟩
          have HB1 : Hid (Below w.heap.size w w1) := lb_trans HBW.out hb1
          clear CC hb1 x0 x1 x2 x3 x4 x5
          go_wp2
          go_ret3
          exact ⟨ret3I (by rw [HX2.out]; rfl) (by rw [HX2.out]; rfl) (by rw [HX2.out]; rfl), HB1.out⟩
      · have hkl' : ¬ (k : Int) < (l.length : Int) := by omega
        have HX2 : Hid (chkL l = none) := by rw [Hid, HX.out]; exact fst_none (fun j hj => HN.out j (by omega))
        go_wp2
        go_ret3
        exact ⟨ret3I (by rw [HX2.out]; rfl) (by rw [HX2.out]; rfl) (by rw [HX2.out]; rfl), HB.out⟩


end Go.Proofs.YthpkekpojhmaaaaGreatDoor

namespace Go.Proofs.YthpkekpojhmaaaaGreatDoor
open Go.RowKit

/-- What the program's Resolve and Find tell. -/
def ProgR : Prop := ∀ (A : Option Addr) (ca : Nat) (q : Nat → Pl) (l : List Ob) (w : World), ObsIn w A q l → Calls Tryz.prog 22 #[.slice A l.length ca] w (ResP 77 69 l w)
def ProgF : Prop := ∀ (A : Option Addr) (ca : Nat) (q : Nat → Pl) (l : List Ob) (nm : ByteArray) (w : World), ObsIn w A q l → nm.size ≤ 140737488355328 → Calls Tryz.prog 23 #[.slice A l.length ca, .string nm] w (DefP (findF nm l) w)


end Go.Proofs.YthpkekpojhmaaaaGreatDoor
