/-
  The finders: how a symbol of each kind is found. Rows that are made and then written, one place after the other.
-/
import Derived.Test.YtiihfkjgdhfmiaaProg
import Derived.WalkKit
import Derived.WalkSpells
import Derived.WalkLawsBesides
import Derived.RowKit3
import Derived.Below
import Derived.Deep.QuietTactic
import Derived.BigQuiet
import Derived.WalkSmall
import Derived.Laws.Rows
import Derived.Test.YtiihfkjgdhfmiaaSB18
import Derived.Test.YtiihfkjgdhfmiaaSB06
import Derived.Test.YtiihfkjgdhfmiaaSB16
import Derived.Test.YtiihfkjgdhfmiaaSB10
namespace Go.Proofs.Ytiihfkjgdhfmiaa
open Go.RowKit

open Go.Maps Go.WideMaps
set_option maxHeartbeats 4000000 in
set_option maxRecDepth 100000 in
theorem fown_any (i : Nat) (nm : ByteArray) (kd at_ : Int) (w : World) :
    Calls Try.prog 37 #[.int .i64 i, .agg #[.string nm, .int .i8 kd, .int .i64 at_]] w fun e w' => e = .returned (.tuple #[.agg #[.int .i64 i, .int .i64 at_], .bool true]) ∧ w' = (w.alloc (.cells #[.string nm, .int .i8 kd, .int .i64 at_] 52)).alloc (.cells #[.int .i64 i, .int .i64 at_] 34) := by
  go_enter Try.func37, Try.ntmps37
  go_wp2
  refine bodyPost_ret (v := .tuple #[.agg #[.int .i64 i, .int .i64 at_], .bool true]) (by simp [results, Try.results37, go_sem]) rfl ⟨rfl, rfl⟩
set_option maxHeartbeats 4000000 in
set_option maxRecDepth 100000 in
theorem fnamed_any (i : Nat) (nm : ByteArray) (kd at_ : Int) (b n g : Nat) (f : ByteArray → Option ((Nat × Int) × Int)) (w : World) (hk : Knows w b n f) (hs : nm.size ≤ 140737488355328) (hc : w.cell? ⟨g, 0, none⟩ = some (.map (some b))) :
    Calls Try.prog 38 #[.int .i64 i, .agg #[.string nm, .int .i8 kd, .int .i64 at_], .pointer (some ⟨g, 0, none⟩)] w fun e w' => e = .returned (.tuple #[.agg #[.int .i64 (mI (f nm)), .int .i64 (mA (f nm))], .bool (f nm).isSome]) ∧ w' = ((w.alloc (.cells #[.string nm, .int .i8 kd, .int .i64 at_] 52)).alloc (.cells #[.int .i64 (mI (f nm)), .int .i64 (mA (f nm))] 34)).alloc (.cells #[.int .i64 (mI (f nm)), .int .i64 (mA (f nm)), .int .i8 (mK (f nm))] 73) := by
  have HK : Hid (Knows ((w.alloc (.cells #[.string nm, .int .i8 kd, .int .i64 at_] 52)).alloc (.cells #[.int .i64 0, .int .i64 0] 34)) b n f) := hk.keep (lb_alloc (lb_alloc (Below.refl _ _) _) _)
  have c1 : ((w.alloc (.cells #[.string nm, .int .i8 kd, .int .i64 at_] 52)).alloc (.cells #[.int .i64 0, .int .i64 0] 34)).cell? ⟨g, 0, none⟩ = some (.map (some b)) := lkeep (lb_alloc (lb_alloc (Below.refl _ _) _) _) hc
  go_enter Try.func38, Try.ntmps38
  go_wp2_with (at_lookup; refine wpList_look_ok _ rfl _ _ rfl b n f HK.out nm hs rfl rfl ?_; unfold mVal)
  refine bodyPost_ret (v := .tuple #[.agg #[.int .i64 (mI (f nm)), .int .i64 (mA (f nm))], .bool (f nm).isSome]) (by simp [results, Try.results38, go_sem]) rfl ⟨rfl, rfl⟩
theorem store_func (fn : Fn) (x y : Array Value) (a : Addr) (m : Mode) (w : World) : (store a (.func fn x y) m).run Try.prog w = stored Try.prog w a (.func fn x y) m := run_store Try.prog w a _ m rfl
def F0 : Value := .func (.func 37) #[] #[]
def F1 (g : Nat) : Value := .func (.func 38) #[] #[.pointer (some ⟨g, 0, none⟩)]
set_option maxHeartbeats 4000000 in
set_option maxRecDepth 100000 in
theorem finders_any (b : Nat) (w : World) : Calls Try.prog 24 #[.map (some b)] w fun e w' => e = .returned (.agg #[F0, F1 w.heap.size, F1 w.heap.size, F1 w.heap.size]) ∧ w'.cell? ⟨w.heap.size, 0, none⟩ = some (.map (some b)) ∧ Below w.heap.size w w' := by
  have hmf := mkFn
  have hsf := store_func
  go_enter Try.func24, Try.ntmps24
  go_wp2
  refine bodyPost_ret (v := .agg #[F0, F1 w.heap.size, F1 w.heap.size, F1 w.heap.size]) (by simp [results, Try.results24, go_sem]; exact ⟨rfl, rfl⟩) rfl ⟨rfl, by simp [go_sem], lb_alloc (lb_alloc (Below.refl _ _) _) _⟩

end Go.Proofs.Ytiihfkjgdhfmiaa

namespace Go.Proofs.Ytiihfkjgdhfmiaa
open Go.RowKit

open Go.Maps Go.WideMaps
/-- A row of N cells, its first ones written. -/
def fillA (xs : List Value) (z : Value) (N : Nat) : Array Value := (xs ++ List.replicate (N - xs.length) z).toArray
theorem fill_size {xs : List Value} {z : Value} {N : Nat} (h : xs.length ≤ N) : (fillA xs z N).size = N := by
  simp [fillA]; omega
theorem fill_set {xs : List Value} {z : Value} {N : Nat} (h : xs.length < N) (v : Value) : (fillA xs z N).setIfInBounds xs.length v = fillA (xs ++ [v]) z N := by
  unfold fillA
  obtain ⟨m, hm⟩ : ∃ m, N - xs.length = m + 1 := ⟨N - xs.length - 1, by omega⟩
  rw [hm, show N - (xs ++ [v]).length = m by simp; omega, List.replicate_succ]
  simp
theorem fill_at {xs : List Value} {z : Value} {N i : Nat} (h : i < xs.length) : (fillA xs z N)[i]? = xs[i]? := by
  simp [fillA, List.getElem?_append_left h]
theorem fill_z {xs : List Value} {z : Value} {N i : Nat} (h : xs.length ≤ i) (hi : i < N) : (fillA xs z N)[i]? = some z := by
  simp [fillA, List.getElem?_append_right h, List.getElem?_replicate]
  omega
theorem fill_all {xs : List Value} {z : Value} {N : Nat} (h : xs.length = N) : (fillA xs z N).toList = xs := by
  simp [fillA, h]
theorem made_one (N : Nat) (z : Value) : madeCells #[z] N = fillA [] z N := by
  apply Array.ext_getElem?
  intro i
  by_cases hi : i < N
  · rw [fill_z (Nat.zero_le _) hi]
    simp [madeCells, hi, Nat.mod_one]
  · rw [Array.getElem?_eq_none (by simp [madeCells]; omega), Array.getElem?_eq_none (by rw [fill_size (Nat.zero_le _)]; omega)]
theorem made_two (N : Nat) : madeCells #[.int .i64 0, .int .i64 0] N = fillA [] (.int .i64 0) N := by
  apply Array.ext_getElem?
  intro i
  by_cases hi : i < N
  · rw [fill_z (Nat.zero_le _) hi]
    have h : i % 2 = 0 ∨ i % 2 = 1 := by omega
    rcases h with h | h <;> simp [madeCells, hi, h]
  · rw [Array.getElem?_eq_none (by simp [madeCells]; omega), Array.getElem?_eq_none (by rw [fill_size (Nat.zero_le _)]; omega)]
theorem info41 : ∃ i, Try.prog.info? 41 = some i ∧ i.zero = some (.slice none 0 0) ∧ i.size = 1 ∧ i.bytes = 24 :=
  ⟨(Try.prog.info? 41).get (by kernel_rfl), by kernel_rfl, by kernel_rfl, by kernel_rfl, by kernel_rfl⟩
theorem info34 : ∃ i, Try.prog.info? 34 = some i ∧ i.zero = some (.agg #[.int .i64 0, .int .i64 0]) ∧ i.size = 2 ∧ i.bytes = 16 :=
  ⟨(Try.prog.info? 34).get (by kernel_rfl), by kernel_rfl, by kernel_rfl, by kernel_rfl, by kernel_rfl⟩
theorem make26 (n : Nat) (hn : n ≤ 64) (w : World) : (Instr.makeSlice 26 (.int .i64 n) (.int .i64 n)).run Try.prog w = .ok (.slice (some ⟨w.heap.size, 0, none⟩) n n) (w.alloc (.cells (fillA [] (.slice none 0 0) n) 41)) := by
  obtain ⟨i, hi, hz, hs, hb⟩ := info41
  have h := run_makeSlice (P := Try.prog) w 26 41 i _ Try.underlying26 hi hz .i64 .i64 n n (by omega) (by omega) (by rw [hs]; omega) (by rw [hb]; omega) (by omega)
  rw [hs, show ((n : Int)).toNat = n by omega, Nat.mul_one] at h
  rw [h, ← made_one n]
  rfl
theorem make41 (n : Nat) (hn : n ≤ 1048576) (w : World) : (Instr.makeSlice 41 (.int .i64 n) (.int .i64 n)).run Try.prog w = .ok (.slice (some ⟨w.heap.size, 0, none⟩) n n) (w.alloc (.cells (fillA [] (.int .i64 0) (n * 2)) 34)) := by
  obtain ⟨i, hi, hz, hs, hb⟩ := info34
  have h := run_makeSlice (P := Try.prog) w 41 34 i _ Try.underlying41 hi hz .i64 .i64 n n (by omega) (by omega) (by rw [hs]; omega) (by rw [hb]; omega) (by omega)
  rw [hs, show ((n : Int)).toNat = n by omega] at h
  rw [h, ← made_two (n * 2)]
  rfl
theorem cell_of {w : World} {g p : Nat} {cur : Array Value} {t : TypeId} {u : Value} (h : w.heap[g]? = some (.cells cur t (0, 0))) (hp : cur[p]? = some u) : w.cell? ⟨g, p, none⟩ = some u := by
  simp [World.cell?, h, hp]
theorem froz_of {w : World} {g p : Nat} {cur : Array Value} {t : TypeId} (h : w.heap[g]? = some (.cells cur t (0, 0))) : w.frozen? ⟨g, p, none⟩ = false := by
  simp [World.frozen?, h]
theorem blk_keep {w w1 : World} {g : Nat} {o : Obj} (h : w.heap[g]? = some o) (hb : Below w.heap.size w w1) : w1.heap[g]? = some o := by
  rw [hb.block g (Array.getElem?_eq_some_iff.1 h).1]; exact h
theorem blk_set {w : World} {g k : Nat} {o : Obj} {b : Nat} (h : w.heap[g]? = some o) (hb : g ≠ b) (u : Value) : (w.setCell ⟨b, k, none⟩ u).heap[g]? = some o := by
  rw [Below.heap_setCell _ _ _ _ hb]; exact h
theorem grown_set (w : World) (g k : Nat) (u : Value) : w.grownBy (w.setCell ⟨g, k, none⟩ u) (some g) := ⟨rfl, rfl, rfl, by simp [World.setCell], fun i _ hi => Below.heap_setCell _ _ _ _ (fun e => hi (by rw [e]))⟩
/-- The rows of the first k objects are written. -/
structure Fil (w : World) (B g : Nat) (l : List Ob) (k : Nat) (vs : List Value) : Prop where
  box : w.heap[B]? = some (.cells #[F0, F1 g, F1 g, F1 g] 68 (0, 0))
  len : vs.length = k
  bag : w.heap[B + 1]? = some (.cells (fillA vs (.slice none 0 0) l.length) 41 (0, 0))
  row : ∀ i, i < k → w.ownsRow B 34 2 (vn vs i) (ob l i).ss.length (dNews (rowT l i (ob l i).ss.length))
/-- .. and the first j places of the next. -/
structure RowF (w : World) (B g : Nat) (l : List Ob) (k j h : Nat) (vs : List Value) : Prop where
  box : w.heap[B]? = some (.cells #[F0, F1 g, F1 g, F1 g] 68 (0, 0))
  len : vs.length = k
  bag : w.heap[B + 1]? = some (.cells (fillA (vs ++ [.slice (some ⟨h, 0, none⟩) (ob l k).ss.length (ob l k).ss.length]) (.slice none 0 0) l.length) 41 (0, 0))
  row : ∀ i, i < k → w.ownsRow B 34 2 (vn vs i) (ob l i).ss.length (dNews (rowT l i (ob l i).ss.length))
  far : ∀ i, i < k → (vn vs i).ownBlock ≠ some h
  hB : B + 1 < h
  cur : w.heap[h]? = some (.cells (fillA (dNews (rowT l k j)) (.int .i64 0) ((ob l k).ss.length * 2)) 34 (0, 0))
theorem Fil.keep {w w1 : World} {B g k : Nat} {l : List Ob} {vs : List Value} (h : Fil w B g l k vs) (hb : Below w.heap.size w w1) : Fil w1 B g l k vs := ⟨blk_keep h.box hb, h.len, blk_keep h.bag hb, fun i hi => own_keep (h.row i hi) hb⟩
theorem RowF.keep {w w1 : World} {B g k j h : Nat} {l : List Ob} {vs : List Value} (H : RowF w B g l k j h vs) (hb : Below w.heap.size w w1) : RowF w1 B g l k j h vs := ⟨blk_keep H.box hb, H.len, blk_keep H.bag hb, fun i hi => own_keep (H.row i hi) hb, H.far, H.hB, blk_keep H.cur hb⟩
theorem dNews_len : ∀ l : List Rel, (dNews l).length = l.length * 2
  | [] => rfl
  | x :: l => by rw [dNews, List.length_cons, List.length_cons, dNews_len l, List.length_cons]; omega
theorem rowD_len (l : List Ob) (i j : Nat) : (dNews (rowT l i j)).length = j * 2 := by rw [dNews_len, rowT_len]
theorem lt_of_blk {w : World} {g : Nat} {o : Obj} (h : w.heap[g]? = some o) : g < w.heap.size := (Array.getElem?_eq_some_iff.1 h).1
/-- A row is made and put in its place. -/
theorem Fil.start {w : World} {B g k : Nat} {l : List Ob} {vs : List Value} (h : Fil w B g l k vs) (hk : k < l.length) : RowF ((w.alloc (.cells (fillA [] (.int .i64 0) ((ob l k).ss.length * 2)) 34)).setCell ⟨B + 1, k, none⟩ (.slice (some ⟨w.heap.size, 0, none⟩) (ob l k).ss.length (ob l k).ss.length)) B g l k 0 w.heap.size vs := by
  have hb := lb_alloc (Below.refl w.heap.size w) (.cells (fillA [] (.int .i64 0) ((ob l k).ss.length * 2)) 34)
  have hB := lt_of_blk h.bag
  refine ⟨blk_set (blk_keep h.box hb) (by omega) _, h.len, ?_, fun i hi => ?_, fun i hi => ?_, by omega, ?_⟩
  · rw [set_rowM (blk_keep h.bag hb), ← h.len, fill_set (by rw [h.len]; exact hk)]
  · refine own_apart (own_keep (h.row i hi) hb) (grown_set _ _ _ _) fun b hb1 hb2 => ?_
    obtain ⟨cur, hc⟩ := own_block (own_keep (h.row i hi) hb) hb1
    cases hb2
    rw [blk_keep h.bag hb] at hc
    simp at hc
  · intro e
    have := (own_lt (h.row i hi) e)
    omega
  · refine blk_set ?_ (by omega) _
    have := heap_alloc_new w (.cells (fillA [] (.int .i64 0) ((ob l k).ss.length * 2)) 34)
    exact this
/-- One place is written. -/
theorem RowF.set {w : World} {B g k j h : Nat} {l : List Ob} {vs : List Value} (H : RowF w B g l k j h vs) (hj : j < (ob l k).ss.length) {x y : Int} (e : standS l k j = (x, y)) : RowF ((w.setCell ⟨h, j * 2, none⟩ (.int .i64 x)).setCell ⟨h, j * 2 + 1, none⟩ (.int .i64 y)) B g l k (j + 1) h vs := by
  have hB := H.hB
  refine ⟨blk_set (blk_set H.box (by omega) _) (by omega) _, H.len, blk_set (blk_set H.bag (by omega) _) (by omega) _, fun i hi => ?_, H.far, H.hB, ?_⟩
  · have a : ∀ b, (vn vs i).ownBlock = some b → some h ≠ some b := fun b hb1 hb2 => H.far i hi (by rw [hb1]; exact hb2.symm)
    exact own_apart (own_apart (H.row i hi) (grown_set _ _ _ _) a) (grown_set _ _ _ _) a
  · rw [set_rowM (set_rowM H.cur _)]
    have e1 : (fillA (dNews (rowT l k j)) (.int .i64 0) ((ob l k).ss.length * 2)).setIfInBounds (j * 2) (.int .i64 x) = fillA (dNews (rowT l k j) ++ [.int .i64 x]) (.int .i64 0) ((ob l k).ss.length * 2) := by
      have := fill_set (xs := dNews (rowT l k j)) (z := .int .i64 0) (N := (ob l k).ss.length * 2) (by rw [rowD_len]; omega) (.int .i64 x)
      rwa [rowD_len] at this
    have e2 : (fillA (dNews (rowT l k j) ++ [.int .i64 x]) (.int .i64 0) ((ob l k).ss.length * 2)).setIfInBounds (j * 2 + 1) (.int .i64 y) = fillA (dNews (rowT l k j) ++ [.int .i64 x] ++ [.int .i64 y]) (.int .i64 0) ((ob l k).ss.length * 2) := by
      have := fill_set (xs := dNews (rowT l k j) ++ [.int .i64 x]) (z := .int .i64 0) (N := (ob l k).ss.length * 2) (by rw [List.length_append, rowD_len]; simp; omega) (.int .i64 y)
      rwa [List.length_append, rowD_len] at this
    rw [e1, e2, rowT_succ, dNews_snoc, e]
    simp
/-- A row is whole. -/
theorem RowF.done {w : World} {B g k h : Nat} {l : List Ob} {vs : List Value} (H : RowF w B g l k (ob l k).ss.length h vs) (hs : (ob l k).ss.length ≤ 1048576) : Fil w B g l (k + 1) (vs ++ [.slice (some ⟨h, 0, none⟩) (ob l k).ss.length (ob l k).ss.length]) := by
  refine ⟨H.box, by rw [List.length_append, H.len]; rfl, H.bag, fun i hi => ?_⟩
  by_cases hik : i < k
  · rw [vn_old _ _ _ (by rw [H.len]; exact hik)]
    exact H.row i hik
  · obtain rfl : i = vs.length := by rw [H.len]; omega
    rw [vn_last, H.len]
    have hB := H.hB
    refine ⟨rowD_len l k _, .inr ⟨h, (ob l k).ss.length, _, rfl, by omega, H.cur, Nat.le_refl _, by unfold maxLen; omega, ?_, ?_⟩⟩
    · rw [fill_size (by rw [rowD_len]; omega)]
    · rw [fill_all (rowD_len l k _), ← rowD_len l k _, List.take_length]
/-- All rows are whole. -/
theorem Fil.end {w : World} {B g : Nat} {l : List Ob} {vs : List Value} (h : Fil w B g l l.length vs) (hl : l.length ≤ 64) : RowsD w B 41 34 (.slice (some ⟨B + 1, 0, none⟩) l.length l.length) vs (rowsT l l.length) := by
  refine ⟨?_, fun i hi => ?_⟩
  · rw [rowsT_len]
    refine ⟨by rw [h.len, Nat.mul_one], .inr ⟨B + 1, l.length, _, rfl, by omega, h.bag, Nat.le_refl _, by unfold maxLen; omega, ?_, ?_⟩⟩
    · rw [fill_size (by rw [h.len]; exact Nat.le_refl _), Nat.mul_one]
    · rw [fill_all h.len, Nat.mul_one]
      rw [← h.len, List.take_length]
  · rw [rowsT_len] at hi
    rw [rowsT_at l hi, rowT_len]
    exact h.row i hi
/-- A symbol that is Global or Weak stands for something. -/
theorem find_own {l : List Ob} {i j : Nat} (hi : i < l.length) (hj : j < (ob l i).ss.length) (h : (sKind (ob l i).ss j == 1) = true ∨ (sKind (ob l i).ss j == 2) = true) : (findF (sName (ob l i).ss j) l).isSome = true := by
  have key : ∀ kd : Int, (sKind (ob l i).ss j == kd) = true → ∃ x, firstF (sName (ob l i).ss j) kd l l.length 0 = some x := fun kd hk => by
    have a := firstF_step (sName (ob l i).ss j) kd l hi hj
    rw [hitS_yes (by simp) hk] at a
    cases hf : firstF (sName (ob l i).ss j) kd l i j with
    | some x => rw [hf] at a; exact ⟨x, firstF_full hi (by omega) a⟩
    | none => rw [hf] at a; exact ⟨_, firstF_full hi (by omega) a⟩
  unfold findF
  rcases h with h | h
  · obtain ⟨x, e⟩ := key 1 h
    rw [e]; rfl
  · obtain ⟨x, e⟩ := key 2 h
    cases firstF (sName (ob l i).ss j) 1 l l.length 0 with
    | some y => rfl
    | none => rw [e]; rfl

end Go.Proofs.Ytiihfkjgdhfmiaa
