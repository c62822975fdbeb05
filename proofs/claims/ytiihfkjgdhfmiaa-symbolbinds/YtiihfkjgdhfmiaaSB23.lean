/-
  Worlds that part in one block alone, and the marks that lie in it; no Go in sight. The small functions of package isa, each by what it returns; conditions: an op is an int8's number. The table of the ops' fields, as the program makes it anew, and what is read of it; no condition.
-/
import Derived.Test.YtiihfkjgdhfmiaaProg
import Derived.WalkKit
import Derived.WalkSpells
import Derived.WalkLawsBesides
import Derived.RowKit3
import Derived.Below
import Derived.Deep.QuietTactic
import Derived.BigQuiet
import Derived.WalkSmall
import Derived.Test.YtiihfkjgdhfmiaaSB02
import Derived.Test.YtiihfkjgdhfmiaaSB13
import Derived.Laws.BitsAllLaws
import Derived.Deep.DeepCutAuto
import Derived.Laws.Tables
import Derived.Laws.Rows
import Derived.Laws.CopyOwn
import Derived.Great.BuildSlice
namespace Go.Proofs.Ytiihfkjgdhfmiaa
open Go.RowKit

/-- Nothing is other but what lies in block g, and new blocks. -/
def But (g : Nat) (w w' : World) : Prop := w'.os = w.os ∧ w'.tape = w.tape ∧ w'.output = w.output ∧ w.heap.size ≤ w'.heap.size ∧ ∀ k, k < w.heap.size → k ≠ g → w'.heap[k]? = w.heap[k]?
theorem But.refl (g : Nat) (w : World) : But g w w := ⟨rfl, rfl, rfl, Nat.le_refl _, fun _ _ _ => rfl⟩
theorem But.trans {g : Nat} {a b c : World} (h : But g a b) (k : But g b c) : But g a c :=
  ⟨k.1.trans h.1, k.2.1.trans h.2.1, k.2.2.1.trans h.2.2.1, Nat.le_trans h.2.2.2.1 k.2.2.2.1, fun i hi hn => (k.2.2.2.2 i (Nat.lt_of_lt_of_le hi h.2.2.2.1) hn).trans (h.2.2.2.2 i hi hn)⟩
theorem But.of {g : Nat} {w w' : World} (h : Below w.heap.size w w') : But g w w' := ⟨h.os, h.tape, h.output, h.size, fun k hk _ => h.block k hk⟩
theorem But.on {g : Nat} {a b c : World} (h : But g a b) (k : Below b.heap.size b c) : But g a c := h.trans (But.of k)
theorem But.set {g : Nat} {a b : World} (h : But g a b) (i : Nat) (v : Value) : But g a (b.setCell ⟨g, i, none⟩ v) :=
  h.trans ⟨rfl, rfl, rfl, Nat.le_of_eq (by simp [go_sem]), fun k _ hn => Below.heap_setCell _ _ _ _ hn⟩
theorem But.drewN {g : Nat} {a b : World} (h : But g a b) (n : Nat) : But g a (b.drewN n) := h
theorem But.cell {g : Nat} {w w' : World} (h : But g w w') {p : Addr} {v : Value} (hp : p.block ≠ g) (hc : w.cell? p = some v) : w'.cell? p = some v := by
  rw [World.cell?_of_block (w := w) (h.2.2.2.2 p.block (World.block_lt_of_cell? w _ hc) hp)]; exact hc
theorem But.below {g : Nat} {w0 w w' : World} (h : But g w w') (hb : Below w0.heap.size w0 w) (hg : w0.heap.size ≤ g) : Below w0.heap.size w0 w' :=
  ⟨h.1.trans hb.os, h.2.1.trans hb.tape, h.2.2.1.trans hb.output, Nat.le_trans hb.size h.2.2.2.1, fun k hk => (h.2.2.2.2 k (Nat.lt_of_lt_of_le hk hb.size) (by omega)).trans (hb.block k hk)⟩
/-- The marks: as many as an object's code may be long. -/
def MarksAt (w : World) (g : Nat) (m : Nat → Bool) : Prop := (∀ i, i < 16384 → w.cell? ⟨g, i, none⟩ = some (.bool (m i))) ∧ ∀ i, w.frozen? ⟨g, i, none⟩ = false
theorem MarksAt.keep {w w' : World} {g : Nat} {m : Nat → Bool} (h : MarksAt w g m) (hb : Below w.heap.size w w') : MarksAt w' g m :=
  ⟨fun i hi => lkeep hb (h.1 i hi), fun i => by
    have hl : g < w.heap.size := World.block_lt_of_cell? w _ (h.1 0 (by omega))
    rw [hb.frozen (p := ⟨g, i, none⟩) hl]; exact h.2 i⟩
theorem MarksAt.set {w : World} {g : Nat} {m : Nat → Bool} (h : MarksAt w g m) (i : Nat) : MarksAt (w.setCell ⟨g, i, none⟩ (.bool true)) g (fun j => j == i || m j) :=
  ⟨fun j hj => by
    by_cases hij : j = i
    · subst hij
      simp [go_sem, h.1 j hj]
    · have e : (j == i) = false := by simpa using hij
      simp only [e, Bool.false_or]
      rw [← h.1 j hj]
      simp [go_sem], fun j => by rw [← h.2 j]; simp [go_sem]⟩
theorem MarksAt.drewN {w : World} {g : Nat} {m : Nat → Bool} (h : MarksAt w g m) (n : Nat) : MarksAt (w.drewN n) g m := h
/-- Each place that is marked holds no target but 0. -/
def Safe (code : List Int) (m : Nat → Bool) : Prop := ∀ i, m i = true → tgV (nth code i) = 0
theorem Safe.set {code : List Int} {m : Nat → Bool} (h : Safe code m) (i : Nat) (e : tgV (nth code i) = 0) : Safe code (fun j => j == i || m j) := fun j hj => by
  simp at hj
  rcases hj with rfl | hj
  · exact e
  · exact h j hj
/-- The place ahead of which the next relocation may not lie. -/
def aheadV (zs : List Rel) (k : Nat) : Int := if k = 0 then -1 else rAt zs (k - 1)
theorem ahead_zero (zs : List Rel) : aheadV zs 0 = -1 := rfl
theorem ahead_succ (zs : List Rel) (k : Nat) : aheadV zs (k + 1) = rAt zs k := by unfold aheadV; rw [if_neg (by omega)]; rfl
theorem rel_past {zs : List Rel} {code : List Int} {ns k : Nat} (h : ∀ j, j < k → relE zs code ns j = 0) : -1 ≤ aheadV zs k := by
  unfold aheadV
  split
  · omega
  · next hk =>
    have := h (k - 1) (by omega)
    unfold relE at this
    split at this
    · omega
    · next h1 => omega
theorem rel_bad {zs : List Rel} {code : List Int} {ns k : Nat} (h : ∀ j, j < k → relE zs code ns j = 0) (e : rAt zs k ≤ aheadV zs k ∨ (code.length : Int) ≤ rAt zs k ∨ rSym zs k < 0 ∨ (ns : Int) ≤ rSym zs k) : relE zs code ns k = 24 := by
  have hp := rel_past h
  unfold aheadV at e hp
  unfold relE
  rw [if_pos]
  split at e
  · omega
  · rename_i hk; rw [if_neg hk] at hp; omega
theorem rel_fine {zs : List Rel} {code : List Int} {ns k : Nat} (h : ∀ j, j < k → relE zs code ns j = 0) (e : ¬ rAt zs k ≤ aheadV zs k) (e2 : ¬ (code.length : Int) ≤ rAt zs k) (e3 : ¬ rSym zs k < 0) (e4 : ¬ (ns : Int) ≤ rSym zs k) :
    0 ≤ rAt zs k ∧ (isT (nth code (rAt zs k).toNat) = false ∨ ¬ tgV (nth code (rAt zs k).toNat) = 0 → relE zs code ns k = 24) ∧ (¬ (isT (nth code (rAt zs k).toNat) = false ∨ ¬ tgV (nth code (rAt zs k).toNat) = 0) → relE zs code ns k = 0) := by
  have hp := rel_past h
  have h0 : 0 ≤ rAt zs k := by omega
  have hx : ¬ (rAt zs k < 0 ∨ (code.length : Int) ≤ rAt zs k ∨ (0 < k ∧ rAt zs k ≤ rAt zs (k - 1)) ∨ rSym zs k < 0 ∨ (ns : Int) ≤ rSym zs k) := by
    unfold aheadV at e
    split at e
    · omega
    · omega
  refine ⟨h0, fun hh => ?_, fun hh => ?_⟩
  · unfold relE; rw [if_neg hx, if_pos hh]
  · unfold relE; rw [if_neg hx, if_neg hh]




end Go.Proofs.Ytiihfkjgdhfmiaa

namespace Go.Proofs.Ytiihfkjgdhfmiaa
open Go.RowKit

theorem known_any (op : Int) (h8 : op ≤ 127) (w : World) : Calls Try.prog 87 #[.int .i8 op] w fun e w' => e = .returned (.bool (decide (0 ≤ op ∧ op ≤ 21))) ∧ w' = w := by
  by_cases h : op < 0
  · rw [show decide (0 ≤ op ∧ op ≤ 21) = false from decide_eq_false (by omega)]
    go_enter Try.func87, Try.ntmps87
    go_wp2
    go_ret
    exact ⟨rfl, rfl⟩
  by_cases h2 : op < 22
  · rw [show decide (0 ≤ op ∧ op ≤ 21) = true from decide_eq_true (by omega)]
    go_enter Try.func87, Try.ntmps87
    go_wp2
    go_ret
    exact ⟨by first | rfl | (simp [h2]; done), rfl⟩
  · rw [show decide (0 ≤ op ∧ op ≤ 21) = false from decide_eq_false (by omega)]
    go_enter Try.func87, Try.ntmps87
    go_wp2
    go_ret
    exact ⟨by first | rfl | (simp [h2]; done), rfl⟩

/-- The fields of the ops, as bits. -/
def shL : List Int := [0, 9, 3, 7, 7, 7, 7, 7, 7, 7, 7, 11, 14, 1, 10, 24, 26, 24, 2, 2, 25, 0]
def sh (op : Int) : Int := shL.getD op.toNat 0

theorem fhas_any (f o : Int) (w : World) : Calls Try.prog 89 #[.int .u8 f, .int .u8 o] w fun e w' => e = .returned (.bool (bits .and .u8 f o != 0)) ∧ w' = w := by
  go_enter Try.func89, Try.ntmps89
  go_wp2
  go_ret
  exact ⟨rfl, rfl⟩

theorem signed_any (n : Int) (h0 : 0 ≤ n) (h1 : n < 4294967296) (w : World) : Calls Try.prog 85 #[.int .u32 n] w fun e w' => e = .returned (.int .i64 (if 16383 < n then n - 32768 else n)) ∧ w' = w := by
  by_cases h : 16383 < n
  · rw [if_pos h]
    go_enter Try.func85, Try.ntmps85
    go_wp2
    go_ret
    exact ⟨rfl, rfl⟩
  · rw [if_neg h]
    go_enter Try.func85, Try.ntmps85
    go_wp2
    go_ret
    exact ⟨rfl, rfl⟩

theorem fregister_any (f o r : Int) (h : Bool) (hh : (bits .and .u8 f o != 0) = h) (w : World) : Calls Try.prog 92 #[.int .u8 f, .int .u8 o, .int .i8 r] w fun e w' => e = .returned (.bool (regOK h r)) ∧ w' = w := by
  have C : ∀ wx : World, Calls Try.prog 89 #[.int .u8 f, .int .u8 o] wx fun e w' => e = .returned (.bool h) ∧ w' = wx := fun wx => by
    have k := fhas_any f o wx
    rw [hh] at k; exact k
  clear hh
  unfold regOK
  cases h
  · go_enter Try.func92, Try.ntmps92
    go_wp2_with (go_at_call 89; refine (C _).mono ?_; rintro e w1 ⟨rfl, rfl⟩)
    go_ret
    exact ⟨by first | rfl | (simp; done) | (simp; omega), rfl⟩
  · by_cases h1 : 0 ≤ r
    · go_enter Try.func92, Try.ntmps92
      go_wp2_with (go_at_call 89; refine (C _).mono ?_; rintro e w1 ⟨rfl, rfl⟩)
      go_ret
      exact ⟨by first | rfl | (simp; done) | (simp; omega), rfl⟩
    · go_enter Try.func92, Try.ntmps92
      go_wp2_with (go_at_call 89; refine (C _).mono ?_; rintro e w1 ⟨rfl, rfl⟩)
      go_ret
      exact ⟨by first | rfl | (simp; done) | (simp; omega), rfl⟩

def loN (n p : Bool) : Int := if p then 0 else if n then -16384 else 0
def hiN (n p : Bool) : Int := if p then 16383 else if n then 16383 else 0

theorem frange_any (f : Int) (n p : Bool) (hn : (bits .and .u8 f 8 != 0) = n) (hp : (bits .and .u8 f 16 != 0) = p) (w : World) : Calls Try.prog 91 #[.int .u8 f] w fun e w' => e = .returned (.tuple #[.int .i64 (loN n p), .int .i64 (hiN n p)]) ∧ w' = w := by
  have C1 : ∀ wx : World, Calls Try.prog 89 #[.int .u8 f, .int .u8 8] wx fun e w' => e = .returned (.bool n) ∧ w' = wx := fun wx => by
    have k := fhas_any f 8 wx
    rw [hn] at k; exact k
  have C2 : ∀ wx : World, Calls Try.prog 89 #[.int .u8 f, .int .u8 16] wx fun e w' => e = .returned (.bool p) ∧ w' = wx := fun wx => by
    have k := fhas_any f 16 wx
    rw [hp] at k; exact k
  clear hn hp
  unfold loN hiN
  cases p
  · cases n
    · go_enter Try.func91, Try.ntmps91
      go_wp2_with fail
      refine (C2 _).mono ?_
      rintro e w1 ⟨rfl, rfl⟩
      go_wp2_with fail
      refine (C1 _).mono ?_
      rintro e w1 ⟨rfl, rfl⟩
      go_wp2
      go_ret2
      exact ⟨rfl, rfl⟩
    · go_enter Try.func91, Try.ntmps91
      go_wp2_with fail
      refine (C2 _).mono ?_
      rintro e w1 ⟨rfl, rfl⟩
      go_wp2_with fail
      refine (C1 _).mono ?_
      rintro e w1 ⟨rfl, rfl⟩
      go_wp2
      go_ret2
      exact ⟨rfl, rfl⟩
  · go_enter Try.func91, Try.ntmps91
    go_wp2_with fail
    refine (C2 _).mono ?_
    rintro e w1 ⟨rfl, rfl⟩
    go_wp2
    go_ret2
    exact ⟨rfl, rfl⟩

theorem sh_bits (op : Int) (h0 : 0 ≤ op) (h1 : op ≤ 21) : (bits .and .u8 (sh op) 1 != 0) = hD op ∧ (bits .and .u8 (sh op) 2 != 0) = hA op ∧ (bits .and .u8 (sh op) 4 != 0) = hB op ∧ (bits .and .u8 (sh op) 8 != 0) = hN op ∧ (bits .and .u8 (sh op) 16 != 0) = hP op := by
  have h : ∀ k : Fin 22, (bits .and .u8 (sh (k.val : Int)) 1 != 0) = hD k.val ∧ (bits .and .u8 (sh (k.val : Int)) 2 != 0) = hA k.val ∧ (bits .and .u8 (sh (k.val : Int)) 4 != 0) = hB k.val ∧ (bits .and .u8 (sh (k.val : Int)) 8 != 0) = hN k.val ∧ (bits .and .u8 (sh (k.val : Int)) 16 != 0) = hP k.val := by decide +kernel
  have k := h ⟨op.toNat, by omega⟩
  simp only [Int.toNat_of_nonneg h0] at k
  exact k

theorem num_lohi (n p : Bool) (hpn : p = true → n = true) (x : Int) : (decide (loN n p ≤ x) && decide (x ≤ hiN n p)) = numOK n p x := by
  unfold loN hiN numOK
  cases n <;> cases p <;> simp at hpn ⊢ <;> (rw [Bool.eq_iff_iff]; simp; omega)

theorem hP_hN (op : Int) : hP op = true → hN op = true := by
  unfold hP hN; simp; omega





end Go.Proofs.Ytiihfkjgdhfmiaa

namespace Go.Proofs.Ytiihfkjgdhfmiaa
open Go.RowKit

def shV : Array Value := #[.int .u8 0, .int .u8 9, .int .u8 3, .int .u8 7, .int .u8 7, .int .u8 7, .int .u8 7, .int .u8 7, .int .u8 7, .int .u8 7, .int .u8 7, .int .u8 11, .int .u8 14, .int .u8 1, .int .u8 10, .int .u8 24, .int .u8 26, .int .u8 24, .int .u8 2, .int .u8 2, .int .u8 25, .int .u8 0]
def zs22 : Array Value := #[.int .u8 0, .int .u8 0, .int .u8 0, .int .u8 0, .int .u8 0, .int .u8 0, .int .u8 0, .int .u8 0, .int .u8 0, .int .u8 0, .int .u8 0, .int .u8 0, .int .u8 0, .int .u8 0, .int .u8 0, .int .u8 0, .int .u8 0, .int .u8 0, .int .u8 0, .int .u8 0, .int .u8 0, .int .u8 0]

theorem heap_new (w : World) (o : Obj) : (w.alloc o).heap[w.heap.size]? = some o := heap_alloc_new w o

theorem shapes_res (w1 : World) (g : Nat) (h : w1.heap[g]? = some (.cells shV 128 (0, 0))) : (results Try.f88 #[.pointer (some ⟨g, 0, none⟩), .agg shV]).run Try.prog w1 = .ok (.agg shV) w1 := by
  have hl := run_loadVar_row (P := Try.prog) w1 g 128 128 shV (0, 0) _ h Try.underlying128 rfl (by kernel_rfl)
  have ha : (asAddr (Value.pointer (some ⟨g, 0, none⟩))).run Try.prog w1 = .ok ⟨g, 0, none⟩ w1 := rfl
  have hm : (results Try.f88 #[.pointer (some ⟨g, 0, none⟩), .agg shV]) = (do
      let vs ← (Try.f88.results.mapM fun
        | .tmp t => pure ((#[Value.pointer (some ⟨g, 0, none⟩), .agg shV] : Array Value).getD t undef)
        | .cell a t => do loadVar t (← asAddr ((#[Value.pointer (some ⟨g, 0, none⟩), .agg shV] : Array Value).getD a undef)) : Sem (Array Value))
      pure (if h : vs.size = 1 then vs[0] else .tuple vs)) := rfl
  rw [hm, Try.results88]
  have hg0 : (#[Value.pointer (some ⟨g, 0, none⟩), Value.agg shV] : Array Value).getD 0 undef = .pointer (some ⟨g, 0, none⟩) := rfl
  simp only [List.mapM_toArray, List.mapM_cons, List.mapM_nil, map_eq_pure_bind, bind_assoc, pure_bind, Sem.run_bind, Sem.run_pure, Result.andThen_ok, hg0, ha, hl]
  rfl

set_option maxRecDepth 100000 in
theorem shapes_any (w : World) : Calls Try.prog 88 #[] w fun e w' => e = .returned (.agg shV) ∧ Below w.heap.size w w' := by
  go_enter Try.func88, Try.ntmps88
  go_upto_region 1 with fail
  rename_i hK
  apply wp_region_lit
  refine wpList_buildTo rfl 128 _ rfl (some 1) rfl shV (by kernel_rfl) ?_
  refine wpList_store_row rfl 128 _ _ rfl w.heap.size shV rfl rfl 128 zs22 (heap_new _ _) (by kernel_rfl) (by kernel_rfl) (by kernel_rfl) ?_
  apply wpList_nil
  refine hK _ _ (wp_ret ?_)
  exact bodyPost_ret (v := .agg shV) (shapes_res _ _ (setRow_heap _ _ zs22 _ _ _ (heap_new _ _))) rfl ⟨rfl, below_setRow (bel_alloc (Below.refl _ _) _) (Nat.le_refl _) _⟩
theorem index_sh0 (w : World) : (Instr.index 128 (.agg shV) (.int .i8 0)).run Try.prog w = .ok (.int .u8 (sh 0)) w := by kernel_rfl
theorem index_sh1 (w : World) : (Instr.index 128 (.agg shV) (.int .i8 1)).run Try.prog w = .ok (.int .u8 (sh 1)) w := by kernel_rfl
theorem index_sh2 (w : World) : (Instr.index 128 (.agg shV) (.int .i8 2)).run Try.prog w = .ok (.int .u8 (sh 2)) w := by kernel_rfl
theorem index_sh3 (w : World) : (Instr.index 128 (.agg shV) (.int .i8 3)).run Try.prog w = .ok (.int .u8 (sh 3)) w := by kernel_rfl
theorem index_sh4 (w : World) : (Instr.index 128 (.agg shV) (.int .i8 4)).run Try.prog w = .ok (.int .u8 (sh 4)) w := by kernel_rfl
theorem index_sh5 (w : World) : (Instr.index 128 (.agg shV) (.int .i8 5)).run Try.prog w = .ok (.int .u8 (sh 5)) w := by kernel_rfl
theorem index_sh6 (w : World) : (Instr.index 128 (.agg shV) (.int .i8 6)).run Try.prog w = .ok (.int .u8 (sh 6)) w := by kernel_rfl
theorem index_sh7 (w : World) : (Instr.index 128 (.agg shV) (.int .i8 7)).run Try.prog w = .ok (.int .u8 (sh 7)) w := by kernel_rfl
theorem index_sh8 (w : World) : (Instr.index 128 (.agg shV) (.int .i8 8)).run Try.prog w = .ok (.int .u8 (sh 8)) w := by kernel_rfl
theorem index_sh9 (w : World) : (Instr.index 128 (.agg shV) (.int .i8 9)).run Try.prog w = .ok (.int .u8 (sh 9)) w := by kernel_rfl
theorem index_sh10 (w : World) : (Instr.index 128 (.agg shV) (.int .i8 10)).run Try.prog w = .ok (.int .u8 (sh 10)) w := by kernel_rfl
theorem index_sh11 (w : World) : (Instr.index 128 (.agg shV) (.int .i8 11)).run Try.prog w = .ok (.int .u8 (sh 11)) w := by kernel_rfl
theorem index_sh12 (w : World) : (Instr.index 128 (.agg shV) (.int .i8 12)).run Try.prog w = .ok (.int .u8 (sh 12)) w := by kernel_rfl
theorem index_sh13 (w : World) : (Instr.index 128 (.agg shV) (.int .i8 13)).run Try.prog w = .ok (.int .u8 (sh 13)) w := by kernel_rfl
theorem index_sh14 (w : World) : (Instr.index 128 (.agg shV) (.int .i8 14)).run Try.prog w = .ok (.int .u8 (sh 14)) w := by kernel_rfl
theorem index_sh15 (w : World) : (Instr.index 128 (.agg shV) (.int .i8 15)).run Try.prog w = .ok (.int .u8 (sh 15)) w := by kernel_rfl
theorem index_sh16 (w : World) : (Instr.index 128 (.agg shV) (.int .i8 16)).run Try.prog w = .ok (.int .u8 (sh 16)) w := by kernel_rfl
theorem index_sh17 (w : World) : (Instr.index 128 (.agg shV) (.int .i8 17)).run Try.prog w = .ok (.int .u8 (sh 17)) w := by kernel_rfl
theorem index_sh18 (w : World) : (Instr.index 128 (.agg shV) (.int .i8 18)).run Try.prog w = .ok (.int .u8 (sh 18)) w := by kernel_rfl
theorem index_sh19 (w : World) : (Instr.index 128 (.agg shV) (.int .i8 19)).run Try.prog w = .ok (.int .u8 (sh 19)) w := by kernel_rfl
theorem index_sh20 (w : World) : (Instr.index 128 (.agg shV) (.int .i8 20)).run Try.prog w = .ok (.int .u8 (sh 20)) w := by kernel_rfl
theorem index_sh21 (w : World) : (Instr.index 128 (.agg shV) (.int .i8 21)).run Try.prog w = .ok (.int .u8 (sh 21)) w := by kernel_rfl
theorem index_sh (op : Int) (h0 : 0 ≤ op) (h1 : op ≤ 21) (w : World) : (Instr.index 128 (.agg shV) (.int .i8 op)).run Try.prog w = .ok (.int .u8 (sh op)) w := by
  have h : op = 0 ∨ op = 1 ∨ op = 2 ∨ op = 3 ∨ op = 4 ∨ op = 5 ∨ op = 6 ∨ op = 7 ∨ op = 8 ∨ op = 9 ∨ op = 10 ∨ op = 11 ∨ op = 12 ∨ op = 13 ∨ op = 14 ∨ op = 15 ∨ op = 16 ∨ op = 17 ∨ op = 18 ∨ op = 19 ∨ op = 20 ∨ op = 21 := by omega
  rcases h with rfl | rfl | rfl | rfl | rfl | rfl | rfl | rfl | rfl | rfl | rfl | rfl | rfl | rfl | rfl | rfl | rfl | rfl | rfl | rfl | rfl | rfl
  · exact index_sh0 w
  · exact index_sh1 w
  · exact index_sh2 w
  · exact index_sh3 w
  · exact index_sh4 w
  · exact index_sh5 w
  · exact index_sh6 w
  · exact index_sh7 w
  · exact index_sh8 w
  · exact index_sh9 w
  · exact index_sh10 w
  · exact index_sh11 w
  · exact index_sh12 w
  · exact index_sh13 w
  · exact index_sh14 w
  · exact index_sh15 w
  · exact index_sh16 w
  · exact index_sh17 w
  · exact index_sh18 w
  · exact index_sh19 w
  · exact index_sh20 w
  · exact index_sh21 w





end Go.Proofs.Ytiihfkjgdhfmiaa
