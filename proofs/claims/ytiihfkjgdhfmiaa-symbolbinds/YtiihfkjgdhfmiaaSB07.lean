/-
  The marks behind a list of numbers, looked at by the document's helpers: true where they stand; the list is at most 2^20 long. The marks behind a list of symbols, of relocations, looked at by the document's helpers: true where they stand; the list is at most 2^20 long. The marks behind an object's lists, looked at by the document's helper: true where they stand; the lists are at most 2^20 long. An object copied into memory of its own, with marks behind its lists, by the document's helper; its lists are at most 2^20 long. Where an object that was copied with marks lies, and that the marks stand; its lists are at most 2^20 long.
-/
import Derived.Test.YtiihfkjgdhfmiaaProg
import Derived.WalkKit
import Derived.WalkSpells
import Derived.WalkLawsBesides
import Derived.RowKit3
import Derived.Below
import Derived.Deep.QuietTactic
import Derived.BigQuiet
import Derived.WalkSmall
import Derived.Test.YtiihfkjgdhfmiaaSB03
import Derived.Test.YtiihfkjgdhfmiaaSB04
import Derived.Laws.Rows
namespace Go.Proofs.Ytiihfkjgdhfmiaa
open Go.RowKit

set_option maxRecDepth 100000 in
set_option maxHeartbeats 1000000 in
theorem sparewords_any (g n : Nat) (w : World) (hA : ∀ i, n ≤ i → i < n + 64 → w.cell? ⟨g, i, none⟩ = some (.int .u32 (9437184 + i + 1))) (hz : n ≤ 1048576) :
    Calls Try.prog 44 #[.slice (some ⟨g, 0, none⟩) n (n + 64)] w fun e w' => e = .returned (.bool true) ∧ w' = w := by
  go_enter Try.func44, Try.ntmps44
  go_wp2
  go_loop [4] (fun i => ∃ k : Nat, i = .int .i64 k ∧ n ≤ k ∧ k ≤ n + 64) (fun i => n + 64 - (intOf i).toNat)
  case atStart => exact ⟨n, rfl, by omega, by omega⟩
  case round =>
    obtain ⟨k, rfl, hk, hk2⟩ := hrel
    by_cases hlt : k < n + 64
    · have c := hA k hk hlt
      go_wp2_with fail
      refine (num_any 9 k (by omega) (by omega) (by omega) (by omega) _).mono ?_
      rintro e w1 ⟨rfl, rfl⟩
      go_wp2
      go_round
      case rel => exact ⟨k + 1, by go_num, by omega, by omega⟩
      case measure => simp [intOf]; omega
    · go_wp2
      go_ret
      exact ⟨rfl, rfl⟩

set_option maxRecDepth 100000 in
set_option maxHeartbeats 1000000 in
theorem sparelongs_any (g n : Nat) (w : World) (hA : ∀ i, n ≤ i → i < n + 64 → w.cell? ⟨g, i, none⟩ = some (.int .i64 (9437184 + i + 1))) (hz : n ≤ 1048576) :
    Calls Try.prog 45 #[.slice (some ⟨g, 0, none⟩) n (n + 64)] w fun e w' => e = .returned (.bool true) ∧ w' = w := by
  go_enter Try.func45, Try.ntmps45
  go_wp2
  go_loop [4] (fun i => ∃ k : Nat, i = .int .i64 k ∧ n ≤ k ∧ k ≤ n + 64) (fun i => n + 64 - (intOf i).toNat)
  case atStart => exact ⟨n, rfl, by omega, by omega⟩
  case round =>
    obtain ⟨k, rfl, hk, hk2⟩ := hrel
    by_cases hlt : k < n + 64
    · have c := hA k hk hlt
      go_wp2_with fail
      refine (num_any 9 k (by omega) (by omega) (by omega) (by omega) _).mono ?_
      rintro e w1 ⟨rfl, rfl⟩
      go_wp2
      go_round
      case rel => exact ⟨k + 1, by go_num, by omega, by omega⟩
      case measure => simp [intOf]; omega
    · go_wp2
      go_ret
      exact ⟨rfl, rfl⟩
set_option maxRecDepth 100000 in
set_option maxHeartbeats 1000000 in
theorem sparerel_any (g n : Nat) (w : World) (hA : ∀ i, n ≤ i → i < n + 64 → w.cell? ⟨g, i * 2, none⟩ = some (.int .i64 (9437184 + i + 1)) ∧ w.cell? ⟨g, i * 2 + 1, none⟩ = some (.int .i64 0)) (hz : n ≤ 1048576) :
    Calls Try.prog 47 #[.slice (some ⟨g, 0, none⟩) n (n + 64)] w fun e w' => e = .returned (.bool true) ∧ Below w.heap.size w w' := by
  go_enter Try.func47, Try.ntmps47
  go_wp2
  go_loopw [4] (fun i wr => ∃ k : Nat, i = .int .i64 k ∧ n ≤ k ∧ k ≤ n + 64 ∧ Below w.heap.size w wr) (fun i _ => n + 64 - (intOf i).toNat)
  case atStart => exact ⟨n, rfl, by omega, by omega, Below.refl _ _⟩
  case round =>
    obtain ⟨k, rfl, hk, hk2, hB⟩ := hrel
    rename_i wr _
    by_cases hlt : k < n + 64
    · obtain ⟨c0, c1⟩ := hA k hk hlt
      replace c0 := lkeep hB c0
      replace c1 := lkeep hB c1
      have HB : Hid (Below w.heap.size w _) := hB
      clear hB
      go_wp2_with fail
      go_quiet ((go_at_call 20; exact Calls.quiet_of_same (num_any _ _ (by omega) (by omega) (by omega) (by omega) _)))
      go_wp2
      go_roundw
      case rel => exact ⟨k + 1, by go_num, by omega, by omega, below_drewN (lb_alloc HB.out _) _⟩
      case measure => simp [intOf]; omega
    · go_wp2
      go_ret
      exact ⟨rfl, hB⟩

set_option maxRecDepth 100000 in
set_option maxHeartbeats 1000000 in
theorem sparesym_any (g n : Nat) (w : World) (hA : ∀ i, n ≤ i → i < n + 64 → w.cell? ⟨g, i * 3, none⟩ = some (.string ⟨#[]⟩) ∧ w.cell? ⟨g, i * 3 + 1, none⟩ = some (.int .i8 0) ∧ w.cell? ⟨g, i * 3 + 2, none⟩ = some (.int .i64 (9437184 + i + 1))) (hz : n ≤ 1048576) :
    Calls Try.prog 46 #[.slice (some ⟨g, 0, none⟩) n (n + 64)] w fun e w' => e = .returned (.bool true) ∧ Below w.heap.size w w' := by
  go_enter Try.func46, Try.ntmps46
  go_wp2
  go_loopw [4] (fun i wr => ∃ k : Nat, i = .int .i64 k ∧ n ≤ k ∧ k ≤ n + 64 ∧ Below w.heap.size w wr) (fun i _ => n + 64 - (intOf i).toNat)
  case atStart => exact ⟨n, rfl, by omega, by omega, Below.refl _ _⟩
  case round =>
    obtain ⟨k, rfl, hk, hk2, hB⟩ := hrel
    rename_i wr _
    by_cases hlt : k < n + 64
    · obtain ⟨c0, c1, c2⟩ := hA k hk hlt
      replace c0 := lkeep hB c0
      replace c1 := lkeep hB c1
      replace c2 := lkeep hB c2
      have HB : Hid (Below w.heap.size w _) := hB
      clear hB
      go_wp2_with fail
      go_quiet ((go_at_call 20; exact Calls.quiet_of_same (num_any _ _ (by omega) (by omega) (by omega) (by omega) _)))
      go_wp2
      go_roundw
      case rel => exact ⟨k + 1, by go_num, by omega, by omega, below_drewN (lb_alloc HB.out _) _⟩
      case measure => simp [intOf]; omega
    · go_wp2
      go_ret
      exact ⟨rfl, hB⟩
def MarkI (w : World) (K : IntKind) (g n : Nat) : Prop := ∀ i, n ≤ i → i < n + 64 → w.cell? ⟨g, i, none⟩ = some (.int K (9437184 + i + 1))
def MarkS (w : World) (g n : Nat) : Prop := ∀ i, n ≤ i → i < n + 64 → w.cell? ⟨g, i * 3, none⟩ = some (.string ⟨#[]⟩) ∧ w.cell? ⟨g, i * 3 + 1, none⟩ = some (.int .i8 0) ∧ w.cell? ⟨g, i * 3 + 2, none⟩ = some (.int .i64 (9437184 + i + 1))
def MarkR (w : World) (g n : Nat) : Prop := ∀ i, n ≤ i → i < n + 64 → w.cell? ⟨g, i * 2, none⟩ = some (.int .i64 (9437184 + i + 1)) ∧ w.cell? ⟨g, i * 2 + 1, none⟩ = some (.int .i64 0)
theorem MarkI.keep {w w1 : World} {K : IntKind} {g n : Nat} (h : MarkI w K g n) (hb : Below w.heap.size w w1) : MarkI w1 K g n := fun i a b => lkeep hb (h i a b)
theorem MarkS.keep {w w1 : World} {g n : Nat} (h : MarkS w g n) (hb : Below w.heap.size w w1) : MarkS w1 g n := fun i a b => ⟨lkeep hb (h i a b).1, lkeep hb (h i a b).2.1, lkeep hb (h i a b).2.2⟩
theorem MarkR.keep {w w1 : World} {g n : Nat} (h : MarkR w g n) (hb : Below w.heap.size w w1) : MarkR w1 g n := fun i a b => ⟨lkeep hb (h i a b).1, lkeep hb (h i a b).2⟩
set_option maxRecDepth 100000 in
set_option maxHeartbeats 2000000 in
theorem spareobj_any (nm : ByteArray) (dA : Int) (g1 n1 g2 n2 g3 n3 g4 n4 : Nat) (w : World) (m1 : MarkI w .u32 g1 n1) (m2 : MarkI w .i64 g2 n2) (m3 : MarkS w g3 n3) (m4 : MarkR w g4 n4) (b1 : n1 ≤ 1048576) (b2 : n2 ≤ 1048576) (b3 : n3 ≤ 1048576) (b4 : n4 ≤ 1048576) :
    Calls Try.prog 30 #[.agg #[.string nm, .slice (some ⟨g1, 0, none⟩) n1 (n1 + 64), .int .i64 dA, .slice (some ⟨g2, 0, none⟩) n2 (n2 + 64), .slice (some ⟨g3, 0, none⟩) n3 (n3 + 64), .slice (some ⟨g4, 0, none⟩) n4 (n4 + 64)]] w fun e w' => e = .returned (.bool true) ∧ Below w.heap.size w w' := by
  go_enter Try.func30, Try.ntmps30
  go_wp2_with fail
  refine (sparewords_any g1 n1 _ (m1.keep (lb_alloc (Below.refl _ _) _)) b1).mono ?_
  rintro e w0 ⟨rfl, rfl⟩
  go_wp2_with fail
  refine (sparelongs_any g2 n2 _ (m2.keep (lb_alloc (Below.refl _ _) _)) b2).mono ?_
  rintro e w1 ⟨rfl, rfl⟩
  go_wp2_with fail
  refine (sparesym_any g3 n3 _ (m3.keep (lb_alloc (Below.refl _ _) _)) b3).mono ?_
  rintro e w2 ⟨rfl, hb2⟩
  have HB2 : Hid (Below w.heap.size w w2) := lb_trans (lb_alloc (Below.refl _ _) _) hb2
  have q20 : w2.cell? ⟨w.heap.size, 0, none⟩ = some (.string nm) := lkeep hb2 (by simp [go_sem])
  have q21 : w2.cell? ⟨w.heap.size, 1, none⟩ = some (.slice (some ⟨g1, 0, none⟩) n1 (n1 + 64)) := lkeep hb2 (by simp [go_sem])
  have q22 : w2.cell? ⟨w.heap.size, 2, none⟩ = some (.int .i64 dA) := lkeep hb2 (by simp [go_sem])
  have q23 : w2.cell? ⟨w.heap.size, 3, none⟩ = some (.slice (some ⟨g2, 0, none⟩) n2 (n2 + 64)) := lkeep hb2 (by simp [go_sem])
  have q24 : w2.cell? ⟨w.heap.size, 4, none⟩ = some (.slice (some ⟨g3, 0, none⟩) n3 (n3 + 64)) := lkeep hb2 (by simp [go_sem])
  have q25 : w2.cell? ⟨w.heap.size, 5, none⟩ = some (.slice (some ⟨g4, 0, none⟩) n4 (n4 + 64)) := lkeep hb2 (by simp [go_sem])
  clear hb2
  go_wp2_with fail
  refine (sparerel_any g4 n4 _ (m4.keep (HB2.out)) b4).mono ?_
  rintro e w3 ⟨rfl, hb3⟩
  have HB3 : Hid (Below w.heap.size w w3) := lb_trans (HB2.out) hb3
  have q30 := lkeep hb3 q20
  have q31 := lkeep hb3 q21
  have q32 := lkeep hb3 q22
  have q33 := lkeep hb3 q23
  have q34 := lkeep hb3 q24
  have q35 := lkeep hb3 q25
  clear hb3
  go_wp2
  go_ret
  exact ⟨rfl, HB3.out⟩





end Go.Proofs.Ytiihfkjgdhfmiaa

namespace Go.Proofs.Ytiihfkjgdhfmiaa
open Go.RowKit

set_option maxRecDepth 100000 in
set_option maxHeartbeats 2000000 in
theorem wideobj_any (nm : ByteArray) (dA : Int) (A1 A2 A3 A4 : Option Addr) (c1 c2 c3 c4 : Nat) (code data : List Int) (ss : List Sym) (rs : List Rel) (w : World) (hC : IntsAt w A1 .u32 code) (hD : IntsAt w A2 .i64 data) (hS : SymsAt w A3 ss) (hL : RelsAt w A4 rs) (hc : code.length ≤ 1048576) (hd : data.length ≤ 1048576) (hs : ss.length ≤ 1048576) (hl : rs.length ≤ 1048576) :
    Calls Try.prog 19 #[.agg #[.string nm, .slice A1 code.length c1, .int .i64 dA, .slice A2 data.length c2, .slice A3 ss.length c3, .slice A4 rs.length c4]] w fun e w' => e = .returned (.agg #[.string nm, .slice (some ⟨w.heap.size + 2, 0, none⟩) code.length (code.length + 64), .int .i64 dA, .slice (some ⟨w.heap.size + 3, 0, none⟩) data.length (data.length + 64), .slice (some ⟨w.heap.size + 4, 0, none⟩) ss.length (ss.length + 64), .slice (some ⟨w.heap.size + 5, 0, none⟩) rs.length (rs.length + 64)]) ∧ w' = (((((w.alloc (.cells #[.string nm, .slice (some ⟨w.heap.size + 2, 0, none⟩) code.length (code.length + 64), .int .i64 dA, .slice (some ⟨w.heap.size + 3, 0, none⟩) data.length (data.length + 64), .slice (some ⟨w.heap.size + 4, 0, none⟩) ss.length (ss.length + 64), .slice (some ⟨w.heap.size + 5, 0, none⟩) rs.length (rs.length + 64)] 49)).alloc (.cells #[.string nm, .slice (some ⟨w.heap.size + 2, 0, none⟩) code.length (code.length + 64), .int .i64 dA, .slice (some ⟨w.heap.size + 3, 0, none⟩) data.length (data.length + 64), .slice (some ⟨w.heap.size + 4, 0, none⟩) ss.length (ss.length + 64), .slice (some ⟨w.heap.size + 5, 0, none⟩) rs.length (rs.length + 64)] 49)).alloc (.cells (wcur (wInt .u32 code) (fun _ => .int .u32 0) (code.length + 64) (code.length + 64)) 78)).alloc (.cells (wcur (wInt .i64 data) (fun _ => .int .i64 0) (data.length + 64) (data.length + 64)) 2)).alloc (.cells (wcur (wSym ss) zSym ((ss.length + 64) * 3) ((ss.length + 64) * 3)) 52)).alloc (.cells (wcur (wRel rs) (fun _ => .int .i64 0) ((rs.length + 64) * 2) ((rs.length + 64) * 2)) 96) := by
  go_enter Try.func19, Try.ntmps19
  go_wp2_with fail
  refine (widewords_any A1 c1 code _ (hC.keep (lb_alloc (lb_alloc (Below.refl _ _) _) _)) hc).mono ?_
  rintro e w1 ⟨rfl, rfl⟩
  go_wp2_with fail
  refine (widelongs_any A2 c2 data _ (hD.keep (lb_alloc (lb_alloc (lb_alloc (Below.refl _ _) _) _) _)) hd).mono ?_
  rintro e w1 ⟨rfl, rfl⟩
  go_wp2_with fail
  refine (widesym_any A3 c3 ss _ (hS.keep (lb_alloc (lb_alloc (lb_alloc (lb_alloc (Below.refl _ _) _) _) _) _)) hs).mono ?_
  rintro e w1 ⟨rfl, rfl⟩
  go_wp2_with fail
  refine (widerel_any A4 c4 rs _ (hL.keep (lb_alloc (lb_alloc (lb_alloc (lb_alloc (lb_alloc (Below.refl _ _) _) _) _) _) _)) hl).mono ?_
  rintro e w1 ⟨rfl, rfl⟩
  go_wp2
  exact bodyPost_ret (v := .agg #[.string nm, .slice (some ⟨w.heap.size + 2, 0, none⟩) code.length (code.length + 64), .int .i64 dA, .slice (some ⟨w.heap.size + 3, 0, none⟩) data.length (data.length + 64), .slice (some ⟨w.heap.size + 4, 0, none⟩) ss.length (ss.length + 64), .slice (some ⟨w.heap.size + 5, 0, none⟩) rs.length (rs.length + 64)]) (by simp [results, Try.results19, go_sem]) rfl ⟨rfl, rfl⟩






end Go.Proofs.Ytiihfkjgdhfmiaa

namespace Go.Proofs.Ytiihfkjgdhfmiaa
open Go.RowKit

theorem al_size (X : World) (o : Obj) : (X.alloc o).heap.size = X.heap.size + 1 := by simp
theorem addz (g i : Nat) : (⟨g, 0, none⟩ : Addr).add i = ⟨g, i, none⟩ := by
  unfold Addr.add; split
  · subst_vars; rfl
  · simp
theorem addz2 (g i j : Nat) (hj : ¬ j = 0) : ((⟨g, 0, none⟩ : Addr).add i).add j = ⟨g, i + j, none⟩ := by
  rw [addz]; unfold Addr.add; rw [if_neg hj]
theorem row_new (X : World) (cs : Array Value) (t : TypeId) (j : Nat) (v : Value) (h : cs[j]? = some v) : (X.alloc (.cells cs t)).cell? ⟨X.heap.size, j, none⟩ = some v := by
  rw [cell_of_row _ _ _ _ _ _ (heap_alloc_new X _)]; exact h
theorem wcur_full (f z : Nat → Value) (N i : Nat) (h : i < N) : (wcur f z N N)[i]? = some (f i) := by rw [wcur_get _ _ _ _ _ h, if_pos h]
theorem wide_ints (X : World) (K : IntKind) (z : Nat → Value) (zs : List Int) (t : TypeId) : IntsAt (X.alloc (.cells (wcur (wInt K zs) z (zs.length + 64) (zs.length + 64)) t)) (some ⟨X.heap.size, 0, none⟩) K zs := fun i hi =>
  ⟨_, rfl, by rw [addz]; exact row_new _ _ _ _ _ (by rw [wcur_full _ _ _ _ (by omega)]; simp [wInt, hi])⟩
theorem wide_marki (X : World) (K : IntKind) (z : Nat → Value) (zs : List Int) (t : TypeId) : MarkI (X.alloc (.cells (wcur (wInt K zs) z (zs.length + 64) (zs.length + 64)) t)) K X.heap.size zs.length := fun i h1 h2 =>
  row_new _ _ _ _ _ (by rw [wcur_full _ _ _ _ h2]; simp [wInt, mark, show ¬ i < zs.length by omega])
theorem wide_syms (X : World) (zs : List Sym) (t : TypeId) : SymsAt (X.alloc (.cells (wcur (wSym zs) zSym ((zs.length + 64) * 3) ((zs.length + 64) * 3)) t)) (some ⟨X.heap.size, 0, none⟩) zs := fun i hi =>
  ⟨_, rfl, by rw [addz]; exact row_new _ _ _ _ _ (by rw [wcur_full _ _ _ _ (by omega), wSym_item0 zs i hi]), by rw [addz2 _ _ _ (by omega)]; exact row_new _ _ _ _ _ (by rw [wcur_full _ _ _ _ (by omega), wSym_item1 zs i hi]), by rw [addz2 _ _ _ (by omega)]; exact row_new _ _ _ _ _ (by rw [wcur_full _ _ _ _ (by omega), wSym_item2 zs i hi])⟩
theorem wide_marks (X : World) (zs : List Sym) (t : TypeId) : MarkS (X.alloc (.cells (wcur (wSym zs) zSym ((zs.length + 64) * 3) ((zs.length + 64) * 3)) t)) X.heap.size zs.length := fun i h1 h2 =>
  ⟨row_new _ _ _ _ _ (by rw [wcur_full _ _ _ _ (by omega), wSym_mark0 zs i (by omega)]), row_new _ _ _ _ _ (by rw [wcur_full _ _ _ _ (by omega), wSym_mark1 zs i (by omega)]), row_new _ _ _ _ _ (by rw [wcur_full _ _ _ _ (by omega), wSym_mark2 zs i (by omega)])⟩
theorem wide_rels (X : World) (z : Nat → Value) (zs : List Rel) (t : TypeId) : RelsAt (X.alloc (.cells (wcur (wRel zs) z ((zs.length + 64) * 2) ((zs.length + 64) * 2)) t)) (some ⟨X.heap.size, 0, none⟩) zs := fun i hi =>
  ⟨_, rfl, by rw [addz]; exact row_new _ _ _ _ _ (by rw [wcur_full _ _ _ _ (by omega), wRel_item0 zs i hi]), by rw [addz2 _ _ _ (by omega)]; exact row_new _ _ _ _ _ (by rw [wcur_full _ _ _ _ (by omega), wRel_item1 zs i hi])⟩
theorem wide_markr (X : World) (z : Nat → Value) (zs : List Rel) (t : TypeId) : MarkR (X.alloc (.cells (wcur (wRel zs) z ((zs.length + 64) * 2) ((zs.length + 64) * 2)) t)) X.heap.size zs.length := fun i h1 h2 =>
  ⟨row_new _ _ _ _ _ (by rw [wcur_full _ _ _ _ (by omega), wRel_mark0 zs i (by omega)]), row_new _ _ _ _ _ (by rw [wcur_full _ _ _ _ (by omega), wRel_mark1 zs i (by omega)])⟩
theorem wideobj_lies (nm : ByteArray) (dA : Int) (A1 A2 A3 A4 : Option Addr) (c1 c2 c3 c4 : Nat) (code data : List Int) (ss : List Sym) (rs : List Rel) (w : World) (hC : IntsAt w A1 .u32 code) (hD : IntsAt w A2 .i64 data) (hS : SymsAt w A3 ss) (hL : RelsAt w A4 rs) (hc : code.length ≤ 1048576) (hd : data.length ≤ 1048576) (hs : ss.length ≤ 1048576) (hl : rs.length ≤ 1048576) :
    Calls Try.prog 19 #[.agg #[.string nm, .slice A1 code.length c1, .int .i64 dA, .slice A2 data.length c2, .slice A3 ss.length c3, .slice A4 rs.length c4]] w fun e w' => ∃ g1 g2 g3 g4 : Nat, e = .returned (.agg #[.string nm, .slice (some ⟨g1, 0, none⟩) code.length (code.length + 64), .int .i64 dA, .slice (some ⟨g2, 0, none⟩) data.length (data.length + 64), .slice (some ⟨g3, 0, none⟩) ss.length (ss.length + 64), .slice (some ⟨g4, 0, none⟩) rs.length (rs.length + 64)]) ∧
      Below w.heap.size w w' ∧ IntsAt w' (some ⟨g1, 0, none⟩) .u32 code ∧ IntsAt w' (some ⟨g2, 0, none⟩) .i64 data ∧ SymsAt w' (some ⟨g3, 0, none⟩) ss ∧ RelsAt w' (some ⟨g4, 0, none⟩) rs ∧ MarkI w' .u32 g1 code.length ∧ MarkI w' .i64 g2 data.length ∧ MarkS w' g3 ss.length ∧ MarkR w' g4 rs.length := by
  refine (wideobj_any nm dA A1 A2 A3 A4 c1 c2 c3 c4 code data ss rs w hC hD hS hL hc hd hs hl).mono ?_
  rintro e w' ⟨rfl, rfl⟩
  refine ⟨w.heap.size + 2, w.heap.size + 3, w.heap.size + 4, w.heap.size + 5, rfl, lb_alloc (lb_alloc (lb_alloc (lb_alloc (lb_alloc (lb_alloc (Below.refl _ _) _) _) _) _) _) _, ?_, ?_, ?_, ?_, ?_, ?_, ?_, ?_⟩
  · have h := wide_ints ((w.alloc (.cells #[.string nm, .slice (some ⟨w.heap.size + 2, 0, none⟩) code.length (code.length + 64), .int .i64 dA, .slice (some ⟨w.heap.size + 3, 0, none⟩) data.length (data.length + 64), .slice (some ⟨w.heap.size + 4, 0, none⟩) ss.length (ss.length + 64), .slice (some ⟨w.heap.size + 5, 0, none⟩) rs.length (rs.length + 64)] 49)).alloc (.cells #[.string nm, .slice (some ⟨w.heap.size + 2, 0, none⟩) code.length (code.length + 64), .int .i64 dA, .slice (some ⟨w.heap.size + 3, 0, none⟩) data.length (data.length + 64), .slice (some ⟨w.heap.size + 4, 0, none⟩) ss.length (ss.length + 64), .slice (some ⟨w.heap.size + 5, 0, none⟩) rs.length (rs.length + 64)] 49)) .u32 (fun _ => .int .u32 0) code 78
    simp only [al_size, Nat.add_assoc, Nat.reduceAdd] at h
    exact h.keep (lb_alloc (lb_alloc (lb_alloc (Below.refl _ _) _) _) _)
  · have h := wide_ints (((w.alloc (.cells #[.string nm, .slice (some ⟨w.heap.size + 2, 0, none⟩) code.length (code.length + 64), .int .i64 dA, .slice (some ⟨w.heap.size + 3, 0, none⟩) data.length (data.length + 64), .slice (some ⟨w.heap.size + 4, 0, none⟩) ss.length (ss.length + 64), .slice (some ⟨w.heap.size + 5, 0, none⟩) rs.length (rs.length + 64)] 49)).alloc (.cells #[.string nm, .slice (some ⟨w.heap.size + 2, 0, none⟩) code.length (code.length + 64), .int .i64 dA, .slice (some ⟨w.heap.size + 3, 0, none⟩) data.length (data.length + 64), .slice (some ⟨w.heap.size + 4, 0, none⟩) ss.length (ss.length + 64), .slice (some ⟨w.heap.size + 5, 0, none⟩) rs.length (rs.length + 64)] 49)).alloc (.cells (wcur (wInt .u32 code) (fun _ => .int .u32 0) (code.length + 64) (code.length + 64)) 78)) .i64 (fun _ => .int .i64 0) data 2
    simp only [al_size, Nat.add_assoc, Nat.reduceAdd] at h
    exact h.keep (lb_alloc (lb_alloc (Below.refl _ _) _) _)
  · have h := wide_syms ((((w.alloc (.cells #[.string nm, .slice (some ⟨w.heap.size + 2, 0, none⟩) code.length (code.length + 64), .int .i64 dA, .slice (some ⟨w.heap.size + 3, 0, none⟩) data.length (data.length + 64), .slice (some ⟨w.heap.size + 4, 0, none⟩) ss.length (ss.length + 64), .slice (some ⟨w.heap.size + 5, 0, none⟩) rs.length (rs.length + 64)] 49)).alloc (.cells #[.string nm, .slice (some ⟨w.heap.size + 2, 0, none⟩) code.length (code.length + 64), .int .i64 dA, .slice (some ⟨w.heap.size + 3, 0, none⟩) data.length (data.length + 64), .slice (some ⟨w.heap.size + 4, 0, none⟩) ss.length (ss.length + 64), .slice (some ⟨w.heap.size + 5, 0, none⟩) rs.length (rs.length + 64)] 49)).alloc (.cells (wcur (wInt .u32 code) (fun _ => .int .u32 0) (code.length + 64) (code.length + 64)) 78)).alloc (.cells (wcur (wInt .i64 data) (fun _ => .int .i64 0) (data.length + 64) (data.length + 64)) 2)) ss 52
    simp only [al_size, Nat.add_assoc, Nat.reduceAdd] at h
    exact h.keep (lb_alloc (Below.refl _ _) _)
  · have h := wide_rels (((((w.alloc (.cells #[.string nm, .slice (some ⟨w.heap.size + 2, 0, none⟩) code.length (code.length + 64), .int .i64 dA, .slice (some ⟨w.heap.size + 3, 0, none⟩) data.length (data.length + 64), .slice (some ⟨w.heap.size + 4, 0, none⟩) ss.length (ss.length + 64), .slice (some ⟨w.heap.size + 5, 0, none⟩) rs.length (rs.length + 64)] 49)).alloc (.cells #[.string nm, .slice (some ⟨w.heap.size + 2, 0, none⟩) code.length (code.length + 64), .int .i64 dA, .slice (some ⟨w.heap.size + 3, 0, none⟩) data.length (data.length + 64), .slice (some ⟨w.heap.size + 4, 0, none⟩) ss.length (ss.length + 64), .slice (some ⟨w.heap.size + 5, 0, none⟩) rs.length (rs.length + 64)] 49)).alloc (.cells (wcur (wInt .u32 code) (fun _ => .int .u32 0) (code.length + 64) (code.length + 64)) 78)).alloc (.cells (wcur (wInt .i64 data) (fun _ => .int .i64 0) (data.length + 64) (data.length + 64)) 2)).alloc (.cells (wcur (wSym ss) zSym ((ss.length + 64) * 3) ((ss.length + 64) * 3)) 52)) (fun _ => .int .i64 0) rs 96
    simp only [al_size, Nat.add_assoc, Nat.reduceAdd] at h
    exact h
  · have h := wide_marki ((w.alloc (.cells #[.string nm, .slice (some ⟨w.heap.size + 2, 0, none⟩) code.length (code.length + 64), .int .i64 dA, .slice (some ⟨w.heap.size + 3, 0, none⟩) data.length (data.length + 64), .slice (some ⟨w.heap.size + 4, 0, none⟩) ss.length (ss.length + 64), .slice (some ⟨w.heap.size + 5, 0, none⟩) rs.length (rs.length + 64)] 49)).alloc (.cells #[.string nm, .slice (some ⟨w.heap.size + 2, 0, none⟩) code.length (code.length + 64), .int .i64 dA, .slice (some ⟨w.heap.size + 3, 0, none⟩) data.length (data.length + 64), .slice (some ⟨w.heap.size + 4, 0, none⟩) ss.length (ss.length + 64), .slice (some ⟨w.heap.size + 5, 0, none⟩) rs.length (rs.length + 64)] 49)) .u32 (fun _ => .int .u32 0) code 78
    simp only [al_size, Nat.add_assoc, Nat.reduceAdd] at h
    exact h.keep (lb_alloc (lb_alloc (lb_alloc (Below.refl _ _) _) _) _)
  · have h := wide_marki (((w.alloc (.cells #[.string nm, .slice (some ⟨w.heap.size + 2, 0, none⟩) code.length (code.length + 64), .int .i64 dA, .slice (some ⟨w.heap.size + 3, 0, none⟩) data.length (data.length + 64), .slice (some ⟨w.heap.size + 4, 0, none⟩) ss.length (ss.length + 64), .slice (some ⟨w.heap.size + 5, 0, none⟩) rs.length (rs.length + 64)] 49)).alloc (.cells #[.string nm, .slice (some ⟨w.heap.size + 2, 0, none⟩) code.length (code.length + 64), .int .i64 dA, .slice (some ⟨w.heap.size + 3, 0, none⟩) data.length (data.length + 64), .slice (some ⟨w.heap.size + 4, 0, none⟩) ss.length (ss.length + 64), .slice (some ⟨w.heap.size + 5, 0, none⟩) rs.length (rs.length + 64)] 49)).alloc (.cells (wcur (wInt .u32 code) (fun _ => .int .u32 0) (code.length + 64) (code.length + 64)) 78)) .i64 (fun _ => .int .i64 0) data 2
    simp only [al_size, Nat.add_assoc, Nat.reduceAdd] at h
    exact h.keep (lb_alloc (lb_alloc (Below.refl _ _) _) _)
  · have h := wide_marks ((((w.alloc (.cells #[.string nm, .slice (some ⟨w.heap.size + 2, 0, none⟩) code.length (code.length + 64), .int .i64 dA, .slice (some ⟨w.heap.size + 3, 0, none⟩) data.length (data.length + 64), .slice (some ⟨w.heap.size + 4, 0, none⟩) ss.length (ss.length + 64), .slice (some ⟨w.heap.size + 5, 0, none⟩) rs.length (rs.length + 64)] 49)).alloc (.cells #[.string nm, .slice (some ⟨w.heap.size + 2, 0, none⟩) code.length (code.length + 64), .int .i64 dA, .slice (some ⟨w.heap.size + 3, 0, none⟩) data.length (data.length + 64), .slice (some ⟨w.heap.size + 4, 0, none⟩) ss.length (ss.length + 64), .slice (some ⟨w.heap.size + 5, 0, none⟩) rs.length (rs.length + 64)] 49)).alloc (.cells (wcur (wInt .u32 code) (fun _ => .int .u32 0) (code.length + 64) (code.length + 64)) 78)).alloc (.cells (wcur (wInt .i64 data) (fun _ => .int .i64 0) (data.length + 64) (data.length + 64)) 2)) ss 52
    simp only [al_size, Nat.add_assoc, Nat.reduceAdd] at h
    exact h.keep (lb_alloc (Below.refl _ _) _)
  · have h := wide_markr (((((w.alloc (.cells #[.string nm, .slice (some ⟨w.heap.size + 2, 0, none⟩) code.length (code.length + 64), .int .i64 dA, .slice (some ⟨w.heap.size + 3, 0, none⟩) data.length (data.length + 64), .slice (some ⟨w.heap.size + 4, 0, none⟩) ss.length (ss.length + 64), .slice (some ⟨w.heap.size + 5, 0, none⟩) rs.length (rs.length + 64)] 49)).alloc (.cells #[.string nm, .slice (some ⟨w.heap.size + 2, 0, none⟩) code.length (code.length + 64), .int .i64 dA, .slice (some ⟨w.heap.size + 3, 0, none⟩) data.length (data.length + 64), .slice (some ⟨w.heap.size + 4, 0, none⟩) ss.length (ss.length + 64), .slice (some ⟨w.heap.size + 5, 0, none⟩) rs.length (rs.length + 64)] 49)).alloc (.cells (wcur (wInt .u32 code) (fun _ => .int .u32 0) (code.length + 64) (code.length + 64)) 78)).alloc (.cells (wcur (wInt .i64 data) (fun _ => .int .i64 0) (data.length + 64) (data.length + 64)) 2)).alloc (.cells (wcur (wSym ss) zSym ((ss.length + 64) * 3) ((ss.length + 64) * 3)) 52)) (fun _ => .int .i64 0) rs 96
    simp only [al_size, Nat.add_assoc, Nat.reduceAdd] at h
    exact h






end Go.Proofs.Ytiihfkjgdhfmiaa
