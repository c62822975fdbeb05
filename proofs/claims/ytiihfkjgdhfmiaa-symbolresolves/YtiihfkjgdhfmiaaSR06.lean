/-
  An object copied into memory of its own, with marks behind its lists, by the document's helper; its lists are at most 2^20 long. Where an object that was copied with marks lies, and that the marks stand; its lists are at most 2^20 long. The marks behind a list of objects stand.
-/
import Derived.Test.YtiihfkjgdhfmiaaProg
import Derived.WalkKit
import Derived.WalkSpells
import Derived.WalkLawsBesides
import Derived.RowKit3
import Derived.Below
import Derived.Deep.QuietTactic
import Derived.BigQuiet
import Derived.WalkSmall
import Derived.Test.YtiihfkjgdhfmiaaSR03
import Derived.Test.YtiihfkjgdhfmiaaSR04
import Derived.Test.YtiihfkjgdhfmiaaSR05
import Derived.Laws.Rows
import Derived.Test.YtiihfkjgdhfmiaaSR02
namespace Go.Proofs.Ytiihfkjgdhfmiaa
open Go.RowKit

set_option maxRecDepth 100000 in
set_option maxHeartbeats 2000000 in
theorem wideobj_any (nm : ByteArray) (dA : Int) (A1 A2 A3 A4 : Option Addr) (c1 c2 c3 c4 : Nat) (code data : List Int) (ss : List Sym) (rs : List Rel) (w : World) (hC : IntsAt w A1 .u32 code) (hD : IntsAt w A2 .i64 data) (hS : SymsAt w A3 ss) (hL : RelsAt w A4 rs) (hc : code.length ≤ 1048576) (hd : data.length ≤ 1048576) (hs : ss.length ≤ 1048576) (hl : rs.length ≤ 1048576) :
    Calls Try.prog 19 #[.agg #[.string nm, .slice A1 code.length c1, .int .i64 dA, .slice A2 data.length c2, .slice A3 ss.length c3, .slice A4 rs.length c4]] w fun e w' => e = .returned (.agg #[.string nm, .slice (some ⟨w.heap.size + 2, 0, none⟩) code.length (code.length + 64), .int .i64 dA, .slice (some ⟨w.heap.size + 3, 0, none⟩) data.length (data.length + 64), .slice (some ⟨w.heap.size + 4, 0, none⟩) ss.length (ss.length + 64), .slice (some ⟨w.heap.size + 5, 0, none⟩) rs.length (rs.length + 64)]) ∧ w' = (((((w.alloc (.cells #[.string nm, .slice (some ⟨w.heap.size + 2, 0, none⟩) code.length (code.length + 64), .int .i64 dA, .slice (some ⟨w.heap.size + 3, 0, none⟩) data.length (data.length + 64), .slice (some ⟨w.heap.size + 4, 0, none⟩) ss.length (ss.length + 64), .slice (some ⟨w.heap.size + 5, 0, none⟩) rs.length (rs.length + 64)] 49)).alloc (.cells #[.string nm, .slice (some ⟨w.heap.size + 2, 0, none⟩) code.length (code.length + 64), .int .i64 dA, .slice (some ⟨w.heap.size + 3, 0, none⟩) data.length (data.length + 64), .slice (some ⟨w.heap.size + 4, 0, none⟩) ss.length (ss.length + 64), .slice (some ⟨w.heap.size + 5, 0, none⟩) rs.length (rs.length + 64)] 49)).alloc (.cells (wcur (wInt .u32 code) (fun _ => .int .u32 0) (code.length + 64) (code.length + 64)) 78)).alloc (.cells (wcur (wInt .i64 data) (fun _ => .int .i64 0) (data.length + 64) (data.length + 64)) 2)).alloc (.cells (wcur (wSym ss) zSym ((ss.length + 64) * 3) ((ss.length + 64) * 3)) 52)).alloc (.cells (wcur (wRel rs) (fun _ => .int .i64 0) ((rs.length + 64) * 2) ((rs.length + 64) * 2)) 96) := by
  go_enter Try.func19, Try.ntmps19
  go_wp2_with fail
  refine (widewords_any A1 c1 code _ (hC.keep (lb_alloc (lb_alloc (Below.refl _ _) _) _)) hc).mono ?_
  rintro e w1 ⟨rfl, rfl⟩
  go_wp2_with fail
  refine (widelongs_any A2 c2 data _ (hD.keep (lb_alloc (lb_alloc (lb_alloc (Below.refl _ _) _) _) _)) hd).mono ?_
  rintro e w1 ⟨rfl, rfl⟩
  go_wp2_with fail
  refine (widesym_any A3 c3 ss _ (hS.keep (lb_alloc (lb_alloc (lb_alloc (lb_alloc (Below.refl _ _) _) _) _) _)) hs).mono ?_
  rintro e w1 ⟨rfl, rfl⟩
  go_wp2_with fail
  refine (widerel_any A4 c4 rs _ (hL.keep (lb_alloc (lb_alloc (lb_alloc (lb_alloc (lb_alloc (Below.refl _ _) _) _) _) _) _)) hl).mono ?_
  rintro e w1 ⟨rfl, rfl⟩
  go_wp2
  exact bodyPost_ret (v := .agg #[.string nm, .slice (some ⟨w.heap.size + 2, 0, none⟩) code.length (code.length + 64), .int .i64 dA, .slice (some ⟨w.heap.size + 3, 0, none⟩) data.length (data.length + 64), .slice (some ⟨w.heap.size + 4, 0, none⟩) ss.length (ss.length + 64), .slice (some ⟨w.heap.size + 5, 0, none⟩) rs.length (rs.length + 64)]) (by simp [results, Try.results19, go_sem]) rfl ⟨rfl, rfl⟩






end Go.Proofs.Ytiihfkjgdhfmiaa

namespace Go.Proofs.Ytiihfkjgdhfmiaa
open Go.RowKit

theorem al_size (X : World) (o : Obj) : (X.alloc o).heap.size = X.heap.size + 1 := by simp
theorem addz (g i : Nat) : (⟨g, 0, none⟩ : Addr).add i = ⟨g, i, none⟩ := by
  unfold Addr.add; split
  · subst_vars; rfl
  · simp
theorem addz2 (g i j : Nat) (hj : ¬ j = 0) : ((⟨g, 0, none⟩ : Addr).add i).add j = ⟨g, i + j, none⟩ := by
  rw [addz]; unfold Addr.add; rw [if_neg hj]
theorem row_new (X : World) (cs : Array Value) (t : TypeId) (j : Nat) (v : Value) (h : cs[j]? = some v) : (X.alloc (.cells cs t)).cell? ⟨X.heap.size, j, none⟩ = some v := by
  rw [cell_of_row _ _ _ _ _ _ (heap_alloc_new X _)]; exact h
theorem wcur_full (f z : Nat → Value) (N i : Nat) (h : i < N) : (wcur f z N N)[i]? = some (f i) := by rw [wcur_get _ _ _ _ _ h, if_pos h]
theorem wide_ints (X : World) (K : IntKind) (z : Nat → Value) (zs : List Int) (t : TypeId) : IntsAt (X.alloc (.cells (wcur (wInt K zs) z (zs.length + 64) (zs.length + 64)) t)) (some ⟨X.heap.size, 0, none⟩) K zs := fun i hi =>
  ⟨_, rfl, by rw [addz]; exact row_new _ _ _ _ _ (by rw [wcur_full _ _ _ _ (by omega)]; simp [wInt, hi])⟩
theorem wide_marki (X : World) (K : IntKind) (z : Nat → Value) (zs : List Int) (t : TypeId) : MarkI (X.alloc (.cells (wcur (wInt K zs) z (zs.length + 64) (zs.length + 64)) t)) K X.heap.size zs.length := fun i h1 h2 =>
  row_new _ _ _ _ _ (by rw [wcur_full _ _ _ _ h2]; simp [wInt, mark, show ¬ i < zs.length by omega])
theorem wide_syms (X : World) (zs : List Sym) (t : TypeId) : SymsAt (X.alloc (.cells (wcur (wSym zs) zSym ((zs.length + 64) * 3) ((zs.length + 64) * 3)) t)) (some ⟨X.heap.size, 0, none⟩) zs := fun i hi =>
  ⟨_, rfl, by rw [addz]; exact row_new _ _ _ _ _ (by rw [wcur_full _ _ _ _ (by omega), wSym_item0 zs i hi]), by rw [addz2 _ _ _ (by omega)]; exact row_new _ _ _ _ _ (by rw [wcur_full _ _ _ _ (by omega), wSym_item1 zs i hi]), by rw [addz2 _ _ _ (by omega)]; exact row_new _ _ _ _ _ (by rw [wcur_full _ _ _ _ (by omega), wSym_item2 zs i hi])⟩
theorem wide_marks (X : World) (zs : List Sym) (t : TypeId) : MarkS (X.alloc (.cells (wcur (wSym zs) zSym ((zs.length + 64) * 3) ((zs.length + 64) * 3)) t)) X.heap.size zs.length := fun i h1 h2 =>
  ⟨row_new _ _ _ _ _ (by rw [wcur_full _ _ _ _ (by omega), wSym_mark0 zs i (by omega)]), row_new _ _ _ _ _ (by rw [wcur_full _ _ _ _ (by omega), wSym_mark1 zs i (by omega)]), row_new _ _ _ _ _ (by rw [wcur_full _ _ _ _ (by omega), wSym_mark2 zs i (by omega)])⟩
theorem wide_rels (X : World) (z : Nat → Value) (zs : List Rel) (t : TypeId) : RelsAt (X.alloc (.cells (wcur (wRel zs) z ((zs.length + 64) * 2) ((zs.length + 64) * 2)) t)) (some ⟨X.heap.size, 0, none⟩) zs := fun i hi =>
  ⟨_, rfl, by rw [addz]; exact row_new _ _ _ _ _ (by rw [wcur_full _ _ _ _ (by omega), wRel_item0 zs i hi]), by rw [addz2 _ _ _ (by omega)]; exact row_new _ _ _ _ _ (by rw [wcur_full _ _ _ _ (by omega), wRel_item1 zs i hi])⟩
theorem wide_markr (X : World) (z : Nat → Value) (zs : List Rel) (t : TypeId) : MarkR (X.alloc (.cells (wcur (wRel zs) z ((zs.length + 64) * 2) ((zs.length + 64) * 2)) t)) X.heap.size zs.length := fun i h1 h2 =>
  ⟨row_new _ _ _ _ _ (by rw [wcur_full _ _ _ _ (by omega), wRel_mark0 zs i (by omega)]), row_new _ _ _ _ _ (by rw [wcur_full _ _ _ _ (by omega), wRel_mark1 zs i (by omega)])⟩
theorem wideobj_lies (nm : ByteArray) (dA : Int) (A1 A2 A3 A4 : Option Addr) (c1 c2 c3 c4 : Nat) (code data : List Int) (ss : List Sym) (rs : List Rel) (w : World) (hC : IntsAt w A1 .u32 code) (hD : IntsAt w A2 .i64 data) (hS : SymsAt w A3 ss) (hL : RelsAt w A4 rs) (hc : code.length ≤ 1048576) (hd : data.length ≤ 1048576) (hs : ss.length ≤ 1048576) (hl : rs.length ≤ 1048576) :
    Calls Try.prog 19 #[.agg #[.string nm, .slice A1 code.length c1, .int .i64 dA, .slice A2 data.length c2, .slice A3 ss.length c3, .slice A4 rs.length c4]] w fun e w' => ∃ g1 g2 g3 g4 : Nat, e = .returned (.agg #[.string nm, .slice (some ⟨g1, 0, none⟩) code.length (code.length + 64), .int .i64 dA, .slice (some ⟨g2, 0, none⟩) data.length (data.length + 64), .slice (some ⟨g3, 0, none⟩) ss.length (ss.length + 64), .slice (some ⟨g4, 0, none⟩) rs.length (rs.length + 64)]) ∧
      Below w.heap.size w w' ∧ IntsAt w' (some ⟨g1, 0, none⟩) .u32 code ∧ IntsAt w' (some ⟨g2, 0, none⟩) .i64 data ∧ SymsAt w' (some ⟨g3, 0, none⟩) ss ∧ RelsAt w' (some ⟨g4, 0, none⟩) rs ∧ MarkI w' .u32 g1 code.length ∧ MarkI w' .i64 g2 data.length ∧ MarkS w' g3 ss.length ∧ MarkR w' g4 rs.length := by
  refine (wideobj_any nm dA A1 A2 A3 A4 c1 c2 c3 c4 code data ss rs w hC hD hS hL hc hd hs hl).mono ?_
  rintro e w' ⟨rfl, rfl⟩
  refine ⟨w.heap.size + 2, w.heap.size + 3, w.heap.size + 4, w.heap.size + 5, rfl, lb_alloc (lb_alloc (lb_alloc (lb_alloc (lb_alloc (lb_alloc (Below.refl _ _) _) _) _) _) _) _, ?_, ?_, ?_, ?_, ?_, ?_, ?_, ?_⟩
  · have h := wide_ints ((w.alloc (.cells #[.string nm, .slice (some ⟨w.heap.size + 2, 0, none⟩) code.length (code.length + 64), .int .i64 dA, .slice (some ⟨w.heap.size + 3, 0, none⟩) data.length (data.length + 64), .slice (some ⟨w.heap.size + 4, 0, none⟩) ss.length (ss.length + 64), .slice (some ⟨w.heap.size + 5, 0, none⟩) rs.length (rs.length + 64)] 49)).alloc (.cells #[.string nm, .slice (some ⟨w.heap.size + 2, 0, none⟩) code.length (code.length + 64), .int .i64 dA, .slice (some ⟨w.heap.size + 3, 0, none⟩) data.length (data.length + 64), .slice (some ⟨w.heap.size + 4, 0, none⟩) ss.length (ss.length + 64), .slice (some ⟨w.heap.size + 5, 0, none⟩) rs.length (rs.length + 64)] 49)) .u32 (fun _ => .int .u32 0) code 78
    simp only [al_size, Nat.add_assoc, Nat.reduceAdd] at h
    exact h.keep (lb_alloc (lb_alloc (lb_alloc (Below.refl _ _) _) _) _)
  · have h := wide_ints (((w.alloc (.cells #[.string nm, .slice (some ⟨w.heap.size + 2, 0, none⟩) code.length (code.length + 64), .int .i64 dA, .slice (some ⟨w.heap.size + 3, 0, none⟩) data.length (data.length + 64), .slice (some ⟨w.heap.size + 4, 0, none⟩) ss.length (ss.length + 64), .slice (some ⟨w.heap.size + 5, 0, none⟩) rs.length (rs.length + 64)] 49)).alloc (.cells #[.string nm, .slice (some ⟨w.heap.size + 2, 0, none⟩) code.length (code.length + 64), .int .i64 dA, .slice (some ⟨w.heap.size + 3, 0, none⟩) data.length (data.length + 64), .slice (some ⟨w.heap.size + 4, 0, none⟩) ss.length (ss.length + 64), .slice (some ⟨w.heap.size + 5, 0, none⟩) rs.length (rs.length + 64)] 49)).alloc (.cells (wcur (wInt .u32 code) (fun _ => .int .u32 0) (code.length + 64) (code.length + 64)) 78)) .i64 (fun _ => .int .i64 0) data 2
    simp only [al_size, Nat.add_assoc, Nat.reduceAdd] at h
    exact h.keep (lb_alloc (lb_alloc (Below.refl _ _) _) _)
  · have h := wide_syms ((((w.alloc (.cells #[.string nm, .slice (some ⟨w.heap.size + 2, 0, none⟩) code.length (code.length + 64), .int .i64 dA, .slice (some ⟨w.heap.size + 3, 0, none⟩) data.length (data.length + 64), .slice (some ⟨w.heap.size + 4, 0, none⟩) ss.length (ss.length + 64), .slice (some ⟨w.heap.size + 5, 0, none⟩) rs.length (rs.length + 64)] 49)).alloc (.cells #[.string nm, .slice (some ⟨w.heap.size + 2, 0, none⟩) code.length (code.length + 64), .int .i64 dA, .slice (some ⟨w.heap.size + 3, 0, none⟩) data.length (data.length + 64), .slice (some ⟨w.heap.size + 4, 0, none⟩) ss.length (ss.length + 64), .slice (some ⟨w.heap.size + 5, 0, none⟩) rs.length (rs.length + 64)] 49)).alloc (.cells (wcur (wInt .u32 code) (fun _ => .int .u32 0) (code.length + 64) (code.length + 64)) 78)).alloc (.cells (wcur (wInt .i64 data) (fun _ => .int .i64 0) (data.length + 64) (data.length + 64)) 2)) ss 52
    simp only [al_size, Nat.add_assoc, Nat.reduceAdd] at h
    exact h.keep (lb_alloc (Below.refl _ _) _)
  · have h := wide_rels (((((w.alloc (.cells #[.string nm, .slice (some ⟨w.heap.size + 2, 0, none⟩) code.length (code.length + 64), .int .i64 dA, .slice (some ⟨w.heap.size + 3, 0, none⟩) data.length (data.length + 64), .slice (some ⟨w.heap.size + 4, 0, none⟩) ss.length (ss.length + 64), .slice (some ⟨w.heap.size + 5, 0, none⟩) rs.length (rs.length + 64)] 49)).alloc (.cells #[.string nm, .slice (some ⟨w.heap.size + 2, 0, none⟩) code.length (code.length + 64), .int .i64 dA, .slice (some ⟨w.heap.size + 3, 0, none⟩) data.length (data.length + 64), .slice (some ⟨w.heap.size + 4, 0, none⟩) ss.length (ss.length + 64), .slice (some ⟨w.heap.size + 5, 0, none⟩) rs.length (rs.length + 64)] 49)).alloc (.cells (wcur (wInt .u32 code) (fun _ => .int .u32 0) (code.length + 64) (code.length + 64)) 78)).alloc (.cells (wcur (wInt .i64 data) (fun _ => .int .i64 0) (data.length + 64) (data.length + 64)) 2)).alloc (.cells (wcur (wSym ss) zSym ((ss.length + 64) * 3) ((ss.length + 64) * 3)) 52)) (fun _ => .int .i64 0) rs 96
    simp only [al_size, Nat.add_assoc, Nat.reduceAdd] at h
    exact h
  · have h := wide_marki ((w.alloc (.cells #[.string nm, .slice (some ⟨w.heap.size + 2, 0, none⟩) code.length (code.length + 64), .int .i64 dA, .slice (some ⟨w.heap.size + 3, 0, none⟩) data.length (data.length + 64), .slice (some ⟨w.heap.size + 4, 0, none⟩) ss.length (ss.length + 64), .slice (some ⟨w.heap.size + 5, 0, none⟩) rs.length (rs.length + 64)] 49)).alloc (.cells #[.string nm, .slice (some ⟨w.heap.size + 2, 0, none⟩) code.length (code.length + 64), .int .i64 dA, .slice (some ⟨w.heap.size + 3, 0, none⟩) data.length (data.length + 64), .slice (some ⟨w.heap.size + 4, 0, none⟩) ss.length (ss.length + 64), .slice (some ⟨w.heap.size + 5, 0, none⟩) rs.length (rs.length + 64)] 49)) .u32 (fun _ => .int .u32 0) code 78
    simp only [al_size, Nat.add_assoc, Nat.reduceAdd] at h
    exact h.keep (lb_alloc (lb_alloc (lb_alloc (Below.refl _ _) _) _) _)
  · have h := wide_marki (((w.alloc (.cells #[.string nm, .slice (some ⟨w.heap.size + 2, 0, none⟩) code.length (code.length + 64), .int .i64 dA, .slice (some ⟨w.heap.size + 3, 0, none⟩) data.length (data.length + 64), .slice (some ⟨w.heap.size + 4, 0, none⟩) ss.length (ss.length + 64), .slice (some ⟨w.heap.size + 5, 0, none⟩) rs.length (rs.length + 64)] 49)).alloc (.cells #[.string nm, .slice (some ⟨w.heap.size + 2, 0, none⟩) code.length (code.length + 64), .int .i64 dA, .slice (some ⟨w.heap.size + 3, 0, none⟩) data.length (data.length + 64), .slice (some ⟨w.heap.size + 4, 0, none⟩) ss.length (ss.length + 64), .slice (some ⟨w.heap.size + 5, 0, none⟩) rs.length (rs.length + 64)] 49)).alloc (.cells (wcur (wInt .u32 code) (fun _ => .int .u32 0) (code.length + 64) (code.length + 64)) 78)) .i64 (fun _ => .int .i64 0) data 2
    simp only [al_size, Nat.add_assoc, Nat.reduceAdd] at h
    exact h.keep (lb_alloc (lb_alloc (Below.refl _ _) _) _)
  · have h := wide_marks ((((w.alloc (.cells #[.string nm, .slice (some ⟨w.heap.size + 2, 0, none⟩) code.length (code.length + 64), .int .i64 dA, .slice (some ⟨w.heap.size + 3, 0, none⟩) data.length (data.length + 64), .slice (some ⟨w.heap.size + 4, 0, none⟩) ss.length (ss.length + 64), .slice (some ⟨w.heap.size + 5, 0, none⟩) rs.length (rs.length + 64)] 49)).alloc (.cells #[.string nm, .slice (some ⟨w.heap.size + 2, 0, none⟩) code.length (code.length + 64), .int .i64 dA, .slice (some ⟨w.heap.size + 3, 0, none⟩) data.length (data.length + 64), .slice (some ⟨w.heap.size + 4, 0, none⟩) ss.length (ss.length + 64), .slice (some ⟨w.heap.size + 5, 0, none⟩) rs.length (rs.length + 64)] 49)).alloc (.cells (wcur (wInt .u32 code) (fun _ => .int .u32 0) (code.length + 64) (code.length + 64)) 78)).alloc (.cells (wcur (wInt .i64 data) (fun _ => .int .i64 0) (data.length + 64) (data.length + 64)) 2)) ss 52
    simp only [al_size, Nat.add_assoc, Nat.reduceAdd] at h
    exact h.keep (lb_alloc (Below.refl _ _) _)
  · have h := wide_markr (((((w.alloc (.cells #[.string nm, .slice (some ⟨w.heap.size + 2, 0, none⟩) code.length (code.length + 64), .int .i64 dA, .slice (some ⟨w.heap.size + 3, 0, none⟩) data.length (data.length + 64), .slice (some ⟨w.heap.size + 4, 0, none⟩) ss.length (ss.length + 64), .slice (some ⟨w.heap.size + 5, 0, none⟩) rs.length (rs.length + 64)] 49)).alloc (.cells #[.string nm, .slice (some ⟨w.heap.size + 2, 0, none⟩) code.length (code.length + 64), .int .i64 dA, .slice (some ⟨w.heap.size + 3, 0, none⟩) data.length (data.length + 64), .slice (some ⟨w.heap.size + 4, 0, none⟩) ss.length (ss.length + 64), .slice (some ⟨w.heap.size + 5, 0, none⟩) rs.length (rs.length + 64)] 49)).alloc (.cells (wcur (wInt .u32 code) (fun _ => .int .u32 0) (code.length + 64) (code.length + 64)) 78)).alloc (.cells (wcur (wInt .i64 data) (fun _ => .int .i64 0) (data.length + 64) (data.length + 64)) 2)).alloc (.cells (wcur (wSym ss) zSym ((ss.length + 64) * 3) ((ss.length + 64) * 3)) 52)) (fun _ => .int .i64 0) rs 96
    simp only [al_size, Nat.add_assoc, Nat.reduceAdd] at h
    exact h






end Go.Proofs.Ytiihfkjgdhfmiaa

namespace Go.Proofs.Ytiihfkjgdhfmiaa
open Go.RowKit

/-- The marks behind a list of objects. -/
def MarkO (w : World) (g n : Nat) : Prop := ∀ i, n ≤ i → i < n + 64 → w.cell? ⟨g, i * 6, none⟩ = some (.string ⟨#[]⟩) ∧ w.cell? ⟨g, i * 6 + 1, none⟩ = some (.slice none 0 0) ∧ w.cell? ⟨g, i * 6 + 2, none⟩ = some (.int .i64 (9437184 + i + 1)) ∧ w.cell? ⟨g, i * 6 + 3, none⟩ = some (.slice none 0 0) ∧ w.cell? ⟨g, i * 6 + 4, none⟩ = some (.slice none 0 0) ∧ w.cell? ⟨g, i * 6 + 5, none⟩ = some (.slice none 0 0)
theorem MarkO.keep {w w1 : World} {g n : Nat} (h : MarkO w g n) (hb : Below w.heap.size w w1) : MarkO w1 g n := fun i h0 h1 => by
  obtain ⟨x0, x1, x2, x3, x4, x5⟩ := h i h0 h1
  exact ⟨lkeep hb x0, lkeep hb x1, lkeep hb x2, lkeep hb x3, lkeep hb x4, lkeep hb x5⟩
/-- Where a copy with marks has its lists. -/
def wpl (o : Ob) (G : Nat × Nat × Nat × Nat) : Pl := ⟨some ⟨G.1, 0, none⟩, some ⟨G.2.1, 0, none⟩, some ⟨G.2.2.1, 0, none⟩, some ⟨G.2.2.2, 0, none⟩, o.code.length + 64, o.data.length + 64, o.ss.length + 64, o.rs.length + 64⟩
/-- The marks behind an object's lists. -/
def MarkE (w : World) (o : Ob) (G : Nat × Nat × Nat × Nat) : Prop := MarkI w .u32 G.1 o.code.length ∧ MarkI w .i64 G.2.1 o.data.length ∧ MarkS w G.2.2.1 o.ss.length ∧ MarkR w G.2.2.2 o.rs.length
theorem MarkE.keep {w w1 : World} {o : Ob} {G : Nat × Nat × Nat × Nat} (h : MarkE w o G) (hb : Below w.heap.size w w1) : MarkE w1 o G := ⟨h.1.keep hb, h.2.1.keep hb, h.2.2.1.keep hb, h.2.2.2.keep hb⟩
/-- A list copied with marks. -/
structure WideO (w : World) (g : Nat) (l : List Ob) (G : Nat → Nat × Nat × Nat × Nat) : Prop where
  inn : ObsIn w (some ⟨g, 0, none⟩) (fun i => wpl (ob l i) (G i)) l
  mo : MarkO w g l.length
  me : ∀ i, i < l.length → MarkE w (ob l i) (G i)
theorem WideO.keep {w w1 : World} {g : Nat} {l : List Ob} {G : Nat → Nat × Nat × Nat × Nat} (h : WideO w g l G) (hb : Below w.heap.size w w1) : WideO w1 g l G := ⟨h.inn.keep hb, h.mo.keep hb, fun i hi => (h.me i hi).keep hb⟩
set_option maxHeartbeats 4000000 in
set_option maxRecDepth 100000 in
theorem spareobs_any (g : Nat) (l : List Ob) (G : Nat → Nat × Nat × Nat × Nat) (w : World) (h : WideO w g l G) :
    Calls Try.prog 14 #[.slice (some ⟨g, 0, none⟩) l.length (l.length + 64)] w fun e w' => e = .returned (.bool true) ∧ Below w.heap.size w w' := by
  have HW : Hid (WideO w g l G) := h
  have hf := h.inn.few
  clear h
  go_enter Try.func14, Try.ntmps14
  go_wp2
  go_loopw [4] (fun i wr => ∃ k : Nat, i = .int .i64 k ∧ l.length ≤ k ∧ k ≤ l.length + 64 ∧ Below w.heap.size w wr) (fun i _ => l.length + 64 - (intOf i).toNat)
  case atStart => exact ⟨l.length, rfl, by omega, by omega, Below.refl _ _⟩
  case round =>
    obtain ⟨k, rfl, hk, hk2, hB⟩ := hrel
    by_cases hlt : k < l.length + 64
    · obtain ⟨c0, c1, c2, c3, c4, c5⟩ := HW.out.mo k hk hlt
      replace c0 := lkeep hB c0
      replace c1 := lkeep hB c1
      replace c2 := lkeep hB c2
      replace c3 := lkeep hB c3
      replace c4 := lkeep hB c4
      replace c5 := lkeep hB c5
      have HB : Hid (Below w.heap.size w _) := hB
      clear hB
      go_wp2_with fail
      go_quiet ((go_at_call 20; exact Calls.quiet_of_same (num_any _ _ (by omega) (by omega) (by omega) (by omega) _)))
      go_wp2
      go_roundw
      case rel => exact ⟨k + 1, by go_num, by omega, by omega, below_drewN (lb_alloc HB.out _) _⟩
      case measure => simp [intOf]; omega
    · have HB : Hid (Below w.heap.size w wr) := hB
      clear hB
      go_wp2
      go_loopw [6] (fun i wr => ∃ k : Nat, i = .int .i64 k ∧ k ≤ l.length ∧ Hid (Below w.heap.size w wr)) (fun i _ => l.length - (intOf i).toNat)
      case atStart => exact ⟨0, rfl, Nat.zero_le _, HB⟩
      case round =>
        clear HB
        obtain ⟨j, rfl, hj, HB⟩ := hrel
        by_cases hlt : j < l.length
        · obtain ⟨a, ea, x0, x1, x2, x3, x4, x5⟩ := HW.out.inn.cells.six HB.out j hlt
          have oA := (HW.out.inn.each j hlt).keep HB.out
          have mE := (HW.out.me j hlt).keep HB.out
          have CE := spareobj_any (ob l j).nm (ob l j).dA (G j).1 (ob l j).code.length (G j).2.1 (ob l j).data.length (G j).2.2.1 (ob l j).ss.length (G j).2.2.2 (ob l j).rs.length wr mE.1 mE.2.1 mE.2.2.1 mE.2.2.2 oA.hc oA.hd oA.hs oA.hl
          obtain rfl := Option.some.inj ea
          clear oA mE ea
          simp only [addz, wpl] at x0 x1 x2 x3 x4 x5
          go_wp2_with fail
          refine CE.mono ?_
          rintro e w1 ⟨rfl, hb1⟩
          have HB2 : Hid (Below w.heap.size w w1) := lb_trans HB.out hb1
          clear hb1 CE x0 x1 x2 x3 x4 x5
          go_wp2
          go_roundw
          case rel => exact ⟨j + 1, by go_num, by omega, HB2⟩
          case measure => simp [intOf]; omega
        · go_wp2
          go_ret
          exact ⟨rfl, HB.out⟩



end Go.Proofs.Ytiihfkjgdhfmiaa
