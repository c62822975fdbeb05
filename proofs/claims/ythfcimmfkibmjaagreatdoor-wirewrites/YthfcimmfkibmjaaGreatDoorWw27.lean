/-
  Where an object that was copied with marks lies, and that the marks stand; its lists are at most 2^20 long. What a statement lets go: an object is heavy, or its lists are short; its names and lists are no longer than any can be. The law on an object as bytes, whatever its lists. An object that came in, opened: its name, its lists, where they lie; no condition.
-/
import Derived.Test.YthfcimmfkibmjaaGreatDoorProg
import Derived.WalkKit
import Derived.WalkSpells
import Derived.WalkLawsBesides
import Derived.RowKit3
import Derived.Below
import Derived.Deep.QuietTactic
import Derived.BigQuiet
import Derived.WalkSmall
import Derived.Test.YthfcimmfkibmjaaGreatDoorWw26
import Derived.Laws.Rows
import Derived.Test.YthfcimmfkibmjaaGreatDoorWw01
import Derived.Test.YthfcimmfkibmjaaGreatDoorWw19
import Derived.Test.YthfcimmfkibmjaaGreatDoorWw20
import Derived.Test.YthfcimmfkibmjaaGreatDoorRows
import Derived.ProofKit
import Derived.OpenShut
import Derived.Stop.Joined
import Derived.Carry
import Derived.Lib.SmallJoins
import Derived.Deep.SlicePairs
import Derived.Deep.Strs
import Derived.SizedLaws
namespace Go.Proofs.YthfcimmfkibmjaaGreatDoor
open Go.RowKit

theorem al_size (X : World) (o : Obj) : (X.alloc o).heap.size = X.heap.size + 1 := by simp
theorem addz (g i : Nat) : (⟨g, 0, none⟩ : Addr).add i = ⟨g, i, none⟩ := by
  unfold Addr.add; split
  · subst_vars; rfl
  · simp
theorem addz2 (g i j : Nat) (hj : ¬ j = 0) : ((⟨g, 0, none⟩ : Addr).add i).add j = ⟨g, i + j, none⟩ := by
  rw [addz]; unfold Addr.add; rw [if_neg hj]
theorem row_new (X : World) (cs : Array Value) (t : TypeId) (j : Nat) (v : Value) (h : cs[j]? = some v) : (X.alloc (.cells cs t)).cell? ⟨X.heap.size, j, none⟩ = some v := by
  rw [cell_of_row _ _ _ _ _ _ (heap_alloc_new X _)]; exact h
theorem wcur_full (f z : Nat → Value) (N i : Nat) (h : i < N) : (wcur f z N N)[i]? = some (f i) := by rw [wcur_get _ _ _ _ _ h, if_pos h]
theorem wide_ints (X : World) (K : IntKind) (z : Nat → Value) (zs : List Int) (t : TypeId) : IntsAt (X.alloc (.cells (wcur (wInt K zs) z (zs.length + 64) (zs.length + 64)) t)) (some ⟨X.heap.size, 0, none⟩) K zs := fun i hi =>
  ⟨_, rfl, by rw [addz]; exact row_new _ _ _ _ _ (by rw [wcur_full _ _ _ _ (by omega)]; simp [wInt, hi])⟩
theorem wide_marki (X : World) (K : IntKind) (z : Nat → Value) (zs : List Int) (t : TypeId) : MarkI (X.alloc (.cells (wcur (wInt K zs) z (zs.length + 64) (zs.length + 64)) t)) K X.heap.size zs.length := fun i h1 h2 =>
  row_new _ _ _ _ _ (by rw [wcur_full _ _ _ _ h2]; simp [wInt, mark, show ¬ i < zs.length by omega])
theorem wide_syms (X : World) (zs : List Sym) (t : TypeId) : SymsAt (X.alloc (.cells (wcur (wSym zs) zSym ((zs.length + 64) * 3) ((zs.length + 64) * 3)) t)) (some ⟨X.heap.size, 0, none⟩) zs := fun i hi =>
  ⟨_, rfl, by rw [addz]; exact row_new _ _ _ _ _ (by rw [wcur_full _ _ _ _ (by omega), wSym_item0 zs i hi]), by rw [addz2 _ _ _ (by omega)]; exact row_new _ _ _ _ _ (by rw [wcur_full _ _ _ _ (by omega), wSym_item1 zs i hi]), by rw [addz2 _ _ _ (by omega)]; exact row_new _ _ _ _ _ (by rw [wcur_full _ _ _ _ (by omega), wSym_item2 zs i hi])⟩
theorem wide_marks (X : World) (zs : List Sym) (t : TypeId) : MarkS (X.alloc (.cells (wcur (wSym zs) zSym ((zs.length + 64) * 3) ((zs.length + 64) * 3)) t)) X.heap.size zs.length := fun i h1 h2 =>
  ⟨row_new _ _ _ _ _ (by rw [wcur_full _ _ _ _ (by omega), wSym_mark0 zs i (by omega)]), row_new _ _ _ _ _ (by rw [wcur_full _ _ _ _ (by omega), wSym_mark1 zs i (by omega)]), row_new _ _ _ _ _ (by rw [wcur_full _ _ _ _ (by omega), wSym_mark2 zs i (by omega)])⟩
theorem wide_rels (X : World) (z : Nat → Value) (zs : List Rel) (t : TypeId) : RelsAt (X.alloc (.cells (wcur (wRel zs) z ((zs.length + 64) * 2) ((zs.length + 64) * 2)) t)) (some ⟨X.heap.size, 0, none⟩) zs := fun i hi =>
  ⟨_, rfl, by rw [addz]; exact row_new _ _ _ _ _ (by rw [wcur_full _ _ _ _ (by omega), wRel_item0 zs i hi]), by rw [addz2 _ _ _ (by omega)]; exact row_new _ _ _ _ _ (by rw [wcur_full _ _ _ _ (by omega), wRel_item1 zs i hi])⟩
theorem wide_markr (X : World) (z : Nat → Value) (zs : List Rel) (t : TypeId) : MarkR (X.alloc (.cells (wcur (wRel zs) z ((zs.length + 64) * 2) ((zs.length + 64) * 2)) t)) X.heap.size zs.length := fun i h1 h2 =>
  ⟨row_new _ _ _ _ _ (by rw [wcur_full _ _ _ _ (by omega), wRel_mark0 zs i (by omega)]), row_new _ _ _ _ _ (by rw [wcur_full _ _ _ _ (by omega), wRel_mark1 zs i (by omega)])⟩
theorem wideobj_lies (nm : ByteArray) (dA : Int) (A1 A2 A3 A4 : Option Addr) (c1 c2 c3 c4 : Nat) (code data : List Int) (ss : List Sym) (rs : List Rel) (w : World) (hC : IntsAt w A1 .u32 code) (hD : IntsAt w A2 .i64 data) (hS : SymsAt w A3 ss) (hL : RelsAt w A4 rs) (hc : code.length ≤ 1048576) (hd : data.length ≤ 1048576) (hs : ss.length ≤ 1048576) (hl : rs.length ≤ 1048576) :
    Calls Tryz.prog 8 #[.agg #[.string nm, .slice A1 code.length c1, .int .i64 dA, .slice A2 data.length c2, .slice A3 ss.length c3, .slice A4 rs.length c4]] w fun e w' => ∃ g1 g2 g3 g4 : Nat, e = .returned (.agg #[.string nm, .slice (some ⟨g1, 0, none⟩) code.length (code.length + 64), .int .i64 dA, .slice (some ⟨g2, 0, none⟩) data.length (data.length + 64), .slice (some ⟨g3, 0, none⟩) ss.length (ss.length + 64), .slice (some ⟨g4, 0, none⟩) rs.length (rs.length + 64)]) ∧
      Below w.heap.size w w' ∧ IntsAt w' (some ⟨g1, 0, none⟩) .u32 code ∧ IntsAt w' (some ⟨g2, 0, none⟩) .i64 data ∧ SymsAt w' (some ⟨g3, 0, none⟩) ss ∧ RelsAt w' (some ⟨g4, 0, none⟩) rs ∧ MarkI w' .u32 g1 code.length ∧ MarkI w' .i64 g2 data.length ∧ MarkS w' g3 ss.length ∧ MarkR w' g4 rs.length := by
  refine (wideobj_any nm dA A1 A2 A3 A4 c1 c2 c3 c4 code data ss rs w hC hD hS hL hc hd hs hl).mono ?_
  rintro e w' ⟨rfl, rfl⟩
  refine ⟨w.heap.size + 2, w.heap.size + 3, w.heap.size + 4, w.heap.size + 5, rfl, lb_alloc (lb_alloc (lb_alloc (lb_alloc (lb_alloc (lb_alloc (Below.refl _ _) _) _) _) _) _) _, ?_, ?_, ?_, ?_, ?_, ?_, ?_, ?_⟩
  · have h := wide_ints ((w.alloc (.cells #[.string nm, .slice (some ⟨w.heap.size + 2, 0, none⟩) code.length (code.length + 64), .int .i64 dA, .slice (some ⟨w.heap.size + 3, 0, none⟩) data.length (data.length + 64), .slice (some ⟨w.heap.size + 4, 0, none⟩) ss.length (ss.length + 64), .slice (some ⟨w.heap.size + 5, 0, none⟩) rs.length (rs.length + 64)] 27)).alloc (.cells #[.string nm, .slice (some ⟨w.heap.size + 2, 0, none⟩) code.length (code.length + 64), .int .i64 dA, .slice (some ⟨w.heap.size + 3, 0, none⟩) data.length (data.length + 64), .slice (some ⟨w.heap.size + 4, 0, none⟩) ss.length (ss.length + 64), .slice (some ⟨w.heap.size + 5, 0, none⟩) rs.length (rs.length + 64)] 27)) .u32 (fun _ => .int .u32 0) code 78
    simp only [al_size, Nat.add_assoc, Nat.reduceAdd] at h
    exact h.keep (lb_alloc (lb_alloc (lb_alloc (Below.refl _ _) _) _) _)
  · have h := wide_ints (((w.alloc (.cells #[.string nm, .slice (some ⟨w.heap.size + 2, 0, none⟩) code.length (code.length + 64), .int .i64 dA, .slice (some ⟨w.heap.size + 3, 0, none⟩) data.length (data.length + 64), .slice (some ⟨w.heap.size + 4, 0, none⟩) ss.length (ss.length + 64), .slice (some ⟨w.heap.size + 5, 0, none⟩) rs.length (rs.length + 64)] 27)).alloc (.cells #[.string nm, .slice (some ⟨w.heap.size + 2, 0, none⟩) code.length (code.length + 64), .int .i64 dA, .slice (some ⟨w.heap.size + 3, 0, none⟩) data.length (data.length + 64), .slice (some ⟨w.heap.size + 4, 0, none⟩) ss.length (ss.length + 64), .slice (some ⟨w.heap.size + 5, 0, none⟩) rs.length (rs.length + 64)] 27)).alloc (.cells (wcur (wInt .u32 code) (fun _ => .int .u32 0) (code.length + 64) (code.length + 64)) 78)) .i64 (fun _ => .int .i64 0) data 2
    simp only [al_size, Nat.add_assoc, Nat.reduceAdd] at h
    exact h.keep (lb_alloc (lb_alloc (Below.refl _ _) _) _)
  · have h := wide_syms ((((w.alloc (.cells #[.string nm, .slice (some ⟨w.heap.size + 2, 0, none⟩) code.length (code.length + 64), .int .i64 dA, .slice (some ⟨w.heap.size + 3, 0, none⟩) data.length (data.length + 64), .slice (some ⟨w.heap.size + 4, 0, none⟩) ss.length (ss.length + 64), .slice (some ⟨w.heap.size + 5, 0, none⟩) rs.length (rs.length + 64)] 27)).alloc (.cells #[.string nm, .slice (some ⟨w.heap.size + 2, 0, none⟩) code.length (code.length + 64), .int .i64 dA, .slice (some ⟨w.heap.size + 3, 0, none⟩) data.length (data.length + 64), .slice (some ⟨w.heap.size + 4, 0, none⟩) ss.length (ss.length + 64), .slice (some ⟨w.heap.size + 5, 0, none⟩) rs.length (rs.length + 64)] 27)).alloc (.cells (wcur (wInt .u32 code) (fun _ => .int .u32 0) (code.length + 64) (code.length + 64)) 78)).alloc (.cells (wcur (wInt .i64 data) (fun _ => .int .i64 0) (data.length + 64) (data.length + 64)) 2)) ss 68
    simp only [al_size, Nat.add_assoc, Nat.reduceAdd] at h
    exact h.keep (lb_alloc (Below.refl _ _) _)
  · have h := wide_rels (((((w.alloc (.cells #[.string nm, .slice (some ⟨w.heap.size + 2, 0, none⟩) code.length (code.length + 64), .int .i64 dA, .slice (some ⟨w.heap.size + 3, 0, none⟩) data.length (data.length + 64), .slice (some ⟨w.heap.size + 4, 0, none⟩) ss.length (ss.length + 64), .slice (some ⟨w.heap.size + 5, 0, none⟩) rs.length (rs.length + 64)] 27)).alloc (.cells #[.string nm, .slice (some ⟨w.heap.size + 2, 0, none⟩) code.length (code.length + 64), .int .i64 dA, .slice (some ⟨w.heap.size + 3, 0, none⟩) data.length (data.length + 64), .slice (some ⟨w.heap.size + 4, 0, none⟩) ss.length (ss.length + 64), .slice (some ⟨w.heap.size + 5, 0, none⟩) rs.length (rs.length + 64)] 27)).alloc (.cells (wcur (wInt .u32 code) (fun _ => .int .u32 0) (code.length + 64) (code.length + 64)) 78)).alloc (.cells (wcur (wInt .i64 data) (fun _ => .int .i64 0) (data.length + 64) (data.length + 64)) 2)).alloc (.cells (wcur (wSym ss) zSym ((ss.length + 64) * 3) ((ss.length + 64) * 3)) 68)) (fun _ => .int .i64 0) rs 119
    simp only [al_size, Nat.add_assoc, Nat.reduceAdd] at h
    exact h
  · have h := wide_marki ((w.alloc (.cells #[.string nm, .slice (some ⟨w.heap.size + 2, 0, none⟩) code.length (code.length + 64), .int .i64 dA, .slice (some ⟨w.heap.size + 3, 0, none⟩) data.length (data.length + 64), .slice (some ⟨w.heap.size + 4, 0, none⟩) ss.length (ss.length + 64), .slice (some ⟨w.heap.size + 5, 0, none⟩) rs.length (rs.length + 64)] 27)).alloc (.cells #[.string nm, .slice (some ⟨w.heap.size + 2, 0, none⟩) code.length (code.length + 64), .int .i64 dA, .slice (some ⟨w.heap.size + 3, 0, none⟩) data.length (data.length + 64), .slice (some ⟨w.heap.size + 4, 0, none⟩) ss.length (ss.length + 64), .slice (some ⟨w.heap.size + 5, 0, none⟩) rs.length (rs.length + 64)] 27)) .u32 (fun _ => .int .u32 0) code 78
    simp only [al_size, Nat.add_assoc, Nat.reduceAdd] at h
    exact h.keep (lb_alloc (lb_alloc (lb_alloc (Below.refl _ _) _) _) _)
  · have h := wide_marki (((w.alloc (.cells #[.string nm, .slice (some ⟨w.heap.size + 2, 0, none⟩) code.length (code.length + 64), .int .i64 dA, .slice (some ⟨w.heap.size + 3, 0, none⟩) data.length (data.length + 64), .slice (some ⟨w.heap.size + 4, 0, none⟩) ss.length (ss.length + 64), .slice (some ⟨w.heap.size + 5, 0, none⟩) rs.length (rs.length + 64)] 27)).alloc (.cells #[.string nm, .slice (some ⟨w.heap.size + 2, 0, none⟩) code.length (code.length + 64), .int .i64 dA, .slice (some ⟨w.heap.size + 3, 0, none⟩) data.length (data.length + 64), .slice (some ⟨w.heap.size + 4, 0, none⟩) ss.length (ss.length + 64), .slice (some ⟨w.heap.size + 5, 0, none⟩) rs.length (rs.length + 64)] 27)).alloc (.cells (wcur (wInt .u32 code) (fun _ => .int .u32 0) (code.length + 64) (code.length + 64)) 78)) .i64 (fun _ => .int .i64 0) data 2
    simp only [al_size, Nat.add_assoc, Nat.reduceAdd] at h
    exact h.keep (lb_alloc (lb_alloc (Below.refl _ _) _) _)
  · have h := wide_marks ((((w.alloc (.cells #[.string nm, .slice (some ⟨w.heap.size + 2, 0, none⟩) code.length (code.length + 64), .int .i64 dA, .slice (some ⟨w.heap.size + 3, 0, none⟩) data.length (data.length + 64), .slice (some ⟨w.heap.size + 4, 0, none⟩) ss.length (ss.length + 64), .slice (some ⟨w.heap.size + 5, 0, none⟩) rs.length (rs.length + 64)] 27)).alloc (.cells #[.string nm, .slice (some ⟨w.heap.size + 2, 0, none⟩) code.length (code.length + 64), .int .i64 dA, .slice (some ⟨w.heap.size + 3, 0, none⟩) data.length (data.length + 64), .slice (some ⟨w.heap.size + 4, 0, none⟩) ss.length (ss.length + 64), .slice (some ⟨w.heap.size + 5, 0, none⟩) rs.length (rs.length + 64)] 27)).alloc (.cells (wcur (wInt .u32 code) (fun _ => .int .u32 0) (code.length + 64) (code.length + 64)) 78)).alloc (.cells (wcur (wInt .i64 data) (fun _ => .int .i64 0) (data.length + 64) (data.length + 64)) 2)) ss 68
    simp only [al_size, Nat.add_assoc, Nat.reduceAdd] at h
    exact h.keep (lb_alloc (Below.refl _ _) _)
  · have h := wide_markr (((((w.alloc (.cells #[.string nm, .slice (some ⟨w.heap.size + 2, 0, none⟩) code.length (code.length + 64), .int .i64 dA, .slice (some ⟨w.heap.size + 3, 0, none⟩) data.length (data.length + 64), .slice (some ⟨w.heap.size + 4, 0, none⟩) ss.length (ss.length + 64), .slice (some ⟨w.heap.size + 5, 0, none⟩) rs.length (rs.length + 64)] 27)).alloc (.cells #[.string nm, .slice (some ⟨w.heap.size + 2, 0, none⟩) code.length (code.length + 64), .int .i64 dA, .slice (some ⟨w.heap.size + 3, 0, none⟩) data.length (data.length + 64), .slice (some ⟨w.heap.size + 4, 0, none⟩) ss.length (ss.length + 64), .slice (some ⟨w.heap.size + 5, 0, none⟩) rs.length (rs.length + 64)] 27)).alloc (.cells (wcur (wInt .u32 code) (fun _ => .int .u32 0) (code.length + 64) (code.length + 64)) 78)).alloc (.cells (wcur (wInt .i64 data) (fun _ => .int .i64 0) (data.length + 64) (data.length + 64)) 2)).alloc (.cells (wcur (wSym ss) zSym ((ss.length + 64) * 3) ((ss.length + 64) * 3)) 68)) (fun _ => .int .i64 0) rs 119
    simp only [al_size, Nat.add_assoc, Nat.reduceAdd] at h
    exact h



end Go.Proofs.YthfcimmfkibmjaaGreatDoor

namespace Go.Proofs.YthfcimmfkibmjaaGreatDoor
open Go.RowKit

/-- How heavy ends. -/
def HvP (ss : List Sym) (nm : ByteArray) (n1 n2 n4 : Nat) (w : World) (e : Ending) (w' : World) : Prop := ∃ B : Bool, e = .returned (.bool B) ∧ (B = false → ss.length ≤ 1048576 ∧ nm.size ≤ 1048576 ∧ n1 ≤ 32768 ∧ n2 ≤ 32768 ∧ n4 ≤ 32768) ∧ Below w.heap.size w w'
theorem hvT {ss : List Sym} {nm : ByteArray} {n1 n2 n4 : Nat} {w w' : World} {e : Ending} (h : e = .returned (.bool true)) (hb : Below w.heap.size w w') : HvP ss nm n1 n2 n4 w e w' := ⟨true, h, (fun h => by cases h), hb⟩
theorem hvF {ss : List Sym} {nm : ByteArray} {n1 n2 n4 : Nat} {w w' : World} {e : Ending} (h : e = .returned (.bool false)) (hh : ss.length ≤ 1048576 ∧ nm.size ≤ 1048576 ∧ n1 ≤ 32768 ∧ n2 ≤ 32768 ∧ n4 ≤ 32768) (hb : Below w.heap.size w w') : HvP ss nm n1 n2 n4 w e w' := ⟨false, h, fun _ => hh, hb⟩
set_option maxRecDepth 100000 in
set_option maxHeartbeats 2000000 in
theorem heavy_any (nm : ByteArray) (dA : Int) (A1 A2 A3 A4 : Option Addr) (n1 c1 n2 c2 c3 n4 c4 : Nat) (ss : List Sym) (w : World) (hS : SymsAt w A3 ss) (hN : ∀ i, (sName ss i).size ≤ 140737488355328) (hs : ss.length ≤ 140737488355328) :
    Calls Tryz.prog 6 #[.agg #[.string nm, .slice A1 n1 c1, .int .i64 dA, .slice A2 n2 c2, .slice A3 ss.length c3, .slice A4 n4 c4]] w fun e w' => HvP ss nm n1 n2 n4 w e w' := by
  have hB : SymsAt (w.alloc (.cells #[.string nm, .slice A1 n1 c1, .int .i64 dA, .slice A2 n2 c2, .slice A3 ss.length c3, .slice A4 n4 c4] 27)) A3 ss := hS.keep (lb_alloc (Below.refl _ _) _)
  clear hS
  go_enter Tryz.func6, Tryz.ntmps6
  go_wp2
  go_loop [3, 4] (fun n i => ∃ k m : Nat, n = .int .i64 m ∧ i = .int .i64 k ∧ k ≤ ss.length ∧ k ≤ m ∧ m ≤ 140737490000000) (fun _ i => ss.length - (intOf i).toNat)
  case atStart => exact ⟨0, 0, rfl, rfl, by omega, by omega, by omega⟩
  case round =>
    obtain ⟨k, m, rfl, rfl, hk, hkm, hm⟩ := hrel
    by_cases hlt : k < ss.length ∧ m ≤ 1048576
    · obtain ⟨hlt, hm2⟩ := hlt
      obtain ⟨a, rfl, c0, _⟩ := hB k hlt
      have hN1 := hN k
      go_wp2
      go_round
      case rel => exact ⟨k + 1, m + 1 + (sName ss k).size, by go_num, by go_num, by omega, by omega, by omega⟩
      case measure => simp [intOf]; omega
    · by_cases h1 : 1048576 < m
      · have h1' : ¬ (m : Int) ≤ 1048576 := by omega
        by_cases h0 : k < ss.length
        all_goals
          go_wp2
          go_ret
          exact hvT rfl (lb_alloc (Below.refl _ _) _)
      · have h0 : ¬ k < ss.length := fun h => hlt ⟨h, by omega⟩
        have HL : Hid (ss.length ≤ 1048576) := by rw [Hid]; omega
        clear hlt
        by_cases h2 : 1048576 < nm.size
        · go_wp2
          go_ret
          exact hvT rfl (lb_alloc (Below.refl _ _) _)
        by_cases h3 : 32768 < n1
        · go_wp2
          go_ret
          exact hvT rfl (lb_alloc (Below.refl _ _) _)
        by_cases h4 : 32768 < n2
        · go_wp2
          go_ret
          exact hvT rfl (lb_alloc (Below.refl _ _) _)
        by_cases h5 : 32768 < n4
        · go_wp2
          go_ret
          exact hvT (by first | rfl | (simp [*]; done) | (simp; omega)) (lb_alloc (Below.refl _ _) _)
        · go_wp2
          go_ret
          exact hvF (by first | rfl | (simp [*]; done) | (simp; omega)) ⟨HL.out, by omega, by omega, by omega, by omega⟩ (lb_alloc (Below.refl _ _) _)


end Go.Proofs.YthfcimmfkibmjaaGreatDoor

namespace Go.Proofs.YthfcimmfkibmjaaGreatDoor
open Go.RowKit


set_option maxRecDepth 100000 in
set_option maxHeartbeats 8000000 in
theorem lawWrites (nm : ByteArray) (dA : Int) (A1 A2 A3 A4 : Option Addr) (c1 c2 c3 c4 : Nat) (code data : List Int) (ss : List Sym) (rs : List Rel) (w : World) (hT : w.cell? ⟨0, 0, none⟩ = some errT)
    (hC : IntsAt w A1 .u32 code) (hD : IntsAt w A2 .i64 data) (hS : SymsAt w A3 ss) (hL : RelsAt w A4 rs) (hR : ∀ i, i < code.length → 0 ≤ nth code i ∧ nth code i < 4294967296) (hR2 : ∀ i, i < data.length → -9223372036854775808 ≤ nth data i ∧ nth data i < 9223372036854775808)
    (hN : ∀ i, (sName ss i).size ≤ 140737488355328) (hn : ss.length ≤ 140737488355328) (hA : -9223372036854775808 ≤ dA ∧ dA ≤ 9223372036854775807) :
    Calls Tryz.prog 3 #[.agg #[.string nm, .slice A1 code.length c1, .int .i64 dA, .slice A2 data.length c2, .slice A3 ss.length c3, .slice A4 rs.length c4]] w fun e w' => e = .returned (.bool true) ∧ Below w.heap.size w w' := by
  have LV := fun wx (hx : Below w.heap.size w wx) => lives_any wx (lkeep hx hT)
  have h00 : 0 < w.heap.size := World.block_lt_of_cell? w _ hT
  have H00 : Hid _ := h00
  have hB0 := lb_alloc (Below.refl w.heap.size w) (.cells #[.string nm, .slice A1 code.length c1, .int .i64 dA, .slice A2 data.length c2, .slice A3 ss.length c3, .slice A4 rs.length c4] 27)
  have hbx0 : Hid ((w.alloc (.cells #[.string nm, .slice A1 code.length c1, .int .i64 dA, .slice A2 data.length c2, .slice A3 ss.length c3, .slice A4 rs.length c4] 27)).heap[w.heap.size]? = some (.cells #[.string nm, .slice A1 code.length c1, .int .i64 dA, .slice A2 data.length c2, .slice A3 ss.length c3, .slice A4 rs.length c4] 27 (0, 0))) := heap_alloc_new _ _
  have HB0 : Hid _ := hB0
  clear h00
  go_enter Tryz.func3, Tryz.ntmps3
  go_wp2_with fail
  refine (heavy_any nm dA A1 A2 A3 A4 code.length c1 data.length c2 c3 rs.length c4 ss _ (hS.keep HB0.out) hN hn).mono ?_
  rintro e w1 ⟨B, rfl, hv, hb1⟩
  have HB1 : Hid (Below w.heap.size w w1) := lb_trans HB0.out hb1
  have hbx1 : Hid _ := lb_box hbx0.out hb1
  obtain ⟨d0, d1, d2, d3, d4, d5⟩ := box6_cell hbx1.out
  clear hb1 hB0
  cases B with
  | true =>
    clear hv
    go_wp2_with (go_at_call 7; refine (LV _ HB1.out).mono ?_; rintro e w2 ⟨rfl, hb2⟩)
    go_ret
    exact ⟨rfl, lb_trans HB1.out hb2⟩
  | false =>
    obtain ⟨b3, _, bc, bd, bl⟩ := hv rfl
    clear hv
    have hc : code.length ≤ 1048576 := by omega
    have hd : data.length ≤ 1048576 := by omega
    have hl : rs.length ≤ 1048576 := by omega
    go_wp2_with fail
    refine (wideobj_lies nm dA A1 A2 A3 A4 c1 c2 c3 c4 code data ss rs _ (hC.keep HB1.out) (hD.keep HB1.out) (hS.keep HB1.out) (hL.keep HB1.out) hc hd b3 hl).mono ?_
    rintro e w2 ⟨g1, g2, g3, g4, rfl, hb2, kC, kD, kS, kL, m1, m2, m3, m4⟩
    have HB2 : Hid (Below w.heap.size w w2) := lb_trans HB1.out hb2
    have hbx2 : Hid _ := lb_box hbx1.out hb2
    have HKC : Hid (IntsAt w2 (some ⟨g1, 0, none⟩) .u32 code) := kC
    have HKD : Hid (IntsAt w2 (some ⟨g2, 0, none⟩) .i64 data) := kD
    have HKS : Hid (SymsAt w2 (some ⟨g3, 0, none⟩) ss) := kS
    have HKL : Hid (RelsAt w2 (some ⟨g4, 0, none⟩) rs) := kL
    have HM1 : Hid (MarkI w2 .u32 g1 code.length) := m1
    have HM2 : Hid (MarkI w2 .i64 g2 data.length) := m2
    have HM3 : Hid (MarkS w2 g3 ss.length) := m3
    have HM4 : Hid (MarkR w2 g4 rs.length) := m4
    have hD3 : Hid (Below w2.heap.size w2 (w2.alloc (.cells #[.string nm, .slice (some ⟨g1, 0, none⟩) code.length (code.length + 64), .int .i64 dA, .slice (some ⟨g2, 0, none⟩) data.length (data.length + 64), .slice (some ⟨g3, 0, none⟩) ss.length (ss.length + 64), .slice (some ⟨g4, 0, none⟩) rs.length (rs.length + 64)] 27))) := lb_alloc (Below.refl _ _) _
    have hin3 : Hid ((w2.alloc (.cells #[.string nm, .slice (some ⟨g1, 0, none⟩) code.length (code.length + 64), .int .i64 dA, .slice (some ⟨g2, 0, none⟩) data.length (data.length + 64), .slice (some ⟨g3, 0, none⟩) ss.length (ss.length + 64), .slice (some ⟨g4, 0, none⟩) rs.length (rs.length + 64)] 27)).heap[w2.heap.size]? = some (.cells #[.string nm, .slice (some ⟨g1, 0, none⟩) code.length (code.length + 64), .int .i64 dA, .slice (some ⟨g2, 0, none⟩) data.length (data.length + 64), .slice (some ⟨g3, 0, none⟩) ss.length (ss.length + 64), .slice (some ⟨g4, 0, none⟩) rs.length (rs.length + 64)] 27 (0, 0))) := heap_alloc_new _ _
    have C1 := fun wx (h : Below w2.heap.size w2 wx) => write_any nm dA (some ⟨g1, 0, none⟩) (some ⟨g2, 0, none⟩) (some ⟨g3, 0, none⟩) (some ⟨g4, 0, none⟩) (code.length + 64) (data.length + 64) (ss.length + 64) (rs.length + 64) code data ss rs wx (HKC.out.keep h) (HKD.out.keep h) (HKS.out.keep h) (HKL.out.keep h) hR hc hd b3 hl hN hA
    have C2 := fun wx (h : Below w.heap.size w wx) => refwrite_any nm dA A1 A2 A3 A4 c1 c2 c3 c4 code data ss rs wx (hC.keep h) (hD.keep h) (hS.keep h) (hL.keep h) hR hR2 hc hd b3 hl hN hA
    have hwl := wroteL_len nm code dA data ss rs
    have W1 : Hid (∀ wx, Below w2.heap.size w2 wx → Calls Tryz.prog 9 #[.agg #[.string nm, .slice (some ⟨g1, 0, none⟩) code.length (code.length + 64), .int .i64 dA, .slice (some ⟨g2, 0, none⟩) data.length (data.length + 64), .slice (some ⟨g3, 0, none⟩) ss.length (ss.length + 64), .slice (some ⟨g4, 0, none⟩) rs.length (rs.length + 64)]] wx (Wrote (wroteL nm code dA data ss rs) (checkC nm code dA data.length ss rs).1 wx)) := fun wx h => (C1 wx h).mono fun r w' h => wrote_all h
    have W2 : Hid (∀ wx, Below w.heap.size w wx → Calls Tryz.prog 10 #[.agg #[.string nm, .slice A1 code.length c1, .int .i64 dA, .slice A2 data.length c2, .slice A3 ss.length c3, .slice A4 rs.length c4]] wx (Wrote (wroteL nm code dA data ss rs) (checkC nm code dA data.length ss rs).1 wx)) := fun wx h => (C2 wx h).mono fun r w' h => wrote_all h
    generalize wroteL nm code dA data ss rs = l at hwl W1 W2
    generalize (checkC nm code dA data.length ss rs).1 = E at W1 W2
    clear hb2 kC kD kS kL m1 m2 m3 m4 d0 d1 d2 d3 d4 d5 C1 C2
    go_wp2_with fail
    refine (W1.out _ hD3.out).mono ?_
    rintro r w3 ⟨Aa, ca, rfl, roa, ia, hb3⟩
    have HD3 : Hid (Below w2.heap.size w2 w3) := lb_trans hD3.out hb3
    have HBa : Hid (w.heap.size ≤ (w2.alloc (.cells #[.string nm, .slice (some ⟨g1, 0, none⟩) code.length (code.length + 64), .int .i64 dA, .slice (some ⟨g2, 0, none⟩) data.length (data.length + 64), .slice (some ⟨g3, 0, none⟩) ss.length (ss.length + 64), .slice (some ⟨g4, 0, none⟩) rs.length (rs.length + 64)] 27)).heap.size) := by
      have := HB2.out.size
      show _ ≤ _
      simp
      omega
    have HRa : Hid (w3.ownsRow w.heap.size 5 1 (.slice Aa l.length ca) l.length (bNews l)) := ownsRow_mono roa HBa.out
    have HIa : Hid (IntsAt w3 Aa .u8 l) := ia
    have hin4 : Hid _ := lb_box hin3.out hb3
    have hbx3 : Hid _ := lb_box hbx2.out HD3.out
    obtain ⟨d0, d1, d2, d3, d4, d5⟩ := box6_cell hin4.out
    clear hb3 roa ia hin3 HBa
    go_wp2_with fail
    refine (W1.out _ HD3.out).mono ?_
    rintro r w4 ⟨Ab, cb, rfl, rob, ib, hb4⟩
    have HD4 : Hid (Below w2.heap.size w2 w4) := lb_trans HD3.out hb4
    have HB4 : Hid (Below w.heap.size w w4) := lb_trans HB2.out HD4.out
    have HS4 : Hid (w.heap.size ≤ w3.heap.size) := Nat.le_trans HB2.out.size HD3.out.size
    have HOf : Hid (Off (Value.slice Aa l.length ca).ownBlock (Value.slice Ab l.length cb).ownBlock) := fun b h1 h2 => by
      have := own_lt HRa.out h1
      have := (rob.lt b h2).1
      omega
    have HRa4 : Hid (w4.ownsRow w.heap.size 5 1 (.slice Aa l.length ca) l.length (bNews l)) := row_keep HRa.out hb4
    have HRb4 : Hid (w4.ownsRow w.heap.size 5 1 (.slice Ab l.length cb) l.length (bNews l)) := ownsRow_mono rob HS4.out
    have HIa4 : Hid (IntsAt w4 Aa .u8 l) := HIa.out.keep hb4
    have HIb4 : Hid (IntsAt w4 Ab .u8 l) := ib
    have hin5 : Hid _ := lb_box hin4.out hb4
    have hbx4 : Hid _ := lb_box hbx3.out hb4
    obtain ⟨d0', d1', d2', d3', d4', d5'⟩ := box6_cell hbx4.out
    clear hb4 rob ib hin4 hbx3 HRa HIa HS4 d0 d1 d2 d3 d4 d5
    go_wp2_with fail
    refine (W2.out _ HB4.out).mono ?_
    rintro r w5 ⟨Ac, cc, rfl, roc, ic, hb5⟩
    have HD5 : Hid (Below w2.heap.size w2 w5) := lb_trans HD4.out hb5
    have HB5 : Hid (Below w.heap.size w w5) := lb_trans HB4.out hb5
    have HRa5 : Hid (w5.ownsRow w.heap.size 5 1 (.slice Aa l.length ca) l.length (bNews l)) := row_keep HRa4.out hb5
    have HRb5 : Hid (w5.ownsRow w.heap.size 5 1 (.slice Ab l.length cb) l.length (bNews l)) := row_keep HRb4.out hb5
    have HIa5 : Hid (IntsAt w5 Aa .u8 l) := HIa4.out.keep hb5
    have HIb5 : Hid (IntsAt w5 Ab .u8 l) := HIb4.out.keep hb5
    have HIc5 : Hid (IntsAt w5 Ac .u8 l) := ic
    have hin6 : Hid _ := lb_box hin5.out hb5
    have hbx5 : Hid _ := lb_box hbx4.out hb5
    have E1 := fun wx (h : Below w5.heap.size w5 wx) => eqbytes_any Aa Ac ca cc l l wx (HIa5.out.keep h) (HIc5.out.keep h) (by omega)
    have E2 := fun wx (h : Below w5.heap.size w5 wx) => eqbytes_any Ab Ac cb cc l l wx (HIb5.out.keep h) (HIc5.out.keep h) (by omega)
    simp only [decide_true] at E1 E2
    clear hb5 roc ic hin5 hbx4 HRa4 HRb4 HIa4 HIb4 d0' d1' d2' d3' d4' d5' W1 W2
    go_wp2_with fail
    refine (E1 _ (Below.refl _ _)).mono ?_
    rintro r w6 ⟨rfl, hb6⟩
    have H56 : Hid (Below w5.heap.size w5 w6) := hb6
    clear hb6 E1
    go_wp2_with fail
    refine (E2 _ H56.out).mono ?_
    rintro r w7 ⟨rfl, hb7⟩
    have H57 : Hid (Below w5.heap.size w5 w7) := lb_trans H56.out hb7
    have HD7 : Hid (Below w2.heap.size w2 w7) := lb_trans HD5.out H57.out
    have HB7 : Hid (Below w.heap.size w w7) := lb_trans HB5.out H57.out
    have hin7 : Hid _ := lb_box hin6.out H57.out
    have hbx7 : Hid _ := lb_box hbx5.out H57.out
    obtain ⟨d0, d1, d2, d3, d4, d5⟩ := box6_cell hin7.out
    obtain ⟨e0, e1, e2, e3, e4, e5⟩ := box6_cell hbx7.out
    clear hb7 E2 hin6 hbx5 H56
    go_wp2_with fail
    refine (eqobj_same nm dA (some ⟨g1, 0, none⟩) (some ⟨g2, 0, none⟩) (some ⟨g3, 0, none⟩) (some ⟨g4, 0, none⟩) (code.length + 64) (data.length + 64) (ss.length + 64) (rs.length + 64) code data ss rs _ A1 A2 A3 A4 c1 c2 c3 c4 (HKC.out.keep HD7.out) (HKD.out.keep HD7.out) (HKS.out.keep HD7.out) (HKL.out.keep HD7.out) hc hd b3 hl (hC.keep HB7.out) (hD.keep HB7.out) (hS.keep HB7.out) (hL.keep HB7.out)).mono ?_
    rintro r w8 ⟨rfl, hb8⟩
    have HD8 : Hid (Below w2.heap.size w2 w8) := lb_trans HD7.out hb8
    have H58 : Hid (Below w5.heap.size w5 w8) := lb_trans H57.out hb8
    have hin8 : Hid _ := lb_box hin7.out hb8
    clear d0 d1 d2 d3 d4 d5 e0 e1 e2 e3 e4 e5
    obtain ⟨d0, d1, d2, d3, d4, d5⟩ := box6_cell hin8.out
    clear hb8 hin7 hbx7 H57
    go_wp2_with fail
    refine (spareobj_any nm dA g1 code.length g2 data.length g3 ss.length g4 rs.length _ (HM1.out.keep HD8.out) (HM2.out.keep HD8.out) (HM3.out.keep HD8.out) (HM4.out.keep HD8.out) hc hd b3 hl).mono ?_
    rintro r w9 ⟨rfl, hb9⟩
    have H59 : Hid (Below w5.heap.size w5 w9) := lb_trans H58.out hb9
    have HB9 : Hid (Below w.heap.size w w9) := lb_trans HB5.out H59.out
    have HRa9 : Hid (w9.ownsRow w.heap.size 5 1 (.slice Aa l.length ca) l.length (bNews l)) := row_keep HRa5.out H59.out
    have HRb9 : Hid (w9.ownsRow w.heap.size 5 1 (.slice Ab l.length cb) l.length (bNews l)) := row_keep HRb5.out H59.out
    have HG9 : Hid (BagIs (w9.alloc (.cells #[.slice none 0 0, .slice none 0 0, .slice none 0 0, .slice none 0 0, .slice none 0 0, .slice none 0 0, .slice none 0 0, .slice none 0 0, .slice none 0 0, .slice none 0 0, .slice none 0 0, .slice none 0 0, .slice none 0 0, .slice none 0 0, .slice none 0 0, .slice none 0 0, .slice none 0 0] 56)) w9.heap.size (fun _ => .slice none 0 0)) := bag_new w9
    have HN9 : Hid (Below w9.heap.size w9 (w9.alloc (.cells #[.slice none 0 0, .slice none 0 0, .slice none 0 0, .slice none 0 0, .slice none 0 0, .slice none 0 0, .slice none 0 0, .slice none 0 0, .slice none 0 0, .slice none 0 0, .slice none 0 0, .slice none 0 0, .slice none 0 0, .slice none 0 0, .slice none 0 0, .slice none 0 0, .slice none 0 0] 56))) := lb_alloc (Below.refl _ _) _
    clear hb9 hin8 H58 HRa5 HRb5 HIa5 HIb5 HIc5 d0 d1 d2 d3 d4 d5 HKC HKD HKS HKL HM1 HM2 HM3 HM4 HD3 HD4 HD5 HD7 HD8
    go_wp2_with fail
    refine (addbytes_any w9.heap.size w9.heap.size _ [] Aa l.length ca _ (Nat.le_refl _) HG9.out (World.ownsRow_nil _ _ _ _) (by simp)).mono ?_
    rintro r wa ⟨rfl, V1, hg1, ho1, hb1, -⟩
    have HGa : Hid (BagIs wa w9.heap.size (upd (fun _ => .slice none 0 0) 0 V1)) := hg1
    have HOa : Hid (wa.ownsRow w9.heap.size 31 1 V1 1 [.slice Aa l.length ca]) := ho1
    have HNa : Hid (Below w9.heap.size w9 wa) := Below.trans HN9.out hb1
    clear hg1 ho1 hb1 HG9 HN9
    go_wp2_with fail
    refine (addbytes_any w9.heap.size w9.heap.size _ [.slice Aa l.length ca] Ab l.length cb _ (Nat.le_refl _) HGa.out HOa.out (by simp)).mono ?_
    rintro r wb ⟨rfl, V2, hg2, ho2, hb2, -⟩
    have HGb : Hid (BagIs wb w9.heap.size (upd (upd (fun _ => .slice none 0 0) 0 V1) 0 V2)) := hg2
    have HOb : Hid (wb.ownsRow w9.heap.size 31 1 V2 2 [.slice Aa l.length ca, .slice Ab l.length cb]) := ho2
    have HNb : Hid (Below w9.heap.size w9 wb) := Below.trans HNa.out hb2
    have HBb : Hid (Below w.heap.size w wb) := lb_trans HB9.out HNb.out
    have HRab : Hid (wb.ownsRow w.heap.size 5 1 (.slice Aa l.length ca) l.length (bNews l)) := row_keep HRa9.out HNb.out
    have HRbb : Hid (wb.ownsRow w.heap.size 5 1 (.slice Ab l.length cb) l.length (bNews l)) := row_keep HRb9.out HNb.out
    have AP : Hid _ := apartB w9.heap.size _ [(.slice Aa l.length ca, l.length), (.slice Ab l.length cb, l.length)] wb HGb.out (ownsRow_mono HOb.out (Nat.zero_le _)) (fun k h1 h2 => by unfold upd; rw [if_neg (by omega), if_neg (by omega)])
      (two_all ⟨_, ownsRow_mono HRab.out (Nat.zero_le _)⟩ ⟨_, ownsRow_mono HRbb.out (Nat.zero_le _)⟩) (sep_two HOf.out) (by simp) (rl_two (by omega) (by omega))
    have HQ : Hid (∀ m, m < 2 → ∀ b, (rv [(.slice Aa l.length ca, l.length), (.slice Ab l.length cb, l.length)] m).ownBlock = some b → w.heap.size ≤ b) := two_all (fun b hb => (HRab.out.lt b hb).1) (fun b hb => (HRbb.out.lt b hb).1)
    clear hg2 ho2 hb2 HGa HOa HNa HOb HRa9 HRb9 HRab HRbb HOf HGb
    go_wp2_with fail
    refine (Calls.mono AP.out ?_)
    rintro r wc ⟨rfl, hfr⟩
    have HBc : Hid (Below w.heap.size w wc) := hfr.below HBb.out HBb.out.size HQ.out
    clear hfr AP
    go_wp2_with fail
    refine (LV _ HBc.out).mono ?_
    rintro r wd ⟨rfl, hbd⟩
    have HBd : Hid (Below w.heap.size w wd) := lb_trans HBc.out hbd
    clear hbd
    go_wp2
    go_ret
    exact ⟨rfl, HBd.out⟩

end Go.Proofs.YthfcimmfkibmjaaGreatDoor

namespace Go.Proofs.YthfcimmfkibmjaaGreatDoor
open Go.ChangeShapes Go.WideShapes Go.ChangeAt Go.RowKit Go.Joins

theorem open_i {H : Type} {enc : TypeId × Value → H} {W : World} {base : Nat} {sp : Nat → Bool} {held : Bool} {fuel : Nat} {cs : List Value} {x : DataW H × List MemPlace} {t e : TypeId} {k : IntKind} (ht : Tryz.prog.underlying t = some (.slice e)) (he : Tryz.prog.underlying e = some (.int k)) (hc : Tryz.prog.cellsOf e = 1) (h : DataW.trod enc Tryz.prog W base sp held fuel t cs = some x) :
    ∃ (O : Option Addr) (cap : Nat) (zs : List Int), cs = [.slice O zs.length cap] ∧ IntsAt W O k zs ∧ zs.length ≤ maxLen ∧ (∀ i, i < zs.length → (Lit.int k (nth zs i)).wf = true) ∧ (O = none → cap = 0) := by
  rcases open_ints ht he hc h with ⟨rfl, _⟩ | ⟨a, len, cap, zs, rfl, _, hl, hm, hz, _, hcell, hwf⟩
  · exact ⟨none, 0, [], rfl, fun i hi => by simp at hi, by simp, fun i hi => by simp at hi, fun _ => rfl⟩
  · have hlen : len ≤ zs.length := by rw [hz]; split <;> omega
    have hn : ∀ i, i < len → nth (zs.take len) i = zs.getD i 0 := fun i hi => by simp [nth, List.getD, hi]
    have hl2 : (zs.take len).length = len := by rw [List.length_take, Nat.min_eq_left hlen]
    refine ⟨some a, cap, zs.take len, by rw [hl2], ?_, by omega, ?_, fun h => by cases h⟩
    · intro i hi
      rw [hl2] at hi
      exact ⟨a, rfl, by rw [hn i hi]; exact hcell i (by omega)⟩
    · intro i hi
      rw [hl2] at hi
      rw [hn i hi]
      refine hwf _ ?_
      simp [List.getD, show i < zs.length by omega]
theorem open_b {H : Type} {enc : TypeId × Value → H} {W : World} {base : Nat} {sp : Nat → Bool} {held : Bool} {v : Value} {d : DataW H} {p : List MemPlace} (h : DataW.Trod enc Tryz.prog W base sp held 31 v d p) (hv : v.cells = #[v]) :
    ∃ (O : Option Addr) (cap : Nat) (zs : List Int), v = .slice O zs.length cap ∧ IntsAt W O .u8 zs ∧ zs.length ≤ maxLen ∧ (∀ i, i < zs.length → 0 ≤ nth zs i ∧ nth zs i < 256) ∧ (O = none → cap = 0) := by
  obtain ⟨fuel, hf⟩ := h
  rw [hv] at hf
  obtain ⟨O, cap, zs, e, k, hl, hwf, u⟩ := open_i Tryz.underlying31 Tryz.underlying5 (by kernel_rfl) hf
  refine ⟨O, cap, zs, by simpa using e, k, hl, fun i hi => ?_, u⟩
  have := hwf i hi
  simp [Lit.wf, IntKind.min, IntKind.max, IntKind.signed, IntKind.bits] at this
  omega
set_option maxRecDepth 100000 in
theorem open_bs {H : Type} {enc : TypeId × Value → H} {W : World} {b0 base : Nat} {sp : Nat → Bool} {held : Bool} {v : Value} {d : DataW H} {p : List MemPlace} (hv : Value.okWide Tryz.prog W .any b0 31 v) (h : DataW.Trod enc Tryz.prog W base sp held 31 v d p) :
    ∃ (O : Option Addr) (cap : Nat) (zs : List Int), v = .slice O zs.length cap ∧ IntsAt W O .u8 zs ∧ zs.length ≤ maxLen ∧ (∀ i, i < zs.length → 0 ≤ nth zs i ∧ nth zs i < 256) ∧ (O = none → cap = 0) := by
  obtain ⟨a, len, c, rfl⟩ := okWide_slice Tryz.underlying31 hv
  obtain ⟨fuel, hf⟩ := h
  obtain ⟨O, cap, zs, e, k, hl, hwf, u⟩ := open_i Tryz.underlying31 Tryz.underlying5 (by kernel_rfl) hf
  refine ⟨O, cap, zs, ?_, k, hl, fun i hi => ?_, u⟩
  · simpa [Value.cells] using e
  · have := hwf i hi
    simp [Lit.wf, IntKind.min, IntKind.max, IntKind.signed, IntKind.bits] at this
    omega
theorem mk_at {α : Type} (f : Nat → α) (n : Nat) (z : α) (i : Nat) (h : i < n) : ((List.range n).map f).getD i z = f i := by simp [List.getD, h]
theorem open_rels {H : Type} {enc : TypeId × Value → H} {W : World} {base : Nat} {sp : Nat → Bool} {held : Bool} {fuel : Nat} {cs : List Value} {x : DataW H × List MemPlace} (h : DataW.trod enc Tryz.prog W base sp held fuel 25 cs = some x) :
    ∃ (O : Option Addr) (cap : Nat) (zs : List Rel), cs = [.slice O zs.length cap] ∧ RelsAt W O zs ∧ zs.length ≤ maxLen ∧ (O = none → cap = 0) := by
  rcases Deep.open_slice_pairs Tryz.underlying25 Tryz.underlying119 (by kernel_rfl) rfl rfl (by kernel_rfl) (by kernel_rfl) h with ⟨rfl, _⟩ | ⟨a, len, cap, m, n, V0, V1, D0, D1, P0, P1, rfl, _, hl, hm, hmm, _, hx⟩
  · exact ⟨none, 0, [], rfl, fun i hi => by simp at hi, by simp, fun _ => rfl⟩
  · have hlm : len ≤ m := by rw [hmm]; split <;> omega
    have each : ∀ i, ∃ q : Rel, i < len → W.cell? (a.add (i * 2)) = some (.int .i64 q.1) ∧ W.cell? (a.add (i * 2 + 1)) = some (.int .i64 q.2) := by
      intro i
      by_cases hi : i < len
      · obtain ⟨h0, h1, t0, t1⟩ := hx i (by omega)
        obtain ⟨u, e0, _, _⟩ := DataW.trod_int Tryz.underlying3 t0
        obtain ⟨v, e1, _, _⟩ := DataW.trod_int Tryz.underlying3 t1
        simp at e0 e1
        exact ⟨(u, v), fun _ => ⟨by rw [h0, e0], by rw [h1, e1]⟩⟩
      · exact ⟨(0, 0), fun h => absurd h hi⟩
    obtain ⟨f, hf⟩ := Classical.axiomOfChoice each
    refine ⟨some a, cap, (List.range len).map f, by simp, ?_, by simp; omega, fun h => by cases h⟩
    intro i hi
    have hi' : i < len := by simpa using hi
    refine ⟨a, rfl, ?_, ?_⟩
    · unfold rAt; rw [mk_at _ _ _ _ hi']; exact (hf i hi').1
    · unfold rSym; rw [mk_at _ _ _ _ hi', Deep.add_add]; exact (hf i hi').2
theorem mem_all {H : Type} {P : Program} {e : TypeId} {d : DataW H} {n : Nat} : ∀ {l : List (DataW H)}, d ∈ l → n ∈ d.weights P e → n ∈ DataW.weightsAll P e l
  | [], h, _ => by cases h
  | x :: l, h, hn => by
    rw [DataW.weightsAll, List.mem_append]
    rcases List.mem_cons.1 h with rfl | h
    · exact Or.inl hn
    · exact Or.inr (mem_all h hn)
set_option maxRecDepth 100000 in
theorem open_syms {H : Type} {enc : TypeId × Value → H} {W : World} {base : Nat} {sp : Nat → Bool} {held : Bool} {fuel : Nat} {cs : List Value} {x : DataW H × List MemPlace} (h : DataW.trod enc Tryz.prog W base sp held fuel 24 cs = some x) :
    ∃ (O : Option Addr) (cap : Nat) (zs : List Sym), cs = [.slice O zs.length cap] ∧ SymsAt W O zs ∧ ((∀ n ∈ x.1.weights Tryz.prog 24, n ≤ reachBytes) → zs.length ≤ reachBytes ∧ ∀ i, (sName zs i).size ≤ reachBytes) ∧ (∀ i, i < zs.length → (Lit.int .i8 (sKind zs i)).wf = true ∧ (Lit.int .i64 (sAt zs i)).wf = true) ∧ (O = none → cap = 0) := by
  rcases Deep.open_slice Tryz.underlying24 h with ⟨rfl, _⟩ | ⟨a, len, cap, m, n, D, Pl, rfl, _, hl, hm, hmm, hxx, hx⟩
  · exact ⟨none, 0, [], rfl, fun i hi => by simp at hi, fun _ => ⟨Nat.zero_le _, fun i => Nat.zero_le _⟩, fun i hi => by simp at hi, fun _ => rfl⟩
  · have hlm : len ≤ m := by rw [hmm]; split <;> omega
    have each : ∀ i, ∃ q : Sym, (i < len → (∃ y1 y2, D i = .agg [.lit (.string q.1.data.toList), y1, y2]) ∧ W.cell? (a.add (i * 3)) = some (.string q.1) ∧ W.cell? (a.add (i * 3 + 1)) = some (.int .i8 q.2.1) ∧ W.cell? (a.add (i * 3 + 2)) = some (.int .i64 q.2.2) ∧ (Lit.int .i8 q.2.1).wf = true ∧ (Lit.int .i64 q.2.2).wf = true) := by
      intro i
      by_cases hi : i < len
      · obtain ⟨cs', h1, h2⟩ := hx i (by omega)
        rw [show Tryz.prog.cellsOf 68 = 3 by kernel_rfl] at h1
        obtain ⟨_, hlen, hcell⟩ := World.cells?_some h1
        obtain ⟨y0, y1, y2, k, hD, _, g0, g1, g2⟩ := Deep.trod_struct3 Tryz.underlying68 h2
        match cs', hlen with
        | [v0, v1, v2], _ =>
          simp [show Tryz.prog.cellsOf 9 = 1 by kernel_rfl, show Tryz.prog.cellsOf 66 = 1 by kernel_rfl, show Tryz.prog.cellsOf 3 = 1 by kernel_rfl] at g0 g1 g2
          obtain ⟨s, e0, ey, hs⟩ := DataW.trod_string Tryz.underlying9 g0
          obtain ⟨u, e1, _, hu⟩ := DataW.trod_int Tryz.underlying66 g1
          obtain ⟨v, e2, _, hv⟩ := DataW.trod_int Tryz.underlying3 g2
          simp at e0 e1 e2
          subst e0 e1 e2
          have q0 := hcell 0 (by omega)
          have q1 := hcell 1 (by omega)
          have q2 := hcell 2 (by omega)
          rw [Deep.add_add] at q0 q1 q2
          exact ⟨(s, u, v), fun _ => ⟨⟨y1.1, y2.1, by have := congrArg Prod.fst hD; rw [ey] at this; exact this⟩, by simpa using q0, by simpa using q1, by simpa using q2, hu, hv⟩⟩
      · exact ⟨symD, fun h => absurd h hi⟩
    obtain ⟨f, hf⟩ := Classical.axiomOfChoice each
    refine ⟨some a, cap, (List.range len).map f, by simp, ?_, ?_, ?_, fun h => by cases h⟩
    · intro i hi
      have hi' : i < len := by simpa using hi
      obtain ⟨_, h0, h1, h2, _, _⟩ := hf i hi'
      refine ⟨a, rfl, ?_, ?_, ?_⟩
      · unfold sName; rw [mk_at _ _ _ _ hi']; exact h0
      · unfold sKind; rw [mk_at _ _ _ _ hi', Deep.add_add]; exact h1
      · unfold sAt; rw [mk_at _ _ _ _ hi', Deep.add_add]; exact h2
    · intro hw
      subst hxx
      have hu : DataW.weights Tryz.prog 24 (.slice ((List.range len).map D) ((List.range (m - len)).map fun j => D (len + j))) = (((List.range len).map D).length + ((List.range (m - len)).map fun j => D (len + j)).length) * Tryz.prog.bytesOf 68 :: (DataW.weightsAll Tryz.prog 68 ((List.range len).map D) ++ DataW.weightsAll Tryz.prog 68 ((List.range (m - len)).map fun j => D (len + j))) := by
        simp only [DataW.weights, Tryz.underlying24]
      simp only [hu] at hw
      constructor
      · have h := hw _ (List.mem_cons_self ..)
        rw [show Tryz.prog.bytesOf 68 = 32 by kernel_rfl] at h
        simp at h ⊢
        omega
      · intro i
        by_cases hi : i < len
        · obtain ⟨⟨y1, y2, hD⟩, _⟩ := hf i hi
          unfold sName; rw [mk_at _ _ _ _ hi]
          have hm2 : (f i).1.data.toList.length ∈ DataW.weightsAll Tryz.prog 68 ((List.range len).map D) := by
            refine mem_all (d := D i) (List.mem_map.2 ⟨i, by simpa using hi, rfl⟩) ?_
            rw [hD]
            simp only [DataW.weights, Tryz.underlying68]
            exact DataW.weights_mem_each (j := 0) (t := 9) rfl rfl _ (by simp [DataW.weights])
          have h := hw _ (List.mem_cons_of_mem _ (List.mem_append_left _ hm2))
          simpa using h
        · have : ((List.range len).map f).getD i symD = symD := by simp [List.getD, hi]
          unfold sName; rw [this]; exact Nat.zero_le _
    · intro i hi
      have hi' : i < len := by simpa using hi
      obtain ⟨_, _, _, _, h3, h4⟩ := hf i hi'
      unfold sKind sAt
      rw [mk_at _ _ _ _ hi']
      exact ⟨h3, h4⟩
theorem six {cs : Array Value} (h : cs.size = 6) : ∃ a b c d e f, cs = #[a, b, c, d, e, f] := by
  obtain ⟨l⟩ := cs
  match l, h with
  | [a, b, c, d, e, f], _ => exact ⟨a, b, c, d, e, f, rfl⟩
set_option maxRecDepth 100000 in
theorem openObj {H : Type} {enc : TypeId × Value → H} {W : World} {b0 base : Nat} {spare : Nat → Bool} {held : Bool} {v : Value} {d : DataW H} {p : List MemPlace}
    (hv : Value.okWide Tryz.prog W .any b0 27 v) (h : DataW.Trod enc Tryz.prog W base spare held 27 v d p) (hw : ∀ n ∈ d.weights Tryz.prog 27, n ≤ reachBytes) :
    ∃ (nm : ByteArray) (dA : Int) (A1 A2 A3 A4 : Option Addr) (c1 c2 c3 c4 : Nat) (code data : List Int) (ss : List Sym) (rs : List Rel),
      v = .agg #[.string nm, .slice A1 code.length c1, .int .i64 dA, .slice A2 data.length c2, .slice A3 ss.length c3, .slice A4 rs.length c4] ∧
      IntsAt W A1 .u32 code ∧ IntsAt W A2 .i64 data ∧ SymsAt W A3 ss ∧ RelsAt W A4 rs ∧ (∀ i, i < code.length → 0 ≤ nth code i ∧ nth code i < 4294967296) ∧ (∀ i, (sName ss i).size ≤ 140737488355328) ∧ ss.length ≤ 140737488355328 ∧ nm.size ≤ maxLen ∧ (-9223372036854775808 ≤ dA ∧ dA ≤ 9223372036854775807) ∧ (A1 = none → c1 = 0) ∧ (A2 = none → c2 = 0) ∧ (A3 = none → c3 = 0) ∧ (A4 = none → c4 = 0) ∧ (∀ i, i < data.length → -9223372036854775808 ≤ nth data i ∧ nth data i < 9223372036854775808) := by
  obtain ⟨cs, rfl, hsz⟩ := okWide_struct Tryz.underlying27 hv
  obtain ⟨v0, v1, v2, v3, v4, v5, rfl⟩ := six (hsz.trans (by kernel_rfl))
  obtain ⟨fuel, hf⟩ := h
  obtain ⟨xs, n, _, hdd, _, hlen, hf⟩ := DataW.trod_struct Tryz.underlying27 hf
  match xs, hlen with
  | [y0, y1, y2, y3, y4, y5], _ =>
    have h0 := hf 0 _ rfl
    have h1 := hf 1 _ rfl
    have h2 := hf 2 _ rfl
    have h3 := hf 3 _ rfl
    have h4 := hf 4 _ rfl
    have h5 := hf 5 _ rfl
    simp [Value.cells, show Tryz.prog.cellsOf 9 = 1 by kernel_rfl, show Tryz.prog.cellsOf 22 = 1 by kernel_rfl, show Tryz.prog.cellsOf 3 = 1 by kernel_rfl, show Tryz.prog.cellsOf 23 = 1 by kernel_rfl, show Tryz.prog.cellsOf 24 = 1 by kernel_rfl, show Tryz.prog.cellsOf 25 = 1 by kernel_rfl] at h0 h1 h2 h3 h4 h5
    obtain ⟨nm, e0, _, hnm⟩ := DataW.trod_string Tryz.underlying9 h0
    obtain ⟨A1, c1, code, e1, k1, _, r1, u1⟩ := open_i Tryz.underlying22 Tryz.underlying78 (by kernel_rfl) h1
    obtain ⟨dA, e2, _, w2⟩ := DataW.trod_int Tryz.underlying3 h2
    obtain ⟨A2, c2, data, e3, k3, _, r3, u2⟩ := open_i Tryz.underlying23 Tryz.underlying2 (by kernel_rfl) h3
    obtain ⟨A3, c3, ss, e4, k4, n4, _, u3⟩ := open_syms h4
    obtain ⟨A4, c4, rs, e5, k5, _, u4⟩ := open_rels h5
    have hw4 : ∀ n ∈ y4.1.weights Tryz.prog 24, n ≤ reachBytes := fun n hn => by
      refine hw n ?_
      have hd : d = .agg [y0.1, y1.1, y2.1, y3.1, y4.1, y5.1] := congrArg Prod.fst hdd
      rw [hd]
      simp only [DataW.weights, Tryz.underlying27]
      exact DataW.weights_mem_each (j := 4) (t := 24) rfl rfl n hn
    simp at e0 e1 e2 e3 e4 e5
    subst e0 e1 e2 e3 e4 e5
    refine ⟨nm, dA, A1, A2, A3, A4, c1, c2, c3, c4, code, data, ss, rs, rfl, k1, k3, k4, k5, fun i hi => ?_, ?_, ?_, hnm, ?_, u1, u2, u3, u4, fun i hi => ?_⟩
    · have := r1 i hi
      simp [Lit.wf, IntKind.min, IntKind.max, IntKind.signed, IntKind.bits] at this
      omega
    · intro i
      have := (n4 hw4).2 i
      simp [reachBytes] at this; omega
    · have := (n4 hw4).1
      simp [reachBytes] at this; omega
    · simp [Lit.wf, IntKind.min, IntKind.max, IntKind.signed, IntKind.bits] at w2
      omega
    · have := r3 i hi
      simp [Lit.wf, IntKind.min, IntKind.max, IntKind.signed, IntKind.bits] at this
      omega



end Go.Proofs.YthfcimmfkibmjaaGreatDoor
