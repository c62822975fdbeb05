/-
  Where an object that was copied with marks lies, and that the marks stand; its lists are at most 2^20 long. WideImage, SpareImage, EqImage and heavy of the statements, each by what it returns; the lists have at most 2^20 items.
-/
import Derived.Test.YtfaekkbblpfbhaaDoorProg
import Derived.WalkKit
import Derived.WalkSpells
import Derived.WalkLawsBesides
import Derived.RowKit3
import Derived.Below
import Derived.Deep.QuietTactic
import Derived.BigQuiet
import Derived.WalkSmall
import Derived.Test.YtfaekkbblpfbhaaDoorIo26
import Derived.Laws.Rows
import Derived.Test.YtfaekkbblpfbhaaDoorIo25
import Derived.Test.YtfaekkbblpfbhaaDoorIo08
namespace Go.Proofs.YtfaekkbblpfbhaaDoor
open Go.RowKit

theorem al_size (X : World) (o : Obj) : (X.alloc o).heap.size = X.heap.size + 1 := by simp
theorem addz (g i : Nat) : (⟨g, 0, none⟩ : Addr).add i = ⟨g, i, none⟩ := by
  unfold Addr.add; split
  · subst_vars; rfl
  · simp
theorem addz2 (g i j : Nat) (hj : ¬ j = 0) : ((⟨g, 0, none⟩ : Addr).add i).add j = ⟨g, i + j, none⟩ := by
  rw [addz]; unfold Addr.add; rw [if_neg hj]
theorem row_new (X : World) (cs : Array Value) (t : TypeId) (j : Nat) (v : Value) (h : cs[j]? = some v) : (X.alloc (.cells cs t)).cell? ⟨X.heap.size, j, none⟩ = some v := by
  rw [cell_of_row _ _ _ _ _ _ (heap_alloc_new X _)]; exact h
theorem wcur_full (f z : Nat → Value) (N i : Nat) (h : i < N) : (wcur f z N N)[i]? = some (f i) := by rw [wcur_get _ _ _ _ _ h, if_pos h]
theorem wide_ints (X : World) (K : IntKind) (z : Nat → Value) (zs : List Int) (t : TypeId) : IntsAt (X.alloc (.cells (wcur (wInt K zs) z (zs.length + 64) (zs.length + 64)) t)) (some ⟨X.heap.size, 0, none⟩) K zs := fun i hi =>
  ⟨_, rfl, by rw [addz]; exact row_new _ _ _ _ _ (by rw [wcur_full _ _ _ _ (by omega)]; simp [wInt, hi])⟩
theorem wide_marki (X : World) (K : IntKind) (z : Nat → Value) (zs : List Int) (t : TypeId) : MarkI (X.alloc (.cells (wcur (wInt K zs) z (zs.length + 64) (zs.length + 64)) t)) K X.heap.size zs.length := fun i h1 h2 =>
  row_new _ _ _ _ _ (by rw [wcur_full _ _ _ _ h2]; simp [wInt, mark, show ¬ i < zs.length by omega])
end Go.Proofs.YtfaekkbblpfbhaaDoor

namespace Go.Proofs.YtfaekkbblpfbhaaDoor
open Go.RowKit

def wideC1 (text : List Int) : Obj := .cells (wcur (wInt .u32 text) (fun _ => .int .u32 0) (text.length + 64) (text.length + 64)) 61
def wideC2 (mem : List Int) : Obj := .cells (wcur (wInt .i64 mem) (fun _ => .int .i64 0) (mem.length + 64) (mem.length + 64)) 2
theorem wideimg_lies (A1 A2 : Option Addr) (c1 c2 : Nat) (text mem : List Int) (ent : Int) (w : World) (hT : IntsAt w A1 .u32 text) (hM : IntsAt w A2 .i64 mem) (hl : text.length ≤ 1048576) (hm : mem.length ≤ 1048576) :
    Calls Tryd.prog 8 #[.agg #[.slice A1 text.length c1, .int .i64 ent, .slice A2 mem.length c2]] w fun e w' => ∃ g1 g2 : Nat, e = .returned (.agg #[.slice (some ⟨g1, 0, none⟩) text.length (text.length + 64), .int .i64 ent, .slice (some ⟨g2, 0, none⟩) mem.length (mem.length + 64)]) ∧ Below w.heap.size w w' ∧ IntsAt w' (some ⟨g1, 0, none⟩) .u32 text ∧ MarkI w' .u32 g1 text.length ∧ IntsAt w' (some ⟨g2, 0, none⟩) .i64 mem ∧ MarkI w' .i64 g2 mem.length := by
  go_enter Tryd.func8, Tryd.ntmps8
  go_wp2_with fail
  refine (widewords_any A1 c1 text _ (hT.keep (lb_alloc (lb_alloc (Below.refl _ _) _) _)) hl).mono ?_
  rintro e w1 ⟨rfl, rfl⟩
  go_wp2_with fail
  refine (widelongs_any A2 c2 mem _ (hM.keep (lb_alloc (lb_alloc (lb_alloc (Below.refl _ _) _) _) _)) hm).mono ?_
  rintro e w1 ⟨rfl, rfl⟩
  go_wp2
  refine bodyPost_ret (v := .agg #[.slice (some ⟨w.heap.size + 2, 0, none⟩) text.length (text.length + 64), .int .i64 ent, .slice (some ⟨w.heap.size + 3, 0, none⟩) mem.length (mem.length + 64)]) (by simp [results, Tryd.results8, go_sem]) rfl ⟨_, _, rfl, lb_alloc (lb_alloc (lb_alloc (lb_alloc (Below.refl _ _) _) _) _) _, ?_, ?_, ?_, ?_⟩
  · have h := (wide_ints ((w.alloc (.cells #[.slice (some ⟨w.heap.size + 2, 0, none⟩) text.length (text.length + 64), .int .i64 ent, .slice (some ⟨w.heap.size + 3, 0, none⟩) mem.length (mem.length + 64)] 25)).alloc (.cells #[.slice (some ⟨w.heap.size + 2, 0, none⟩) text.length (text.length + 64), .int .i64 ent, .slice (some ⟨w.heap.size + 3, 0, none⟩) mem.length (mem.length + 64)] 25)) .u32 (fun _ => .int .u32 0) text 61).keep (lb_alloc (Below.refl _ _) (.cells (wcur (wInt .i64 mem) (fun _ => .int .i64 0) (mem.length + 64) (mem.length + 64)) 2))
    rw [al_size, al_size] at h
    exact h
  · have h := (wide_marki ((w.alloc (.cells #[.slice (some ⟨w.heap.size + 2, 0, none⟩) text.length (text.length + 64), .int .i64 ent, .slice (some ⟨w.heap.size + 3, 0, none⟩) mem.length (mem.length + 64)] 25)).alloc (.cells #[.slice (some ⟨w.heap.size + 2, 0, none⟩) text.length (text.length + 64), .int .i64 ent, .slice (some ⟨w.heap.size + 3, 0, none⟩) mem.length (mem.length + 64)] 25)) .u32 (fun _ => .int .u32 0) text 61).keep (lb_alloc (Below.refl _ _) (.cells (wcur (wInt .i64 mem) (fun _ => .int .i64 0) (mem.length + 64) (mem.length + 64)) 2))
    rw [al_size, al_size] at h
    exact h
  · have h := wide_ints (((w.alloc (.cells #[.slice (some ⟨w.heap.size + 2, 0, none⟩) text.length (text.length + 64), .int .i64 ent, .slice (some ⟨w.heap.size + 3, 0, none⟩) mem.length (mem.length + 64)] 25)).alloc (.cells #[.slice (some ⟨w.heap.size + 2, 0, none⟩) text.length (text.length + 64), .int .i64 ent, .slice (some ⟨w.heap.size + 3, 0, none⟩) mem.length (mem.length + 64)] 25)).alloc (.cells (wcur (wInt .u32 text) (fun _ => .int .u32 0) (text.length + 64) (text.length + 64)) 61)) .i64 (fun _ => .int .i64 0) mem 2
    rw [al_size, al_size, al_size] at h
    exact h
  · have h := wide_marki (((w.alloc (.cells #[.slice (some ⟨w.heap.size + 2, 0, none⟩) text.length (text.length + 64), .int .i64 ent, .slice (some ⟨w.heap.size + 3, 0, none⟩) mem.length (mem.length + 64)] 25)).alloc (.cells #[.slice (some ⟨w.heap.size + 2, 0, none⟩) text.length (text.length + 64), .int .i64 ent, .slice (some ⟨w.heap.size + 3, 0, none⟩) mem.length (mem.length + 64)] 25)).alloc (.cells (wcur (wInt .u32 text) (fun _ => .int .u32 0) (text.length + 64) (text.length + 64)) 61)) .i64 (fun _ => .int .i64 0) mem 2
    rw [al_size, al_size, al_size] at h
    exact h
theorem spareimg_any (ent : Int) (g1 n1 g2 n2 : Nat) (w : World) (m1 : MarkI w .u32 g1 n1) (m2 : MarkI w .i64 g2 n2) (b1 : n1 ≤ 1048576) (b2 : n2 ≤ 1048576) :
    Calls Tryd.prog 15 #[.agg #[.slice (some ⟨g1, 0, none⟩) n1 (n1 + 64), .int .i64 ent, .slice (some ⟨g2, 0, none⟩) n2 (n2 + 64)]] w fun e w' => e = .returned (.bool true) ∧ Below w.heap.size w w' := by
  go_enter Tryd.func15, Tryd.ntmps15
  go_wp2_with fail
  refine (sparewords_any g1 n1 _ (m1.keep (lb_alloc (Below.refl _ _) _)) b1).mono ?_
  rintro e w0 ⟨rfl, rfl⟩
  go_wp2_with fail
  refine (sparelongs_any g2 n2 _ (m2.keep (lb_alloc (Below.refl _ _) _)) b2).mono ?_
  rintro e w1 ⟨rfl, rfl⟩
  go_wp2
  go_ret
  exact ⟨rfl, lb_alloc (Below.refl _ _) _⟩
theorem eqimg_same (A1 A2 B1 B2 : Option Addr) (c1 c2 e1 e2 : Nat) (text mem : List Int) (ent : Int) (w : World) (hT : IntsAt w A1 .u32 text) (hM : IntsAt w A2 .i64 mem) (gT : IntsAt w B1 .u32 text) (gM : IntsAt w B2 .i64 mem) (hl : text.length ≤ 1048576) (hm : mem.length ≤ 1048576) :
    Calls Tryd.prog 14 #[.agg #[.slice A1 text.length c1, .int .i64 ent, .slice A2 mem.length c2], .agg #[.slice B1 text.length e1, .int .i64 ent, .slice B2 mem.length e2]] w fun e w' => e = .returned (.bool true) ∧ Below w.heap.size w w' := by
  have E0 := fun wx (hx : Below w.heap.size w wx) => eqwords_any A1 B1 c1 e1 text text wx (hT.keep hx) (gT.keep hx) hl
  simp only [decide_true] at E0
  have E1 := fun wx (hx : Below w.heap.size w wx) => eqlongs_any A2 B2 c2 e2 mem mem wx (hM.keep hx) (gM.keep hx) hm
  simp only [decide_true] at E1
  go_enter Tryd.func14, Tryd.ntmps14
  go_wp2_with fail
  refine (E0 _ (lb_alloc (lb_alloc (Below.refl _ _) _) _)).mono ?_
  rintro e w0 ⟨rfl, hb0⟩
  have HB0 : Hid (Below w.heap.size w w0) := lb_trans (lb_alloc (lb_alloc (Below.refl _ _) _) _) hb0
  have q0a0 : w0.cell? ⟨w.heap.size, 0, none⟩ = some (.slice A1 text.length c1) := lkeep hb0 (by simp [go_sem])
  have q0a1 : w0.cell? ⟨w.heap.size, 1, none⟩ = some (.int .i64 ent) := lkeep hb0 (by simp [go_sem])
  have q0a2 : w0.cell? ⟨w.heap.size, 2, none⟩ = some (.slice A2 mem.length c2) := lkeep hb0 (by simp [go_sem])
  have q0b0 : w0.cell? ⟨w.heap.size + 1, 0, none⟩ = some (.slice B1 text.length e1) := lkeep hb0 (by simp [go_sem])
  have q0b1 : w0.cell? ⟨w.heap.size + 1, 1, none⟩ = some (.int .i64 ent) := lkeep hb0 (by simp [go_sem])
  have q0b2 : w0.cell? ⟨w.heap.size + 1, 2, none⟩ = some (.slice B2 mem.length e2) := lkeep hb0 (by simp [go_sem])
  clear hb0
  go_wp2_with fail
  refine (E1 _ (HB0.out)).mono ?_
  rintro e w1 ⟨rfl, hb1⟩
  have HB1 : Hid (Below w.heap.size w w1) := lb_trans (HB0.out) hb1
  clear hb1
  go_wp2
  go_ret
  exact ⟨rfl, HB1.out⟩
/-- What heavy answers. -/
def HvP (n1 n2 : Nat) (w : World) (e : Ending) (w' : World) : Prop := ∃ B : Bool, e = .returned (.bool B) ∧ (B = false → n1 ≤ 32768 ∧ n2 ≤ 8192) ∧ Below w.heap.size w w'
theorem heavy_any (A1 A2 : Option Addr) (n1 n2 c1 c2 : Nat) (ent : Int) (w : World) : Calls Tryd.prog 6 #[.agg #[.slice A1 n1 c1, .int .i64 ent, .slice A2 n2 c2]] w (HvP n1 n2 w) := by
  by_cases h1 : 32768 < n1
  · go_enter Tryd.func6, Tryd.ntmps6
    go_wp2
    go_ret
    exact ⟨true, rfl, (fun h => by cases h), lb_alloc (Below.refl _ _) _⟩
  by_cases h2 : 8192 < n2
  · go_enter Tryd.func6, Tryd.ntmps6
    go_wp2
    go_ret
    exact ⟨true, by first | rfl | (simp [*]; done) | (simp; omega), (fun h => by cases h), lb_alloc (Below.refl _ _) _⟩
  · go_enter Tryd.func6, Tryd.ntmps6
    go_wp2
    go_ret
    exact ⟨false, by first | rfl | (simp [*]; done) | (simp; omega), fun _ => ⟨by omega, by omega⟩, lb_alloc (Below.refl _ _) _⟩

end Go.Proofs.YtfaekkbblpfbhaaDoor
