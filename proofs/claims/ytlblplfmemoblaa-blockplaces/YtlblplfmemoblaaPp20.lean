/-
  CopyImage of the statements, by what it returns; the lists have at most 2^20 items. Two lists of numbers compared, by the document's helpers: true just if they are one list; the first is at most 2^20 long. Two lists of symbols, of relocations compared, by the document's helpers: true just if they are one list; the first is at most 2^20 long. An object compared with one that is the same, by the document's helper: true; the lists are at most 2^20 long. EqImage of the statements, by what it returns; the lists have at most 2^20 items.
-/
import Derived.Test.YtlblplfmemoblaaProg
import Derived.WalkKit
import Derived.WalkSpells
import Derived.WalkLawsBesides
import Derived.RowKit3
import Derived.Below
import Derived.Deep.QuietTactic
import Derived.BigQuiet
import Derived.WalkSmall
import Derived.Laws.Rows
import Derived.Test.YtlblplfmemoblaaPp13
import Derived.Test.YtlblplfmemoblaaPp03
import Derived.Test.YtlblplfmemoblaaPp01
namespace Go.Proofs.Ytlblplfmemoblaa
open Go.RowKit

theorem old_at {w : World} {o o' : Obj} {n : Nat} (h : w.heap[n]? = some o) : (w.alloc o').heap[n]? = some o := by
  rw [Below.heap_alloc w o' n (Array.getElem?_eq_some_iff.1 h).1]; exact h
theorem new_at {w : World} {o : Obj} {n : Nat} (h : n = w.heap.size) : (w.alloc o).heap[n]? = some o := by subst h; exact heap_alloc_new w o
theorem box_other {w : World} {B P : Nat} {o : Obj} (h : w.heap[B]? = some o) (hB : B ≠ P) (i : Nat) (v : Value) : (w.setCell ⟨P, i, none⟩ v).heap[B]? = some o := (Below.heap_setCell _ _ _ _ hB).trans h
theorem zbox3_cell {w : World} {B : Nat} {x y z : Value} {t : TypeId} (h : w.heap[B]? = some (.cells #[x, y, z] t (0, 0))) : w.cell? ⟨B, 0, none⟩ = some x ∧ w.cell? ⟨B, 1, none⟩ = some y ∧ w.cell? ⟨B, 2, none⟩ = some z := by
  refine ⟨?_, ?_, ?_⟩ <;> simp [World.cell?, h]
theorem zNews_vals (K : IntKind) (zs : List Int) : iNews K zs = iVals K zs := by
  apply List.ext_getElem?
  intro i
  unfold iNews iVals
  by_cases h : i < zs.length
  · simp [h, wInt, nth, List.getD]
  · simp [h]


/-- What CopyImage answers. -/
def CopyI (text mem : List Int) (ent : Int) (w : World) (e : Ending) (w' : World) : Prop := ∃ (A1 A2 : Option Addr) (k1 k2 : Nat), e = .returned (.agg #[.slice A1 text.length k1, .int .i64 ent, .slice A2 mem.length k2]) ∧ RowsI w' w.heap.size A1 A2 k1 k2 text mem ∧ Below w.heap.size w w'
set_option maxRecDepth 100000 in
theorem copyimg_any (A1 A2 : Option Addr) (c1 c2 : Nat) (text mem : List Int) (ent : Int) (w : World) (hT : IntsAt w A1 .u32 text) (hM : IntsAt w A2 .i64 mem) (h01 : A1 = none → c1 = 0) (h02 : A2 = none → c2 = 0) (hl : text.length ≤ 1048576) (hm : mem.length ≤ 1048576) :
    Calls Try.prog 8 #[.agg #[.slice A1 text.length c1, .int .i64 ent, .slice A2 mem.length c2]] w (CopyI text mem ent w) := by
  have hB0 : Below w.heap.size w ((w.alloc (.cells #[.slice A1 text.length c1, .int .i64 ent, .slice A2 mem.length c2] 25)).alloc (.cells #[.slice none 0 0, .int .i64 0, .slice none 0 0] 25)) := lb_alloc (lb_alloc (Below.refl _ _) _) _
  have HX0 : Hid (((w.alloc (.cells #[.slice A1 text.length c1, .int .i64 ent, .slice A2 mem.length c2] 25)).alloc (.cells #[.slice none 0 0, .int .i64 0, .slice none 0 0] 25)).heap[w.heap.size]? = some (.cells #[.slice A1 text.length c1, .int .i64 ent, .slice A2 mem.length c2] 25 (0, 0))) := old_at (new_at rfl)
  have HY0 : Hid (((w.alloc (.cells #[.slice A1 text.length c1, .int .i64 ent, .slice A2 mem.length c2] 25)).alloc (.cells #[.slice none 0 0, .int .i64 0, .slice none 0 0] 25)).heap[w.heap.size + 1]? = some (.cells #[.slice none 0 0, .int .i64 0, .slice none 0 0] 25 (0, 0))) := new_at (by simp)
  have HB0 : Hid _ := hB0
  clear hB0
  go_enter Try.func8, Try.ntmps8
  go_wp2_with fail
  refine (copywords_any A1 c1 text _ (hT.keep HB0.out) h01 hl).mono ?_
  rintro e w1 ⟨O1, k1, rfl, hown, hg, hn⟩
  have hb : Below _ _ w1 := ⟨hg.os, hg.tape, hg.output, hg.size, fun k hk => hg.block k hk (by simp)⟩
  have HX1 : Hid _ := lb_box HX0.out hb
  have HY1 : Hid _ := lb_box HY0.out hb
  have HB1 : Hid (Below w.heap.size w w1) := lb_trans HB0.out hb
  rw [zNews_vals] at hown
  have HO1 : Hid (w1.ownsRow (w.heap.size + 2) 48 1 (.slice O1 text.length k1) text.length (iVals .u32 text)) := ownsRow_mono hown (by simp)
  have hs1 : w.heap.size + 2 ≤ w1.heap.size := by have := hb.size; simp at this; exact this
  have HS1 : Hid _ := hs1
  obtain ⟨x0, x1, x2⟩ := zbox3_cell HX1.out
  have f0 := box_fro HX1.out 0
  have HX2 : Hid _ := box_set HX1.out 0 (.slice O1 text.length k1)
  have HY2 : Hid _ := box_other HY1.out (show w.heap.size + 1 ≠ w.heap.size by omega) 0 (.slice O1 text.length k1)
  have HB2 : Hid (Below w.heap.size w (w1.setCell ⟨w.heap.size, 0, none⟩ (.slice O1 text.length k1))) := HB1.out.setCell (Nat.le_refl _) _
  have HO2 : Hid _ := row_setB HO1.out (show w.heap.size < w.heap.size + 2 by omega) 0 (.slice O1 text.length k1)
  clear hown hg hn hb hs1 HX0 HY0
  go_wp2_with fail
  refine (copylongs_any A2 c2 mem _ (hM.keep HB2.out) h02 hm).mono ?_
  rintro e w3 ⟨O2, k2, rfl, hown, hg, hn⟩
  have hb : Below _ _ w3 := ⟨hg.os, hg.tape, hg.output, hg.size, fun k hk => hg.block k hk (by simp)⟩
  have HX3 : Hid (w3.heap[w.heap.size]? = some (.cells #[.slice O1 text.length k1, .int .i64 ent, .slice A2 mem.length c2] 25 (0, 0))) := lb_box HX2.out hb
  have HY3 : Hid _ := lb_box HY2.out hb
  have HB3 : Hid (Below w.heap.size w w3) := lb_trans HB2.out hb
  rw [zNews_vals] at hown
  have HQ3 : Hid (RowsI w3 (w.heap.size + 2) O1 O2 k1 k2 text mem) := ⟨row_keep HO2.out hb, ownsRow_mono hown (by have := HS1.out; simpa using this)⟩
  clear hown hg hn hb x0 x1 x2 f0 HX1 HY1 HB1 HO1
  obtain ⟨x0, x1, x2⟩ := zbox3_cell HX3.out
  obtain ⟨y0, y1, y2⟩ := zbox3_cell HY3.out
  have f0 := box_fro HX3.out 0
  have f2 := box_fro HX3.out 2
  have g0 := box_fro HY3.out 0
  have g1 := box_fro HY3.out 1
  have g2 := box_fro HY3.out 2
  go_wp2
  refine bodyPost_ret (v := .agg #[.slice O1 text.length k1, .int .i64 ent, .slice O2 mem.length k2]) (by simp [results, Try.results8, go_sem, y0, y1, y2]) rfl ⟨O1, O2, k1, k2, rfl, ?_, ?_⟩
  · have h1 : w.heap.size < w.heap.size + 2 := by omega
    have h2 : w.heap.size + 1 < w.heap.size + 2 := by omega
    exact ((((HQ3.out.set h1 2 _).set h2 0 _).set h2 1 _).set h2 2 _).mono (by omega)
  · exact (((HB3.out.setCell (Nat.le_refl _) _).setCell (Nat.le_succ _) _).setCell (Nat.le_succ _) _).setCell (Nat.le_succ _) _



end Go.Proofs.Ytlblplfmemoblaa

namespace Go.Proofs.Ytlblplfmemoblaa
open Go.RowKit

set_option maxRecDepth 100000 in
set_option maxHeartbeats 1000000 in
theorem eqwords_any (A B : Option Addr) (ca cb : Nat) (zs ys : List Int) (w : World) (hA : IntsAt w A .u32 zs) (hB : IntsAt w B .u32 ys) (hz : zs.length ≤ 1048576) :
    Calls Try.prog 31 #[.slice A zs.length ca, .slice B ys.length cb] w fun e w' => e = .returned (.bool (decide (zs = ys))) ∧ Below w.heap.size w w' := by
  by_cases hl : zs.length = ys.length
  · have hl' : ((zs.length : Int) == (ys.length : Int)) = true := by rw [hl]; simp
    have HL : Hid (zs.length = ys.length) := hl
    clear hl
    go_enter Try.func31, Try.ntmps31
    go_wp2
    go_loopw [5] (fun i wr => ∃ (k m : Nat), i = .int .i64 k ∧ k ≤ zs.length ∧ wr = w.drewN m ∧ Hid (zs.take k = ys.take k)) (fun i _ => zs.length - (intOf i).toNat)
    case atStart => exact ⟨0, 0, rfl, by omega, rfl, by simp [Hid]⟩
    case round =>
      obtain ⟨k, m, rfl, hk, rfl, HT⟩ := hrel
      by_cases hlt : k < zs.length
      · obtain ⟨a, rfl, c1⟩ := hA k hlt
        obtain ⟨b, rfl, c2⟩ := hB k (by have := HL.out; omega)
        have hlt2 : (k : Int) < (ys.length : Int) := by have := HL.out; omega
        by_cases he : nth zs k = nth ys k
        · have HE : Hid (nth zs k = nth ys k) := he
          have he' : (nth zs k == nth ys k) = true := by simpa using he
          clear he
          go_wp2_with fail
          go_quiet (fail)
          go_wp2
          go_roundw
          case rel => exact ⟨k + 1, _, by go_num, by omega, rfl, take_same HT.out hlt (by omega) HE.out⟩
          case measure => simp [intOf]; omega
        · have HE : Hid (¬ nth zs k = nth ys k) := he
          have he' : (nth zs k == nth ys k) = false := by simpa using he
          clear he
          go_wp2_with fail
          go_quiet (fail)
          go_wp2
          go_ret
          exact ⟨retB (decide_eq_false (nth_ne HE.out)).symm, below_drewN (below_drewN (Below.refl _ _) _) _⟩
      · go_wp2
        go_ret
        exact ⟨retB (decide_eq_true (take_all HT.out (by omega) HL.out)).symm, below_drewN (Below.refl _ _) _⟩
  · have hl' : ((zs.length : Int) == (ys.length : Int)) = false := by simp; omega
    have HL : Hid (¬ zs.length = ys.length) := hl
    clear hl
    go_enter Try.func31, Try.ntmps31
    go_wp2
    go_ret
    exact ⟨retB (decide_eq_false (fun h => HL.out (by rw [h]))).symm, Below.refl _ _⟩

set_option maxRecDepth 100000 in
set_option maxHeartbeats 1000000 in
theorem eqlongs_any (A B : Option Addr) (ca cb : Nat) (zs ys : List Int) (w : World) (hA : IntsAt w A .i64 zs) (hB : IntsAt w B .i64 ys) (hz : zs.length ≤ 1048576) :
    Calls Try.prog 32 #[.slice A zs.length ca, .slice B ys.length cb] w fun e w' => e = .returned (.bool (decide (zs = ys))) ∧ Below w.heap.size w w' := by
  by_cases hl : zs.length = ys.length
  · have hl' : ((zs.length : Int) == (ys.length : Int)) = true := by rw [hl]; simp
    have HL : Hid (zs.length = ys.length) := hl
    clear hl
    go_enter Try.func32, Try.ntmps32
    go_wp2
    go_loopw [5] (fun i wr => ∃ (k m : Nat), i = .int .i64 k ∧ k ≤ zs.length ∧ wr = w.drewN m ∧ Hid (zs.take k = ys.take k)) (fun i _ => zs.length - (intOf i).toNat)
    case atStart => exact ⟨0, 0, rfl, by omega, rfl, by simp [Hid]⟩
    case round =>
      obtain ⟨k, m, rfl, hk, rfl, HT⟩ := hrel
      by_cases hlt : k < zs.length
      · obtain ⟨a, rfl, c1⟩ := hA k hlt
        obtain ⟨b, rfl, c2⟩ := hB k (by have := HL.out; omega)
        have hlt2 : (k : Int) < (ys.length : Int) := by have := HL.out; omega
        by_cases he : nth zs k = nth ys k
        · have HE : Hid (nth zs k = nth ys k) := he
          have he' : (nth zs k == nth ys k) = true := by simpa using he
          clear he
          go_wp2_with fail
          go_quiet (fail)
          go_wp2
          go_roundw
          case rel => exact ⟨k + 1, _, by go_num, by omega, rfl, take_same HT.out hlt (by omega) HE.out⟩
          case measure => simp [intOf]; omega
        · have HE : Hid (¬ nth zs k = nth ys k) := he
          have he' : (nth zs k == nth ys k) = false := by simpa using he
          clear he
          go_wp2_with fail
          go_quiet (fail)
          go_wp2
          go_ret
          exact ⟨retB (decide_eq_false (nth_ne HE.out)).symm, below_drewN (below_drewN (Below.refl _ _) _) _⟩
      · go_wp2
        go_ret
        exact ⟨retB (decide_eq_true (take_all HT.out (by omega) HL.out)).symm, below_drewN (Below.refl _ _) _⟩
  · have hl' : ((zs.length : Int) == (ys.length : Int)) = false := by simp; omega
    have HL : Hid (¬ zs.length = ys.length) := hl
    clear hl
    go_enter Try.func32, Try.ntmps32
    go_wp2
    go_ret
    exact ⟨retB (decide_eq_false (fun h => HL.out (by rw [h]))).symm, Below.refl _ _⟩


end Go.Proofs.Ytlblplfmemoblaa

namespace Go.Proofs.Ytlblplfmemoblaa
open Go.RowKit

theorem eqimg_same (A1 A2 B1 B2 : Option Addr) (c1 c2 e1 e2 : Nat) (text mem : List Int) (ent : Int) (w : World) (hT : IntsAt w A1 .u32 text) (hM : IntsAt w A2 .i64 mem) (gT : IntsAt w B1 .u32 text) (gM : IntsAt w B2 .i64 mem) (hl : text.length ≤ 1048576) (hm : mem.length ≤ 1048576) :
    Calls Try.prog 14 #[.agg #[.slice A1 text.length c1, .int .i64 ent, .slice A2 mem.length c2], .agg #[.slice B1 text.length e1, .int .i64 ent, .slice B2 mem.length e2]] w fun e w' => e = .returned (.bool true) ∧ Below w.heap.size w w' := by
  have E0 := fun wx (hx : Below w.heap.size w wx) => eqwords_any A1 B1 c1 e1 text text wx (hT.keep hx) (gT.keep hx) hl
  simp only [decide_true] at E0
  have E1 := fun wx (hx : Below w.heap.size w wx) => eqlongs_any A2 B2 c2 e2 mem mem wx (hM.keep hx) (gM.keep hx) hm
  simp only [decide_true] at E1
  go_enter Try.func14, Try.ntmps14
  go_wp2_with fail
  refine (E0 _ (lb_alloc (lb_alloc (Below.refl _ _) _) _)).mono ?_
  rintro e w0 ⟨rfl, hb0⟩
  have HB0 : Hid (Below w.heap.size w w0) := lb_trans (lb_alloc (lb_alloc (Below.refl _ _) _) _) hb0
  have q0a0 : w0.cell? ⟨w.heap.size, 0, none⟩ = some (.slice A1 text.length c1) := lkeep hb0 (by simp [go_sem])
  have q0a1 : w0.cell? ⟨w.heap.size, 1, none⟩ = some (.int .i64 ent) := lkeep hb0 (by simp [go_sem])
  have q0a2 : w0.cell? ⟨w.heap.size, 2, none⟩ = some (.slice A2 mem.length c2) := lkeep hb0 (by simp [go_sem])
  have q0b0 : w0.cell? ⟨w.heap.size + 1, 0, none⟩ = some (.slice B1 text.length e1) := lkeep hb0 (by simp [go_sem])
  have q0b1 : w0.cell? ⟨w.heap.size + 1, 1, none⟩ = some (.int .i64 ent) := lkeep hb0 (by simp [go_sem])
  have q0b2 : w0.cell? ⟨w.heap.size + 1, 2, none⟩ = some (.slice B2 mem.length e2) := lkeep hb0 (by simp [go_sem])
  clear hb0
  go_wp2_with fail
  refine (E1 _ (HB0.out)).mono ?_
  rintro e w1 ⟨rfl, hb1⟩
  have HB1 : Hid (Below w.heap.size w w1) := lb_trans (HB0.out) hb1
  clear hb1
  go_wp2
  go_ret
  exact ⟨rfl, HB1.out⟩


end Go.Proofs.Ytlblplfmemoblaa
