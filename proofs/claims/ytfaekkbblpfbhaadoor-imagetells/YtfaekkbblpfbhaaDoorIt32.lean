/-
  Two lists of numbers compared, by the document's helpers: true just if they are one list; the first is at most 2^20 long. Two lists of symbols, of relocations compared, by the document's helpers: true just if they are one list; the first is at most 2^20 long. An object compared with one that is the same, by the document's helper: true; the lists are at most 2^20 long. WideImage, SpareImage, EqImage and heavy of the statements, each by what it returns; the lists have at most 2^20 items.
-/
import Derived.Test.YtfaekkbblpfbhaaDoorProg
import Derived.WalkKit
import Derived.WalkSpells
import Derived.WalkLawsBesides
import Derived.RowKit3
import Derived.Below
import Derived.Deep.QuietTactic
import Derived.BigQuiet
import Derived.WalkSmall
import Derived.Test.YtfaekkbblpfbhaaDoorIt01
import Derived.Laws.Rows
import Derived.Test.YtfaekkbblpfbhaaDoorIt31
import Derived.Test.YtfaekkbblpfbhaaDoorIt08
namespace Go.Proofs.YtfaekkbblpfbhaaDoor
open Go.RowKit

set_option maxRecDepth 100000 in
set_option maxHeartbeats 1000000 in
theorem eqwords_any (A B : Option Addr) (ca cb : Nat) (zs ys : List Int) (w : World) (hA : IntsAt w A .u32 zs) (hB : IntsAt w B .u32 ys) (hz : zs.length ≤ 1048576) :
    Calls Tryd.prog 38 #[.slice A zs.length ca, .slice B ys.length cb] w fun e w' => e = .returned (.bool (decide (zs = ys))) ∧ Below w.heap.size w w' := by
  by_cases hl : zs.length = ys.length
  · have hl' : ((zs.length : Int) == (ys.length : Int)) = true := by rw [hl]; simp
    have HL : Hid (zs.length = ys.length) := hl
    clear hl
    go_enter Tryd.func38, Tryd.ntmps38
    go_wp2
    go_loopw [5] (fun i wr => ∃ (k m : Nat), i = .int .i64 k ∧ k ≤ zs.length ∧ wr = w.drewN m ∧ Hid (zs.take k = ys.take k)) (fun i _ => zs.length - (intOf i).toNat)
    case atStart => exact ⟨0, 0, rfl, by omega, rfl, by simp [Hid]⟩
    case round =>
      obtain ⟨k, m, rfl, hk, rfl, HT⟩ := hrel
      by_cases hlt : k < zs.length
      · obtain ⟨a, rfl, c1⟩ := hA k hlt
        obtain ⟨b, rfl, c2⟩ := hB k (by have := HL.out; omega)
        have hlt2 : (k : Int) < (ys.length : Int) := by have := HL.out; omega
        by_cases he : nth zs k = nth ys k
        · have HE : Hid (nth zs k = nth ys k) := he
          have he' : (nth zs k == nth ys k) = true := by simpa using he
          clear he
          go_wp2_with fail
          go_quiet (fail)
          go_wp2
          go_roundw
          case rel => exact ⟨k + 1, _, by go_num, by omega, rfl, take_same HT.out hlt (by omega) HE.out⟩
          case measure => simp [intOf]; omega
        · have HE : Hid (¬ nth zs k = nth ys k) := he
          have he' : (nth zs k == nth ys k) = false := by simpa using he
          clear he
          go_wp2_with fail
          go_quiet (fail)
          go_wp2
          go_ret
          exact ⟨retB (decide_eq_false (nth_ne HE.out)).symm, below_drewN (below_drewN (Below.refl _ _) _) _⟩
      · go_wp2
        go_ret
        exact ⟨retB (decide_eq_true (take_all HT.out (by omega) HL.out)).symm, below_drewN (Below.refl _ _) _⟩
  · have hl' : ((zs.length : Int) == (ys.length : Int)) = false := by simp; omega
    have HL : Hid (¬ zs.length = ys.length) := hl
    clear hl
    go_enter Tryd.func38, Tryd.ntmps38
    go_wp2
    go_ret
    exact ⟨retB (decide_eq_false (fun h => HL.out (by rw [h]))).symm, Below.refl _ _⟩

set_option maxRecDepth 100000 in
set_option maxHeartbeats 1000000 in
theorem eqlongs_any (A B : Option Addr) (ca cb : Nat) (zs ys : List Int) (w : World) (hA : IntsAt w A .i64 zs) (hB : IntsAt w B .i64 ys) (hz : zs.length ≤ 1048576) :
    Calls Tryd.prog 39 #[.slice A zs.length ca, .slice B ys.length cb] w fun e w' => e = .returned (.bool (decide (zs = ys))) ∧ Below w.heap.size w w' := by
  by_cases hl : zs.length = ys.length
  · have hl' : ((zs.length : Int) == (ys.length : Int)) = true := by rw [hl]; simp
    have HL : Hid (zs.length = ys.length) := hl
    clear hl
    go_enter Tryd.func39, Tryd.ntmps39
    go_wp2
    go_loopw [5] (fun i wr => ∃ (k m : Nat), i = .int .i64 k ∧ k ≤ zs.length ∧ wr = w.drewN m ∧ Hid (zs.take k = ys.take k)) (fun i _ => zs.length - (intOf i).toNat)
    case atStart => exact ⟨0, 0, rfl, by omega, rfl, by simp [Hid]⟩
    case round =>
      obtain ⟨k, m, rfl, hk, rfl, HT⟩ := hrel
      by_cases hlt : k < zs.length
      · obtain ⟨a, rfl, c1⟩ := hA k hlt
        obtain ⟨b, rfl, c2⟩ := hB k (by have := HL.out; omega)
        have hlt2 : (k : Int) < (ys.length : Int) := by have := HL.out; omega
        by_cases he : nth zs k = nth ys k
        · have HE : Hid (nth zs k = nth ys k) := he
          have he' : (nth zs k == nth ys k) = true := by simpa using he
          clear he
          go_wp2_with fail
          go_quiet (fail)
          go_wp2
          go_roundw
          case rel => exact ⟨k + 1, _, by go_num, by omega, rfl, take_same HT.out hlt (by omega) HE.out⟩
          case measure => simp [intOf]; omega
        · have HE : Hid (¬ nth zs k = nth ys k) := he
          have he' : (nth zs k == nth ys k) = false := by simpa using he
          clear he
          go_wp2_with fail
          go_quiet (fail)
          go_wp2
          go_ret
          exact ⟨retB (decide_eq_false (nth_ne HE.out)).symm, below_drewN (below_drewN (Below.refl _ _) _) _⟩
      · go_wp2
        go_ret
        exact ⟨retB (decide_eq_true (take_all HT.out (by omega) HL.out)).symm, below_drewN (Below.refl _ _) _⟩
  · have hl' : ((zs.length : Int) == (ys.length : Int)) = false := by simp; omega
    have HL : Hid (¬ zs.length = ys.length) := hl
    clear hl
    go_enter Tryd.func39, Tryd.ntmps39
    go_wp2
    go_ret
    exact ⟨retB (decide_eq_false (fun h => HL.out (by rw [h]))).symm, Below.refl _ _⟩

end Go.Proofs.YtfaekkbblpfbhaaDoor

namespace Go.Proofs.YtfaekkbblpfbhaaDoor
open Go.RowKit

def wideC1 (text : List Int) : Obj := .cells (wcur (wInt .u32 text) (fun _ => .int .u32 0) (text.length + 64) (text.length + 64)) 61
def wideC2 (mem : List Int) : Obj := .cells (wcur (wInt .i64 mem) (fun _ => .int .i64 0) (mem.length + 64) (mem.length + 64)) 2
theorem wideimg_lies (A1 A2 : Option Addr) (c1 c2 : Nat) (text mem : List Int) (ent : Int) (w : World) (hT : IntsAt w A1 .u32 text) (hM : IntsAt w A2 .i64 mem) (hl : text.length ≤ 1048576) (hm : mem.length ≤ 1048576) :
    Calls Tryd.prog 8 #[.agg #[.slice A1 text.length c1, .int .i64 ent, .slice A2 mem.length c2]] w fun e w' => ∃ g1 g2 : Nat, e = .returned (.agg #[.slice (some ⟨g1, 0, none⟩) text.length (text.length + 64), .int .i64 ent, .slice (some ⟨g2, 0, none⟩) mem.length (mem.length + 64)]) ∧ Below w.heap.size w w' ∧ IntsAt w' (some ⟨g1, 0, none⟩) .u32 text ∧ MarkI w' .u32 g1 text.length ∧ IntsAt w' (some ⟨g2, 0, none⟩) .i64 mem ∧ MarkI w' .i64 g2 mem.length := by
  go_enter Tryd.func8, Tryd.ntmps8
  go_wp2_with fail
  refine (widewords_any A1 c1 text _ (hT.keep (lb_alloc (lb_alloc (Below.refl _ _) _) _)) hl).mono ?_
  rintro e w1 ⟨rfl, rfl⟩
  go_wp2_with fail
  refine (widelongs_any A2 c2 mem _ (hM.keep (lb_alloc (lb_alloc (lb_alloc (Below.refl _ _) _) _) _)) hm).mono ?_
  rintro e w1 ⟨rfl, rfl⟩
  go_wp2
  refine bodyPost_ret (v := .agg #[.slice (some ⟨w.heap.size + 2, 0, none⟩) text.length (text.length + 64), .int .i64 ent, .slice (some ⟨w.heap.size + 3, 0, none⟩) mem.length (mem.length + 64)]) (by simp [results, Tryd.results8, go_sem]) rfl ⟨_, _, rfl, lb_alloc (lb_alloc (lb_alloc (lb_alloc (Below.refl _ _) _) _) _) _, ?_, ?_, ?_, ?_⟩
  · have h := (wide_ints ((w.alloc (.cells #[.slice (some ⟨w.heap.size + 2, 0, none⟩) text.length (text.length + 64), .int .i64 ent, .slice (some ⟨w.heap.size + 3, 0, none⟩) mem.length (mem.length + 64)] 25)).alloc (.cells #[.slice (some ⟨w.heap.size + 2, 0, none⟩) text.length (text.length + 64), .int .i64 ent, .slice (some ⟨w.heap.size + 3, 0, none⟩) mem.length (mem.length + 64)] 25)) .u32 (fun _ => .int .u32 0) text 61).keep (lb_alloc (Below.refl _ _) (.cells (wcur (wInt .i64 mem) (fun _ => .int .i64 0) (mem.length + 64) (mem.length + 64)) 2))
    rw [al_size, al_size] at h
    exact h
  · have h := (wide_marki ((w.alloc (.cells #[.slice (some ⟨w.heap.size + 2, 0, none⟩) text.length (text.length + 64), .int .i64 ent, .slice (some ⟨w.heap.size + 3, 0, none⟩) mem.length (mem.length + 64)] 25)).alloc (.cells #[.slice (some ⟨w.heap.size + 2, 0, none⟩) text.length (text.length + 64), .int .i64 ent, .slice (some ⟨w.heap.size + 3, 0, none⟩) mem.length (mem.length + 64)] 25)) .u32 (fun _ => .int .u32 0) text 61).keep (lb_alloc (Below.refl _ _) (.cells (wcur (wInt .i64 mem) (fun _ => .int .i64 0) (mem.length + 64) (mem.length + 64)) 2))
    rw [al_size, al_size] at h
    exact h
  · have h := wide_ints (((w.alloc (.cells #[.slice (some ⟨w.heap.size + 2, 0, none⟩) text.length (text.length + 64), .int .i64 ent, .slice (some ⟨w.heap.size + 3, 0, none⟩) mem.length (mem.length + 64)] 25)).alloc (.cells #[.slice (some ⟨w.heap.size + 2, 0, none⟩) text.length (text.length + 64), .int .i64 ent, .slice (some ⟨w.heap.size + 3, 0, none⟩) mem.length (mem.length + 64)] 25)).alloc (.cells (wcur (wInt .u32 text) (fun _ => .int .u32 0) (text.length + 64) (text.length + 64)) 61)) .i64 (fun _ => .int .i64 0) mem 2
    rw [al_size, al_size, al_size] at h
    exact h
  · have h := wide_marki (((w.alloc (.cells #[.slice (some ⟨w.heap.size + 2, 0, none⟩) text.length (text.length + 64), .int .i64 ent, .slice (some ⟨w.heap.size + 3, 0, none⟩) mem.length (mem.length + 64)] 25)).alloc (.cells #[.slice (some ⟨w.heap.size + 2, 0, none⟩) text.length (text.length + 64), .int .i64 ent, .slice (some ⟨w.heap.size + 3, 0, none⟩) mem.length (mem.length + 64)] 25)).alloc (.cells (wcur (wInt .u32 text) (fun _ => .int .u32 0) (text.length + 64) (text.length + 64)) 61)) .i64 (fun _ => .int .i64 0) mem 2
    rw [al_size, al_size, al_size] at h
    exact h
theorem spareimg_any (ent : Int) (g1 n1 g2 n2 : Nat) (w : World) (m1 : MarkI w .u32 g1 n1) (m2 : MarkI w .i64 g2 n2) (b1 : n1 ≤ 1048576) (b2 : n2 ≤ 1048576) :
    Calls Tryd.prog 15 #[.agg #[.slice (some ⟨g1, 0, none⟩) n1 (n1 + 64), .int .i64 ent, .slice (some ⟨g2, 0, none⟩) n2 (n2 + 64)]] w fun e w' => e = .returned (.bool true) ∧ Below w.heap.size w w' := by
  go_enter Tryd.func15, Tryd.ntmps15
  go_wp2_with fail
  refine (sparewords_any g1 n1 _ (m1.keep (lb_alloc (Below.refl _ _) _)) b1).mono ?_
  rintro e w0 ⟨rfl, rfl⟩
  go_wp2_with fail
  refine (sparelongs_any g2 n2 _ (m2.keep (lb_alloc (Below.refl _ _) _)) b2).mono ?_
  rintro e w1 ⟨rfl, rfl⟩
  go_wp2
  go_ret
  exact ⟨rfl, lb_alloc (Below.refl _ _) _⟩
theorem eqimg_same (A1 A2 B1 B2 : Option Addr) (c1 c2 e1 e2 : Nat) (text mem : List Int) (ent : Int) (w : World) (hT : IntsAt w A1 .u32 text) (hM : IntsAt w A2 .i64 mem) (gT : IntsAt w B1 .u32 text) (gM : IntsAt w B2 .i64 mem) (hl : text.length ≤ 1048576) (hm : mem.length ≤ 1048576) :
    Calls Tryd.prog 14 #[.agg #[.slice A1 text.length c1, .int .i64 ent, .slice A2 mem.length c2], .agg #[.slice B1 text.length e1, .int .i64 ent, .slice B2 mem.length e2]] w fun e w' => e = .returned (.bool true) ∧ Below w.heap.size w w' := by
  have E0 := fun wx (hx : Below w.heap.size w wx) => eqwords_any A1 B1 c1 e1 text text wx (hT.keep hx) (gT.keep hx) hl
  simp only [decide_true] at E0
  have E1 := fun wx (hx : Below w.heap.size w wx) => eqlongs_any A2 B2 c2 e2 mem mem wx (hM.keep hx) (gM.keep hx) hm
  simp only [decide_true] at E1
  go_enter Tryd.func14, Tryd.ntmps14
  go_wp2_with fail
  refine (E0 _ (lb_alloc (lb_alloc (Below.refl _ _) _) _)).mono ?_
  rintro e w0 ⟨rfl, hb0⟩
  have HB0 : Hid (Below w.heap.size w w0) := lb_trans (lb_alloc (lb_alloc (Below.refl _ _) _) _) hb0
  have q0a0 : w0.cell? ⟨w.heap.size, 0, none⟩ = some (.slice A1 text.length c1) := lkeep hb0 (by simp [go_sem])
  have q0a1 : w0.cell? ⟨w.heap.size, 1, none⟩ = some (.int .i64 ent) := lkeep hb0 (by simp [go_sem])
  have q0a2 : w0.cell? ⟨w.heap.size, 2, none⟩ = some (.slice A2 mem.length c2) := lkeep hb0 (by simp [go_sem])
  have q0b0 : w0.cell? ⟨w.heap.size + 1, 0, none⟩ = some (.slice B1 text.length e1) := lkeep hb0 (by simp [go_sem])
  have q0b1 : w0.cell? ⟨w.heap.size + 1, 1, none⟩ = some (.int .i64 ent) := lkeep hb0 (by simp [go_sem])
  have q0b2 : w0.cell? ⟨w.heap.size + 1, 2, none⟩ = some (.slice B2 mem.length e2) := lkeep hb0 (by simp [go_sem])
  clear hb0
  go_wp2_with fail
  refine (E1 _ (HB0.out)).mono ?_
  rintro e w1 ⟨rfl, hb1⟩
  have HB1 : Hid (Below w.heap.size w w1) := lb_trans (HB0.out) hb1
  clear hb1
  go_wp2
  go_ret
  exact ⟨rfl, HB1.out⟩
/-- What heavy answers. -/
def HvP (n1 n2 : Nat) (w : World) (e : Ending) (w' : World) : Prop := ∃ B : Bool, e = .returned (.bool B) ∧ (B = false → n1 ≤ 32768 ∧ n2 ≤ 8192) ∧ Below w.heap.size w w'
theorem heavy_any (A1 A2 : Option Addr) (n1 n2 c1 c2 : Nat) (ent : Int) (w : World) : Calls Tryd.prog 6 #[.agg #[.slice A1 n1 c1, .int .i64 ent, .slice A2 n2 c2]] w (HvP n1 n2 w) := by
  by_cases h1 : 32768 < n1
  · go_enter Tryd.func6, Tryd.ntmps6
    go_wp2
    go_ret
    exact ⟨true, rfl, (fun h => by cases h), lb_alloc (Below.refl _ _) _⟩
  by_cases h2 : 8192 < n2
  · go_enter Tryd.func6, Tryd.ntmps6
    go_wp2
    go_ret
    exact ⟨true, by first | rfl | (simp [*]; done) | (simp; omega), (fun h => by cases h), lb_alloc (Below.refl _ _) _⟩
  · go_enter Tryd.func6, Tryd.ntmps6
    go_wp2
    go_ret
    exact ⟨false, by first | rfl | (simp [*]; done) | (simp; omega), fun _ => ⟨by omega, by omega⟩, lb_alloc (Below.refl _ _) _⟩

end Go.Proofs.YtfaekkbblpfbhaaDoor
