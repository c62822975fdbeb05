/-
  Two lists of numbers compared, by the document's helpers: true just if they are one list; the first is at most 2^20 long. Two lists of symbols, of relocations compared, by the document's helpers: true just if they are one list; the first is at most 2^20 long. An object compared with one that is the same, by the document's helper: true; the lists are at most 2^20 long. The law on words as lines, whatever they are.
-/
import Derived.Test.YtbckolkgncajfaaGreatDoorProg
import Derived.WalkKit
import Derived.WalkSpells
import Derived.WalkLawsBesides
import Derived.RowKit3
import Derived.Below
import Derived.Deep.QuietTactic
import Derived.BigQuiet
import Derived.WalkSmall
import Derived.Test.YtbckolkgncajfaaGreatDoorLw01
import Derived.Laws.Rows
import Derived.Test.YtbckolkgncajfaaGreatDoorLw36
import Derived.Test.YtbckolkgncajfaaGreatDoorLw40
import Derived.Test.YtbckolkgncajfaaGreatDoorLw41
import Derived.Test.YtbckolkgncajfaaGreatDoorLw43
import Derived.Deep.RegionHeld3
namespace Go.Proofs.YtbckolkgncajfaaGreatDoor
open Go.RowKit

set_option maxRecDepth 100000 in
set_option maxHeartbeats 1000000 in
theorem eqwords_any (A B : Option Addr) (ca cb : Nat) (zs ys : List Int) (w : World) (hA : IntsAt w A .u32 zs) (hB : IntsAt w B .u32 ys) (hz : zs.length ≤ 1048576) :
    Calls Tryz.prog 10 #[.slice A zs.length ca, .slice B ys.length cb] w fun e w' => e = .returned (.bool (decide (zs = ys))) ∧ Below w.heap.size w w' := by
  by_cases hl : zs.length = ys.length
  · have hl' : ((zs.length : Int) == (ys.length : Int)) = true := by rw [hl]; simp
    have HL : Hid (zs.length = ys.length) := hl
    clear hl
    go_enter Tryz.func10, Tryz.ntmps10
    go_wp2
    go_loopw [5] (fun i wr => ∃ (k m : Nat), i = .int .i64 k ∧ k ≤ zs.length ∧ wr = w.drewN m ∧ Hid (zs.take k = ys.take k)) (fun i _ => zs.length - (intOf i).toNat)
    case atStart => exact ⟨0, 0, rfl, by omega, rfl, by simp [Hid]⟩
    case round =>
      obtain ⟨k, m, rfl, hk, rfl, HT⟩ := hrel
      by_cases hlt : k < zs.length
      · obtain ⟨a, rfl, c1⟩ := hA k hlt
        obtain ⟨b, rfl, c2⟩ := hB k (by have := HL.out; omega)
        have hlt2 : (k : Int) < (ys.length : Int) := by have := HL.out; omega
        by_cases he : nth zs k = nth ys k
        · have HE : Hid (nth zs k = nth ys k) := he
          have he' : (nth zs k == nth ys k) = true := by simpa using he
          clear he
          go_wp2_with fail
          go_quiet (fail)
          go_wp2
          go_roundw
          case rel => exact ⟨k + 1, _, by go_num, by omega, rfl, take_same HT.out hlt (by omega) HE.out⟩
          case measure => simp [intOf]; omega
        · have HE : Hid (¬ nth zs k = nth ys k) := he
          have he' : (nth zs k == nth ys k) = false := by simpa using he
          clear he
          go_wp2_with fail
          go_quiet (fail)
          go_wp2
          go_ret
          exact ⟨retB (decide_eq_false (nth_ne HE.out)).symm, below_drewN (below_drewN (Below.refl _ _) _) _⟩
      · go_wp2
        go_ret
        exact ⟨retB (decide_eq_true (take_all HT.out (by omega) HL.out)).symm, below_drewN (Below.refl _ _) _⟩
  · have hl' : ((zs.length : Int) == (ys.length : Int)) = false := by simp; omega
    have HL : Hid (¬ zs.length = ys.length) := hl
    clear hl
    go_enter Tryz.func10, Tryz.ntmps10
    go_wp2
    go_ret
    exact ⟨retB (decide_eq_false (fun h => HL.out (by rw [h]))).symm, Below.refl _ _⟩

set_option maxRecDepth 100000 in
set_option maxHeartbeats 1000000 in
theorem eqlongs_any (A B : Option Addr) (ca cb : Nat) (zs ys : List Int) (w : World) (hA : IntsAt w A .i64 zs) (hB : IntsAt w B .i64 ys) (hz : zs.length ≤ 1048576) :
    Calls Tryz.prog 74 #[.slice A zs.length ca, .slice B ys.length cb] w fun e w' => e = .returned (.bool (decide (zs = ys))) ∧ Below w.heap.size w w' := by
  by_cases hl : zs.length = ys.length
  · have hl' : ((zs.length : Int) == (ys.length : Int)) = true := by rw [hl]; simp
    have HL : Hid (zs.length = ys.length) := hl
    clear hl
    go_enter Tryz.func74, Tryz.ntmps74
    go_wp2
    go_loopw [5] (fun i wr => ∃ (k m : Nat), i = .int .i64 k ∧ k ≤ zs.length ∧ wr = w.drewN m ∧ Hid (zs.take k = ys.take k)) (fun i _ => zs.length - (intOf i).toNat)
    case atStart => exact ⟨0, 0, rfl, by omega, rfl, by simp [Hid]⟩
    case round =>
      obtain ⟨k, m, rfl, hk, rfl, HT⟩ := hrel
      by_cases hlt : k < zs.length
      · obtain ⟨a, rfl, c1⟩ := hA k hlt
        obtain ⟨b, rfl, c2⟩ := hB k (by have := HL.out; omega)
        have hlt2 : (k : Int) < (ys.length : Int) := by have := HL.out; omega
        by_cases he : nth zs k = nth ys k
        · have HE : Hid (nth zs k = nth ys k) := he
          have he' : (nth zs k == nth ys k) = true := by simpa using he
          clear he
          go_wp2_with fail
          go_quiet (fail)
          go_wp2
          go_roundw
          case rel => exact ⟨k + 1, _, by go_num, by omega, rfl, take_same HT.out hlt (by omega) HE.out⟩
          case measure => simp [intOf]; omega
        · have HE : Hid (¬ nth zs k = nth ys k) := he
          have he' : (nth zs k == nth ys k) = false := by simpa using he
          clear he
          go_wp2_with fail
          go_quiet (fail)
          go_wp2
          go_ret
          exact ⟨retB (decide_eq_false (nth_ne HE.out)).symm, below_drewN (below_drewN (Below.refl _ _) _) _⟩
      · go_wp2
        go_ret
        exact ⟨retB (decide_eq_true (take_all HT.out (by omega) HL.out)).symm, below_drewN (Below.refl _ _) _⟩
  · have hl' : ((zs.length : Int) == (ys.length : Int)) = false := by simp; omega
    have HL : Hid (¬ zs.length = ys.length) := hl
    clear hl
    go_enter Tryz.func74, Tryz.ntmps74
    go_wp2
    go_ret
    exact ⟨retB (decide_eq_false (fun h => HL.out (by rw [h]))).symm, Below.refl _ _⟩
set_option maxRecDepth 100000 in
set_option maxHeartbeats 1000000 in
theorem eqrel_any (A B : Option Addr) (ca cb : Nat) (zs ys : List Rel) (w : World) (hA : RelsAt w A zs) (hB : RelsAt w B ys) (hz : zs.length ≤ 1048576) :
    Calls Tryz.prog 76 #[.slice A zs.length ca, .slice B ys.length cb] w fun e w' => e = .returned (.bool (decide (zs = ys))) ∧ Below w.heap.size w w' := by
  by_cases hl : zs.length = ys.length
  · have hl' : ((zs.length : Int) == (ys.length : Int)) = true := by rw [hl]; simp
    have HL : Hid (zs.length = ys.length) := hl
    clear hl
    go_enter Tryz.func76, Tryz.ntmps76
    go_wp2
    go_loopw [5] (fun i wr => ∃ (k m : Nat), i = .int .i64 k ∧ k ≤ zs.length ∧ wr = w.drewN m ∧ Hid (zs.take k = ys.take k)) (fun i _ => zs.length - (intOf i).toNat)
    case atStart => exact ⟨0, 0, rfl, by omega, rfl, by simp [Hid]⟩
    case round =>
      obtain ⟨k, m, rfl, hk, rfl, HT⟩ := hrel
      by_cases hlt : k < zs.length
      · obtain ⟨a, rfl, c0, c1⟩ := hA k hlt
        obtain ⟨b, rfl, d0, d1⟩ := hB k (by have := HL.out; omega)
        have hlt2 : (k : Int) < (ys.length : Int) := by have := HL.out; omega
        have p0 : w.cell? (a.add (k * 2)) = some (.int .i64 (rAt zs k)) := c0
        have q0 : w.cell? (b.add (k * 2)) = some (.int .i64 (rAt ys k)) := d0
        have p1 : w.cell? (⟨(a.add (k * 2)).block, (a.add (k * 2)).off + 1, none⟩) = some (.int .i64 (rSym zs k)) := c1
        have q1 : w.cell? (⟨(b.add (k * 2)).block, (b.add (k * 2)).off + 1, none⟩) = some (.int .i64 (rSym ys k)) := d1
        clear c0 d0 c1 d1
        by_cases h0 : ¬ rAt zs k = rAt ys k
        · have HE : Hid (¬ rAt zs k = rAt ys k) := h0
          have e0 : (rAt zs k == rAt ys k) = false := by simpa using h0
          clear h0
          go_wp2_with fail
          go_quiet (fail)
          go_wp2
          go_ret
          exact ⟨retB (decide_eq_false (fun h => HE.out (by rw [h]))).symm, below_drewN (below_drewN (Below.refl _ _) _) _⟩
        have H0 : Hid (rAt zs k = rAt ys k) := Classical.not_not.1 h0
        have e0 : (rAt zs k == rAt ys k) = true := by simpa using H0.out
        clear h0
        by_cases h1 : ¬ rSym zs k = rSym ys k
        · have HE : Hid (¬ rSym zs k = rSym ys k) := h1
          have e1 : (rSym zs k == rSym ys k) = false := by simpa using h1
          clear h1
          go_wp2_with fail
          go_quiet (fail)
          go_wp2
          go_ret
          exact ⟨retB (decide_eq_false (fun h => HE.out (by rw [h]))).symm, below_drewN (below_drewN (Below.refl _ _) _) _⟩
        have H1 : Hid (rSym zs k = rSym ys k) := Classical.not_not.1 h1
        have e1 : (rSym zs k == rSym ys k) = true := by simpa using H1.out
        clear h1
        go_wp2_with fail
        go_quiet (fail)
        go_wp2
        go_roundw
        case rel => exact ⟨k + 1, _, by go_num, by omega, rfl, take_same HT.out hlt (by omega) (rel_same H0.out H1.out)⟩
        case measure => simp [intOf]; omega
      · go_wp2
        go_ret
        exact ⟨retB (decide_eq_true (take_all HT.out (by omega) HL.out)).symm, below_drewN (Below.refl _ _) _⟩
  · have hl' : ((zs.length : Int) == (ys.length : Int)) = false := by simp; omega
    have HL : Hid (¬ zs.length = ys.length) := hl
    clear hl
    go_enter Tryz.func76, Tryz.ntmps76
    go_wp2
    go_ret
    exact ⟨retB (decide_eq_false (fun h => HL.out (by rw [h]))).symm, Below.refl _ _⟩

set_option maxRecDepth 100000 in
set_option maxHeartbeats 1000000 in
theorem eqsym_any (A B : Option Addr) (ca cb : Nat) (zs ys : List Sym) (w : World) (hA : SymsAt w A zs) (hB : SymsAt w B ys) (hz : zs.length ≤ 1048576) :
    Calls Tryz.prog 75 #[.slice A zs.length ca, .slice B ys.length cb] w fun e w' => e = .returned (.bool (decide (zs = ys))) ∧ Below w.heap.size w w' := by
  by_cases hl : zs.length = ys.length
  · have hl' : ((zs.length : Int) == (ys.length : Int)) = true := by rw [hl]; simp
    have HL : Hid (zs.length = ys.length) := hl
    clear hl
    go_enter Tryz.func75, Tryz.ntmps75
    go_wp2
    go_loopw [5] (fun i wr => ∃ (k m : Nat), i = .int .i64 k ∧ k ≤ zs.length ∧ wr = w.drewN m ∧ Hid (zs.take k = ys.take k)) (fun i _ => zs.length - (intOf i).toNat)
    case atStart => exact ⟨0, 0, rfl, by omega, rfl, by simp [Hid]⟩
    case round =>
      obtain ⟨k, m, rfl, hk, rfl, HT⟩ := hrel
      by_cases hlt : k < zs.length
      · obtain ⟨a, rfl, c0, c1, c2⟩ := hA k hlt
        obtain ⟨b, rfl, d0, d1, d2⟩ := hB k (by have := HL.out; omega)
        have hlt2 : (k : Int) < (ys.length : Int) := by have := HL.out; omega
        have p0 : w.cell? (a.add (k * 3)) = some (.string (sName zs k)) := c0
        have q0 : w.cell? (b.add (k * 3)) = some (.string (sName ys k)) := d0
        have p1 : w.cell? (⟨(a.add (k * 3)).block, (a.add (k * 3)).off + 1, none⟩) = some (.int .i8 (sKind zs k)) := c1
        have q1 : w.cell? (⟨(b.add (k * 3)).block, (b.add (k * 3)).off + 1, none⟩) = some (.int .i8 (sKind ys k)) := d1
        have p2 : w.cell? (⟨(a.add (k * 3)).block, (a.add (k * 3)).off + 2, none⟩) = some (.int .i64 (sAt zs k)) := c2
        have q2 : w.cell? (⟨(b.add (k * 3)).block, (b.add (k * 3)).off + 2, none⟩) = some (.int .i64 (sAt ys k)) := d2
        clear c0 d0 c1 d1 c2 d2
        by_cases h0 : ¬ sName zs k = sName ys k
        · have HE : Hid (¬ sName zs k = sName ys k) := h0
          have e0 : ((sName zs k).toList == (sName ys k).toList) = false := by rw [ByteArray.toList_eq, ByteArray.toList_eq]; simpa using (fun h => h0 (ByteArray.ext (Array.ext' h)))
          clear h0
          go_wp2_with fail
          go_quiet (fail)
          go_wp2
          go_ret
          exact ⟨retB (decide_eq_false (fun h => HE.out (by rw [h]))).symm, below_drewN (below_drewN (Below.refl _ _) _) _⟩
        have H0 : Hid (sName zs k = sName ys k) := Classical.not_not.1 h0
        have e0 : ((sName zs k).toList == (sName ys k).toList) = true := by rw [H0.out]; simp
        clear h0
        by_cases h1 : ¬ sKind zs k = sKind ys k
        · have HE : Hid (¬ sKind zs k = sKind ys k) := h1
          have e1 : (sKind zs k == sKind ys k) = false := by simpa using h1
          clear h1
          go_wp2_with fail
          go_quiet (fail)
          go_wp2
          go_ret
          exact ⟨retB (decide_eq_false (fun h => HE.out (by rw [h]))).symm, below_drewN (below_drewN (Below.refl _ _) _) _⟩
        have H1 : Hid (sKind zs k = sKind ys k) := Classical.not_not.1 h1
        have e1 : (sKind zs k == sKind ys k) = true := by simpa using H1.out
        clear h1
        by_cases h2 : ¬ sAt zs k = sAt ys k
        · have HE : Hid (¬ sAt zs k = sAt ys k) := h2
          have e2 : (sAt zs k == sAt ys k) = false := by simpa using h2
          clear h2
          go_wp2_with fail
          go_quiet (fail)
          go_wp2
          go_ret
          exact ⟨retB (decide_eq_false (fun h => HE.out (by rw [h]))).symm, below_drewN (below_drewN (Below.refl _ _) _) _⟩
        have H2 : Hid (sAt zs k = sAt ys k) := Classical.not_not.1 h2
        have e2 : (sAt zs k == sAt ys k) = true := by simpa using H2.out
        clear h2
        go_wp2_with fail
        go_quiet (fail)
        go_wp2
        go_roundw
        case rel => exact ⟨k + 1, _, by go_num, by omega, rfl, take_same HT.out hlt (by omega) (sym_same H0.out H1.out H2.out)⟩
        case measure => simp [intOf]; omega
      · go_wp2
        go_ret
        exact ⟨retB (decide_eq_true (take_all HT.out (by omega) HL.out)).symm, below_drewN (Below.refl _ _) _⟩
  · have hl' : ((zs.length : Int) == (ys.length : Int)) = false := by simp; omega
    have HL : Hid (¬ zs.length = ys.length) := hl
    clear hl
    go_enter Tryz.func75, Tryz.ntmps75
    go_wp2
    go_ret
    exact ⟨retB (decide_eq_false (fun h => HL.out (by rw [h]))).symm, Below.refl _ _⟩
set_option maxRecDepth 100000 in
set_option maxHeartbeats 2000000 in
theorem eqobj_same (nm : ByteArray) (dA : Int) (A1 A2 A3 A4 : Option Addr) (c1 c2 c3 c4 : Nat) (code data : List Int) (ss : List Sym) (rs : List Rel) (w : World) (B1 B2 B3 B4 : Option Addr) (e1 e2 e3 e4 : Nat) (hC : IntsAt w A1 .u32 code) (hD : IntsAt w A2 .i64 data) (hS : SymsAt w A3 ss) (hL : RelsAt w A4 rs) (hc : code.length ≤ 1048576) (hd : data.length ≤ 1048576) (hs : ss.length ≤ 1048576) (hl : rs.length ≤ 1048576) (gC : IntsAt w B1 .u32 code) (gD : IntsAt w B2 .i64 data) (gS : SymsAt w B3 ss) (gL : RelsAt w B4 rs) :
    Calls Tryz.prog 49 #[.agg #[.string nm, .slice A1 code.length c1, .int .i64 dA, .slice A2 data.length c2, .slice A3 ss.length c3, .slice A4 rs.length c4], .agg #[.string nm, .slice B1 code.length e1, .int .i64 dA, .slice B2 data.length e2, .slice B3 ss.length e3, .slice B4 rs.length e4]] w fun e w' => e = .returned (.bool true) ∧ Below w.heap.size w w' := by
  have E0 := fun wx (hx : Below w.heap.size w wx) => eqwords_any A1 B1 c1 e1 code code wx (hC.keep hx) (gC.keep hx) hc
  simp only [decide_true] at E0
  have E1 := fun wx (hx : Below w.heap.size w wx) => eqlongs_any A2 B2 c2 e2 data data wx (hD.keep hx) (gD.keep hx) hd
  simp only [decide_true] at E1
  have E2 := fun wx (hx : Below w.heap.size w wx) => eqsym_any A3 B3 c3 e3 ss ss wx (hS.keep hx) (gS.keep hx) hs
  simp only [decide_true] at E2
  have E3 := fun wx (hx : Below w.heap.size w wx) => eqrel_any A4 B4 c4 e4 rs rs wx (hL.keep hx) (gL.keep hx) hl
  simp only [decide_true] at E3
  go_enter Tryz.func49, Tryz.ntmps49
  go_wp2_with fail
  refine (E0 _ (lb_alloc (lb_alloc (Below.refl _ _) _) _)).mono ?_
  rintro e w0 ⟨rfl, hb0⟩
  have HB0 : Hid (Below w.heap.size w w0) := lb_trans (lb_alloc (lb_alloc (Below.refl _ _) _) _) hb0
  have q0a0 : w0.cell? ⟨w.heap.size, 0, none⟩ = some (.string nm) := lkeep hb0 (by simp [go_sem])
  have q0a1 : w0.cell? ⟨w.heap.size, 1, none⟩ = some (.slice A1 code.length c1) := lkeep hb0 (by simp [go_sem])
  have q0a2 : w0.cell? ⟨w.heap.size, 2, none⟩ = some (.int .i64 dA) := lkeep hb0 (by simp [go_sem])
  have q0a3 : w0.cell? ⟨w.heap.size, 3, none⟩ = some (.slice A2 data.length c2) := lkeep hb0 (by simp [go_sem])
  have q0a4 : w0.cell? ⟨w.heap.size, 4, none⟩ = some (.slice A3 ss.length c3) := lkeep hb0 (by simp [go_sem])
  have q0a5 : w0.cell? ⟨w.heap.size, 5, none⟩ = some (.slice A4 rs.length c4) := lkeep hb0 (by simp [go_sem])
  have q0b0 : w0.cell? ⟨w.heap.size + 1, 0, none⟩ = some (.string nm) := lkeep hb0 (by simp [go_sem])
  have q0b1 : w0.cell? ⟨w.heap.size + 1, 1, none⟩ = some (.slice B1 code.length e1) := lkeep hb0 (by simp [go_sem])
  have q0b2 : w0.cell? ⟨w.heap.size + 1, 2, none⟩ = some (.int .i64 dA) := lkeep hb0 (by simp [go_sem])
  have q0b3 : w0.cell? ⟨w.heap.size + 1, 3, none⟩ = some (.slice B2 data.length e2) := lkeep hb0 (by simp [go_sem])
  have q0b4 : w0.cell? ⟨w.heap.size + 1, 4, none⟩ = some (.slice B3 ss.length e3) := lkeep hb0 (by simp [go_sem])
  have q0b5 : w0.cell? ⟨w.heap.size + 1, 5, none⟩ = some (.slice B4 rs.length e4) := lkeep hb0 (by simp [go_sem])
  clear hb0
  go_wp2_with fail
  refine (E1 _ (HB0.out)).mono ?_
  rintro e w1 ⟨rfl, hb1⟩
  have HB1 : Hid (Below w.heap.size w w1) := lb_trans (HB0.out) hb1
  have q1a0 := lkeep hb1 q0a0
  have q1a1 := lkeep hb1 q0a1
  have q1a2 := lkeep hb1 q0a2
  have q1a3 := lkeep hb1 q0a3
  have q1a4 := lkeep hb1 q0a4
  have q1a5 := lkeep hb1 q0a5
  have q1b0 := lkeep hb1 q0b0
  have q1b1 := lkeep hb1 q0b1
  have q1b2 := lkeep hb1 q0b2
  have q1b3 := lkeep hb1 q0b3
  have q1b4 := lkeep hb1 q0b4
  have q1b5 := lkeep hb1 q0b5
  clear hb1 q0a0 q0a1 q0a2 q0a3 q0a4 q0a5 q0b0 q0b1 q0b2 q0b3 q0b4 q0b5
  go_wp2_with fail
  refine (E2 _ (HB1.out)).mono ?_
  rintro e w2 ⟨rfl, hb2⟩
  have HB2 : Hid (Below w.heap.size w w2) := lb_trans (HB1.out) hb2
  have q2a0 := lkeep hb2 q1a0
  have q2a1 := lkeep hb2 q1a1
  have q2a2 := lkeep hb2 q1a2
  have q2a3 := lkeep hb2 q1a3
  have q2a4 := lkeep hb2 q1a4
  have q2a5 := lkeep hb2 q1a5
  have q2b0 := lkeep hb2 q1b0
  have q2b1 := lkeep hb2 q1b1
  have q2b2 := lkeep hb2 q1b2
  have q2b3 := lkeep hb2 q1b3
  have q2b4 := lkeep hb2 q1b4
  have q2b5 := lkeep hb2 q1b5
  clear hb2 q1a0 q1a1 q1a2 q1a3 q1a4 q1a5 q1b0 q1b1 q1b2 q1b3 q1b4 q1b5
  go_wp2_with fail
  refine (E3 _ (HB2.out)).mono ?_
  rintro e w3 ⟨rfl, hb3⟩
  have HB3 : Hid (Below w.heap.size w w3) := lb_trans (HB2.out) hb3
  have q3a0 := lkeep hb3 q2a0
  have q3a1 := lkeep hb3 q2a1
  have q3a2 := lkeep hb3 q2a2
  have q3a3 := lkeep hb3 q2a3
  have q3a4 := lkeep hb3 q2a4
  have q3a5 := lkeep hb3 q2a5
  have q3b0 := lkeep hb3 q2b0
  have q3b1 := lkeep hb3 q2b1
  have q3b2 := lkeep hb3 q2b2
  have q3b3 := lkeep hb3 q2b3
  have q3b4 := lkeep hb3 q2b4
  have q3b5 := lkeep hb3 q2b5
  clear hb3 q2a0 q2a1 q2a2 q2a3 q2a4 q2a5 q2b0 q2b1 q2b2 q2b3 q2b4 q2b5
  go_wp2
  go_ret
  exact ⟨rfl, HB3.out⟩



end Go.Proofs.YtbckolkgncajfaaGreatDoor

namespace Go.Proofs.YtbckolkgncajfaaGreatDoor
open Go.RowKit

theorem two_sep {a b : Value × Nat} (h : Off a.1.ownBlock b.1.ownBlock) : Sep [a, b] := by
  intro m m' h1 h2
  simp only [List.length_cons, List.length_nil] at h2
  obtain rfl : m = 0 := by omega
  obtain rfl : m' = 1 := by omega
  exact h
theorem two_rows {P : Value → Nat → Prop} {a b : Value × Nat} (ha : P a.1 a.2) (hb : P b.1 b.2) : ∀ m, m < [a, b].length → P (rv [a, b] m) (rl [a, b] m) := by
  intro m hm
  simp only [List.length_cons, List.length_nil] at hm
  have : m = 0 ∨ m = 1 := by omega
  rcases this with rfl | rfl
  · exact ha
  · exact hb
theorem two_lens {a b : Value × Nat} {n : Nat} (ha : a.2 ≤ n) (hb : b.2 ≤ n) : ∀ m, rl [a, b] m ≤ n := by
  intro m
  have : m = 0 ∨ m = 1 ∨ 2 ≤ m := by omega
  rcases this with rfl | rfl | h
  · exact ha
  · exact hb
  · unfold rl
    rw [List.getD_eq_getElem?_getD, List.getElem?_eq_none (by simpa using h)]
    exact Nat.zero_le _
theorem tab_size {w : World} (h : Tab w) : 3 ≤ w.heap.size := World.block_lt_of_cell? w _ (Lib.TabIs.cell h gTab 0 (by rw [Lib.pow10Tab_length]; omega))
theorem own_off {w w' : World} {b b' t t' n n' size size' : Nat} {v v' : Value} {xs xs' : List Value} (h : w.ownsRow b t size v n xs) (h' : w'.ownsRow b' t' size' v' n' xs') (hs : w.heap.size ≤ b') : Off v.ownBlock v'.ownBlock := fun k e e' => by
  have := (h.lt k e).2
  have := (h'.lt k e').1
  omega
set_option maxHeartbeats 8000000 in
set_option maxRecDepth 100000 in
theorem lawWords (O : Option Addr) (cap : Nat) (zs : List Int) (w : World) (ht : Tab w) (hN : Nm w) (hK : Kd w) (hA : IntsAt w O .u32 zs) (hz : ∀ i, i < zs.length → 0 ≤ nth zs i ∧ nth zs i < 4294967296) (hml : zs.length ≤ maxLen) :
    Calls Tryz.prog 3 #[.slice O zs.length cap] w fun e w' => e = .returned (.bool true) ∧ Below w.heap.size w w' := by
  unfold maxLen at hml
  have LV : Hid (∀ wx, Below w.heap.size w wx → Calls Tryz.prog 5 #[] wx fun e w' => e = .returned (.bool true) ∧ Below wx.heap.size wx w') := fun wx hx => lives_any wx (ht.below hx) (hN.below hx) (hK.below hx)
  by_cases hbig : 16384 < zs.length
  · clear ht hN hK hA hz
    go_enter Tryz.func3, Tryz.ntmps3
    go_wp2_with fail
    refine (LV.out _ (Below.refl _ _)).mono ?_
    rintro e w2 ⟨rfl, hb2⟩
    go_wp2
    go_ret
    exact ⟨rfl, hb2⟩
  have hn : zs.length ≤ 16384 := by omega
  have HT : Hid (Tab w) := ht
  have HNm : Hid (Nm w) := hN
  have HI : Hid (IntsAt w O .u32 zs) := hA
  have HZ : Hid (∀ i, i < zs.length → 0 ≤ nth zs i ∧ nth zs i < 4294967296) := hz
  have HLn : Hid ((linesL zs).length = zs.length) := linesL_len zs
  obtain ⟨w1, hw1⟩ : ∃ x, x = w.alloc (.cells (wcur (wInt .u32 zs) (fun _ => .int .u32 0) (zs.length + 64) (zs.length + 64)) 31) := ⟨_, rfl⟩
  have HB1 : Hid (Below w.heap.size w w1) := by unfold Hid; rw [hw1]; exact lb_alloc (Below.refl _ _) _
  have HI1 : Hid (IntsAt w1 (some ⟨w.heap.size, 0, none⟩) .u32 zs) := by unfold Hid; rw [hw1]; exact wide_ints w .u32 _ zs 31
  have HM1 : Hid (MarkI w1 .u32 w.heap.size zs.length) := by unfold Hid; rw [hw1]; exact wide_marki w .u32 _ zs 31
  have CW := widewords_any O cap zs w hA (by omega)
  rw [← hw1] at CW
  have CC : Hid (∀ wx, Below w1.heap.size w1 wx → Calls Tryz.prog 7 #[.slice (some ⟨w.heap.size, 0, none⟩) zs.length (zs.length + 64)] wx (WrP wx.heap.size (linesL zs) wx)) := fun wx hx => code_any (some ⟨w.heap.size, 0, none⟩) (zs.length + 64) zs wx (HI1.out.keep hx) HZ.out hn (HT.out.below (lb_trans HB1.out hx)) (HNm.out.below (lb_trans HB1.out hx))
  have CR : Hid (∀ wx, Below w.heap.size w wx → Calls Tryz.prog 9 #[.slice O zs.length cap] wx (WrP wx.heap.size (linesL zs) wx)) := fun wx hx => refcode_any O cap zs wx (HI.out.keep hx) HZ.out hn (HT.out.below hx)
  have CI : Hid (∀ k, k < zs.length → ∀ wx, Below w.heap.size w wx → Calls Tryz.prog 12 #[.int .u32 (nth zs k)] wx fun e w' => e = .returned (.string (bs (lineL (nth zs k)))) ∧ Below wx.heap.size wx w') := fun k hk wx hx => ins_any (nth zs k) (HZ.out k hk).1 (HZ.out k hk).2 wx (HT.out.below hx) (HNm.out.below hx)
  clear ht hN hK hA hz hbig hw1
  go_enter Tryz.func3, Tryz.ntmps3
  go_wp2_with fail
  refine CW.mono ?_
  rintro e w1' ⟨rfl, rfl⟩
  clear CW
  go_wp2_with fail
  refine (CC.out _ (Below.refl _ _)).mono ?_
  rintro e w2 ⟨A, ca, rfl, ho2, hb2⟩
  have HOa : Hid (w2.ownsRow w1'.heap.size 9 1 (.slice A (linesL zs).length ca) (linesL zs).length ((linesL zs).map Value.string)) := ho2
  have HB2 : Hid (Below w1'.heap.size w1' w2) := hb2
  clear ho2 hb2
  go_wp2_with fail
  refine (CC.out _ HB2.out).mono ?_
  rintro e w3 ⟨B, cb, rfl, ho3, hb3⟩
  have HOb : Hid (w3.ownsRow w2.heap.size 9 1 (.slice B (linesL zs).length cb) (linesL zs).length ((linesL zs).map Value.string)) := ho3
  have HOa3 : Hid (w3.ownsRow w1'.heap.size 9 1 (.slice A (linesL zs).length ca) (linesL zs).length ((linesL zs).map Value.string)) := own_keep HOa.out hb3
  have HOff : Hid (Off (Value.slice A (linesL zs).length ca).ownBlock (Value.slice B (linesL zs).length cb).ownBlock) := own_off HOa.out ho3 (Nat.le_refl _)
  have HB3 : Hid (Below w1'.heap.size w1' w3) := lb_trans HB2.out hb3
  have HBw3 : Hid (Below w.heap.size w w3) := lb_trans HB1.out HB3.out
  have HS2 : Hid (w1'.heap.size ≤ w2.heap.size) := HB2.out.size
  clear ho3 hb3 HOa CC HB2
  go_wp2_with fail
  refine (CR.out _ HBw3.out).mono ?_
  rintro e w4 ⟨R, cr, rfl, ho4, hb4⟩
  have HOr : Hid (Strs w4 (.slice R (linesL zs).length cr) (linesL zs)) := own_zero ho4
  have HOa4 : Hid (Strs w4 (.slice A (linesL zs).length ca) (linesL zs)) := own_zero (own_keep HOa3.out hb4)
  have HOb4 : Hid (Strs w4 (.slice B (linesL zs).length cb) (linesL zs)) := own_zero (own_keep HOb.out hb4)
  have HB4 : Hid (Below w3.heap.size w3 w4) := hb4
  have CE1 := eqtexts_same A R ca cr (linesL zs) w4 HOa4.out HOr.out (by rw [HLn.out]; omega)
  clear ho4 hb4 CR
  go_wp2_with fail
  refine CE1.mono ?_
  rintro e w5 ⟨rfl, hb5⟩
  have CE2 := eqtexts_same A B ca cb (linesL zs) w5 (HOa4.out.keep hb5) (HOb4.out.keep hb5) (by rw [HLn.out]; omega)
  have HB5 : Hid (Below w3.heap.size w3 w5) := lb_trans HB4.out hb5
  clear hb5 CE1
  go_wp2_with fail
  refine CE2.mono ?_
  rintro e w6 ⟨rfl, hb6⟩
  have HB6 : Hid (Below w3.heap.size w3 w6) := lb_trans HB5.out hb6
  have CE3 := eqwords_any (some ⟨w.heap.size, 0, none⟩) O (zs.length + 64) cap zs zs w6 (HI1.out.keep (lb_trans HB3.out HB6.out)) (HI.out.keep (lb_trans HBw3.out HB6.out)) (by omega)
  rw [decide_eq_true rfl] at CE3
  clear hb6 CE2
  go_wp2_with fail
  refine CE3.mono ?_
  rintro e w7 ⟨rfl, hb7⟩
  have HB7 : Hid (Below w3.heap.size w3 w7) := lb_trans HB6.out hb7
  have CSp := sparewords_any w.heap.size zs.length w7 (HM1.out.keep (lb_trans HB3.out HB7.out)) (by omega)
  clear hb7 CE3 HB4 HB5 HB6 HOr HOa4 HOb4
  go_wp2_with fail
  refine CSp.mono ?_
  rintro e w8 ⟨rfl, rfl⟩
  obtain ⟨wz, hwz⟩ : ∃ x, x = w8 := ⟨_, rfl⟩
  subst hwz
  have HBz : Hid (Below w.heap.size w wz) := lb_trans HBw3.out HB7.out
  have HOaz : Hid (wz.ownsRow w1'.heap.size 9 1 (.slice A (linesL zs).length ca) (linesL zs).length ((linesL zs).map Value.string)) := own_keep HOa3.out HB7.out
  have HObz : Hid (wz.ownsRow w2.heap.size 9 1 (.slice B (linesL zs).length cb) (linesL zs).length ((linesL zs).map Value.string)) := own_keep HOb.out HB7.out
  clear CSp HOa3 HOb HB7 HB3 HBw3 HI1 HM1
  go_wp2
  go_loopw [6] (fun i wr => ∃ k : Nat, i = .int .i64 k ∧ k ≤ zs.length ∧ k ≤ 200 ∧ Hid (Below wz.heap.size wz wr)) (fun i _ => zs.length - (intOf i).toNat)
  case atStart => exact ⟨0, rfl, Nat.zero_le _, Nat.zero_le _, Below.refl _ _⟩
  case round =>
    obtain ⟨k, rfl, hk, hk2, HBr⟩ := hrel
    by_cases hlt : k < zs.length ∧ k < 200
    · obtain ⟨h1, h2⟩ := hlt
      obtain ⟨a, ea, c1⟩ := HI.out k h1
      obtain ⟨b, eb, c2⟩ := Strs.at (ps := linesL zs) (own_zero HOaz.out) rfl k (by rw [HLn.out]; exact h1)
      rw [show pn (linesL zs) k = bs (lineL (nth zs k)) by unfold pn linesL nth; simp [h1]] at c2
      have q1 := lkeep (lb_trans HBz.out HBr.out) c1
      have q2 := lkeep HBr.out c2
      have hq : k < (linesL zs).length := by rw [HLn.out]; exact h1
      have CIk := CI.out k h1
      have BW : Below w.heap.size w wr.drew := (lb_trans HBz.out HBr.out).drew
      have BZ : Below wz.heap.size wz wr.drew := HBr.out.drew
      clear c1 c2
      subst ea eb
      go_wp2_with fail
      go_region_held3 (fun X => Below w.heap.size w X ∧ Below wz.heap.size wz X ∧ X.cell? (a.add k) = some (.int .u32 (nth zs k)) ∧ X.cell? (b.add k) = some (.string (bs (lineL (nth zs k))))) (first | (refine ⟨lb_trans ?_ hb, lb_trans ?_ hb, lkeep hb ?_, lkeep hb ?_⟩ <;> (simp [*]; done)) | (simp [*]; done))
        ((go_at_call 12; refine (CIk _ (by first | assumption | exact (‹Below _ _ _ ∧ _›).1)).mono ?_; rintro e w4 ⟨rfl, hb⟩))
      rename_i hS'
      obtain ⟨sW, sZ, -, -⟩ := hS'
      have HBq : Hid (Below wz.heap.size wz _) := sZ
      clear sW sZ CIk BW BZ q1 q2
      go_wp2
      go_roundw
      case rel => exact ⟨k + 1, by go_num, by omega, by omega, HBq⟩
      case measure => simp [intOf]; omega
    · have hcase : (k < zs.length ∧ ¬ k < 200) ∨ ¬ k < zs.length := by omega
      have HG0 : Hid (BagIs (wr.alloc (.cells #[.slice none 0 0, .slice none 0 0, .slice none 0 0, .slice none 0 0, .slice none 0 0, .slice none 0 0, .slice none 0 0, .slice none 0 0, .slice none 0 0, .slice none 0 0, .slice none 0 0, .slice none 0 0, .slice none 0 0, .slice none 0 0, .slice none 0 0, .slice none 0 0, .slice none 0 0] 51)) wr.heap.size (fun _ => .slice none 0 0)) := bag_new wr
      have HN0 : Hid (Below wr.heap.size wr (wr.alloc (.cells #[.slice none 0 0, .slice none 0 0, .slice none 0 0, .slice none 0 0, .slice none 0 0, .slice none 0 0, .slice none 0 0, .slice none 0 0, .slice none 0 0, .slice none 0 0, .slice none 0 0, .slice none 0 0, .slice none 0 0, .slice none 0 0, .slice none 0 0, .slice none 0 0, .slice none 0 0] 51))) := lb_alloc (Below.refl _ _) _
      have HBw : Hid (Below w.heap.size w wr) := lb_trans HBz.out HBr.out
      have HOar : Hid _ := own_keep HOaz.out HBr.out
      have HObr : Hid _ := own_keep HObz.out HBr.out
      clear hlt
      rcases hcase with ⟨h1, h2⟩ | h1
      all_goals (
        go_wp2_with fail
        refine (addtexts_any wr.heap.size wr.heap.size _ [] A (linesL zs).length ca _ (Nat.le_refl _) HG0.out (World.ownsRow_nil _ _ _ _) (by simp)).mono ?_
        rintro e wa ⟨rfl, V, hg1, hv1, hb1, -⟩
        have HGa : Hid _ := hg1
        have HVa : Hid (wa.ownsRow wr.heap.size 25 1 V 1 [.slice A (linesL zs).length ca]) := hv1
        have HNa : Hid (Below wr.heap.size wr wa) := Below.trans HN0.out hb1
        clear hg1 hv1 hb1
        go_wp2_with fail
        refine (addtexts_any wr.heap.size wr.heap.size _ [.slice A (linesL zs).length ca] B (linesL zs).length cb _ (Nat.le_refl _) HGa.out HVa.out (by simp)).mono ?_
        rintro e wb ⟨rfl, V2, hg2, hv2, hb2, -⟩
        have HNb : Hid (Below wr.heap.size wr wb) := Below.trans HNa.out hb2
        have HBb : Hid (Below w.heap.size w wb) := lb_trans HBw.out HNb.out
        have hA1 := own_keep HOar.out HNb.out
        have hB1 := own_keep HObr.out HNb.out
        have h3 := tab_size HT.out
        have HLo : Hid (∀ m, m < 2 → ∀ b, (rv [(.slice A (linesL zs).length ca, (linesL zs).length), (.slice B (linesL zs).length cb, (linesL zs).length)] m).ownBlock = some b → w.heap.size ≤ b) := two_rows (P := fun v _ => ∀ b, v.ownBlock = some b → w.heap.size ≤ b) (a := (.slice A (linesL zs).length ca, (linesL zs).length)) (b := (.slice B (linesL zs).length cb, (linesL zs).length)) (fun b hb => by have := (hA1.lt b hb).1; have := HB1.out.size; omega) (fun b hb => by have := (hB1.lt b hb).1; have := HB1.out.size; have := HS2.out; omega)
        have AP := apartT wr.heap.size _ [(.slice A (linesL zs).length ca, (linesL zs).length), (.slice B (linesL zs).length cb, (linesL zs).length)] wb hg2 (own_zero hv2) (fun k hk _ => by simp [upd, hk]) (two_rows (P := fun v n => ∃ xs, wb.ownsRow 0 9 1 v n xs) ⟨_, own_zero hA1⟩ ⟨_, own_zero hB1⟩) (two_sep HOff.out) (by simp) (two_lens (by rw [HLn.out]; omega) (by rw [HLn.out]; omega)) (HT.out.below HBb.out) (fun m hm b hb => by have := HLo.out m hm b hb; omega)
        clear hg2 hv2 hb2 hA1 hB1
        go_wp2_with fail
        refine AP.mono ?_
        rintro e wc ⟨rfl, hfr⟩
        have HBc : Hid (Below w.heap.size w wc) := ⟨hfr.os.trans HBb.out.os, hfr.tape.trans HBb.out.tape, hfr.output.trans HBb.out.output, Nat.le_trans HBb.out.size hfr.size, fun i hi => (hfr.block i (by have := HBb.out.size; omega) (fun m hm e => by have := HLo.out m hm i e; omega)).trans (HBb.out.block i hi)⟩
        clear hfr AP
        go_wp2_with fail
        refine (LV.out _ HBc.out).mono ?_
        rintro e wd ⟨rfl, hbd⟩
        have HBd : Hid (Below w.heap.size w wd) := lb_trans HBc.out hbd
        clear hbd
        go_wp2
        go_ret
        exact ⟨rfl, HBd.out⟩)

end Go.Proofs.YtbckolkgncajfaaGreatDoor
