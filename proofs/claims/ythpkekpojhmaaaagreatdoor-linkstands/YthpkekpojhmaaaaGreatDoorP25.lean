/-
  Two lists of numbers compared, by the document's helpers: true just if they are one list; the first is at most 2^20 long. Two lists of symbols, of relocations compared, by the document's helpers: true just if they are one list; the first is at most 2^20 long. An object compared with one that is the same, by the document's helper: true; the lists are at most 2^20 long. WideImage, SpareImage, EqImage and heavy of the statements, each by what it returns; the lists have at most 2^20 items. leaves and Check of package image, by what they return; each word is of 32 bits. What is written and read again.
-/
import Derived.Test.YthpkekpojhmaaaaGreatDoorProg
import Derived.WalkKit
import Derived.WalkSpells
import Derived.WalkLawsBesides
import Derived.RowKit3
import Derived.Below
import Derived.Deep.QuietTactic
import Derived.BigQuiet
import Derived.WalkSmall
import Derived.Test.YthpkekpojhmaaaaGreatDoorP01
import Derived.Laws.Rows
import Derived.Test.YthpkekpojhmaaaaGreatDoorP22
import Derived.Test.YthpkekpojhmaaaaGreatDoorP23
import Derived.Test.YthpkekpojhmaaaaGreatDoorP18
import Derived.Test.YthpkekpojhmaaaaGreatDoorP12
namespace Go.Proofs.YthpkekpojhmaaaaGreatDoor
open Go.RowKit

set_option maxRecDepth 100000 in
set_option maxHeartbeats 1000000 in
theorem eqwords_any (A B : Option Addr) (ca cb : Nat) (zs ys : List Int) (w : World) (hA : IntsAt w A .u32 zs) (hB : IntsAt w B .u32 ys) (hz : zs.length ≤ 1048576) :
    Calls Tryz.prog 33 #[.slice A zs.length ca, .slice B ys.length cb] w fun e w' => e = .returned (.bool (decide (zs = ys))) ∧ Below w.heap.size w w' := by
  by_cases hl : zs.length = ys.length
  · have hl' : ((zs.length : Int) == (ys.length : Int)) = true := by rw [hl]; simp
    have HL : Hid (zs.length = ys.length) := hl
    clear hl
    go_enter Tryz.func33, Tryz.ntmps33
    go_wp2
    go_loopw [5] (fun i wr => ∃ (k m : Nat), i = .int .i64 k ∧ k ≤ zs.length ∧ wr = w.drewN m ∧ Hid (zs.take k = ys.take k)) (fun i _ => zs.length - (intOf i).toNat)
    case atStart => exact ⟨0, 0, rfl, by omega, rfl, by simp [Hid]⟩
    case round =>
      obtain ⟨k, m, rfl, hk, rfl, HT⟩ := hrel
      by_cases hlt : k < zs.length
      · obtain ⟨a, rfl, c1⟩ := hA k hlt
        obtain ⟨b, rfl, c2⟩ := hB k (by have := HL.out; omega)
        have hlt2 : (k : Int) < (ys.length : Int) := by have := HL.out; omega
        by_cases he : nth zs k = nth ys k
        · have HE : Hid (nth zs k = nth ys k) := he
          have he' : (nth zs k == nth ys k) = true := by simpa using he
          clear he
          go_wp2_with fail
          go_quiet (fail)
          go_wp2
          go_roundw
          case rel => exact ⟨k + 1, _, by go_num, by omega, rfl, take_same HT.out hlt (by omega) HE.out⟩
          case measure => simp [intOf]; omega
        · have HE : Hid (¬ nth zs k = nth ys k) := he
          have he' : (nth zs k == nth ys k) = false := by simpa using he
          clear he
          go_wp2_with fail
          go_quiet (fail)
          go_wp2
          go_ret
          exact ⟨retB (decide_eq_false (nth_ne HE.out)).symm, below_drewN (below_drewN (Below.refl _ _) _) _⟩
      · go_wp2
        go_ret
        exact ⟨retB (decide_eq_true (take_all HT.out (by omega) HL.out)).symm, below_drewN (Below.refl _ _) _⟩
  · have hl' : ((zs.length : Int) == (ys.length : Int)) = false := by simp; omega
    have HL : Hid (¬ zs.length = ys.length) := hl
    clear hl
    go_enter Tryz.func33, Tryz.ntmps33
    go_wp2
    go_ret
    exact ⟨retB (decide_eq_false (fun h => HL.out (by rw [h]))).symm, Below.refl _ _⟩

set_option maxRecDepth 100000 in
set_option maxHeartbeats 1000000 in
theorem eqlongs_any (A B : Option Addr) (ca cb : Nat) (zs ys : List Int) (w : World) (hA : IntsAt w A .i64 zs) (hB : IntsAt w B .i64 ys) (hz : zs.length ≤ 1048576) :
    Calls Tryz.prog 34 #[.slice A zs.length ca, .slice B ys.length cb] w fun e w' => e = .returned (.bool (decide (zs = ys))) ∧ Below w.heap.size w w' := by
  by_cases hl : zs.length = ys.length
  · have hl' : ((zs.length : Int) == (ys.length : Int)) = true := by rw [hl]; simp
    have HL : Hid (zs.length = ys.length) := hl
    clear hl
    go_enter Tryz.func34, Tryz.ntmps34
    go_wp2
    go_loopw [5] (fun i wr => ∃ (k m : Nat), i = .int .i64 k ∧ k ≤ zs.length ∧ wr = w.drewN m ∧ Hid (zs.take k = ys.take k)) (fun i _ => zs.length - (intOf i).toNat)
    case atStart => exact ⟨0, 0, rfl, by omega, rfl, by simp [Hid]⟩
    case round =>
      obtain ⟨k, m, rfl, hk, rfl, HT⟩ := hrel
      by_cases hlt : k < zs.length
      · obtain ⟨a, rfl, c1⟩ := hA k hlt
        obtain ⟨b, rfl, c2⟩ := hB k (by have := HL.out; omega)
        have hlt2 : (k : Int) < (ys.length : Int) := by have := HL.out; omega
        by_cases he : nth zs k = nth ys k
        · have HE : Hid (nth zs k = nth ys k) := he
          have he' : (nth zs k == nth ys k) = true := by simpa using he
          clear he
          go_wp2_with fail
          go_quiet (fail)
          go_wp2
          go_roundw
          case rel => exact ⟨k + 1, _, by go_num, by omega, rfl, take_same HT.out hlt (by omega) HE.out⟩
          case measure => simp [intOf]; omega
        · have HE : Hid (¬ nth zs k = nth ys k) := he
          have he' : (nth zs k == nth ys k) = false := by simpa using he
          clear he
          go_wp2_with fail
          go_quiet (fail)
          go_wp2
          go_ret
          exact ⟨retB (decide_eq_false (nth_ne HE.out)).symm, below_drewN (below_drewN (Below.refl _ _) _) _⟩
      · go_wp2
        go_ret
        exact ⟨retB (decide_eq_true (take_all HT.out (by omega) HL.out)).symm, below_drewN (Below.refl _ _) _⟩
  · have hl' : ((zs.length : Int) == (ys.length : Int)) = false := by simp; omega
    have HL : Hid (¬ zs.length = ys.length) := hl
    clear hl
    go_enter Tryz.func34, Tryz.ntmps34
    go_wp2
    go_ret
    exact ⟨retB (decide_eq_false (fun h => HL.out (by rw [h]))).symm, Below.refl _ _⟩
set_option maxRecDepth 100000 in
set_option maxHeartbeats 1000000 in
theorem eqrel_any (A B : Option Addr) (ca cb : Nat) (zs ys : List Rel) (w : World) (hA : RelsAt w A zs) (hB : RelsAt w B ys) (hz : zs.length ≤ 1048576) :
    Calls Tryz.prog 103 #[.slice A zs.length ca, .slice B ys.length cb] w fun e w' => e = .returned (.bool (decide (zs = ys))) ∧ Below w.heap.size w w' := by
  by_cases hl : zs.length = ys.length
  · have hl' : ((zs.length : Int) == (ys.length : Int)) = true := by rw [hl]; simp
    have HL : Hid (zs.length = ys.length) := hl
    clear hl
    go_enter Tryz.func103, Tryz.ntmps103
    go_wp2
    go_loopw [5] (fun i wr => ∃ (k m : Nat), i = .int .i64 k ∧ k ≤ zs.length ∧ wr = w.drewN m ∧ Hid (zs.take k = ys.take k)) (fun i _ => zs.length - (intOf i).toNat)
    case atStart => exact ⟨0, 0, rfl, by omega, rfl, by simp [Hid]⟩
    case round =>
      obtain ⟨k, m, rfl, hk, rfl, HT⟩ := hrel
      by_cases hlt : k < zs.length
      · obtain ⟨a, rfl, c0, c1⟩ := hA k hlt
        obtain ⟨b, rfl, d0, d1⟩ := hB k (by have := HL.out; omega)
        have hlt2 : (k : Int) < (ys.length : Int) := by have := HL.out; omega
        have p0 : w.cell? (a.add (k * 2)) = some (.int .i64 (rAt zs k)) := c0
        have q0 : w.cell? (b.add (k * 2)) = some (.int .i64 (rAt ys k)) := d0
        have p1 : w.cell? (⟨(a.add (k * 2)).block, (a.add (k * 2)).off + 1, none⟩) = some (.int .i64 (rSym zs k)) := c1
        have q1 : w.cell? (⟨(b.add (k * 2)).block, (b.add (k * 2)).off + 1, none⟩) = some (.int .i64 (rSym ys k)) := d1
        clear c0 d0 c1 d1
        by_cases h0 : ¬ rAt zs k = rAt ys k
        · have HE : Hid (¬ rAt zs k = rAt ys k) := h0
          have e0 : (rAt zs k == rAt ys k) = false := by simpa using h0
          clear h0
          go_wp2_with fail
          go_quiet (fail)
          go_wp2
          go_ret
          exact ⟨retB (decide_eq_false (fun h => HE.out (by rw [h]))).symm, below_drewN (below_drewN (Below.refl _ _) _) _⟩
        have H0 : Hid (rAt zs k = rAt ys k) := Classical.not_not.1 h0
        have e0 : (rAt zs k == rAt ys k) = true := by simpa using H0.out
        clear h0
        by_cases h1 : ¬ rSym zs k = rSym ys k
        · have HE : Hid (¬ rSym zs k = rSym ys k) := h1
          have e1 : (rSym zs k == rSym ys k) = false := by simpa using h1
          clear h1
          go_wp2_with fail
          go_quiet (fail)
          go_wp2
          go_ret
          exact ⟨retB (decide_eq_false (fun h => HE.out (by rw [h]))).symm, below_drewN (below_drewN (Below.refl _ _) _) _⟩
        have H1 : Hid (rSym zs k = rSym ys k) := Classical.not_not.1 h1
        have e1 : (rSym zs k == rSym ys k) = true := by simpa using H1.out
        clear h1
        go_wp2_with fail
        go_quiet (fail)
        go_wp2
        go_roundw
        case rel => exact ⟨k + 1, _, by go_num, by omega, rfl, take_same HT.out hlt (by omega) (rel_same H0.out H1.out)⟩
        case measure => simp [intOf]; omega
      · go_wp2
        go_ret
        exact ⟨retB (decide_eq_true (take_all HT.out (by omega) HL.out)).symm, below_drewN (Below.refl _ _) _⟩
  · have hl' : ((zs.length : Int) == (ys.length : Int)) = false := by simp; omega
    have HL : Hid (¬ zs.length = ys.length) := hl
    clear hl
    go_enter Tryz.func103, Tryz.ntmps103
    go_wp2
    go_ret
    exact ⟨retB (decide_eq_false (fun h => HL.out (by rw [h]))).symm, Below.refl _ _⟩

set_option maxRecDepth 100000 in
set_option maxHeartbeats 1000000 in
theorem eqsym_any (A B : Option Addr) (ca cb : Nat) (zs ys : List Sym) (w : World) (hA : SymsAt w A zs) (hB : SymsAt w B ys) (hz : zs.length ≤ 1048576) :
    Calls Tryz.prog 102 #[.slice A zs.length ca, .slice B ys.length cb] w fun e w' => e = .returned (.bool (decide (zs = ys))) ∧ Below w.heap.size w w' := by
  by_cases hl : zs.length = ys.length
  · have hl' : ((zs.length : Int) == (ys.length : Int)) = true := by rw [hl]; simp
    have HL : Hid (zs.length = ys.length) := hl
    clear hl
    go_enter Tryz.func102, Tryz.ntmps102
    go_wp2
    go_loopw [5] (fun i wr => ∃ (k m : Nat), i = .int .i64 k ∧ k ≤ zs.length ∧ wr = w.drewN m ∧ Hid (zs.take k = ys.take k)) (fun i _ => zs.length - (intOf i).toNat)
    case atStart => exact ⟨0, 0, rfl, by omega, rfl, by simp [Hid]⟩
    case round =>
      obtain ⟨k, m, rfl, hk, rfl, HT⟩ := hrel
      by_cases hlt : k < zs.length
      · obtain ⟨a, rfl, c0, c1, c2⟩ := hA k hlt
        obtain ⟨b, rfl, d0, d1, d2⟩ := hB k (by have := HL.out; omega)
        have hlt2 : (k : Int) < (ys.length : Int) := by have := HL.out; omega
        have p0 : w.cell? (a.add (k * 3)) = some (.string (sName zs k)) := c0
        have q0 : w.cell? (b.add (k * 3)) = some (.string (sName ys k)) := d0
        have p1 : w.cell? (⟨(a.add (k * 3)).block, (a.add (k * 3)).off + 1, none⟩) = some (.int .i8 (sKind zs k)) := c1
        have q1 : w.cell? (⟨(b.add (k * 3)).block, (b.add (k * 3)).off + 1, none⟩) = some (.int .i8 (sKind ys k)) := d1
        have p2 : w.cell? (⟨(a.add (k * 3)).block, (a.add (k * 3)).off + 2, none⟩) = some (.int .i64 (sAt zs k)) := c2
        have q2 : w.cell? (⟨(b.add (k * 3)).block, (b.add (k * 3)).off + 2, none⟩) = some (.int .i64 (sAt ys k)) := d2
        clear c0 d0 c1 d1 c2 d2
        by_cases h0 : ¬ sName zs k = sName ys k
        · have HE : Hid (¬ sName zs k = sName ys k) := h0
          have e0 : ((sName zs k).toList == (sName ys k).toList) = false := by rw [ByteArray.toList_eq, ByteArray.toList_eq]; simpa using (fun h => h0 (ByteArray.ext (Array.ext' h)))
          clear h0
          go_wp2_with fail
          go_quiet (fail)
          go_wp2
          go_ret
          exact ⟨retB (decide_eq_false (fun h => HE.out (by rw [h]))).symm, below_drewN (below_drewN (Below.refl _ _) _) _⟩
        have H0 : Hid (sName zs k = sName ys k) := Classical.not_not.1 h0
        have e0 : ((sName zs k).toList == (sName ys k).toList) = true := by rw [H0.out]; simp
        clear h0
        by_cases h1 : ¬ sKind zs k = sKind ys k
        · have HE : Hid (¬ sKind zs k = sKind ys k) := h1
          have e1 : (sKind zs k == sKind ys k) = false := by simpa using h1
          clear h1
          go_wp2_with fail
          go_quiet (fail)
          go_wp2
          go_ret
          exact ⟨retB (decide_eq_false (fun h => HE.out (by rw [h]))).symm, below_drewN (below_drewN (Below.refl _ _) _) _⟩
        have H1 : Hid (sKind zs k = sKind ys k) := Classical.not_not.1 h1
        have e1 : (sKind zs k == sKind ys k) = true := by simpa using H1.out
        clear h1
        by_cases h2 : ¬ sAt zs k = sAt ys k
        · have HE : Hid (¬ sAt zs k = sAt ys k) := h2
          have e2 : (sAt zs k == sAt ys k) = false := by simpa using h2
          clear h2
          go_wp2_with fail
          go_quiet (fail)
          go_wp2
          go_ret
          exact ⟨retB (decide_eq_false (fun h => HE.out (by rw [h]))).symm, below_drewN (below_drewN (Below.refl _ _) _) _⟩
        have H2 : Hid (sAt zs k = sAt ys k) := Classical.not_not.1 h2
        have e2 : (sAt zs k == sAt ys k) = true := by simpa using H2.out
        clear h2
        go_wp2_with fail
        go_quiet (fail)
        go_wp2
        go_roundw
        case rel => exact ⟨k + 1, _, by go_num, by omega, rfl, take_same HT.out hlt (by omega) (sym_same H0.out H1.out H2.out)⟩
        case measure => simp [intOf]; omega
      · go_wp2
        go_ret
        exact ⟨retB (decide_eq_true (take_all HT.out (by omega) HL.out)).symm, below_drewN (Below.refl _ _) _⟩
  · have hl' : ((zs.length : Int) == (ys.length : Int)) = false := by simp; omega
    have HL : Hid (¬ zs.length = ys.length) := hl
    clear hl
    go_enter Tryz.func102, Tryz.ntmps102
    go_wp2
    go_ret
    exact ⟨retB (decide_eq_false (fun h => HL.out (by rw [h]))).symm, Below.refl _ _⟩
set_option maxRecDepth 100000 in
set_option maxHeartbeats 2000000 in
theorem eqobj_same (nm : ByteArray) (dA : Int) (A1 A2 A3 A4 : Option Addr) (c1 c2 c3 c4 : Nat) (code data : List Int) (ss : List Sym) (rs : List Rel) (w : World) (B1 B2 B3 B4 : Option Addr) (e1 e2 e3 e4 : Nat) (hC : IntsAt w A1 .u32 code) (hD : IntsAt w A2 .i64 data) (hS : SymsAt w A3 ss) (hL : RelsAt w A4 rs) (hc : code.length ≤ 1048576) (hd : data.length ≤ 1048576) (hs : ss.length ≤ 1048576) (hl : rs.length ≤ 1048576) (gC : IntsAt w B1 .u32 code) (gD : IntsAt w B2 .i64 data) (gS : SymsAt w B3 ss) (gL : RelsAt w B4 rs) :
    Calls Tryz.prog 46 #[.agg #[.string nm, .slice A1 code.length c1, .int .i64 dA, .slice A2 data.length c2, .slice A3 ss.length c3, .slice A4 rs.length c4], .agg #[.string nm, .slice B1 code.length e1, .int .i64 dA, .slice B2 data.length e2, .slice B3 ss.length e3, .slice B4 rs.length e4]] w fun e w' => e = .returned (.bool true) ∧ Below w.heap.size w w' := by
  have E0 := fun wx (hx : Below w.heap.size w wx) => eqwords_any A1 B1 c1 e1 code code wx (hC.keep hx) (gC.keep hx) hc
  simp only [decide_true] at E0
  have E1 := fun wx (hx : Below w.heap.size w wx) => eqlongs_any A2 B2 c2 e2 data data wx (hD.keep hx) (gD.keep hx) hd
  simp only [decide_true] at E1
  have E2 := fun wx (hx : Below w.heap.size w wx) => eqsym_any A3 B3 c3 e3 ss ss wx (hS.keep hx) (gS.keep hx) hs
  simp only [decide_true] at E2
  have E3 := fun wx (hx : Below w.heap.size w wx) => eqrel_any A4 B4 c4 e4 rs rs wx (hL.keep hx) (gL.keep hx) hl
  simp only [decide_true] at E3
  go_enter Tryz.func46, Tryz.ntmps46
  go_wp2_with fail
  refine (E0 _ (lb_alloc (lb_alloc (Below.refl _ _) _) _)).mono ?_
  rintro e w0 ⟨rfl, hb0⟩
  have HB0 : Hid (Below w.heap.size w w0) := lb_trans (lb_alloc (lb_alloc (Below.refl _ _) _) _) hb0
  have q0a0 : w0.cell? ⟨w.heap.size, 0, none⟩ = some (.string nm) := lkeep hb0 (by simp [go_sem])
  have q0a1 : w0.cell? ⟨w.heap.size, 1, none⟩ = some (.slice A1 code.length c1) := lkeep hb0 (by simp [go_sem])
  have q0a2 : w0.cell? ⟨w.heap.size, 2, none⟩ = some (.int .i64 dA) := lkeep hb0 (by simp [go_sem])
  have q0a3 : w0.cell? ⟨w.heap.size, 3, none⟩ = some (.slice A2 data.length c2) := lkeep hb0 (by simp [go_sem])
  have q0a4 : w0.cell? ⟨w.heap.size, 4, none⟩ = some (.slice A3 ss.length c3) := lkeep hb0 (by simp [go_sem])
  have q0a5 : w0.cell? ⟨w.heap.size, 5, none⟩ = some (.slice A4 rs.length c4) := lkeep hb0 (by simp [go_sem])
  have q0b0 : w0.cell? ⟨w.heap.size + 1, 0, none⟩ = some (.string nm) := lkeep hb0 (by simp [go_sem])
  have q0b1 : w0.cell? ⟨w.heap.size + 1, 1, none⟩ = some (.slice B1 code.length e1) := lkeep hb0 (by simp [go_sem])
  have q0b2 : w0.cell? ⟨w.heap.size + 1, 2, none⟩ = some (.int .i64 dA) := lkeep hb0 (by simp [go_sem])
  have q0b3 : w0.cell? ⟨w.heap.size + 1, 3, none⟩ = some (.slice B2 data.length e2) := lkeep hb0 (by simp [go_sem])
  have q0b4 : w0.cell? ⟨w.heap.size + 1, 4, none⟩ = some (.slice B3 ss.length e3) := lkeep hb0 (by simp [go_sem])
  have q0b5 : w0.cell? ⟨w.heap.size + 1, 5, none⟩ = some (.slice B4 rs.length e4) := lkeep hb0 (by simp [go_sem])
  clear hb0
  go_wp2_with fail
  refine (E1 _ (HB0.out)).mono ?_
  rintro e w1 ⟨rfl, hb1⟩
  have HB1 : Hid (Below w.heap.size w w1) := lb_trans (HB0.out) hb1
  have q1a0 := lkeep hb1 q0a0
  have q1a1 := lkeep hb1 q0a1
  have q1a2 := lkeep hb1 q0a2
  have q1a3 := lkeep hb1 q0a3
  have q1a4 := lkeep hb1 q0a4
  have q1a5 := lkeep hb1 q0a5
  have q1b0 := lkeep hb1 q0b0
  have q1b1 := lkeep hb1 q0b1
  have q1b2 := lkeep hb1 q0b2
  have q1b3 := lkeep hb1 q0b3
  have q1b4 := lkeep hb1 q0b4
  have q1b5 := lkeep hb1 q0b5
  clear hb1 q0a0 q0a1 q0a2 q0a3 q0a4 q0a5 q0b0 q0b1 q0b2 q0b3 q0b4 q0b5
  go_wp2_with fail
  refine (E2 _ (HB1.out)).mono ?_
  rintro e w2 ⟨rfl, hb2⟩
  have HB2 : Hid (Below w.heap.size w w2) := lb_trans (HB1.out) hb2
  have q2a0 := lkeep hb2 q1a0
  have q2a1 := lkeep hb2 q1a1
  have q2a2 := lkeep hb2 q1a2
  have q2a3 := lkeep hb2 q1a3
  have q2a4 := lkeep hb2 q1a4
  have q2a5 := lkeep hb2 q1a5
  have q2b0 := lkeep hb2 q1b0
  have q2b1 := lkeep hb2 q1b1
  have q2b2 := lkeep hb2 q1b2
  have q2b3 := lkeep hb2 q1b3
  have q2b4 := lkeep hb2 q1b4
  have q2b5 := lkeep hb2 q1b5
  clear hb2 q1a0 q1a1 q1a2 q1a3 q1a4 q1a5 q1b0 q1b1 q1b2 q1b3 q1b4 q1b5
  go_wp2_with fail
  refine (E3 _ (HB2.out)).mono ?_
  rintro e w3 ⟨rfl, hb3⟩
  have HB3 : Hid (Below w.heap.size w w3) := lb_trans (HB2.out) hb3
  have q3a0 := lkeep hb3 q2a0
  have q3a1 := lkeep hb3 q2a1
  have q3a2 := lkeep hb3 q2a2
  have q3a3 := lkeep hb3 q2a3
  have q3a4 := lkeep hb3 q2a4
  have q3a5 := lkeep hb3 q2a5
  have q3b0 := lkeep hb3 q2b0
  have q3b1 := lkeep hb3 q2b1
  have q3b2 := lkeep hb3 q2b2
  have q3b3 := lkeep hb3 q2b3
  have q3b4 := lkeep hb3 q2b4
  have q3b5 := lkeep hb3 q2b5
  clear hb3 q2a0 q2a1 q2a2 q2a3 q2a4 q2a5 q2b0 q2b1 q2b2 q2b3 q2b4 q2b5
  go_wp2
  go_ret
  exact ⟨rfl, HB3.out⟩






end Go.Proofs.YthpkekpojhmaaaaGreatDoor

namespace Go.Proofs.YthpkekpojhmaaaaGreatDoor
open Go.RowKit

def wideC1 (text : List Int) : Obj := .cells (wcur (wInt .u32 text) (fun _ => .int .u32 0) (text.length + 64) (text.length + 64)) 78
def wideC2 (mem : List Int) : Obj := .cells (wcur (wInt .i64 mem) (fun _ => .int .i64 0) (mem.length + 64) (mem.length + 64)) 2
theorem eqimg_same (A1 A2 B1 B2 : Option Addr) (c1 c2 e1 e2 : Nat) (text mem : List Int) (ent : Int) (w : World) (hT : IntsAt w A1 .u32 text) (hM : IntsAt w A2 .i64 mem) (gT : IntsAt w B1 .u32 text) (gM : IntsAt w B2 .i64 mem) (hl : text.length ≤ 1048576) (hm : mem.length ≤ 1048576) :
    Calls Tryz.prog 13 #[.agg #[.slice A1 text.length c1, .int .i64 ent, .slice A2 mem.length c2], .agg #[.slice B1 text.length e1, .int .i64 ent, .slice B2 mem.length e2]] w fun e w' => e = .returned (.bool true) ∧ Below w.heap.size w w' := by
  have E0 := fun wx (hx : Below w.heap.size w wx) => eqwords_any A1 B1 c1 e1 text text wx (hT.keep hx) (gT.keep hx) hl
  simp only [decide_true] at E0
  have E1 := fun wx (hx : Below w.heap.size w wx) => eqlongs_any A2 B2 c2 e2 mem mem wx (hM.keep hx) (gM.keep hx) hm
  simp only [decide_true] at E1
  go_enter Tryz.func13, Tryz.ntmps13
  go_wp2_with fail
  refine (E0 _ (lb_alloc (lb_alloc (Below.refl _ _) _) _)).mono ?_
  rintro e w0 ⟨rfl, hb0⟩
  have HB0 : Hid (Below w.heap.size w w0) := lb_trans (lb_alloc (lb_alloc (Below.refl _ _) _) _) hb0
  have q0a0 : w0.cell? ⟨w.heap.size, 0, none⟩ = some (.slice A1 text.length c1) := lkeep hb0 (by simp [go_sem])
  have q0a1 : w0.cell? ⟨w.heap.size, 1, none⟩ = some (.int .i64 ent) := lkeep hb0 (by simp [go_sem])
  have q0a2 : w0.cell? ⟨w.heap.size, 2, none⟩ = some (.slice A2 mem.length c2) := lkeep hb0 (by simp [go_sem])
  have q0b0 : w0.cell? ⟨w.heap.size + 1, 0, none⟩ = some (.slice B1 text.length e1) := lkeep hb0 (by simp [go_sem])
  have q0b1 : w0.cell? ⟨w.heap.size + 1, 1, none⟩ = some (.int .i64 ent) := lkeep hb0 (by simp [go_sem])
  have q0b2 : w0.cell? ⟨w.heap.size + 1, 2, none⟩ = some (.slice B2 mem.length e2) := lkeep hb0 (by simp [go_sem])
  clear hb0
  go_wp2_with fail
  refine (E1 _ (HB0.out)).mono ?_
  rintro e w1 ⟨rfl, hb1⟩
  have HB1 : Hid (Below w.heap.size w w1) := lb_trans (HB0.out) hb1
  clear hb1
  go_wp2
  go_ret
  exact ⟨rfl, HB1.out⟩
/-- What heavy answers. -/
def HvP (n1 n2 : Nat) (w : World) (e : Ending) (w' : World) : Prop := ∃ B : Bool, e = .returned (.bool B) ∧ (B = false → n1 ≤ 32768 ∧ n2 ≤ 8192) ∧ Below w.heap.size w w'


end Go.Proofs.YthpkekpojhmaaaaGreatDoor

namespace Go.Proofs.YthpkekpojhmaaaaGreatDoor
open Go.RowKit

theorem leaves_any (v : Int) (h0 : 0 ≤ v) (h1 : v < 4294967296) (w : World) : Calls Tryz.prog 67 #[.int .u32 v] w fun e w' => e = .returned (.bool (lastOK v)) ∧ Below w.heap.size w w' := by
  have C := isadecode_any v h0 h1 w
  unfold lastOK
  generalize dOp v = x at *
  generalize dD v = x1 at *
  generalize dA v = x2 at *
  generalize dB v = x3 at *
  generalize dN v = x4 at *
  go_enter Tryz.func67, Tryz.ntmps67
  go_wp2_with fail
  refine C.mono ?_
  rintro e w1 ⟨rfl, hb⟩
  clear C
  go_wp2
  all_goals (
    go_ret
    refine ⟨retB ?_, hb⟩
    simp_all)
theorem lb_box0 {w w1 : World} {B : Nat} {cs : Array Value} {t : TypeId} (h : w.heap[B]? = some (.cells cs t (0, 0))) (hb : Below w.heap.size w w1) : w1.heap[B]? = some (.cells cs t (0, 0)) := by
  rw [hb.block B (Array.getElem?_eq_some_iff.1 h).1]; exact h
def ChkP (E N : Int) (w : World) (e : Ending) (w' : World) : Prop := e = .returned (.tuple #[.int .i64 E, .int .i64 N]) ∧ Below w.heap.size w w'
set_option maxRecDepth 100000 in
set_option maxHeartbeats 1000000 in
theorem icheck_any (A1 A2 : Option Addr) (c1 ml c2 : Nat) (ent : Int) (text : List Int) (w : World) (hT : IntsAt w A1 .u32 text) (hR : ∀ i, i < text.length → 0 ≤ nth text i ∧ nth text i < 4294967296) (hl : text.length ≤ 1048576) (hm : ml ≤ 1048576) :
    Calls Tryz.prog 20 #[.agg #[.slice A1 text.length c1, .int .i64 ent, .slice A2 ml c2]] w (ChkP (checkI text ml ent).1 (checkI text ml ent).2 w) := by
  by_cases h0 : text.length = 0
  · rw [chkI0 h0, h0]
    go_enter Tryz.func20, Tryz.ntmps20
    go_wp2
    go_ret2
    exact ⟨rfl, lb_alloc (Below.refl _ _) _⟩
  have n0 : ((text.length : Int) == 0) = false := by simpa using h0
  by_cases h1 : 16384 < text.length
  · rw [chkI1 h0 h1]
    go_enter Tryz.func20, Tryz.ntmps20
    go_wp2
    go_ret2
    exact ⟨rfl, lb_alloc (Below.refl _ _) _⟩
  by_cases h2 : 4096 < ml
  · rw [chkI2 h0 h1 h2]
    go_enter Tryz.func20, Tryz.ntmps20
    go_wp2
    go_ret2
    exact ⟨rfl, lb_alloc (Below.refl _ _) _⟩
  by_cases h3 : ent < 0
  · rw [chkI3 h0 h1 h2 (.inl h3)]
    go_enter Tryz.func20, Tryz.ntmps20
    go_wp2
    go_ret2
    exact ⟨rfl, lb_alloc (Below.refl _ _) _⟩
  by_cases h4 : (text.length : Int) ≤ ent
  · rw [chkI3 h0 h1 h2 (.inr h4)]
    go_enter Tryz.func20, Tryz.ntmps20
    go_wp2
    go_ret2
    exact ⟨rfl, lb_alloc (Below.refl _ _) _⟩
  have HP : Hid (Past text ml ent) := ⟨by omega, by omega, by omega, by omega, by omega⟩
  have HB0 : Hid (Below w.heap.size w (w.alloc (.cells #[.slice A1 text.length c1, .int .i64 ent, .slice A2 ml c2] 29))) := lb_alloc (Below.refl _ _) _
  have HX : Hid ((w.alloc (.cells #[.slice A1 text.length c1, .int .i64 ent, .slice A2 ml c2] 29)).heap[w.heap.size]? = some (.cells #[.slice A1 text.length c1, .int .i64 ent, .slice A2 ml c2] 29 (0, 0))) := heap_alloc_new _ _
  have HS : Hid (∀ i, i < text.length → ∃ a : Addr, A1 = some a) := fun i hi => (hT i hi).imp fun a h => h.1
  clear h1 h2 h3 h4
  have hlen : text.length ≤ 16384 := HP.out.len
  have hml := HP.out.mem
  have hpos := HP.out.pos
  have he0 := HP.out.ent0
  have he1 := HP.out.ent1
  go_enter Tryz.func20, Tryz.ntmps20
  go_wp2
  go_loopw [37] (fun i wr => ∃ k : Nat, i = .int .i64 k ∧ k ≤ text.length ∧ Hid (∀ j, j < k → farT text j = false) ∧ Hid (Below (w.alloc (.cells #[.slice A1 text.length c1, .int .i64 ent, .slice A2 ml c2] 29)).heap.size (w.alloc (.cells #[.slice A1 text.length c1, .int .i64 ent, .slice A2 ml c2] 29)) wr)) (fun i _ => text.length - (intOf i).toNat)
  case atStart => exact ⟨0, rfl, by omega, fun j hj => by omega, Below.refl _ _⟩
  case round =>
    obtain ⟨k, rfl, hk, hj, hb⟩ := hrel
    have HBr : Hid (Below w.heap.size w wr) := lb_trans HB0.out hb.out
    by_cases hlt : k < text.length
    · obtain ⟨a, rfl, q⟩ := (hT.keep HBr.out) k hlt
      obtain ⟨hv0, hv1⟩ := hR k hlt
      have C := isatarget_any (nth text k) hv0 hv1 wr
      have HF : Hid (farT text k = (isT (nth text k) && decide ((text.length : Int) ≤ tgV (nth text k)))) := rfl
      generalize nth text k = v at *
      generalize isT v = t at *
      generalize tgV v = z at *
      cases t with
      | false =>
        go_wp2_with (go_at_call 25; refine C.mono ?_; rintro e w1 ⟨rfl, hb1⟩)
        go_roundw
        case rel => exact ⟨k + 1, by go_num, by omega, fun j hj1 => by
          by_cases hjk : j = k
          · subst hjk; rw [HF.out]; rfl
          · exact hj.out j (by omega), lb_trans hb.out hb1⟩
        case measure => simp [intOf]; omega
      | true =>
        by_cases hz : (text.length : Int) ≤ z
        · go_wp2_with (go_at_call 25; refine C.mono ?_; rintro e w1 ⟨rfl, hb1⟩)
          go_ret2
          have e := chkI_far HP.out hlt hj.out (by rw [HF.out]; simpa using hz)
          rw [e]
          exact ⟨rfl, lb_trans HBr.out hb1⟩
        · go_wp2_with (go_at_call 25; refine C.mono ?_; rintro e w1 ⟨rfl, hb1⟩)
          go_roundw
          case rel => exact ⟨k + 1, by go_num, by omega, fun j hj1 => by
            by_cases hjk : j = k
            · subst hjk; rw [HF.out]; simpa using hz
            · exact hj.out j (by omega), lb_trans hb.out hb1⟩
          case measure => simp [intOf]; omega
    · obtain rfl : k = text.length := by omega
      obtain ⟨a, rfl, q⟩ := (hT.keep HBr.out) (text.length - 1) (by omega)
      have hx := lb_box0 HX.out hb.out
      have x0 : wr.cell? ⟨w.heap.size, 0, none⟩ = some (.slice (some a) text.length c1) := by simp [World.cell?, hx]
      obtain ⟨hv0, hv1⟩ := hR (text.length - 1) (by omega)
      have C := leaves_any (nth text (text.length - 1)) hv0 hv1 wr
      have HE : Hid _ := chkI_end HP.out hj.out
      have hc : ((text.length - 1 : Nat) : Int) = (text.length : Int) - 1 := by omega
      generalize nth text (text.length - 1) = v at *
      generalize lastOK v = t at *
      cases t with
      | true =>
        go_wp2_with (go_at_call 67; refine C.mono ?_; rintro e w1 ⟨rfl, hb1⟩)
        go_ret2
        rw [HE.out]
        exact ⟨rfl, lb_trans HBr.out hb1⟩
      | false =>
        go_wp2_with (go_at_call 67; refine C.mono ?_; rintro e w1 ⟨rfl, hb1⟩)
        go_ret2
        rw [HE.out]
        exact ⟨by simp; omega, lb_trans HBr.out hb1⟩


end Go.Proofs.YthpkekpojhmaaaaGreatDoor

namespace Go.Proofs.YthpkekpojhmaaaaGreatDoor
open Go.RowKit

theorem bytes_areB (nm : ByteArray) (code : List Int) (dA : Int) (data : List Int) (ss : List Sym) (rs : List Rel) : AreB (bytesB nm code dA data ss rs) := (body_areB nm code dA data ss rs).app (be4_areB _)
theorem bytes_len (nm : ByteArray) (code : List Int) (dA : Int) (data : List Int) (ss : List Sym) (rs : List Rel) : (bytesB nm code dA data ss rs).length = 32 + nm.size + code.length * 4 + data.length * 8 + (ss.flatMap symB).length + rs.length * 8 := by
  unfold bytesB
  rw [List.length_append, be4_len, (part_lens nm code dA data ss rs).2.2.2.2.2]
  omega
theorem may_len {nm : ByteArray} {code : List Int} {dA : Int} {data : List Int} {ss : List Sym} {rs : List Rel} (h : (checkC nm code dA data.length ss rs).1 = 0) : (bytesB nm code dA data ss rs).length ≤ 300000 := by
  have hf := may_fit (check_may h)
  have h5 := syms_size ss (syms_mem fun i hi => (hf.sym i hi).1)
  rw [bytes_len]
  have := hf.hnm; have := hf.hcode; have := hf.hdata; have := hf.hsyms; have := hf.hrels
  omega
/-- What an object that may be is read as. -/
theorem read_back {nm : ByteArray} {code : List Int} {dA : Int} {data : List Int} {ss : List Sym} {rs : List Rel} (h : (checkC nm code dA data.length ss rs).1 = 0) (hR : ∀ i, i < code.length → 0 ≤ nth code i ∧ nth code i < 4294967296) (hD : ∀ i, i < data.length → -9223372036854775808 ≤ nth data i ∧ nth data i < 9223372036854775808) :
    (took (bytesB nm code dA data ss rs)).nm = nm ∧ (took (bytesB nm code dA data ss rs)).code = code ∧ (took (bytesB nm code dA data ss rs)).dA = dA ∧ (took (bytesB nm code dA data ss rs)).data = data ∧ (took (bytesB nm code dA data ss rs)).ss = ss ∧ (took (bytesB nm code dA data ss rs)).rs = rs ∧ (took (bytesB nm code dA data ss rs)).t.bad = 0 := by
  have hf := may_fit (check_may h)
  have mem : ∀ {l : List Int} {P : Int → Prop}, (∀ i, i < l.length → P (nth l i)) → ∀ x ∈ l, P x := fun {l P} hp x hx => by
    obtain ⟨i, hi, e⟩ := List.getElem_of_mem hx
    have := hp i hi
    simpa [nth, List.getD, hi, e] using this
  refine took_read hf.hnm hf.hcode (mem hR) ⟨hf.hdA.1, by have := hf.hdA.2; unfold great; omega⟩ hf.hdata (mem hD) hf.hsyms (fun x hx => ?_) hf.hrels (fun x hx => ?_)
  · obtain ⟨i, hi, e⟩ := List.getElem_of_mem hx
    have := hf.sym i hi
    have e2 : ss.getD i symD = x := by simp [List.getD, hi, e]
    unfold sName sKind sAt at this
    rw [e2] at this
    unfold SymFit great
    omega
  · obtain ⟨i, hi, e⟩ := List.getElem_of_mem hx
    have := hf.rel i hi
    have e2 : rs.getD i (0, 0) = x := by simp [List.getD, hi, e]
    unfold rAt rSym at this
    rw [e2] at this
    unfold RelFit great
    omega
theorem wrote_ok {nm : ByteArray} {code : List Int} {dA : Int} {data : List Int} {ss : List Sym} {rs : List Rel} {w w' : World} {r : Ending} (h : WroteP nm code dA data ss rs w r w') (hk : (checkC nm code dA data.length ss rs).1 = 0) :
    ∃ A c, r = .returned (.tuple #[.slice A (bytesB nm code dA data ss rs).length c, .int .i64 0]) ∧ w'.ownsRow w.heap.size 5 1 (.slice A (bytesB nm code dA data ss rs).length c) (bytesB nm code dA data ss rs).length (bNews (bytesB nm code dA data ss rs)) ∧ IntsAt w' A .u8 (bytesB nm code dA data ss rs) ∧ (bytesB nm code dA data ss rs).length ≤ c ∧ Below w.heap.size w w' := by
  unfold WroteP at h
  rw [if_pos hk] at h
  obtain ⟨v, h1, h2, h3⟩ := h
  obtain ⟨A, c, rfl, h4, h5⟩ := own_ints h2
  exact ⟨A, c, h1, h2, h4, h5, h3⟩
/-- What is written is read as it. -/
theorem read_ok {nm : ByteArray} {code : List Int} {dA : Int} {data : List Int} {ss : List Sym} {rs : List Rel} {w w' : World} {r : Ending} (h : ReadP (bytesB nm code dA data ss rs) w r w') (hk : (checkC nm code dA data.length ss rs).1 = 0) (hR : ∀ i, i < code.length → 0 ≤ nth code i ∧ nth code i < 4294967296) (hD : ∀ i, i < data.length → -9223372036854775808 ≤ nth data i ∧ nth data i < 9223372036854775808) :
    ∃ (A1 A2 A3 A4 : Option Addr) (c1 c2 c3 c4 : Nat), r = .returned (.tuple #[.agg #[.string nm, .slice A1 code.length c1, .int .i64 dA, .slice A2 data.length c2, .slice A3 ss.length c3, .slice A4 rs.length c4], .int .i64 0, .int .i64 0]) ∧ RowsO w' w.heap.size A1 A2 A3 A4 c1 c2 c3 c4 code data ss rs ∧ Below w.heap.size w w' := by
  obtain ⟨e1, e2, e3, e4, e5, e6, e7⟩ := read_back hk hR hD
  obtain ⟨hb, h⟩ := h
  rw [e1, e2, e3, e4, e5, e6] at h
  rcases h with ⟨h0, _⟩ | ⟨_, h0, _⟩ | ⟨_, _, A1, A2, A3, A4, c1, c2, c3, c4, h1, h2⟩
  · exact absurd e7 h0
  · exact absurd hk h0
  · exact ⟨A1, A2, A3, A4, c1, c2, c3, c4, h1, h2, hb⟩


end Go.Proofs.YthpkekpojhmaaaaGreatDoor
