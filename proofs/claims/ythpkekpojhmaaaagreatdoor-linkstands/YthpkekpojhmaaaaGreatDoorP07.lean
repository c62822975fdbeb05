/-
  Two lists of numbers compared, by the document's helpers: true just if they are one list; the first is at most 2^20 long. Two lists of symbols, of relocations compared, by the document's helpers: true just if they are one list; the first is at most 2^20 long. An object compared with one that is the same, by the document's helper: true; the lists are at most 2^20 long. WideImage, SpareImage, EqImage and heavy of the statements, each by what it returns; the lists have at most 2^20 items. leaves and Check of package image, by what they return; each word is of 32 bits. What is written and read again. An object that came in, opened: its name, its lists, where they lie; no condition. The weight of a list of objects. What a list of objects that is handed in is. The layout's iterator, and what a range over it is. Rows of a bag, as a walk wants them; no Go in sight. A bag in memory; one more list in it. Worlds that part in some blocks alone. The program's bases. The program's Bases. The program's memory. Aim of the program. Words that are patched.
-/
import Derived.Test.YthpkekpojhmaaaaGreatDoorProg
import Derived.WalkKit
import Derived.WalkSpells
import Derived.WalkLawsBesides
import Derived.RowKit3
import Derived.Below
import Derived.Deep.QuietTactic
import Derived.BigQuiet
import Derived.WalkSmall
import Derived.Test.YthpkekpojhmaaaaGreatDoorP01
import Derived.Laws.Rows
import Derived.Test.YthpkekpojhmaaaaGreatDoorP06
import Derived.Test.YthpkekpojhmaaaaGreatDoorP05
import Derived.Test.YthpkekpojhmaaaaGreatDoorP04
import Derived.ProofKit
import Derived.OpenShut
import Derived.Stop.Joined
import Derived.Carry
import Derived.Lib.SmallJoins
import Derived.Deep.SlicePairs
import Derived.Deep.Strs
import Derived.SizedLaws
import Derived.RangeFuncNested
import Derived.RangeFuncBound
import Derived.RangeFuncCalls
import Derived.RangeFuncLeaves
import Derived.Shelf.Abstract
import Derived.Shelf.RegionOpen
import Derived.OwnWalkIn
import Derived.TacticsInMore
import Derived.LoopNIn
import Derived.LoopIn
import Derived.Deep.AppendLies
import Derived.Laws.OwnMore
import Derived.Maps.AppendAt
import Derived.Test.YthpkekpojhmaaaaGreatDoorP02
import Derived.Deep.DeepCutAuto
import Derived.Deep.RegionHeld3
import Derived.Test.YthpkekpojhmaaaaGreatDoorP03
namespace Go.Proofs.YthpkekpojhmaaaaGreatDoor
open Go.RowKit

set_option maxRecDepth 100000 in
set_option maxHeartbeats 1000000 in
theorem eqwords_any (A B : Option Addr) (ca cb : Nat) (zs ys : List Int) (w : World) (hA : IntsAt w A .u32 zs) (hB : IntsAt w B .u32 ys) (hz : zs.length ≤ 1048576) :
    Calls Tryz.prog 33 #[.slice A zs.length ca, .slice B ys.length cb] w fun e w' => e = .returned (.bool (decide (zs = ys))) ∧ Below w.heap.size w w' := by
  by_cases hl : zs.length = ys.length
  · have hl' : ((zs.length : Int) == (ys.length : Int)) = true := by rw [hl]; simp
    have HL : Hid (zs.length = ys.length) := hl
    clear hl
    go_enter Tryz.func33, Tryz.ntmps33
    go_wp2
    go_loopw [5] (fun i wr => ∃ (k m : Nat), i = .int .i64 k ∧ k ≤ zs.length ∧ wr = w.drewN m ∧ Hid (zs.take k = ys.take k)) (fun i _ => zs.length - (intOf i).toNat)
    case atStart => exact ⟨0, 0, rfl, by omega, rfl, by simp [Hid]⟩
    case round =>
      obtain ⟨k, m, rfl, hk, rfl, HT⟩ := hrel
      by_cases hlt : k < zs.length
      · obtain ⟨a, rfl, c1⟩ := hA k hlt
        obtain ⟨b, rfl, c2⟩ := hB k (by have := HL.out; omega)
        have hlt2 : (k : Int) < (ys.length : Int) := by have := HL.out; omega
        by_cases he : nth zs k = nth ys k
        · have HE : Hid (nth zs k = nth ys k) := he
          have he' : (nth zs k == nth ys k) = true := by simpa using he
          clear he
          go_wp2_with fail
          go_quiet (fail)
          go_wp2
          go_roundw
          case rel => exact ⟨k + 1, _, by go_num, by omega, rfl, take_same HT.out hlt (by omega) HE.out⟩
          case measure => simp [intOf]; omega
        · have HE : Hid (¬ nth zs k = nth ys k) := he
          have he' : (nth zs k == nth ys k) = false := by simpa using he
          clear he
          go_wp2_with fail
          go_quiet (fail)
          go_wp2
          go_ret
          exact ⟨retB (decide_eq_false (nth_ne HE.out)).symm, below_drewN (below_drewN (Below.refl _ _) _) _⟩
      · go_wp2
        go_ret
        exact ⟨retB (decide_eq_true (take_all HT.out (by omega) HL.out)).symm, below_drewN (Below.refl _ _) _⟩
  · have hl' : ((zs.length : Int) == (ys.length : Int)) = false := by simp; omega
    have HL : Hid (¬ zs.length = ys.length) := hl
    clear hl
    go_enter Tryz.func33, Tryz.ntmps33
    go_wp2
    go_ret
    exact ⟨retB (decide_eq_false (fun h => HL.out (by rw [h]))).symm, Below.refl _ _⟩

set_option maxRecDepth 100000 in
set_option maxHeartbeats 1000000 in
theorem eqlongs_any (A B : Option Addr) (ca cb : Nat) (zs ys : List Int) (w : World) (hA : IntsAt w A .i64 zs) (hB : IntsAt w B .i64 ys) (hz : zs.length ≤ 1048576) :
    Calls Tryz.prog 34 #[.slice A zs.length ca, .slice B ys.length cb] w fun e w' => e = .returned (.bool (decide (zs = ys))) ∧ Below w.heap.size w w' := by
  by_cases hl : zs.length = ys.length
  · have hl' : ((zs.length : Int) == (ys.length : Int)) = true := by rw [hl]; simp
    have HL : Hid (zs.length = ys.length) := hl
    clear hl
    go_enter Tryz.func34, Tryz.ntmps34
    go_wp2
    go_loopw [5] (fun i wr => ∃ (k m : Nat), i = .int .i64 k ∧ k ≤ zs.length ∧ wr = w.drewN m ∧ Hid (zs.take k = ys.take k)) (fun i _ => zs.length - (intOf i).toNat)
    case atStart => exact ⟨0, 0, rfl, by omega, rfl, by simp [Hid]⟩
    case round =>
      obtain ⟨k, m, rfl, hk, rfl, HT⟩ := hrel
      by_cases hlt : k < zs.length
      · obtain ⟨a, rfl, c1⟩ := hA k hlt
        obtain ⟨b, rfl, c2⟩ := hB k (by have := HL.out; omega)
        have hlt2 : (k : Int) < (ys.length : Int) := by have := HL.out; omega
        by_cases he : nth zs k = nth ys k
        · have HE : Hid (nth zs k = nth ys k) := he
          have he' : (nth zs k == nth ys k) = true := by simpa using he
          clear he
          go_wp2_with fail
          go_quiet (fail)
          go_wp2
          go_roundw
          case rel => exact ⟨k + 1, _, by go_num, by omega, rfl, take_same HT.out hlt (by omega) HE.out⟩
          case measure => simp [intOf]; omega
        · have HE : Hid (¬ nth zs k = nth ys k) := he
          have he' : (nth zs k == nth ys k) = false := by simpa using he
          clear he
          go_wp2_with fail
          go_quiet (fail)
          go_wp2
          go_ret
          exact ⟨retB (decide_eq_false (nth_ne HE.out)).symm, below_drewN (below_drewN (Below.refl _ _) _) _⟩
      · go_wp2
        go_ret
        exact ⟨retB (decide_eq_true (take_all HT.out (by omega) HL.out)).symm, below_drewN (Below.refl _ _) _⟩
  · have hl' : ((zs.length : Int) == (ys.length : Int)) = false := by simp; omega
    have HL : Hid (¬ zs.length = ys.length) := hl
    clear hl
    go_enter Tryz.func34, Tryz.ntmps34
    go_wp2
    go_ret
    exact ⟨retB (decide_eq_false (fun h => HL.out (by rw [h]))).symm, Below.refl _ _⟩
set_option maxRecDepth 100000 in
set_option maxHeartbeats 1000000 in
theorem eqrel_any (A B : Option Addr) (ca cb : Nat) (zs ys : List Rel) (w : World) (hA : RelsAt w A zs) (hB : RelsAt w B ys) (hz : zs.length ≤ 1048576) :
    Calls Tryz.prog 103 #[.slice A zs.length ca, .slice B ys.length cb] w fun e w' => e = .returned (.bool (decide (zs = ys))) ∧ Below w.heap.size w w' := by
  by_cases hl : zs.length = ys.length
  · have hl' : ((zs.length : Int) == (ys.length : Int)) = true := by rw [hl]; simp
    have HL : Hid (zs.length = ys.length) := hl
    clear hl
    go_enter Tryz.func103, Tryz.ntmps103
    go_wp2
    go_loopw [5] (fun i wr => ∃ (k m : Nat), i = .int .i64 k ∧ k ≤ zs.length ∧ wr = w.drewN m ∧ Hid (zs.take k = ys.take k)) (fun i _ => zs.length - (intOf i).toNat)
    case atStart => exact ⟨0, 0, rfl, by omega, rfl, by simp [Hid]⟩
    case round =>
      obtain ⟨k, m, rfl, hk, rfl, HT⟩ := hrel
      by_cases hlt : k < zs.length
      · obtain ⟨a, rfl, c0, c1⟩ := hA k hlt
        obtain ⟨b, rfl, d0, d1⟩ := hB k (by have := HL.out; omega)
        have hlt2 : (k : Int) < (ys.length : Int) := by have := HL.out; omega
        have p0 : w.cell? (a.add (k * 2)) = some (.int .i64 (rAt zs k)) := c0
        have q0 : w.cell? (b.add (k * 2)) = some (.int .i64 (rAt ys k)) := d0
        have p1 : w.cell? (⟨(a.add (k * 2)).block, (a.add (k * 2)).off + 1, none⟩) = some (.int .i64 (rSym zs k)) := c1
        have q1 : w.cell? (⟨(b.add (k * 2)).block, (b.add (k * 2)).off + 1, none⟩) = some (.int .i64 (rSym ys k)) := d1
        clear c0 d0 c1 d1
        by_cases h0 : ¬ rAt zs k = rAt ys k
        · have HE : Hid (¬ rAt zs k = rAt ys k) := h0
          have e0 : (rAt zs k == rAt ys k) = false := by simpa using h0
          clear h0
          go_wp2_with fail
          go_quiet (fail)
          go_wp2
          go_ret
          exact ⟨retB (decide_eq_false (fun h => HE.out (by rw [h]))).symm, below_drewN (below_drewN (Below.refl _ _) _) _⟩
        have H0 : Hid (rAt zs k = rAt ys k) := Classical.not_not.1 h0
        have e0 : (rAt zs k == rAt ys k) = true := by simpa using H0.out
        clear h0
        by_cases h1 : ¬ rSym zs k = rSym ys k
        · have HE : Hid (¬ rSym zs k = rSym ys k) := h1
          have e1 : (rSym zs k == rSym ys k) = false := by simpa using h1
          clear h1
          go_wp2_with fail
          go_quiet (fail)
          go_wp2
          go_ret
          exact ⟨retB (decide_eq_false (fun h => HE.out (by rw [h]))).symm, below_drewN (below_drewN (Below.refl _ _) _) _⟩
        have H1 : Hid (rSym zs k = rSym ys k) := Classical.not_not.1 h1
        have e1 : (rSym zs k == rSym ys k) = true := by simpa using H1.out
        clear h1
        go_wp2_with fail
        go_quiet (fail)
        go_wp2
        go_roundw
        case rel => exact ⟨k + 1, _, by go_num, by omega, rfl, take_same HT.out hlt (by omega) (rel_same H0.out H1.out)⟩
        case measure => simp [intOf]; omega
      · go_wp2
        go_ret
        exact ⟨retB (decide_eq_true (take_all HT.out (by omega) HL.out)).symm, below_drewN (Below.refl _ _) _⟩
  · have hl' : ((zs.length : Int) == (ys.length : Int)) = false := by simp; omega
    have HL : Hid (¬ zs.length = ys.length) := hl
    clear hl
    go_enter Tryz.func103, Tryz.ntmps103
    go_wp2
    go_ret
    exact ⟨retB (decide_eq_false (fun h => HL.out (by rw [h]))).symm, Below.refl _ _⟩

set_option maxRecDepth 100000 in
set_option maxHeartbeats 1000000 in
theorem eqsym_any (A B : Option Addr) (ca cb : Nat) (zs ys : List Sym) (w : World) (hA : SymsAt w A zs) (hB : SymsAt w B ys) (hz : zs.length ≤ 1048576) :
    Calls Tryz.prog 102 #[.slice A zs.length ca, .slice B ys.length cb] w fun e w' => e = .returned (.bool (decide (zs = ys))) ∧ Below w.heap.size w w' := by
  by_cases hl : zs.length = ys.length
  · have hl' : ((zs.length : Int) == (ys.length : Int)) = true := by rw [hl]; simp
    have HL : Hid (zs.length = ys.length) := hl
    clear hl
    go_enter Tryz.func102, Tryz.ntmps102
    go_wp2
    go_loopw [5] (fun i wr => ∃ (k m : Nat), i = .int .i64 k ∧ k ≤ zs.length ∧ wr = w.drewN m ∧ Hid (zs.take k = ys.take k)) (fun i _ => zs.length - (intOf i).toNat)
    case atStart => exact ⟨0, 0, rfl, by omega, rfl, by simp [Hid]⟩
    case round =>
      obtain ⟨k, m, rfl, hk, rfl, HT⟩ := hrel
      by_cases hlt : k < zs.length
      · obtain ⟨a, rfl, c0, c1, c2⟩ := hA k hlt
        obtain ⟨b, rfl, d0, d1, d2⟩ := hB k (by have := HL.out; omega)
        have hlt2 : (k : Int) < (ys.length : Int) := by have := HL.out; omega
        have p0 : w.cell? (a.add (k * 3)) = some (.string (sName zs k)) := c0
        have q0 : w.cell? (b.add (k * 3)) = some (.string (sName ys k)) := d0
        have p1 : w.cell? (⟨(a.add (k * 3)).block, (a.add (k * 3)).off + 1, none⟩) = some (.int .i8 (sKind zs k)) := c1
        have q1 : w.cell? (⟨(b.add (k * 3)).block, (b.add (k * 3)).off + 1, none⟩) = some (.int .i8 (sKind ys k)) := d1
        have p2 : w.cell? (⟨(a.add (k * 3)).block, (a.add (k * 3)).off + 2, none⟩) = some (.int .i64 (sAt zs k)) := c2
        have q2 : w.cell? (⟨(b.add (k * 3)).block, (b.add (k * 3)).off + 2, none⟩) = some (.int .i64 (sAt ys k)) := d2
        clear c0 d0 c1 d1 c2 d2
        by_cases h0 : ¬ sName zs k = sName ys k
        · have HE : Hid (¬ sName zs k = sName ys k) := h0
          have e0 : ((sName zs k).toList == (sName ys k).toList) = false := by rw [ByteArray.toList_eq, ByteArray.toList_eq]; simpa using (fun h => h0 (ByteArray.ext (Array.ext' h)))
          clear h0
          go_wp2_with fail
          go_quiet (fail)
          go_wp2
          go_ret
          exact ⟨retB (decide_eq_false (fun h => HE.out (by rw [h]))).symm, below_drewN (below_drewN (Below.refl _ _) _) _⟩
        have H0 : Hid (sName zs k = sName ys k) := Classical.not_not.1 h0
        have e0 : ((sName zs k).toList == (sName ys k).toList) = true := by rw [H0.out]; simp
        clear h0
        by_cases h1 : ¬ sKind zs k = sKind ys k
        · have HE : Hid (¬ sKind zs k = sKind ys k) := h1
          have e1 : (sKind zs k == sKind ys k) = false := by simpa using h1
          clear h1
          go_wp2_with fail
          go_quiet (fail)
          go_wp2
          go_ret
          exact ⟨retB (decide_eq_false (fun h => HE.out (by rw [h]))).symm, below_drewN (below_drewN (Below.refl _ _) _) _⟩
        have H1 : Hid (sKind zs k = sKind ys k) := Classical.not_not.1 h1
        have e1 : (sKind zs k == sKind ys k) = true := by simpa using H1.out
        clear h1
        by_cases h2 : ¬ sAt zs k = sAt ys k
        · have HE : Hid (¬ sAt zs k = sAt ys k) := h2
          have e2 : (sAt zs k == sAt ys k) = false := by simpa using h2
          clear h2
          go_wp2_with fail
          go_quiet (fail)
          go_wp2
          go_ret
          exact ⟨retB (decide_eq_false (fun h => HE.out (by rw [h]))).symm, below_drewN (below_drewN (Below.refl _ _) _) _⟩
        have H2 : Hid (sAt zs k = sAt ys k) := Classical.not_not.1 h2
        have e2 : (sAt zs k == sAt ys k) = true := by simpa using H2.out
        clear h2
        go_wp2_with fail
        go_quiet (fail)
        go_wp2
        go_roundw
        case rel => exact ⟨k + 1, _, by go_num, by omega, rfl, take_same HT.out hlt (by omega) (sym_same H0.out H1.out H2.out)⟩
        case measure => simp [intOf]; omega
      · go_wp2
        go_ret
        exact ⟨retB (decide_eq_true (take_all HT.out (by omega) HL.out)).symm, below_drewN (Below.refl _ _) _⟩
  · have hl' : ((zs.length : Int) == (ys.length : Int)) = false := by simp; omega
    have HL : Hid (¬ zs.length = ys.length) := hl
    clear hl
    go_enter Tryz.func102, Tryz.ntmps102
    go_wp2
    go_ret
    exact ⟨retB (decide_eq_false (fun h => HL.out (by rw [h]))).symm, Below.refl _ _⟩
set_option maxRecDepth 100000 in
set_option maxHeartbeats 2000000 in
theorem eqobj_same (nm : ByteArray) (dA : Int) (A1 A2 A3 A4 : Option Addr) (c1 c2 c3 c4 : Nat) (code data : List Int) (ss : List Sym) (rs : List Rel) (w : World) (B1 B2 B3 B4 : Option Addr) (e1 e2 e3 e4 : Nat) (hC : IntsAt w A1 .u32 code) (hD : IntsAt w A2 .i64 data) (hS : SymsAt w A3 ss) (hL : RelsAt w A4 rs) (hc : code.length ≤ 1048576) (hd : data.length ≤ 1048576) (hs : ss.length ≤ 1048576) (hl : rs.length ≤ 1048576) (gC : IntsAt w B1 .u32 code) (gD : IntsAt w B2 .i64 data) (gS : SymsAt w B3 ss) (gL : RelsAt w B4 rs) :
    Calls Tryz.prog 46 #[.agg #[.string nm, .slice A1 code.length c1, .int .i64 dA, .slice A2 data.length c2, .slice A3 ss.length c3, .slice A4 rs.length c4], .agg #[.string nm, .slice B1 code.length e1, .int .i64 dA, .slice B2 data.length e2, .slice B3 ss.length e3, .slice B4 rs.length e4]] w fun e w' => e = .returned (.bool true) ∧ Below w.heap.size w w' := by
  have E0 := fun wx (hx : Below w.heap.size w wx) => eqwords_any A1 B1 c1 e1 code code wx (hC.keep hx) (gC.keep hx) hc
  simp only [decide_true] at E0
  have E1 := fun wx (hx : Below w.heap.size w wx) => eqlongs_any A2 B2 c2 e2 data data wx (hD.keep hx) (gD.keep hx) hd
  simp only [decide_true] at E1
  have E2 := fun wx (hx : Below w.heap.size w wx) => eqsym_any A3 B3 c3 e3 ss ss wx (hS.keep hx) (gS.keep hx) hs
  simp only [decide_true] at E2
  have E3 := fun wx (hx : Below w.heap.size w wx) => eqrel_any A4 B4 c4 e4 rs rs wx (hL.keep hx) (gL.keep hx) hl
  simp only [decide_true] at E3
  go_enter Tryz.func46, Tryz.ntmps46
  go_wp2_with fail
  refine (E0 _ (lb_alloc (lb_alloc (Below.refl _ _) _) _)).mono ?_
  rintro e w0 ⟨rfl, hb0⟩
  have HB0 : Hid (Below w.heap.size w w0) := lb_trans (lb_alloc (lb_alloc (Below.refl _ _) _) _) hb0
  have q0a0 : w0.cell? ⟨w.heap.size, 0, none⟩ = some (.string nm) := lkeep hb0 (by simp [go_sem])
  have q0a1 : w0.cell? ⟨w.heap.size, 1, none⟩ = some (.slice A1 code.length c1) := lkeep hb0 (by simp [go_sem])
  have q0a2 : w0.cell? ⟨w.heap.size, 2, none⟩ = some (.int .i64 dA) := lkeep hb0 (by simp [go_sem])
  have q0a3 : w0.cell? ⟨w.heap.size, 3, none⟩ = some (.slice A2 data.length c2) := lkeep hb0 (by simp [go_sem])
  have q0a4 : w0.cell? ⟨w.heap.size, 4, none⟩ = some (.slice A3 ss.length c3) := lkeep hb0 (by simp [go_sem])
  have q0a5 : w0.cell? ⟨w.heap.size, 5, none⟩ = some (.slice A4 rs.length c4) := lkeep hb0 (by simp [go_sem])
  have q0b0 : w0.cell? ⟨w.heap.size + 1, 0, none⟩ = some (.string nm) := lkeep hb0 (by simp [go_sem])
  have q0b1 : w0.cell? ⟨w.heap.size + 1, 1, none⟩ = some (.slice B1 code.length e1) := lkeep hb0 (by simp [go_sem])
  have q0b2 : w0.cell? ⟨w.heap.size + 1, 2, none⟩ = some (.int .i64 dA) := lkeep hb0 (by simp [go_sem])
  have q0b3 : w0.cell? ⟨w.heap.size + 1, 3, none⟩ = some (.slice B2 data.length e2) := lkeep hb0 (by simp [go_sem])
  have q0b4 : w0.cell? ⟨w.heap.size + 1, 4, none⟩ = some (.slice B3 ss.length e3) := lkeep hb0 (by simp [go_sem])
  have q0b5 : w0.cell? ⟨w.heap.size + 1, 5, none⟩ = some (.slice B4 rs.length e4) := lkeep hb0 (by simp [go_sem])
  clear hb0
  go_wp2_with fail
  refine (E1 _ (HB0.out)).mono ?_
  rintro e w1 ⟨rfl, hb1⟩
  have HB1 : Hid (Below w.heap.size w w1) := lb_trans (HB0.out) hb1
  have q1a0 := lkeep hb1 q0a0
  have q1a1 := lkeep hb1 q0a1
  have q1a2 := lkeep hb1 q0a2
  have q1a3 := lkeep hb1 q0a3
  have q1a4 := lkeep hb1 q0a4
  have q1a5 := lkeep hb1 q0a5
  have q1b0 := lkeep hb1 q0b0
  have q1b1 := lkeep hb1 q0b1
  have q1b2 := lkeep hb1 q0b2
  have q1b3 := lkeep hb1 q0b3
  have q1b4 := lkeep hb1 q0b4
  have q1b5 := lkeep hb1 q0b5
  clear hb1 q0a0 q0a1 q0a2 q0a3 q0a4 q0a5 q0b0 q0b1 q0b2 q0b3 q0b4 q0b5
  go_wp2_with fail
  refine (E2 _ (HB1.out)).mono ?_
  rintro e w2 ⟨rfl, hb2⟩
  have HB2 : Hid (Below w.heap.size w w2) := lb_trans (HB1.out) hb2
  have q2a0 := lkeep hb2 q1a0
  have q2a1 := lkeep hb2 q1a1
  have q2a2 := lkeep hb2 q1a2
  have q2a3 := lkeep hb2 q1a3
  have q2a4 := lkeep hb2 q1a4
  have q2a5 := lkeep hb2 q1a5
  have q2b0 := lkeep hb2 q1b0
  have q2b1 := lkeep hb2 q1b1
  have q2b2 := lkeep hb2 q1b2
  have q2b3 := lkeep hb2 q1b3
  have q2b4 := lkeep hb2 q1b4
  have q2b5 := lkeep hb2 q1b5
  clear hb2 q1a0 q1a1 q1a2 q1a3 q1a4 q1a5 q1b0 q1b1 q1b2 q1b3 q1b4 q1b5
  go_wp2_with fail
  refine (E3 _ (HB2.out)).mono ?_
  rintro e w3 ⟨rfl, hb3⟩
  have HB3 : Hid (Below w.heap.size w w3) := lb_trans (HB2.out) hb3
  have q3a0 := lkeep hb3 q2a0
  have q3a1 := lkeep hb3 q2a1
  have q3a2 := lkeep hb3 q2a2
  have q3a3 := lkeep hb3 q2a3
  have q3a4 := lkeep hb3 q2a4
  have q3a5 := lkeep hb3 q2a5
  have q3b0 := lkeep hb3 q2b0
  have q3b1 := lkeep hb3 q2b1
  have q3b2 := lkeep hb3 q2b2
  have q3b3 := lkeep hb3 q2b3
  have q3b4 := lkeep hb3 q2b4
  have q3b5 := lkeep hb3 q2b5
  clear hb3 q2a0 q2a1 q2a2 q2a3 q2a4 q2a5 q2b0 q2b1 q2b2 q2b3 q2b4 q2b5
  go_wp2
  go_ret
  exact ⟨rfl, HB3.out⟩






end Go.Proofs.YthpkekpojhmaaaaGreatDoor

namespace Go.Proofs.YthpkekpojhmaaaaGreatDoor
open Go.RowKit

def wideC1 (text : List Int) : Obj := .cells (wcur (wInt .u32 text) (fun _ => .int .u32 0) (text.length + 64) (text.length + 64)) 78
def wideC2 (mem : List Int) : Obj := .cells (wcur (wInt .i64 mem) (fun _ => .int .i64 0) (mem.length + 64) (mem.length + 64)) 2
theorem eqimg_same (A1 A2 B1 B2 : Option Addr) (c1 c2 e1 e2 : Nat) (text mem : List Int) (ent : Int) (w : World) (hT : IntsAt w A1 .u32 text) (hM : IntsAt w A2 .i64 mem) (gT : IntsAt w B1 .u32 text) (gM : IntsAt w B2 .i64 mem) (hl : text.length ≤ 1048576) (hm : mem.length ≤ 1048576) :
    Calls Tryz.prog 13 #[.agg #[.slice A1 text.length c1, .int .i64 ent, .slice A2 mem.length c2], .agg #[.slice B1 text.length e1, .int .i64 ent, .slice B2 mem.length e2]] w fun e w' => e = .returned (.bool true) ∧ Below w.heap.size w w' := by
  have E0 := fun wx (hx : Below w.heap.size w wx) => eqwords_any A1 B1 c1 e1 text text wx (hT.keep hx) (gT.keep hx) hl
  simp only [decide_true] at E0
  have E1 := fun wx (hx : Below w.heap.size w wx) => eqlongs_any A2 B2 c2 e2 mem mem wx (hM.keep hx) (gM.keep hx) hm
  simp only [decide_true] at E1
  go_enter Tryz.func13, Tryz.ntmps13
  go_wp2_with fail
  refine (E0 _ (lb_alloc (lb_alloc (Below.refl _ _) _) _)).mono ?_
  rintro e w0 ⟨rfl, hb0⟩
  have HB0 : Hid (Below w.heap.size w w0) := lb_trans (lb_alloc (lb_alloc (Below.refl _ _) _) _) hb0
  have q0a0 : w0.cell? ⟨w.heap.size, 0, none⟩ = some (.slice A1 text.length c1) := lkeep hb0 (by simp [go_sem])
  have q0a1 : w0.cell? ⟨w.heap.size, 1, none⟩ = some (.int .i64 ent) := lkeep hb0 (by simp [go_sem])
  have q0a2 : w0.cell? ⟨w.heap.size, 2, none⟩ = some (.slice A2 mem.length c2) := lkeep hb0 (by simp [go_sem])
  have q0b0 : w0.cell? ⟨w.heap.size + 1, 0, none⟩ = some (.slice B1 text.length e1) := lkeep hb0 (by simp [go_sem])
  have q0b1 : w0.cell? ⟨w.heap.size + 1, 1, none⟩ = some (.int .i64 ent) := lkeep hb0 (by simp [go_sem])
  have q0b2 : w0.cell? ⟨w.heap.size + 1, 2, none⟩ = some (.slice B2 mem.length e2) := lkeep hb0 (by simp [go_sem])
  clear hb0
  go_wp2_with fail
  refine (E1 _ (HB0.out)).mono ?_
  rintro e w1 ⟨rfl, hb1⟩
  have HB1 : Hid (Below w.heap.size w w1) := lb_trans (HB0.out) hb1
  clear hb1
  go_wp2
  go_ret
  exact ⟨rfl, HB1.out⟩
/-- What heavy answers. -/
def HvP (n1 n2 : Nat) (w : World) (e : Ending) (w' : World) : Prop := ∃ B : Bool, e = .returned (.bool B) ∧ (B = false → n1 ≤ 32768 ∧ n2 ≤ 8192) ∧ Below w.heap.size w w'


end Go.Proofs.YthpkekpojhmaaaaGreatDoor

namespace Go.Proofs.YthpkekpojhmaaaaGreatDoor
open Go.RowKit

theorem leaves_any (v : Int) (h0 : 0 ≤ v) (h1 : v < 4294967296) (w : World) : Calls Tryz.prog 67 #[.int .u32 v] w fun e w' => e = .returned (.bool (lastOK v)) ∧ Below w.heap.size w w' := by
  have C := isadecode_any v h0 h1 w
  unfold lastOK
  generalize dOp v = x at *
  generalize dD v = x1 at *
  generalize dA v = x2 at *
  generalize dB v = x3 at *
  generalize dN v = x4 at *
  go_enter Tryz.func67, Tryz.ntmps67
  go_wp2_with fail
  refine C.mono ?_
  rintro e w1 ⟨rfl, hb⟩
  clear C
  go_wp2
  all_goals (
    go_ret
    refine ⟨retB ?_, hb⟩
    simp_all)
theorem lb_box0 {w w1 : World} {B : Nat} {cs : Array Value} {t : TypeId} (h : w.heap[B]? = some (.cells cs t (0, 0))) (hb : Below w.heap.size w w1) : w1.heap[B]? = some (.cells cs t (0, 0)) := by
  rw [hb.block B (Array.getElem?_eq_some_iff.1 h).1]; exact h
def ChkP (E N : Int) (w : World) (e : Ending) (w' : World) : Prop := e = .returned (.tuple #[.int .i64 E, .int .i64 N]) ∧ Below w.heap.size w w'
set_option maxRecDepth 100000 in
set_option maxHeartbeats 1000000 in
theorem icheck_any (A1 A2 : Option Addr) (c1 ml c2 : Nat) (ent : Int) (text : List Int) (w : World) (hT : IntsAt w A1 .u32 text) (hR : ∀ i, i < text.length → 0 ≤ nth text i ∧ nth text i < 4294967296) (hl : text.length ≤ 1048576) (hm : ml ≤ 1048576) :
    Calls Tryz.prog 20 #[.agg #[.slice A1 text.length c1, .int .i64 ent, .slice A2 ml c2]] w (ChkP (checkI text ml ent).1 (checkI text ml ent).2 w) := by
  by_cases h0 : text.length = 0
  · rw [chkI0 h0, h0]
    go_enter Tryz.func20, Tryz.ntmps20
    go_wp2
    go_ret2
    exact ⟨rfl, lb_alloc (Below.refl _ _) _⟩
  have n0 : ((text.length : Int) == 0) = false := by simpa using h0
  by_cases h1 : 16384 < text.length
  · rw [chkI1 h0 h1]
    go_enter Tryz.func20, Tryz.ntmps20
    go_wp2
    go_ret2
    exact ⟨rfl, lb_alloc (Below.refl _ _) _⟩
  by_cases h2 : 4096 < ml
  · rw [chkI2 h0 h1 h2]
    go_enter Tryz.func20, Tryz.ntmps20
    go_wp2
    go_ret2
    exact ⟨rfl, lb_alloc (Below.refl _ _) _⟩
  by_cases h3 : ent < 0
  · rw [chkI3 h0 h1 h2 (.inl h3)]
    go_enter Tryz.func20, Tryz.ntmps20
    go_wp2
    go_ret2
    exact ⟨rfl, lb_alloc (Below.refl _ _) _⟩
  by_cases h4 : (text.length : Int) ≤ ent
  · rw [chkI3 h0 h1 h2 (.inr h4)]
    go_enter Tryz.func20, Tryz.ntmps20
    go_wp2
    go_ret2
    exact ⟨rfl, lb_alloc (Below.refl _ _) _⟩
  have HP : Hid (Past text ml ent) := ⟨by omega, by omega, by omega, by omega, by omega⟩
  have HB0 : Hid (Below w.heap.size w (w.alloc (.cells #[.slice A1 text.length c1, .int .i64 ent, .slice A2 ml c2] 29))) := lb_alloc (Below.refl _ _) _
  have HX : Hid ((w.alloc (.cells #[.slice A1 text.length c1, .int .i64 ent, .slice A2 ml c2] 29)).heap[w.heap.size]? = some (.cells #[.slice A1 text.length c1, .int .i64 ent, .slice A2 ml c2] 29 (0, 0))) := heap_alloc_new _ _
  have HS : Hid (∀ i, i < text.length → ∃ a : Addr, A1 = some a) := fun i hi => (hT i hi).imp fun a h => h.1
  clear h1 h2 h3 h4
  have hlen : text.length ≤ 16384 := HP.out.len
  have hml := HP.out.mem
  have hpos := HP.out.pos
  have he0 := HP.out.ent0
  have he1 := HP.out.ent1
  go_enter Tryz.func20, Tryz.ntmps20
  go_wp2
  go_loopw [37] (fun i wr => ∃ k : Nat, i = .int .i64 k ∧ k ≤ text.length ∧ Hid (∀ j, j < k → farT text j = false) ∧ Hid (Below (w.alloc (.cells #[.slice A1 text.length c1, .int .i64 ent, .slice A2 ml c2] 29)).heap.size (w.alloc (.cells #[.slice A1 text.length c1, .int .i64 ent, .slice A2 ml c2] 29)) wr)) (fun i _ => text.length - (intOf i).toNat)
  case atStart => exact ⟨0, rfl, by omega, fun j hj => by omega, Below.refl _ _⟩
  case round =>
    obtain ⟨k, rfl, hk, hj, hb⟩ := hrel
    have HBr : Hid (Below w.heap.size w wr) := lb_trans HB0.out hb.out
    by_cases hlt : k < text.length
    · obtain ⟨a, rfl, q⟩ := (hT.keep HBr.out) k hlt
      obtain ⟨hv0, hv1⟩ := hR k hlt
      have C := isatarget_any (nth text k) hv0 hv1 wr
      have HF : Hid (farT text k = (isT (nth text k) && decide ((text.length : Int) ≤ tgV (nth text k)))) := rfl
      generalize nth text k = v at *
      generalize isT v = t at *
      generalize tgV v = z at *
      cases t with
      | false =>
        go_wp2_with (go_at_call 25; refine C.mono ?_; rintro e w1 ⟨rfl, hb1⟩)
        go_roundw
        case rel => exact ⟨k + 1, by go_num, by omega, fun j hj1 => by
          by_cases hjk : j = k
          · subst hjk; rw [HF.out]; rfl
          · exact hj.out j (by omega), lb_trans hb.out hb1⟩
        case measure => simp [intOf]; omega
      | true =>
        by_cases hz : (text.length : Int) ≤ z
        · go_wp2_with (go_at_call 25; refine C.mono ?_; rintro e w1 ⟨rfl, hb1⟩)
          go_ret2
          have e := chkI_far HP.out hlt hj.out (by rw [HF.out]; simpa using hz)
          rw [e]
          exact ⟨rfl, lb_trans HBr.out hb1⟩
        · go_wp2_with (go_at_call 25; refine C.mono ?_; rintro e w1 ⟨rfl, hb1⟩)
          go_roundw
          case rel => exact ⟨k + 1, by go_num, by omega, fun j hj1 => by
            by_cases hjk : j = k
            · subst hjk; rw [HF.out]; simpa using hz
            · exact hj.out j (by omega), lb_trans hb.out hb1⟩
          case measure => simp [intOf]; omega
    · obtain rfl : k = text.length := by omega
      obtain ⟨a, rfl, q⟩ := (hT.keep HBr.out) (text.length - 1) (by omega)
      have hx := lb_box0 HX.out hb.out
      have x0 : wr.cell? ⟨w.heap.size, 0, none⟩ = some (.slice (some a) text.length c1) := by simp [World.cell?, hx]
      obtain ⟨hv0, hv1⟩ := hR (text.length - 1) (by omega)
      have C := leaves_any (nth text (text.length - 1)) hv0 hv1 wr
      have HE : Hid _ := chkI_end HP.out hj.out
      have hc : ((text.length - 1 : Nat) : Int) = (text.length : Int) - 1 := by omega
      generalize nth text (text.length - 1) = v at *
      generalize lastOK v = t at *
      cases t with
      | true =>
        go_wp2_with (go_at_call 67; refine C.mono ?_; rintro e w1 ⟨rfl, hb1⟩)
        go_ret2
        rw [HE.out]
        exact ⟨rfl, lb_trans HBr.out hb1⟩
      | false =>
        go_wp2_with (go_at_call 67; refine C.mono ?_; rintro e w1 ⟨rfl, hb1⟩)
        go_ret2
        rw [HE.out]
        exact ⟨by simp; omega, lb_trans HBr.out hb1⟩


end Go.Proofs.YthpkekpojhmaaaaGreatDoor

namespace Go.Proofs.YthpkekpojhmaaaaGreatDoor
open Go.RowKit

theorem bytes_areB (nm : ByteArray) (code : List Int) (dA : Int) (data : List Int) (ss : List Sym) (rs : List Rel) : AreB (bytesB nm code dA data ss rs) := (body_areB nm code dA data ss rs).app (be4_areB _)
theorem bytes_len (nm : ByteArray) (code : List Int) (dA : Int) (data : List Int) (ss : List Sym) (rs : List Rel) : (bytesB nm code dA data ss rs).length = 32 + nm.size + code.length * 4 + data.length * 8 + (ss.flatMap symB).length + rs.length * 8 := by
  unfold bytesB
  rw [List.length_append, be4_len, (part_lens nm code dA data ss rs).2.2.2.2.2]
  omega
theorem may_len {nm : ByteArray} {code : List Int} {dA : Int} {data : List Int} {ss : List Sym} {rs : List Rel} (h : (checkC nm code dA data.length ss rs).1 = 0) : (bytesB nm code dA data ss rs).length ≤ 300000 := by
  have hf := may_fit (check_may h)
  have h5 := syms_size ss (syms_mem fun i hi => (hf.sym i hi).1)
  rw [bytes_len]
  have := hf.hnm; have := hf.hcode; have := hf.hdata; have := hf.hsyms; have := hf.hrels
  omega
/-- What an object that may be is read as. -/
theorem read_back {nm : ByteArray} {code : List Int} {dA : Int} {data : List Int} {ss : List Sym} {rs : List Rel} (h : (checkC nm code dA data.length ss rs).1 = 0) (hR : ∀ i, i < code.length → 0 ≤ nth code i ∧ nth code i < 4294967296) (hD : ∀ i, i < data.length → -9223372036854775808 ≤ nth data i ∧ nth data i < 9223372036854775808) :
    (took (bytesB nm code dA data ss rs)).nm = nm ∧ (took (bytesB nm code dA data ss rs)).code = code ∧ (took (bytesB nm code dA data ss rs)).dA = dA ∧ (took (bytesB nm code dA data ss rs)).data = data ∧ (took (bytesB nm code dA data ss rs)).ss = ss ∧ (took (bytesB nm code dA data ss rs)).rs = rs ∧ (took (bytesB nm code dA data ss rs)).t.bad = 0 := by
  have hf := may_fit (check_may h)
  have mem : ∀ {l : List Int} {P : Int → Prop}, (∀ i, i < l.length → P (nth l i)) → ∀ x ∈ l, P x := fun {l P} hp x hx => by
    obtain ⟨i, hi, e⟩ := List.getElem_of_mem hx
    have := hp i hi
    simpa [nth, List.getD, hi, e] using this
  refine took_read hf.hnm hf.hcode (mem hR) ⟨hf.hdA.1, by have := hf.hdA.2; unfold great; omega⟩ hf.hdata (mem hD) hf.hsyms (fun x hx => ?_) hf.hrels (fun x hx => ?_)
  · obtain ⟨i, hi, e⟩ := List.getElem_of_mem hx
    have := hf.sym i hi
    have e2 : ss.getD i symD = x := by simp [List.getD, hi, e]
    unfold sName sKind sAt at this
    rw [e2] at this
    unfold SymFit great
    omega
  · obtain ⟨i, hi, e⟩ := List.getElem_of_mem hx
    have := hf.rel i hi
    have e2 : rs.getD i (0, 0) = x := by simp [List.getD, hi, e]
    unfold rAt rSym at this
    rw [e2] at this
    unfold RelFit great
    omega
theorem wrote_ok {nm : ByteArray} {code : List Int} {dA : Int} {data : List Int} {ss : List Sym} {rs : List Rel} {w w' : World} {r : Ending} (h : WroteP nm code dA data ss rs w r w') (hk : (checkC nm code dA data.length ss rs).1 = 0) :
    ∃ A c, r = .returned (.tuple #[.slice A (bytesB nm code dA data ss rs).length c, .int .i64 0]) ∧ w'.ownsRow w.heap.size 5 1 (.slice A (bytesB nm code dA data ss rs).length c) (bytesB nm code dA data ss rs).length (bNews (bytesB nm code dA data ss rs)) ∧ IntsAt w' A .u8 (bytesB nm code dA data ss rs) ∧ (bytesB nm code dA data ss rs).length ≤ c ∧ Below w.heap.size w w' := by
  unfold WroteP at h
  rw [if_pos hk] at h
  obtain ⟨v, h1, h2, h3⟩ := h
  obtain ⟨A, c, rfl, h4, h5⟩ := own_ints h2
  exact ⟨A, c, h1, h2, h4, h5, h3⟩
/-- What is written is read as it. -/
theorem read_ok {nm : ByteArray} {code : List Int} {dA : Int} {data : List Int} {ss : List Sym} {rs : List Rel} {w w' : World} {r : Ending} (h : ReadP (bytesB nm code dA data ss rs) w r w') (hk : (checkC nm code dA data.length ss rs).1 = 0) (hR : ∀ i, i < code.length → 0 ≤ nth code i ∧ nth code i < 4294967296) (hD : ∀ i, i < data.length → -9223372036854775808 ≤ nth data i ∧ nth data i < 9223372036854775808) :
    ∃ (A1 A2 A3 A4 : Option Addr) (c1 c2 c3 c4 : Nat), r = .returned (.tuple #[.agg #[.string nm, .slice A1 code.length c1, .int .i64 dA, .slice A2 data.length c2, .slice A3 ss.length c3, .slice A4 rs.length c4], .int .i64 0, .int .i64 0]) ∧ RowsO w' w.heap.size A1 A2 A3 A4 c1 c2 c3 c4 code data ss rs ∧ Below w.heap.size w w' := by
  obtain ⟨e1, e2, e3, e4, e5, e6, e7⟩ := read_back hk hR hD
  obtain ⟨hb, h⟩ := h
  rw [e1, e2, e3, e4, e5, e6] at h
  rcases h with ⟨h0, _⟩ | ⟨_, h0, _⟩ | ⟨_, _, A1, A2, A3, A4, c1, c2, c3, c4, h1, h2⟩
  · exact absurd e7 h0
  · exact absurd hk h0
  · exact ⟨A1, A2, A3, A4, c1, c2, c3, c4, h1, h2, hb⟩


end Go.Proofs.YthpkekpojhmaaaaGreatDoor

namespace Go.Proofs.YthpkekpojhmaaaaGreatDoor
open Go.ChangeShapes Go.WideShapes Go.ChangeAt Go.RowKit Go.Joins

theorem open_i {H : Type} {enc : TypeId × Value → H} {W : World} {base : Nat} {sp : Nat → Bool} {held : Bool} {fuel : Nat} {cs : List Value} {x : DataW H × List MemPlace} {t e : TypeId} {k : IntKind} (ht : Tryz.prog.underlying t = some (.slice e)) (he : Tryz.prog.underlying e = some (.int k)) (hc : Tryz.prog.cellsOf e = 1) (h : DataW.trod enc Tryz.prog W base sp held fuel t cs = some x) :
    ∃ (O : Option Addr) (cap : Nat) (zs : List Int), cs = [.slice O zs.length cap] ∧ IntsAt W O k zs ∧ zs.length ≤ maxLen ∧ (∀ i, i < zs.length → (Lit.int k (nth zs i)).wf = true) ∧ (O = none → cap = 0) := by
  rcases open_ints ht he hc h with ⟨rfl, _⟩ | ⟨a, len, cap, zs, rfl, _, hl, hm, hz, _, hcell, hwf⟩
  · exact ⟨none, 0, [], rfl, fun i hi => by simp at hi, by simp, fun i hi => by simp at hi, fun _ => rfl⟩
  · have hlen : len ≤ zs.length := by rw [hz]; split <;> omega
    have hn : ∀ i, i < len → nth (zs.take len) i = zs.getD i 0 := fun i hi => by simp [nth, List.getD, hi]
    have hl2 : (zs.take len).length = len := by rw [List.length_take, Nat.min_eq_left hlen]
    refine ⟨some a, cap, zs.take len, by rw [hl2], ?_, by omega, ?_, fun h => by cases h⟩
    · intro i hi
      rw [hl2] at hi
      exact ⟨a, rfl, by rw [hn i hi]; exact hcell i (by omega)⟩
    · intro i hi
      rw [hl2] at hi
      rw [hn i hi]
      refine hwf _ ?_
      simp [List.getD, show i < zs.length by omega]
theorem mk_at {α : Type} (f : Nat → α) (n : Nat) (z : α) (i : Nat) (h : i < n) : ((List.range n).map f).getD i z = f i := by simp [List.getD, h]
theorem open_rels {H : Type} {enc : TypeId × Value → H} {W : World} {base : Nat} {sp : Nat → Bool} {held : Bool} {fuel : Nat} {cs : List Value} {x : DataW H × List MemPlace} (h : DataW.trod enc Tryz.prog W base sp held fuel 73 cs = some x) :
    ∃ (O : Option Addr) (cap : Nat) (zs : List Rel), cs = [.slice O zs.length cap] ∧ RelsAt W O zs ∧ zs.length ≤ maxLen ∧ (O = none → cap = 0) := by
  rcases Deep.open_slice_pairs Tryz.underlying73 Tryz.underlying83 (by kernel_rfl) rfl rfl (by kernel_rfl) (by kernel_rfl) h with ⟨rfl, _⟩ | ⟨a, len, cap, m, n, V0, V1, D0, D1, P0, P1, rfl, _, hl, hm, hmm, _, hx⟩
  · exact ⟨none, 0, [], rfl, fun i hi => by simp at hi, by simp, fun _ => rfl⟩
  · have hlm : len ≤ m := by rw [hmm]; split <;> omega
    have each : ∀ i, ∃ q : Rel, i < len → W.cell? (a.add (i * 2)) = some (.int .i64 q.1) ∧ W.cell? (a.add (i * 2 + 1)) = some (.int .i64 q.2) := by
      intro i
      by_cases hi : i < len
      · obtain ⟨h0, h1, t0, t1⟩ := hx i (by omega)
        obtain ⟨u, e0, _, _⟩ := DataW.trod_int Tryz.underlying3 t0
        obtain ⟨v, e1, _, _⟩ := DataW.trod_int Tryz.underlying3 t1
        simp at e0 e1
        exact ⟨(u, v), fun _ => ⟨by rw [h0, e0], by rw [h1, e1]⟩⟩
      · exact ⟨(0, 0), fun h => absurd h hi⟩
    obtain ⟨f, hf⟩ := Classical.axiomOfChoice each
    refine ⟨some a, cap, (List.range len).map f, by simp, ?_, by simp; omega, fun h => by cases h⟩
    intro i hi
    have hi' : i < len := by simpa using hi
    refine ⟨a, rfl, ?_, ?_⟩
    · unfold rAt; rw [mk_at _ _ _ _ hi']; exact (hf i hi').1
    · unfold rSym; rw [mk_at _ _ _ _ hi', Deep.add_add]; exact (hf i hi').2
theorem mem_all {H : Type} {P : Program} {e : TypeId} {d : DataW H} {n : Nat} : ∀ {l : List (DataW H)}, d ∈ l → n ∈ d.weights P e → n ∈ DataW.weightsAll P e l
  | [], h, _ => by cases h
  | x :: l, h, hn => by
    rw [DataW.weightsAll, List.mem_append]
    rcases List.mem_cons.1 h with rfl | h
    · exact Or.inl hn
    · exact Or.inr (mem_all h hn)
set_option maxRecDepth 100000 in
theorem open_syms {H : Type} {enc : TypeId × Value → H} {W : World} {base : Nat} {sp : Nat → Bool} {held : Bool} {fuel : Nat} {cs : List Value} {x : DataW H × List MemPlace} (h : DataW.trod enc Tryz.prog W base sp held fuel 72 cs = some x) :
    ∃ (O : Option Addr) (cap : Nat) (zs : List Sym), cs = [.slice O zs.length cap] ∧ SymsAt W O zs ∧ ((∀ n ∈ x.1.weights Tryz.prog 72, n ≤ reachBytes) → zs.length ≤ reachBytes ∧ ∀ i, (sName zs i).size ≤ reachBytes) ∧ (∀ i, i < zs.length → (Lit.int .i8 (sKind zs i)).wf = true ∧ (Lit.int .i64 (sAt zs i)).wf = true) ∧ (O = none → cap = 0) := by
  rcases Deep.open_slice Tryz.underlying72 h with ⟨rfl, _⟩ | ⟨a, len, cap, m, n, D, Pl, rfl, _, hl, hm, hmm, hxx, hx⟩
  · exact ⟨none, 0, [], rfl, fun i hi => by simp at hi, fun _ => ⟨Nat.zero_le _, fun i => Nat.zero_le _⟩, fun i hi => by simp at hi, fun _ => rfl⟩
  · have hlm : len ≤ m := by rw [hmm]; split <;> omega
    have each : ∀ i, ∃ q : Sym, (i < len → (∃ y1 y2, D i = .agg [.lit (.string q.1.data.toList), y1, y2]) ∧ W.cell? (a.add (i * 3)) = some (.string q.1) ∧ W.cell? (a.add (i * 3 + 1)) = some (.int .i8 q.2.1) ∧ W.cell? (a.add (i * 3 + 2)) = some (.int .i64 q.2.2) ∧ (Lit.int .i8 q.2.1).wf = true ∧ (Lit.int .i64 q.2.2).wf = true) := by
      intro i
      by_cases hi : i < len
      · obtain ⟨cs', h1, h2⟩ := hx i (by omega)
        rw [show Tryz.prog.cellsOf 131 = 3 by kernel_rfl] at h1
        obtain ⟨_, hlen, hcell⟩ := World.cells?_some h1
        obtain ⟨y0, y1, y2, k, hD, _, g0, g1, g2⟩ := Deep.trod_struct3 Tryz.underlying131 h2
        match cs', hlen with
        | [v0, v1, v2], _ =>
          simp [show Tryz.prog.cellsOf 9 = 1 by kernel_rfl, show Tryz.prog.cellsOf 129 = 1 by kernel_rfl, show Tryz.prog.cellsOf 3 = 1 by kernel_rfl] at g0 g1 g2
          obtain ⟨s, e0, ey, hs⟩ := DataW.trod_string Tryz.underlying9 g0
          obtain ⟨u, e1, _, hu⟩ := DataW.trod_int Tryz.underlying129 g1
          obtain ⟨v, e2, _, hv⟩ := DataW.trod_int Tryz.underlying3 g2
          simp at e0 e1 e2
          subst e0 e1 e2
          have q0 := hcell 0 (by omega)
          have q1 := hcell 1 (by omega)
          have q2 := hcell 2 (by omega)
          rw [Deep.add_add] at q0 q1 q2
          exact ⟨(s, u, v), fun _ => ⟨⟨y1.1, y2.1, by have := congrArg Prod.fst hD; rw [ey] at this; exact this⟩, by simpa using q0, by simpa using q1, by simpa using q2, hu, hv⟩⟩
      · exact ⟨symD, fun h => absurd h hi⟩
    obtain ⟨f, hf⟩ := Classical.axiomOfChoice each
    refine ⟨some a, cap, (List.range len).map f, by simp, ?_, ?_, ?_, fun h => by cases h⟩
    · intro i hi
      have hi' : i < len := by simpa using hi
      obtain ⟨_, h0, h1, h2, _, _⟩ := hf i hi'
      refine ⟨a, rfl, ?_, ?_, ?_⟩
      · unfold sName; rw [mk_at _ _ _ _ hi']; exact h0
      · unfold sKind; rw [mk_at _ _ _ _ hi', Deep.add_add]; exact h1
      · unfold sAt; rw [mk_at _ _ _ _ hi', Deep.add_add]; exact h2
    · intro hw
      subst hxx
      have hu : DataW.weights Tryz.prog 72 (.slice ((List.range len).map D) ((List.range (m - len)).map fun j => D (len + j))) = (((List.range len).map D).length + ((List.range (m - len)).map fun j => D (len + j)).length) * Tryz.prog.bytesOf 131 :: (DataW.weightsAll Tryz.prog 131 ((List.range len).map D) ++ DataW.weightsAll Tryz.prog 131 ((List.range (m - len)).map fun j => D (len + j))) := by
        simp only [DataW.weights, Tryz.underlying72]
      simp only [hu] at hw
      constructor
      · have h := hw _ (List.mem_cons_self ..)
        rw [show Tryz.prog.bytesOf 131 = 32 by kernel_rfl] at h
        simp at h ⊢
        omega
      · intro i
        by_cases hi : i < len
        · obtain ⟨⟨y1, y2, hD⟩, _⟩ := hf i hi
          unfold sName; rw [mk_at _ _ _ _ hi]
          have hm2 : (f i).1.data.toList.length ∈ DataW.weightsAll Tryz.prog 131 ((List.range len).map D) := by
            refine mem_all (d := D i) (List.mem_map.2 ⟨i, by simpa using hi, rfl⟩) ?_
            rw [hD]
            simp only [DataW.weights, Tryz.underlying131]
            exact DataW.weights_mem_each (j := 0) (t := 9) rfl rfl _ (by simp [DataW.weights])
          have h := hw _ (List.mem_cons_of_mem _ (List.mem_append_left _ hm2))
          simpa using h
        · have : ((List.range len).map f).getD i symD = symD := by simp [List.getD, hi]
          unfold sName; rw [this]; exact Nat.zero_le _
    · intro i hi
      have hi' : i < len := by simpa using hi
      obtain ⟨_, _, _, _, h3, h4⟩ := hf i hi'
      unfold sKind sAt
      rw [mk_at _ _ _ _ hi']
      exact ⟨h3, h4⟩
theorem six {cs : Array Value} (h : cs.size = 6) : ∃ a b c d e f, cs = #[a, b, c, d, e, f] := by
  obtain ⟨l⟩ := cs
  match l, h with
  | [a, b, c, d, e, f], _ => exact ⟨a, b, c, d, e, f, rfl⟩
set_option maxRecDepth 100000 in
theorem openObj {H : Type} {enc : TypeId × Value → H} {W : World} {b0 base : Nat} {spare : Nat → Bool} {held : Bool} {v : Value} {d : DataW H} {p : List MemPlace}
    (hv : Value.okWide Tryz.prog W .any b0 75 v) (h : DataW.Trod enc Tryz.prog W base spare held 75 v d p) (hw : ∀ n ∈ d.weights Tryz.prog 75, n ≤ reachBytes) :
    ∃ (nm : ByteArray) (dA : Int) (A1 A2 A3 A4 : Option Addr) (c1 c2 c3 c4 : Nat) (code data : List Int) (ss : List Sym) (rs : List Rel),
      v = .agg #[.string nm, .slice A1 code.length c1, .int .i64 dA, .slice A2 data.length c2, .slice A3 ss.length c3, .slice A4 rs.length c4] ∧
      IntsAt W A1 .u32 code ∧ IntsAt W A2 .i64 data ∧ SymsAt W A3 ss ∧ RelsAt W A4 rs ∧ (∀ i, i < code.length → 0 ≤ nth code i ∧ nth code i < 4294967296) ∧ (∀ i, (sName ss i).size ≤ 140737488355328) ∧ ss.length ≤ 140737488355328 ∧ nm.size ≤ maxLen ∧ (-9223372036854775808 ≤ dA ∧ dA ≤ 9223372036854775807) ∧ (A1 = none → c1 = 0) ∧ (A2 = none → c2 = 0) ∧ (A3 = none → c3 = 0) ∧ (A4 = none → c4 = 0) ∧ (∀ i, i < data.length → -9223372036854775808 ≤ nth data i ∧ nth data i < 9223372036854775808) := by
  obtain ⟨cs, rfl, hsz⟩ := okWide_struct Tryz.underlying75 hv
  obtain ⟨v0, v1, v2, v3, v4, v5, rfl⟩ := six (hsz.trans (by kernel_rfl))
  obtain ⟨fuel, hf⟩ := h
  obtain ⟨xs, n, _, hdd, _, hlen, hf⟩ := DataW.trod_struct Tryz.underlying75 hf
  match xs, hlen with
  | [y0, y1, y2, y3, y4, y5], _ =>
    have h0 := hf 0 _ rfl
    have h1 := hf 1 _ rfl
    have h2 := hf 2 _ rfl
    have h3 := hf 3 _ rfl
    have h4 := hf 4 _ rfl
    have h5 := hf 5 _ rfl
    simp [Value.cells, show Tryz.prog.cellsOf 9 = 1 by kernel_rfl, show Tryz.prog.cellsOf 26 = 1 by kernel_rfl, show Tryz.prog.cellsOf 3 = 1 by kernel_rfl, show Tryz.prog.cellsOf 27 = 1 by kernel_rfl, show Tryz.prog.cellsOf 72 = 1 by kernel_rfl, show Tryz.prog.cellsOf 73 = 1 by kernel_rfl] at h0 h1 h2 h3 h4 h5
    obtain ⟨nm, e0, _, hnm⟩ := DataW.trod_string Tryz.underlying9 h0
    obtain ⟨A1, c1, code, e1, k1, _, r1, u1⟩ := open_i Tryz.underlying26 Tryz.underlying78 (by kernel_rfl) h1
    obtain ⟨dA, e2, _, w2⟩ := DataW.trod_int Tryz.underlying3 h2
    obtain ⟨A2, c2, data, e3, k3, _, r3, u2⟩ := open_i Tryz.underlying27 Tryz.underlying2 (by kernel_rfl) h3
    obtain ⟨A3, c3, ss, e4, k4, n4, _, u3⟩ := open_syms h4
    obtain ⟨A4, c4, rs, e5, k5, _, u4⟩ := open_rels h5
    have hw4 : ∀ n ∈ y4.1.weights Tryz.prog 72, n ≤ reachBytes := fun n hn => by
      refine hw n ?_
      have hd : d = .agg [y0.1, y1.1, y2.1, y3.1, y4.1, y5.1] := congrArg Prod.fst hdd
      rw [hd]
      simp only [DataW.weights, Tryz.underlying75]
      exact DataW.weights_mem_each (j := 4) (t := 72) rfl rfl n hn
    simp at e0 e1 e2 e3 e4 e5
    subst e0 e1 e2 e3 e4 e5
    refine ⟨nm, dA, A1, A2, A3, A4, c1, c2, c3, c4, code, data, ss, rs, rfl, k1, k3, k4, k5, fun i hi => ?_, ?_, ?_, hnm, ?_, u1, u2, u3, u4, fun i hi => ?_⟩
    · have := r1 i hi
      simp [Lit.wf, IntKind.min, IntKind.max, IntKind.signed, IntKind.bits] at this
      omega
    · intro i
      have := (n4 hw4).2 i
      simp [reachBytes] at this; omega
    · have := (n4 hw4).1
      simp [reachBytes] at this; omega
    · simp [Lit.wf, IntKind.min, IntKind.max, IntKind.signed, IntKind.bits] at w2
      omega
    · have := r3 i hi
      simp [Lit.wf, IntKind.min, IntKind.max, IntKind.signed, IntKind.bits] at this
      omega







end Go.Proofs.YthpkekpojhmaaaaGreatDoor

namespace Go.Proofs.YthpkekpojhmaaaaGreatDoor
open Go.RowKit

/-- No list or text of an object is longer than any can be. -/
structure LightO (o : Ob) : Prop where
  n : o.nm.size ≤ 140737488355328
  c : o.code.length ≤ 140737488355328
  d : o.data.length ≤ 140737488355328
  s : o.ss.length ≤ 140737488355328
  r : o.rs.length ≤ 140737488355328
  e : ∀ i, (sName o.ss i).size ≤ 140737488355328
/-- An object's weight but for its names' ones. -/
def wtO (o : Ob) : Nat := o.nm.size + 4 * o.code.length + 8 * o.data.length + o.rs.length + o.ss.length
/-- How SizeObjects ends. -/
def SzP (l : List Ob) (w : World) (e : Ending) (w' : World) : Prop := ∃ n : Nat, e = .returned (.int .i64 n) ∧ n ≤ 2111064472813567 ∧ (n ≤ 2147483647 → ∀ i, i < l.length → wtO (ob l i) ≤ n) ∧ Below w.heap.size w w'
theorem lt_step {l : List Ob} {k n m : Nat} (h : ∀ i, i < k → wtO (ob l i) ≤ n) (hm : n ≤ m) (hk : wtO (ob l k) ≤ m) : ∀ i, i < k + 1 → wtO (ob l i) ≤ m := fun i hi => by
  by_cases e : i = k
  · subst e; exact hk
  · exact Nat.le_trans (h i (by omega)) hm
set_option maxHeartbeats 4000000 in
set_option maxRecDepth 100000 in
theorem sizeobs_any (A : Option Addr) (ca : Nat) (q : Nat → Pl) (l : List Ob) (w : World) (hA : ObsAt w A q l) (hS : ∀ i, i < l.length → SymsAt w (q i).A3 (ob l i).ss) (hL : ∀ i, i < l.length → LightO (ob l i)) (hl : l.length ≤ 64) :
    Calls Tryz.prog 31 #[.slice A l.length ca] w (SzP l w) := by
  have HA : Hid (ObsAt w A q l) := hA
  have HS : Hid (∀ i, i < l.length → SymsAt w (q i).A3 (ob l i).ss) := hS
  have HL : Hid (∀ i, i < l.length → LightO (ob l i)) := hL
  clear hA hS hL
  go_enter Tryz.func31, Tryz.ntmps31
  go_wp2
  go_loopw [4, 3] (fun i t wr => ∃ (k n : Nat), i = .int .i64 k ∧ t = .int .i64 n ∧ k ≤ l.length ∧ n ≤ 2111064472813567 ∧ Hid (∀ i, i < k → wtO (ob l i) ≤ n) ∧ Hid (Below w.heap.size w wr)) (fun i _ _ => l.length - (intOf i).toNat)
  case atStart => exact ⟨0, l.length, rfl, rfl, Nat.zero_le _, by omega, fun i hi => absurd hi (Nat.not_lt_zero _), Below.refl _ _⟩
  case round =>
    obtain ⟨k, n, rfl, rfl, hk, hn, HW, HB⟩ := hrel
    by_cases hlt : k < l.length
    · by_cases hbig : n ≤ 2147483647
      · have hlt' : (k : Int) < (l.length : Int) := by omega
        have hbig' : (n : Int) ≤ 2147483647 := by omega
        obtain ⟨a, ea, x0, x1, x2, x3, x4, x5⟩ := HA.out.six HB.out k hlt
        have hLk := HL.out k hlt
        have h1 := hLk.n
        have h2 := hLk.c
        have h3 := hLk.d
        have h4 := hLk.s
        have h5 := hLk.r
        have HLe : Hid _ := hLk.e
        have HSk : Hid _ := HS.out k hlt
        clear hLk
        subst ea
        go_wp2
        go_quiet (fail)
        have HB0 : Hid (Below w.heap.size w (wr.drewN nq)) := below_drewN HB.out _
        obtain ⟨m0, hm0⟩ : ∃ m : Nat, m = n + (ob l k).nm.size + 4 * (ob l k).code.length + 8 * (ob l k).data.length + (ob l k).rs.length + (ob l k).ss.length := ⟨_, rfl⟩
        have hm1 : (n : Int) + ((ob l k).nm.size : Int) + 4 * ((ob l k).code.length : Int) + 8 * ((ob l k).data.length : Int) + ((ob l k).rs.length : Int) + ((ob l k).ss.length : Int) = (m0 : Int) := by omega
        have hm2 : m0 ≤ 2111064472813567 := by omega
        have HM3 : Hid (n ≤ m0) := by unfold Hid; omega
        have HM4 : Hid (wtO (ob l k) ≤ m0) := by unfold Hid wtO; omega
        rw [hm1]
        clear hm0 hm1 x0 x1 x2 x3 x4 x5 h1 h2 h3 h5
        generalize wr.drewN nq = wz at HB0 ⊢
        go_wp2
        go_loopw [5, 3] (fun i t wr => ∃ (j m : Nat), i = .int .i64 j ∧ t = .int .i64 m ∧ j ≤ (ob l k).ss.length ∧ m0 ≤ m ∧ m ≤ 2111064472813567 ∧ Hid (Below w.heap.size w wr)) (fun i _ _ => (ob l k).ss.length - (intOf i).toNat)
        case atStart => exact ⟨0, m0, rfl, rfl, Nat.zero_le _, Nat.le_refl _, hm2, HB0⟩
        case round =>
          clear HB0
          obtain ⟨j, m, rfl, rfl, hj, hm3, hm4, HB1⟩ := hrel
          obtain ⟨b, eb, x0, x1, x2, x3, x4, x5⟩ := HA.out.six HB1.out k hlt
          obtain rfl := Option.some.inj eb
          clear eb x0 x1 x2 x3 x5
          by_cases hjl : j < (ob l k).ss.length
          · have hjl' : (j : Int) < ((ob l k).ss.length : Int) := by omega
            by_cases hmb : m ≤ 2147483647
            · have hmb' : (m : Int) ≤ 2147483647 := by omega
              obtain ⟨a3, e3, s0, s1, s2⟩ := HSk.out j hjl
              have t0 := lkeep HB1.out s0
              have hsz := HLe.out j
              rw [e3] at x4
              clear s0 s1 s2 e3
              go_wp2
              go_roundw
              case rel => exact ⟨j + 1, m + (sName (ob l k).ss j).size, by go_num, by go_num, by omega, by omega, by omega, HB1⟩
              case measure => simp [intOf]; omega
            · have hmb' : ¬ (m : Int) ≤ 2147483647 := by omega
              go_wp2
              go_roundw
              case rel => exact ⟨k + 1, m, by go_num, rfl, by omega, hm4, lt_step HW.out (Nat.le_trans HM3.out hm3) (Nat.le_trans HM4.out hm3), HB1⟩
              case measure => simp [intOf]; omega
          · have hjl' : ¬ (j : Int) < ((ob l k).ss.length : Int) := by omega
            go_wp2
            go_roundw
            case rel => exact ⟨k + 1, m, by go_num, rfl, by omega, hm4, lt_step HW.out (Nat.le_trans HM3.out hm3) (Nat.le_trans HM4.out hm3), HB1⟩
            case measure => simp [intOf]; omega
      · have hlt' : (k : Int) < (l.length : Int) := by omega
        have hbig' : ¬ (n : Int) ≤ 2147483647 := by omega
        go_wp2
        go_ret
        exact ⟨n, rfl, hn, fun h => absurd h hbig, HB.out⟩
    · have hlt' : ¬ (k : Int) < (l.length : Int) := by omega
      go_wp2
      go_ret
      exact ⟨n, rfl, hn, fun _ i hi => HW.out i (by omega), HB.out⟩
/-- How heavy ends. -/
def HvL (l : List Ob) (w : World) (e : Ending) (w' : World) : Prop := ∃ B : Bool, e = .returned (.bool B) ∧ (B = false → l.length ≤ 64 ∧ ∀ i, i < l.length → wtO (ob l i) ≤ 524288) ∧ Below w.heap.size w w'
theorem long_any (n : Int) (w : World) : Calls Tryz.prog 30 #[.int .i64 n] w fun e w' => e = .returned (.bool (decide (2147483647 < n))) ∧ w' = w := by
  go_enter Tryz.func30, Tryz.ntmps30
  go_wp2
  go_ret
  exact ⟨rfl, rfl⟩
set_option maxHeartbeats 4000000 in
set_option maxRecDepth 100000 in
theorem heavy_any (A : Option Addr) (ca : Nat) (q : Nat → Pl) (l : List Ob) (w : World) (hA : ObsAt w A q l) (hS : ∀ i, i < l.length → SymsAt w (q i).A3 (ob l i).ss) (hL : ∀ i, i < l.length → LightO (ob l i)) :
    Calls Tryz.prog 5 #[.slice A l.length ca] w (HvL l w) := by
  by_cases hl : 64 < l.length
  · have hl' : (64 : Int) < (l.length : Int) := by omega
    clear hA hS hL
    go_enter Tryz.func5, Tryz.ntmps5
    go_wp2
    go_ret
    exact ⟨true, rfl, fun h => (by cases h), Below.refl _ _⟩
  · have hl' : ¬ (64 : Int) < (l.length : Int) := by omega
    have hl4 : l.length ≤ 64 := by omega
    have CZ : Hid (∀ wx, Below w.heap.size w wx → Calls Tryz.prog 31 #[.slice A l.length ca] wx (SzP l wx)) := fun wx hx => sizeobs_any A ca q l wx (hA.keep hx) (fun i hi => (hS i hi).keep hx) hL hl4
    clear hA hS hL hl
    go_enter Tryz.func5, Tryz.ntmps5
    go_wp2_with fail
    refine (CZ.out _ (Below.refl _ _)).mono ?_
    rintro e w1 ⟨n, rfl, hn, -, hb1⟩
    have HB1 : Hid (Below w.heap.size w w1) := hb1
    clear hb1
    go_wp2_with fail
    refine (long_any _ _).mono ?_
    rintro e w2 ⟨rfl, rfl⟩
    by_cases hlo : 2147483647 < n
    · have hlo' : (2147483647 : Int) < (n : Int) := by omega
      go_wp2
      go_ret
      exact ⟨true, rfl, fun h => (by cases h), HB1.out⟩
    · have hlo' : ¬ (2147483647 : Int) < (n : Int) := by omega
      go_wp2_with fail
      refine (CZ.out _ HB1.out).mono ?_
      rintro e w3 ⟨m, rfl, hm, hwt, hb3⟩
      have HB3 : Hid (Below w.heap.size w w3) := lb_trans HB1.out hb3
      have HWt : Hid (m ≤ 2147483647 → ∀ i, i < l.length → wtO (ob l i) ≤ m) := hwt
      clear hwt hb3
      go_wp2
      go_ret
      refine ⟨_, rfl, fun h => ⟨hl4, fun i hi => ?_⟩, HB3.out⟩
      have h1 : (n : Int) ≤ 2147483647 ∧ (m : Int) ≤ 524288 := by simpa using h
      have h2 := h1.2
      exact Nat.le_trans (HWt.out (by omega) i hi) (by omega)





end Go.Proofs.YthpkekpojhmaaaaGreatDoor

namespace Go.Proofs.YthpkekpojhmaaaaGreatDoor
open Go.ChangeShapes Go.WideShapes Go.ChangeAt Go.RowKit Go.Joins

/-- What is sure of an object that was handed in. -/
structure OpenO (w : World) (p : Pl) (o : Ob) : Prop where
  cd : IntsAt w p.A1 .u32 o.code
  dt : IntsAt w p.A2 .i64 o.data
  sy : SymsAt w p.A3 o.ss
  rl : RelsAt w p.A4 o.rs
  cr : ∀ i, i < o.code.length → 0 ≤ nth o.code i ∧ nth o.code i < 4294967296
  dr : ∀ i, i < o.data.length → In64 (nth o.data i)
  da : In64 o.dA
  light : LightO o
  r4 : o.rs.length ≤ p.c4
  none : NoneO p
theorem OpenO.inn {w : World} {p : Pl} {o : Ob} (h : OpenO w p o) (hw : wtO o ≤ 524288) : ObIn w p o := by
  unfold wtO at hw
  exact ⟨h.cd, h.dt, h.sy, h.rl, h.cr, h.dr, h.da, by omega, by omega, by omega, by omega, h.light.e, h.r4⟩
theorem weights_str {H : Type} (P : Program) (t : TypeId) (s : List UInt8) : s.length ∈ (DataW.lit (.string s) : DataW H).weights P t := by simp [DataW.weights]
theorem open_len {H : Type} {enc : TypeId × Value → H} {W : World} {base : Nat} {sp : Nat → Bool} {held : Bool} {fuel : Nat} {O : Option Addr} {n cap b : Nat} {x : DataW H × List MemPlace} {t e : TypeId} (ht : Tryz.prog.underlying t = some (.slice e)) (hb : Tryz.prog.bytesOf e = b) (h1 : 1 ≤ b)
    (h : DataW.trod enc Tryz.prog W base sp held fuel t [.slice O n cap] = some x) (hw : ∀ n ∈ x.1.weights Tryz.prog t, n ≤ reachBytes) : n ≤ 140737488355328 ∧ n ≤ cap := by
  rcases Deep.open_slice ht h with ⟨e0, _⟩ | ⟨a, len, cap', m, n', D, Pl, e0, _, hl, hm, hmm, hxx, hx⟩
  · cases e0
    exact ⟨Nat.zero_le _, Nat.le_refl _⟩
  · cases e0
    subst hxx
    have hu : DataW.weights Tryz.prog t (.slice ((List.range n).map D) ((List.range (m - n)).map fun j => D (n + j))) = (((List.range n).map D).length + ((List.range (m - n)).map fun j => D (n + j)).length) * Tryz.prog.bytesOf e :: (DataW.weightsAll Tryz.prog e ((List.range n).map D) ++ DataW.weightsAll Tryz.prog e ((List.range (m - n)).map fun j => D (n + j))) := by
      simp only [DataW.weights, ht]
    simp only [hu] at hw
    have h2 := hw _ (List.mem_cons_self ..)
    rw [hb] at h2
    simp only [List.length_map, List.length_range] at h2
    have h3 : (n + (m - n)) * 1 ≤ (n + (m - n)) * b := Nat.mul_le_mul_left _ h1
    have h4 : reachBytes ≤ 140737488355328 := by decide
    exact ⟨by omega, hl⟩
set_option maxRecDepth 100000 in
theorem open_ob {H : Type} {enc : TypeId × Value → H} {W : World} {base : Nat} {sp : Nat → Bool} {held : Bool} {fuel : Nat} {v0 v1 v2 v3 v4 v5 : Value} {x : DataW H × List MemPlace} (h : DataW.trod enc Tryz.prog W base sp held fuel 75 [v0, v1, v2, v3, v4, v5] = some x) (hw : ∀ n ∈ x.1.weights Tryz.prog 75, n ≤ reachBytes) :
    ∃ (o : Ob) (p : Pl), (v0 = .string o.nm ∧ v1 = .slice p.A1 o.code.length p.c1 ∧ v2 = .int .i64 o.dA ∧ v3 = .slice p.A2 o.data.length p.c2 ∧ v4 = .slice p.A3 o.ss.length p.c3 ∧ v5 = .slice p.A4 o.rs.length p.c4) ∧ OpenO W p o := by
  obtain ⟨xs, n, _, hdd, _, hlen, hf⟩ := DataW.trod_struct Tryz.underlying75 h
  match xs, hlen with
  | [y0, y1, y2, y3, y4, y5], _ =>
    have h0 := hf 0 _ rfl
    have h1 := hf 1 _ rfl
    have h2 := hf 2 _ rfl
    have h3 := hf 3 _ rfl
    have h4 := hf 4 _ rfl
    have h5 := hf 5 _ rfl
    simp [show Tryz.prog.cellsOf 9 = 1 by kernel_rfl, show Tryz.prog.cellsOf 26 = 1 by kernel_rfl, show Tryz.prog.cellsOf 3 = 1 by kernel_rfl, show Tryz.prog.cellsOf 27 = 1 by kernel_rfl, show Tryz.prog.cellsOf 72 = 1 by kernel_rfl, show Tryz.prog.cellsOf 73 = 1 by kernel_rfl] at h0 h1 h2 h3 h4 h5
    obtain ⟨nm, e0, ey, _⟩ := DataW.trod_string Tryz.underlying9 h0
    obtain ⟨A1, c1, code, e1, k1, _, r1, u1⟩ := open_i Tryz.underlying26 Tryz.underlying78 (by kernel_rfl) h1
    obtain ⟨dA, e2, _, w2⟩ := DataW.trod_int Tryz.underlying3 h2
    obtain ⟨A2, c2, data, e3, k3, _, r3, u2⟩ := open_i Tryz.underlying27 Tryz.underlying2 (by kernel_rfl) h3
    obtain ⟨A3, c3, ss, e4, k4, n4, _, u3⟩ := open_syms h4
    obtain ⟨A4, c4, rs, e5, k5, _, u4⟩ := open_rels h5
    have hd : x.1 = .agg [y0.1, y1.1, y2.1, y3.1, y4.1, y5.1] := congrArg Prod.fst hdd
    rw [hd] at hw
    simp only [DataW.weights, Tryz.underlying75] at hw
    have g0 : ∀ n ∈ y0.1.weights Tryz.prog 9, n ≤ reachBytes := fun n hn => hw n (DataW.weights_mem_each (j := 0) (t := 9) rfl rfl n hn)
    have g1 : ∀ n ∈ y1.1.weights Tryz.prog 26, n ≤ reachBytes := fun n hn => hw n (DataW.weights_mem_each (j := 1) (t := 26) rfl rfl n hn)
    have g3 : ∀ n ∈ y3.1.weights Tryz.prog 27, n ≤ reachBytes := fun n hn => hw n (DataW.weights_mem_each (j := 3) (t := 27) rfl rfl n hn)
    have g4 : ∀ n ∈ y4.1.weights Tryz.prog 72, n ≤ reachBytes := fun n hn => hw n (DataW.weights_mem_each (j := 4) (t := 72) rfl rfl n hn)
    have g5 : ∀ n ∈ y5.1.weights Tryz.prog 73, n ≤ reachBytes := fun n hn => hw n (DataW.weights_mem_each (j := 5) (t := 73) rfl rfl n hn)
    simp at e0 e1 e2 e3 e4 e5
    subst e0 e1 e2 e3 e4 e5
    have l1 := open_len Tryz.underlying26 (b := 4) (by kernel_rfl) (by omega) h1 g1
    have l3 := open_len Tryz.underlying27 (b := 8) (by kernel_rfl) (by omega) h3 g3
    have l4 := open_len Tryz.underlying72 (b := 32) (by kernel_rfl) (by omega) h4 g4
    have l5 := open_len Tryz.underlying73 (b := 16) (by kernel_rfl) (by omega) h5 g5
    have hR : reachBytes ≤ 140737488355328 := by decide
    have l0 : nm.size ≤ 140737488355328 := by
      have h7 := g0 nm.data.toList.length (by rw [ey]; exact weights_str _ _ _)
      have h8 : nm.data.toList.length = nm.size := rfl
      omega
    refine ⟨⟨nm, code, dA, data, ss, rs⟩, ⟨A1, A2, A3, A4, c1, c2, c3, c4⟩, ⟨rfl, rfl, rfl, rfl, rfl, rfl⟩, ⟨k1, k3, k4, k5, fun i hi => ?_, fun i hi => ?_, ?_, ⟨l0, l1.1, l3.1, l4.1, l5.1, fun i => Nat.le_trans ((n4 g4).2 i) hR⟩, l5.2, ⟨u1, u2, u3, u4⟩⟩⟩
    · have := r1 i hi
      show 0 ≤ nth code i ∧ nth code i < 4294967296
      simp [Lit.wf, IntKind.min, IntKind.max, IntKind.signed, IntKind.bits] at this
      omega
    · have := r3 i hi
      show In64 (nth data i)
      simp [Lit.wf, IntKind.min, IntKind.max, IntKind.signed, IntKind.bits] at this
      unfold In64
      omega
    · simp [Lit.wf, IntKind.min, IntKind.max, IntKind.signed, IntKind.bits] at w2
      show In64 dA
      unfold In64
      omega
theorem six_list {α : Type} : ∀ {l : List α}, l.length = 6 → ∃ a b c d e f, l = [a, b, c, d, e, f]
  | [a, b, c, d, e, f], _ => ⟨a, b, c, d, e, f, rfl⟩
set_option maxRecDepth 100000 in
theorem openObs {H : Type} {enc : TypeId × Value → H} {W : World} {b0 base : Nat} {spare : Nat → Bool} {held : Bool} {v : Value} {d : DataW H} {p : List MemPlace}
    (hv : Value.okWide Tryz.prog W .any b0 22 v) (h : DataW.Trod enc Tryz.prog W base spare held 22 v d p) (hw : ∀ n ∈ d.weights Tryz.prog 22, n ≤ reachBytes) :
    ∃ (A : Option Addr) (cap : Nat) (q : Nat → Pl) (l : List Ob), v = .slice A l.length cap ∧ ObsAt W A q l ∧ ∀ i, i < l.length → OpenO W (q i) (ob l i) := by
  obtain ⟨a0, len0, c0, rfl⟩ := okWide_slice Tryz.underlying22 hv
  obtain ⟨fuel, hf⟩ := h
  rcases Deep.open_slice Tryz.underlying22 hf with ⟨e0, _⟩ | ⟨a, len, cap, m, n, D, Pl, e0, _, hl, hm, hmm, hxx, hx⟩
  · have e1 : (Value.slice a0 len0 c0) = .slice none 0 0 := by simpa [Value.cells] using e0
    exact ⟨none, 0, fun _ => plD, [], e1, fun i hi => by simp at hi, fun i hi => by simp at hi⟩
  · have e1 : (Value.slice a0 len0 c0) = .slice (some a) len cap := by simpa [Value.cells] using e0
    have hlm : len ≤ m := by rw [hmm]; split <;> omega
    have hd : d = .slice ((List.range len).map D) ((List.range (m - len)).map fun j => D (len + j)) := congrArg Prod.fst hxx
    subst hd
    have hu : DataW.weights Tryz.prog 22 (.slice ((List.range len).map D) ((List.range (m - len)).map fun j => D (len + j))) = (((List.range len).map D).length + ((List.range (m - len)).map fun j => D (len + j)).length) * Tryz.prog.bytesOf 75 :: (DataW.weightsAll Tryz.prog 75 ((List.range len).map D) ++ DataW.weightsAll Tryz.prog 75 ((List.range (m - len)).map fun j => D (len + j))) := by
      simp only [DataW.weights, Tryz.underlying22]
    simp only [hu] at hw
    have each : ∀ i, ∃ op : Ob × Go.Proofs.YthpkekpojhmaaaaGreatDoor.Pl, i < len → (W.cell? (a.add (i * 6)) = some (.string op.1.nm) ∧ W.cell? ((a.add (i * 6)).add 1) = some (.slice op.2.A1 op.1.code.length op.2.c1) ∧ W.cell? ((a.add (i * 6)).add 2) = some (.int .i64 op.1.dA) ∧ W.cell? ((a.add (i * 6)).add 3) = some (.slice op.2.A2 op.1.data.length op.2.c2) ∧ W.cell? ((a.add (i * 6)).add 4) = some (.slice op.2.A3 op.1.ss.length op.2.c3) ∧ W.cell? ((a.add (i * 6)).add 5) = some (.slice op.2.A4 op.1.rs.length op.2.c4)) ∧ OpenO W op.2 op.1 := by
      intro i
      by_cases hi : i < len
      · obtain ⟨cs', h1, h2⟩ := hx i (by omega)
        rw [show Tryz.prog.cellsOf 75 = 6 by kernel_rfl] at h1
        obtain ⟨_, hlen, hcell⟩ := World.cells?_some h1
        obtain ⟨v0, v1, v2, v3, v4, v5, rfl⟩ := six_list hlen
        have q0 := hcell 0 (by omega)
        have q1 := hcell 1 (by omega)
        have q2 := hcell 2 (by omega)
        have q3 := hcell 3 (by omega)
        have q4 := hcell 4 (by omega)
        have q5 := hcell 5 (by omega)
        obtain ⟨o, p, ⟨e0, e1, e2, e3, e4, e5⟩, hO⟩ := open_ob h2 (fun n hn => hw n (List.mem_cons_of_mem _ (List.mem_append_left _ (mem_all (d := D i) (List.mem_map.2 ⟨i, by simpa using hi, rfl⟩) hn))))
        subst e0 e1 e2 e3 e4 e5
        exact ⟨(o, p), fun _ => ⟨⟨by rw [Deep.add_add] at q0; simpa using q0, by simpa using q1, by simpa using q2, by simpa using q3, by simpa using q4, by simpa using q5⟩, hO⟩⟩
      · exact ⟨(obD, plD), fun h => absurd h hi⟩
    obtain ⟨f, hf⟩ := Classical.axiomOfChoice each
    have hob : ∀ i, i < len → ob ((List.range len).map fun i => (f i).1) i = (f i).1 := fun i hi => mk_at _ _ _ _ hi
    refine ⟨some a, cap, fun i => (f i).2, (List.range len).map fun i => (f i).1, by rw [e1]; simp, fun i hi => ?_, fun i hi => ?_⟩
    · have hi' : i < len := by simpa using hi
      rw [hob i hi']
      exact ⟨a, rfl, (hf i hi').1⟩
    · have hi' : i < len := by simpa using hi
      rw [hob i hi']
      exact (hf i hi').2




end Go.Proofs.YthpkekpojhmaaaaGreatDoor

namespace Go.Proofs.YthpkekpojhmaaaaGreatDoor
open Go.RowKit

attribute [local go_sem] Oper.semAt_some

theorem layout_any (A : Option Addr) (n ca : Nat) (w : World) : Calls Tryz.prog 92 #[.slice A n ca] w fun e w' => e = .returned (.func (.func 142) #[] #[.pointer (some ⟨w.heap.size, 0, none⟩)]) ∧ w' = w.alloc (.cells #[.slice A n ca] 22) := by
  go_enter Tryz.func92, Tryz.ntmps92
  go_wp2
  go_ret
  exact ⟨rfl, rfl⟩
/-- What a range's own doing may turn: blocks of objects and whatever is no cells, from n on. -/
structure Turn (n : Nat) (W W' : World) : Prop where
  os : W'.os = W.os
  tape : W'.tape = W.tape
  output : W'.output = W.output
  size : W.heap.size ≤ W'.heap.size
  low : ∀ b, b < n → W'.heap[b]? = W.heap[b]?
  cells : ∀ (b : Nat) (cs : Array Value) (t : TypeId) (m : Nat × Nat), W.heap[b]? = some (.cells cs t m) → t ≠ 75 → W'.heap[b]? = W.heap[b]?
theorem Turn.trans {n : Nat} {A B C : World} (h : Turn n A B) (k : Turn n B C) : Turn n A C :=
  ⟨k.os.trans h.os, k.tape.trans h.tape, k.output.trans h.output, Nat.le_trans h.size k.size, fun b hb => (k.low b hb).trans (h.low b hb), fun b cs t m e ht => (k.cells b cs t m ((h.cells b cs t m e ht).trans e) ht).trans (h.cells b cs t m e ht)⟩
theorem Turn.alloc {n : Nat} (W : World) (o : Obj) (hn : n ≤ W.heap.size) : Turn n W (W.alloc o) :=
  ⟨rfl, rfl, rfl, by simp, fun b hb => Below.heap_alloc W o b (by omega), fun b _ _ _ e _ => Below.heap_alloc W o b (Array.getElem?_eq_some_iff.1 e).1⟩
theorem Turn.put {n l : Nat} {W : World} {o o' : Obj} (h : W.heap[l]? = some o) (ho : o.isCells = false) (hn : n ≤ l) : Turn n W (W.putObj l o') :=
  ⟨rfl, rfl, rfl, by simp, fun b hb => World.putObj_heap_other (by omega), fun b cs t m e _ => World.putObj_heap_other (fun e2 => by rw [e2, h] at e; cases e; cases ho)⟩
theorem Turn.set {n B i : Nat} {W : World} {v : Value} {cs : Array Value} {m : Nat × Nat} (h : W.heap[B]? = some (.cells cs 75 m)) (hn : n ≤ B) : Turn n W (W.setCell ⟨B, i, none⟩ v) :=
  ⟨rfl, rfl, rfl, by simp [World.setCell], fun b hb => Below.heap_setCell _ _ _ _ (Nat.ne_of_lt (Nat.lt_of_lt_of_le hb hn)), fun b _ t _ e ht => Below.heap_setCell _ _ _ _ (fun e2 => by rw [e2, h] at e; cases e; exact ht rfl)⟩
/-- What a round must keep: what lay below n0; from n1 on blocks of objects and whatever is no cells. -/
structure Kept (n0 n1 : Nat) (W W' : World) : Prop where
  low : Below n0 W W'
  other : ∀ (b : Nat) (o : Obj), W.heap[b]? = some o → n1 ≤ b → o.isCells = false → W'.heap[b]? = some o
  objs : ∀ (b : Nat) (cs : Array Value) (m : Nat × Nat), W.heap[b]? = some (.cells cs 75 m) → n1 ≤ b → W'.heap[b]? = some (.cells cs 75 m)
theorem Kept.trans {n0 n1 : Nat} {A B C : World} (h : Kept n0 n1 A B) (k : Kept n0 n1 B C) : Kept n0 n1 A C :=
  ⟨h.low.trans k.low, fun b o e hb ho => k.other b o (h.other b o e hb ho) hb ho, fun b cs m e hb => k.objs b cs m (h.objs b cs m e hb) hb⟩
theorem Kept.refl (n0 n1 : Nat) (W : World) : Kept n0 n1 W W := ⟨Below.refl _ _, fun _ _ h _ _ => h, fun _ _ _ h _ => h⟩
theorem Kept.of {n0 n1 : Nat} {W W' : World} (h : Below W.heap.size W W') (hn : n0 ≤ W.heap.size) : Kept n0 n1 W W' :=
  ⟨h.mono hn, fun b _o e _ _ => (h.block b (Array.getElem?_eq_some_iff.1 e).1).trans e, fun b _ _ e _ => (h.block b (Array.getElem?_eq_some_iff.1 e).1).trans e⟩
/-- A change of one block of cells of another type. -/
theorem Kept.grown {n0 n1 g : Nat} {W W' : World} {cs : Array Value} {t : TypeId} {m : Nat × Nat} (h : W.grownBy W' (some g)) (hg : W.heap[g]? = some (.cells cs t m)) (ht : t ≠ 75) (hn : n0 ≤ g) : Kept n0 n1 W W' := by
  have hlt := (Array.getElem?_eq_some_iff.1 hg).1
  refine ⟨⟨h.os, h.tape, h.output, h.size, fun k hk => h.block k (by omega) (fun e => by cases e; omega)⟩, fun b o e _ ho => ?_, fun b c2 m2 e _ => ?_⟩
  · exact (h.block b (Array.getElem?_eq_some_iff.1 e).1 (fun e2 => by cases e2; rw [hg] at e; cases e; cases ho)).trans e
  · exact (h.block b (Array.getElem?_eq_some_iff.1 e).1 (fun e2 => by cases e2; rw [hg] at e; cases e; exact ht rfl)).trans e
theorem Kept.grown0 {n0 n1 : Nat} {W W' : World} (h : W.grownBy W' none) (hn : n0 ≤ W.heap.size) : Kept n0 n1 W W' :=
  Kept.of ⟨h.os, h.tape, h.output, h.size, fun k hk => h.block k hk (by simp)⟩ hn
/-- What the iterator itself asks. -/
structure KeptO (n0 n1 : Nat) (W W' : World) : Prop where
  low : Below n0 W W'
  objs : ∀ (b : Nat) (cs : Array Value) (m : Nat × Nat), W.heap[b]? = some (.cells cs 75 m) → n1 ≤ b → W'.heap[b]? = some (.cells cs 75 m)
theorem KeptO.trans {n0 n1 : Nat} {A B C : World} (h : KeptO n0 n1 A B) (k : KeptO n0 n1 B C) : KeptO n0 n1 A C := ⟨h.low.trans k.low, fun b cs m e hb => k.objs b cs m (h.objs b cs m e hb) hb⟩
theorem Kept.o {n0 n1 : Nat} {W W' : World} (h : Kept n0 n1 W W') : KeptO n0 n1 W W' := ⟨h.low, h.objs⟩
theorem KeptO.put {n0 n1 l : Nat} {W : World} {o o' : Obj} (h : W.heap[l]? = some o) (ho : o.isCells = false) (hn : n0 ≤ l) : KeptO n0 n1 W (W.putObj l o') :=
  ⟨⟨rfl, rfl, rfl, by simp, fun b hb => World.putObj_heap_other (by omega)⟩, fun b cs m e _ => (World.putObj_heap_other (fun e2 => by rw [e2, h] at e; cases e; cases ho)).trans e⟩
theorem sum_fits {l : List Ob} {i : Nat} (h : ∀ j, j < l.length → (ob l j).code.length ≤ 1048576) (hl : l.length ≤ 64) (hi : i ≤ l.length) : bsF l i ≤ 67108928 := by
  have := bsF_some (l := l) (i := i) (fun j hj => h j (by omega))
  omega
set_option maxRecDepth 100000 in
set_option maxHeartbeats 8000000 in
/-- The iterator: each object's number and base, in order. -/
theorem layout1_any (n : Nat) (hn : 1 ≤ n) (l0 Bs n0 n1 : Nat) (A : Option Addr) (ca : Nat) (q : Nat → Pl) (l : List Ob) (w0 : World) (J Jx : Nat → World → Prop)
    (hJ : ∀ k W W', J k W → Below W.heap.size W W' → J k W') (hO : ∀ W, Below n0 w0 W → ObsIn W A q l) (hJb : ∀ k W, J k W → Below n0 w0 W ∧ n1 ≤ W.heap.size)
    (hY : ∀ k W, k < l.length → J k W → YieldAt Fence.wide (n - 1) Tryz.prog l0 #[.int .i64 (k : Int), .int .i64 (bsF l k : Int)] W fun e W' => (e = .returned (.bool true) ∧ J (k + 1) W' ∧ KeptO n0 n1 W W') ∨ (e = .returned (.bool false) ∧ Jx k W'))
    (W : World) (hBs : W.cell? ⟨Bs, 0, none⟩ = some (.slice A l.length ca)) (h0 : J 0 W) :
    CallsIn Fence.wide n Tryz.prog 142 #[.func (.yield l0) #[] #[], .pointer (some ⟨Bs, 0, none⟩)] W fun e W' => (∃ v, e = .returned v) ∧ (J l.length W' ∨ ∃ k, k < l.length ∧ Jx k W') := by
  have HJ : Hid (∀ k W W', J k W → Below W.heap.size W W' → J k W') := hJ
  have HO : Hid (∀ W, Below n0 w0 W → ObsIn W A q l) := hO
  have HJb : Hid (∀ k W, J k W → Below n0 w0 W ∧ n1 ≤ W.heap.size) := hJb
  have HY : Hid _ := hY
  have hf := (hO _ (hJb 0 W h0).1).few
  have HC : Hid (∀ j, j < l.length → (ob l j).code.length ≤ 1048576) := fun j hj => ((hO _ (hJb 0 W h0).1).each j hj).hc
  clear hJ hO hJb hY
  refine callsIn_of_wp Tryz.func142 rfl trivial ?_ rfl
  simp only [Tryz.ntmps142, List.size_toArray, List.length_cons, List.length_nil, Nat.reduceAdd, Nat.reduceSub, Array.replicate_succ, Array.replicate_zero, List.push_toArray, List.append_toArray, List.nil_append, List.cons_append]
  gi_wp2
  gi_loopw [3, 8] (fun b i wr => ∃ k : Nat, k ≤ l.length ∧ i = .int .i64 k ∧ b = .int .i64 (bsF l k : Int) ∧ Hid (J k wr)) (fun _ i _ => l.length - (intOf i).toNat)
  case atStart => exact ⟨0, Nat.zero_le _, rfl, rfl, h0⟩
  case round =>
    obtain ⟨k, hk, rfl, rfl, HJk⟩ := hrel
    by_cases hlt : k < l.length
    · have hlt' : (k : Int) < (l.length : Int) := by omega
      obtain ⟨hb, hs⟩ := HJb.out k wr HJk.out
      obtain ⟨a, ea, x0, x1, x2, x3, x4, x5⟩ := (HO.out wr hb).cells.six (Below.refl _ _) k hlt
      subst ea
      have hcl := HC.out k hlt
      have hsf := sum_fits HC.out hf (Nat.le_of_lt hlt)
      obtain ⟨fn, tmps, assign, body, hy, hR⟩ := HY.out k (wr.alloc (.cells #[.string (ob l k).nm, .slice (q k).A1 (ob l k).code.length (q k).c1, .int .i64 (ob l k).dA, .slice (q k).A2 (ob l k).data.length (q k).c2, .slice (q k).A3 (ob l k).ss.length (q k).c3, .slice (q k).A4 (ob l k).rs.length (q k).c4] 75)) hlt (HJ.out k wr _ HJk.out (lb_alloc (Below.refl _ _) _))
      gi_wp2
      refine hR.mono ?_
      rintro e W3 (⟨rfl, hJ3, hk3⟩ | ⟨rfl, hJx3⟩)
      · have HJ3 : Hid (J (k + 1) W3) := hJ3
        have hc1 : W3.cell? ⟨wr.heap.size, 1, none⟩ = some (.slice (q k).A1 (ob l k).code.length (q k).c1) := by
          have := hk3.objs wr.heap.size _ _ (heap_alloc_new wr _) hs
          simp [World.cell?, this]
        clear hJ3 hk3 hR hy
        gi_wp2
        go_roundw
        case rel => exact ⟨k + 1, by omega, by go_num, by rw [bsF]; go_num, HJ3⟩
        case measure => simp [intOf]; omega
      · gi_wp2
        refine bodyPost_ret (results_none rfl _ _ _) rfl ?_
        exact ⟨⟨_, rfl⟩, .inr ⟨k, hlt, hJx3⟩⟩
    · obtain rfl : k = l.length := by omega
      have hlt' : ¬ ((l.length : Int) < (l.length : Int)) := by omega
      gi_wp2
      go_end0
      exact ⟨⟨_, rfl⟩, .inl HJk.out⟩

theorem Turn.of {n : Nat} {W W' : World} (h : Below W.heap.size W W') (hn : n ≤ W.heap.size) : Turn n W W' :=
  ⟨h.os, h.tape, h.output, h.size, fun b hb => h.block b (by omega), fun b _ _ _ e _ => h.block b (Array.getElem?_eq_some_iff.1 e).1⟩
/-- How a round's body may be left. -/
def RoundQ (n0 n1 : Nat) (I Ix : Nat → World → Prop) (k : Nat) (W : World) : Exit → Act → World → Prop
  | .normal, _, W' => Kept n0 n1 W W' ∧ I (k + 1) W'
  | .ret, _, W' => Kept n0 n1 W W' ∧ Ix k W'
  | _, _, _ => False
set_option maxHeartbeats 2000000 in
/-- A range over the layout. -/
theorem range_layout {g : Operand} {ps : Array Tmp} {assign body : Code} {Q : Exit → Act → World → Prop} {a : Act} {w : World} (n : Nat) (hn : 2 ≤ n) (n0 Bs : Nat) (A : Option Addr) (ca : Nat) (q : Nat → Pl) (l : List Ob) (w0 : World)
    (hg : a.eval g = .func (.func 142) #[] #[.pointer (some ⟨Bs, 0, none⟩)]) (hBs : w.cell? ⟨Bs, 0, none⟩ = some (.slice A l.length ca)) (hps : ps.size = 2)
    (hO : ∀ W, Below n0 w0 W → ObsIn W A q l) (hn0 : n0 ≤ w.heap.size) (I Ix : Nat → World → Prop)
    (hI : ∀ k W W', I k W → Turn w.heap.size W W' → I k W') (hIx : ∀ k W W', Ix k W → Turn w.heap.size W W' → Ix k W') (hIb : ∀ k W, I k W → Below n0 w0 W) (h0 : I 0 w) (a₁ : Nat → Act)
    (hassign : ∀ (l0 k : Nat) (W : World) (K : Act → World → Prop), K (a₁ k) W → assign.wpIn (Fence.wide.inRound l0) (n - 1 - 1) Tryz.prog (Exit.then K (fun _ _ _ => False)) { tmps := (ps.zip #[.int .i64 (k : Int), .int .i64 (bsF l k : Int)]).foldl (fun t (p, v) => t.setIfInBounds p v) a.tmps, defers := [] } W)
    (hbody : ∀ (l0 k : Nat) (W : World), k < l.length → w.heap.size ≤ W.heap.size → I k W → body.wpIn (Fence.wide.inRound l0) (n - 1 - 1) Tryz.prog (RoundQ n0 w.heap.size I Ix k W) (a₁ k) W)
    (hdone : ∀ (D : Nat) (W : World), w.heap.size ≤ D → I l.length W → W.heap[D]? = some (.deferred (some [])) → Q .normal { a with defers := { target := .collected D, args := #[] } :: a.defers } W)
    (hstop : ∀ (D k : Nat) (W : World), w.heap.size ≤ D → k < l.length → Ix k W → W.heap[D]? = some (.deferred (some [])) → Q .ret { a with defers := { target := .collected D, args := #[] } :: a.defers } W) :
    (Code.rangeFunc g ps assign body).wpIn Fence.wide n Tryz.prog Q a w := by
  refine wpIn_rangeFunc fun fn hfn => ?_
  obtain ⟨rec, hrec⟩ : ∃ rec : LoopState → Option Code → Loop, rec = fun st pe => { state := st, pending := pe, fn, tmps := a.tmps, params := ps, assign, body, defers := w.heap.size } := ⟨_, rfl⟩
  obtain ⟨W1, hW1⟩ : ∃ W1, (w.alloc (.deferred (some []))).alloc (.loop (rec .ready none)) = W1 := ⟨_, rfl⟩
  have b1 : Below w.heap.size w W1 := by rw [← hW1]; exact lb_alloc (lb_alloc (Below.refl _ _) _) _
  have L1 : W1.heap[w.heap.size + 1]? = some (.loop (rec .ready none)) := by
    rw [← hW1]; have := World.alloc_heap_new (w.alloc (.deferred (some []))) (.loop (rec .ready none)); rwa [World.size_alloc] at this
  have D1 : W1.heap[w.heap.size]? = some (.deferred (some [])) := by
    rw [← hW1]; exact (Below.heap_alloc _ _ _ (by simp)).trans (World.alloc_heap_new w _)
  have size : ∀ {W : World} {o : Obj}, W.heap[w.heap.size + 1]? = some o → w.heap.size ≤ W.heap.size := fun h => by
    have := (Array.getElem?_eq_some_iff.1 h).1
    omega
  refine ⟨w.heap.size + 1, [{ target := .collected w.heap.size, args := #[] }], W1, { target := .fn (.func 142) #[.pointer (some ⟨Bs, 0, none⟩)], args := #[.func (.yield (w.heap.size + 1)) #[] #[]] }, W1, 142, #[.func (.yield (w.heap.size + 1)) #[] #[], .pointer (some ⟨Bs, 0, none⟩)], W1, ?_, ?_, fun _ _ => trivial, ?_, (fun h => by cases h), ?_⟩
  · rw [← hW1, hrec]; exact run_enterLoop_outer _ _ _ _ _
  · simp only [resolve, hg]
    simp [go_sem]
  · have eg := enters_of Tryz.func142 (by kernel_rfl) rfl
    simp [invoke, go_sem, eg _ _]
  · refine (layout1_any (n - 1) (by omega) (w.heap.size + 1) Bs n0 w.heap.size A ca q l w0
      (fun k W => I k W ∧ W.heap[w.heap.size + 1]? = some (.loop (rec .ready none)) ∧ W.heap[w.heap.size]? = some (.deferred (some [])))
      (fun k W => Ix k W ∧ W.heap[w.heap.size + 1]? = some (.loop (rec .done (some .ret))) ∧ W.heap[w.heap.size]? = some (.deferred (some [])))
      (fun k W W' h hb => ⟨hI k W W' h.1 (Turn.of hb (size h.2.1)), (hb.block _ (Array.getElem?_eq_some_iff.1 h.2.1).1).trans h.2.1, (hb.block _ (Array.getElem?_eq_some_iff.1 h.2.2).1).trans h.2.2⟩)
      hO (fun k W h => ⟨hIb k W h.1, size h.2.1⟩) ?round W1 (lkeep b1 hBs) ⟨hI 0 w W1 h0 (Turn.of b1 (Nat.le_refl _)), L1, D1⟩).mono ?_
    case round =>
      rintro k W hk ⟨hi, hl, hd⟩
      have hlt : w.heap.size + 1 < W.heap.size := (Array.getElem?_eq_some_iff.1 hl).1
      have hy := run_yield (P := Tryz.prog) (args := #[.int .i64 (k : Int), .int .i64 (bsF l k : Int)]) hl (by rw [hrec]; simp [hps])
      rw [hrec] at hy
      refine ⟨fn, _, assign, body, hy, roundIn_of_wpIn hfn (hassign _ k W _ ⟨_, run_beginRound hl (by rw [hrec]), ?_⟩)⟩
      have l2 : (W.putObj (w.heap.size + 1) (.loop { rec .ready none with state := .busy })).heap[w.heap.size + 1]? = some (.loop { rec .ready none with state := .busy }) := World.putObj_heap_same hlt
      have d2 : (W.putObj (w.heap.size + 1) (.loop { rec .ready none with state := .busy })).heap[w.heap.size]? = some (.deferred (some [])) := (World.putObj_heap_other (by omega)).trans hd
      refine wpIn_mono (hbody _ k _ hk (by simp; omega) (hI k W _ hi (Turn.put hl rfl (by omega)))) ?_
      intro e a3 W3 hp
      cases e with
      | normal =>
        obtain ⟨k3, i3⟩ := hp
        have l3 := k3.other _ _ l2 (by omega) rfl
        have d3 := k3.other _ _ d2 (Nat.le_refl _) rfl
        have hr := run_endRound (P := Tryz.prog) none l3
        refine ⟨_, _, hr, .inl ⟨rfl, ⟨hI _ _ _ i3 (Turn.put l3 rfl (by omega)), ?_, (World.putObj_heap_other (by omega)).trans d3⟩, (KeptO.put hl rfl (by omega)).trans (k3.o.trans (KeptO.put l3 rfl (by omega)))⟩⟩
        rw [World.putObj_heap_same (Array.getElem?_eq_some_iff.1 l3).1, hrec]
        rfl
      | ret =>
        obtain ⟨k3, i3⟩ := hp
        have l3 := k3.other _ _ l2 (by omega) rfl
        have d3 := k3.other _ _ d2 (Nat.le_refl _) rfl
        have hr := run_endRound (P := Tryz.prog) (some .ret) l3
        refine ⟨_, _, hr, .inr ⟨rfl, hIx _ _ _ i3 (Turn.put l3 rfl (by omega)), ?_, (World.putObj_heap_other (by omega)).trans d3⟩⟩
        rw [World.putObj_heap_same (Array.getElem?_eq_some_iff.1 l3).1, hrec]
        rfl
      | exit id => exact hp.elim
      | goto t => exact hp.elim
      | panic ch => exact hp.elim
      | outgrown => exact hp.elim
    rintro e W2 ⟨⟨v, rfl⟩, ⟨hi, hl, hd⟩ | ⟨k, hk, hi, hl, hd⟩⟩
    · exact ⟨none, _, by have := run_endLoop (P := Tryz.prog) hl (by rw [hrec]; simp); rw [hrec] at this; exact this, hdone _ _ (Nat.le_refl _) (hI _ _ _ hi (Turn.put hl rfl (by omega))) ((World.putObj_heap_other (by omega)).trans hd)⟩
    · exact ⟨some .ret, _, by have := run_endLoop (P := Tryz.prog) hl (by rw [hrec]; simp); rw [hrec] at this; exact this, wpIn_ret (hstop _ k _ (Nat.le_refl _) hk (hIx _ _ _ hi (Turn.put hl rfl (by omega))) ((World.putObj_heap_other (by omega)).trans hd))⟩

end Go.Proofs.YthpkekpojhmaaaaGreatDoor

namespace Go.Proofs.YthpkekpojhmaaaaGreatDoor
open Go.RowKit


theorem Fr.cell {rs : List (Value × Nat)} {w0 w : World} (h : Fr rs w0 w) {a : Addr} {v : Value} (hc : w0.cell? a = some v) (hB : ∀ m, m < rs.length → (rv rs m).ownBlock ≠ some a.block) : w.cell? a = some v :=
  (World.cell?_of_block (h.block a.block (World.block_lt_of_cell? w0 a hc) hB)).trans hc
theorem Fr.refl (rs : List (Value × Nat)) (w : World) : Fr rs w w := ⟨rfl, rfl, rfl, Nat.le_refl _, fun _ _ _ => rfl⟩
/-- A row's value, written out. -/
/-- The value at a place of a list of lists. -/
theorem vn_get (l : List Value) (m : Nat) (h : m < l.length) : l[m]? = some (vn l m) := by simp [vn, h]
theorem outer_at {w : World} {TS : TypeId} {A : Option Addr} {n cV : Nat} {l : List Value} (h : w.ownsRow 0 TS 1 (.slice A n cV) n l) (m : Nat) (hm : m < n) : ∃ a, A = some a ∧ w.cell? (a.add m) = some (vn l m) := by
  have hl : l.length = n := by have := h.1; omega
  obtain ⟨g, cap, e, _, _⟩ := h.form (by omega)
  cases e
  exact ⟨_, rfl, h.cells rfl m _ (vn_get l m (by omega))⟩
theorem bag_at {rs : List (Value × Nat)} {w : World} {TS : TypeId} {A : Option Addr} {cV : Nat} (h : w.ownsRow 0 TS 1 (.slice A rs.length cV) rs.length (rs.map Prod.fst)) (m : Nat) (hm : m < rs.length) : ∃ a, A = some a ∧ w.cell? (a.add m) = some (rv rs m) := by
  rw [← vn_map rs m hm]
  exact outer_at h m hm
/-- A cell of a row. -/
theorem row_cell {w : World} {e : TypeId} {size g n c : Nat} {xs : List Value} (h : w.ownsRow 0 e size (.slice (some ⟨g, 0, none⟩) n c) n xs) (j : Nat) (hj : j < n * size) : ∃ u, w.cell? ((⟨g, 0, none⟩ : Addr).add j) = some u :=
  ⟨_, h.cells rfl j _ (List.getElem?_eq_getElem (by rw [h.1]; exact hj))⟩

theorem row_cell0 {w : World} {e : TypeId} {size g n c : Nat} {xs : List Value} (h : w.ownsRow 0 e size (.slice (some ⟨g, 0, none⟩) n c) n xs) (j : Nat) (hj : j < n * size) : ∃ u, w.cell? ⟨g, j, none⟩ = some u := by
  obtain ⟨u, hu⟩ := row_cell h j hj
  rw [Addr.add_lit, Nat.zero_add] at hu
  exact ⟨u, hu⟩
theorem take_set {xs M : List Value} {p : Nat} (h : xs.take p = M) (hp : p < xs.length) (u : Value) : (xs.set p u).take (p + 1) = M ++ [u] := by
  rw [List.take_set, List.take_succ_eq_append_getElem hp, h]
  have hl : M.length = p := by rw [← h, List.length_take]; omega
  rw [List.set_append_right _ _ (by omega), hl, Nat.sub_self]
  rfl
/-- Marks being written, cell by cell. -/
structure Wm (T TS : TypeId) (size : Nat) (mk : Nat → Nat → List Value) (rs : List (Value × Nat)) (V : Value) (w0 w : World) (n i : Nat) : Prop where
  wr : Wr T size mk rs w n i
  bag : w.ownsRow 0 TS 1 V rs.length (rs.map Prod.fst)
  fr : Fr rs w0 w
section
variable {T TS : TypeId} {size : Nat} {mk : Nat → Nat → List Value} {rs : List (Value × Nat)} {V : Value} {w0 w : World} {n i : Nat}
theorem Wm.next (h : Wm T TS size mk rs V w0 w n (rl rs n)) : Wm T TS size mk rs V w0 w (n + 1) 0 := ⟨h.wr.next, h.bag, h.fr⟩
theorem Wm.start (hV : w.ownsRow 0 TS 1 V rs.length (rs.map Prod.fst)) (hR : ∀ m, m < rs.length → ∃ xs, w.ownsRow 0 T size (rv rs m) (rl rs m) xs) : Wm T TS size mk rs V w w 0 0 :=
  ⟨fun m hm => by
    obtain ⟨xs, hx⟩ := hR m hm
    exact ⟨xs, hx, fun h => by omega, fun _ => by simp [marks]⟩, hV, Fr.refl rs w⟩
theorem Wm.row (h : Wm T TS size mk rs V w0 w n i) {m : Nat} (hm : m < rs.length) : ∃ xs, w.ownsRow 0 T size (rv rs m) (rl rs m) xs := by
  obtain ⟨xs, hx, _⟩ := h.wr m hm
  exact ⟨xs, hx⟩
/-- A mark is written. -/
theorem Wm.step {w' : World} (hs : Sep rs) (hT : T ≠ TS) (h : Wm T TS size mk rs V w0 w n i) (hn : n < rs.length) (hg : w.grownBy w' (rv rs n).ownBlock) (ho : ∀ xs, w.ownsRow 0 T size (rv rs n) (rl rs n) xs → xs.take (i * size) = marks mk n i → ∃ ys, w'.ownsRow 0 T size (rv rs n) (rl rs n) ys ∧ ys.take ((i + 1) * size) = marks mk n (i + 1)) : Wm T TS size mk rs V w0 w' n (i + 1) := by
  obtain ⟨xs, hx⟩ := h.row hn
  exact ⟨h.wr.step hs hn hg ho, own_other h.bag hg (own_not hx hT), h.fr.grown hg fun b hb => .inr ⟨n, hn, hb⟩⟩
theorem grown_trans {a b c : World} {row : Option Nat} (h : a.grownBy b row) (k : b.grownBy c row) : a.grownBy c row :=
  ⟨k.os.trans h.os, k.tape.trans h.tape, k.output.trans h.output, Nat.le_trans h.size k.size, fun x hx hn => (k.block x (Nat.lt_of_lt_of_le hx h.size) hn).trans (h.block x hx hn)⟩
theorem Wm.step1 {g c : Nat} {u : Value} (hs : Sep rs) (hT : T ≠ TS) (h : Wm T TS 1 mk rs V w0 w n i) (hn : n < rs.length) (hi : i < rl rs n) (e : rv rs n = .slice (some ⟨g, 0, none⟩) (rl rs n) c) (hu : mk n i = [u]) : Wm T TS 1 mk rs V w0 (w.setCell ⟨g, i, none⟩ u) n (i + 1) := by
  obtain ⟨xs, hx⟩ := h.row hn
  rw [e] at hx
  refine h.step hs hT hn (by rw [e]; exact (hx.stored i u).2) fun xs hx ht => ?_
  rw [e] at hx ⊢
  refine ⟨_, (hx.stored i u).1, ?_⟩
  rw [Nat.mul_one] at ht ⊢
  rw [take_set ht (by rw [hx.1]; omega), marks_succ, hu]
theorem Wm.step2 {g c : Nat} {u v : Value} (hs : Sep rs) (hT : T ≠ TS) (h : Wm T TS 2 mk rs V w0 w n i) (hn : n < rs.length) (hi : i < rl rs n) (e : rv rs n = .slice (some ⟨g, 0, none⟩) (rl rs n) c) (hu : mk n i = [u, v]) : Wm T TS 2 mk rs V w0 ((w.setCell ⟨g, i * 2, none⟩ u).setCell ⟨g, i * 2 + 1, none⟩ v) n (i + 1) := by
  obtain ⟨xs, hx⟩ := h.row hn
  rw [e] at hx
  refine h.step hs hT hn (by rw [e]; exact grown_trans (hx.stored (i * 2) u).2 ((hx.stored (i * 2) u).1.stored (i * 2 + 1) v).2) fun xs hx ht => ?_
  rw [e] at hx ⊢
  refine ⟨_, ((hx.stored (i * 2) u).1.stored (i * 2 + 1) v).1, ?_⟩
  have h1 := take_set ht (by rw [hx.1]; omega) u
  have h2 := take_set h1 (by rw [List.length_set, hx.1]; omega) v
  rw [show (i + 1) * 2 = i * 2 + 1 + 1 by omega, h2, marks_succ, hu, List.append_assoc]
  rfl
theorem Wm.step3 {g c : Nat} {u v x : Value} (hs : Sep rs) (hT : T ≠ TS) (h : Wm T TS 3 mk rs V w0 w n i) (hn : n < rs.length) (hi : i < rl rs n) (e : rv rs n = .slice (some ⟨g, 0, none⟩) (rl rs n) c) (hu : mk n i = [u, v, x]) : Wm T TS 3 mk rs V w0 (((w.setCell ⟨g, i * 3, none⟩ u).setCell ⟨g, i * 3 + 1, none⟩ v).setCell ⟨g, i * 3 + 2, none⟩ x) n (i + 1) := by
  obtain ⟨xs, hx⟩ := h.row hn
  rw [e] at hx
  refine h.step hs hT hn (by rw [e]; exact grown_trans (grown_trans (hx.stored (i * 3) u).2 ((hx.stored (i * 3) u).1.stored (i * 3 + 1) v).2) (((hx.stored (i * 3) u).1.stored (i * 3 + 1) v).1.stored (i * 3 + 2) x).2) fun xs hx ht => ?_
  rw [e] at hx ⊢
  refine ⟨_, (((hx.stored (i * 3) u).1.stored (i * 3 + 1) v).1.stored (i * 3 + 2) x).1, ?_⟩
  have h1 := take_set ht (by rw [hx.1]; omega) u
  have h2 := take_set h1 (by rw [List.length_set, hx.1]; omega) v
  have h3 := take_set h2 (by rw [List.length_set, List.length_set, hx.1]; omega) x
  rw [show (i + 1) * 3 = i * 3 + 1 + 1 + 1 by omega, h3, marks_succ, hu, List.append_assoc, List.append_assoc]
  rfl
theorem Wm.out (hs : Sep rs) (h : Wm T TS size mk rs V w0 w rs.length 0) : Out T TS size mk rs w0 w 0 V (.slice none 0 0) (.slice none 0 0) [] [] := Wr.out hs h.wr h.bag h.fr
/-- A new block is made. -/
theorem Out.alloc {O M : Value} {os ms : List Value} (h : Out T TS size mk rs w0 w n V O M os ms) (o : Obj) : Out T TS size mk rs w0 (w.alloc o) n V O M os ms :=
  h.other (World.grownBy_alloc w o none) (fun b e => by cases e) (fun b e => by cases e) (fun b e => by cases e)
theorem Ap.alloc {O M l : Value} {os ms : List Value} (h : Ap T TS size mk rs w0 w n V O M os ms l i) (o : Obj) : Ap T TS size mk rs w0 (w.alloc o) n V O M os ms l i :=
  ⟨h.out.alloc o, h.cur.alloc o, h.my, h.far, h.safe⟩
/-- What a held row's cells are. -/
theorem own_mark {g L c k j : Nat} (hmk : ∀ n i, (mk n i).length = size) (h : w.ownsRow 0 T size (.slice (some ⟨g, 0, none⟩) L c) L (marks mk k L)) (hi : i < L) (hj : j < size) {u : Value} (hu : (mk k i)[j]? = some u) : w.cell? ⟨g, i * size + j, none⟩ = some u := by
  have := h.cells rfl (i * size + j) u (by rw [marks_get hmk k hi hj]; exact hu)
  rwa [Addr.add_lit, Nat.zero_add] at this
theorem Out.row {O M : Value} {os ms : List Value} (h : Out T TS size mk rs w0 w n V O M os ms) (k : Nat) (hk : k < rs.length) : w.ownsRow 0 T size (rv rs k) (rl rs k) (marks mk k (rl rs k)) := (h.held _ _ _ (.inl ⟨hk, rfl, rfl⟩)).1
theorem Out.ones {O M : Value} {os ms : List Value} (h : Out T TS size mk rs w0 w n V O M os ms) (k : Nat) (hk : k < os.length) : w.ownsRow 0 T size (vn os k) (rl rs k + 1) (marks mk k (rl rs k + 1)) := (h.held _ _ _ (.inr (.inl ⟨hk, rfl, rfl⟩))).1
theorem Out.mores {O M : Value} {os ms : List Value} (h : Out T TS size mk rs w0 w n V O M os ms) (k : Nat) (hk : k < ms.length) : w.ownsRow 0 T size (vn ms k) (rl rs k + 70) (marks mk k (rl rs k + 70)) := (h.held _ _ _ (.inr (.inr ⟨hk, rfl, rfl⟩))).1
end




end Go.Proofs.YthpkekpojhmaaaaGreatDoor

namespace Go.Proofs.YthpkekpojhmaaaaGreatDoor
open Go.RowKit


/-- A bag lies at B: its seventeen lists. -/
def BagIs (w : World) (B : Nat) (f : Nat → Value) : Prop := ∃ cs : Array Value, w.heap[B]? = some (.cells cs 58 (0, 0)) ∧ ∀ k, k < 17 → cs[k]? = some (f k)
def upd (f : Nat → Value) (K : Nat) (v : Value) : Nat → Value := fun k => if k = K then v else f k
theorem BagIs.cell {w : World} {B : Nat} {f : Nat → Value} (h : BagIs w B f) (k : Nat) (hk : k < 17) : w.cell? ⟨B, k, none⟩ = some (f k) := by
  obtain ⟨cs, h1, h2⟩ := h
  rw [cell_of_row w B k cs 58 (0, 0) h1]
  exact h2 k hk
theorem BagIs.fro {w : World} {B : Nat} {f : Nat → Value} (h : BagIs w B f) (k : Nat) : w.frozen? ⟨B, k, none⟩ = false := by
  obtain ⟨cs, h1, _⟩ := h
  exact frozen_of_row w B k cs 58 h1
theorem BagIs.lt {w : World} {B : Nat} {f : Nat → Value} (h : BagIs w B f) : B < w.heap.size := by
  obtain ⟨cs, h1, _⟩ := h
  exact (Array.getElem?_eq_some_iff.1 h1).1
theorem BagIs.keep {w w' : World} {B : Nat} {f : Nat → Value} (h : BagIs w B f) (e : w'.heap[B]? = w.heap[B]?) : BagIs w' B f := by
  obtain ⟨cs, h1, h2⟩ := h
  exact ⟨cs, e.trans h1, h2⟩
theorem BagIs.not {w : World} {B : Nat} {f : Nat → Value} (h : BagIs w B f) {e : TypeId} (he : e ≠ 58) : Not w e (some B) := fun b hb cur hc => by
  obtain ⟨cs, h1, _⟩ := h
  cases hb
  rw [h1] at hc
  simp only [Option.some.injEq, Obj.cells.injEq] at hc
  exact he hc.2.1.symm
theorem zgrown_set (w : World) (B k : Nat) (v : Value) : w.grownBy (w.setCell ⟨B, k, none⟩ v) (some B) :=
  ⟨rfl, rfl, rfl, by simp, fun b _ hb => heap_setCell_other w ⟨B, k, none⟩ b v (fun e => hb (by simp [e]))⟩
theorem BagIs.set {w : World} {B : Nat} {f : Nat → Value} (h : BagIs w B f) (K : Nat) (hK : K < 17) (v : Value) : BagIs (w.setCell ⟨B, K, none⟩ v) B (upd f K v) := by
  obtain ⟨cs, h1, h2⟩ := h
  refine ⟨cs.setIfInBounds K v, heap_setCell_same w B K cs 58 v h1, fun k hk => ?_⟩
  unfold upd
  rw [Array.getElem?_setIfInBounds]
  by_cases e : k = K
  · subst e
    have hlt : k < cs.size := (Array.getElem?_eq_some_iff.1 (h2 k hk)).1
    simp [hlt]
  · rw [if_neg (fun e2 => e e2.symm), if_neg e]
    exact h2 k hk
theorem BagIs.off {w : World} {B : Nat} {f : Nat → Value} (h : BagIs w B f) {base : Nat} {e : TypeId} {size : Nat} {v : Value} {n : Nat} {xs : List Value} (hv : w.ownsRow base e size v n xs) (he : e ≠ 58) : v.ownBlock ≠ some B := fun hb => by
  obtain ⟨cur, hc⟩ := own_block hv hb
  exact h.not he B rfl cur hc
/-- A list was put into a bag. -/
def Added (n B K : Nat) (TS : TypeId) (f : Nat → Value) (l : List Value) (v : Value) (w : World) (r : Ending) (w' : World) : Prop :=
  r = .returned (.tuple #[]) ∧ ∃ V, BagIs w' B (upd f K V) ∧ w'.ownsRow n TS 1 V (l.length + 1) (l ++ [v]) ∧ Below n w w' ∧ ∀ b, b < w.heap.size → b ≠ B → (f K).ownBlock ≠ some b → w'.heap[b]? = w.heap[b]?
theorem added {n B K : Nat} {TS : TypeId} {f : Nat → Value} {l : List Value} {v V : Value} {w w1 : World} (hTS : TS ≠ 58) (hK : K < 17) (hn : n ≤ B) (hb : BagIs w B f) (ho : w.ownsRow n TS 1 (f K) l.length l) (o : Obj) (ho1 : w1.ownsRow n TS 1 V (l.length + 1) (l ++ [v])) (hg : (w.alloc o).grownBy w1 (f K).ownBlock) : Added n B K TS f l v w (.returned (.tuple #[])) (w1.setCell ⟨B, K, none⟩ V) := by
  have hlt := hb.lt
  have hB1 : w1.heap[B]? = w.heap[B]? := by
    rw [hg.block B (by simp; omega) (fun e => hb.off ho hTS e.symm), Below.heap_alloc w o B hlt]
  have hb1 := hb.keep hB1
  refine ⟨rfl, V, hb1.set K hK V, own_other ho1 (zgrown_set _ _ _ _) (hb1.not hTS), ?_, fun b h1 h2 h3 => ?_⟩
  · refine Below.setCell ?_ hn _
    refine Below.grown ((Below.refl n w).alloc (by omega) o) hg (by simp; omega) (fun k hk => ?_)
    exact (ho.lt k hk).1
  · rw [heap_setCell_other _ _ _ _ (fun e => h2 e), hg.block b (by simp; omega) (fun e => h3 e.symm), Below.heap_alloc w o b h1]



end Go.Proofs.YthpkekpojhmaaaaGreatDoor

namespace Go.Proofs.YthpkekpojhmaaaaGreatDoor
open Go.RowKit


/-- Whose block: one of the rows. -/
def Of (rs : List (Value × Nat)) (b : Nat) : Prop := ∃ m, m < rs.length ∧ (rv rs m).ownBlock = some b
/-- All that is other lies in blocks of P, or is new. -/
structure FrB (P : Nat → Prop) (w0 w : World) : Prop where
  os : w.os = w0.os
  tape : w.tape = w0.tape
  output : w.output = w0.output
  size : w0.heap.size ≤ w.heap.size
  block : ∀ b, b < w0.heap.size → ¬ P b → w.heap[b]? = w0.heap[b]?
theorem FrB.refl (P : Nat → Prop) (w : World) : FrB P w w := ⟨rfl, rfl, rfl, Nat.le_refl _, fun _ _ _ => rfl⟩
theorem FrB.mono {P Q : Nat → Prop} {w0 w : World} (h : FrB P w0 w) (hq : ∀ b, P b → Q b) : FrB Q w0 w := ⟨h.os, h.tape, h.output, h.size, fun b h1 h2 => h.block b h1 (fun h3 => h2 (hq b h3))⟩
theorem FrB.then {P : Nat → Prop} {rs : List (Value × Nat)} {w0 w w' : World} (h : FrB P w0 w) (k : Fr rs w w') : FrB (fun b => P b ∨ Of rs b) w0 w' :=
  ⟨k.os.trans h.os, k.tape.trans h.tape, k.output.trans h.output, Nat.le_trans h.size k.size, fun b hb hn => (k.block b (Nat.lt_of_lt_of_le hb h.size) (fun m hm e => hn (.inr ⟨m, hm, e⟩))).trans (h.block b hb (fun hp => hn (.inl hp)))⟩
theorem FrB.below {P : Nat → Prop} {w w1 w2 : World} {n : Nat} (h : FrB P w1 w2) (hb : Below n w w1) (hn : n ≤ w1.heap.size) (hq : ∀ b, P b → n ≤ b) : Below n w w2 :=
  ⟨h.os.trans hb.os, h.tape.trans hb.tape, h.output.trans hb.output, Nat.le_trans hb.size h.size, fun b hlt => (h.block b (by omega) (fun hp => by have := hq b hp; omega)).trans (hb.block b hlt)⟩
theorem own_same {w w' : World} {base : Nat} {e : TypeId} {size : Nat} {v : Value} {n : Nat} {xs : List Value} (h : w.ownsRow base e size v n xs) (hs : ∀ b, v.ownBlock = some b → w'.heap[b]? = w.heap[b]?) : w'.ownsRow base e size v n xs := by
  refine ⟨h.1, ?_⟩
  rcases h.2 with h1 | ⟨g, cap, cur, rfl, h2, hg, h3⟩
  · exact .inl h1
  · exact .inr ⟨g, cap, cur, rfl, h2, by rw [hs g rfl]; exact hg, h3⟩
/-- Rows of four kinds: numbers, words, ints (and none). -/
structure Four (w : World) (r4 r5 r8 r9 : List (Value × Nat)) : Prop where
  k4 : ∀ m, m < r4.length → ∃ xs, w.ownsRow 0 2 1 (rv r4 m) (rl r4 m) xs
  k5 : ∀ m, m < r5.length → ∃ xs, w.ownsRow 0 78 1 (rv r5 m) (rl r5 m) xs
  k8 : ∀ m, m < r8.length → ∃ xs, w.ownsRow 0 3 1 (rv r8 m) (rl r8 m) xs
  k9 : ∀ m, m < r9.length → ∃ xs, w.ownsRow 0 83 2 (rv r9 m) (rl r9 m) xs
/-- The blocks that were written ahead of the kind k. -/
def Pk (r4 r5 r8 r9 : List (Value × Nat)) (k b : Nat) : Prop := (4 < k ∧ Of r4 b) ∨ (5 < k ∧ Of r5 b) ∨ (1 < k ∧ Of r8 b) ∨ (9 < k ∧ Of r9 b)
theorem Pk.kind {w : World} {r4 r5 r8 r9 : List (Value × Nat)} {k b : Nat} (h : Pk r4 r5 r8 r9 k b) (hf : Four w r4 r5 r8 r9) : ∃ e cur, w.heap[b]? = some (.cells cur e (0, 0)) ∧ ((4 < k ∧ e = 2) ∨ (5 < k ∧ e = 78) ∨ (1 < k ∧ e = 3) ∨ (9 < k ∧ e = 83)) := by
  rcases h with ⟨h, m, hm, e⟩ | ⟨h, m, hm, e⟩ | ⟨h, m, hm, e⟩ | ⟨h, m, hm, e⟩
  · obtain ⟨xs, hx⟩ := hf.k4 m hm
    obtain ⟨cur, hc⟩ := own_block hx e
    exact ⟨_, cur, hc, .inl ⟨h, rfl⟩⟩
  · obtain ⟨xs, hx⟩ := hf.k5 m hm
    obtain ⟨cur, hc⟩ := own_block hx e
    exact ⟨_, cur, hc, .inr (.inl ⟨h, rfl⟩)⟩
  · obtain ⟨xs, hx⟩ := hf.k8 m hm
    obtain ⟨cur, hc⟩ := own_block hx e
    exact ⟨_, cur, hc, .inr (.inr (.inl ⟨h, rfl⟩))⟩
  · obtain ⟨xs, hx⟩ := hf.k9 m hm
    obtain ⟨cur, hc⟩ := own_block hx e
    exact ⟨_, cur, hc, .inr (.inr (.inr ⟨h, rfl⟩))⟩
/-- A row of a kind that was not written stays. -/
theorem FrB.own {w w' : World} {r4 r5 r8 r9 : List (Value × Nat)} {k base : Nat} {e : TypeId} {size : Nat} {v : Value} {n : Nat} {xs : List Value} (hF : FrB (Pk r4 r5 r8 r9 k) w w') (hf : Four w r4 r5 r8 r9) (h : w.ownsRow base e size v n xs) (he : ¬ ((4 < k ∧ e = 2) ∨ (5 < k ∧ e = 78) ∨ (1 < k ∧ e = 3) ∨ (9 < k ∧ e = 83))) : w'.ownsRow base e size v n xs := by
  refine own_same h fun b hb => hF.block b (own_lt h hb) fun hp => he ?_
  obtain ⟨cur, hc⟩ := own_block h hb
  obtain ⟨e', cur', hc', hk⟩ := hp.kind hf
  rw [hc] at hc'
  simp only [Option.some.injEq, Obj.cells.injEq] at hc'
  obtain ⟨-, rfl, -⟩ := hc'
  exact hk
theorem FrB.bag {w w' : World} {r4 r5 r8 r9 : List (Value × Nat)} {k B : Nat} {f : Nat → Value} (hF : FrB (Pk r4 r5 r8 r9 k) w w') (hf : Four w r4 r5 r8 r9) (h : BagIs w B f) : BagIs w' B f := by
  refine h.keep (hF.block B h.lt fun hp => ?_)
  obtain ⟨cs, hc, -⟩ := h
  obtain ⟨e', cur', hc', hk⟩ := hp.kind hf
  rw [hc] at hc'
  simp only [Option.some.injEq, Obj.cells.injEq] at hc'
  obtain ⟨-, rfl, -⟩ := hc'
  rcases hk with ⟨-, h⟩ | ⟨-, h⟩ | ⟨-, h⟩ | ⟨-, h⟩ <;> exact absurd h (by decide)
theorem FrB.next {w w1 w' : World} {r4 r5 r8 r9 rs : List (Value × Nat)} {k : Nat} (hF : FrB (Pk r4 r5 r8 r9 k) w1 w) (h : Fr rs w w') (hk : ∀ b, Of rs b → Pk r4 r5 r8 r9 (k + 1) b) : FrB (Pk r4 r5 r8 r9 (k + 1)) w1 w' := by
  refine (hF.then h).mono fun b hb => ?_
  rcases hb with hb | hb
  · rcases hb with ⟨h, h'⟩ | ⟨h, h'⟩ | ⟨h, h'⟩ | ⟨h, h'⟩
    · exact .inl ⟨by omega, h'⟩
    · exact .inr (.inl ⟨by omega, h'⟩)
    · exact .inr (.inr (.inl ⟨by omega, h'⟩))
    · exact .inr (.inr (.inr ⟨by omega, h'⟩))
  · exact hk b hb




end Go.Proofs.YthpkekpojhmaaaaGreatDoor

namespace Go.Proofs.YthpkekpojhmaaaaGreatDoor
open Go.RowKit

attribute [local go_sem] Oper.semAt_some

theorem Turn.below {n n0 : Nat} {w0 W W' : World} (h : Turn n W W') (hb : Below n0 w0 W) (hn : n0 ≤ n) : Below n0 w0 W' := hb.trans ⟨h.os, h.tape, h.output, h.size, fun k hk => h.low k (by omega)⟩
theorem Turn.box {n B : Nat} {t : TypeId} {v : Value} {W W' : World} (h : Turn n W W') (hb : Boxed W B t v) (ht : t ≠ 75) : Boxed W' B t v := (h.cells B _ _ _ hb ht).trans hb
theorem Turn.row {n : Nat} {W W' : World} {base : Nat} {e : TypeId} {size : Nat} {v : Value} {k : Nat} {xs : List Value} (h : Turn n W W') (hr : W.ownsRow base e size v k xs) (he : e ≠ 75) : W'.ownsRow base e size v k xs :=
  own_same hr fun b hb => by
    obtain ⟨cur, hc⟩ := own_block hr hb
    exact h.cells b _ _ _ hc he
theorem Kept.row {n0 n1 : Nat} {W W' : World} {base : Nat} {e : TypeId} {size : Nat} {v : Value} {k : Nat} {xs : List Value} (hr : W.ownsRow base e size v k xs) (hg : W.grownBy W' v.ownBlock) (he : e ≠ 75) (hb : n0 ≤ base) (hw : n0 ≤ W.heap.size) : Kept n0 n1 W W' := by
  cases hv : v.ownBlock with
  | none => rw [hv] at hg; exact Kept.grown0 hg hw
  | some g =>
    obtain ⟨cur, hc⟩ := own_block hr hv
    rw [hv] at hg
    exact Kept.grown hg hc he (Nat.le_trans hb (hr.lt g hv).1)
theorem Kept.set {n0 n1 B : Nat} {t : TypeId} {v : Value} {W : World} (hb : Boxed W B t v) (ht : t ≠ 75) (hn : n0 ≤ B) (u : Value) : Kept n0 n1 W (W.setCell ⟨B, 0, none⟩ u) :=
  Kept.grown (grownBy_setCell' W B u) hb ht hn
theorem box_new {W : World} {t : TypeId} {v : Value} {n : Nat} (h : n = W.heap.size) : Boxed (W.alloc (.cells #[v] t)) n t v := by subst h; exact Boxed.new _ _ _
theorem box_past {W W' : World} {base : Nat} {e t : TypeId} {size B : Nat} {v u : Value} {k : Nat} {xs : List Value} (hb : Boxed W B t u) (hr : W.ownsRow base e size v k xs) (hg : W.grownBy W' v.ownBlock) (h : B < base ∨ t ≠ e) : Boxed W' B t u := by
  refine hb.kept hg (fun e2 => ?_)
  rcases h with h | h
  · have := (hr.lt B e2.symm).1
    omega
  · exact hb.not_row h hr e2
theorem own_set3b {w : World} {b n g1 g2 g3 : Nat} {e : TypeId} {sz : Nat} {v : Value} {xs : List Value} (h : w.ownsRow b e sz v n xs) (h1 : g1 < b) (h2 : g2 < b) (h3 : g3 < b) {u1 u2 u3 : Value} : (((w.setCell ⟨g1, 0, none⟩ u1).setCell ⟨g2, 0, none⟩ u2).setCell ⟨g3, 0, none⟩ u3).ownsRow b e sz v n xs := by
  have far : ∀ {w1 : World} {g : Nat}, g < b → w1.ownsRow b e sz v n xs → ∀ c, v.ownBlock = some c → some g ≠ some c := fun hg h1 c hc e => by
    cases e
    have := (h1.lt _ hc).1
    omega
  have a := own_apart h (grown_cell w g1 0 u1) (far h1 h)
  have a2 := own_apart a (grown_cell _ g2 0 u2) (far h2 a)
  exact own_apart a2 (grown_cell _ g3 0 u3) (far h3 a2)
/-- What basesOf answers. -/
def BofP (l : List Ob) (w : World) (e : Ending) (w' : World) : Prop :=
  (∃ i, farL l = some i ∧ e = .returned (.tuple #[.slice none 0 0, .int .i64 42, .int .i64 (i : Int)]) ∧ Below w.heap.size w w') ∨
  (farL l = none ∧ ∃ (O : Option Addr) (c : Nat), e = .returned (.tuple #[.slice O l.length c, .int .i64 0, .int .i64 0]) ∧ w'.ownsRow w.heap.size 3 1 (.slice O l.length c) l.length (vI (basT l l.length)) ∧ Below w.heap.size w w')
/-- Its own cells, between two rounds. -/
structure BofI (l : List Ob) (A : Option Addr) (ca : Nat) (w : World) (k : Nat) (W : World) : Prop where
  b0 : Boxed W w.heap.size 22 (.slice A l.length ca)
  b1 : Boxed W (w.heap.size + 1) 33 (.slice none 0 0)
  b2 : Boxed W (w.heap.size + 1 + 1) 30 (.int .i64 0)
  b3 : Boxed W (w.heap.size + 1 + 1 + 1) 3 (.int .i64 0)
  row : ∃ (O : Option Addr) (c : Nat), Boxed W (w.heap.size + 1 + 1 + 1 + 1) 33 (.slice O k c) ∧ W.ownsRow (w.heap.size + 1 + 1 + 1 + 1) 3 1 (.slice O k c) k (vI (basT l k))
  low : Below w.heap.size w W
  near : ∀ j, j < k → farO l j = none
structure BofX (l : List Ob) (w : World) (k : Nat) (W : World) : Prop where
  b1 : Boxed W (w.heap.size + 1) 33 (.slice none 0 0)
  b2 : Boxed W (w.heap.size + 1 + 1) 30 (.int .i64 42)
  b3 : Boxed W (w.heap.size + 1 + 1 + 1) 3 (.int .i64 (k : Int))
  low : Below w.heap.size w W
  far : farL l = some k
theorem BofI.turn {l : List Ob} {A : Option Addr} {ca : Nat} {w : World} {k n : Nat} {W W' : World} (h : BofI l A ca w k W) (t : Turn n W W') (hn : w.heap.size ≤ n) : BofI l A ca w k W' := by
  obtain ⟨O, c, r1, r2⟩ := h.row
  exact ⟨t.box h.b0 (by decide), t.box h.b1 (by decide), t.box h.b2 (by decide), t.box h.b3 (by decide), ⟨O, c, t.box r1 (by decide), t.row r2 (by decide)⟩, t.below h.low hn, h.near⟩
theorem BofX.turn {l : List Ob} {w : World} {k n : Nat} {W W' : World} (h : BofX l w k W) (t : Turn n W W') (hn : w.heap.size ≤ n) : BofX l w k W' :=
  ⟨t.box h.b1 (by decide), t.box h.b2 (by decide), t.box h.b3 (by decide), t.below h.low hn, h.far⟩
set_option maxRecDepth 100000 in
set_option maxHeartbeats 8000000 in
theorem basesOf_any (A : Option Addr) (ca : Nat) (q : Nat → Pl) (l : List Ob) (w : World) (hA : ObsIn w A q l) : Calls Tryz.prog 37 #[.slice A l.length ca] w (BofP l w) := by
  have HA : Hid (ObsIn w A q l) := hA
  obtain ⟨i0, hi0, hz0, hz1, hz2⟩ := info3
  have hf := hA.few
  have HC : Hid (∀ j, j < l.length → (ob l j).code.length ≤ 1048576) := fun j hj => (hA.each j hj).hc
  clear hA
  refine (callsIn_wide (n := 5)).1 ?_
  refine callsIn_of_wp_marks Tryz.func37 rfl trivial ?_ rfl
  simp only [Tryz.ntmps37, List.size_toArray, List.length_cons, List.length_nil, Nat.reduceAdd, Nat.reduceSub, Array.replicate_succ, Array.replicate_zero, List.push_toArray, List.append_toArray, List.nil_append, List.cons_append]
  gi_wp2_with fail
  refine ⟨trivial, (callsIn_wide.2 (layout_any _ _ _ _)).mono ?_⟩
  rintro e w' ⟨rfl, rfl⟩
  obtain ⟨W0, hW0⟩ : ∃ W0, W0 = (((((w.alloc (.cells #[.slice A l.length ca] 22)).alloc (.cells #[.slice none 0 0] 33)).alloc (.cells #[.int .i64 0] 30)).alloc (.cells #[.int .i64 0] 3)).alloc (.cells #[.slice none 0 0] 33)).alloc (.cells #[.slice A l.length ca] 22) := ⟨_, rfl⟩
  have hB0 : Below w.heap.size w W0 := by rw [hW0]; exact lb_alloc (lb_alloc (lb_alloc (lb_alloc (lb_alloc (lb_alloc (Below.refl _ _) _) _) _) _) _) _
  have hS0 : W0.heap.size = w.heap.size + 1 + 1 + 1 + 1 + 1 + 1 := by rw [hW0]; simp
  have hI0 : BofI l A ca w 0 W0 := by
    rw [hW0]
    exact ⟨((((((box_new rfl).alloc _).alloc _).alloc _).alloc _).alloc _), (((((box_new (by simp)).alloc _).alloc _).alloc _).alloc _), ((((box_new (by simp)).alloc _).alloc _).alloc _), (((box_new (by simp)).alloc _).alloc _), ⟨none, 0, (box_new (by simp)).alloc _, World.ownsRow_nil _ _ _ _⟩, hW0 ▸ hB0, fun j hj => by omega⟩
  have hBx : W0.cell? ⟨w.heap.size + 1 + 1 + 1 + 1 + 1, 0, none⟩ = some (.slice A l.length ca) := by rw [hW0]; simp [go_sem]
  gi_wp2_with fail
  rw [← hW0]
  clear hW0
  refine range_layout 5 (by decide) w.heap.size (w.heap.size + 1 + 1 + 1 + 1 + 1) A ca q l w rfl hBx rfl (fun W h => HA.out.keep h) (by omega) (BofI l A ca w) (BofX l w) (fun k W W' h t => h.turn t (by omega)) (fun k W W' h t => h.turn t (by omega)) (fun k W h => h.low) hI0 (fun k => { tmps := #[.slice A l.length ca, .pointer (some ⟨w.heap.size, 0, none⟩), .pointer (some ⟨w.heap.size + 1, 0, none⟩), .pointer (some ⟨w.heap.size + 1 + 1, 0, none⟩), .pointer (some ⟨w.heap.size + 1 + 1 + 1, 0, none⟩), .pointer (some ⟨w.heap.size + 1 + 1 + 1 + 1, 0, none⟩), .int .i64 (k : Int), .int .i64 (bsF l k : Int), .slice A l.length ca, .func (.func 142) #[] #[.pointer (some ⟨w.heap.size + 1 + 1 + 1 + 1 + 1, 0, none⟩)], .int .i64 (k : Int), .int .i64 (bsF l k : Int), undef, undef, undef, undef, undef, undef, undef, undef, undef, undef, undef, undef, undef, undef, undef], defers := [] }) ?assign ?body ?done ?stop
  case assign =>
    intro l0 k W K hK
    gi_wp2
    exact hK
  case body =>
    intro l0 k W hk hs0 hI
    have hs : w.heap.size + 1 + 1 + 1 + 1 + 1 + 1 ≤ W.heap.size := by omega
    clear hS0 hs0 hI0 hBx
    have HI : Hid (BofI l A ca w k W) := hI
    obtain ⟨O, c, r1, r2⟩ := hI.row
    have HR1 : Hid (Boxed W (w.heap.size + 1 + 1 + 1 + 1) 33 (.slice O k c)) := r1
    have HR2 : Hid (W.ownsRow (w.heap.size + 1 + 1 + 1 + 1) 3 1 (.slice O k c) k (vI (basT l k))) := r2
    have hb0 := hI.b0.cell
    have hb5 := r1.cell
    have hk' : (k : Int) < (l.length : Int) := by omega
    obtain ⟨a, ea, x0, x1, x2, x3, x4, x5⟩ := (HA.out.keep hI.low).cells.six (Below.refl _ _) k hk
    have hcl := HC.out k hk
    have hsf := sum_fits HC.out hf (Nat.le_of_lt hk)
    clear hI r1 r2 x0 x2 x3 x4 x5
    subst ea
    by_cases hfar : 16384 ≤ bsF l k + (ob l k).code.length
    · have hfar' : (16384 : Int) ≤ (bsF l k : Int) + ((ob l k).code.length : Int) := by omega
      have f1 := HI.out.b1.frozen
      have f2 := HI.out.b2.frozen
      have f3 := HI.out.b3.frozen
      have c1 := HI.out.b1.cell
      have c2 := HI.out.b2.cell
      have c3 := HI.out.b3.cell
      have hB := HI.out.low
      gi_wp2
      have q1 : Boxed (((W.setCell ⟨w.heap.size + 1, 0, none⟩ (.slice none 0 0)).setCell ⟨w.heap.size + 1 + 1, 0, none⟩ (.int .i64 42)).setCell ⟨w.heap.size + 1 + 1 + 1, 0, none⟩ (.int .i64 (k : Int))) (w.heap.size + 1) 33 (.slice none 0 0) := ((HI.out.b1.set _).other (by omega) _).other (by omega) _
      have q2 : Boxed (((W.setCell ⟨w.heap.size + 1, 0, none⟩ (.slice none 0 0)).setCell ⟨w.heap.size + 1 + 1, 0, none⟩ (.int .i64 42)).setCell ⟨w.heap.size + 1 + 1 + 1, 0, none⟩ (.int .i64 (k : Int))) (w.heap.size + 1 + 1) 30 (.int .i64 42) := ((HI.out.b2.other (by omega) _).set _).other (by omega) _
      have q3 : Boxed (((W.setCell ⟨w.heap.size + 1, 0, none⟩ (.slice none 0 0)).setCell ⟨w.heap.size + 1 + 1, 0, none⟩ (.int .i64 42)).setCell ⟨w.heap.size + 1 + 1 + 1, 0, none⟩ (.int .i64 (k : Int))) (w.heap.size + 1 + 1 + 1) 3 (.int .i64 (k : Int)) := ((HI.out.b3.other (by omega) _).other (by omega) _).set _
      exact ⟨((Kept.set HI.out.b1 (by decide) (by omega) _).trans (Kept.set (HI.out.b2.other (by omega) _) (by decide) (by omega) _)).trans (Kept.set ((HI.out.b3.other (by omega) _).other (by omega) _) (by decide) (by omega) _), q1, q2, q3, ((hB.setCell (Nat.le_succ _) _).setCell (by show w.heap.size ≤ w.heap.size + 1 + 1; omega) _).setCell (by show w.heap.size ≤ w.heap.size + 1 + 1 + 1; omega) _, fst_hit HI.out.near (farO_yes hfar) hk⟩
    · have hfar' : ¬ (16384 : Int) ≤ (bsF l k : Int) + ((ob l k).code.length : Int) := by omega
      gi_wp2_with (gi_at_builtin; go_loud (refine wpListIn_append_own _ rfl _ _ 33 rfl (w.heap.size + 1 + 1 + 1 + 1) 3 i0 (.int .i64 0) 1 8 Tryz.underlying33 hi0 hz0 hz1 hz2 rfl (by decide) _ _ _ rfl (HR2.out.alloc _) ⟨W.heap.size, 0, none⟩ 1 1 [.int .i64 (bsF l k : Int)] rfl rfl (cell_one_new _ _ _) one_one (by unfold maxLen; omega) (by omega) (by simp; omega) ?_; intro v' w1 hown' hgrow _; obtain ⟨g', cap', rfl⟩ := ownsRow_succ hown'; obtain ⟨hv1, hv2, hr2, hk2, hb2⟩ := HR1.out.appended (by decide) HR2.out (by omega) (by omega) hown' hgrow; have hc1 := hv1.cell; have hf1 := hv1.frozen))
      have HV1 : Hid (Boxed w1 (w.heap.size + 1 + 1 + 1 + 1) 33 (.slice O k c)) := hv1
      have hal : (W.alloc (.cells #[.int .i64 (bsF l k : Int)] 3)).ownsRow (w.heap.size + 1 + 1 + 1 + 1) 3 1 (.slice O k c) k (vI (basT l k)) := HR2.out.alloc _
      have p0 := (box_past (HI.out.b0.alloc (.cells #[.int .i64 (bsF l k : Int)] 3)) hal hgrow (.inl (by omega))).other (B' := w.heap.size + 1 + 1 + 1 + 1) (by omega) (.slice (some ⟨g', 0, none⟩) (k + 1) cap')
      have p1 := (box_past (HI.out.b1.alloc (.cells #[.int .i64 (bsF l k : Int)] 3)) hal hgrow (.inl (by omega))).other (B' := w.heap.size + 1 + 1 + 1 + 1) (by omega) (.slice (some ⟨g', 0, none⟩) (k + 1) cap')
      have p2 := (box_past (HI.out.b2.alloc (.cells #[.int .i64 (bsF l k : Int)] 3)) hal hgrow (.inl (by omega))).other (B' := w.heap.size + 1 + 1 + 1 + 1) (by omega) (.slice (some ⟨g', 0, none⟩) (k + 1) cap')
      have p3 := (box_past (HI.out.b3.alloc (.cells #[.int .i64 (bsF l k : Int)] 3)) hal hgrow (.inl (by omega))).other (B' := w.heap.size + 1 + 1 + 1 + 1) (by omega) (.slice (some ⟨g', 0, none⟩) (k + 1) cap')
      refine ⟨((Kept.of (lb_alloc (Below.refl _ _) _) (by omega)).trans (Kept.row hal hgrow (by decide) (by omega) (by simp; omega))).trans (Kept.set hv1 (by decide) (by omega) _), p0, p1, p2, p3, ⟨_, _, hv2, by rw [basT_succ, vI_snoc]; exact hr2⟩, HI.out.low.trans (hb2.mono (by omega)), fun j hj => ?_⟩
      by_cases hj2 : j < k
      · exact HI.out.near j hj2
      · obtain rfl : j = k := by omega
        exact farO_no hfar
  case done =>
    intro D W hD hI hK
    have HI : Hid (BofI l A ca w l.length W) := hI
    obtain ⟨O, c, r1, r2⟩ := hI.row
    have HR2 : Hid (W.ownsRow (w.heap.size + 1 + 1 + 1 + 1) 3 1 (.slice O l.length c) l.length (vI (basT l l.length))) := r2
    have hb5 := r1.cell
    have f1 := hI.b1.frozen
    have f2 := hI.b2.frozen
    have f3 := hI.b3.frozen
    have c1 := hI.b1.cell
    have c2 := hI.b2.cell
    have c3 := hI.b3.cell
    have HK : Hid (W.heap[D]? = some (.deferred (some []))) := hK
    clear hI r1 r2 hK
    have hB := HI.out.low
    gi_wp2
    obtain ⟨W3, hW3⟩ : ∃ W3, W3 = (((W.setCell ⟨w.heap.size + 1, 0, none⟩ (.slice O l.length c)).setCell ⟨w.heap.size + 1 + 1, 0, none⟩ (.int .i64 0)).setCell ⟨w.heap.size + 1 + 1 + 1, 0, none⟩ (.int .i64 0)) := ⟨_, rfl⟩
    rw [← hW3]
    have q1 : Boxed W3 (w.heap.size + 1) 33 (.slice O l.length c) := by rw [hW3]; exact ((HI.out.b1.set _).other (by omega) _).other (by omega) _
    have q2 : Boxed W3 (w.heap.size + 1 + 1) 30 (.int .i64 0) := by rw [hW3]; exact ((HI.out.b2.other (by omega) _).set _).other (by omega) _
    have q3 : Boxed W3 (w.heap.size + 1 + 1 + 1) 3 (.int .i64 0) := by rw [hW3]; exact ((HI.out.b3.other (by omega) _).other (by omega) _).set _
    have qK : W3.heap[D]? = some (.deferred (some [])) := by rw [hW3]; exact (((KeepsOthers.setCell _ _ _).trans (KeepsOthers.setCell _ _ _)).trans (KeepsOthers.setCell _ _ _)).same D _ HK.out rfl
    have qB : Below w.heap.size w W3 := by rw [hW3]; exact ((hB.setCell (Nat.le_succ _) _).setCell (by show w.heap.size ≤ w.heap.size + 1 + 1; omega) _).setCell (by show w.heap.size ≤ w.heap.size + 1 + 1 + 1; omega) _
    have qR : W3.ownsRow w.heap.size 3 1 (.slice O l.length c) l.length (vI (basT l l.length)) := by
      rw [hW3]
      exact own_base (own_set3b HR2.out (by omega) (by omega) (by omega)) (by omega)
    clear hW3
    have far := grownBy_putObj' W3 D (.deferred none)
    have hne : ∀ B t v, Boxed W3 B t v → some B ≠ some D := fun B t v h e => by cases e; rw [show W3.heap[D]? = _ from h] at qK; cases qK
    have z1 := (q1.kept far (hne _ _ _ q1)).cell
    have z2 := (q2.kept far (hne _ _ _ q2)).cell
    have z3 := (q3.kept far (hne _ _ _ q3)).cell
    refine ⟨by simp, .inl ⟨_, _, rfl, run_takeDeferred qK, ?_⟩⟩
    refine ⟨.tuple #[.slice O l.length c, .int .i64 0, .int .i64 0], by simp [results, Tryz.results37, go_sem, z1, z2, z3], ?_⟩
    exact .inr ⟨fst_none HI.out.near, O, c, rfl, ownsRow_putObj qR _ qK rfl, qB.trans (belowK_b (w := w) (Nat.le_refl _) W3 D _ _ (by omega) qK rfl rfl)⟩
  case stop =>
    intro D k W hD hk hX hK
    show bodyPostM Fence.wide 5 Tryz.prog Tryz.f37 (BofP l w) .ret _ _
    have far := grownBy_putObj' W D (.deferred none)
    have hne : ∀ B t v, Boxed W B t v → some B ≠ some D := fun B t v h e => by cases e; rw [show W.heap[D]? = _ from h] at hK; cases hK
    have z1 := (hX.b1.kept far (hne _ _ _ hX.b1)).cell
    have z2 := (hX.b2.kept far (hne _ _ _ hX.b2)).cell
    have z3 := (hX.b3.kept far (hne _ _ _ hX.b3)).cell
    refine ⟨by simp, .inl ⟨_, _, rfl, run_takeDeferred hK, ?_⟩⟩
    refine ⟨.tuple #[.slice none 0 0, .int .i64 42, .int .i64 (k : Int)], by simp [results, Tryz.results37, go_sem, z1, z2, z3], ?_⟩
    exact .inl ⟨k, hX.far, rfl, hX.low.trans (belowK_b (w := w) (Nat.le_refl _) W D _ _ (by omega) hK rfl rfl)⟩

end Go.Proofs.YthpkekpojhmaaaaGreatDoor

namespace Go.Proofs.YthpkekpojhmaaaaGreatDoor
open Go.RowKit

theorem bas_some {l : List Ob} {i : Nat} (hl : ¬ 32 < l.length) (h : farL l = some i) : basE l = 42 := by unfold basE; rw [if_neg hl, h]; rfl
theorem bas_none {l : List Ob} (hl : ¬ 32 < l.length) (h : farL l = none) : basE l = 0 ∧ basL l = basT l l.length := by
  have e : basE l = 0 := by unfold basE; rw [if_neg hl, h]; rfl
  exact ⟨e, by unfold basL; rw [if_pos e]; rfl⟩
set_option maxHeartbeats 2000000 in
theorem progB : ProgB := fun A ca q l w hA => by
  have C := basesOf_any A ca q l w hA
  have hf := hA.few
  clear hA
  go_enter Tryz.func10, Tryz.ntmps10
  by_cases hl : 32 < l.length
  · have hl' : (32 : Int) < (l.length : Int) := by omega
    go_wp2
    refine bodyPost_ret (v := .tuple #[.slice none 0 0, .int .i64 21]) (by simp [results, Tryz.results10, go_sem]) rfl ?_
    exact bas_err (by unfold basE; rw [if_pos hl]) (by decide) (Below.refl _ _)
  · have hl' : ¬ (32 : Int) < (l.length : Int) := by omega
    go_wp2_with fail
    refine C.mono ?_
    rintro e w1 (⟨i, hi, rfl, hb⟩ | ⟨hi, O, c, rfl, hr, hb⟩)
    · have HX : Hid (basE l = 42) := bas_some hl hi
      clear C hi
      go_wp2
      refine bodyPost_ret (v := .tuple #[.slice none 0 0, .int .i64 42]) (by simp [results, Tryz.results10, go_sem]) rfl ?_
      exact bas_err HX.out (by decide) hb
    · have HX : Hid (basE l = 0 ∧ basL l = basT l l.length) := bas_none hl hi
      have HR : Hid (w1.ownsRow w.heap.size 3 1 (.slice O l.length c) l.length (vI (basT l l.length))) := hr
      clear C hi hr
      go_wp2
      refine bodyPost_ret (v := .tuple #[.slice O l.length c, .int .i64 0]) (by simp [results, Tryz.results10, go_sem]) rfl ?_
      refine ⟨O, c, ?_, ?_, hb⟩
      · rw [HX.out.1, HX.out.2, basT_len]
      · rw [HX.out.2, basT_len]; exact HR.out

end Go.Proofs.YthpkekpojhmaaaaGreatDoor

namespace Go.Proofs.YthpkekpojhmaaaaGreatDoor
open Go.RowKit

/-- A row of cells by a function. -/
def fnA (f : Nat → Value) (n : Nat) : Array Value := ((List.range n).map f).toArray
theorem fnA_size (f : Nat → Value) (n : Nat) : (fnA f n).size = n := by simp [fnA]
theorem fnA_get {f : Nat → Value} {n i : Nat} (h : i < n) : (fnA f n)[i]? = some (f i) := by simp [fnA, h]
theorem fnA_set {f : Nat → Value} {n a : Nat} (v : Value) : (fnA f n).setIfInBounds a v = fnA (fun x => if x = a then v else f x) n := by
  apply Array.ext_getElem?
  intro i
  by_cases hi : i < n
  · rw [fnA_get hi, Array.getElem?_setIfInBounds, fnA_size]
    by_cases ha : a = i
    · subst ha; simp [hi]
    · rw [if_neg ha, fnA_get hi, if_neg (fun e => ha e.symm)]
  · rw [Array.getElem?_eq_none (by rw [Array.size_setIfInBounds, fnA_size]; omega), Array.getElem?_eq_none (by rw [fnA_size]; omega)]
theorem fnA_congr {f g : Nat → Value} {n : Nat} (h : ∀ x, x < n → f x = g x) : fnA f n = fnA g n := by
  unfold fnA
  congr 1
  exact List.map_congr_left fun x hx => h x (by simpa using hx)
theorem made_fn (n : Nat) (z : Value) : madeCells #[z] n = fnA (fun _ => z) n := by
  apply Array.ext_getElem?
  intro i
  by_cases hi : i < n
  · rw [fnA_get hi]
    simp [madeCells, hi, Nat.mod_one]
  · rw [Array.getElem?_eq_none (by simp [madeCells]; omega), Array.getElem?_eq_none (by rw [fnA_size]; omega)]
theorem row_set {w : World} {g k : Nat} {cur : Array Value} {t : TypeId} (h : w.heap[g]? = some (.cells cur t (0, 0))) (u : Value) : (w.setCell ⟨g, k, none⟩ u).heap[g]? = some (.cells (cur.setIfInBounds k u) t (0, 0)) := by
  simp [World.setCell, Array.getElem?_modify, h]
theorem row_off {w : World} {g k : Nat} {o : Obj} {b : Nat} (h : w.heap[g]? = some o) (hb : g ≠ b) (u : Value) : (w.setCell ⟨b, k, none⟩ u).heap[g]? = some o := by
  rw [Below.heap_setCell _ _ _ _ hb]; exact h
theorem cellA {w : World} {g p : Nat} {cur : Array Value} {t : TypeId} {u : Value} (h : w.heap[g]? = some (.cells cur t (0, 0))) (hp : cur[p]? = some u) : w.cell? ⟨g, p, none⟩ = some u := by
  simp [World.cell?, h, hp]
theorem frozA {w : World} {g p : Nat} {cur : Array Value} {t : TypeId} (h : w.heap[g]? = some (.cells cur t (0, 0))) : w.frozen? ⟨g, p, none⟩ = false := by
  simp [World.frozen?, h]
/-- Where data may lie. -/
def DatIn (l : List Ob) : Prop := ∀ i, i < l.length → 0 ≤ (ob l i).dA ∧ (ob l i).dA ≤ 4096 ∧ (ob l i).data.length ≤ 4096

theorem zeroT_ok : zeroIs (Tryz.prog.info? 167) 4096 = true := by kernel_rfl
theorem zeroT (w : World) : (zeroValue 167).run Tryz.prog w = .ok (.agg (fnA (fun _ => .bool false) 4096)) w := by
  have h := zeroT_ok
  unfold zeroIs at h
  cases hi : Tryz.prog.info? 167 with
  | none => rw [hi] at h; cases h
  | some i =>
    rw [hi] at h
    simp only [] at h
    cases hz : i.zero with
    | none => rw [hz] at h; cases h
    | some v =>
      rw [hz] at h
      cases v with
      | agg cs =>
        simp only [] at h
        obtain ⟨h1, h2⟩ := chkF_ok _ _ h
        have e : cs = fnA (fun _ => .bool false) 4096 := by
          apply Array.ext_getElem?
          intro j
          by_cases hj : j < 4096
          · rw [fnA_get hj]; simpa using h2 j hj
          · rw [Array.getElem?_eq_none (by simpa using (by omega : cs.toList.length ≤ j)), Array.getElem?_eq_none (by rw [fnA_size]; omega)]
        rw [← e]
        simp [zeroValue, typeInfo, hi, hz]
      | _ => cases h
theorem infoL2 : ∃ i, Tryz.prog.info? 2 = some i ∧ i.zero = some (.int .i64 0) ∧ i.size = 1 ∧ i.bytes = 8 :=
  ⟨(Tryz.prog.info? 2).get (by kernel_rfl), by kernel_rfl, by kernel_rfl, by kernel_rfl, by kernel_rfl⟩
theorem makeL (n : Nat) (hn : n ≤ 4096) (w : World) : (Instr.makeSlice 27 (.int .i64 n) (.int .i64 n)).run Tryz.prog w = .ok (.slice (some ⟨w.heap.size, 0, none⟩) n n) (w.alloc (.cells (fnA (fun _ => .int .i64 0) n) 2)) := by
  obtain ⟨i, hi, hz, hs, hb⟩ := infoL2
  have h := run_makeSlice (P := Tryz.prog) w 27 2 i _ Tryz.underlying27 hi hz .i64 .i64 n n (by omega) (by omega) (by rw [hs]; omega) (by rw [hb]; omega) (by omega)
  rw [hs, show ((n : Int)).toNat = n by omega, Nat.mul_one] at h
  rw [h, ← made_fn n]
  rfl
/-- The memory, and which of it is taken. -/
structure MemA (w : World) (g n : Nat) (m : Nat → Option Int) : Prop where
  tk : w.heap[g]? = some (.cells (fnA (fun a => .bool (m a).isSome) 4096) 167 (0, 0))
  out : w.heap[g + 1]? = some (.cells (fnA (fun a => .int .i64 (valM m a)) n) 2 (0, 0))
theorem MemA.set {w : World} {g n : Nat} {m : Nat → Option Int} (h : MemA w g n m) (a : Nat) (v : Int) : MemA ((w.setCell ⟨g, a, none⟩ (.bool true)).setCell ⟨g + 1, a, none⟩ (.int .i64 v)) g n (putM m a v) := by
  refine ⟨?_, ?_⟩
  · rw [row_off (row_set h.tk _) (by omega), fnA_set, fnA_congr (g := fun x => .bool (putM m a v x).isSome)]
    intro x _
    unfold putM
    split <;> rfl
  · rw [row_set (row_off h.out (by omega) _), fnA_set, fnA_congr (g := fun x => .int .i64 (valM (putM m a v) x))]
    intro x _
    unfold valM putM
    split <;> rfl
theorem MemA.keep {w w1 : World} {g n : Nat} {m : Nat → Option Int} (h : MemA w g n m) (hb : Below w.heap.size w w1) : MemA w1 g n m :=
  ⟨(hb.block _ (Array.getElem?_eq_some_iff.1 h.tk).1).trans h.tk, (hb.block _ (Array.getElem?_eq_some_iff.1 h.out).1).trans h.out⟩
theorem MemA.own {w : World} {g n b : Nat} {m : Nat → Option Int} (h : MemA w g n m) (hn : n ≤ 4096) (hb : b ≤ g) : w.ownsRow b 2 1 (.slice (some ⟨g + 1, 0, none⟩) n n) n (vI ((List.range n).map (valM m))) := by
  refine ⟨by simp [vI], .inr ⟨g + 1, n, _, rfl, by omega, h.out, Nat.le_refl _, by unfold maxLen; omega, by rw [fnA_size, Nat.mul_one], ?_⟩⟩
  simp [fnA, vI, List.take_of_length_le]
/-- What fill answers. -/
def FilP (l : List Ob) (mem : Nat) (w : World) (e : Ending) (w' : World) : Prop :=
  (∃ x, datE l mem = some x ∧ e = .returned (.tuple #[.slice none 0 0, .int .i64 x.1, .int .i64 x.2.1, .int .i64 x.2.2]) ∧ Below w.heap.size w w') ∨
  (datE l mem = none ∧ ∃ O, e = .returned (.tuple #[.slice O mem mem, .int .i64 0, .int .i64 0, .int .i64 0]) ∧ w'.ownsRow w.heap.size 2 1 (.slice O mem mem) mem (vI (datL l mem)) ∧ Below w.heap.size w w')
/-- An object's copy. -/
def CopyAt (w : World) (B : Nat) (p : Pl) (o : Ob) : Prop := w.heap[B]? = some (.cells #[.string o.nm, .slice p.A1 o.code.length p.c1, .int .i64 o.dA, .slice p.A2 o.data.length p.c2, .slice p.A3 o.ss.length p.c3, .slice p.A4 o.rs.length p.c4] 75 (0, 0))
theorem CopyAt.cells {w : World} {B : Nat} {p : Pl} {o : Ob} (h : CopyAt w B p o) : w.cell? ⟨B, 1, none⟩ = some (.slice p.A1 o.code.length p.c1) ∧ w.cell? ⟨B, 2, none⟩ = some (.int .i64 o.dA) ∧ w.cell? ⟨B, 3, none⟩ = some (.slice p.A2 o.data.length p.c2) ∧ w.cell? ⟨B, 5, none⟩ = some (.slice p.A4 o.rs.length p.c4) := by
  refine ⟨?_, ?_, ?_, ?_⟩ <;> simp [World.cell?, show w.heap[B]? = _ from h]
set_option maxHeartbeats 8000000 in
set_option maxRecDepth 100000 in
theorem fill_any (A : Option Addr) (ca : Nat) (q : Nat → Pl) (l : List Ob) (mem : Nat) (w : World) (hA : ObsIn w A q l) (hm : mem ≤ 4096) (hD : DatIn l) :
    Calls Tryz.prog 38 #[.slice A l.length ca, .int .i64 mem] w (FilP l mem w) := by
  have hf := hA.few
  have hmL := makeL mem hm
  have hmT := zeroT
  have HA : Hid (ObsIn w A q l) := hA
  have HD : Hid (DatIn l) := hD
  obtain ⟨w0, hw0⟩ : ∃ w0, w0 = (w.alloc (.cells (fnA (fun _ => .bool false) 4096) 167)).alloc (.cells (fnA (fun _ => .int .i64 0) mem) 2) := ⟨_, rfl⟩
  have HB0 : Hid (Below w.heap.size w w0) := by rw [Hid, hw0]; exact lb_alloc (lb_alloc (Below.refl _ _) _) _
  have HM0 : Hid (MemA w0 w.heap.size mem (memM l 0)) := by
    rw [Hid, hw0]
    refine ⟨?_, ?_⟩
    · have h1 := heap_alloc_new w (.cells (fnA (fun _ => .bool false) 4096) 167)
      have h2 := (lb_alloc (Below.refl (w.alloc (.cells (fnA (fun _ => .bool false) 4096) 167)).heap.size (w.alloc (.cells (fnA (fun _ => .bool false) 4096) 167))) (.cells (fnA (fun _ => .int .i64 0) mem) 2)).block w.heap.size (by simp)
      rw [h2]
      exact h1
    · have h1 := heap_alloc_new (w.alloc (.cells (fnA (fun _ => .bool false) 4096) 167)) (.cells (fnA (fun _ => .int .i64 0) mem) 2)
      have e : (fun a => Value.int .i64 (valM (memM l 0) a)) = fun _ => .int .i64 0 := rfl
      rw [e]
      simpa using h1
  clear hA hD
  go_enter Tryz.func38, Tryz.ntmps38
  go_wp2
  rw [← hw0]
  clear hmL hmT hw0
  go_loopw [19] (fun i wr => ∃ k : Nat, i = .int .i64 k ∧ k ≤ l.length ∧ Hid (MemA wr w.heap.size mem (memM l k)) ∧ Hid (∀ j, j < k → badM l mem j = none) ∧ Hid (Below w.heap.size w wr)) (fun i _ => l.length - (intOf i).toNat)
  case atStart => exact ⟨0, rfl, Nat.zero_le _, HM0, fun j hj => absurd hj (Nat.not_lt_zero _), HB0⟩
  case round =>
    clear HM0 HB0
    obtain ⟨k, rfl, hk, HM, HN, HB⟩ := hrel
    by_cases hkl : k < l.length
    · have hkl' : (k : Int) < (l.length : Int) := by omega
      obtain ⟨a, ea, x0, x1, x2, x3, x4, x5⟩ := HA.out.cells.six HB.out k hkl
      subst ea
      obtain ⟨hd0, hd1, hd2⟩ := HD.out k hkl
      obtain ⟨W, hW⟩ : ∃ W, W = wr.alloc (.cells #[.string (ob l k).nm, .slice (q k).A1 (ob l k).code.length (q k).c1, .int .i64 (ob l k).dA, .slice (q k).A2 (ob l k).data.length (q k).c2, .slice (q k).A3 (ob l k).ss.length (q k).c3, .slice (q k).A4 (ob l k).rs.length (q k).c4] 75) := ⟨_, rfl⟩
      have HC : Hid (CopyAt W wr.heap.size (q k) (ob l k)) := by rw [Hid, hW]; exact heap_alloc_new _ _
      have hbW : Below wr.heap.size wr W := by rw [hW]; exact lb_alloc (Below.refl _ _) _
      have HBW : Hid (Below w.heap.size w W) := lb_trans HB.out hbW
      have HMW : Hid (MemA W w.heap.size mem (memM l k)) := HM.out.keep hbW
      have hgw : w.heap.size + 1 < wr.heap.size := (Array.getElem?_eq_some_iff.1 HM.out.out).1
      obtain ⟨d, hd⟩ : ∃ d : Nat, (ob l k).dA = (d : Int) := ⟨(ob l k).dA.toNat, by omega⟩
      have HDd : Hid ((ob l k).dA = (d : Int)) := hd
      have HDt : Hid ((ob l k).dA.toNat = d) := by rw [Hid, hd]; omega
      have hd1' : d ≤ 4096 := by omega
      clear hd hd0 hd1
      go_upto_region 6 with fail
      rw [← hW]
      clear hW x0 x1 x2 x3 x4 x5 hbW HB HM
      obtain ⟨-, y2, y3, -⟩ := HC.out.cells
      rw [HDd.out] at y2
      by_cases hz : 0 < (ob l k).data.length ∧ mem < d + (ob l k).data.length
      · have hz0' : (0 : Int) < ((ob l k).data.length : Int) := by omega
        have hov' : (mem : Int) < (d : Int) + ((ob l k).data.length : Int) := by omega
        have HX : Hid (datE l mem = some (25, (k : Int), 0)) := by
          refine fst_hit HN.out ?_ hkl
          unfold badM
          rw [if_pos (by rw [HDd.out]; exact ⟨hz.1, hov'⟩)]
        go_wp2
        refine bodyPost_ret (v := .tuple #[.slice none 0 0, .int .i64 25, .int .i64 k, .int .i64 0]) (by simp [results, Tryz.results38, go_sem]) rfl (Or.inl ⟨_, HX.out, rfl, HBW.out⟩)
      · have HBM : Hid (badM l mem k = fstN (overS l k) (ob l k).data.length) := by
          unfold Hid badM
          rw [if_neg (by rw [HDd.out]; omega)]
        by_cases hz0 : 0 < (ob l k).data.length
        · have hz0' : (0 : Int) < ((ob l k).data.length : Int) := by omega
          have hov' : ¬ (mem : Int) < (d : Int) + ((ob l k).data.length : Int) := by omega
          go_wp2
          clear y2 y3
          generalize wr.heap.size = Bo at HC hgw ⊢
          go_loopw [42] (fun i wz => ∃ j : Nat, i = .int .i64 j ∧ j ≤ (ob l k).data.length ∧ Hid (MemA wz w.heap.size mem (rowM (memM l k) (ob l k) j)) ∧ Hid (∀ h, h < j → overS l k h = none) ∧ Hid (Below w.heap.size w wz) ∧ Hid (CopyAt wz Bo (q k) (ob l k))) (fun i _ => (ob l k).data.length - (intOf i).toNat)
          case atStart => exact ⟨0, rfl, Nat.zero_le _, HMW, fun j hj => absurd hj (Nat.not_lt_zero _), HBW, HC⟩
          case round =>
            clear HMW HBW HC
            obtain ⟨j, rfl, hj, HM, HS, HB, HC⟩ := hrel
            obtain ⟨-, y2, -, -⟩ := HC.out.cells
            rw [HDd.out] at y2
            by_cases hjl : j < (ob l k).data.length
            · have hjl' : (j : Int) < ((ob l k).data.length : Int) := by omega
              obtain ⟨p, hp⟩ : ∃ p : Nat, (d : Int) + (j : Int) = (p : Int) := ⟨d + j, by omega⟩
              have HP : Hid (d + j = p) := by rw [Hid]; omega
              have hpm : p < mem := by omega
              have hpm' : (p : Int) < (mem : Int) := by omega
              have hp4 : p < 4096 := by omega
              have hp4' : (p : Int) < (4096 : Int) := by omega
              obtain ⟨a3, e3, y4⟩ := (HA.out.each k hkl).dt.keep HB.out j hjl
              have c0 : wr.cell? ⟨w.heap.size, p, none⟩ = some (.bool (rowM (memM l k) (ob l k) j p).isSome) := cellA HM.out.tk (fnA_get hp4)
              have c1 : wr.frozen? ⟨w.heap.size, p, none⟩ = false := frozA HM.out.tk
              rw [e3]
              clear e3
              cases ht : (rowM (memM l k) (ob l k) j p).isSome
              · rw [ht] at c0
                have HS2 : Hid (∀ h, h < j + 1 → overS l k h = none) := fst_step HS.out (by
                  unfold overS
                  rw [HDt.out, HP.out, if_neg (by rw [ht]; simp)])
                have c2 : wr.cell? ⟨w.heap.size + 1, p, none⟩ = some (.int .i64 (valM (rowM (memM l k) (ob l k) j) p)) := cellA HM.out.out (fnA_get hpm)
                have c3 : wr.frozen? ⟨w.heap.size + 1, p, none⟩ = false := frozA HM.out.out
                have HM2 : Hid (MemA ((wr.setCell ⟨w.heap.size, p, none⟩ (.bool true)).setCell ⟨w.heap.size + 1, p, none⟩ (.int .i64 (nth (ob l k).data j))) w.heap.size mem (rowM (memM l k) (ob l k) (j + 1))) := by
                  rw [Hid, rowM, HDt.out, HP.out]
                  exact HM.out.set p _
                have HB2 : Hid (Below w.heap.size w ((wr.setCell ⟨w.heap.size, p, none⟩ (.bool true)).setCell ⟨w.heap.size + 1, p, none⟩ (.int .i64 (nth (ob l k).data j)))) := (HB.out.setCell (Nat.le_refl _) _).setCell (Nat.le_succ _) _
                have HC2 : Hid (CopyAt ((wr.setCell ⟨w.heap.size, p, none⟩ (.bool true)).setCell ⟨w.heap.size + 1, p, none⟩ (.int .i64 (nth (ob l k).data j))) Bo (q k) (ob l k)) := row_off (row_off HC.out (by omega) _) (by omega) _
                go_wp2
                go_roundw
                case rel => exact ⟨j + 1, by go_num, by omega, HM2, HS2, HB2, HC2⟩
                case measure => simp [intOf]; omega
              · rw [ht] at c0
                have HX : Hid (datE l mem = some (43, (k : Int), (p : Int))) := by
                  refine fst_hit HN.out ?_ hkl
                  rw [HBM.out]
                  refine fst_hit HS.out ?_ hjl
                  unfold overS
                  rw [HDt.out, HP.out, if_pos ht]
                go_wp2
                refine bodyPost_ret (v := .tuple #[.slice none 0 0, .int .i64 43, .int .i64 k, .int .i64 p]) (by simp [results, Tryz.results38, go_sem]) rfl (Or.inl ⟨_, HX.out, rfl, HB.out⟩)
            · have hjl' : ¬ (j : Int) < ((ob l k).data.length : Int) := by omega
              obtain rfl : j = (ob l k).data.length := by omega
              have HN2 : Hid (∀ j, j < k + 1 → badM l mem j = none) := fst_step HN.out (by rw [HBM.out]; exact fst_none HS.out)
              go_wp2
              go_roundw
              case rel => exact ⟨k + 1, by go_num, by omega, HM, HN2, HB⟩
              case measure => simp [intOf]; omega
        · have hz0' : ¬ (0 : Int) < ((ob l k).data.length : Int) := by omega
          have HL : Hid ((ob l k).data.length = 0) := by rw [Hid]; omega
          have HN2 : Hid (∀ j, j < k + 1 → badM l mem j = none) := fst_step HN.out (by rw [HBM.out, HL.out]; rfl)
          have HM2 : Hid (MemA W w.heap.size mem (memM l (k + 1))) := by rw [Hid, memM, HL.out]; exact HMW.out
          go_wp2
          go_loopw [42] (fun i wz => i = .int .i64 0 ∧ wz = W) (fun _ _ => 0)
          case atStart => exact ⟨rfl, rfl⟩
          case round =>
            obtain ⟨rfl, rfl⟩ := hrel
            go_wp2
            go_roundw
            case rel => exact ⟨k + 1, by go_num, by omega, HM2, HN2, HBW⟩
            case measure => simp [intOf]; omega
    · have hkl' : ¬ (k : Int) < (l.length : Int) := by omega
      obtain rfl : k = l.length := by omega
      have HX : Hid (datE l mem = none) := fst_none HN.out
      have HR : Hid (wr.ownsRow w.heap.size 2 1 (.slice (some ⟨w.heap.size + 1, 0, none⟩) mem mem) mem (vI (datL l mem))) := HM.out.own hm (Nat.le_refl _)
      go_wp2
      refine bodyPost_ret (v := .tuple #[.slice (some ⟨w.heap.size + 1, 0, none⟩) mem mem, .int .i64 0, .int .i64 0, .int .i64 0]) (by simp [results, Tryz.results38, go_sem]) rfl (Or.inr ⟨HX.out, _, rfl, HR.out, HB.out⟩)

end Go.Proofs.YthpkekpojhmaaaaGreatDoor

namespace Go.Proofs.YthpkekpojhmaaaaGreatDoor
open Go.RowKit

theorem aim_of (v q x d a b n tv V E : Int) (p : Bool) (w : World) (CE : ∀ wx : World, Calls Tryz.prog 77 #[.int .u32 v] wx fun e w' => e = .returned (.agg #[.int .i8 x, .int .i8 d, .int .i8 a, .int .i8 b, .int .i64 n]) ∧ Below wx.heap.size wx w') (CT : ∀ wx : World, Calls Tryz.prog 25 #[.int .u32 v] wx fun e w' => e = .returned (.tuple #[.int .i64 tv, .bool p]) ∧ Below wx.heap.size wx w') (CN : ∀ wx : World, Calls Tryz.prog 81 #[.agg #[.int .i8 x, .int .i8 d, .int .i8 a, .int .i8 b, .int .i64 q]] wx fun e w' => e = .returned (.tuple #[.int .u32 V, .int .i64 E]) ∧ Below wx.heap.size wx w') : Calls Tryz.prog 27 #[.int .u32 v, .int .i64 q] w fun e w' => e = .returned (.tuple #[.int .u32 (if p then V else 0), .int .i64 (if p then E else 10)]) ∧ Below w.heap.size w w' := by
  cases p
  · go_enter Tryz.func27, Tryz.ntmps27
    go_wp2_with fail
    refine (CT _).mono ?_
    rintro e w1 ⟨rfl, hb⟩
    go_wp2
    go_ret2
    exact ⟨rfl, hb⟩
  · go_enter Tryz.func27, Tryz.ntmps27
    go_wp2_with fail
    refine (CT _).mono ?_
    rintro e w1 ⟨rfl, hb⟩
    go_wp2_with fail
    refine (CE _).mono ?_
    rintro e w2 ⟨rfl, hb2⟩
    go_wp2_with fail
    refine (CN _).mono ?_
    rintro e w3 ⟨rfl, hb3⟩
    have HB : Hid (Below w.heap.size w w3) := bel_trans (bel_alloc (bel_trans hb hb2) _) hb3
    clear hb hb2 hb3
    go_wp2
    go_ret2
    exact ⟨rfl, HB.out⟩

theorem isaaim_any (v p : Int) (h0 : 0 ≤ v) (h1 : v < 4294967296) (w : World) : Calls Tryz.prog 27 #[.int .u32 v, .int .i64 p] w fun e w' => e = .returned (.tuple #[.int .u32 (aimV v p), .int .i64 (aimE v p)]) ∧ Below w.heap.size w w' := by
  have h := aim_of v p _ _ _ _ _ _ _ _ _ w (isadecode_any v h0 h1) (isatarget_any v h0 h1) (isaencode_any (dOp v) (dD v) (dA v) (dB v) p (by have := dOp_le h1; omega))
  have e : aimV v p = (if isT v then encV (dOp v) (dD v) (dA v) (dB v) p else 0) ∧ aimE v p = (if isT v then encE (dOp v) (dD v) (dA v) (dB v) p else 10) := by
    unfold aimV aimE
    cases hT : isT v
    · exact ⟨rfl, rfl⟩
    · by_cases hp : 0 ≤ p ∧ p < 16384
      · rw [decide_eq_true hp]; exact ⟨rfl, rfl⟩
      · rw [decide_eq_false hp, (aim_no hT hp).1, (aim_no hT hp).2]; exact ⟨rfl, rfl⟩
  rw [e.1, e.2]
  exact h


end Go.Proofs.YthpkekpojhmaaaaGreatDoor

namespace Go.Proofs.YthpkekpojhmaaaaGreatDoor
open Go.RowKit

theorem zcell_lt {w : World} {a : Addr} {v : Value} (h : w.cell? a = some v) : a.block < w.heap.size := by
  rcases Nat.lt_or_ge a.block w.heap.size with h1 | h1
  · exact h1
  · have e : w.heap[a.block]? = none := Array.getElem?_eq_none h1
    simp [World.cell?, e] at h
theorem aimed_any (v p : Int) (h0 : 0 ≤ v) (h1 : v < 4294967296) (w : World) : Calls Tryz.prog 95 #[.int .u32 v, .int .i64 p] w fun e w' => e = .returned (.int .u32 (aimV v p)) ∧ Below w.heap.size w w' := by
  have C := isaaim_any v p h0 h1 w
  go_enter Tryz.func95, Tryz.ntmps95
  go_wp2_with fail
  refine C.mono ?_
  rintro e w1 ⟨rfl, hb⟩
  go_wp2
  go_ret
  exact ⟨rfl, hb⟩
/-- A word that is moved. -/
def movV (v by' : Int) : Int := if isT v = true then aimV v (tgV v + by') else v
theorem moved_any (v : Int) (b : Nat) (h0 : 0 ≤ v) (h1 : v < 4294967296) (hb : b ≤ 67108928) (w : World) : Calls Tryz.prog 94 #[.int .u32 v, .int .i64 (b : Int)] w fun e w' => e = .returned (.int .u32 (movV v b)) ∧ Below w.heap.size w w' := by
  have C := isatarget_any v h0 h1 w
  have hg := tg_pos (v := v)
  have CA := aimed_any v (tgV v + b) h0 h1
  go_enter Tryz.func94, Tryz.ntmps94
  cases ht : isT v
  · have HV : Hid (movV v b = v) := by unfold Hid movV; rw [ht]; rfl
    rw [ht] at C
    clear hg CA ht
    go_wp2_with fail
    refine C.mono ?_
    rintro e w1 ⟨rfl, hb1⟩
    go_wp2
    go_ret
    exact ⟨by rw [HV.out]; rfl, hb1⟩
  · have HV : Hid (movV v b = aimV v (tgV v + b)) := by unfold Hid movV; rw [ht]; rfl
    obtain ⟨g0, g1⟩ := hg ht
    rw [ht] at C
    clear hg ht
    go_wp2_with fail
    refine C.mono ?_
    rintro e w1 ⟨rfl, hb1⟩
    go_wp2_with fail
    refine (CA w1).mono ?_
    rintro e w2 ⟨rfl, hb2⟩
    go_wp2
    go_ret
    exact ⟨by rw [HV.out]; rfl, lb_trans hb1 hb2⟩
/-- A place of the text is written over. -/
def PatP (g p : Nat) (v : Int) (w : World) (e : Ending) (w' : World) : Prop := e = .returned (.tuple #[]) ∧ ∃ w1, Below w.heap.size w w1 ∧ w' = w1.setCell ⟨g, p, none⟩ (.int .u32 v)
theorem patch_mov (g n c p b : Nat) (v : Int) (h0 : 0 ≤ v) (h1 : v < 4294967296) (hb : b ≤ 67108928) (w : World) (hp : p < n) (_hn : n ≤ 67108928) (hc : w.cell? ⟨g, p, none⟩ = some (.int .u32 v)) (hf : w.frozen? ⟨g, p, none⟩ = false) :
    Calls Tryz.prog 93 #[.slice (some ⟨g, 0, none⟩) n c, .int .i64 (p : Int), .func (.func 94) #[] #[], .int .i64 (b : Int)] w (PatP g p (movV v b) w) := by
  have C := moved_any v b h0 h1 hb w
  have hp' : (p : Int) < (n : Int) := by omega
  have hgl : g < w.heap.size := zcell_lt hc
  go_enter Tryz.func93, Tryz.ntmps93
  go_wp2_with fail
  refine C.mono ?_
  rintro e w1 ⟨rfl, hb1⟩
  have hc1 := lkeep hb1 hc
  have hf1 : w1.frozen? ⟨g, p, none⟩ = false := by rw [World.frozen?_of_block (hb1.block g hgl)]; exact hf
  clear C hc hf
  go_wp2
  go_end0
  exact ⟨rfl, w1, hb1, rfl⟩
theorem patch_aim (g n c p : Nat) (q : Int) (v : Int) (h0 : 0 ≤ v) (h1 : v < 4294967296) (w : World) (hp : p < n) (_hn : n ≤ 67108928) (hc : w.cell? ⟨g, p, none⟩ = some (.int .u32 v)) (hf : w.frozen? ⟨g, p, none⟩ = false) :
    Calls Tryz.prog 93 #[.slice (some ⟨g, 0, none⟩) n c, .int .i64 (p : Int), .func (.func 95) #[] #[], .int .i64 q] w (PatP g p (aimV v q) w) := by
  have C := aimed_any v q h0 h1 w
  have hp' : (p : Int) < (n : Int) := by omega
  have hgl : g < w.heap.size := zcell_lt hc
  go_enter Tryz.func93, Tryz.ntmps93
  go_wp2_with fail
  refine C.mono ?_
  rintro e w1 ⟨rfl, hb1⟩
  have hc1 := lkeep hb1 hc
  have hf1 : w1.frozen? ⟨g, p, none⟩ = false := by rw [World.frozen?_of_block (hb1.block g hgl)]; exact hf
  clear C hc hf
  go_wp2
  go_end0
  exact ⟨rfl, w1, hb1, rfl⟩
theorem placeOf_any (l : List Ob) (x : Nat) (y : Int) (B : Option Addr) (c : Nat) (w : World) (hB : IntsAt w B .i64 (basT l l.length)) (hx : x < l.length) (hb : bsF l x ≤ 67108928) (hy : 0 ≤ y ∧ y ≤ 67108928) :
    Calls Tryz.prog 40 #[.agg #[.int .i64 (x : Int), .int .i64 y], .slice B l.length c] w fun e w' => e = .returned (.int .i64 ((bsF l x : Int) + y)) ∧ Below w.heap.size w w' := by
  have hx' : (x : Int) < (l.length : Int) := by omega
  have hy0 := hy.1
  have hy1 := hy.2
  obtain ⟨W, hW⟩ : ∃ W, W = w.alloc (.cells #[.int .i64 (x : Int), .int .i64 y] 69) := ⟨_, rfl⟩
  have HB : Hid (Below w.heap.size w W) := by rw [Hid, hW]; exact lb_alloc (Below.refl _ _) _
  obtain ⟨aB, eB, k0⟩ := (hB.keep HB.out) x (by rw [basT_len]; exact hx)
  have k0' : W.cell? (aB.add x) = some (.int .i64 (bsF l x : Int)) := by rw [k0]; simp [basT, nth, hx]
  subst eB
  have s0 : W.cell? ⟨w.heap.size, 0, none⟩ = some (.int .i64 (x : Int)) := by rw [hW]; simp [go_sem]
  have s1 : W.cell? ⟨w.heap.size, 1, none⟩ = some (.int .i64 y) := by rw [hW]; simp [go_sem]
  clear hB hy k0
  go_enter Tryz.func40, Tryz.ntmps40
  go_upto_region 1 with fail
  rw [← hW]
  clear hW
  go_quiet (fail)
  have HBq : Hid (Below w.heap.size w (W.drewN nq)) := below_drewN HB.out _
  go_wp2
  go_ret
  exact ⟨rfl, HBq.out⟩

end Go.Proofs.YthpkekpojhmaaaaGreatDoor
