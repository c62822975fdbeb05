/-
  Two lists of numbers compared, by the document's helpers: true just if they are one list; the first is at most 2^20 long. Two lists of symbols, of relocations compared, by the document's helpers: true just if they are one list; the first is at most 2^20 long. An object compared with one that is the same, by the document's helper: true; the lists are at most 2^20 long.
-/
import Derived.Test.YtbphfgalgiinnaaProg
import Derived.WalkKit
import Derived.WalkSpells
import Derived.WalkLawsBesides
import Derived.RowKit3
import Derived.Below
import Derived.Deep.QuietTactic
import Derived.BigQuiet
import Derived.WalkSmall
import Derived.Test.YtbphfgalgiinnaaLists
namespace Go.Proofs.Ytbphfgalgiinnaa
open Go.RowKit

set_option maxRecDepth 100000 in
set_option maxHeartbeats 1000000 in
theorem eqwords_any (A B : Option Addr) (ca cb : Nat) (zs ys : List Int) (w : World) (hA : IntsAt w A .u32 zs) (hB : IntsAt w B .u32 ys) (hz : zs.length ≤ 1048576) :
    Calls Try.prog 35 #[.slice A zs.length ca, .slice B ys.length cb] w fun e w' => e = .returned (.bool (decide (zs = ys))) ∧ Below w.heap.size w w' := by
  by_cases hl : zs.length = ys.length
  · have hl' : ((zs.length : Int) == (ys.length : Int)) = true := by rw [hl]; simp
    have HL : Hid (zs.length = ys.length) := hl
    clear hl
    go_enter Try.func35, Try.ntmps35
    go_wp2
    go_loopw [5] (fun i wr => ∃ (k m : Nat), i = .int .i64 k ∧ k ≤ zs.length ∧ wr = w.drewN m ∧ Hid (zs.take k = ys.take k)) (fun i _ => zs.length - (intOf i).toNat)
    case atStart => exact ⟨0, 0, rfl, by omega, rfl, by simp [Hid]⟩
    case round =>
      obtain ⟨k, m, rfl, hk, rfl, HT⟩ := hrel
      by_cases hlt : k < zs.length
      · obtain ⟨a, rfl, c1⟩ := hA k hlt
        obtain ⟨b, rfl, c2⟩ := hB k (by have := HL.out; omega)
        have hlt2 : (k : Int) < (ys.length : Int) := by have := HL.out; omega
        by_cases he : nth zs k = nth ys k
        · have HE : Hid (nth zs k = nth ys k) := he
          have he' : (nth zs k == nth ys k) = true := by simpa using he
          clear he
          go_wp2_with fail
          go_quiet (fail)
          go_wp2
          go_roundw
          case rel => exact ⟨k + 1, _, by go_num, by omega, rfl, take_same HT.out hlt (by omega) HE.out⟩
          case measure => simp [intOf]; omega
        · have HE : Hid (¬ nth zs k = nth ys k) := he
          have he' : (nth zs k == nth ys k) = false := by simpa using he
          clear he
          go_wp2_with fail
          go_quiet (fail)
          go_wp2
          go_ret
          exact ⟨retB (decide_eq_false (nth_ne HE.out)).symm, below_drewN (below_drewN (Below.refl _ _) _) _⟩
      · go_wp2
        go_ret
        exact ⟨retB (decide_eq_true (take_all HT.out (by omega) HL.out)).symm, below_drewN (Below.refl _ _) _⟩
  · have hl' : ((zs.length : Int) == (ys.length : Int)) = false := by simp; omega
    have HL : Hid (¬ zs.length = ys.length) := hl
    clear hl
    go_enter Try.func35, Try.ntmps35
    go_wp2
    go_ret
    exact ⟨retB (decide_eq_false (fun h => HL.out (by rw [h]))).symm, Below.refl _ _⟩

set_option maxRecDepth 100000 in
set_option maxHeartbeats 1000000 in
theorem eqlongs_any (A B : Option Addr) (ca cb : Nat) (zs ys : List Int) (w : World) (hA : IntsAt w A .i64 zs) (hB : IntsAt w B .i64 ys) (hz : zs.length ≤ 1048576) :
    Calls Try.prog 36 #[.slice A zs.length ca, .slice B ys.length cb] w fun e w' => e = .returned (.bool (decide (zs = ys))) ∧ Below w.heap.size w w' := by
  by_cases hl : zs.length = ys.length
  · have hl' : ((zs.length : Int) == (ys.length : Int)) = true := by rw [hl]; simp
    have HL : Hid (zs.length = ys.length) := hl
    clear hl
    go_enter Try.func36, Try.ntmps36
    go_wp2
    go_loopw [5] (fun i wr => ∃ (k m : Nat), i = .int .i64 k ∧ k ≤ zs.length ∧ wr = w.drewN m ∧ Hid (zs.take k = ys.take k)) (fun i _ => zs.length - (intOf i).toNat)
    case atStart => exact ⟨0, 0, rfl, by omega, rfl, by simp [Hid]⟩
    case round =>
      obtain ⟨k, m, rfl, hk, rfl, HT⟩ := hrel
      by_cases hlt : k < zs.length
      · obtain ⟨a, rfl, c1⟩ := hA k hlt
        obtain ⟨b, rfl, c2⟩ := hB k (by have := HL.out; omega)
        have hlt2 : (k : Int) < (ys.length : Int) := by have := HL.out; omega
        by_cases he : nth zs k = nth ys k
        · have HE : Hid (nth zs k = nth ys k) := he
          have he' : (nth zs k == nth ys k) = true := by simpa using he
          clear he
          go_wp2_with fail
          go_quiet (fail)
          go_wp2
          go_roundw
          case rel => exact ⟨k + 1, _, by go_num, by omega, rfl, take_same HT.out hlt (by omega) HE.out⟩
          case measure => simp [intOf]; omega
        · have HE : Hid (¬ nth zs k = nth ys k) := he
          have he' : (nth zs k == nth ys k) = false := by simpa using he
          clear he
          go_wp2_with fail
          go_quiet (fail)
          go_wp2
          go_ret
          exact ⟨retB (decide_eq_false (nth_ne HE.out)).symm, below_drewN (below_drewN (Below.refl _ _) _) _⟩
      · go_wp2
        go_ret
        exact ⟨retB (decide_eq_true (take_all HT.out (by omega) HL.out)).symm, below_drewN (Below.refl _ _) _⟩
  · have hl' : ((zs.length : Int) == (ys.length : Int)) = false := by simp; omega
    have HL : Hid (¬ zs.length = ys.length) := hl
    clear hl
    go_enter Try.func36, Try.ntmps36
    go_wp2
    go_ret
    exact ⟨retB (decide_eq_false (fun h => HL.out (by rw [h]))).symm, Below.refl _ _⟩
set_option maxRecDepth 100000 in
set_option maxHeartbeats 1000000 in
theorem eqrel_any (A B : Option Addr) (ca cb : Nat) (zs ys : List Rel) (w : World) (hA : RelsAt w A zs) (hB : RelsAt w B ys) (hz : zs.length ≤ 1048576) :
    Calls Try.prog 38 #[.slice A zs.length ca, .slice B ys.length cb] w fun e w' => e = .returned (.bool (decide (zs = ys))) ∧ Below w.heap.size w w' := by
  by_cases hl : zs.length = ys.length
  · have hl' : ((zs.length : Int) == (ys.length : Int)) = true := by rw [hl]; simp
    have HL : Hid (zs.length = ys.length) := hl
    clear hl
    go_enter Try.func38, Try.ntmps38
    go_wp2
    go_loopw [5] (fun i wr => ∃ (k m : Nat), i = .int .i64 k ∧ k ≤ zs.length ∧ wr = w.drewN m ∧ Hid (zs.take k = ys.take k)) (fun i _ => zs.length - (intOf i).toNat)
    case atStart => exact ⟨0, 0, rfl, by omega, rfl, by simp [Hid]⟩
    case round =>
      obtain ⟨k, m, rfl, hk, rfl, HT⟩ := hrel
      by_cases hlt : k < zs.length
      · obtain ⟨a, rfl, c0, c1⟩ := hA k hlt
        obtain ⟨b, rfl, d0, d1⟩ := hB k (by have := HL.out; omega)
        have hlt2 : (k : Int) < (ys.length : Int) := by have := HL.out; omega
        have p0 : w.cell? (a.add (k * 2)) = some (.int .i64 (rAt zs k)) := c0
        have q0 : w.cell? (b.add (k * 2)) = some (.int .i64 (rAt ys k)) := d0
        have p1 : w.cell? (⟨(a.add (k * 2)).block, (a.add (k * 2)).off + 1, none⟩) = some (.int .i64 (rSym zs k)) := c1
        have q1 : w.cell? (⟨(b.add (k * 2)).block, (b.add (k * 2)).off + 1, none⟩) = some (.int .i64 (rSym ys k)) := d1
        clear c0 d0 c1 d1
        by_cases h0 : ¬ rAt zs k = rAt ys k
        · have HE : Hid (¬ rAt zs k = rAt ys k) := h0
          have e0 : (rAt zs k == rAt ys k) = false := by simpa using h0
          clear h0
          go_wp2_with fail
          go_quiet (fail)
          go_wp2
          go_ret
          exact ⟨retB (decide_eq_false (fun h => HE.out (by rw [h]))).symm, below_drewN (below_drewN (Below.refl _ _) _) _⟩
        have H0 : Hid (rAt zs k = rAt ys k) := Classical.not_not.1 h0
        have e0 : (rAt zs k == rAt ys k) = true := by simpa using H0.out
        clear h0
        by_cases h1 : ¬ rSym zs k = rSym ys k
        · have HE : Hid (¬ rSym zs k = rSym ys k) := h1
          have e1 : (rSym zs k == rSym ys k) = false := by simpa using h1
          clear h1
          go_wp2_with fail
          go_quiet (fail)
          go_wp2
          go_ret
          exact ⟨retB (decide_eq_false (fun h => HE.out (by rw [h]))).symm, below_drewN (below_drewN (Below.refl _ _) _) _⟩
        have H1 : Hid (rSym zs k = rSym ys k) := Classical.not_not.1 h1
        have e1 : (rSym zs k == rSym ys k) = true := by simpa using H1.out
        clear h1
        go_wp2_with fail
        go_quiet (fail)
        go_wp2
        go_roundw
        case rel => exact ⟨k + 1, _, by go_num, by omega, rfl, take_same HT.out hlt (by omega) (rel_same H0.out H1.out)⟩
        case measure => simp [intOf]; omega
      · go_wp2
        go_ret
        exact ⟨retB (decide_eq_true (take_all HT.out (by omega) HL.out)).symm, below_drewN (Below.refl _ _) _⟩
  · have hl' : ((zs.length : Int) == (ys.length : Int)) = false := by simp; omega
    have HL : Hid (¬ zs.length = ys.length) := hl
    clear hl
    go_enter Try.func38, Try.ntmps38
    go_wp2
    go_ret
    exact ⟨retB (decide_eq_false (fun h => HL.out (by rw [h]))).symm, Below.refl _ _⟩

set_option maxRecDepth 100000 in
set_option maxHeartbeats 1000000 in
theorem eqsym_any (A B : Option Addr) (ca cb : Nat) (zs ys : List Sym) (w : World) (hA : SymsAt w A zs) (hB : SymsAt w B ys) (hz : zs.length ≤ 1048576) :
    Calls Try.prog 37 #[.slice A zs.length ca, .slice B ys.length cb] w fun e w' => e = .returned (.bool (decide (zs = ys))) ∧ Below w.heap.size w w' := by
  by_cases hl : zs.length = ys.length
  · have hl' : ((zs.length : Int) == (ys.length : Int)) = true := by rw [hl]; simp
    have HL : Hid (zs.length = ys.length) := hl
    clear hl
    go_enter Try.func37, Try.ntmps37
    go_wp2
    go_loopw [5] (fun i wr => ∃ (k m : Nat), i = .int .i64 k ∧ k ≤ zs.length ∧ wr = w.drewN m ∧ Hid (zs.take k = ys.take k)) (fun i _ => zs.length - (intOf i).toNat)
    case atStart => exact ⟨0, 0, rfl, by omega, rfl, by simp [Hid]⟩
    case round =>
      obtain ⟨k, m, rfl, hk, rfl, HT⟩ := hrel
      by_cases hlt : k < zs.length
      · obtain ⟨a, rfl, c0, c1, c2⟩ := hA k hlt
        obtain ⟨b, rfl, d0, d1, d2⟩ := hB k (by have := HL.out; omega)
        have hlt2 : (k : Int) < (ys.length : Int) := by have := HL.out; omega
        have p0 : w.cell? (a.add (k * 3)) = some (.string (sName zs k)) := c0
        have q0 : w.cell? (b.add (k * 3)) = some (.string (sName ys k)) := d0
        have p1 : w.cell? (⟨(a.add (k * 3)).block, (a.add (k * 3)).off + 1, none⟩) = some (.int .i8 (sKind zs k)) := c1
        have q1 : w.cell? (⟨(b.add (k * 3)).block, (b.add (k * 3)).off + 1, none⟩) = some (.int .i8 (sKind ys k)) := d1
        have p2 : w.cell? (⟨(a.add (k * 3)).block, (a.add (k * 3)).off + 2, none⟩) = some (.int .i64 (sAt zs k)) := c2
        have q2 : w.cell? (⟨(b.add (k * 3)).block, (b.add (k * 3)).off + 2, none⟩) = some (.int .i64 (sAt ys k)) := d2
        clear c0 d0 c1 d1 c2 d2
        by_cases h0 : ¬ sName zs k = sName ys k
        · have HE : Hid (¬ sName zs k = sName ys k) := h0
          have e0 : ((sName zs k).toList == (sName ys k).toList) = false := by rw [ByteArray.toList_eq, ByteArray.toList_eq]; simpa using (fun h => h0 (ByteArray.ext (Array.ext' h)))
          clear h0
          go_wp2_with fail
          go_quiet (fail)
          go_wp2
          go_ret
          exact ⟨retB (decide_eq_false (fun h => HE.out (by rw [h]))).symm, below_drewN (below_drewN (Below.refl _ _) _) _⟩
        have H0 : Hid (sName zs k = sName ys k) := Classical.not_not.1 h0
        have e0 : ((sName zs k).toList == (sName ys k).toList) = true := by rw [H0.out]; simp
        clear h0
        by_cases h1 : ¬ sKind zs k = sKind ys k
        · have HE : Hid (¬ sKind zs k = sKind ys k) := h1
          have e1 : (sKind zs k == sKind ys k) = false := by simpa using h1
          clear h1
          go_wp2_with fail
          go_quiet (fail)
          go_wp2
          go_ret
          exact ⟨retB (decide_eq_false (fun h => HE.out (by rw [h]))).symm, below_drewN (below_drewN (Below.refl _ _) _) _⟩
        have H1 : Hid (sKind zs k = sKind ys k) := Classical.not_not.1 h1
        have e1 : (sKind zs k == sKind ys k) = true := by simpa using H1.out
        clear h1
        by_cases h2 : ¬ sAt zs k = sAt ys k
        · have HE : Hid (¬ sAt zs k = sAt ys k) := h2
          have e2 : (sAt zs k == sAt ys k) = false := by simpa using h2
          clear h2
          go_wp2_with fail
          go_quiet (fail)
          go_wp2
          go_ret
          exact ⟨retB (decide_eq_false (fun h => HE.out (by rw [h]))).symm, below_drewN (below_drewN (Below.refl _ _) _) _⟩
        have H2 : Hid (sAt zs k = sAt ys k) := Classical.not_not.1 h2
        have e2 : (sAt zs k == sAt ys k) = true := by simpa using H2.out
        clear h2
        go_wp2_with fail
        go_quiet (fail)
        go_wp2
        go_roundw
        case rel => exact ⟨k + 1, _, by go_num, by omega, rfl, take_same HT.out hlt (by omega) (sym_same H0.out H1.out H2.out)⟩
        case measure => simp [intOf]; omega
      · go_wp2
        go_ret
        exact ⟨retB (decide_eq_true (take_all HT.out (by omega) HL.out)).symm, below_drewN (Below.refl _ _) _⟩
  · have hl' : ((zs.length : Int) == (ys.length : Int)) = false := by simp; omega
    have HL : Hid (¬ zs.length = ys.length) := hl
    clear hl
    go_enter Try.func37, Try.ntmps37
    go_wp2
    go_ret
    exact ⟨retB (decide_eq_false (fun h => HL.out (by rw [h]))).symm, Below.refl _ _⟩
set_option maxRecDepth 100000 in
set_option maxHeartbeats 2000000 in
theorem eqobj_same (nm : ByteArray) (dA : Int) (A1 A2 A3 A4 : Option Addr) (c1 c2 c3 c4 : Nat) (code data : List Int) (ss : List Sym) (rs : List Rel) (w : World) (B1 B2 B3 B4 : Option Addr) (e1 e2 e3 e4 : Nat) (hC : IntsAt w A1 .u32 code) (hD : IntsAt w A2 .i64 data) (hS : SymsAt w A3 ss) (hL : RelsAt w A4 rs) (hc : code.length ≤ 1048576) (hd : data.length ≤ 1048576) (hs : ss.length ≤ 1048576) (hl : rs.length ≤ 1048576) (gC : IntsAt w B1 .u32 code) (gD : IntsAt w B2 .i64 data) (gS : SymsAt w B3 ss) (gL : RelsAt w B4 rs) :
    Calls Try.prog 15 #[.agg #[.string nm, .slice A1 code.length c1, .int .i64 dA, .slice A2 data.length c2, .slice A3 ss.length c3, .slice A4 rs.length c4], .agg #[.string nm, .slice B1 code.length e1, .int .i64 dA, .slice B2 data.length e2, .slice B3 ss.length e3, .slice B4 rs.length e4]] w fun e w' => e = .returned (.bool true) ∧ Below w.heap.size w w' := by
  have E0 := fun wx (hx : Below w.heap.size w wx) => eqwords_any A1 B1 c1 e1 code code wx (hC.keep hx) (gC.keep hx) hc
  simp only [decide_true] at E0
  have E1 := fun wx (hx : Below w.heap.size w wx) => eqlongs_any A2 B2 c2 e2 data data wx (hD.keep hx) (gD.keep hx) hd
  simp only [decide_true] at E1
  have E2 := fun wx (hx : Below w.heap.size w wx) => eqsym_any A3 B3 c3 e3 ss ss wx (hS.keep hx) (gS.keep hx) hs
  simp only [decide_true] at E2
  have E3 := fun wx (hx : Below w.heap.size w wx) => eqrel_any A4 B4 c4 e4 rs rs wx (hL.keep hx) (gL.keep hx) hl
  simp only [decide_true] at E3
  go_enter Try.func15, Try.ntmps15
  go_wp2_with fail
  refine (E0 _ (lb_alloc (lb_alloc (Below.refl _ _) _) _)).mono ?_
  rintro e w0 ⟨rfl, hb0⟩
  have HB0 : Hid (Below w.heap.size w w0) := lb_trans (lb_alloc (lb_alloc (Below.refl _ _) _) _) hb0
  have q0a0 : w0.cell? ⟨w.heap.size, 0, none⟩ = some (.string nm) := lkeep hb0 (by simp [go_sem])
  have q0a1 : w0.cell? ⟨w.heap.size, 1, none⟩ = some (.slice A1 code.length c1) := lkeep hb0 (by simp [go_sem])
  have q0a2 : w0.cell? ⟨w.heap.size, 2, none⟩ = some (.int .i64 dA) := lkeep hb0 (by simp [go_sem])
  have q0a3 : w0.cell? ⟨w.heap.size, 3, none⟩ = some (.slice A2 data.length c2) := lkeep hb0 (by simp [go_sem])
  have q0a4 : w0.cell? ⟨w.heap.size, 4, none⟩ = some (.slice A3 ss.length c3) := lkeep hb0 (by simp [go_sem])
  have q0a5 : w0.cell? ⟨w.heap.size, 5, none⟩ = some (.slice A4 rs.length c4) := lkeep hb0 (by simp [go_sem])
  have q0b0 : w0.cell? ⟨w.heap.size + 1, 0, none⟩ = some (.string nm) := lkeep hb0 (by simp [go_sem])
  have q0b1 : w0.cell? ⟨w.heap.size + 1, 1, none⟩ = some (.slice B1 code.length e1) := lkeep hb0 (by simp [go_sem])
  have q0b2 : w0.cell? ⟨w.heap.size + 1, 2, none⟩ = some (.int .i64 dA) := lkeep hb0 (by simp [go_sem])
  have q0b3 : w0.cell? ⟨w.heap.size + 1, 3, none⟩ = some (.slice B2 data.length e2) := lkeep hb0 (by simp [go_sem])
  have q0b4 : w0.cell? ⟨w.heap.size + 1, 4, none⟩ = some (.slice B3 ss.length e3) := lkeep hb0 (by simp [go_sem])
  have q0b5 : w0.cell? ⟨w.heap.size + 1, 5, none⟩ = some (.slice B4 rs.length e4) := lkeep hb0 (by simp [go_sem])
  clear hb0
  go_wp2_with fail
  refine (E1 _ (HB0.out)).mono ?_
  rintro e w1 ⟨rfl, hb1⟩
  have HB1 : Hid (Below w.heap.size w w1) := lb_trans (HB0.out) hb1
  have q1a0 := lkeep hb1 q0a0
  have q1a1 := lkeep hb1 q0a1
  have q1a2 := lkeep hb1 q0a2
  have q1a3 := lkeep hb1 q0a3
  have q1a4 := lkeep hb1 q0a4
  have q1a5 := lkeep hb1 q0a5
  have q1b0 := lkeep hb1 q0b0
  have q1b1 := lkeep hb1 q0b1
  have q1b2 := lkeep hb1 q0b2
  have q1b3 := lkeep hb1 q0b3
  have q1b4 := lkeep hb1 q0b4
  have q1b5 := lkeep hb1 q0b5
  clear hb1 q0a0 q0a1 q0a2 q0a3 q0a4 q0a5 q0b0 q0b1 q0b2 q0b3 q0b4 q0b5
  go_wp2_with fail
  refine (E2 _ (HB1.out)).mono ?_
  rintro e w2 ⟨rfl, hb2⟩
  have HB2 : Hid (Below w.heap.size w w2) := lb_trans (HB1.out) hb2
  have q2a0 := lkeep hb2 q1a0
  have q2a1 := lkeep hb2 q1a1
  have q2a2 := lkeep hb2 q1a2
  have q2a3 := lkeep hb2 q1a3
  have q2a4 := lkeep hb2 q1a4
  have q2a5 := lkeep hb2 q1a5
  have q2b0 := lkeep hb2 q1b0
  have q2b1 := lkeep hb2 q1b1
  have q2b2 := lkeep hb2 q1b2
  have q2b3 := lkeep hb2 q1b3
  have q2b4 := lkeep hb2 q1b4
  have q2b5 := lkeep hb2 q1b5
  clear hb2 q1a0 q1a1 q1a2 q1a3 q1a4 q1a5 q1b0 q1b1 q1b2 q1b3 q1b4 q1b5
  go_wp2_with fail
  refine (E3 _ (HB2.out)).mono ?_
  rintro e w3 ⟨rfl, hb3⟩
  have HB3 : Hid (Below w.heap.size w w3) := lb_trans (HB2.out) hb3
  have q3a0 := lkeep hb3 q2a0
  have q3a1 := lkeep hb3 q2a1
  have q3a2 := lkeep hb3 q2a2
  have q3a3 := lkeep hb3 q2a3
  have q3a4 := lkeep hb3 q2a4
  have q3a5 := lkeep hb3 q2a5
  have q3b0 := lkeep hb3 q2b0
  have q3b1 := lkeep hb3 q2b1
  have q3b2 := lkeep hb3 q2b2
  have q3b3 := lkeep hb3 q2b3
  have q3b4 := lkeep hb3 q2b4
  have q3b5 := lkeep hb3 q2b5
  clear hb3 q2a0 q2a1 q2a2 q2a3 q2a4 q2a5 q2b0 q2b1 q2b2 q2b3 q2b4 q2b5
  go_wp2
  go_ret
  exact ⟨rfl, HB3.out⟩

end Go.Proofs.Ytbphfgalgiinnaa
