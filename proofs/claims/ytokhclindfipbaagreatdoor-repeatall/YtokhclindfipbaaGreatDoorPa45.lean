/-
  The program: Same, a number given out. The program: Of, Count, each by what it answers. The rows of a text. All.
-/
import Derived.Test.YtokhclindfipbaaGreatDoorProg
import Derived.WalkKit
import Derived.WalkSpells
import Derived.WalkLawsBesides
import Derived.RowKit3
import Derived.Below
import Derived.Deep.QuietTactic
import Derived.BigQuiet
import Derived.WalkSmall
import Derived.Laws.Rows
import Derived.Lib.Builder
import Derived.Deep.RegionHeld3
import Derived.Test.YtokhclindfipbaaGreatDoorPa41
import Derived.Test.YtokhclindfipbaaGreatDoorPa44
import Derived.Test.YtokhclindfipbaaGreatDoorPa15
import Derived.Test.YtokhclindfipbaaGreatDoorPa25
import Derived.OwnWalk
import Derived.Test.YtokhclindfipbaaGreatDoorPa40
import Derived.Test.YtokhclindfipbaaGreatDoorPa36
import Derived.Test.YtokhclindfipbaaGreatDoorPa38
namespace Go.Proofs.YtokhclindfipbaaGreatDoor
open Go.RowKit

set_option maxHeartbeats 2000000 in
theorem sameOK : SameOK := fun v u w h0 h1 _ _ => by
  have C := fun wx => aloneOK v wx h0 h1
  unfold smB
  cases he : (v == u) with
  | false =>
    go_enter Tryz.func100, Tryz.ntmps100
    go_wp2
    go_ret
    exact ⟨rfl, Below.refl _ _⟩
  | true =>
    generalize alB v = x at *
    go_enter Tryz.func100, Tryz.ntmps100
    go_wp2_with (go_at_call 113; refine (C _).mono ?_; rintro e w1 ⟨rfl, hb1⟩)
    go_ret
    exact ⟨rfl, hb1⟩
theorem set_rowN {w : World} {g k : Nat} {cur : Array Value} {t : TypeId} (h : w.heap[g]? = some (.cells cur t (0, 0))) (u : Value) : (w.setCell ⟨g, k, none⟩ u).heap[g]? = some (.cells (cur.setIfInBounds k u) t (0, 0)) := by
  simp [World.setCell, Array.getElem?_modify, h]
/-- What the giver of numbers holds behind k places. -/
structure Gv (w : World) (g b : Nat) (text : List Int) (k : Nat) : Prop where
  cs : w.heap[g]? = some (.cells #[.map (some b), .int .i64 ((rnk text k : Nat) : Int)] 157 (0, 0))
  nm : Nms w b k (knw text k)
/-- All but the giver and its map is as it was. -/
structure Sv (g b : Nat) (w w' : World) : Prop where
  os : w'.os = w.os
  tape : w'.tape = w.tape
  output : w'.output = w.output
  size : w.heap.size ≤ w'.heap.size
  block : ∀ i, i < w.heap.size → i ≠ g → i ≠ b → w'.heap[i]? = w.heap[i]?
theorem Sv.refl (g b : Nat) (w : World) : Sv g b w w := ⟨rfl, rfl, rfl, Nat.le_refl _, fun _ _ _ _ => rfl⟩
theorem Sv.trans {g b : Nat} {x y z : World} (h : Sv g b x y) (k : Sv g b y z) : Sv g b x z :=
  ⟨k.os.trans h.os, k.tape.trans h.tape, k.output.trans h.output, Nat.le_trans h.size k.size, fun i h1 h2 h3 => (k.block i (Nat.lt_of_lt_of_le h1 h.size) h2 h3).trans (h.block i h1 h2 h3)⟩
theorem Sv.grown {g b : Nat} {x y : World} {row : Option Nat} (h : x.grownBy y row) (hr : row = none ∨ row = some g ∨ row = some b) : Sv g b x y :=
  ⟨h.os, h.tape, h.output, h.size, fun i h1 h2 h3 => h.block i h1 (by
    rcases hr with rfl | rfl | rfl
    · intro e; cases e
    · intro e; cases e; exact h2 rfl
    · intro e; cases e; exact h3 rfl)⟩
theorem Sv.new {g b : Nat} {x y : World} (h : Below x.heap.size x y) : Sv g b x y := ⟨h.os, h.tape, h.output, h.size, fun i h1 _ _ => h.block i h1⟩
theorem Sv.below {g b n : Nat} {x y : World} (h : Sv g b x y) (hn : n ≤ x.heap.size) (hg : n ≤ g) (hb : n ≤ b) : Below n x y := ⟨h.os, h.tape, h.output, h.size, fun i hi => h.block i (by omega) (by omega) (by omega)⟩
theorem Gv.ne {w : World} {g b : Nat} {text : List Int} {k : Nat} (h : Gv w g b text k) : g ≠ b := by
  rintro rfl
  obtain ⟨D, ⟨es, clock, h1, _⟩, _⟩ := h.nm
  rw [h.cs] at h1
  cases h1
theorem Gv.keep {w w' : World} {g b : Nat} {text : List Int} {k : Nat} (h : Gv w g b text k) (hb : Below w.heap.size w w') : Gv w' g b text k :=
  ⟨by rw [hb.block g (Array.getElem?_eq_some_iff.1 h.cs).1]; exact h.cs, h.nm.keep hb⟩
set_option maxRecDepth 100000 in
set_option maxHeartbeats 4000000 in
theorem of_any (g b : Nat) (text : List Int) (k : Nat) (w : World) (hk : k < text.length) (hl : text.length ≤ 1048576) (h0 : 0 ≤ nth text k) (h1 : nth text k < 4294967296) (h : Gv w g b text k) :
    Calls Tryz.prog 77 #[.pointer (some ⟨g, 0, none⟩), .int .u32 (nth text k)] w fun e w' => e = .returned (.int .i64 ((numN text k : Nat) : Int)) ∧ Gv w' g b text (k + 1) ∧ Sv g b w w' := by
  have q0 : w.cell? ⟨g, 0, none⟩ = some (.map (some b)) := by rw [Lib.cell_of_heap h.cs]; rfl
  have q1 : w.cell? ⟨g, 1, none⟩ = some (.int .i64 ((rnk text k : Nat) : Int)) := by rw [Lib.cell_of_heap h.cs]; rfl
  have f1 : w.frozen? ⟨g, 1, none⟩ = false := Lib.frozen_of_heap h.cs 1
  have HG : Hid (Gv w g b text k) := h
  have hlk := h.nm.look h0 h1
  clear h
  by_cases hn : fstP text k = k
  · rw [knw_new hn] at hlk
    replace hlk : (Instr.lookup 155 (.map (some b)) (.int .u32 (nth text k)) true).run Tryz.prog w = .ok (.tuple #[.int .i64 0, .bool false]) w := hlk
    have CS := fun wx => sameOK (nth text k) (nth text k) wx h0 h1 h0 h1
    rw [sm_self] at CS
    have HN : Hid (numN text k = rnk text k) := num_new hn
    have HR : Hid (rnk text (k + 1) = rnk text k + 1) := rnk_new hn
    have hr := rnk_up text k
    have hr1 : ((rnk text k : Nat) : Int) ≤ 1048576 := by omega
    have HW : Hid ((w.setCell ⟨g, 1, none⟩ (.int .i64 (((rnk text k : Nat) : Int) + 1))).heap[g]? = some (.cells #[.map (some b), .int .i64 ((rnk text (k + 1) : Nat) : Int)] 157 (0, 0))) := by
      unfold Hid
      rw [set_rowN HG.out.cs, HR.out]; rfl
    have HM : Hid (Nms (w.setCell ⟨g, 1, none⟩ (.int .i64 (((rnk text k : Nat) : Int) + 1))) b k (knw text k)) := HG.out.nm.same (Below.heap_setCell _ _ _ _ (fun e => HG.out.ne e.symm))
    have HS : Hid (Sv g b w (w.setCell ⟨g, 1, none⟩ (.int .i64 (((rnk text k : Nat) : Int) + 1)))) := ⟨rfl, rfl, rfl, by simp [World.setCell], fun i _ h2 _ => Below.heap_setCell _ _ _ _ h2⟩
    cases ha : alB (nth text k) with
    | true =>
      rw [ha] at CS
      have HK : Hid (∀ v, knw text (k + 1) v = knw text k v) := knw_alone ha
      go_enter Tryz.func77, Tryz.ntmps77
      go_wp2_with (go_at_call 100; refine (CS _).mono ?_; rintro e w1 ⟨rfl, hb1⟩)
      go_ret
      exact ⟨by rw [HN.out]; rfl, ⟨by rw [hb1.block g (Array.getElem?_eq_some_iff.1 HW.out).1]; exact HW.out, ((HM.out.keep hb1).fit fun x => (HK.out x).symm).more (Nat.le_succ _)⟩, HS.out.trans (Sv.new hb1)⟩
    | false =>
      rw [ha] at CS
      have HK : Hid (∀ v, knw text (k + 1) v = if v = nth text k then some (rnk text k) else knw text k v) := knw_put hn ha
      go_enter Tryz.func77, Tryz.ntmps77
      go_upto_region 7 with (go_at_call 100; refine (CS _).mono ?_; rintro e w1 ⟨rfl, hb1⟩; have HG1 : Hid (w1.heap[g]? = some (.cells #[.map (some b), .int .i64 ((rnk text (k + 1) : Nat) : Int)] 157 (0, 0))) := (by unfold Hid; rw [hb1.block g (Array.getElem?_eq_some_iff.1 HW.out).1]; exact HW.out); have HM1 : Hid (Nms w1 b k (knw text k)) := HM.out.keep hb1; have HS1 : Hid (Sv g b w w1) := HS.out.trans (Sv.new hb1); have r0 : w1.cell? ⟨g, 0, none⟩ = some (.map (some b)) := (by rw [Lib.cell_of_heap HG1.out]; rfl); clear hb1)
      go_wp2_with (at_mapUpdate; refine wpList_nms_put _ rfl _ _ _ rfl b k (knw text k) HM1.out (by omega) (nth text k) h0 h1 (rnk text k) (by omega) rfl rfl rfl ?_; intro w2 hk2 hg2)
      go_ret
      exact ⟨by rw [HN.out]; rfl, ⟨by rw [hg2.block g (Array.getElem?_eq_some_iff.1 HG1.out).1 (fun e => HG.out.ne (by cases e; rfl))]; exact HG1.out, hk2.fit fun x => (HK.out x).symm⟩, HS1.out.trans (Sv.grown hg2 (.inr (.inr rfl)))⟩
  · rw [knw_old hn] at hlk
    replace hlk : (Instr.lookup 155 (.map (some b)) (.int .u32 (nth text k)) true).run Tryz.prog w = .ok (.tuple #[.int .i64 ((numN text k : Nat) : Int), .bool true]) w := hlk
    have HR : Hid (rnk text (k + 1) = rnk text k) := rnk_known hn
    have HK : Hid (∀ v, knw text (k + 1) v = knw text k v) := knw_known hn
    go_enter Tryz.func77, Tryz.ntmps77
    go_wp2
    go_ret
    exact ⟨rfl, ⟨by rw [HR.out]; exact HG.out.cs, (HG.out.nm.fit fun x => (HK.out x).symm).more (Nat.le_succ _)⟩, Sv.refl _ _ _⟩



end Go.Proofs.YtokhclindfipbaaGreatDoor

namespace Go.Proofs.YtokhclindfipbaaGreatDoor
open Go.RowKit

def fN (text : List Int) (i : Nat) : Value := .int .i64 ((numN text i : Nat) : Int)
def zI (_ : Nat) : Value := .int .i64 0
theorem infoI3n : ∃ i, Tryz.prog.info? 3 = some i ∧ i.zero = some (.int .i64 0) ∧ i.size = 1 ∧ i.bytes = 8 :=
  ⟨(Tryz.prog.info? 3).get (by kernel_rfl), by kernel_rfl, by kernel_rfl, by kernel_rfl, by kernel_rfl⟩
theorem made_ints (f : Nat → Value) (n : Nat) (hn : n ≤ 1048576) (w : World) : (Instr.makeSlice 36 (.int .i64 (n : Int)) (.int .i64 (n : Int))).run Tryz.prog w = .ok (.slice (some ⟨w.heap.size, 0, none⟩) n n) (w.alloc (.cells (wcur f zI n 0) 3)) := by
  obtain ⟨i, hi, hz, hs, hb⟩ := infoI3n
  have h := run_makeSlice (P := Tryz.prog) w 36 3 i _ Tryz.underlying36 hi hz .i64 .i64 (n : Int) (n : Int) (by omega) (by omega) (by rw [hs]; omega) (by rw [hb]; omega) (by omega)
  rw [hs, Nat.mul_one, show ((n : Int)).toNat = n by omega] at h
  rw [h, show zI = fun _ => .int .i64 0 from rfl, ← made_wcur f (.int .i64 0) n]
  rfl
theorem row_nums {w : World} {g : Nat} {text : List Int} (h : w.heap[g]? = some (.cells (wcur (fN text) zI text.length text.length) 3 (0, 0))) (hn : text.length ≤ 1048576) {base : Nat} (hg : base ≤ g) : w.ownsRow base 3 1 (.slice (some ⟨g, 0, none⟩) text.length text.length) text.length (iVals .i64 (numL text text.length)) := by
  refine ⟨by simp [iVals, numL_len], .inr ⟨g, text.length, _, rfl, hg, h, Nat.le_refl _, by unfold maxLen; omega, by rw [wcur_size, Nat.mul_one], ?_⟩⟩
  apply List.ext_getElem?
  intro i
  by_cases hi : i < text.length
  · rw [List.getElem?_take_of_lt (by omega), Array.getElem?_toList, wcur_get _ _ _ _ _ hi, if_pos hi, iVals_get (by rw [numL_len]; exact hi), numL_nth hi]
    rfl
  · rw [List.getElem?_eq_none (by simp [wcur_size]; omega), List.getElem?_eq_none (by simp [iVals, numL_len]; omega)]
set_option maxRecDepth 100000 in
set_option maxHeartbeats 4000000 in
theorem each_any (g b : Nat) (A : Option Addr) (c : Nat) (text : List Int) (w0 w : World) (hA : IntsAt w0 A .u32 text) (hb0 : Below w0.heap.size w0 w) (hg0 : w0.heap.size ≤ g) (hm0 : w0.heap.size ≤ b) (hR : ∀ i, i < text.length → 0 ≤ nth text i ∧ nth text i < 4294967296) (hl : text.length ≤ 1048576) (h : Gv w g b text 0) :
    Calls Tryz.prog 76 #[.slice A text.length c, .func (.func 77) #[.pointer (some ⟨g, 0, none⟩)] #[]] w fun e w' => e = .returned (.slice (some ⟨w.heap.size, 0, none⟩) text.length text.length) ∧ w'.heap[w.heap.size]? = some (.cells (wcur (fN text) zI text.length text.length) 3 (0, 0)) ∧ Sv g b w w' := by
  have HA : Hid (IntsAt w0 A .u32 text) := hA
  have HB0 : Hid (Below w0.heap.size w0 w) := hb0
  have HR : Hid (∀ i, i < text.length → 0 ≤ nth text i ∧ nth text i < 4294967296) := hR
  have HLT : Hid (g < w.heap.size ∧ b < w.heap.size) := ⟨(Array.getElem?_eq_some_iff.1 h.cs).1, h.nm.lt⟩
  have hmk := made_ints (fN text) text.length hl
  have HG1 : Hid (Gv (w.alloc (.cells (wcur (fN text) zI text.length 0) 3)) g b text 0) := h.keep (lb_alloc (Below.refl _ _) _)
  have HS1 : Hid (Sv g b w (w.alloc (.cells (wcur (fN text) zI text.length 0) 3))) := Sv.new (lb_alloc (Below.refl _ _) _)
  have HX1 : Hid ((w.alloc (.cells (wcur (fN text) zI text.length 0) 3)).heap[w.heap.size]? = some (.cells (wcur (fN text) zI text.length 0) 3 (0, 0))) := heap_alloc_new _ _
  clear hA hR h hb0
  go_enter Tryz.func76, Tryz.ntmps76
  go_wp2
  go_loopw [13] (fun i wr => ∃ k : Nat, i = .int .i64 k ∧ k ≤ text.length ∧ Hid (Sv g b w wr) ∧ Hid (Gv wr g b text k) ∧ Hid (wr.heap[w.heap.size]? = some (.cells (wcur (fN text) zI text.length k) 3 (0, 0)))) (fun i _ => text.length - (intOf i).toNat)
  case atStart => exact ⟨0, rfl, Nat.zero_le _, HS1, HG1, HX1⟩
  case round =>
    clear hmk HS1 HG1 HX1
    obtain ⟨k, rfl, hk, HS, HG, HX⟩ := hrel
    by_cases hlt : k < text.length
    · have hlt' : (k : Int) < (text.length : Int) := by omega
      obtain ⟨a, ea, q⟩ := HA.out k hlt
      subst ea
      replace q := lkeep (HB0.out.trans (HS.out.below HB0.out.size hg0 hm0)) q
      obtain ⟨v0, v1⟩ := HR.out k hlt
      have CO := of_any g b text k wr hlt hl v0 v1 HG.out
      have HSet : Hid ((wcur (fN text) zI text.length k).setIfInBounds k (.int .i64 ((numN text k : Nat) : Int)) = wcur (fN text) zI text.length (k + 1)) := wcur_set (fN text) zI text.length k hlt
      have HGt : Hid ((wcur (fN text) zI text.length k)[k]? = some (.int .i64 0)) := by
        unfold Hid
        rw [wcur_get _ _ _ _ _ hlt, if_neg (by omega)]; rfl
      generalize nth text k = v at CO q
      generalize numN text k = x at CO HSet
      go_wp2_with (go_at_call 77; refine CO.mono ?_; rintro e w1 ⟨rfl, hg1, hs1⟩; have hx1 : w1.heap[w.heap.size]? = some (.cells (wcur (fN text) zI text.length k) 3 (0, 0)) := (hs1.block w.heap.size (Array.getElem?_eq_some_iff.1 HX.out).1 (by have := HLT.out; omega) (by have := HLT.out; omega)).trans HX.out; have cg : w1.cell? ⟨w.heap.size, k, none⟩ = some (.int .i64 0) := (by rw [Lib.cell_of_heap hx1]; exact HGt.out); have fg : w1.frozen? ⟨w.heap.size, k, none⟩ = false := Lib.frozen_of_heap hx1 k; have HG2 : Hid (Gv w1 g b text (k + 1)) := hg1; have HS2 : Hid (Sv g b w w1) := HS.out.trans hs1; have HX2 : Hid _ := hx1; clear hx1 hg1 hs1 CO)
      have off : ∀ i, i ≠ w.heap.size → (w1.setCell ⟨w.heap.size, k, none⟩ (.int .i64 (x : Int))).heap[i]? = w1.heap[i]? := fun i hi => Below.heap_setCell _ _ _ _ hi
      have HX3 : Hid ((w1.setCell ⟨w.heap.size, k, none⟩ (.int .i64 (x : Int))).heap[w.heap.size]? = some (.cells (wcur (fN text) zI text.length (k + 1)) 3 (0, 0))) := by
        unfold Hid
        rw [set_rowN HX2.out, HSet.out]
      have HS3 : Hid (Sv g b w (w1.setCell ⟨w.heap.size, k, none⟩ (.int .i64 (x : Int)))) := ⟨HS2.out.os, HS2.out.tape, HS2.out.output, by simpa [World.setCell] using HS2.out.size, fun i h1 h2 h3 => (off i (by omega)).trans (HS2.out.block i h1 h2 h3)⟩
      have HG3 : Hid (Gv (w1.setCell ⟨w.heap.size, k, none⟩ (.int .i64 (x : Int))) g b text (k + 1)) := ⟨by rw [off g (by have := HLT.out; omega)]; exact HG2.out.cs, HG2.out.nm.same (off b (by have := HLT.out; omega))⟩
      go_roundw
      case rel => exact ⟨k + 1, by go_num, by omega, HS3, HG3, HX3⟩
      case measure => simp [intOf]; omega
    · obtain rfl : k = text.length := by omega
      go_wp2
      go_ret
      exact ⟨rfl, HX.out, HS.out⟩

set_option maxRecDepth 100000 in
set_option maxHeartbeats 4000000 in
theorem nofOK : NofOK where
  no := fun A1 A2 c1 ml c2 ent text w hT hR hl hm hE => by
    obtain ⟨W0, HW⟩ : ∃ W0, Hid (w.alloc (.cells #[.slice A1 text.length c1, .int .i64 ent, .slice A2 ml c2] 25) = W0) := ⟨_, rfl⟩
    have HB0 : Hid (Below w.heap.size w W0) := by unfold Hid; rw [← HW.out]; exact lb_alloc (Below.refl _ _) _
    have i0 : W0.cell? ⟨w.heap.size, 0, none⟩ = some (.slice A1 text.length c1) := by rw [← HW.out]; simp [go_sem]
    have i1 : W0.cell? ⟨w.heap.size, 1, none⟩ = some (.int .i64 ent) := by rw [← HW.out]; simp [go_sem]
    have i2 : W0.cell? ⟨w.heap.size, 2, none⟩ = some (.slice A2 ml c2) := by rw [← HW.out]; simp [go_sem]
    have C := check_any A1 A2 c1 ml c2 ent text W0 (hT.keep HB0.out) hR hl hm
    generalize (checkI text ml ent).1 = E at *
    generalize (checkI text ml ent).2 = F at *
    have hE' : (E != 0) = true := by simpa using hE
    clear hT hR
    go_enter Tryz.func60, Tryz.ntmps60
    go_upto_region 1 with fail
    rw [HW.out]
    go_wp2_with (go_at_call 75; refine C.mono ?_; rintro e w1 ⟨rfl, hb1⟩)
    go_ret2
    exact ⟨none, 0, rfl, ⟨rfl, .inl ⟨rfl, rfl⟩⟩, lb_trans HB0.out hb1⟩
  ok := fun A1 A2 c1 ml c2 ent text w hT hR hl hm hE => by
    obtain ⟨W0, HW⟩ : ∃ W0, Hid (w.alloc (.cells #[.slice A1 text.length c1, .int .i64 ent, .slice A2 ml c2] 25) = W0) := ⟨_, rfl⟩
    have HB0 : Hid (Below w.heap.size w W0) := by unfold Hid; rw [← HW.out]; exact lb_alloc (Below.refl _ _) _
    have i0 : W0.cell? ⟨w.heap.size, 0, none⟩ = some (.slice A1 text.length c1) := by rw [← HW.out]; simp [go_sem]
    have i1 : W0.cell? ⟨w.heap.size, 1, none⟩ = some (.int .i64 ent) := by rw [← HW.out]; simp [go_sem]
    have i2 : W0.cell? ⟨w.heap.size, 2, none⟩ = some (.slice A2 ml c2) := by rw [← HW.out]; simp [go_sem]
    have HI : Hid (∀ Z, Below W0.heap.size W0 Z → Z.cell? ⟨w.heap.size, 0, none⟩ = some (.slice A1 text.length c1)) := fun Z hZ => lkeep hZ i0
    have HT : Hid (IntsAt w A1 .u32 text) := hT
    have HR : Hid (∀ i, i < text.length → 0 ≤ nth text i ∧ nth text i < 4294967296) := hR
    have C := check_any A1 A2 c1 ml c2 ent text W0 (hT.keep HB0.out) hR hl hm
    rw [hE] at C
    generalize (checkI text ml ent).2 = F at *
    clear hT hR hE
    go_enter Tryz.func60, Tryz.ntmps60
    go_upto_region 1 with fail
    rw [HW.out]
    go_upto_region 4 with (go_at_call 75; refine C.mono ?_; rintro e w1 ⟨rfl, hb1⟩; have HB1 : Hid (Below W0.heap.size W0 w1) := hb1; clear hb1 C)
    have mk1 := fun wx => mkNm wx none rfl
    have mk2 := mkFnT
    obtain ⟨X, HX⟩ : ∃ X, Hid ((w1.alloc (.map #[] 0)).alloc (.cells #[.map (some w1.heap.size), .int .i64 0] 157) = X) := ⟨_, rfl⟩
    have HBX : Hid (Below W0.heap.size W0 X) := by unfold Hid; rw [← HX.out]; exact lb_alloc (lb_alloc HB1.out _) _
    have HSZ : Hid (w.heap.size ≤ w1.heap.size) := Nat.le_trans HB0.out.size HB1.out.size
    have HGX : Hid (Gv X (w1.heap.size + 1) w1.heap.size text 0) := by
      unfold Hid
      rw [← HX.out]
      refine ⟨?_, ((Nms.made w1).keep (lb_alloc (Below.refl _ _) _)).fit fun x => (knw_zero text x).symm⟩
      have := heap_alloc_new (w1.alloc (.map #[] 0)) (.cells #[.map (some w1.heap.size), .int .i64 0] 157)
      rw [show (w1.alloc (.map #[] 0)).heap.size = w1.heap.size + 1 by simp [go_sem]] at this
      exact this
    have x0 := HI.out X HBX.out
    have CE := each_any (w1.heap.size + 1) w1.heap.size A1 c1 text w X HT.out (lb_trans HB0.out HBX.out) (by have := HSZ.out; omega) HSZ.out HR.out hl HGX.out
    go_upto_region 5 with fail
    rw [HX.out]
    go_wp2_with (go_at_call 76; refine CE.mono ?_; rintro e w2 ⟨rfl, hx, hs⟩)
    go_ret2
    have hsz : w.heap.size ≤ X.heap.size := Nat.le_trans HB0.out.size HBX.out.size
    exact ⟨_, _, rfl, row_nums hx hl hsz, (lb_trans HB0.out HBX.out).trans (hs.below hsz (by have := HSZ.out; omega) HSZ.out)⟩


end Go.Proofs.YtokhclindfipbaaGreatDoor

namespace Go.Proofs.YtokhclindfipbaaGreatDoor
open Go.RowKit

/-- Where the rows lie. -/
structure RwAt (lo B : Nat) (A1 A2 A3 A4 : Option Addr) : Prop where
  b : lo ≤ B
  l1 : ∀ a, A1 = some a → lo ≤ a.block
  l2 : ∀ a, A2 = some a → lo ≤ a.block
  l3 : ∀ a, A3 = some a → lo ≤ a.block
  l4 : ∀ a, A4 = some a → lo ≤ a.block
theorem RwAt.mono {lo lo2 B : Nat} {A1 A2 A3 A4 : Option Addr} (h : RwAt lo B A1 A2 A3 A4) (hl : lo2 ≤ lo) : RwAt lo2 B A1 A2 A3 A4 :=
  ⟨Nat.le_trans hl h.b, fun a e => Nat.le_trans hl (h.l1 a e), fun a e => Nat.le_trans hl (h.l2 a e), fun a e => Nat.le_trans hl (h.l3 a e), fun a e => Nat.le_trans hl (h.l4 a e)⟩
theorem ints_same {W W' : World} {A : Option Addr} {K : IntKind} {l : List Int} {lo : Nat} (h : IntsAt W A K l) (ha : ∀ a, A = some a → lo ≤ a.block) (hs : ∀ b, lo ≤ b → b < W.heap.size → W'.heap[b]? = W.heap[b]?) : IntsAt W' A K l := fun i hi => by
  obtain ⟨a, e, c⟩ := h i hi
  refine ⟨a, e, ?_⟩
  have hb := ha a e
  have hlt := World.block_lt_of_cell? W _ c
  have hbl : (a.add i).block = a.block := by
    unfold Addr.add
    by_cases h0 : i = 0
    · simp [h0]
    · simp [h0]
  rw [hbl] at hlt
  rw [← c]
  unfold World.cell?
  rw [hbl, hs a.block hb hlt]
theorem RwS.same {W W' : World} {B lo : Nat} {A1 A2 A3 A4 : Option Addr} {c1 c2 c3 c4 : Nat} {nm : List Int} {en : Nat → Nat} (h : RwS W B A1 A2 A3 A4 c1 c2 c3 c4 nm en) (hl : RwAt lo B A1 A2 A3 A4) (hs : ∀ b, lo ≤ b → b < W.heap.size → W'.heap[b]? = W.heap[b]?) : RwS W' B A1 A2 A3 A4 c1 c2 c3 c4 nm en := by
  have hB := hs B hl.b (World.block_lt_of_cell? W _ h.f1)
  have hc : ∀ {i : Nat} {v : Value}, W.cell? ⟨B, i, none⟩ = some v → W'.cell? ⟨B, i, none⟩ = some v := fun {i v} e => by
    rw [← e]
    unfold World.cell?
    rw [hB]
  exact ⟨hc h.f1, hc h.f2, hc h.f3, hc h.f4, ints_same h.r1 hl.l1 hs, ints_same h.r2 hl.l2 hs, ints_same h.r3 hl.l3 hs, ints_same h.r4 hl.l4 hs, h.le⟩
theorem own_from {w : World} {b e sz n c k : Nat} {A : Option Addr} {xs : List Value} (h : w.ownsRow b e sz (.slice A n c) k xs) : ∀ a, A = some a → b ≤ a.block := fun a ha => by
  subst ha
  rcases h.2 with ⟨e1, _⟩ | ⟨g, cap, cur, e1, h2, _⟩
  · injection e1 with e1 _ _
    cases e1
  · injection e1 with e1 _ _
    cases e1
    exact h2
/-- What rowsOf answers. -/
def RowOk (text : List Int) (ent : Int) (w : World) (e : Ending) (w' : World) : Prop := ∃ (B : Nat) (A1 A2 A3 A4 : Option Addr) (c1 c2 c3 c4 : Nat), e = .returned (.tuple #[.pointer (some ⟨B, 0, none⟩), .int .i64 0]) ∧ w.heap.size ≤ B ∧ RwS w' B A1 A2 A3 A4 c1 c2 c3 c4 (numL text text.length) (enK (begF text ent) text.length) ∧ RwAt w.heap.size B A1 A2 A3 A4 ∧ Below w.heap.size w w'
def RowNo (E : Int) (w : World) (e : Ending) (w' : World) : Prop := e = .returned (.tuple #[.pointer none, .int .i64 E]) ∧ Below w.heap.size w w'
theorem num_rng (text : List Int) (hl : text.length ≤ 1048576) : ∀ i, i < (numL text text.length).length → -9223372036854775808 ≤ nth (numL text text.length) i ∧ nth (numL text text.length) i ≤ 9223372036854775807 := fun i hi => by
  rw [numL_len] at hi
  rw [numL_nth hi]
  have h1 := fstP_le text i
  have h2 : ∀ k, rnk text k ≤ k := fun k => by
    induction k with
    | zero => exact Nat.le_refl _
    | succ k ih =>
      rw [rnk]
      by_cases c : newP text k = true
      · rw [if_pos c]; omega
      · rw [if_neg c]; omega
  have h3 := h2 (fstP text i)
  unfold numN
  omega
theorem own_le {w : World} {b e sz n c : Nat} {A : Option Addr} {xs : List Value} (h : w.ownsRow b e sz (.slice A n c) n xs) : n ≤ c := by
  rcases h.2 with ⟨e1, _⟩ | ⟨g, cap, cur, e1, _, _, e4, _⟩
  · injection e1 with _ e2 _
    omega
  · injection e1 with _ _ e2
    omega
set_option maxRecDepth 100000 in
set_option maxHeartbeats 4000000 in
theorem rows_no (A1 A2 : Option Addr) (c1 ml c2 : Nat) (ent : Int) (text : List Int) (w : World) (hT : IntsAt w A1 .u32 text) (hR : ∀ i, i < text.length → 0 ≤ nth text i ∧ nth text i < 4294967296) (hl : text.length ≤ 1048576) (hm : ml ≤ 1048576) (hE : (checkI text ml ent).1 ≠ 0) :
    Calls Tryz.prog 27 #[.agg #[.slice A1 text.length c1, .int .i64 ent, .slice A2 ml c2]] w (RowNo (checkI text ml ent).1 w) := by
  obtain ⟨X, hX⟩ : ∃ X, w.alloc (.cells #[.slice A1 text.length c1, .int .i64 ent, .slice A2 ml c2] 25) = X := ⟨_, rfl⟩
  have HB : Hid (Below w.heap.size w X) := by unfold Hid; rw [← hX]; exact lb_alloc (Below.refl _ _) _
  have i0 : X.cell? ⟨w.heap.size, 0, none⟩ = some (.slice A1 text.length c1) := by rw [← hX]; simp [go_sem]
  have i1 : X.cell? ⟨w.heap.size, 1, none⟩ = some (.int .i64 ent) := by rw [← hX]; simp [go_sem]
  have i2 : X.cell? ⟨w.heap.size, 2, none⟩ = some (.slice A2 ml c2) := by rw [← hX]; simp [go_sem]
  have C := nofOK.no A1 A2 c1 ml c2 ent text X (hT.keep HB.out) hR hl hm hE
  have hne : ((checkI text ml ent).1 != 0) = true := by simpa using hE
  have HX : Hid _ := hX
  clear hT hR hX hE
  generalize (checkI text ml ent).1 = E at *
  go_enter Tryz.func27, Tryz.ntmps27
  go_upto_region 1 with fail
  rw [HX.out]
  clear HX
  go_wp2_with (go_at_call 60; refine C.mono ?_; rintro e w1 ⟨A, c, rfl, -, hb1⟩; have HB1 : Hid (Below w.heap.size w w1) := lb_trans HB.out hb1; clear hb1)
  go_ret2
  exact ⟨rfl, HB1.out⟩
set_option maxRecDepth 100000 in
set_option maxHeartbeats 8000000 in
theorem rows_ok (A1 A2 : Option Addr) (c1 ml c2 : Nat) (ent : Int) (text : List Int) (w : World) (hT : IntsAt w A1 .u32 text) (hR : ∀ i, i < text.length → 0 ≤ nth text i ∧ nth text i < 4294967296) (hl : text.length ≤ 2048) (hm : ml ≤ 1048576) (hE : (checkI text ml ent).1 = 0) (h0 : 0 < text.length) :
    Calls Tryz.prog 27 #[.agg #[.slice A1 text.length c1, .int .i64 ent, .slice A2 ml c2]] w (RowOk text ent w) := by
  obtain ⟨X, hX⟩ : ∃ X, w.alloc (.cells #[.slice A1 text.length c1, .int .i64 ent, .slice A2 ml c2] 25) = X := ⟨_, rfl⟩
  have HB : Hid (Below w.heap.size w X) := by unfold Hid; rw [← hX]; exact lb_alloc (Below.refl _ _) _
  have i0 : X.cell? ⟨w.heap.size, 0, none⟩ = some (.slice A1 text.length c1) := by rw [← hX]; simp [go_sem]
  have i1 : X.cell? ⟨w.heap.size, 1, none⟩ = some (.int .i64 ent) := by rw [← hX]; simp [go_sem]
  have i2 : X.cell? ⟨w.heap.size, 2, none⟩ = some (.slice A2 ml c2) := by rw [← hX]; simp [go_sem]
  have HI : Hid (∀ W, Below X.heap.size X W → W.cell? ⟨w.heap.size, 0, none⟩ = some (.slice A1 text.length c1) ∧ W.cell? ⟨w.heap.size, 1, none⟩ = some (.int .i64 ent) ∧ W.cell? ⟨w.heap.size, 2, none⟩ = some (.slice A2 ml c2)) := fun W hb => ⟨lkeep hb i0, lkeep hb i1, lkeep hb i2⟩
  have HTX : Hid (IntsAt X A1 .u32 text) := hT.keep HB.out
  have HR : Hid _ := hR
  have C1 := nofOK.ok A1 A2 c1 ml c2 ent text X HTX.out hR (by omega) hm hE
  have HC2 : Hid (∀ W, Below X.heap.size X W → Calls Tryz.prog 61 #[.agg #[.slice A1 text.length c1, .int .i64 ent, .slice A2 ml c2]] W (BlkP 0 (blkN (begF text ent) text.length) W)) := fun W hb => by
    have := blocks_any A1 A2 c1 ml c2 ent text W (HTX.out.keep hb) HR.out (by omega) hm
    rw [show outB text ml ent = blkN (begF text ent) text.length from if_pos hE, hE] at this
    exact this
  have HN : Hid _ := num_rng text (by omega)
  have HNl : Hid ((numL text text.length).length = text.length) := numL_len _ _
  have HX : Hid _ := hX
  have HB0 : Hid (begF text ent 0 = true) := beg_zero text ent
  clear hT hR hX hE
  go_enter Tryz.func27, Tryz.ntmps27
  go_upto_region 1 with fail
  rw [HX.out]
  clear HX
  go_upto_region 4 with (go_at_call 60; refine C1.mono ?_; rintro e w1 ⟨An, cn, rfl, hn1, hb1⟩; have HB1 : Hid (Below X.heap.size X w1) := hb1; have HN1 : Hid _ := hn1; clear hb1 hn1)
  obtain ⟨i0, i1, i2⟩ := HI.out w1 HB1.out
  have C2 := HC2.out w1 HB1.out
  have hlt0 : text.length ≤ 2048 := hl
  go_upto_region 7 with (go_at_call 61; refine C2.mono ?_; rintro e w2 ⟨Ab, cb, rfl, hn2, hb2⟩; have HB2 : Hid (Below w1.heap.size w1 w2) := hb2; have HR2 : Hid _ := hn2; clear hb2 hn2)
  have HBX2 : Hid (Below w.heap.size w w2) := lb_trans (lb_trans HB.out HB1.out) HB2.out
  have HN2 : Hid (IntsAt w2 An .i64 (numL text text.length)) := (row_ints (c := cn) (n := text.length) (by rw [HNl.out]; exact HN1.out)).keep HB2.out
  have HRl : Hid (RelsAt w2 Ab (blkN (begF text ent) text.length)) := drow_rels HR2.out
  clear i0 i1 i2 HI HC2 C1 C2 HTX HR HN1 HR2 HB HB1 HB2
  obtain ⟨nm, hnm⟩ : ∃ nm, nm = numL text text.length := ⟨_, rfl⟩
  have HNM : Hid (nm = numL text text.length) := hnm
  rw [← hnm] at HN HNl HN2
  clear hnm
  rw [← HNl.out] at hl hlt0 h0 HRl ⊢
  have HHl : Hid (nm.length ≤ 2048) := hl
  have CS := ofOK.ok An cn nm w2 HN2.out HN.out hl
  go_upto_region 8 with (go_at_call 62; refine CS.mono ?_; rintro e w3 ⟨S1, S2, k1, k2, rfl, hs1, hs2, -, hb3⟩; have HB3 : Hid (Below w2.heap.size w2 w3) := hb3; have HS1 : Hid _ := hs1; have HS2 : Hid _ := hs2; clear hs1 hs2 hb3)
  obtain ⟨co, hco⟩ : ∃ co, co = cstI nm := ⟨_, rfl⟩
  rw [← hco]
  obtain ⟨Y, hY⟩ : ∃ Y, w3.alloc (.cells #[.slice S1 nm.length k1, .slice S2 nm.length k2, .int .i64 co] 107) = Y := ⟨_, rfl⟩
  have HBY3 : Hid (Below w3.heap.size w3 Y) := by unfold Hid; rw [← hY]; exact lb_alloc (Below.refl _ _) _
  have y0 : Y.cell? ⟨w3.heap.size, 0, none⟩ = some (.slice S1 nm.length k1) := by rw [← hY]; simp [go_sem]
  have y1 : Y.cell? ⟨w3.heap.size, 1, none⟩ = some (.slice S2 nm.length k2) := by rw [← hY]; simp [go_sem]
  have HY : Hid _ := hY
  have HBY : Hid (Below w2.heap.size w2 Y) := lb_trans HB3.out HBY3.out
  have HI1 : Hid (IntsAt Y S1 .i64 (sufL nm)) := (row_ints (c := k1) (n := nm.length) (by rw [sufL_len]; exact HS1.out)).keep HBY3.out
  have HI2 : Hid (IntsAt Y S2 .i64 (rkL nm)) := (row_ints (c := k2) (n := nm.length) (by rw [rkL_len]; exact HS2.out)).keep HBY3.out
  have HK1 : Hid (nm.length ≤ k1) := own_le HS1.out
  have HF : Hid (∀ W, Below Y.heap.size Y W → W.cell? ⟨w3.heap.size, 0, none⟩ = some (.slice S1 nm.length k1) ∧ W.cell? ⟨w3.heap.size, 1, none⟩ = some (.slice S2 nm.length k2)) := fun W hb => ⟨lkeep hb y0, lkeep hb y1⟩
  have CP := prefixesOK.ok An S1 cn k1 nm Y (HN2.out.keep HBY.out) HN.out hl HI1.out
  have HL1 : Hid (∀ a, S1 = some a → w2.heap.size ≤ a.block) := own_from HS1.out
  have HL2 : Hid (∀ a, S2 = some a → w2.heap.size ≤ a.block) := own_from HS2.out
  have HW2 : Hid (w.heap.size ≤ w2.heap.size) := HBX2.out.size
  clear hY hco CS HS1 HS2
  rw [HY.out]
  clear HY
  go_upto_region 11 with (go_at_call 63; refine CP.mono ?_; rintro e w4 ⟨P, kp, rfl, hp4, hb4⟩; have HB4 : Hid (Below Y.heap.size Y w4) := hb4; have HP4 : Hid _ := hp4; clear hp4 hb4)
  obtain ⟨z0, z1⟩ := HF.out w4 HB4.out
  have HF4 : Hid (∀ W, Below w4.heap.size w4 W → W.cell? ⟨w3.heap.size, 0, none⟩ = some (.slice S1 nm.length k1) ∧ W.cell? ⟨w3.heap.size, 1, none⟩ = some (.slice S2 nm.length k2)) := fun W hb => HF.out W (lb_trans HB4.out hb)
  have HB4w : Hid (Below w.heap.size w w4) := lb_trans HBX2.out (lb_trans HBY.out HB4.out)
  have HJ1 : Hid (IntsAt w4 S1 .i64 (sufL nm)) := HI1.out.keep HB4.out
  have HJ2 : Hid (IntsAt w4 S2 .i64 (rkL nm)) := HI2.out.keep HB4.out
  have HJ3 : Hid (IntsAt w4 P .i64 (cpA nm)) := row_ints (c := kp) (n := nm.length) (by rw [cpA_len]; exact HP4.out)
  have HR4 : Hid (RelsAt w4 Ab (blkN (begF text ent) nm.length)) := HRl.out.keep (lb_trans HBY.out HB4.out)
  have HCE : Hid (∀ W, Below w4.heap.size w4 W → Calls Tryz.prog 64 #[.slice Ab (blkN (begF text ent) nm.length).length cb] W (EndP nm.length (enP (begF text ent) nm.length nm.length) W)) := fun W hb => ends_any Ab cb (begF text ent) nm.length W (HR4.out.keep hb) HB0.out h0 (by have := HHl.out; omega)
  have HL3 : Hid (∀ a, P = some a → Y.heap.size ≤ a.block) := own_from HP4.out
  have HWY : Hid (w.heap.size ≤ Y.heap.size) := Nat.le_trans HW2.out HBY.out.size
  clear CP HI1 HI2 HP4 HR4 HF y0 y1 HN HN2 HRl HBX2 HBY3 HBY HB3 HB4
  have B4 : Below w4.heap.size w4 w4.drew := (Below.refl _ _).drew
  go_wp2_with fail
  go_region_held3 (fun W => Below w4.heap.size w4 W ∧ W.cell? ⟨w3.heap.size, 0, none⟩ = some (.slice S1 nm.length k1) ∧ W.cell? ⟨w3.heap.size, 1, none⟩ = some (.slice S2 nm.length k2)) (first | exact ⟨Below.refl _ _, z0, z1⟩ | exact ⟨lb_trans B4 hb5, HF4.out _ (lb_trans B4 hb5)⟩ | exact ⟨B4, HF4.out _ B4⟩ | exact ⟨lb_alloc (lb_trans B4 hb5) _, HF4.out _ (lb_alloc (lb_trans B4 hb5) _)⟩) (first | (go_at_call 64; refine (HCE.out _ B4).mono ?_; rintro e w5 ⟨E, ke, rfl, hi5, hf5, hb5⟩; have HF5 : Hid (∀ a, E = some a → w4.heap.size ≤ a.block) := hf5; clear hf5; have HI5 : Hid (IntsAt w5 E .i64 (enP (begF text ent) nm.length nm.length)) := hi5; clear hi5))
  have HB5 : Hid (Below w4.heap.size w4 w5) := lb_trans B4 hb5
  clear hb5 B4 HCE HF4 z0 z1 HB0
  go_wp2
  go_ret2
  have HB6 : Below w4.heap.size w4 (w5.alloc (.cells #[.slice S1 nm.length k1, .slice S2 nm.length k2, .slice P nm.length kp, .slice E nm.length ke] 84)) := lb_alloc HB5.out _
  have hB56 : Below w5.heap.size w5 (w5.alloc (.cells #[.slice S1 nm.length k1, .slice S2 nm.length k2, .slice P nm.length kp, .slice E nm.length ke] 84)) := lb_alloc (Below.refl _ _) _
  refine ⟨w5.heap.size, S1, S2, P, E, k1, k2, kp, ke, rfl, Nat.le_trans HB4w.out.size HB5.out.size, ?_, ⟨Nat.le_trans HB4w.out.size HB5.out.size, fun a e => Nat.le_trans HW2.out (HL1.out a e), fun a e => Nat.le_trans HW2.out (HL2.out a e), fun a e => Nat.le_trans HWY.out (HL3.out a e), fun a e => Nat.le_trans HB4w.out.size (HF5.out a e)⟩, lb_trans HB4w.out HB6⟩
  rw [← HNM.out, ← HNl.out]
  exact ⟨by simp [go_sem], by simp [go_sem], by simp [go_sem], by simp [go_sem], HJ1.out.keep HB6, HJ2.out.keep HB6, HJ3.out.keep HB6, HI5.out.keep hB56, HK1.out⟩


end Go.Proofs.YtokhclindfipbaaGreatDoor

namespace Go.Proofs.YtokhclindfipbaaGreatDoor
open Go.RowKit

/-- What All answers. -/
def AllOk (text : List Int) (ent : Int) (w : World) (e : Ending) (w' : World) : Prop := ∃ (B : Nat) (A1 A2 A3 A4 : Option Addr) (c1 c2 c3 c4 : Nat), e = .returned (.tuple #[.func (.func 37) #[.pointer (some ⟨B, 0, none⟩)] #[], .int .i64 0]) ∧ w.heap.size ≤ B ∧ RwS w' B A1 A2 A3 A4 c1 c2 c3 c4 (numL text text.length) (enK (begF text ent) text.length) ∧ RwAt w.heap.size B A1 A2 A3 A4 ∧ Below w.heap.size w w'
def AllNo (E : Int) (w : World) (e : Ending) (w' : World) : Prop := e = .returned (.tuple #[.nilFunc, .int .i64 E]) ∧ Below w.heap.size w w'
set_option maxRecDepth 100000 in
set_option maxHeartbeats 4000000 in
theorem all_no (A1 A2 : Option Addr) (c1 ml c2 : Nat) (ent : Int) (text : List Int) (w : World) (hT : IntsAt w A1 .u32 text) (hR : ∀ i, i < text.length → 0 ≤ nth text i ∧ nth text i < 4294967296) (hl : text.length ≤ 1048576) (hm : ml ≤ 1048576) (hE : (checkI text ml ent).1 ≠ 0) :
    Calls Tryz.prog 17 #[.agg #[.slice A1 text.length c1, .int .i64 ent, .slice A2 ml c2]] w (AllNo (checkI text ml ent).1 w) := by
  obtain ⟨X, hX⟩ : ∃ X, w.alloc (.cells #[.slice A1 text.length c1, .int .i64 ent, .slice A2 ml c2] 25) = X := ⟨_, rfl⟩
  have HB : Hid (Below w.heap.size w X) := by unfold Hid; rw [← hX]; exact lb_alloc (Below.refl _ _) _
  have i0 : X.cell? ⟨w.heap.size, 0, none⟩ = some (.slice A1 text.length c1) := by rw [← hX]; simp [go_sem]
  have i1 : X.cell? ⟨w.heap.size, 1, none⟩ = some (.int .i64 ent) := by rw [← hX]; simp [go_sem]
  have i2 : X.cell? ⟨w.heap.size, 2, none⟩ = some (.slice A2 ml c2) := by rw [← hX]; simp [go_sem]
  have C := rows_no A1 A2 c1 ml c2 ent text X (hT.keep HB.out) hR hl hm hE
  have hne : ((checkI text ml ent).1 != 0) = true := by simpa using hE
  have HX : Hid _ := hX
  clear hT hR hX hE
  generalize (checkI text ml ent).1 = E at *
  go_enter Tryz.func17, Tryz.ntmps17
  go_upto_region 1 with fail
  rw [HX.out]
  clear HX
  go_wp2_with (go_at_call 27; refine C.mono ?_; rintro e w1 ⟨rfl, hb1⟩; have HB1 : Hid (Below w.heap.size w w1) := lb_trans HB.out hb1; clear hb1)
  go_ret2
  exact ⟨rfl, HB1.out⟩
set_option maxRecDepth 100000 in
set_option maxHeartbeats 4000000 in
theorem all_ok (A1 A2 : Option Addr) (c1 ml c2 : Nat) (ent : Int) (text : List Int) (w : World) (hT : IntsAt w A1 .u32 text) (hR : ∀ i, i < text.length → 0 ≤ nth text i ∧ nth text i < 4294967296) (hl : text.length ≤ 2048) (hm : ml ≤ 1048576) (hE : (checkI text ml ent).1 = 0) (h0 : 0 < text.length) :
    Calls Tryz.prog 17 #[.agg #[.slice A1 text.length c1, .int .i64 ent, .slice A2 ml c2]] w (AllOk text ent w) := by
  obtain ⟨X, hX⟩ : ∃ X, w.alloc (.cells #[.slice A1 text.length c1, .int .i64 ent, .slice A2 ml c2] 25) = X := ⟨_, rfl⟩
  have HB : Hid (Below w.heap.size w X) := by unfold Hid; rw [← hX]; exact lb_alloc (Below.refl _ _) _
  have i0 : X.cell? ⟨w.heap.size, 0, none⟩ = some (.slice A1 text.length c1) := by rw [← hX]; simp [go_sem]
  have i1 : X.cell? ⟨w.heap.size, 1, none⟩ = some (.int .i64 ent) := by rw [← hX]; simp [go_sem]
  have i2 : X.cell? ⟨w.heap.size, 2, none⟩ = some (.slice A2 ml c2) := by rw [← hX]; simp [go_sem]
  have C := rows_ok A1 A2 c1 ml c2 ent text X (hT.keep HB.out) hR hl hm hE h0
  have HX : Hid _ := hX
  clear hT hR hX hE
  go_enter Tryz.func17, Tryz.ntmps17
  go_upto_region 1 with fail
  rw [HX.out]
  clear HX
  go_wp2_with (go_at_call 27; refine C.mono ?_; rintro e w1 ⟨B, S1, S2, S3, S4, k1, k2, k3, k4, rfl, hB, hS, hlo, hb1⟩; have HLo : Hid (RwAt w.heap.size B S1 S2 S3 S4) := hlo.mono HB.out.size; clear hlo; have HB1 : Hid (Below w.heap.size w w1) := lb_trans HB.out hb1; have HS : Hid _ := hS; have HBs : Hid (w.heap.size ≤ B) := Nat.le_trans HB.out.size hB; clear hb1 hS hB)
  go_ret2
  exact ⟨B, S1, S2, S3, S4, k1, k2, k3, k4, rfl, HBs.out, HS.out, HLo.out, HB1.out⟩


end Go.Proofs.YtokhclindfipbaaGreatDoor
