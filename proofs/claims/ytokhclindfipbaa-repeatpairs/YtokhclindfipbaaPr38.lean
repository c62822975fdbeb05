/-
  The program: Same, a number given out. The program: Of, Count, each by what it answers. A row that is written from its end on.
-/
import Derived.Test.YtokhclindfipbaaProg
import Derived.WalkKit
import Derived.WalkSpells
import Derived.WalkLawsBesides
import Derived.RowKit3
import Derived.Below
import Derived.Deep.QuietTactic
import Derived.BigQuiet
import Derived.WalkSmall
import Derived.Laws.Rows
import Derived.Lib.Builder
import Derived.Deep.RegionHeld3
import Derived.Test.YtokhclindfipbaaPr33
import Derived.Test.YtokhclindfipbaaPr34
import Derived.Test.YtokhclindfipbaaPr37
import Derived.Test.YtokhclindfipbaaPr20
import Derived.Test.YtokhclindfipbaaPr32
import Derived.Test.YtokhclindfipbaaPr21
import Derived.Test.YtokhclindfipbaaPr27
import Derived.Test.YtokhclindfipbaaPr28
namespace Go.Proofs.Ytokhclindfipbaa
open Go.RowKit

set_option maxHeartbeats 2000000 in
theorem sameOK : SameOK := fun v u w h0 h1 _ _ => by
  have C := fun wx => aloneOK v wx h0 h1
  unfold smB
  cases he : (v == u) with
  | false =>
    go_enter Try.func34, Try.ntmps34
    go_wp2
    go_ret
    exact ⟨rfl, Below.refl _ _⟩
  | true =>
    generalize alB v = x at *
    go_enter Try.func34, Try.ntmps34
    go_wp2_with (go_at_call 48; refine (C _).mono ?_; rintro e w1 ⟨rfl, hb1⟩)
    go_ret
    exact ⟨rfl, hb1⟩
theorem set_rowN {w : World} {g k : Nat} {cur : Array Value} {t : TypeId} (h : w.heap[g]? = some (.cells cur t (0, 0))) (u : Value) : (w.setCell ⟨g, k, none⟩ u).heap[g]? = some (.cells (cur.setIfInBounds k u) t (0, 0)) := by
  simp [World.setCell, Array.getElem?_modify, h]
/-- What the giver of numbers holds behind k places. -/
structure Gv (w : World) (g b : Nat) (text : List Int) (k : Nat) : Prop where
  cs : w.heap[g]? = some (.cells #[.map (some b), .int .i64 ((rnk text k : Nat) : Int)] 67 (0, 0))
  nm : Nms w b k (knw text k)
/-- All but the giver and its map is as it was. -/
structure Sv (g b : Nat) (w w' : World) : Prop where
  os : w'.os = w.os
  tape : w'.tape = w.tape
  output : w'.output = w.output
  size : w.heap.size ≤ w'.heap.size
  block : ∀ i, i < w.heap.size → i ≠ g → i ≠ b → w'.heap[i]? = w.heap[i]?
theorem Sv.refl (g b : Nat) (w : World) : Sv g b w w := ⟨rfl, rfl, rfl, Nat.le_refl _, fun _ _ _ _ => rfl⟩
theorem Sv.trans {g b : Nat} {x y z : World} (h : Sv g b x y) (k : Sv g b y z) : Sv g b x z :=
  ⟨k.os.trans h.os, k.tape.trans h.tape, k.output.trans h.output, Nat.le_trans h.size k.size, fun i h1 h2 h3 => (k.block i (Nat.lt_of_lt_of_le h1 h.size) h2 h3).trans (h.block i h1 h2 h3)⟩
theorem Sv.grown {g b : Nat} {x y : World} {row : Option Nat} (h : x.grownBy y row) (hr : row = none ∨ row = some g ∨ row = some b) : Sv g b x y :=
  ⟨h.os, h.tape, h.output, h.size, fun i h1 h2 h3 => h.block i h1 (by
    rcases hr with rfl | rfl | rfl
    · intro e; cases e
    · intro e; cases e; exact h2 rfl
    · intro e; cases e; exact h3 rfl)⟩
theorem Sv.new {g b : Nat} {x y : World} (h : Below x.heap.size x y) : Sv g b x y := ⟨h.os, h.tape, h.output, h.size, fun i h1 _ _ => h.block i h1⟩
theorem Sv.below {g b n : Nat} {x y : World} (h : Sv g b x y) (hn : n ≤ x.heap.size) (hg : n ≤ g) (hb : n ≤ b) : Below n x y := ⟨h.os, h.tape, h.output, h.size, fun i hi => h.block i (by omega) (by omega) (by omega)⟩
theorem Gv.ne {w : World} {g b : Nat} {text : List Int} {k : Nat} (h : Gv w g b text k) : g ≠ b := by
  rintro rfl
  obtain ⟨D, ⟨es, clock, h1, _⟩, _⟩ := h.nm
  rw [h.cs] at h1
  cases h1
theorem Gv.keep {w w' : World} {g b : Nat} {text : List Int} {k : Nat} (h : Gv w g b text k) (hb : Below w.heap.size w w') : Gv w' g b text k :=
  ⟨by rw [hb.block g (Array.getElem?_eq_some_iff.1 h.cs).1]; exact h.cs, h.nm.keep hb⟩
set_option maxRecDepth 100000 in
set_option maxHeartbeats 4000000 in
theorem of_any (g b : Nat) (text : List Int) (k : Nat) (w : World) (hk : k < text.length) (hl : text.length ≤ 1048576) (h0 : 0 ≤ nth text k) (h1 : nth text k < 4294967296) (h : Gv w g b text k) :
    Calls Try.prog 22 #[.pointer (some ⟨g, 0, none⟩), .int .u32 (nth text k)] w fun e w' => e = .returned (.int .i64 ((numN text k : Nat) : Int)) ∧ Gv w' g b text (k + 1) ∧ Sv g b w w' := by
  have q0 : w.cell? ⟨g, 0, none⟩ = some (.map (some b)) := by rw [Lib.cell_of_heap h.cs]; rfl
  have q1 : w.cell? ⟨g, 1, none⟩ = some (.int .i64 ((rnk text k : Nat) : Int)) := by rw [Lib.cell_of_heap h.cs]; rfl
  have f1 : w.frozen? ⟨g, 1, none⟩ = false := Lib.frozen_of_heap h.cs 1
  have HG : Hid (Gv w g b text k) := h
  have hlk := h.nm.look h0 h1
  clear h
  by_cases hn : fstP text k = k
  · rw [knw_new hn] at hlk
    replace hlk : (Instr.lookup 65 (.map (some b)) (.int .u32 (nth text k)) true).run Try.prog w = .ok (.tuple #[.int .i64 0, .bool false]) w := hlk
    have CS := fun wx => sameOK (nth text k) (nth text k) wx h0 h1 h0 h1
    rw [sm_self] at CS
    have HN : Hid (numN text k = rnk text k) := num_new hn
    have HR : Hid (rnk text (k + 1) = rnk text k + 1) := rnk_new hn
    have hr := rnk_up text k
    have hr1 : ((rnk text k : Nat) : Int) ≤ 1048576 := by omega
    have HW : Hid ((w.setCell ⟨g, 1, none⟩ (.int .i64 (((rnk text k : Nat) : Int) + 1))).heap[g]? = some (.cells #[.map (some b), .int .i64 ((rnk text (k + 1) : Nat) : Int)] 67 (0, 0))) := by
      unfold Hid
      rw [set_rowN HG.out.cs, HR.out]; rfl
    have HM : Hid (Nms (w.setCell ⟨g, 1, none⟩ (.int .i64 (((rnk text k : Nat) : Int) + 1))) b k (knw text k)) := HG.out.nm.same (Below.heap_setCell _ _ _ _ (fun e => HG.out.ne e.symm))
    have HS : Hid (Sv g b w (w.setCell ⟨g, 1, none⟩ (.int .i64 (((rnk text k : Nat) : Int) + 1)))) := ⟨rfl, rfl, rfl, by simp [World.setCell], fun i _ h2 _ => Below.heap_setCell _ _ _ _ h2⟩
    cases ha : alB (nth text k) with
    | true =>
      rw [ha] at CS
      have HK : Hid (∀ v, knw text (k + 1) v = knw text k v) := knw_alone ha
      go_enter Try.func22, Try.ntmps22
      go_wp2_with (go_at_call 34; refine (CS _).mono ?_; rintro e w1 ⟨rfl, hb1⟩)
      go_ret
      exact ⟨by rw [HN.out]; rfl, ⟨by rw [hb1.block g (Array.getElem?_eq_some_iff.1 HW.out).1]; exact HW.out, ((HM.out.keep hb1).fit fun x => (HK.out x).symm).more (Nat.le_succ _)⟩, HS.out.trans (Sv.new hb1)⟩
    | false =>
      rw [ha] at CS
      have HK : Hid (∀ v, knw text (k + 1) v = if v = nth text k then some (rnk text k) else knw text k v) := knw_put hn ha
      go_enter Try.func22, Try.ntmps22
      go_upto_region 7 with (go_at_call 34; refine (CS _).mono ?_; rintro e w1 ⟨rfl, hb1⟩; have HG1 : Hid (w1.heap[g]? = some (.cells #[.map (some b), .int .i64 ((rnk text (k + 1) : Nat) : Int)] 67 (0, 0))) := (by unfold Hid; rw [hb1.block g (Array.getElem?_eq_some_iff.1 HW.out).1]; exact HW.out); have HM1 : Hid (Nms w1 b k (knw text k)) := HM.out.keep hb1; have HS1 : Hid (Sv g b w w1) := HS.out.trans (Sv.new hb1); have r0 : w1.cell? ⟨g, 0, none⟩ = some (.map (some b)) := (by rw [Lib.cell_of_heap HG1.out]; rfl); clear hb1)
      go_wp2_with (at_mapUpdate; refine wpList_nms_put _ rfl _ _ _ rfl b k (knw text k) HM1.out (by omega) (nth text k) h0 h1 (rnk text k) (by omega) rfl rfl rfl ?_; intro w2 hk2 hg2)
      go_ret
      exact ⟨by rw [HN.out]; rfl, ⟨by rw [hg2.block g (Array.getElem?_eq_some_iff.1 HG1.out).1 (fun e => HG.out.ne (by cases e; rfl))]; exact HG1.out, hk2.fit fun x => (HK.out x).symm⟩, HS1.out.trans (Sv.grown hg2 (.inr (.inr rfl)))⟩
  · rw [knw_old hn] at hlk
    replace hlk : (Instr.lookup 65 (.map (some b)) (.int .u32 (nth text k)) true).run Try.prog w = .ok (.tuple #[.int .i64 ((numN text k : Nat) : Int), .bool true]) w := hlk
    have HR : Hid (rnk text (k + 1) = rnk text k) := rnk_known hn
    have HK : Hid (∀ v, knw text (k + 1) v = knw text k v) := knw_known hn
    go_enter Try.func22, Try.ntmps22
    go_wp2
    go_ret
    exact ⟨rfl, ⟨by rw [HR.out]; exact HG.out.cs, (HG.out.nm.fit fun x => (HK.out x).symm).more (Nat.le_succ _)⟩, Sv.refl _ _ _⟩


end Go.Proofs.Ytokhclindfipbaa

namespace Go.Proofs.Ytokhclindfipbaa
open Go.RowKit

def fN (text : List Int) (i : Nat) : Value := .int .i64 ((numN text i : Nat) : Int)
def zI (_ : Nat) : Value := .int .i64 0
theorem infoI3n : ∃ i, Try.prog.info? 3 = some i ∧ i.zero = some (.int .i64 0) ∧ i.size = 1 ∧ i.bytes = 8 :=
  ⟨(Try.prog.info? 3).get (by kernel_rfl), by kernel_rfl, by kernel_rfl, by kernel_rfl, by kernel_rfl⟩
theorem made_ints (f : Nat → Value) (n : Nat) (hn : n ≤ 1048576) (w : World) : (Instr.makeSlice 34 (.int .i64 (n : Int)) (.int .i64 (n : Int))).run Try.prog w = .ok (.slice (some ⟨w.heap.size, 0, none⟩) n n) (w.alloc (.cells (wcur f zI n 0) 3)) := by
  obtain ⟨i, hi, hz, hs, hb⟩ := infoI3n
  have h := run_makeSlice (P := Try.prog) w 34 3 i _ Try.underlying34 hi hz .i64 .i64 (n : Int) (n : Int) (by omega) (by omega) (by rw [hs]; omega) (by rw [hb]; omega) (by omega)
  rw [hs, Nat.mul_one, show ((n : Int)).toNat = n by omega] at h
  rw [h, show zI = fun _ => .int .i64 0 from rfl, ← made_wcur f (.int .i64 0) n]
  rfl
theorem row_nums {w : World} {g : Nat} {text : List Int} (h : w.heap[g]? = some (.cells (wcur (fN text) zI text.length text.length) 3 (0, 0))) (hn : text.length ≤ 1048576) {base : Nat} (hg : base ≤ g) : w.ownsRow base 3 1 (.slice (some ⟨g, 0, none⟩) text.length text.length) text.length (iVals .i64 (numL text text.length)) := by
  refine ⟨by simp [iVals, numL_len], .inr ⟨g, text.length, _, rfl, hg, h, Nat.le_refl _, by unfold maxLen; omega, by rw [wcur_size, Nat.mul_one], ?_⟩⟩
  apply List.ext_getElem?
  intro i
  by_cases hi : i < text.length
  · rw [List.getElem?_take_of_lt (by omega), Array.getElem?_toList, wcur_get _ _ _ _ _ hi, if_pos hi, iVals_get (by rw [numL_len]; exact hi), numL_nth hi]
    rfl
  · rw [List.getElem?_eq_none (by simp [wcur_size]; omega), List.getElem?_eq_none (by simp [iVals, numL_len]; omega)]
set_option maxRecDepth 100000 in
set_option maxHeartbeats 4000000 in
theorem each_any (g b : Nat) (A : Option Addr) (c : Nat) (text : List Int) (w0 w : World) (hA : IntsAt w0 A .u32 text) (hb0 : Below w0.heap.size w0 w) (hg0 : w0.heap.size ≤ g) (hm0 : w0.heap.size ≤ b) (hR : ∀ i, i < text.length → 0 ≤ nth text i ∧ nth text i < 4294967296) (hl : text.length ≤ 1048576) (h : Gv w g b text 0) :
    Calls Try.prog 21 #[.slice A text.length c, .func (.func 22) #[.pointer (some ⟨g, 0, none⟩)] #[]] w fun e w' => e = .returned (.slice (some ⟨w.heap.size, 0, none⟩) text.length text.length) ∧ w'.heap[w.heap.size]? = some (.cells (wcur (fN text) zI text.length text.length) 3 (0, 0)) ∧ Sv g b w w' := by
  have HA : Hid (IntsAt w0 A .u32 text) := hA
  have HB0 : Hid (Below w0.heap.size w0 w) := hb0
  have HR : Hid (∀ i, i < text.length → 0 ≤ nth text i ∧ nth text i < 4294967296) := hR
  have HLT : Hid (g < w.heap.size ∧ b < w.heap.size) := ⟨(Array.getElem?_eq_some_iff.1 h.cs).1, h.nm.lt⟩
  have hmk := made_ints (fN text) text.length hl
  have HG1 : Hid (Gv (w.alloc (.cells (wcur (fN text) zI text.length 0) 3)) g b text 0) := h.keep (lb_alloc (Below.refl _ _) _)
  have HS1 : Hid (Sv g b w (w.alloc (.cells (wcur (fN text) zI text.length 0) 3))) := Sv.new (lb_alloc (Below.refl _ _) _)
  have HX1 : Hid ((w.alloc (.cells (wcur (fN text) zI text.length 0) 3)).heap[w.heap.size]? = some (.cells (wcur (fN text) zI text.length 0) 3 (0, 0))) := heap_alloc_new _ _
  clear hA hR h hb0
  go_enter Try.func21, Try.ntmps21
  go_wp2
  go_loopw [13] (fun i wr => ∃ k : Nat, i = .int .i64 k ∧ k ≤ text.length ∧ Hid (Sv g b w wr) ∧ Hid (Gv wr g b text k) ∧ Hid (wr.heap[w.heap.size]? = some (.cells (wcur (fN text) zI text.length k) 3 (0, 0)))) (fun i _ => text.length - (intOf i).toNat)
  case atStart => exact ⟨0, rfl, Nat.zero_le _, HS1, HG1, HX1⟩
  case round =>
    clear hmk HS1 HG1 HX1
    obtain ⟨k, rfl, hk, HS, HG, HX⟩ := hrel
    by_cases hlt : k < text.length
    · have hlt' : (k : Int) < (text.length : Int) := by omega
      obtain ⟨a, ea, q⟩ := HA.out k hlt
      subst ea
      replace q := lkeep (HB0.out.trans (HS.out.below HB0.out.size hg0 hm0)) q
      obtain ⟨v0, v1⟩ := HR.out k hlt
      have CO := of_any g b text k wr hlt hl v0 v1 HG.out
      have HSet : Hid ((wcur (fN text) zI text.length k).setIfInBounds k (.int .i64 ((numN text k : Nat) : Int)) = wcur (fN text) zI text.length (k + 1)) := wcur_set (fN text) zI text.length k hlt
      have HGt : Hid ((wcur (fN text) zI text.length k)[k]? = some (.int .i64 0)) := by
        unfold Hid
        rw [wcur_get _ _ _ _ _ hlt, if_neg (by omega)]; rfl
      generalize nth text k = v at CO q
      generalize numN text k = x at CO HSet
      go_wp2_with (go_at_call 22; refine CO.mono ?_; rintro e w1 ⟨rfl, hg1, hs1⟩; have hx1 : w1.heap[w.heap.size]? = some (.cells (wcur (fN text) zI text.length k) 3 (0, 0)) := (hs1.block w.heap.size (Array.getElem?_eq_some_iff.1 HX.out).1 (by have := HLT.out; omega) (by have := HLT.out; omega)).trans HX.out; have cg : w1.cell? ⟨w.heap.size, k, none⟩ = some (.int .i64 0) := (by rw [Lib.cell_of_heap hx1]; exact HGt.out); have fg : w1.frozen? ⟨w.heap.size, k, none⟩ = false := Lib.frozen_of_heap hx1 k; have HG2 : Hid (Gv w1 g b text (k + 1)) := hg1; have HS2 : Hid (Sv g b w w1) := HS.out.trans hs1; have HX2 : Hid _ := hx1; clear hx1 hg1 hs1 CO)
      have off : ∀ i, i ≠ w.heap.size → (w1.setCell ⟨w.heap.size, k, none⟩ (.int .i64 (x : Int))).heap[i]? = w1.heap[i]? := fun i hi => Below.heap_setCell _ _ _ _ hi
      have HX3 : Hid ((w1.setCell ⟨w.heap.size, k, none⟩ (.int .i64 (x : Int))).heap[w.heap.size]? = some (.cells (wcur (fN text) zI text.length (k + 1)) 3 (0, 0))) := by
        unfold Hid
        rw [set_rowN HX2.out, HSet.out]
      have HS3 : Hid (Sv g b w (w1.setCell ⟨w.heap.size, k, none⟩ (.int .i64 (x : Int)))) := ⟨HS2.out.os, HS2.out.tape, HS2.out.output, by simpa [World.setCell] using HS2.out.size, fun i h1 h2 h3 => (off i (by omega)).trans (HS2.out.block i h1 h2 h3)⟩
      have HG3 : Hid (Gv (w1.setCell ⟨w.heap.size, k, none⟩ (.int .i64 (x : Int))) g b text (k + 1)) := ⟨by rw [off g (by have := HLT.out; omega)]; exact HG2.out.cs, HG2.out.nm.same (off b (by have := HLT.out; omega))⟩
      go_roundw
      case rel => exact ⟨k + 1, by go_num, by omega, HS3, HG3, HX3⟩
      case measure => simp [intOf]; omega
    · obtain rfl : k = text.length := by omega
      go_wp2
      go_ret
      exact ⟨rfl, HX.out, HS.out⟩

set_option maxRecDepth 100000 in
set_option maxHeartbeats 4000000 in
theorem nofOK : NofOK where
  no := fun A1 A2 c1 ml c2 ent text w hT hR hl hm hE => by
    obtain ⟨W0, HW⟩ : ∃ W0, Hid (w.alloc (.cells #[.slice A1 text.length c1, .int .i64 ent, .slice A2 ml c2] 25) = W0) := ⟨_, rfl⟩
    have HB0 : Hid (Below w.heap.size w W0) := by unfold Hid; rw [← HW.out]; exact lb_alloc (Below.refl _ _) _
    have i0 : W0.cell? ⟨w.heap.size, 0, none⟩ = some (.slice A1 text.length c1) := by rw [← HW.out]; simp [go_sem]
    have i1 : W0.cell? ⟨w.heap.size, 1, none⟩ = some (.int .i64 ent) := by rw [← HW.out]; simp [go_sem]
    have i2 : W0.cell? ⟨w.heap.size, 2, none⟩ = some (.slice A2 ml c2) := by rw [← HW.out]; simp [go_sem]
    have C := check_any A1 A2 c1 ml c2 ent text W0 (hT.keep HB0.out) hR hl hm
    generalize (checkI text ml ent).1 = E at *
    generalize (checkI text ml ent).2 = F at *
    have hE' : (E != 0) = true := by simpa using hE
    clear hT hR
    go_enter Try.func8, Try.ntmps8
    go_upto_region 1 with fail
    rw [HW.out]
    go_wp2_with (go_at_call 20; refine C.mono ?_; rintro e w1 ⟨rfl, hb1⟩)
    go_ret2
    exact ⟨none, 0, rfl, ⟨rfl, .inl ⟨rfl, rfl⟩⟩, lb_trans HB0.out hb1⟩
  ok := fun A1 A2 c1 ml c2 ent text w hT hR hl hm hE => by
    obtain ⟨W0, HW⟩ : ∃ W0, Hid (w.alloc (.cells #[.slice A1 text.length c1, .int .i64 ent, .slice A2 ml c2] 25) = W0) := ⟨_, rfl⟩
    have HB0 : Hid (Below w.heap.size w W0) := by unfold Hid; rw [← HW.out]; exact lb_alloc (Below.refl _ _) _
    have i0 : W0.cell? ⟨w.heap.size, 0, none⟩ = some (.slice A1 text.length c1) := by rw [← HW.out]; simp [go_sem]
    have i1 : W0.cell? ⟨w.heap.size, 1, none⟩ = some (.int .i64 ent) := by rw [← HW.out]; simp [go_sem]
    have i2 : W0.cell? ⟨w.heap.size, 2, none⟩ = some (.slice A2 ml c2) := by rw [← HW.out]; simp [go_sem]
    have HI : Hid (∀ Z, Below W0.heap.size W0 Z → Z.cell? ⟨w.heap.size, 0, none⟩ = some (.slice A1 text.length c1)) := fun Z hZ => lkeep hZ i0
    have HT : Hid (IntsAt w A1 .u32 text) := hT
    have HR : Hid (∀ i, i < text.length → 0 ≤ nth text i ∧ nth text i < 4294967296) := hR
    have C := check_any A1 A2 c1 ml c2 ent text W0 (hT.keep HB0.out) hR hl hm
    rw [hE] at C
    generalize (checkI text ml ent).2 = F at *
    clear hT hR hE
    go_enter Try.func8, Try.ntmps8
    go_upto_region 1 with fail
    rw [HW.out]
    go_upto_region 4 with (go_at_call 20; refine C.mono ?_; rintro e w1 ⟨rfl, hb1⟩; have HB1 : Hid (Below W0.heap.size W0 w1) := hb1; clear hb1 C)
    have mk1 := fun wx => mkNm wx none rfl
    have mk2 := mkFnT
    obtain ⟨X, HX⟩ : ∃ X, Hid ((w1.alloc (.map #[] 0)).alloc (.cells #[.map (some w1.heap.size), .int .i64 0] 67) = X) := ⟨_, rfl⟩
    have HBX : Hid (Below W0.heap.size W0 X) := by unfold Hid; rw [← HX.out]; exact lb_alloc (lb_alloc HB1.out _) _
    have HSZ : Hid (w.heap.size ≤ w1.heap.size) := Nat.le_trans HB0.out.size HB1.out.size
    have HGX : Hid (Gv X (w1.heap.size + 1) w1.heap.size text 0) := by
      unfold Hid
      rw [← HX.out]
      refine ⟨?_, ((Nms.made w1).keep (lb_alloc (Below.refl _ _) _)).fit fun x => (knw_zero text x).symm⟩
      have := heap_alloc_new (w1.alloc (.map #[] 0)) (.cells #[.map (some w1.heap.size), .int .i64 0] 67)
      rw [show (w1.alloc (.map #[] 0)).heap.size = w1.heap.size + 1 by simp [go_sem]] at this
      exact this
    have x0 := HI.out X HBX.out
    have CE := each_any (w1.heap.size + 1) w1.heap.size A1 c1 text w X HT.out (lb_trans HB0.out HBX.out) (by have := HSZ.out; omega) HSZ.out HR.out hl HGX.out
    go_upto_region 5 with fail
    rw [HX.out]
    go_wp2_with (go_at_call 21; refine CE.mono ?_; rintro e w2 ⟨rfl, hx, hs⟩)
    go_ret2
    have hsz : w.heap.size ≤ X.heap.size := Nat.le_trans HB0.out.size HBX.out.size
    exact ⟨_, _, rfl, row_nums hx hl hsz, (lb_trans HB0.out HBX.out).trans (hs.below hsz (by have := HSZ.out; omega) HSZ.out)⟩

end Go.Proofs.Ytokhclindfipbaa

namespace Go.Proofs.Ytokhclindfipbaa
open Go.RowKit

theorem wdn_set2 (f z : Nat → Value) (N k : Nat) (h : k + 1 < N) : (((wcur z f N (k + 2)).setIfInBounds k (f k)).setIfInBounds (k + 1) (f (k + 1))) = wcur z f N k := by
  apply Array.ext_getElem?
  intro i
  by_cases hi : i < N
  · rw [wcur_get _ _ _ _ _ hi, Array.getElem?_setIfInBounds, Array.size_setIfInBounds, wcur_size, Array.getElem?_setIfInBounds, wcur_size]
    by_cases h1 : k + 1 = i
    · subst h1; rw [if_pos rfl, if_pos h, if_neg (by omega)]
    · rw [if_neg h1]
      by_cases h2 : k = i
      · subst h2; rw [if_pos rfl, if_pos hi, if_neg (by omega)]
      · rw [if_neg h2, wcur_get _ _ _ _ _ hi]
        by_cases h3 : i < k
        · simp [h3, show i < k + 2 by omega]
        · simp [h3, show ¬ i < k + 2 by omega]
  · rw [Array.getElem?_eq_none (by simp [wcur_size]; omega), Array.getElem?_eq_none (by simp [wcur_size]; omega)]
/-- Where the block ahead of the beginning j ends. -/
def endB (ps : List Int) (n : Int) (j : Nat) : Int := if j < ps.length then nth ps j else n
def bCell (ps : List Int) (n : Int) (i : Nat) : Value := if i % 2 = 0 then .int .i64 (nth ps (i / 2)) else .int .i64 (endB ps n (i / 2 + 1))
def zCell (_ : Nat) : Value := .int .i64 0
theorem bCell0 (ps : List Int) (n : Int) (k : Nat) : bCell ps n (k * 2) = .int .i64 (nth ps k) := by
  have e : (k * 2) / 2 = k := by omega
  have m : (k * 2) % 2 = 0 := by omega
  unfold bCell
  rw [if_pos m, e]
theorem bCell1 (ps : List Int) (n : Int) (k : Nat) : bCell ps n (k * 2 + 1) = .int .i64 (endB ps n (k + 1)) := by
  have e : (k * 2 + 1) / 2 = k := by omega
  have m : ¬ (k * 2 + 1) % 2 = 0 := by omega
  unfold bCell
  rw [if_neg m, e]
theorem blk_step (ps : List Int) (n : Int) (k : Nat) (h : k < ps.length) : (((wcur zCell (bCell ps n) (ps.length * 2) ((k + 1) * 2)).setIfInBounds (k * 2) (.int .i64 (nth ps k))).setIfInBounds (k * 2 + 1) (.int .i64 (endB ps n (k + 1)))) = wcur zCell (bCell ps n) (ps.length * 2) (k * 2) := by
  rw [← bCell0 ps n k, ← bCell1 ps n k, show (k + 1) * 2 = k * 2 + 2 by omega]
  exact wdn_set2 _ _ _ _ (by omega)
theorem blk_done (ps : List Int) (n : Int) : (wcur zCell (bCell ps n) (ps.length * 2) 0).toList = dNews (zipN ps n) := by
  apply List.ext_getElem?
  intro i
  rw [Array.getElem?_toList]
  by_cases hi : i < ps.length * 2
  · rw [wcur_get _ _ _ _ _ hi, if_neg (by omega)]
    obtain ⟨k, hk⟩ : ∃ k, i = k * 2 ∨ i = k * 2 + 1 := ⟨i / 2, by omega⟩
    have hkl : k < ps.length := by omega
    obtain ⟨g0, g1⟩ := dNews_get (l := zipN ps n) (i := k) (by rw [zipN_len]; exact hkl)
    obtain ⟨z0, z1⟩ := zipN_at ps n k hkl
    rcases hk with rfl | rfl
    · rw [g0, bCell0, z0]
    · rw [g1, bCell1, z1]; rfl
  · rw [Array.getElem?_eq_none (by simp [wcur_size]; omega), List.getElem?_eq_none (by rw [dNews_len, zipN_len]; omega)]
theorem made_blk (ps : List Int) (n : Int) (N : Nat) : madeCells #[.int .i64 0, .int .i64 0] N = wcur zCell (bCell ps n) N N := by
  apply Array.ext_getElem?
  intro i
  by_cases hi : i < N
  · rw [wcur_get _ _ _ _ _ hi, if_pos hi]
    have h : i % 2 = 0 ∨ i % 2 = 1 := by omega
    rcases h with h | h <;> simp [madeCells, hi, h, zCell]
  · rw [Array.getElem?_eq_none (by simp [madeCells]; omega), Array.getElem?_eq_none (by simp [wcur_size]; omega)]
theorem make_blk (ps : List Int) (n : Int) (hn : ps.length ≤ 1048576) (w : World) : (Instr.makeSlice 37 (.int .i64 (ps.length : Int)) (.int .i64 (ps.length : Int))).run Try.prog w = .ok (.slice (some ⟨w.heap.size, 0, none⟩) ps.length ps.length) (w.alloc (.cells (wcur zCell (bCell ps n) (ps.length * 2) (ps.length * 2)) 43)) := by
  obtain ⟨i, hi, hz, hs, hb⟩ := infoB
  have h := run_makeSlice (P := Try.prog) w 37 43 i _ Try.underlying37 hi hz .i64 .i64 (ps.length : Int) (ps.length : Int) (by omega) (by omega) (by rw [hs]; omega) (by rw [hb]; omega) (by omega)
  rw [hs, show ((ps.length : Int)).toNat = ps.length by omega] at h
  rw [h, ← made_blk ps n (ps.length * 2)]
  rfl
theorem own_blk (ps : List Int) (n : Int) (w : World) (hn : ps.length ≤ 1048576) : (w.alloc (.cells (wcur zCell (bCell ps n) (ps.length * 2) 0) 43)).ownsRow w.heap.size 43 2 (.slice (some ⟨w.heap.size, 0, none⟩) (zipN ps n).length ps.length) (zipN ps n).length (dNews (zipN ps n)) := by
  refine ⟨by rw [dNews_len], Or.inr ⟨w.heap.size, ps.length, wcur zCell (bCell ps n) (ps.length * 2) 0, rfl, Nat.le_refl _, heap_alloc_new _ _, by rw [zipN_len]; exact Nat.le_refl _, by unfold maxLen; omega, by rw [wcur_size], ?_⟩⟩
  rw [zipN_len, blk_done, List.take_of_length_le (by rw [dNews_len, zipN_len]; exact Nat.le_refl _)]
/-- An answer of Blocks. -/
def BlkP (E : Int) (l : List Rel) (w : World) (e : Ending) (w' : World) : Prop :=
  ∃ (A : Option Addr) (c : Nat), e = .returned (.tuple #[.slice A l.length c, .int .i64 E]) ∧ w'.ownsRow w.heap.size 43 2 (.slice A l.length c) l.length (dNews l) ∧ Below w.heap.size w w'
def outB (text : List Int) (ml : Nat) (ent : Int) : List Rel := if (checkI text ml ent).1 = 0 then blkL text ent else []


end Go.Proofs.Ytokhclindfipbaa
