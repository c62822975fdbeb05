/-
  What the statements need of the program: Of, Same and Count of number, by what they answer. The program: Same, a number given out. Ends, Falls, Target and Aim of package isa, over what Decode, Has and Encode return; no other condition.
-/
import Derived.Test.YtblmcphmgicocaaDoorProg
import Derived.WalkKit
import Derived.WalkSpells
import Derived.WalkLawsBesides
import Derived.RowKit3
import Derived.Below
import Derived.Deep.QuietTactic
import Derived.BigQuiet
import Derived.WalkSmall
import Derived.Laws.Rows
import Derived.Test.YtblmcphmgicocaaDoorPf03
import Derived.Test.YtblmcphmgicocaaDoorPf11
import Derived.Test.YtblmcphmgicocaaDoorPf05
import Derived.Test.YtblmcphmgicocaaDoorPf01
import Derived.Test.YtblmcphmgicocaaDoorPf06
import Derived.Test.YtblmcphmgicocaaDoorPf17
import Derived.Lib.Builder
import Derived.Test.YtblmcphmgicocaaDoorPf10
import Derived.Test.YtblmcphmgicocaaDoorPf12
namespace Go.Proofs.YtblmcphmgicocaaDoor
open Go.RowKit

def OfR (text : List Int) (w : World) (e : Ending) (w' : World) : Prop := ∃ (A : Option Addr) (c : Nat), e = .returned (.tuple #[.slice A text.length c, .int .i64 0]) ∧ w'.ownsRow w.heap.size 3 1 (.slice A text.length c) text.length (iVals .i64 (numL text text.length)) ∧ Below w.heap.size w w'
def OfN (E : Int) (w : World) (e : Ending) (w' : World) : Prop := ∃ (A : Option Addr) (c : Nat), e = .returned (.tuple #[.slice A 0 c, .int .i64 E]) ∧ w'.ownsRow w.heap.size 3 1 (.slice A 0 c) 0 [] ∧ Below w.heap.size w w'
structure OfOK : Prop where
  ok : ∀ (A1 A2 : Option Addr) (c1 ml c2 : Nat) (ent : Int) (text : List Int) (w : World), IntsAt w A1 .u32 text → (∀ i, i < text.length → 0 ≤ nth text i ∧ nth text i < 4294967296) → text.length ≤ 1048576 → ml ≤ 1048576 → (checkI text ml ent).1 = 0 →
    Calls Tryd.prog 7 #[.agg #[.slice A1 text.length c1, .int .i64 ent, .slice A2 ml c2]] w (OfR text w)
  no : ∀ (A1 A2 : Option Addr) (c1 ml c2 : Nat) (ent : Int) (text : List Int) (w : World), IntsAt w A1 .u32 text → (∀ i, i < text.length → 0 ≤ nth text i ∧ nth text i < 4294967296) → text.length ≤ 1048576 → ml ≤ 1048576 → (checkI text ml ent).1 ≠ 0 →
    Calls Tryd.prog 7 #[.agg #[.slice A1 text.length c1, .int .i64 ent, .slice A2 ml c2]] w (OfN (checkI text ml ent).1 w)
def SameOK : Prop := ∀ (v u : Int) (w : World), 0 ≤ v → v < 4294967296 → 0 ≤ u → u < 4294967296 → Calls Tryd.prog 10 #[.int .u32 v, .int .u32 u] w fun e w' => e = .returned (.bool (smB v u)) ∧ Below w.heap.size w w'
def CountOK : Prop := ∀ (A : Option Addr) (c : Nat) (l : List Int) (w : World), IntsAt w A .i64 l → (∀ i, i < l.length → -9223372036854775808 ≤ nth l i ∧ nth l i ≤ 9223372036854775807) → l.length ≤ 1048576 → Calls Tryd.prog 12 #[.slice A l.length c] w fun e w' => e = .returned (.int .i64 ((cntN l l.length : Nat) : Int)) ∧ Below w.heap.size w w'

end Go.Proofs.YtblmcphmgicocaaDoor

namespace Go.Proofs.YtblmcphmgicocaaDoor
open Go.RowKit

set_option maxHeartbeats 2000000 in
theorem sameOK : SameOK := fun v u w h0 h1 _ _ => by
  have C := fun wx => aloneOK v wx h0 h1
  unfold smB
  cases he : (v == u) with
  | false =>
    go_enter Tryd.func10, Tryd.ntmps10
    go_wp2
    go_ret
    exact ⟨rfl, Below.refl _ _⟩
  | true =>
    generalize alB v = x at *
    go_enter Tryd.func10, Tryd.ntmps10
    go_wp2_with (go_at_call 27; refine (C _).mono ?_; rintro e w1 ⟨rfl, hb1⟩)
    go_ret
    exact ⟨rfl, hb1⟩
theorem set_rowN {w : World} {g k : Nat} {cur : Array Value} {t : TypeId} (h : w.heap[g]? = some (.cells cur t (0, 0))) (u : Value) : (w.setCell ⟨g, k, none⟩ u).heap[g]? = some (.cells (cur.setIfInBounds k u) t (0, 0)) := by
  simp [World.setCell, Array.getElem?_modify, h]
/-- What the giver of numbers holds behind k places. -/
structure Gv (w : World) (g b : Nat) (text : List Int) (k : Nat) : Prop where
  cs : w.heap[g]? = some (.cells #[.map (some b), .int .i64 ((rnk text k : Nat) : Int)] 70 (0, 0))
  nm : Nms w b k (knw text k)
/-- All but the giver and its map is as it was. -/
structure Sv (g b : Nat) (w w' : World) : Prop where
  os : w'.os = w.os
  tape : w'.tape = w.tape
  output : w'.output = w.output
  size : w.heap.size ≤ w'.heap.size
  block : ∀ i, i < w.heap.size → i ≠ g → i ≠ b → w'.heap[i]? = w.heap[i]?
theorem Sv.refl (g b : Nat) (w : World) : Sv g b w w := ⟨rfl, rfl, rfl, Nat.le_refl _, fun _ _ _ _ => rfl⟩
theorem Sv.trans {g b : Nat} {x y z : World} (h : Sv g b x y) (k : Sv g b y z) : Sv g b x z :=
  ⟨k.os.trans h.os, k.tape.trans h.tape, k.output.trans h.output, Nat.le_trans h.size k.size, fun i h1 h2 h3 => (k.block i (Nat.lt_of_lt_of_le h1 h.size) h2 h3).trans (h.block i h1 h2 h3)⟩
theorem Sv.grown {g b : Nat} {x y : World} {row : Option Nat} (h : x.grownBy y row) (hr : row = none ∨ row = some g ∨ row = some b) : Sv g b x y :=
  ⟨h.os, h.tape, h.output, h.size, fun i h1 h2 h3 => h.block i h1 (by
    rcases hr with rfl | rfl | rfl
    · intro e; cases e
    · intro e; cases e; exact h2 rfl
    · intro e; cases e; exact h3 rfl)⟩
theorem Sv.new {g b : Nat} {x y : World} (h : Below x.heap.size x y) : Sv g b x y := ⟨h.os, h.tape, h.output, h.size, fun i h1 _ _ => h.block i h1⟩
theorem Sv.below {g b n : Nat} {x y : World} (h : Sv g b x y) (hn : n ≤ x.heap.size) (hg : n ≤ g) (hb : n ≤ b) : Below n x y := ⟨h.os, h.tape, h.output, h.size, fun i hi => h.block i (by omega) (by omega) (by omega)⟩
theorem Gv.ne {w : World} {g b : Nat} {text : List Int} {k : Nat} (h : Gv w g b text k) : g ≠ b := by
  rintro rfl
  obtain ⟨D, ⟨es, clock, h1, _⟩, _⟩ := h.nm
  rw [h.cs] at h1
  cases h1
theorem Gv.keep {w w' : World} {g b : Nat} {text : List Int} {k : Nat} (h : Gv w g b text k) (hb : Below w.heap.size w w') : Gv w' g b text k :=
  ⟨by rw [hb.block g (Array.getElem?_eq_some_iff.1 h.cs).1]; exact h.cs, h.nm.keep hb⟩
set_option maxRecDepth 100000 in
set_option maxHeartbeats 4000000 in
theorem of_any (g b : Nat) (text : List Int) (k : Nat) (w : World) (hk : k < text.length) (hl : text.length ≤ 1048576) (h0 : 0 ≤ nth text k) (h1 : nth text k < 4294967296) (h : Gv w g b text k) :
    Calls Tryd.prog 24 #[.pointer (some ⟨g, 0, none⟩), .int .u32 (nth text k)] w fun e w' => e = .returned (.int .i64 ((numN text k : Nat) : Int)) ∧ Gv w' g b text (k + 1) ∧ Sv g b w w' := by
  have q0 : w.cell? ⟨g, 0, none⟩ = some (.map (some b)) := by rw [Lib.cell_of_heap h.cs]; rfl
  have q1 : w.cell? ⟨g, 1, none⟩ = some (.int .i64 ((rnk text k : Nat) : Int)) := by rw [Lib.cell_of_heap h.cs]; rfl
  have f1 : w.frozen? ⟨g, 1, none⟩ = false := Lib.frozen_of_heap h.cs 1
  have HG : Hid (Gv w g b text k) := h
  have hlk := h.nm.look h0 h1
  clear h
  by_cases hn : fstP text k = k
  · rw [knw_new hn] at hlk
    replace hlk : (Instr.lookup 68 (.map (some b)) (.int .u32 (nth text k)) true).run Tryd.prog w = .ok (.tuple #[.int .i64 0, .bool false]) w := hlk
    have CS := fun wx => sameOK (nth text k) (nth text k) wx h0 h1 h0 h1
    rw [sm_self] at CS
    have HN : Hid (numN text k = rnk text k) := num_new hn
    have HR : Hid (rnk text (k + 1) = rnk text k + 1) := rnk_new hn
    have hr := rnk_up text k
    have hr1 : ((rnk text k : Nat) : Int) ≤ 1048576 := by omega
    have HW : Hid ((w.setCell ⟨g, 1, none⟩ (.int .i64 (((rnk text k : Nat) : Int) + 1))).heap[g]? = some (.cells #[.map (some b), .int .i64 ((rnk text (k + 1) : Nat) : Int)] 70 (0, 0))) := by
      unfold Hid
      rw [set_rowN HG.out.cs, HR.out]; rfl
    have HM : Hid (Nms (w.setCell ⟨g, 1, none⟩ (.int .i64 (((rnk text k : Nat) : Int) + 1))) b k (knw text k)) := HG.out.nm.same (Below.heap_setCell _ _ _ _ (fun e => HG.out.ne e.symm))
    have HS : Hid (Sv g b w (w.setCell ⟨g, 1, none⟩ (.int .i64 (((rnk text k : Nat) : Int) + 1)))) := ⟨rfl, rfl, rfl, by simp [World.setCell], fun i _ h2 _ => Below.heap_setCell _ _ _ _ h2⟩
    cases ha : alB (nth text k) with
    | true =>
      rw [ha] at CS
      have HK : Hid (∀ v, knw text (k + 1) v = knw text k v) := knw_alone ha
      go_enter Tryd.func24, Tryd.ntmps24
      go_wp2_with (go_at_call 10; refine (CS _).mono ?_; rintro e w1 ⟨rfl, hb1⟩)
      go_ret
      exact ⟨by rw [HN.out]; rfl, ⟨by rw [hb1.block g (Array.getElem?_eq_some_iff.1 HW.out).1]; exact HW.out, ((HM.out.keep hb1).fit fun x => (HK.out x).symm).more (Nat.le_succ _)⟩, HS.out.trans (Sv.new hb1)⟩
    | false =>
      rw [ha] at CS
      have HK : Hid (∀ v, knw text (k + 1) v = if v = nth text k then some (rnk text k) else knw text k v) := knw_put hn ha
      go_enter Tryd.func24, Tryd.ntmps24
      go_upto_region 7 with (go_at_call 10; refine (CS _).mono ?_; rintro e w1 ⟨rfl, hb1⟩; have HG1 : Hid (w1.heap[g]? = some (.cells #[.map (some b), .int .i64 ((rnk text (k + 1) : Nat) : Int)] 70 (0, 0))) := (by unfold Hid; rw [hb1.block g (Array.getElem?_eq_some_iff.1 HW.out).1]; exact HW.out); have HM1 : Hid (Nms w1 b k (knw text k)) := HM.out.keep hb1; have HS1 : Hid (Sv g b w w1) := HS.out.trans (Sv.new hb1); have r0 : w1.cell? ⟨g, 0, none⟩ = some (.map (some b)) := (by rw [Lib.cell_of_heap HG1.out]; rfl); clear hb1)
      go_wp2_with (at_mapUpdate; refine wpList_nms_put _ rfl _ _ _ rfl b k (knw text k) HM1.out (by omega) (nth text k) h0 h1 (rnk text k) (by omega) rfl rfl rfl ?_; intro w2 hk2 hg2)
      go_ret
      exact ⟨by rw [HN.out]; rfl, ⟨by rw [hg2.block g (Array.getElem?_eq_some_iff.1 HG1.out).1 (fun e => HG.out.ne (by cases e; rfl))]; exact HG1.out, hk2.fit fun x => (HK.out x).symm⟩, HS1.out.trans (Sv.grown hg2 (.inr (.inr rfl)))⟩
  · rw [knw_old hn] at hlk
    replace hlk : (Instr.lookup 68 (.map (some b)) (.int .u32 (nth text k)) true).run Tryd.prog w = .ok (.tuple #[.int .i64 ((numN text k : Nat) : Int), .bool true]) w := hlk
    have HR : Hid (rnk text (k + 1) = rnk text k) := rnk_known hn
    have HK : Hid (∀ v, knw text (k + 1) v = knw text k v) := knw_known hn
    go_enter Tryd.func24, Tryd.ntmps24
    go_wp2
    go_ret
    exact ⟨rfl, ⟨by rw [HR.out]; exact HG.out.cs, (HG.out.nm.fit fun x => (HK.out x).symm).more (Nat.le_succ _)⟩, Sv.refl _ _ _⟩

end Go.Proofs.YtblmcphmgicocaaDoor

namespace Go.Proofs.YtblmcphmgicocaaDoor
open Go.RowKit

theorem ends_falls (x : Int) : (!(!endsB x || x == 16) || x == 16) = endsB x := by
  by_cases h16 : x = 16
  · subst h16; rfl
  · have : (x == 16) = false := by simpa using h16
    rw [this]; simp

theorem target_of (v x d a b n : Int) (p1 p2 p3 p4 p : Bool) (w : World) (CE : ∀ wx : World, Calls Tryd.prog 58 #[.int .u32 v] wx fun e w' => e = .returned (.agg #[.int .i8 x, .int .i8 d, .int .i8 a, .int .i8 b, .int .i64 n]) ∧ Below wx.heap.size wx w') (CH : ∀ wx : World, Calls Tryd.prog 59 #[.int .i8 x] wx fun e w' => e = .returned (.tuple #[.bool p1, .bool p2, .bool p3, .bool p4, .bool p]) ∧ Below wx.heap.size wx w') : Calls Tryd.prog 50 #[.int .u32 v] w fun e w' => e = .returned (.tuple #[.int .i64 (if p then n else 0), .bool p]) ∧ Below w.heap.size w w' := by
  cases p
  · go_enter Tryd.func50, Tryd.ntmps50
    go_wp2_with fail
    refine (CE _).mono ?_
    rintro e w1 ⟨rfl, hb⟩
    go_wp2_with fail
    refine (CH _).mono ?_
    rintro e w2 ⟨rfl, hb2⟩
    go_wp2
    go_ret2
    exact ⟨rfl, bel_trans (bel_alloc hb _) hb2⟩
  · go_enter Tryd.func50, Tryd.ntmps50
    go_wp2_with fail
    refine (CE _).mono ?_
    rintro e w1 ⟨rfl, hb⟩
    go_wp2_with fail
    refine (CH _).mono ?_
    rintro e w2 ⟨rfl, hb2⟩
    have c4 : w2.cell? ⟨w1.heap.size, 4, none⟩ = some (.int .i64 n) := cell_keep hb2 (by simp [go_sem])
    have HB : Hid (Below w.heap.size w w2) := bel_trans (bel_alloc hb _) hb2
    clear hb hb2
    go_wp2
    go_ret2
    exact ⟨rfl, HB.out⟩








end Go.Proofs.YtblmcphmgicocaaDoor
