/-
  EqInts: two lists of ints. The program: Of, Count, each by what it answers. What gather answers.
-/
import Derived.Test.YtblmcphmgicocaaDoorProg
import Derived.WalkKit
import Derived.WalkSpells
import Derived.WalkLawsBesides
import Derived.RowKit3
import Derived.Below
import Derived.Deep.QuietTactic
import Derived.BigQuiet
import Derived.WalkSmall
import Derived.Laws.Rows
import Derived.Test.YtblmcphmgicocaaDoorPf01
import Derived.Test.YtblmcphmgicocaaDoorPf18
import Derived.Test.YtblmcphmgicocaaDoorPf19
import Derived.Deep.AppendLies
import Derived.Test.YtblmcphmgicocaaDoorPf06
import Derived.Test.YtblmcphmgicocaaDoorPf11
namespace Go.Proofs.YtblmcphmgicocaaDoor
open Go.RowKit

set_option maxRecDepth 100000 in
set_option maxHeartbeats 1000000 in
theorem eqints_any (A B : Option Addr) (ca cb : Nat) (zs ys : List Int) (w : World) (hA : IntsAt w A .i64 zs) (hB : IntsAt w B .i64 ys) (hz : zs.length ≤ 1048576) :
    Calls Tryd.prog 9 #[.slice A zs.length ca, .slice B ys.length cb] w fun e w' => e = .returned (.bool (decide (zs = ys))) ∧ Below w.heap.size w w' := by
  by_cases hl : zs.length = ys.length
  · have hl' : ((zs.length : Int) == (ys.length : Int)) = true := by rw [hl]; simp
    have HL : Hid (zs.length = ys.length) := hl
    clear hl
    go_enter Tryd.func9, Tryd.ntmps9
    go_wp2
    go_loopw [5] (fun i wr => ∃ (k m : Nat), i = .int .i64 k ∧ k ≤ zs.length ∧ wr = w.drewN m ∧ Hid (zs.take k = ys.take k)) (fun i _ => zs.length - (intOf i).toNat)
    case atStart => exact ⟨0, 0, rfl, by omega, rfl, by simp [Hid]⟩
    case round =>
      obtain ⟨k, m, rfl, hk, rfl, HT⟩ := hrel
      by_cases hlt : k < zs.length
      · obtain ⟨a, rfl, c1⟩ := hA k hlt
        obtain ⟨b, rfl, c2⟩ := hB k (by have := HL.out; omega)
        have hlt2 : (k : Int) < (ys.length : Int) := by have := HL.out; omega
        by_cases he : nth zs k = nth ys k
        · have HE : Hid (nth zs k = nth ys k) := he
          have he' : (nth zs k == nth ys k) = true := by simpa using he
          clear he
          go_wp2_with fail
          go_quiet (fail)
          go_wp2
          go_roundw
          case rel => exact ⟨k + 1, _, by go_num, by omega, rfl, take_same HT.out hlt (by omega) HE.out⟩
          case measure => simp [intOf]; omega
        · have HE : Hid (¬ nth zs k = nth ys k) := he
          have he' : (nth zs k == nth ys k) = false := by simpa using he
          clear he
          go_wp2_with fail
          go_quiet (fail)
          go_wp2
          go_ret
          exact ⟨retB (decide_eq_false (nth_ne HE.out)).symm, below_drewN (below_drewN (Below.refl _ _) _) _⟩
      · go_wp2
        go_ret
        exact ⟨retB (decide_eq_true (take_all HT.out (by omega) HL.out)).symm, below_drewN (Below.refl _ _) _⟩
  · have hl' : ((zs.length : Int) == (ys.length : Int)) = false := by simp; omega
    have HL : Hid (¬ zs.length = ys.length) := hl
    clear hl
    go_enter Tryd.func9, Tryd.ntmps9
    go_wp2
    go_ret
    exact ⟨retB (decide_eq_false (fun h => HL.out (by rw [h]))).symm, Below.refl _ _⟩








end Go.Proofs.YtblmcphmgicocaaDoor

namespace Go.Proofs.YtblmcphmgicocaaDoor
open Go.RowKit

def fN (text : List Int) (i : Nat) : Value := .int .i64 ((numN text i : Nat) : Int)
def zI (_ : Nat) : Value := .int .i64 0
theorem infoI3 : ∃ i, Tryd.prog.info? 3 = some i ∧ i.zero = some (.int .i64 0) ∧ i.size = 1 ∧ i.bytes = 8 :=
  ⟨(Tryd.prog.info? 3).get (by kernel_rfl), by kernel_rfl, by kernel_rfl, by kernel_rfl, by kernel_rfl⟩
theorem made_ints (f : Nat → Value) (n : Nat) (hn : n ≤ 1048576) (w : World) : (Instr.makeSlice 27 (.int .i64 (n : Int)) (.int .i64 (n : Int))).run Tryd.prog w = .ok (.slice (some ⟨w.heap.size, 0, none⟩) n n) (w.alloc (.cells (wcur f zI n 0) 3)) := by
  obtain ⟨i, hi, hz, hs, hb⟩ := infoI3
  have h := run_makeSlice (P := Tryd.prog) w 27 3 i _ Tryd.underlying27 hi hz .i64 .i64 (n : Int) (n : Int) (by omega) (by omega) (by rw [hs]; omega) (by rw [hb]; omega) (by omega)
  rw [hs, Nat.mul_one, show ((n : Int)).toNat = n by omega] at h
  rw [h, show zI = fun _ => .int .i64 0 from rfl, ← made_wcur f (.int .i64 0) n]
  rfl
theorem row_nums {w : World} {g : Nat} {text : List Int} (h : w.heap[g]? = some (.cells (wcur (fN text) zI text.length text.length) 3 (0, 0))) (hn : text.length ≤ 1048576) {base : Nat} (hg : base ≤ g) : w.ownsRow base 3 1 (.slice (some ⟨g, 0, none⟩) text.length text.length) text.length (iVals .i64 (numL text text.length)) := by
  refine ⟨by simp [iVals, numL_len], .inr ⟨g, text.length, _, rfl, hg, h, Nat.le_refl _, by unfold maxLen; omega, by rw [wcur_size, Nat.mul_one], ?_⟩⟩
  apply List.ext_getElem?
  intro i
  by_cases hi : i < text.length
  · rw [List.getElem?_take_of_lt (by omega), Array.getElem?_toList, wcur_get _ _ _ _ _ hi, if_pos hi, iVals_get (by rw [numL_len]; exact hi), numL_nth hi]
    rfl
  · rw [List.getElem?_eq_none (by simp [wcur_size]; omega), List.getElem?_eq_none (by simp [iVals, numL_len]; omega)]
set_option maxRecDepth 100000 in
set_option maxHeartbeats 4000000 in
theorem each_any (g b : Nat) (A : Option Addr) (c : Nat) (text : List Int) (w0 w : World) (hA : IntsAt w0 A .u32 text) (hb0 : Below w0.heap.size w0 w) (hg0 : w0.heap.size ≤ g) (hm0 : w0.heap.size ≤ b) (hR : ∀ i, i < text.length → 0 ≤ nth text i ∧ nth text i < 4294967296) (hl : text.length ≤ 1048576) (h : Gv w g b text 0) :
    Calls Tryd.prog 23 #[.slice A text.length c, .func (.func 24) #[.pointer (some ⟨g, 0, none⟩)] #[]] w fun e w' => e = .returned (.slice (some ⟨w.heap.size, 0, none⟩) text.length text.length) ∧ w'.heap[w.heap.size]? = some (.cells (wcur (fN text) zI text.length text.length) 3 (0, 0)) ∧ Sv g b w w' := by
  have HA : Hid (IntsAt w0 A .u32 text) := hA
  have HB0 : Hid (Below w0.heap.size w0 w) := hb0
  have HR : Hid (∀ i, i < text.length → 0 ≤ nth text i ∧ nth text i < 4294967296) := hR
  have HLT : Hid (g < w.heap.size ∧ b < w.heap.size) := ⟨(Array.getElem?_eq_some_iff.1 h.cs).1, h.nm.lt⟩
  have hmk := made_ints (fN text) text.length hl
  have HG1 : Hid (Gv (w.alloc (.cells (wcur (fN text) zI text.length 0) 3)) g b text 0) := h.keep (lb_alloc (Below.refl _ _) _)
  have HS1 : Hid (Sv g b w (w.alloc (.cells (wcur (fN text) zI text.length 0) 3))) := Sv.new (lb_alloc (Below.refl _ _) _)
  have HX1 : Hid ((w.alloc (.cells (wcur (fN text) zI text.length 0) 3)).heap[w.heap.size]? = some (.cells (wcur (fN text) zI text.length 0) 3 (0, 0))) := heap_alloc_new _ _
  clear hA hR h hb0
  go_enter Tryd.func23, Tryd.ntmps23
  go_wp2
  go_loopw [13] (fun i wr => ∃ k : Nat, i = .int .i64 k ∧ k ≤ text.length ∧ Hid (Sv g b w wr) ∧ Hid (Gv wr g b text k) ∧ Hid (wr.heap[w.heap.size]? = some (.cells (wcur (fN text) zI text.length k) 3 (0, 0)))) (fun i _ => text.length - (intOf i).toNat)
  case atStart => exact ⟨0, rfl, Nat.zero_le _, HS1, HG1, HX1⟩
  case round =>
    clear hmk HS1 HG1 HX1
    obtain ⟨k, rfl, hk, HS, HG, HX⟩ := hrel
    by_cases hlt : k < text.length
    · have hlt' : (k : Int) < (text.length : Int) := by omega
      obtain ⟨a, ea, q⟩ := HA.out k hlt
      subst ea
      replace q := lkeep (HB0.out.trans (HS.out.below HB0.out.size hg0 hm0)) q
      obtain ⟨v0, v1⟩ := HR.out k hlt
      have CO := of_any g b text k wr hlt hl v0 v1 HG.out
      have HSet : Hid ((wcur (fN text) zI text.length k).setIfInBounds k (.int .i64 ((numN text k : Nat) : Int)) = wcur (fN text) zI text.length (k + 1)) := wcur_set (fN text) zI text.length k hlt
      have HGt : Hid ((wcur (fN text) zI text.length k)[k]? = some (.int .i64 0)) := by
        unfold Hid
        rw [wcur_get _ _ _ _ _ hlt, if_neg (by omega)]; rfl
      generalize nth text k = v at CO q
      generalize numN text k = x at CO HSet
      go_wp2_with (go_at_call 24; refine CO.mono ?_; rintro e w1 ⟨rfl, hg1, hs1⟩; have hx1 : w1.heap[w.heap.size]? = some (.cells (wcur (fN text) zI text.length k) 3 (0, 0)) := (hs1.block w.heap.size (Array.getElem?_eq_some_iff.1 HX.out).1 (by have := HLT.out; omega) (by have := HLT.out; omega)).trans HX.out; have cg : w1.cell? ⟨w.heap.size, k, none⟩ = some (.int .i64 0) := (by rw [Lib.cell_of_heap hx1]; exact HGt.out); have fg : w1.frozen? ⟨w.heap.size, k, none⟩ = false := Lib.frozen_of_heap hx1 k; have HG2 : Hid (Gv w1 g b text (k + 1)) := hg1; have HS2 : Hid (Sv g b w w1) := HS.out.trans hs1; have HX2 : Hid _ := hx1; clear hx1 hg1 hs1 CO)
      have off : ∀ i, i ≠ w.heap.size → (w1.setCell ⟨w.heap.size, k, none⟩ (.int .i64 (x : Int))).heap[i]? = w1.heap[i]? := fun i hi => Below.heap_setCell _ _ _ _ hi
      have HX3 : Hid ((w1.setCell ⟨w.heap.size, k, none⟩ (.int .i64 (x : Int))).heap[w.heap.size]? = some (.cells (wcur (fN text) zI text.length (k + 1)) 3 (0, 0))) := by
        unfold Hid
        rw [set_rowN HX2.out, HSet.out]
      have HS3 : Hid (Sv g b w (w1.setCell ⟨w.heap.size, k, none⟩ (.int .i64 (x : Int)))) := ⟨HS2.out.os, HS2.out.tape, HS2.out.output, by simpa [World.setCell] using HS2.out.size, fun i h1 h2 h3 => (off i (by omega)).trans (HS2.out.block i h1 h2 h3)⟩
      have HG3 : Hid (Gv (w1.setCell ⟨w.heap.size, k, none⟩ (.int .i64 (x : Int))) g b text (k + 1)) := ⟨by rw [off g (by have := HLT.out; omega)]; exact HG2.out.cs, HG2.out.nm.same (off b (by have := HLT.out; omega))⟩
      go_roundw
      case rel => exact ⟨k + 1, by go_num, by omega, HS3, HG3, HX3⟩
      case measure => simp [intOf]; omega
    · obtain rfl : k = text.length := by omega
      go_wp2
      go_ret
      exact ⟨rfl, HX.out, HS.out⟩

set_option maxRecDepth 100000 in
set_option maxHeartbeats 4000000 in
theorem ofOK : OfOK where
  no := fun A1 A2 c1 ml c2 ent text w hT hR hl hm hE => by
    obtain ⟨W0, HW⟩ : ∃ W0, Hid (w.alloc (.cells #[.slice A1 text.length c1, .int .i64 ent, .slice A2 ml c2] 25) = W0) := ⟨_, rfl⟩
    have HB0 : Hid (Below w.heap.size w W0) := by unfold Hid; rw [← HW.out]; exact lb_alloc (Below.refl _ _) _
    have i0 : W0.cell? ⟨w.heap.size, 0, none⟩ = some (.slice A1 text.length c1) := by rw [← HW.out]; simp [go_sem]
    have i1 : W0.cell? ⟨w.heap.size, 1, none⟩ = some (.int .i64 ent) := by rw [← HW.out]; simp [go_sem]
    have i2 : W0.cell? ⟨w.heap.size, 2, none⟩ = some (.slice A2 ml c2) := by rw [← HW.out]; simp [go_sem]
    have C := check_any A1 A2 c1 ml c2 ent text W0 (hT.keep HB0.out) hR hl hm
    generalize (checkI text ml ent).1 = E at *
    generalize (checkI text ml ent).2 = F at *
    have hE' : (E != 0) = true := by simpa using hE
    clear hT hR
    go_enter Tryd.func7, Tryd.ntmps7
    go_upto_region 1 with fail
    rw [HW.out]
    go_wp2_with (go_at_call 22; refine C.mono ?_; rintro e w1 ⟨rfl, hb1⟩)
    go_ret2
    exact ⟨none, 0, rfl, ⟨rfl, .inl ⟨rfl, rfl⟩⟩, lb_trans HB0.out hb1⟩
  ok := fun A1 A2 c1 ml c2 ent text w hT hR hl hm hE => by
    obtain ⟨W0, HW⟩ : ∃ W0, Hid (w.alloc (.cells #[.slice A1 text.length c1, .int .i64 ent, .slice A2 ml c2] 25) = W0) := ⟨_, rfl⟩
    have HB0 : Hid (Below w.heap.size w W0) := by unfold Hid; rw [← HW.out]; exact lb_alloc (Below.refl _ _) _
    have i0 : W0.cell? ⟨w.heap.size, 0, none⟩ = some (.slice A1 text.length c1) := by rw [← HW.out]; simp [go_sem]
    have i1 : W0.cell? ⟨w.heap.size, 1, none⟩ = some (.int .i64 ent) := by rw [← HW.out]; simp [go_sem]
    have i2 : W0.cell? ⟨w.heap.size, 2, none⟩ = some (.slice A2 ml c2) := by rw [← HW.out]; simp [go_sem]
    have HI : Hid (∀ Z, Below W0.heap.size W0 Z → Z.cell? ⟨w.heap.size, 0, none⟩ = some (.slice A1 text.length c1)) := fun Z hZ => lkeep hZ i0
    have HT : Hid (IntsAt w A1 .u32 text) := hT
    have HR : Hid (∀ i, i < text.length → 0 ≤ nth text i ∧ nth text i < 4294967296) := hR
    have C := check_any A1 A2 c1 ml c2 ent text W0 (hT.keep HB0.out) hR hl hm
    rw [hE] at C
    generalize (checkI text ml ent).2 = F at *
    clear hT hR hE
    go_enter Tryd.func7, Tryd.ntmps7
    go_upto_region 1 with fail
    rw [HW.out]
    go_upto_region 4 with (go_at_call 22; refine C.mono ?_; rintro e w1 ⟨rfl, hb1⟩; have HB1 : Hid (Below W0.heap.size W0 w1) := hb1; clear hb1 C)
    have mk1 := fun wx => mkNm wx none rfl
    have mk2 := mkFnT
    obtain ⟨X, HX⟩ : ∃ X, Hid ((w1.alloc (.map #[] 0)).alloc (.cells #[.map (some w1.heap.size), .int .i64 0] 70) = X) := ⟨_, rfl⟩
    have HBX : Hid (Below W0.heap.size W0 X) := by unfold Hid; rw [← HX.out]; exact lb_alloc (lb_alloc HB1.out _) _
    have HSZ : Hid (w.heap.size ≤ w1.heap.size) := Nat.le_trans HB0.out.size HB1.out.size
    have HGX : Hid (Gv X (w1.heap.size + 1) w1.heap.size text 0) := by
      unfold Hid
      rw [← HX.out]
      refine ⟨?_, ((Nms.made w1).keep (lb_alloc (Below.refl _ _) _)).fit fun x => (knw_zero text x).symm⟩
      have := heap_alloc_new (w1.alloc (.map #[] 0)) (.cells #[.map (some w1.heap.size), .int .i64 0] 70)
      rw [show (w1.alloc (.map #[] 0)).heap.size = w1.heap.size + 1 by simp [go_sem]] at this
      exact this
    have x0 := HI.out X HBX.out
    have CE := each_any (w1.heap.size + 1) w1.heap.size A1 c1 text w X HT.out (lb_trans HB0.out HBX.out) (by have := HSZ.out; omega) HSZ.out HR.out hl HGX.out
    go_upto_region 5 with fail
    rw [HX.out]
    go_wp2_with (go_at_call 23; refine CE.mono ?_; rintro e w2 ⟨rfl, hx, hs⟩)
    go_ret2
    have hsz : w.heap.size ≤ X.heap.size := Nat.le_trans HB0.out.size HBX.out.size
    exact ⟨_, _, rfl, row_nums hx hl hsz, (lb_trans HB0.out HBX.out).trans (hs.below hsz (by have := HSZ.out; omega) HSZ.out)⟩
set_option maxHeartbeats 4000000 in
theorem countOK : CountOK := fun A c l w hA hR hl => by
  have HA : Hid (IntsAt w A .i64 l) := hA
  have HR : Hid (∀ i, i < l.length → -9223372036854775808 ≤ nth l i ∧ nth l i ≤ 9223372036854775807) := hR
  have mk := mkCt
  have HB1 : Hid (Below w.heap.size w (w.alloc (.map #[] 0))) := lb_alloc (Below.refl _ _) _
  have HC1 : Hid (Cts (w.alloc (.map #[] 0)) w.heap.size 0 (metF l 0) (cntN l 0)) := (Cts.made w).fit fun x => (metF_zero l x).symm
  clear hA hR
  go_enter Tryd.func12, Tryd.ntmps12
  go_wp2
  go_loopw [9] (fun i wr => ∃ k : Nat, i = .int .i64 k ∧ k ≤ l.length ∧ Hid (Below w.heap.size w wr) ∧ Hid (Cts wr w.heap.size k (metF l k) (cntN l k))) (fun i _ => l.length - (intOf i).toNat)
  case atStart => exact ⟨0, rfl, Nat.zero_le _, HB1, HC1⟩
  case round =>
    clear mk HB1 HC1
    obtain ⟨k, rfl, hk, HB, HC⟩ := hrel
    by_cases hlt : k < l.length
    · have hlt' : (k : Int) < (l.length : Int) := by omega
      obtain ⟨a, ea, q⟩ := HA.out k hlt
      subst ea
      replace q := lkeep HB.out q
      obtain ⟨v0, v1⟩ := HR.out k hlt
      have HF : Hid (∀ x, (metF l k x || (nth l k == x)) = metF l (k + 1) x) := fun x => (metF_succ l k x).symm
      have HN : Hid ((if metF l k (nth l k) = true then cntN l k else cntN l k + 1) = cntN l (k + 1)) := by
        unfold Hid
        show _ = cntN l k + (if frsB l k = true then 1 else 0)
        rw [met_frs]
        cases frsB l k <;> rfl
      generalize nth l k = v at *
      go_wp2_with (at_mapUpdate; refine wpList_cts_put _ rfl _ _ _ rfl w.heap.size k (cntN l k) (metF l k) HC.out (by omega) v v0 v1 rfl rfl rfl ?_; intro w2 hk2 hg2)
      have HB2 : Hid (Below w.heap.size w w2) := HB.out.trans ⟨hg2.os, hg2.tape, hg2.output, hg2.size, fun i hi => hg2.block i (Nat.lt_of_lt_of_le hi HB.out.size) (by intro e; injection e with e; omega)⟩
      have HC2 : Hid (Cts w2 w.heap.size (k + 1) (metF l (k + 1)) (cntN l (k + 1))) := by
        unfold Hid
        rw [← HN.out]
        exact hk2.fit HF.out
      clear hk2 hg2
      go_roundw
      case rel => exact ⟨k + 1, by go_num, by omega, HB2, HC2⟩
      case measure => simp [intOf]; omega
    · obtain rfl : k = l.length := by omega
      have hlen := fun ty => HC.out.len ty
      go_wp2
      go_ret
      exact ⟨rfl, HB.out⟩

end Go.Proofs.YtblmcphmgicocaaDoor

namespace Go.Proofs.YtblmcphmgicocaaDoor
open Go.RowKit

/-- The places that are told: none, if the image may not be. -/
def outL (text : List Int) (ml : Nat) (ent : Int) (f : Int → Bool) : List Int := if (checkI text ml ent).1 = 0 then plcT f text.length else []
theorem outL_ok {text : List Int} {ml : Nat} {ent : Int} {f : Int → Bool} (h : (checkI text ml ent).1 = 0) : outL text ml ent f = plcT f text.length := if_pos h
theorem outL_no {text : List Int} {ml : Nat} {ent : Int} {f : Int → Bool} (h : ¬ (checkI text ml ent).1 = 0) : outL text ml ent f = [] := if_neg h
def GatP (E : Int) (ps : List Int) (w : World) (e : Ending) (w' : World) : Prop :=
  ∃ (A : Option Addr) (c : Nat), e = .returned (.tuple #[.slice A ps.length c, .int .i64 E]) ∧ w'.ownsRow w.heap.size 3 1 (.slice A ps.length c) ps.length (iVals .i64 ps) ∧ Below w.heap.size w w'
theorem gat_no {text : List Int} {ml : Nat} {ent : Int} {f : Int → Bool} (h : ¬ (checkI text ml ent).1 = 0) {w w' : World} (hb : Below w.heap.size w w') : GatP (checkI text ml ent).1 (outL text ml ent f) w (.returned (.tuple #[.slice none 0 0, .int .i64 (checkI text ml ent).1])) w' := by
  rw [outL_no h]
  exact ⟨none, 0, rfl, World.ownsRow_nil _ _ _ _, hb⟩
theorem infoI : ∃ i, Tryd.prog.info? 3 = some i ∧ i.zero = some (.int .i64 0) ∧ i.size = 1 ∧ i.bytes = 8 :=
  ⟨(Tryd.prog.info? 3).get (by kernel_rfl), by kernel_rfl, by kernel_rfl, by kernel_rfl, by kernel_rfl⟩
theorem one_oneI {x : Int} : ∀ u ∈ [Value.int .i64 x], u.oneCell' = true := fun u hu => by
  simp only [List.mem_cons, List.not_mem_nil, or_false] at hu
  rw [hu]; rfl
theorem own_sl {w : World} {b n : Nat} {e : TypeId} {sz : Nat} {v : Value} {xs : List Value} (h : w.ownsRow b e sz v n xs) : ∃ A c, v = .slice A n c := own_form h
/-- A row stays where a map is written. -/
theorem row_map {w w1 : World} {base : Nat} {e : TypeId} {sz : Nat} {v : Value} {n : Nat} {xs : List Value} {b : Nat} (h : w.ownsRow base e sz v n xs) (hg : w.grownBy w1 (some b)) (hb : ∀ cs t, w.heap[b]? ≠ some (.cells cs t (0, 0))) : w1.ownsRow base e sz v n xs := by
  refine h.kept hg ?_
  rcases h.2 with ⟨rfl, _⟩ | ⟨g, cap, cur, rfl, _, hg2, _⟩
  · exact .inl rfl
  · refine .inr fun e => ?_
    cases e
    exact hb _ _ hg2






end Go.Proofs.YtblmcphmgicocaaDoor
