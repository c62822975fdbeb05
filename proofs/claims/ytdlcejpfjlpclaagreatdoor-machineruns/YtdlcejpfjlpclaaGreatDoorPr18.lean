/-
  New of the document's machine. Rows of words and ports, compared. The statement's alike.
-/
import Derived.Test.YtdlcejpfjlpclaaGreatDoorProg
import Derived.WalkKit
import Derived.WalkSpells
import Derived.WalkLawsBesides
import Derived.RowKit3
import Derived.Below
import Derived.Deep.QuietTactic
import Derived.BigQuiet
import Derived.WalkSmall
import Derived.Laws.Rows
import Derived.Test.YtdlcejpfjlpclaaGreatDoorPr17
import Derived.Deep.RegionLaw
import Derived.Deep.AppendLies
import Derived.Deep.DeepCutAuto
import Derived.Laws.OwnMore
import Derived.Test.YtdlcejpfjlpclaaGreatDoorPr07
import Derived.Test.YtdlcejpfjlpclaaGreatDoorPr12
import Derived.Deep.RegionHeld3
namespace Go.Proofs.YtdlcejpfjlpclaaGreatDoor
open Go.RowKit

theorem infoU : ∃ i, Tryz.prog.info? 36 = some i ∧ i.zero = some (.int .u32 0) ∧ i.size = 1 ∧ i.bytes = 4 :=
  ⟨(Tryz.prog.info? 36).get (by kernel_rfl), by kernel_rfl, by kernel_rfl, by kernel_rfl, by kernel_rfl⟩
def z16 : Array Value := (wVals (List.replicate 16 (0, false))).toArray
theorem made16 (w : World) : (Instr.makeSlice 65 (.int .i64 16) (.int .i64 16)).run Tryz.prog w = .ok (.slice (some ⟨w.heap.size, 0, none⟩) 16 16) (w.alloc (.cells z16 71)) := by
  obtain ⟨i, hi, hz, hs, hb⟩ := info_w
  have h := run_makeSlice (P := Tryz.prog) w 65 71 i _ Tryz.underlying65 hi hz .i64 .i64 16 16 (by decide) (by decide) (by rw [hs]; decide) (by rw [hb]; decide) (by decide)
  rw [hs, show madeCells (Value.agg #[Value.int IntKind.i64 0, Value.bool false]).cells (Int.toNat 16 * 2) = z16 by kernel_rfl] at h
  exact h
/-- Where a machine that is just made has its lists. -/
def q0 (R : Nat) : QLoc := ⟨none, 0, none, 0, R, none, 0, .slice none 0 0⟩
theorem QAt.first {w : World} {base : Nat} {ent : Int} (hb : base ≤ w.heap.size) : QAt ((w.alloc (.cells z16 71)).alloc (.cells (boxQ (q0 w.heap.size) (newM [] [] [] ent)) 88)) base (w.heap.size + 1) (q0 w.heap.size) (newM [] [] [] ent) := by
  have e1 := heap_alloc_new (w.alloc (.cells z16 71)) (.cells (boxQ (q0 w.heap.size) (newM [] [] [] ent)) 88)
  rw [show (w.alloc (.cells z16 71)).heap.size = w.heap.size + 1 by simp] at e1
  have e2 : (w.alloc (.cells z16 71)).ownsRow base 71 2 (.slice (some ⟨w.heap.size, 0, none⟩) 16 16) 16 (wVals (List.replicate 16 (0, false))) := World.ownsRow_lit w z16 16 hb (by decide) rfl
  exact ⟨e1, by omega, World.ownsRow_nil _ _ _ _, World.ownsRow_nil _ _ _ _, row_keep e2 (lb_alloc (Below.refl _ _) _), World.ownsRow_nil _ _ _ _, World.ownsRow_nil _ _ _ _, fun e => by cases e⟩
theorem QAt.mono {w : World} {b b' P : Nat} {s : QLoc} {m : Mach} (h : QAt w b P s m) (hb : b' ≤ b) : QAt w b' P s m :=
  ⟨h.box, Nat.le_trans hb h.bP, ownsRow_mono h.text hb, ownsRow_mono h.tape hb, ownsRow_mono h.regs hb, ownsRow_mono h.mem hb, ownsRow_mono h.ports hb, h.ne⟩
set_option maxRecDepth 100000 in
set_option maxHeartbeats 8000000 in
theorem qnew_any (a1 : Addr) (A2 A3 : Option Addr) (c1 c2 c3 : Nat) (ent : Int) (text mem tape : List Int) (w : World) (hT : IntsAt w (some a1) .u32 text) (hM : IntsAt w A2 .i64 mem) (hX : IntsAt w A3 .i64 tape) (hl : text.length ≤ 1048576) (hml : mem.length ≤ 1048576) (hxl : tape.length ≤ 1048576) (h3 : A3 = none → c3 = 0) (he : 0 ≤ ent) (hp : 0 < text.length) :
    Calls Tryz.prog 10 #[.agg #[.slice (some a1) text.length c1, .int .i64 ent, .slice A2 mem.length c2], .slice A3 tape.length c3] w fun e w' => Below w.heap.size w w' ∧ ∃ P s, e = .returned (.pointer (some ⟨P, 0, none⟩)) ∧ QAt w' w.heap.size P s (newM text tape mem ent) := by
  obtain ⟨W0, HW0⟩ : ∃ W0, Hid (w.alloc (.cells #[.slice (some a1) text.length c1, .int .i64 ent, .slice A2 mem.length c2] 25) = W0) := ⟨_, rfl⟩
  have HB0 : Hid (Below w.heap.size w W0) := by unfold Hid; rw [← HW0.out]; exact lb_alloc (Below.refl _ _) _
  have x0 : W0.cell? ⟨w.heap.size, 0, none⟩ = some (.slice (some a1) text.length c1) := by rw [← HW0.out]; simp [go_sem]
  have x1 : W0.cell? ⟨w.heap.size, 1, none⟩ = some (.int .i64 ent) := by rw [← HW0.out]; simp [go_sem]
  have x2 : W0.cell? ⟨w.heap.size, 2, none⟩ = some (.slice A2 mem.length c2) := by rw [← HW0.out]; simp [go_sem]
  replace hT := hT.keep HB0.out
  replace hM := hM.keep HB0.out
  replace hX := hX.keep HB0.out
  go_enter Tryz.func10, Tryz.ntmps10
  go_upto_region 1 with fail
  rw [HW0.out]
  clear HW0
  have hms := made16 W0.drew
  have x1d : (W0.alloc (.cells z16 71)).cell? ⟨w.heap.size, 1, none⟩ = some (.int .i64 ent) := lkeep (lb_alloc (Below.refl _ _) _) x1
  go_region
  obtain ⟨iN, hN, hN0, hN1, hN2⟩ := infoU
  have HEN : Hid ((ent.toNat : Int) = ent) := Int.toNat_of_nonneg he
  obtain ⟨W1, HW1⟩ : ∃ W1, Hid (((W0.alloc (.cells z16 71)).alloc (.cells #[.slice none 0 0, .int .i64 ent, .int .i8 0, .int .i64 0, .int .i64 0, .slice none 0 0, .slice (some ⟨W0.heap.size, 0, none⟩) 16 16, .slice none 0 0, .slice none 0 0] 88)).drew = W1) := ⟨_, rfl⟩
  have h1 : QAt W1 W0.heap.size (W0.heap.size + 1) (q0 W0.heap.size) (newM [] [] [] ent) := by
    have e := (QAt.first (w := W0) (ent := ent) (Nat.le_refl _)).drew
    have e2 : boxQ (q0 W0.heap.size) (newM [] [] [] ent) = #[.slice none 0 0, .int .i64 ((ent.toNat : Nat) : Int), .int .i8 0, .int .i64 0, .int .i64 0, .slice none 0 0, .slice (some ⟨W0.heap.size, 0, none⟩) 16 16, .slice none 0 0, .slice none 0 0] := rfl
    rw [e2, HEN.out, HW1.out] at e
    exact e
  have HB1 : Hid (Below W0.heap.size W0 W1) := by unfold Hid; rw [← HW1.out]; exact Below.drew (lb_alloc (lb_alloc (Below.refl _ _) _) _)
  rw [HW1.out]
  clear HW1 hms x1d x1
  have HPb : Hid (W0.heap.size ≤ W0.heap.size + 1) := Nat.le_succ _
  have y0 := lkeep HB1.out x0
  have c0 : W1.cell? ⟨W0.heap.size + 1, 0, none⟩ = some (.slice none 0 0) := h1.cells.1
  have HC1 : Hid (∀ j u, (iVals .u32 text)[j]? = some u → W1.drew.cell? (a1.add j) = some u) := fun j u hu => by
    have hj : j < text.length := by have := (List.getElem?_eq_some_iff.1 hu).1; simpa [iVals] using this
    obtain ⟨b, e, c⟩ := hT j hj
    cases e
    rw [iVals_get hj] at hu
    cases hu
    exact lkeep HB1.out c
  have HH1 : Hid (∀ u ∈ iVals .u32 text, u.oneCell' = true) := fun u hu => by
    obtain ⟨i, _, rfl⟩ := List.mem_map.1 hu
    rfl
  have HL1 : Hid ((iVals .u32 text).length = text.length * 1) := by simp [Hid, iVals]
  have HO1 : Hid (W1.drew.ownsRow W0.heap.size 36 1 (.slice none 0 0) 0 []) := World.ownsRow_nil _ _ _ _
  have hsz1 : W0.heap.size ≤ W1.heap.size := HB1.out.size
  have HQ1 : Hid (QAt W1.drew W0.heap.size (W0.heap.size + 1) (q0 W0.heap.size) (newM [] [] [] ent)) := h1.drew
  clear h1 hT x0
  generalize hP : W0.heap.size + 1 = P at *
  clear hP
  go_upto_region 2 with fail
  go_region_law
    (first
      | (revert HO1; intro HO1; refine step_append_lies _ rfl (.tmp 16) (.tmp 18) 22 rfl W0.heap.size 36 iN (.int .u32 0) 1 4 Tryz.underlying22 hN hN0 hN1 hN2 rfl (by decide) (.slice none 0 0) 0 [] rfl HO1.out a1 text.length c1 (iVals .u32 text) rfl HL1.out HC1.out HH1.out (by omega) (by unfold maxLen; omega) (by omega) (by simp; omega) W1.heap.size (by simp) ?_; intro g3 cap3 we hown hgrow hlie hlt3; rw [Nat.zero_add, List.nil_append] at hown; rw [Nat.zero_add]; have HG3 : Hid _ := hgrow; have HO3 : Hid _ := hown; have yD : we.cell? ⟨P, 0, none⟩ = some (.slice none 0 0) := (World.grownBy.cell hgrow (a := ⟨P, 0, none⟩) c0 (fun e => by cases e)); have fD : we.frozen? ⟨P, 0, none⟩ = false := box_fro ((hgrow.block P (QAt.lt HQ1.out) (fun e => by cases e)).trans (QAt.box HQ1.out)) 0; clear hown hgrow hlie))
  all_goals (
    have HG4 : Hid (W1.drew.grownBy we none) := ⟨HG3.out.os, HG3.out.tape, HG3.out.output, HG3.out.size, HG3.out.block⟩
    have h2 : Hid (QAt (we.setCell ⟨P, 0, none⟩ (.slice (some ⟨g3, 0, none⟩) text.length cap3)) W0.heap.size P _ (newM text [] [] ent)) := QAt.addText HQ1.out HG4.out HO3.out
    have HB2 : Hid (Below W0.heap.size W0 (we.setCell ⟨P, 0, none⟩ (.slice (some ⟨g3, 0, none⟩) text.length cap3))) := (Below.grown (Below.drew HB1.out) HG4.out hsz1 (fun k e => by cases e)).setCell (p := ⟨P, 0, none⟩) HPb.out _
    clear HG3 HG4 HO3 HO1 HC1 HH1 HL1 yD fD HQ1 HB1 y0 c0 hsz1 iN hN hN0 hN1 hN2
    have c5 : (we.setCell ⟨P, 0, none⟩ (.slice (some ⟨g3, 0, none⟩) text.length cap3)).cell? ⟨P, 5, none⟩ = some (.slice none 0 0) := h2.out.cells.2.2.2.2.2.1
    have f5 := h2.out.fro 5
    have HXN : Hid ((Value.slice ((q0 W0.heap.size).atT (some ⟨g3, 0, none⟩) cap3).X (newM text [] [] ent).tape.length ((q0 W0.heap.size).atT (some ⟨g3, 0, none⟩) cap3).xc).ownBlock = none) := rfl
    generalize QLoc.atT (q0 W0.heap.size) (some ⟨g3, 0, none⟩) cap3 = s2 at *
    generalize (we.setCell ⟨P, 0, none⟩ (.slice (some ⟨g3, 0, none⟩) text.length cap3)) = W2 at *
    go_upto_region 3 with fail
    have hlt2 := h2.out.lt
    have hsz2 : W0.heap.size ≤ W2.heap.size := HB2.out.size
    go_cut [30] (fun x wx => Hid (∃ s, QAt wx W0.heap.size P s (newM text tape [] ent)) ∧ Hid (Below W0.heap.size W0 wx))
    case first =>
      obtain ⟨i0, hi, hz0, hz1, hz2⟩ := infoL
      cases A3 with
      | none =>
        have hx0 : tape = [] := by
          cases tape with
          | nil => rfl
          | cons x t => obtain ⟨a, e, _⟩ := hX 0 (by simp); cases e
        subst hx0
        obtain rfl := h3 rfl
        have hr := run_append_owned_none (P := Tryz.prog) (w := W2) W0.heap.size 23 23 2 i0 1 Tryz.underlying23 hi (.slice none 0 0) 0 [] (World.ownsRow_nil W2 _ _ _)
        have h8 : Hid (∃ s, QAt (W2.setCell ⟨P, 5, none⟩ (.slice none 0 0)) W0.heap.size P s (newM text [] [] ent)) := ⟨_, QAt.addTape (l := []) h2.out (w' := W2) (A := none) (c := 0) (HXN.out ▸ World.grownBy.refl W2 _) (World.ownsRow_nil _ _ _ _)⟩
        go_wp2_with fail
        go_meet
        exact ⟨h8, HB2.out.setCell (p := ⟨P, 5, none⟩) HPb.out _⟩
      | some a =>
        have HC : Hid (∀ j u, (iVals .i64 tape)[j]? = some u → W2.cell? (a.add j) = some u) := fun j u hu => by
          have hj : j < tape.length := by have := (List.getElem?_eq_some_iff.1 hu).1; simpa [iVals] using this
          obtain ⟨b, e, c⟩ := hX j hj
          cases e
          rw [iVals_get hj] at hu
          cases hu
          exact lkeep HB2.out c
        have H1 : Hid (∀ u ∈ iVals .i64 tape, u.oneCell' = true) := fun u hu => by
          obtain ⟨i, _, rfl⟩ := List.mem_map.1 hu
          rfl
        have HL : Hid ((iVals .i64 tape).length = tape.length * 1) := by simp [Hid, iVals]
        clear hX
        go_wp2_with (at_builtin; refine wpList_append_own _ rfl (.tmp 26) (.tmp 27) 23 rfl W0.heap.size 2 i0 (.int .i64 0) 1 8 Tryz.underlying23 hi hz0 hz1 hz2 rfl (by decide) (.slice none 0 0) 0 [] rfl (World.ownsRow_nil W2 _ _ _) a tape.length c3 (iVals .i64 tape) rfl HL.out HC.out H1.out (by unfold maxLen; omega) (by omega) hsz2 ?_; intro v' w' hown hgrow hnil; have HO : Hid (w'.ownsRow W0.heap.size 2 1 v' tape.length (iVals .i64 tape)) := (by have e := hown; rw [Nat.zero_add, List.nil_append] at e; exact e); obtain ⟨A4, c4, e4⟩ := own_form HO.out; subst e4; have HG : Hid (W2.grownBy w' none) := hgrow; have k1 : w'.cell? ⟨P, 5, none⟩ = some (.slice none 0 0) := hgrow.cell c5 (fun e => by cases e); have k2 : w'.frozen? ⟨P, 5, none⟩ = false := (World.grownBy.frozen_far hgrow ⟨P, 5, none⟩ hlt2 (fun e => by cases e)).trans f5; clear hown hgrow hnil)
        have h8 : Hid (∃ s, QAt (w'.setCell ⟨P, 5, none⟩ (.slice A4 tape.length c4)) W0.heap.size P s (newM text tape [] ent)) := ⟨_, QAt.addTape h2.out (by have e := HG.out; rw [← HXN.out] at e; exact e) HO.out⟩
        have HB8 : Hid (Below W0.heap.size W0 w') := Below.grown HB2.out HG.out HB2.out.size (fun k e => by cases e)
        go_meet
        exact ⟨h8, HB8.out.setCell (p := ⟨P, 5, none⟩) HPb.out _⟩
    case rest =>
      clear c5 f5 hlt2 hsz2 h2 HB2 hX
      obtain ⟨HP, HB⟩ := hcut
      obtain ⟨iW, hW, hW0, hW1, hW2⟩ := info_w
      have HZ : Hid (∃ s, QAt wc W0.heap.size P s (newM text tape (mem.take 0) ent)) := HP.out
      have y2 := lkeep HB.out x2
      go_wp2_with fail
      go_loopw [6] (fun i wr => ∃ (k : Nat), i = .int .i64 k ∧ k ≤ mem.length ∧ Hid (∃ s, QAt wr W0.heap.size P s (newM text tape (mem.take k) ent)) ∧ Hid (Below W0.heap.size W0 wr)) (fun i _ => mem.length - (intOf i).toNat)
      case atStart => exact ⟨0, rfl, Nat.zero_le _, HZ, HB⟩
      case round =>
        clear HZ HP HB y2
        obtain ⟨k, rfl, hk, HP, HB⟩ := hrel
        have y2 := lkeep HB.out x2
        by_cases hlt : k < mem.length
        · obtain ⟨s4, h4⟩ := HP.out
          obtain ⟨a, rfl, q⟩ := (hM.keep HB.out) k hlt
          have hkl : (memW (mem.take k)).length = k := by rw [memW, List.length_map, List.length_take]; omega
          have HSN : Hid (wVals (memW (mem.take (k + 1))) = wVals (memW (mem.take k)) ++ [.int .i64 (nth mem k), .bool false]) := by
            have e : memW (mem.take (k + 1)) = memW (mem.take k) ++ [(nth mem k, false)] := by
              rw [memW, memW, List.take_succ_eq_append_getElem hlt, List.map_append]; congr 1; simp [nth, List.getD, hlt]
            rw [Hid, e, wVals_snoc]
          generalize nth mem k = v at *
          have HT3 : Hid (QAt (wr.alloc (.cells #[.int .i64 v, .bool false] 71)).drew W0.heap.size P s4 (newM text tape (mem.take k) ent)) := (h4.alloc _).drew
          have HO2 : Hid ((wr.alloc (.cells #[.int .i64 v, .bool false] 71)).drew.ownsRow W0.heap.size 71 2 (.slice s4.M k s4.mc) k (wVals (memW (mem.take k)))) := by have e := HT3.out.mem; have e2 : (newM text tape (mem.take k) ent).mem = memW (mem.take k) := rfl; rw [e2, hkl] at e; exact e
          have cX : wr.cell? ⟨P, 7, none⟩ = some (.slice s4.M k s4.mc) := by have e := h4.cells.2.2.2.2.2.2.2.1; have e2 : (newM text tape (mem.take k) ent).mem = memW (mem.take k) := rfl; rw [e2, hkl] at e; exact e
          have cE : (wr.alloc (.cells #[.int .i64 v, .bool false] 71)).cell? ⟨P, 7, none⟩ = some (.slice s4.M k s4.mc) := lkeep (lb_alloc (Below.refl _ _) _) cX
          have HNw : Hid ((wr.alloc (.cells #[.int .i64 v, .bool false] 71)).drew.heap[wr.heap.size]? = some (.cells #[.int .i64 v, .bool false] 71 (0, 0))) := heap_alloc_new _ _
          have HK : Hid ((memW (mem.take k)).length = k ∧ (memW (mem.take (k + 1))).length = k + 1) := ⟨hkl, by rw [memW, List.length_map, List.length_take]; omega⟩
          have HSz2 : Hid (W0.heap.size ≤ wr.heap.size) := HB.out.size
          clear hkl HP h4
          go_upto_region 7 with fail
          go_region_law
            (first
              | (revert HO2; intro HO2; refine step_append_lies _ rfl (.tmp 42) (.tmp 49) 65 rfl W0.heap.size 71 iW (.agg #[.int .i64 0, .bool false]) 2 16 Tryz.underlying65 hW hW0 hW1 hW2 rfl (by decide) (.slice s4.M k s4.mc) k (wVals (memW (mem.take k))) rfl HO2.out ⟨wr.heap.size, 0, none⟩ 1 1 [.int .i64 v, .bool false] rfl rfl (fun j u hu => World.news_of_block HNw.out j u hu) (by simp [Value.oneCell']) (by omega) (by unfold maxLen; omega) (by omega) (by have := HSz2.out; simp; omega) (wr.heap.size + 1) (by simp) ?_; intro g4 cap4 we hown hgrow hlie hlt3; have HG3 : Hid _ := hgrow; have HO3 : Hid _ := hown; have HL3 : Hid _ := hlie; have hPV : some P ≠ (.slice s4.M k s4.mc : Value).ownBlock := (fun e => own_ne HO2.out e.symm (QAt.box HT3.out) (by decide) rfl); have yD : we.cell? ⟨P, 7, none⟩ = some (.slice s4.M k s4.mc) := World.grownBy.cell hgrow (a := ⟨P, 7, none⟩) cE hPV; have fD : we.frozen? ⟨P, 7, none⟩ = false := box_fro ((hgrow.block P (QAt.lt HT3.out) hPV).trans (QAt.box HT3.out)) 7; clear hown hgrow hlie hPV))
          all_goals (
            have HG4 : Hid ((wr.alloc (.cells #[.int .i64 v, .bool false] 71)).drew.grownBy we (.slice s4.M k s4.mc : Value).ownBlock) := ⟨HG3.out.os, HG3.out.tape, HG3.out.output, HG3.out.size, HG3.out.block⟩
            have HO4 : Hid (we.ownsRow W0.heap.size 71 2 (.slice (some ⟨g4, 0, none⟩) (k + 1) cap4) (k + 1) (wVals (memW (mem.take (k + 1))))) := by have e := HO3.out; rw [HSN.out]; exact e
            have HB4 : Hid (Below W0.heap.size W0 we) := Below.grown (Below.drew (lb_alloc HB.out _)) HG4.out (by have := HSz2.out; simp; omega) (fun b e => (HO2.out.lt b e).1)
            have HQ : Hid (∃ s, QAt (we.setCell ⟨P, 7, none⟩ (.slice (some ⟨g4, 0, none⟩) (k + 1) cap4)) W0.heap.size P s (newM text tape (mem.take (k + 1)) ent)) := by
              have e := QAt.addWord (l := memW (mem.take (k + 1))) HT3.out (w' := we) (g := g4) (c := cap4) (by have e := HG4.out; rw [← HK.out.1] at e; exact e) (by rw [HK.out.2]; exact HO4.out) (by have e := HL3.out; rw [← HK.out.1] at e; exact e.imp id fun e => by rw [e]; simp)
              rw [HK.out.2] at e
              exact ⟨_, e⟩
            clear HG3 HG4 HO3 HO4 HL3 HT3 HO2 HNw cE yD fD
            go_wp2_with fail
            go_roundw
            case rel => exact ⟨k + 1, by go_num, by omega, HQ, HB4.out.setCell (p := ⟨P, 7, none⟩) HPb.out _⟩
            case measure => simp [intOf]; omega)
        · obtain rfl : k = mem.length := by omega
          rw [List.take_length] at HP
          obtain ⟨s4, h4⟩ := HP.out
          have HP2 : Hid (QAt wr w.heap.size P s4 (newM text tape mem ent)) := h4.mono HB0.out.size
          have HB2 : Hid (Below w.heap.size w wr) := lb_trans HB0.out HB.out
          clear h4 HP hk hlt
          go_wp2
          go_ret
          exact ⟨HB2.out, P, s4, rfl, HP2.out⟩)

end Go.Proofs.YtdlcejpfjlpclaaGreatDoor

namespace Go.Proofs.YtdlcejpfjlpclaaGreatDoor
open Go.RowKit

def WordsAt (w : World) (A : Option Addr) (l : List (Wd)) : Prop := ∀ i, i < l.length → ∃ a : Addr, A = some a ∧ w.cell? (a.add (i * 2)) = some (.int .i64 (wV l i)) ∧ w.cell? ((a.add (i * 2)).add 1) = some (.bool (wC l i))
theorem WordsAt.keep {w w1 : World} {A : Option Addr} {l : List (Wd)} (h : WordsAt w A l) (hb : Below w.heap.size w w1) : WordsAt w1 A l := fun i hi => by
  obtain ⟨a, e, h0, h1⟩ := h i hi
  exact ⟨a, e, lkeep hb h0, lkeep hb h1⟩
theorem row_w {w : World} {b : Nat} {e : TypeId} {A : Option Addr} {n c : Nat} {l : List (Wd)} (h : w.ownsRow b e 2 (.slice A n c) l.length (wVals l)) : WordsAt w A l := fun i hi => by
  obtain ⟨e0, e1⟩ := wVals_get hi
  have hl := wVals_len l
  rcases h.2 with ⟨e, e2⟩ | ⟨g, cap, cur, e, hb, hg, hc, _, hs, ht⟩
  · omega
  · simp only [Value.slice.injEq] at e
    have q : ∀ {j : Nat} {v : Value}, j < l.length * 2 → (wVals l)[j]? = some v → cur[j]? = some v := by
      intro j v hj hv
      rw [← ht, List.getElem?_take_of_lt hj] at hv
      simpa using hv
    refine ⟨⟨g, 0, none⟩, e.1, ?_, ?_⟩
    · rw [add_at]; exact box_at hg (by rw [Nat.zero_add]; exact q (by omega) e0)
    · rw [add_at, add_at]; exact box_at hg (by rw [Nat.zero_add]; exact q (by omega) e1)
set_option maxRecDepth 100000 in
set_option maxHeartbeats 1000000 in
theorem eq_w (A B : Option Addr) (ca cb : Nat) (l : List (Wd)) (w : World) (hA : WordsAt w A l) (hB : WordsAt w B l) (hz : l.length ≤ 1048576) :
    Calls Tryz.prog 37 #[.slice A l.length ca, .slice B l.length cb] w fun e w' => e = .returned (.bool true) ∧ Below w.heap.size w w' := by
  go_enter Tryz.func37, Tryz.ntmps37
  go_wp2
  go_loopw [5] (fun i wr => ∃ (k j : Nat), i = .int .i64 k ∧ k ≤ l.length ∧ wr = w.drewN j) (fun i _ => l.length - (intOf i).toNat)
  case atStart => exact ⟨0, 0, rfl, by omega, rfl⟩
  case round =>
    obtain ⟨k, j, rfl, hk, rfl⟩ := hrel
    by_cases hlt : k < l.length
    · obtain ⟨a, rfl, c0, c1⟩ := hA k hlt
      obtain ⟨b, rfl, d0, d1⟩ := hB k hlt
      have hlt2 : (k : Int) < (l.length : Int) := by omega
      have p1 : w.cell? (⟨(a.add (k * 2)).block, (a.add (k * 2)).off + 1, none⟩) = some (.bool (wC l k)) := c1
      have q1 : w.cell? (⟨(b.add (k * 2)).block, (b.add (k * 2)).off + 1, none⟩) = some (.bool (wC l k)) := d1
      clear c1 d1
      go_wp2_with fail
      go_quiet (fail)
      go_wp2
      go_roundw
      case rel => exact ⟨k + 1, _, by go_num, by omega, rfl⟩
      case measure => simp [intOf]; omega
    · go_wp2
      go_ret
      exact ⟨rfl, below_drewN (Below.refl _ _) _⟩

def PortsAt (w : World) (A : Option Addr) (l : List (Int × Int)) : Prop := ∀ i, i < l.length → ∃ a : Addr, A = some a ∧ w.cell? (a.add (i * 2)) = some (.int .i64 (rAt l i)) ∧ w.cell? ((a.add (i * 2)).add 1) = some (.int .i64 (rSym l i))
theorem PortsAt.keep {w w1 : World} {A : Option Addr} {l : List (Int × Int)} (h : PortsAt w A l) (hb : Below w.heap.size w w1) : PortsAt w1 A l := fun i hi => by
  obtain ⟨a, e, h0, h1⟩ := h i hi
  exact ⟨a, e, lkeep hb h0, lkeep hb h1⟩
theorem row_p {w : World} {b : Nat} {e : TypeId} {A : Option Addr} {n c : Nat} {l : List (Int × Int)} (h : w.ownsRow b e 2 (.slice A n c) l.length (pVals l)) : PortsAt w A l := fun i hi => by
  obtain ⟨e0, e1⟩ := pVals_get hi
  have hl := pVals_len l
  rcases h.2 with ⟨e, e2⟩ | ⟨g, cap, cur, e, hb, hg, hc, _, hs, ht⟩
  · omega
  · simp only [Value.slice.injEq] at e
    have q : ∀ {j : Nat} {v : Value}, j < l.length * 2 → (pVals l)[j]? = some v → cur[j]? = some v := by
      intro j v hj hv
      rw [← ht, List.getElem?_take_of_lt hj] at hv
      simpa using hv
    refine ⟨⟨g, 0, none⟩, e.1, ?_, ?_⟩
    · rw [add_at]; exact box_at hg (by rw [Nat.zero_add]; exact q (by omega) e0)
    · rw [add_at, add_at]; exact box_at hg (by rw [Nat.zero_add]; exact q (by omega) e1)
set_option maxRecDepth 100000 in
set_option maxHeartbeats 1000000 in
theorem eq_p (A B : Option Addr) (ca cb : Nat) (l : List (Int × Int)) (w : World) (hA : PortsAt w A l) (hB : PortsAt w B l) (hz : l.length ≤ 1048576) :
    Calls Tryz.prog 38 #[.slice A l.length ca, .slice B l.length cb] w fun e w' => e = .returned (.bool true) ∧ Below w.heap.size w w' := by
  go_enter Tryz.func38, Tryz.ntmps38
  go_wp2
  go_loopw [5] (fun i wr => ∃ (k j : Nat), i = .int .i64 k ∧ k ≤ l.length ∧ wr = w.drewN j) (fun i _ => l.length - (intOf i).toNat)
  case atStart => exact ⟨0, 0, rfl, by omega, rfl⟩
  case round =>
    obtain ⟨k, j, rfl, hk, rfl⟩ := hrel
    by_cases hlt : k < l.length
    · obtain ⟨a, rfl, c0, c1⟩ := hA k hlt
      obtain ⟨b, rfl, d0, d1⟩ := hB k hlt
      have hlt2 : (k : Int) < (l.length : Int) := by omega
      have p1 : w.cell? (⟨(a.add (k * 2)).block, (a.add (k * 2)).off + 1, none⟩) = some (.int .i64 (rSym l k)) := c1
      have q1 : w.cell? (⟨(b.add (k * 2)).block, (b.add (k * 2)).off + 1, none⟩) = some (.int .i64 (rSym l k)) := d1
      clear c1 d1
      go_wp2_with fail
      go_quiet (fail)
      go_wp2
      go_roundw
      case rel => exact ⟨k + 1, _, by go_num, by omega, rfl⟩
      case measure => simp [intOf]; omega
    · go_wp2
      go_ret
      exact ⟨rfl, below_drewN (Below.refl _ _) _⟩

end Go.Proofs.YtdlcejpfjlpclaaGreatDoor

namespace Go.Proofs.YtdlcejpfjlpclaaGreatDoor
open Go.RowKit

set_option maxRecDepth 100000 in
set_option maxHeartbeats 8000000 in
theorem alike_any {w : World} {b1 b2 P Q : Nat} {s : Loc} {t : QLoc} {m : Mach} (h : PAt w b1 P s m) (q : QAt w b2 Q t m) (hm : Fine m) (hn : m.steps ≤ 1048576) :
    Calls Tryz.prog 13 #[.pointer (some ⟨P, 0, none⟩), .pointer (some ⟨Q, 0, none⟩)] w fun e w' => e = .returned (.bool true) ∧ Below w.heap.size w w' := by
  obtain ⟨-, d1, d2, d3, d4, -, d6, d7, d8⟩ := q.cells
  have HP : Hid (PAt w b1 P s m) := h
  have HQ : Hid (QAt w b2 Q t m) := q
  have hz := hm.sixteen
  clear h q
  go_enter Tryz.func13, Tryz.ntmps13
  go_upto_region 1 with fail
  have hWW := Below.refl w.heap.size w
  have hPd : PAt w.drew b1 P s m := HP.out.drew
  go_region_held3 (fun W => Below w.heap.size w W ∧ W.cell? ⟨Q, 1, none⟩ = some (.int .i64 m.pc) ∧ W.cell? ⟨Q, 2, none⟩ = some (.int .i8 m.status) ∧ W.cell? ⟨Q, 3, none⟩ = some (.int .i64 m.steps) ∧ W.cell? ⟨Q, 4, none⟩ = some (.int .i64 m.taken))
    (first | (refine ⟨?_, lkeep ?_ d1, lkeep ?_ d2, lkeep ?_ d3, lkeep ?_ d4⟩ <;> ((repeat (first | assumption | exact (‹Below _ _ _ ∧ _›).1 | apply Below.drew | apply lb_alloc | apply lb_new)); done)))
    (first
      | (go_at_call 30; refine (status_yes (w := w.drew) hPd hm).mono ?_; rintro e w1 ⟨rfl, rfl⟩)
      | (go_at_call 22; refine (at_yes (w := w.drew) hPd hm).mono ?_; rintro e w1 ⟨rfl, rfl⟩)
      | (go_at_call 35; refine (steps_yes (w := w.drew) hPd hm).mono ?_; rintro e w1 ⟨rfl, rfl⟩)
      | (go_at_call 36; refine (taken_yes (w := w.drew) hPd hm).mono ?_; rintro e w1 ⟨rfl, rfl⟩))
  rename_i hS
  clear hS hPd d1 d2 d3 d4 hWW
  have HB1 : Hid (Below w.heap.size w w.drew) := Below.drew (Below.refl _ _)
  go_wp2_with fail
  go_loopw [5] (fun i wr => ∃ (k : Nat), i = .int .i64 k ∧ k ≤ 16 ∧ Hid (Below w.heap.size w wr)) (fun i _ => 16 - (intOf i).toNat)
  case atStart => exact ⟨0, rfl, by omega, HB1⟩
  case round =>
    clear HB1
    obtain ⟨k, rfl, hk, HB⟩ := hrel
    by_cases hlt : k < 16
    · have C := register_yes (HP.out.keep HB.out) hm k hlt
      obtain ⟨r0, r1, -, -⟩ := HQ.out.reg hz hlt
      have hQl := HQ.out.lt
      have hRl : t.R < w.heap.size := World.block_lt_of_cell? w _ r0
      have hkk : (k : Int) < 16 := by omega
      go_upto_region 7 with (first
        | (go_at_call 20; refine C.mono ?_; rintro e w1 ⟨rfl, hb⟩; have HB2 : Hid (Below w.heap.size w w1) := lb_trans HB.out hb; clear hb; have e6 := lkeep HB2.out d6; have e0 := lkeep HB2.out r0; have e1 := lkeep HB2.out r1; have hQ1 : Q < w1.heap.size := Nat.lt_of_lt_of_le hQl HB2.out.size; have hR1 : t.R < w1.heap.size := Nat.lt_of_lt_of_le hRl HB2.out.size))
      clear C r0 r1 hQl hRl
      have HB3 : Hid (Below w.heap.size w (w1.alloc (.cells #[.int .i64 (wV m.regs k), .bool (wC m.regs k)] 71))) := lb_alloc HB2.out _
      have n0 : (w1.alloc (.cells #[.int .i64 (wV m.regs k), .bool (wC m.regs k)] 71)).cell? ⟨w1.heap.size, 0, none⟩ = some (.int .i64 (wV m.regs k)) := box_at (heap_alloc_new _ _) rfl
      have n1 : (w1.alloc (.cells #[.int .i64 (wV m.regs k), .bool (wC m.regs k)] 71)).cell? ⟨w1.heap.size, 1, none⟩ = some (.bool (wC m.regs k)) := box_at (heap_alloc_new _ _) rfl
      replace e6 := lkeep (lb_alloc (Below.refl w1.heap.size w1) (.cells #[.int .i64 (wV m.regs k), .bool (wC m.regs k)] 71)) e6
      replace e0 := lkeep (lb_alloc (Below.refl w1.heap.size w1) (.cells #[.int .i64 (wV m.regs k), .bool (wC m.regs k)] 71)) e0
      replace e1 := lkeep (lb_alloc (Below.refl w1.heap.size w1) (.cells #[.int .i64 (wV m.regs k), .bool (wC m.regs k)] 71)) e1
      clear hQ1 hR1 HB2
      generalize (w1.alloc (.cells #[.int .i64 (wV m.regs k), .bool (wC m.regs k)] 71)) = W2 at *
      generalize w1.heap.size = B at *
      generalize wV m.regs k = V at *
      generalize wC m.regs k = C at *
      go_quiet (fail)
      go_wp2
      go_roundw
      case rel => exact ⟨k + 1, by go_num, by omega, below_drewN HB3.out _⟩
      case measure => simp [intOf]; omega
    · have d7 := lkeep HB.out d7
      obtain ⟨A8, c8, e8⟩ := own_form HQ.out.ports
      rw [e8] at d8
      have d8 := lkeep HB.out d8
      have HPw : Hid (PAt wr b1 P s m) := HP.out.keep HB.out
      have HPr : Hid (PAt wr.drew b1 P s m) := (HP.out.keep HB.out).drew
      have HMr : Hid (WordsAt wr t.M m.mem) := (row_w HQ.out.mem).keep HB.out
      have HVr : Hid (PortsAt wr A8 m.ports) := (row_p (b := b2) (e := 100) (n := m.ports.length) (c := c8) (by have e := HQ.out.ports; rw [e8] at e; exact e)).keep HB.out
      have HBr : Hid (Below wr.heap.size wr wr) := Below.refl _ _
      go_upto_region 9 with fail
      have hWW := Below.refl wr.heap.size wr
      go_region_held3 (fun W => Below wr.heap.size wr W ∧ W.cell? ⟨Q, 7, none⟩ = some (.slice t.M m.mem.length t.mc) ∧ W.cell? ⟨Q, 8, none⟩ = some (.slice A8 m.ports.length c8))
        (first | (refine ⟨?_, lkeep ?_ d7, lkeep ?_ d8⟩ <;> ((repeat (first | assumption | exact (‹Below _ _ _ ∧ _›).1 | apply Below.drew | apply lb_alloc | apply lb_new)); done)))
        (first
          | (go_at_call 17; refine (memory_yes (w := wr.drew) HPr.out hm hn).mono ?_; rintro e w2 ⟨v2, rfl, ho2, hb2⟩; obtain ⟨A2, c2, e2⟩ := own_form ho2; subst e2; have hw2 : Below wr.heap.size wr w2 := lb_trans (Below.drew (Below.refl _ _)) hb2; have HW2 : Hid (WordsAt w2 A2 m.mem) := row_w ho2; clear ho2 hb2)
          | (go_at_call 37; refine (eq_w A2 t.M c2 t.mc m.mem _ HW2.out (WordsAt.keep HMr.out hw2) (Nat.le_trans hm.mlen (by decide))).mono ?_; rintro e w3 ⟨rfl, hb3⟩; have hw3 : Below wr.heap.size wr w3 := lb_trans hw2 hb3; clear hb3)
          | (go_at_call 19; refine (ports_yes (w := w3) (PAt.keep HPw.out hw3) hm hn).mono ?_; rintro e w4 ⟨v4, rfl, ho4, hb4⟩; obtain ⟨A4, c4, e4⟩ := own_form ho4; subst e4; have hw4 : Below wr.heap.size wr w4 := lb_trans hw3 hb4; have HW4 : Hid (PortsAt w4 A4 m.ports) := row_p ho4; clear ho4 hb4)
          | (go_at_call 38; refine (eq_p A4 A8 c4 c8 m.ports _ HW4.out (PortsAt.keep HVr.out hw4) (by have := hm.ports; omega)).mono ?_; rintro e w5 ⟨rfl, hb5⟩; have hw5 : Below wr.heap.size wr w5 := lb_trans hw4 hb5; clear hb5))
      all_goals (
        rename_i hS
        clear hS
        go_wp2
        go_ret
        exact ⟨rfl, lb_trans HB.out hw5⟩)

end Go.Proofs.YtdlcejpfjlpclaaGreatDoor
