/-
  New of package machine. Two machines that lie apart. alike: two runs, step by step. Rows of sets of registers in memory.
-/
import Derived.Test.YtfnicgihpelhhaaGreatProg
import Derived.WalkKit
import Derived.WalkSpells
import Derived.WalkLawsBesides
import Derived.RowKit3
import Derived.Below
import Derived.Deep.QuietTactic
import Derived.BigQuiet
import Derived.WalkSmall
import Derived.Laws.Rows
import Derived.Deep.RegionLaw
import Derived.Deep.AppendLies
import Derived.Deep.DeepCutAuto
import Derived.Laws.OwnMore
import Derived.Deep.RegionHeld3
import Derived.Laws.Pointers
import Derived.Outline
import Derived.StillTactics
import Derived.Test.YtfnicgihpelhhaaGreatPd31
import Derived.Test.YtfnicgihpelhhaaGreatPd23
import Derived.Test.YtfnicgihpelhhaaGreatPd22
import Derived.Test.YtfnicgihpelhhaaGreatPd18
import Derived.Test.YtfnicgihpelhhaaGreatPd19
namespace Go.Proofs.YtfnicgihpelhhaaGreat
open Go.RowKit

theorem infoLong : ∃ i, Tryz.prog.info? 2 = some i ∧ i.zero = some (.int .i64 0) ∧ i.size = 1 ∧ i.bytes = 8 :=
  ⟨(Tryz.prog.info? 2).get (by kernel_rfl), by kernel_rfl, by kernel_rfl, by kernel_rfl, by kernel_rfl⟩
theorem box0 (ent : Int) : boxM s0 (newM [] [] [] ent) = #[.slice none 0 0, .slice none 0 0, .int .i64 0, .bool false, .int .i64 0, .bool false, .int .i64 0, .bool false, .int .i64 0, .bool false, .int .i64 0, .bool false, .int .i64 0, .bool false, .int .i64 0, .bool false, .int .i64 0, .bool false, .int .i64 0, .bool false, .int .i64 0, .bool false, .int .i64 0, .bool false, .int .i64 0, .bool false, .int .i64 0, .bool false, .int .i64 0, .bool false, .int .i64 0, .bool false, .int .i64 0, .bool false, .slice none 0 0, .slice none 0 0, .int .i64 (ent.toNat : Int), .int .i64 0, .int .i64 0, .int .i8 0] := by kernel_rfl
theorem infoIns : ∃ i, Tryz.prog.info? 50 = some i ∧ i.zero = some (.agg #[.int .i8 0, .int .i8 0, .int .i8 0, .int .i8 0, .int .i64 0]) ∧ i.size = 5 ∧ i.bytes = 16 :=
  ⟨(Tryz.prog.info? 50).get (by kernel_rfl), by kernel_rfl, by kernel_rfl, by kernel_rfl, by kernel_rfl⟩
def memW (l : List Int) : List Wd := l.map (fun v => (v, false))
theorem PAt.mono {w : World} {b b' P : Nat} {s : Loc} {m : Mach} (h : PAt w b P s m) (hb : b' ≤ b) : PAt w b' P s m :=
  ⟨h.box, Nat.le_trans hb h.bP, ownsRow_mono h.text hb, ownsRow_mono h.tape hb, ownsRow_mono h.mem hb, ownsRow_mono h.ports hb⟩
/-- New's error. -/
def newE (text tape mem : List Int) (ent : Int) : Int := if (checkI text mem.length ent).1 = 0 then (if 4096 < tape.length then 21 else 0) else (checkI text mem.length ent).1
def NewP (w : World) (text tape mem : List Int) (ent : Int) (e : Ending) (w' : World) : Prop :=
  Below w.heap.size w w' ∧ ((¬ newE text tape mem ent = 0 ∧ e = .returned (.tuple #[.pointer none, .int .i64 (newE text tape mem ent)])) ∨
    (newE text tape mem ent = 0 ∧ ∃ P s, e = .returned (.tuple #[.pointer (some ⟨P, 0, none⟩), .int .i64 0]) ∧ PAt w' w.heap.size P s (newM text tape mem ent)))
theorem new_no {w w' : World} {text tape mem : List Int} {ent E : Int} (h : newE text tape mem ent = E) (hE : ¬ E = 0) (hb : Below w.heap.size w w') : NewP w text tape mem ent (.returned (.tuple #[.pointer none, .int .i64 E])) w' := by
  subst h
  exact ⟨hb, .inl ⟨hE, rfl⟩⟩
set_option maxRecDepth 100000 in
set_option maxHeartbeats 8000000 in
theorem new_any (A1 A2 A3 : Option Addr) (c1 c2 c3 : Nat) (ent : Int) (text mem tape : List Int) (w : World) (hT : IntsAt w A1 .u32 text) (hM : IntsAt w A2 .i64 mem) (hX : IntsAt w A3 .i64 tape) (hR : ∀ i, i < text.length → 0 ≤ nth text i ∧ nth text i < 4294967296) (hl : text.length ≤ 1048576) (hml : mem.length ≤ 1048576) (hxl : tape.length ≤ maxLen) (h3 : A3 = none → c3 = 0) :
    Calls Tryz.prog 18 #[.agg #[.slice A1 text.length c1, .int .i64 ent, .slice A2 mem.length c2], .slice A3 tape.length c3] w (NewP w text tape mem ent) := by
  obtain ⟨W0, HW0⟩ : ∃ W0, Hid (w.alloc (.cells #[.slice A1 text.length c1, .int .i64 ent, .slice A2 mem.length c2] 25) = W0) := ⟨_, rfl⟩
  have HB0 : Hid (Below w.heap.size w W0) := by unfold Hid; rw [← HW0.out]; exact lb_alloc (Below.refl _ _) _
  have x0 : W0.cell? ⟨w.heap.size, 0, none⟩ = some (.slice A1 text.length c1) := by rw [← HW0.out]; simp [go_sem]
  have x1 : W0.cell? ⟨w.heap.size, 1, none⟩ = some (.int .i64 ent) := by rw [← HW0.out]; simp [go_sem]
  have x2 : W0.cell? ⟨w.heap.size, 2, none⟩ = some (.slice A2 mem.length c2) := by rw [← HW0.out]; simp [go_sem]
  replace hT := hT.keep HB0.out
  replace hM := hM.keep HB0.out
  replace hX := hX.keep HB0.out
  have C1 := check_any A1 A2 c1 mem.length c2 ent text W0 hT hR hl hml
  unfold maxLen at hxl
  by_cases hE : (checkI text mem.length ent).1 = 0
  · by_cases hx : 4096 < tape.length
    · have HE : Hid (newE text tape mem ent = 21) := by unfold Hid newE; rw [if_pos hE, if_pos hx]
      rw [hE] at C1
      have hx2 : (4096 : Int) < (tape.length : Int) := by omega
      go_enter Tryz.func18, Tryz.ntmps18
      go_upto_region 1 with fail
      rw [HW0.out]
      go_wp2_with (first
        | (go_at_call 35; refine C1.mono ?_; rintro e w1 ⟨rfl, hb⟩))
      go_ret2
      exact new_no HE.out (by decide) (lb_trans HB0.out hb)
    · have HE : Hid (newE text tape mem ent = 0) := by unfold Hid newE; rw [if_pos hE, if_neg hx]
      have HMy := check_mayI hE
      have HEN : Hid ((ent.toNat : Int) = ent) := Int.toNat_of_nonneg HMy.past.ent0
      have HMy : Hid _ := HMy
      rw [hE] at C1
      have hx2 : ¬ (4096 : Int) < (tape.length : Int) := by omega
      go_enter Tryz.func18, Tryz.ntmps18
      go_upto_region 1 with fail
      rw [HW0.out]
      clear HW0
      go_upto_region 7 with (first
        | (go_at_call 35; refine C1.mono ?_; rintro e w1 ⟨rfl, hb⟩; have y1 : w1.cell? ⟨w.heap.size, 1, none⟩ = some (.int .i64 ent) := lkeep hb x1))
      obtain ⟨W7, HW⟩ : ∃ W7, Hid (w1.alloc (.cells (boxM s0 (newM [] [] [] ent)) 87) = W7) := ⟨_, rfl⟩
      have h7 : PAt W7 W0.heap.size w1.heap.size s0 (newM [] [] [] ent) := by rw [← HW.out]; exact PAt.first hb.size
      have HB7 : Hid (Below W0.heap.size W0 W7) := by unfold Hid; rw [← HW.out]; exact lb_alloc hb _
      have HPb : Hid (W0.heap.size ≤ w1.heap.size) := hb.size
      have HW2 : (w1.alloc (.cells #[.slice none 0 0, .slice none 0 0, .int .i64 0, .bool false, .int .i64 0, .bool false, .int .i64 0, .bool false, .int .i64 0, .bool false, .int .i64 0, .bool false, .int .i64 0, .bool false, .int .i64 0, .bool false, .int .i64 0, .bool false, .int .i64 0, .bool false, .int .i64 0, .bool false, .int .i64 0, .bool false, .int .i64 0, .bool false, .int .i64 0, .bool false, .int .i64 0, .bool false, .int .i64 0, .bool false, .int .i64 0, .bool false, .slice none 0 0, .slice none 0 0, .int .i64 ent, .int .i64 0, .int .i64 0, .int .i8 0] 87)) = W7 := by rw [← HW.out, box0, HEN.out]
      rw [HW2]
      clear HW HW2 y1 hb C1
      generalize w1.heap.size = P at *
      have c1' : W7.cell? ⟨P, 1, none⟩ = some (.slice none 0 0) := (h7.cells rfl).2.1
      have f1' := h7.fro 1
      have hlt7 := h7.lt
      have hsz7 : W0.heap.size ≤ W7.heap.size := HB7.out.size
      go_cut [36] (fun x wx => Hid (∃ s, PAt wx W0.heap.size P s (newM [] tape [] ent)) ∧ Hid (Below W0.heap.size W0 wx))
      case first =>
        obtain ⟨i0, hi, hz0, hz1, hz2⟩ := infoLong
        cases A3 with
        | none =>
          have hx0 : tape = [] := by
            cases tape with
            | nil => rfl
            | cons x t => obtain ⟨a, e, _⟩ := hX 0 (by simp); cases e
          subst hx0
          obtain rfl := h3 rfl
          have hr := run_append_owned_none (P := Tryz.prog) (w := W7) W0.heap.size 23 23 2 i0 1 Tryz.underlying23 hi (.slice none 0 0) 0 [] (World.ownsRow_nil W7 _ _ _)
          have h8 := h7.addTape (w' := W7) (A := none) (c := 0) (l := []) (World.grownBy.refl W7 _) (World.ownsRow_nil _ _ _ _)
          go_wp2_with fail
          go_meet
          exact ⟨⟨_, h8⟩, HB7.out.setCell (p := ⟨P, 1, none⟩) HPb.out _⟩
        | some a =>
          have HC : Hid (∀ j u, (iVals .i64 tape)[j]? = some u → W7.cell? (a.add j) = some u) := fun j u hu => by
            have hj : j < tape.length := by have := (List.getElem?_eq_some_iff.1 hu).1; simpa [iVals] using this
            obtain ⟨b, e, c⟩ := hX j hj
            cases e
            rw [iVals_get hj] at hu
            cases hu
            exact lkeep HB7.out c
          have H1 : Hid (∀ u ∈ iVals .i64 tape, u.oneCell' = true) := fun u hu => by
            obtain ⟨i, _, rfl⟩ := List.mem_map.1 hu
            rfl
          have HL : Hid ((iVals .i64 tape).length = tape.length * 1) := by simp [Hid, iVals]
          clear hX
          go_wp2_with (at_builtin; refine wpList_append_own _ rfl (.tmp 32) (.tmp 33) 23 rfl W0.heap.size 2 i0 (.int .i64 0) 1 8 Tryz.underlying23 hi hz0 hz1 hz2 rfl (by decide) (.slice none 0 0) 0 [] rfl (World.ownsRow_nil W7 _ _ _) a tape.length c3 (iVals .i64 tape) rfl HL.out HC.out H1.out (by unfold maxLen; omega) (by omega) hsz7 ?_; intro v' w' hown hgrow hnil; have HO : Hid (w'.ownsRow W0.heap.size 2 1 v' tape.length (iVals .i64 tape)) := (by have e := hown; rw [Nat.zero_add, List.nil_append] at e; exact e); obtain ⟨A4, c4, e4⟩ := own_form HO.out; subst e4; have HG : Hid (W7.grownBy w' none) := hgrow; have k1 : w'.cell? ⟨P, 1, none⟩ = some (.slice none 0 0) := hgrow.cell c1' (fun e => by cases e); have k2 : w'.frozen? ⟨P, 1, none⟩ = false := (World.grownBy.frozen_far hgrow ⟨P, 1, none⟩ hlt7 (fun e => by cases e)).trans f1'; clear hown hgrow hnil)
          have h8 : Hid _ := h7.addTape HG.out HO.out
          have HB8 : Hid (Below W0.heap.size W0 w') := Below.grown HB7.out HG.out HB7.out.size (fun k e => by cases e)
          go_meet
          exact ⟨⟨_, h8.out⟩, HB8.out.setCell (p := ⟨P, 1, none⟩) HPb.out _⟩
      case rest =>
        clear c1' f1' hlt7 hsz7 h7 HB7 hX
        obtain ⟨HP, HB⟩ := hcut
        obtain ⟨iN, hN, hN0, hN1, hN2⟩ := infoIns
        obtain ⟨iW, hW, hW0, hW1, hW2⟩ := info_w
        have y0 := lkeep HB.out x0
        have hlen := HMy.out.past.len
        have hmle := HMy.out.past.mem
        have HZ : Hid (∃ s, PAt wc W0.heap.size P s (newM (text.take 0) tape [] ent)) := HP.out
        go_wp2_with fail
        go_loopw [40] (fun i wr => ∃ (k : Nat), i = .int .i64 k ∧ k ≤ text.length ∧ Hid (∃ s, PAt wr W0.heap.size P s (newM (text.take k) tape [] ent)) ∧ Hid (Below W0.heap.size W0 wr)) (fun i _ => text.length - (intOf i).toNat)
        case atStart => exact ⟨0, rfl, Nat.zero_le _, HZ, HB⟩
        case round =>
          clear HZ HP HB y0
          obtain ⟨k, rfl, hk, HP, HB⟩ := hrel
          by_cases hlt : k < text.length
          · obtain ⟨s1, h1⟩ := HP.out
            obtain ⟨a, rfl, q⟩ := (hT.keep HB.out) k hlt
            obtain ⟨v0, v1⟩ := hR k hlt
            have C := isadecode_any (nth text k) v0 v1
            have hkl : (text.take k).length = k := by rw [List.length_take]; omega
            have HSN : Hid (nVals (text.take (k + 1)) = nVals (text.take k) ++ [.int .i8 (dOp (nth text k)), .int .i8 (dD (nth text k)), .int .i8 (dA (nth text k)), .int .i8 (dB (nth text k)), .int .i64 (dN (nth text k))]) := by rw [Hid, ← nVals_snoc]; congr 1; rw [List.take_succ_eq_append_getElem hlt]; simp [nth, List.getD, hlt]
            have HO : Hid (wr.ownsRow W0.heap.size 50 5 (.slice s1.T k s1.tc) k (nVals (text.take k))) := by have e := h1.text; simp only [newM, hkl] at e; exact e
            have cX : wr.cell? ⟨P, 0, none⟩ = some (.slice s1.T k s1.tc) := by have e := (h1.cells rfl).1; simp only [newM, hkl] at e; exact e
            have HK : Hid ((text.take k).length = k ∧ (text.take (k + 1)).length = k + 1) := ⟨hkl, by rw [List.length_take]; omega⟩
            clear hkl v0 v1 HP
            generalize dOp (nth text k) = op at *
            generalize dD (nth text k) = d at *
            generalize dA (nth text k) = a1 at *
            generalize dB (nth text k) = b at *
            generalize dN (nth text k) = n at *
            go_upto_region 11 with fail
            go_region_law
              (first
                | (revert HO2; intro HO2; refine step_append_lies _ rfl (.tmp 48) (.tmp 51) 80 rfl W0.heap.size 50 iN (.agg #[.int .i8 0, .int .i8 0, .int .i8 0, .int .i8 0, .int .i64 0]) 5 16 Tryz.underlying80 hN hN0 hN1 hN2 rfl (by decide) (.slice s1.T k s1.tc) k (nVals (text.take k)) rfl HO2.out ⟨wd.heap.size, 0, none⟩ 1 1 [.int .i8 op, .int .i8 d, .int .i8 a1, .int .i8 b, .int .i64 n] rfl rfl (fun j u hu => World.news_of_block HNw.out j u hu) (by simp [Value.oneCell']) (by omega) (by unfold maxLen; omega) (by omega) (by have := HSz2.out; simp; omega) (wd.heap.size + 1) (by simp) ?_; intro g3 cap3 we hown hgrow hlie hlt3; have HG3 : Hid _ := hgrow; have HO3 : Hid _ := hown; have hPV : some P ≠ (.slice s1.T k s1.tc : Value).ownBlock := (fun e => own_ne HO2.out e.symm (PAt.box HT3.out) (by decide) rfl); have yD : we.cell? ⟨P, 0, none⟩ = some (.slice s1.T k s1.tc) := World.grownBy.cell hgrow (a := ⟨P, 0, none⟩) cE hPV; have fD : we.frozen? ⟨P, 0, none⟩ = false := box_fro ((hgrow.block P (PAt.lt HT3.out) hPV).trans (PAt.box HT3.out)) 0; clear hown hgrow hlie hPV)
                | (go_simp; go_at_call 36; refine (C wr.drew).mono ?_; rintro e wd ⟨rfl, HBX⟩; have hb1 : Below wr.heap.size wr wd := lb_trans (Below.drew (Below.refl _ _)) HBX; clear HBX; have HT2 : Hid (PAt wd W0.heap.size P s1 (newM (text.take k) tape [] ent)) := PAt.keep h1 hb1; have HT3 : Hid (PAt (wd.alloc (.cells #[.int .i8 op, .int .i8 d, .int .i8 a1, .int .i8 b, .int .i64 n] 50)) W0.heap.size P s1 (newM (text.take k) tape [] ent)) := PAt.alloc HT2.out _; have HBd : Hid (Below W0.heap.size W0 wd) := lb_trans HB.out hb1; have HO2 : Hid ((wd.alloc (.cells #[.int .i8 op, .int .i8 d, .int .i8 a1, .int .i8 b, .int .i64 n] 50)).ownsRow W0.heap.size 50 5 (.slice s1.T k s1.tc) k (nVals (text.take k))) := row_keep HO.out (lb_alloc hb1 _); have HSz2 : Hid (W0.heap.size ≤ wd.heap.size) := HBd.out.size; have HNw : Hid ((wd.alloc (.cells #[.int .i8 op, .int .i8 d, .int .i8 a1, .int .i8 b, .int .i64 n] 50)).heap[wd.heap.size]? = some (.cells #[.int .i8 op, .int .i8 d, .int .i8 a1, .int .i8 b, .int .i64 n] 50 (0, 0))) := heap_alloc_new _ _; have cD : wd.cell? ⟨P, 0, none⟩ = some (.slice s1.T k s1.tc) := lkeep hb1 cX; have cE : (wd.alloc (.cells #[.int .i8 op, .int .i8 d, .int .i8 a1, .int .i8 b, .int .i64 n] 50)).cell? ⟨P, 0, none⟩ = some (.slice s1.T k s1.tc) := lkeep (lb_alloc (Below.refl _ _) _) cD; clear hb1))
            all_goals (
              have HG4 : Hid ((wd.alloc (.cells #[.int .i8 op, .int .i8 d, .int .i8 a1, .int .i8 b, .int .i64 n] 50)).grownBy we (.slice s1.T k s1.tc : Value).ownBlock) := ⟨HG3.out.os, HG3.out.tape, HG3.out.output, HG3.out.size, HG3.out.block⟩
              have HO4 : Hid (we.ownsRow W0.heap.size 50 5 (.slice (some ⟨g3, 0, none⟩) (k + 1) cap3) (k + 1) (nVals (text.take (k + 1)))) := by have e := HO3.out; rw [HSN.out]; exact e
              have HB4 : Hid (Below W0.heap.size W0 we) := Below.grown (lb_alloc HBd.out _) HG4.out (by have := HSz2.out; simp; omega) (fun b e => (HO2.out.lt b e).1)
              have HQ : Hid (∃ s, PAt (we.setCell ⟨P, 0, none⟩ (.slice (some ⟨g3, 0, none⟩) (k + 1) cap3)) W0.heap.size P s (newM (text.take (k + 1)) tape [] ent)) := by
                have e := PAt.addIns (l := text.take (k + 1)) HT3.out (w' := we) (A := some ⟨g3, 0, none⟩) (c := cap3) (by have e := HG4.out; rw [← HK.out.1] at e; exact e) (by rw [HK.out.2]; exact HO4.out)
                rw [HK.out.2] at e
                exact ⟨_, e⟩
              clear HG3 HG4 HO3 HO4 HT2 HT3 HO2 HNw cD cE yD fD
              go_wp2_with fail
              go_roundw
              case rel => exact ⟨k + 1, by go_num, by omega, HQ, HB4.out.setCell (p := ⟨P, 0, none⟩) HPb.out _⟩
              case measure => simp [intOf]; omega)
          · obtain rfl : k = text.length := by omega
            rw [List.take_length] at HP
            have y2 := lkeep HB.out x2
            have HZ : Hid (∃ s, PAt wr W0.heap.size P s (newM text tape (mem.take 0) ent)) := HP.out
            clear hk hlt hT
            go_wp2_with fail
            go_loopw [59] (fun i wr => ∃ (k : Nat), i = .int .i64 k ∧ k ≤ mem.length ∧ Hid (∃ s, PAt wr W0.heap.size P s (newM text tape (mem.take k) ent)) ∧ Hid (Below W0.heap.size W0 wr)) (fun i _ => mem.length - (intOf i).toNat)
            case atStart => exact ⟨0, rfl, Nat.zero_le _, HZ, HB⟩
            case round =>
              clear HZ HP HB y2
              obtain ⟨k, rfl, hk, HP, HB⟩ := hrel
              by_cases hlt : k < mem.length
              · obtain ⟨s1, h1⟩ := HP.out
                obtain ⟨a, rfl, q⟩ := (hM.keep HB.out) k hlt
                have C := plain_any (nth mem k)
                have hkl : (memW (mem.take k)).length = k := by rw [memW, List.length_map, List.length_take]; omega
                have HSN : Hid (wVals (memW (mem.take (k + 1))) = wVals (memW (mem.take k)) ++ [.int .i64 (nth mem k), .bool false]) := by
                  have e : memW (mem.take (k + 1)) = memW (mem.take k) ++ [(nth mem k, false)] := by
                    rw [memW, memW, List.take_succ_eq_append_getElem hlt, List.map_append]; congr 1; simp [nth, List.getD, hlt]
                  rw [Hid, e, wVals_snoc]
                have HO : Hid (wr.ownsRow W0.heap.size 82 2 (.slice s1.M k s1.mc) k (wVals (memW (mem.take k)))) := by have e := h1.mem; have e2 : (newM text tape (mem.take k) ent).mem = memW (mem.take k) := rfl; rw [e2, hkl] at e; exact e
                have cX : wr.cell? ⟨P, 34, none⟩ = some (.slice s1.M k s1.mc) := by have e := (h1.cells rfl).2.2.1; have e2 : (newM text tape (mem.take k) ent).mem = memW (mem.take k) := rfl; rw [e2, hkl] at e; exact e
                have HK : Hid ((memW (mem.take k)).length = k ∧ (memW (mem.take (k + 1))).length = k + 1) := ⟨hkl, by rw [memW, List.length_map, List.length_take]; omega⟩
                clear hkl HP
                generalize nth mem k = v at *
                go_upto_region 16 with fail
                go_region_law
                  (first
                    | (revert HO2; intro HO2; refine step_append_lies _ rfl (.tmp 67) (.tmp 70) 84 rfl W0.heap.size 82 iW (.agg #[.int .i64 0, .bool false]) 2 16 Tryz.underlying84 hW hW0 hW1 hW2 rfl (by decide) (.slice s1.M k s1.mc) k (wVals (memW (mem.take k))) rfl HO2.out ⟨wd.heap.size, 0, none⟩ 1 1 [.int .i64 v, .bool false] rfl rfl (fun j u hu => World.news_of_block HNw.out j u hu) (by simp [Value.oneCell']) (by omega) (by unfold maxLen; omega) (by omega) (by have := HSz2.out; simp; omega) (wd.heap.size + 1) (by simp) ?_; intro g3 cap3 we hown hgrow hlie hlt3; have HG3 : Hid _ := hgrow; have HO3 : Hid _ := hown; have hPV : some P ≠ (.slice s1.M k s1.mc : Value).ownBlock := (fun e => own_ne HO2.out e.symm (PAt.box HT3.out) (by decide) rfl); have yD : we.cell? ⟨P, 34, none⟩ = some (.slice s1.M k s1.mc) := World.grownBy.cell hgrow (a := ⟨P, 34, none⟩) cE hPV; have fD : we.frozen? ⟨P, 34, none⟩ = false := box_fro ((hgrow.block P (PAt.lt HT3.out) hPV).trans (PAt.box HT3.out)) 34; clear hown hgrow hlie hPV)
                    | (go_simp; go_at_call 37; refine (C wr.drew).mono ?_; rintro e wd ⟨rfl, HBX⟩; have hb1 : Below wr.heap.size wr wd := (by rw [HBX]; exact lb_alloc (Below.drew (Below.refl _ _)) _); clear HBX; have HT2 : Hid (PAt wd W0.heap.size P s1 (newM text tape (mem.take k) ent)) := PAt.keep h1 hb1; have HT3 : Hid (PAt (wd.alloc (.cells #[.int .i64 v, .bool false] 82)) W0.heap.size P s1 (newM text tape (mem.take k) ent)) := PAt.alloc HT2.out _; have HBd : Hid (Below W0.heap.size W0 wd) := lb_trans HB.out hb1; have HO2 : Hid ((wd.alloc (.cells #[.int .i64 v, .bool false] 82)).ownsRow W0.heap.size 82 2 (.slice s1.M k s1.mc) k (wVals (memW (mem.take k)))) := row_keep HO.out (lb_alloc hb1 _); have HSz2 : Hid (W0.heap.size ≤ wd.heap.size) := HBd.out.size; have HNw : Hid ((wd.alloc (.cells #[.int .i64 v, .bool false] 82)).heap[wd.heap.size]? = some (.cells #[.int .i64 v, .bool false] 82 (0, 0))) := heap_alloc_new _ _; have cD : wd.cell? ⟨P, 34, none⟩ = some (.slice s1.M k s1.mc) := lkeep hb1 cX; have cE : (wd.alloc (.cells #[.int .i64 v, .bool false] 82)).cell? ⟨P, 34, none⟩ = some (.slice s1.M k s1.mc) := lkeep (lb_alloc (Below.refl _ _) _) cD; clear hb1))
                all_goals (
                  have HG4 : Hid ((wd.alloc (.cells #[.int .i64 v, .bool false] 82)).grownBy we (.slice s1.M k s1.mc : Value).ownBlock) := ⟨HG3.out.os, HG3.out.tape, HG3.out.output, HG3.out.size, HG3.out.block⟩
                  have HO4 : Hid (we.ownsRow W0.heap.size 82 2 (.slice (some ⟨g3, 0, none⟩) (k + 1) cap3) (k + 1) (wVals (memW (mem.take (k + 1))))) := by have e := HO3.out; rw [HSN.out]; exact e
                  have HB4 : Hid (Below W0.heap.size W0 we) := Below.grown (lb_alloc HBd.out _) HG4.out (by have := HSz2.out; simp; omega) (fun b e => (HO2.out.lt b e).1)
                  have HQ : Hid (∃ s, PAt (we.setCell ⟨P, 34, none⟩ (.slice (some ⟨g3, 0, none⟩) (k + 1) cap3)) W0.heap.size P s (newM text tape (mem.take (k + 1)) ent)) := by
                    have e := PAt.addWord (l := memW (mem.take (k + 1))) HT3.out rfl (w' := we) (A := some ⟨g3, 0, none⟩) (c := cap3) (by have e := HG4.out; rw [← HK.out.1] at e; exact e) (by rw [HK.out.2]; exact HO4.out)
                    rw [HK.out.2] at e
                    exact ⟨_, e⟩
                  clear HG3 HG4 HO3 HO4 HT2 HT3 HO2 HNw cD cE yD fD
                  go_wp2_with fail
                  go_roundw
                  case rel => exact ⟨k + 1, by go_num, by omega, HQ, HB4.out.setCell (p := ⟨P, 34, none⟩) HPb.out _⟩
                  case measure => simp [intOf]; omega)
              · obtain rfl : k = mem.length := by omega
                rw [List.take_length] at HP
                obtain ⟨s1, h1⟩ := HP.out
                have HP2 : Hid (PAt wr w.heap.size P s1 (newM text tape mem ent)) := h1.mono HB0.out.size
                have HB2 : Hid (Below w.heap.size w wr) := lb_trans HB0.out HB.out
                clear h1 HP hk hlt
                go_wp2
                go_ret2
                exact ⟨HB2.out, .inr ⟨HE.out, P, s1, rfl, HP2.out⟩⟩
  · have HE : Hid (newE text tape mem ent = (checkI text mem.length ent).1) := by unfold Hid newE; rw [if_neg hE]
    have HN : Hid _ := hE
    have h2 : ((checkI text mem.length ent).1 != 0) = true := by simpa using hE
    have h4 : ((checkI text mem.length ent).1 == 0) = false := by simpa using hE
    clear hE
    generalize (checkI text mem.length ent).1 = E at *
    go_enter Tryz.func18, Tryz.ntmps18
    go_upto_region 1 with fail
    rw [HW0.out]
    go_wp2_with (first
      | (go_at_call 35; refine C1.mono ?_; rintro e w1 ⟨rfl, hb⟩))
    go_ret2
    exact new_no HE.out HN.out (lb_trans HB0.out hb)





end Go.Proofs.YtfnicgihpelhhaaGreat

namespace Go.Proofs.YtfnicgihpelhhaaGreat
open Go.RowKit

/-- Two machines, which share nothing. -/
structure Pair (w : World) (base P1 : Nat) (s1 : Loc) (m1 : Mach) (P2 : Nat) (s2 : Loc) (m2 : Mach) : Prop where
  p1 : PAt w base P1 s1 m1
  p2 : PAt w base P2 s2 m2
  apart : ∀ b, Foot s1 P1 b → ¬ Foot s2 P2 b
section
variable {w w' : World} {base P1 P2 : Nat} {s1 s2 : Loc} {m1 m2 m' : Mach}
theorem Pair.keep (h : Pair w base P1 s1 m1 P2 s2 m2) (hb : Below w.heap.size w w') : Pair w' base P1 s1 m1 P2 s2 m2 := ⟨h.p1.keep hb, h.p2.keep hb, h.apart⟩
theorem Pair.left (h : Pair w base P1 s1 m1 P2 s2 m2) (hn : NowP w base P1 s1 m' w') : ∃ s1', Pair w' base P1 s1' m' P2 s2 m2 := by
  obtain ⟨s', a1, a2, a3⟩ := hn
  refine ⟨s', a1, h.p2.other a2 fun b hb hf => h.apart b hf hb, fun b hb hf => ?_⟩
  rcases a3 b hb with k | k
  · exact h.apart b k hf
  · have := (h.p2.foot hf).2; omega
theorem Pair.right (h : Pair w base P1 s1 m1 P2 s2 m2) (hn : NowP w base P2 s2 m' w') : ∃ s2', Pair w' base P1 s1 m1 P2 s2' m' := by
  obtain ⟨s', a1, a2, a3⟩ := hn
  refine ⟨s', h.p1.other a2 fun b hb hf => h.apart b hb hf, a1, fun b hb hf => ?_⟩
  rcases a3 b hf with k | k
  · exact h.apart b hb k
  · have := (h.p1.foot hb).2; omega
theorem now_below {w0 : World} (h : NowP w base P1 s1 m' w') (p : PAt w base P1 s1 m1) (hb : Below w0.heap.size w0 w) (hB : w0.heap.size ≤ base) : Below w0.heap.size w0 w' := by
  obtain ⟨s', -, a2, -⟩ := h
  exact a2.below hb fun b hf => Nat.le_trans hB (p.foot hf).1
theorem Pair.two {w0 w1 : World} (h1 : PAt w0 base P1 s1 m1) (h2 : PAt w1 w0.heap.size P2 s2 m2) (hb : Below w0.heap.size w0 w1) (hB : base ≤ w0.heap.size) : Pair w1 base P1 s1 m1 P2 s2 m2 :=
  ⟨h1.keep hb, h2.mono hB, fun b k1 k2 => by have a := (h1.foot k1).2; have c := (h2.foot k2).1; omega⟩
end
theorem new_facts {text tape mem : List Int} {ent : Int} (hE : newE text tape mem ent = 0) (hR : ∀ i, i < text.length → 0 ≤ nth text i ∧ nth text i < 4294967296) : Fine (newM text tape mem ent) ∧ (newM text tape mem ent).steps = 0 ∧ (newM text tape mem ent).status = 0 := by
  have h1 : (checkI text mem.length ent).1 = 0 := by
    unfold newE at hE
    split at hE
    · assumption
    · exact hE
  have h2 : ¬ 4096 < tape.length := by
    intro h
    unfold newE at hE
    rw [if_pos h1, if_pos h] at hE
    cases hE
  have hp := (check_mayI h1).past
  have := hp.len
  have := hp.ent1
  exact ⟨newM_fine hR hp.len hp.pos (by omega) hp.mem (by omega), rfl, rfl⟩

end Go.Proofs.YtfnicgihpelhhaaGreat

namespace Go.Proofs.YtfnicgihpelhhaaGreat
open Go.RowKit

theorem step_le (m : Mach) : (stepM m).steps ≤ m.steps + 1 := by
  have := (run_steps m 1).2.1
  exact this
/-- Both machines as alike meets them. -/
structure Al (wr w0 : World) (base P1 P2 : Nat) (s1 s2 : Loc) (m k : Mach) (j : Nat) : Prop where
  two : Pair wr base P1 s1 m P2 s2 k
  fm : Fine m
  fk : Fine k
  st : m.steps ≤ j ∧ k.steps ≤ 2 * j
  bel : Below w0.heap.size w0 wr
section
variable {wr w1 w0 : World} {base P1 P2 : Nat} {s1 s2 : Loc} {m k : Mach} {j : Nat}
theorem Al.left (h : Al wr w0 base P1 P2 s1 s2 m k j) (hB : w0.heap.size ≤ base) (hn : NowP wr base P1 s1 (stepM m) w1) : ∃ s1', Pair w1 base P1 s1' (stepM m) P2 s2 k ∧ Below w0.heap.size w0 w1 := by
  obtain ⟨s', h1⟩ := h.two.left hn
  exact ⟨s', h1, now_below hn h.two.p1 h.bel hB⟩
end
set_option maxRecDepth 100000 in
set_option maxHeartbeats 8000000 in
theorem alike_any (w0 : World) (base P1 P2 q : Nat) (text text' : List Int) (ml : Nat) (ent r : Int) (H : Int → Nat) (s1 s2 : Loc) (m k : Mach) (w : World) (hA : Al w w0 base P1 P2 s1 s2 m k 0) (hR : Rl text text' ent q H m k) (hM : MayI text ml ent) (hO : Oth text text' q r) (hH : BhI text ent H) (hd : (H (q : Int)).testBit r.toNat = false) (hB : w0.heap.size ≤ base) (hq : q ≤ 1048576) :
    Calls Tryz.prog 19 #[.pointer (some ⟨P1, 0, none⟩), .pointer (some ⟨P2, 0, none⟩), .int .i64 q] w fun e w' => e = .returned (.bool true) ∧ Below w0.heap.size w0 w' := by
  have HRd : Hid (∀ m k, Rl text text' ent q H m k → (rndK q m k).status = (stepM m).status ∧ (stepM k).status = (stepM m).status ∧ Sim q 0 (stepM m) (rndK q m k) ∧ ((stepM m).status = 0 → Rl text text' ent q H (stepM m) (rndK q m k))) := fun m k h => round_both hM hO hH hd h
  have HA : Hid (Al w w0 base P1 P2 s1 s2 m k 0) := hA
  have HR : Hid (Rl text text' ent q H m k) := hR
  have HBs : Hid (w0.heap.size ≤ base) := hB
  clear hA hR hM hO hH hd hB
  go_enter Tryz.func19, Tryz.ntmps19
  go_wp2
  go_loopw [7] (fun i wr => ∃ (j : Nat) (s1 s2 : Loc) (m k : Mach), i = .int .i64 j ∧ j ≤ 200 ∧ Hid (Al wr w0 base P1 P2 s1 s2 m k j) ∧ Hid (Rl text text' ent q H m k)) (fun i _ => 200 - (intOf i).toNat)
  case atStart => exact ⟨0, s1, s2, m, k, rfl, by omega, HA, HR⟩
  case round =>
    clear HA HR
    obtain ⟨j, s1, s2, m, k, rfl, hj, HA, HR⟩ := hrel
    by_cases hlt : j < 200
    · have hlt' : (j : Int) < 200 := by omega
      obtain ⟨r1, r2, r3, r4⟩ := HRd.out m k HR.out
      have C1 := step_any HA.out.two.p1 HA.out.fm (by have := HA.out.st; omega)
      go_upto_region 5 with (go_at_call 38; refine C1.mono ?_; rintro e y1 ⟨rfl, hn1⟩; have hl1 := HA.out.left HBs.out hn1; clear hn1)
      obtain ⟨s1', hp1, hb1⟩ := hl1
      have HP1 : Hid (Pair y1 base P1 s1' (stepM m) P2 s2 k) := hp1
      have HB1 : Hid (Below w0.heap.size w0 y1) := hb1
      clear C1 hp1 hb1
      have C2 := step_any HP1.out.p2 HA.out.fk (by have := HA.out.st; omega)
      go_upto_region 6 with (go_at_call 38; refine C2.mono ?_; rintro e y2 ⟨rfl, hn2⟩; have hb2 := now_below hn2 HP1.out.p2 HB1.out HBs.out; have hp2 := HP1.out.right hn2; clear hn2)
      obtain ⟨s2', hp2⟩ := hp2
      have HP2 : Hid (Pair y2 base P1 s1' (stepM m) P2 s2' (stepM k)) := hp2
      have HB2 : Hid (Below w0.heap.size w0 y2) := hb2
      have HFm : Hid (Fine (stepM m)) := fine_step HA.out.fm
      have HFk : Hid (Fine (stepM k)) := fine_step HA.out.fk
      have HSt : Hid ((stepM m).steps ≤ j + 1 ∧ (stepM k).steps ≤ 2 * j + 1) := by
        have := step_le m
        have := step_le k
        have := HA.out.st
        exact ⟨by omega, by omega⟩
      clear C2 hp2 hb2 HP1 HB1 HA HR HRd
      unfold rndK at r1 r3 r4
      have hpc1 := HFk.out.pc
      have hpc2 := HFm.out.pc
      by_cases hs : (stepM m).status = 0
      · have CA : Hid (∀ p n : Nat, ((p = P2 ∧ n = (stepM k).pc) ∨ (p = P1 ∧ n = (stepM m).pc)) → Calls Tryz.prog 39 #[.pointer (some ⟨p, 0, none⟩)] y2 fun e w' => e = .returned (.int .i64 n) ∧ w' = y2) := fun p n h => by
          rcases h with ⟨rfl, rfl⟩ | ⟨rfl, rfl⟩
          · exact at_yes HP2.out.p2 HFk.out
          · exact at_yes HP2.out.p1 HFm.out
        have hq1 : IntKind.i64.wrap ((q : Int) + 1) = (q : Int) + 1 := by rw [IntKind.wrap_i64]; omega
        by_cases e1 : (stepM k).pc = q + 1
        · have d1 : ((((stepM k).pc : Nat) : Int) == (q : Int) + 1) = true := by rw [beq_iff_eq]; omega
          by_cases e2 : (stepM m).pc = q + 1
          · have d2 : ((((stepM m).pc : Nat) : Int) == (q : Int) + 1) = true := by rw [beq_iff_eq]; omega
            rw [if_pos ⟨hs, by rw [r2]; exact hs, e1, e2⟩] at r1 r3 r4
            have HR9 : Hid (Rl text text' ent q H (stepM m) (stepM (stepM k))) := r4 hs
            have C3 := step_any HP2.out.p2 HFk.out (by have := HSt.out; omega)
            have hs3 : (stepM (stepM k)).status = 0 := by rw [r1, hs]
            have HF9 : Hid (Fine (stepM (stepM k))) := fine_step HFk.out
            have HS9 : Hid ((stepM (stepM k)).steps ≤ 2 * (j + 1)) := by
              have := step_le (stepM k)
              have := HSt.out
              unfold Hid
              omega
            rw [hs3] at C3
            clear r1 r2 r3 r4 e1 e2 hs3
            rw [hs]
            generalize stepM (stepM k) = k9 at *
            generalize stepM k = k1 at *
            generalize stepM m = m1 at *
            clear hs
            go_wp2_with fail
            refine (CA.out P2 _ (.inl ⟨rfl, rfl⟩)).mono ?_
            rintro e w9 ⟨rfl, hw9⟩
            have hw9 := hw9.symm
            subst hw9
            go_wp2_with fail
            refine (CA.out P1 _ (.inr ⟨rfl, rfl⟩)).mono ?_
            rintro e w9 ⟨rfl, hw9⟩
            have hw9 := hw9.symm
            subst hw9
            go_wp2_with fail
            refine C3.mono ?_
            rintro e y3 ⟨rfl, hn3⟩
            have hb3 := now_below hn3 HP2.out.p2 HB2.out HBs.out
            obtain ⟨s3, hp3⟩ := HP2.out.right hn3
            have HA9 : Hid (Al y3 w0 base P1 P2 s1' s3 m1 k9 (j + 1)) := ⟨hp3, HFm.out, HF9.out, ⟨HSt.out.1, HS9.out⟩, hb3⟩
            clear hn3 hb3 hp3
            go_wp2
            go_roundw
            case rel => exact ⟨j + 1, _, _, _, _, by go_num, by omega, HA9, HR9⟩
            case measure => simp [intOf]; omega
          · have d2 : ((((stepM m).pc : Nat) : Int) == (q : Int) + 1) = false := by rw [beq_eq_false_iff_ne]; omega
            rw [if_neg (fun x => e2 x.2.2.2)] at r1 r3 r4
            have HR9 : Hid (Rl text text' ent q H (stepM m) (stepM k)) := r4 hs
            have HA9 : Hid (Al y2 w0 base P1 P2 s1' s2' (stepM m) (stepM k) (j + 1)) := ⟨HP2.out, HFm.out, HFk.out, (by have := HSt.out; exact ⟨by omega, by omega⟩), HB2.out⟩
            clear r1 r2 r3 r4 e1 e2
            rw [hs]
            generalize stepM k = k1 at *
            generalize stepM m = m1 at *
            clear hs
            go_wp2_with fail
            refine (CA.out P2 _ (.inl ⟨rfl, rfl⟩)).mono ?_
            rintro e w9 ⟨rfl, hw9⟩
            have hw9 := hw9.symm
            subst hw9
            go_wp2_with fail
            refine (CA.out P1 _ (.inr ⟨rfl, rfl⟩)).mono ?_
            rintro e w9 ⟨rfl, hw9⟩
            have hw9 := hw9.symm
            subst hw9
            go_wp2
            go_roundw
            case rel => exact ⟨j + 1, _, _, _, _, by go_num, by omega, HA9, HR9⟩
            case measure => simp [intOf]; omega
        · have d1 : ((((stepM k).pc : Nat) : Int) == (q : Int) + 1) = false := by rw [beq_eq_false_iff_ne]; omega
          rw [if_neg (fun x => e1 x.2.2.1)] at r1 r3 r4
          have HR9 : Hid (Rl text text' ent q H (stepM m) (stepM k)) := r4 hs
          have HA9 : Hid (Al y2 w0 base P1 P2 s1' s2' (stepM m) (stepM k) (j + 1)) := ⟨HP2.out, HFm.out, HFk.out, (by have := HSt.out; exact ⟨by omega, by omega⟩), HB2.out⟩
          clear r1 r2 r3 r4 e1
          rw [hs]
          generalize stepM k = k1 at *
          generalize stepM m = m1 at *
          clear hs
          go_wp2_with fail
          refine (CA.out P2 _ (.inl ⟨rfl, rfl⟩)).mono ?_
          rintro e w9 ⟨rfl, hw9⟩
          have hw9 := hw9.symm
          subst hw9
          go_wp2
          go_roundw
          case rel => exact ⟨j + 1, _, _, _, _, by go_num, by omega, HA9, HR9⟩
          case measure => simp [intOf]; omega
      · rw [if_neg (fun x => hs x.1)] at r1 r3 r4
        clear r4 r1
        have HSi : Hid (Sim q 0 (stepM m) (stepM k)) := r3
        have hs1 : ((stepM m).status == 0) = false := by simpa using hs
        have hs2 : ((stepM m).status != 0) = true := by simpa using hs
        clear r2 r3 hs hpc1 hpc2
        have HSt : Hid ((stepM m).steps ≤ 1048576 ∧ (stepM k).steps ≤ 1048576) := by
          have := HSt.out
          exact ⟨by omega, by omega⟩
        have HP : Hid (Pair y2 base P1 s1' (stepM m) P2 s2' (stepM k)) := HP2
        clear HP2
        generalize stepM m = m at *
        generalize stepM k = k at *
        generalize m.status = sm at *
        have HBw : Hid (Below w0.heap.size w0 y2) := HB2
        go_upto_region 11 with fail
        have hml := HFm.out.mlen
        have hkl := HSi.out.mlen
        have HQ : Hid (∀ p wx, (p = P1 ∨ p = P2) → Below y2.heap.size y2 wx → Calls Tryz.prog 41 #[.pointer (some ⟨p, 0, none⟩)] wx (Cl_p wx m.ports.length (pVals m.ports))) := fun p wx hp hx => by
          rcases hp with rfl | rfl
          · exact ports_yes (HP.out.keep hx).p1 HFm.out HSt.out.1
          · have h := ports_yes (HP.out.keep hx).p2 HFk.out HSt.out.2
            rw [HSi.out.ports] at h
            exact h
        have HT : Hid (∀ p wx, (p = P1 ∨ p = P2) → Below y2.heap.size y2 wx → Calls Tryz.prog 42 #[.pointer (some ⟨p, 0, none⟩)] wx fun e w' => e = .returned (.int .i64 m.taken) ∧ w' = wx) := fun p wx hp hx => by
          rcases hp with rfl | rfl
          · exact taken_yes (HP.out.keep hx).p1 HFm.out
          · have h := taken_yes (HP.out.keep hx).p2 HFk.out
            rw [HSi.out.taken] at h
            exact h
        have HMe : Hid (∀ p l wx, ((p = P1 ∧ l = m.mem) ∨ (p = P2 ∧ l = k.mem)) → Below y2.heap.size y2 wx → Calls Tryz.prog 44 #[.pointer (some ⟨p, 0, none⟩)] wx (Cl_w wx l.length (wVals l))) := fun p l wx hp hx => by
          rcases hp with ⟨rfl, rfl⟩ | ⟨rfl, rfl⟩
          · exact memory_yes (HP.out.keep hx).p1 HFm.out HSt.out.1
          · exact memory_yes (HP.out.keep hx).p2 HFk.out HSt.out.2
        have hpl := HFm.out.ports
        have hps := HSt.out.1
        have HWo : Hid (mvW q m.mem k.mem) := ⟨hkl, fun j => sim_words HSi.out j⟩
        have HSa : Hid (Safe m.mem) := HFm.out.mem
        clear HP HFm HFk HSi HSt hkl
        have hpn : m.ports.length ≤ 1048576 := by omega
        clear hpl hps
        generalize m.ports = ps at *
        generalize m.taken = tk at *
        generalize m.mem = lm at *
        generalize k.mem = lk at *
        go_wp2_with fail
        refine (HQ.out P1 _ (.inl rfl) (Below.refl _ _)).mono ?_
        rintro e w1 ⟨v1, rfl, ho1, hb1⟩
        obtain ⟨A1, c1, e1⟩ := own_sl ho1
        subst e1
        have HQ1 : Hid (PortsAt w1 A1 ps) := row_p ho1
        have HB1 : Hid (Below y2.heap.size y2 w1) := hb1
        clear ho1 hb1
        go_wp2_with fail
        refine (HQ.out P2 _ (.inr rfl) HB1.out).mono ?_
        rintro e w2 ⟨v2, rfl, ho2, hb2⟩
        obtain ⟨A2, c2, e2⟩ := own_sl ho2
        subst e2
        have HQ2 : Hid (PortsAt w2 A2 ps) := row_p ho2
        have HQ3 : Hid (PortsAt w2 A1 ps) := HQ1.out.keep hb2
        have HB2 : Hid (Below y2.heap.size y2 w2) := lb_trans HB1.out hb2
        clear ho2 hb2
        go_wp2_with fail
        refine (eq_p A1 A2 c1 c2 ps w2 HQ3.out HQ2.out hpn).mono ?_
        rintro e w3 ⟨rfl, hb3⟩
        have HB3 : Hid (Below y2.heap.size y2 w3) := lb_trans HB2.out hb3
        clear hb3
        go_wp2_with fail
        refine (HT.out P1 _ (.inl rfl) HB3.out).mono ?_
        rintro e w9 ⟨rfl, hw9⟩
        have hw9 := hw9.symm
        subst hw9
        go_wp2_with fail
        refine (HT.out P2 _ (.inr rfl) HB3.out).mono ?_
        rintro e w9 ⟨rfl, hw9⟩
        have hw9 := hw9.symm
        subst hw9
        go_wp2_with fail
        refine (HMe.out P1 lm _ (.inl ⟨rfl, rfl⟩) HB3.out).mono ?_
        rintro e w4 ⟨v4, rfl, ho4, hb4⟩
        obtain ⟨A4, c4, e4⟩ := own_sl ho4
        subst e4
        have HM4 : Hid (WordsAt w4 A4 lm) := row_w ho4
        have HB4 : Hid (Below y2.heap.size y2 w4) := lb_trans HB3.out hb4
        clear ho4 hb4
        go_wp2_with fail
        refine (HMe.out P2 lk _ (.inr ⟨rfl, rfl⟩) HB4.out).mono ?_
        rintro e w5 ⟨v5, rfl, ho5, hb5⟩
        obtain ⟨A5, c5, e5⟩ := own_sl ho5
        subst e5
        have HM5 : Hid (WordsAt w5 A5 lk) := row_w ho5
        have HM6 : Hid (WordsAt w5 A4 lm) := HM4.out.keep hb5
        have HB5 : Hid (Below y2.heap.size y2 w5) := lb_trans HB4.out hb5
        clear ho5 hb5
        go_wp2_with fail
        refine (words_any A4 A5 c4 c5 lm lk q w5 HM6.out HM5.out HWo.out HSa.out (by omega) hq).mono ?_
        rintro e w6 ⟨rfl, hb6⟩
        have HB6 : Hid (Below y2.heap.size y2 w6) := lb_trans HB5.out hb6
        clear hb6
        go_wp2
        go_ret
        exact ⟨rfl, lb_trans HBw.out HB6.out⟩
    · obtain rfl : j = 200 := by omega
      have HSi : Hid (Sim q 0 m k) := HR.out.sim.less fun x hx => (by rw [Nat.zero_testBit] at hx; cases hx)
      have HP : Hid (Pair wr base P1 s1 m P2 s2 k) := HA.out.two
      have HFm : Hid (Fine m) := HA.out.fm
      have HFk : Hid (Fine k) := HA.out.fk
      have HSt : Hid (m.steps ≤ 1048576 ∧ k.steps ≤ 1048576) := by
        have := HA.out.st
        exact ⟨by omega, by omega⟩
      have HBw : Hid (Below w0.heap.size w0 wr) := HA.out.bel
      clear HA HR HRd
      have hml := HFm.out.mlen
      have hkl := HSi.out.mlen
      have HQ : Hid (∀ p wx, (p = P1 ∨ p = P2) → Below wr.heap.size wr wx → Calls Tryz.prog 41 #[.pointer (some ⟨p, 0, none⟩)] wx (Cl_p wx m.ports.length (pVals m.ports))) := fun p wx hp hx => by
        rcases hp with rfl | rfl
        · exact ports_yes (HP.out.keep hx).p1 HFm.out HSt.out.1
        · have h := ports_yes (HP.out.keep hx).p2 HFk.out HSt.out.2
          rw [HSi.out.ports] at h
          exact h
      have HT : Hid (∀ p wx, (p = P1 ∨ p = P2) → Below wr.heap.size wr wx → Calls Tryz.prog 42 #[.pointer (some ⟨p, 0, none⟩)] wx fun e w' => e = .returned (.int .i64 m.taken) ∧ w' = wx) := fun p wx hp hx => by
        rcases hp with rfl | rfl
        · exact taken_yes (HP.out.keep hx).p1 HFm.out
        · have h := taken_yes (HP.out.keep hx).p2 HFk.out
          rw [HSi.out.taken] at h
          exact h
      have HMe : Hid (∀ p l wx, ((p = P1 ∧ l = m.mem) ∨ (p = P2 ∧ l = k.mem)) → Below wr.heap.size wr wx → Calls Tryz.prog 44 #[.pointer (some ⟨p, 0, none⟩)] wx (Cl_w wx l.length (wVals l))) := fun p l wx hp hx => by
        rcases hp with ⟨rfl, rfl⟩ | ⟨rfl, rfl⟩
        · exact memory_yes (HP.out.keep hx).p1 HFm.out HSt.out.1
        · exact memory_yes (HP.out.keep hx).p2 HFk.out HSt.out.2
      have hpl := HFm.out.ports
      have hps := HSt.out.1
      have HWo : Hid (mvW q m.mem k.mem) := ⟨hkl, fun j => sim_words HSi.out j⟩
      have HSa : Hid (Safe m.mem) := HFm.out.mem
      clear HP HFm HFk HSi HSt hkl
      have hpn : m.ports.length ≤ 1048576 := by omega
      clear hpl hps
      generalize m.ports = ps at *
      generalize m.taken = tk at *
      generalize m.mem = lm at *
      generalize k.mem = lk at *
      go_wp2_with fail
      refine (HQ.out P1 _ (.inl rfl) (Below.refl _ _)).mono ?_
      rintro e w1 ⟨v1, rfl, ho1, hb1⟩
      obtain ⟨A1, c1, e1⟩ := own_sl ho1
      subst e1
      have HQ1 : Hid (PortsAt w1 A1 ps) := row_p ho1
      have HB1 : Hid (Below wr.heap.size wr w1) := hb1
      clear ho1 hb1
      go_wp2_with fail
      refine (HQ.out P2 _ (.inr rfl) HB1.out).mono ?_
      rintro e w2 ⟨v2, rfl, ho2, hb2⟩
      obtain ⟨A2, c2, e2⟩ := own_sl ho2
      subst e2
      have HQ2 : Hid (PortsAt w2 A2 ps) := row_p ho2
      have HQ3 : Hid (PortsAt w2 A1 ps) := HQ1.out.keep hb2
      have HB2 : Hid (Below wr.heap.size wr w2) := lb_trans HB1.out hb2
      clear ho2 hb2
      go_wp2_with fail
      refine (eq_p A1 A2 c1 c2 ps w2 HQ3.out HQ2.out hpn).mono ?_
      rintro e w3 ⟨rfl, hb3⟩
      have HB3 : Hid (Below wr.heap.size wr w3) := lb_trans HB2.out hb3
      clear hb3
      go_wp2_with fail
      refine (HT.out P1 _ (.inl rfl) HB3.out).mono ?_
      rintro e w9 ⟨rfl, hw9⟩
      have hw9 := hw9.symm
      subst hw9
      go_wp2_with fail
      refine (HT.out P2 _ (.inr rfl) HB3.out).mono ?_
      rintro e w9 ⟨rfl, hw9⟩
      have hw9 := hw9.symm
      subst hw9
      go_wp2_with fail
      refine (HMe.out P1 lm _ (.inl ⟨rfl, rfl⟩) HB3.out).mono ?_
      rintro e w4 ⟨v4, rfl, ho4, hb4⟩
      obtain ⟨A4, c4, e4⟩ := own_sl ho4
      subst e4
      have HM4 : Hid (WordsAt w4 A4 lm) := row_w ho4
      have HB4 : Hid (Below wr.heap.size wr w4) := lb_trans HB3.out hb4
      clear ho4 hb4
      go_wp2_with fail
      refine (HMe.out P2 lk _ (.inr ⟨rfl, rfl⟩) HB4.out).mono ?_
      rintro e w5 ⟨v5, rfl, ho5, hb5⟩
      obtain ⟨A5, c5, e5⟩ := own_sl ho5
      subst e5
      have HM5 : Hid (WordsAt w5 A5 lk) := row_w ho5
      have HM6 : Hid (WordsAt w5 A4 lm) := HM4.out.keep hb5
      have HB5 : Hid (Below wr.heap.size wr w5) := lb_trans HB4.out hb5
      clear ho5 hb5
      go_wp2_with fail
      refine (words_any A4 A5 c4 c5 lm lk q w5 HM6.out HM5.out HWo.out HSa.out (by omega) hq).mono ?_
      rintro e w6 ⟨rfl, hb6⟩
      have HB6 : Hid (Below wr.heap.size wr w6) := lb_trans HB5.out hb6
      clear hb6
      go_wp2
      go_ret
      exact ⟨rfl, lb_trans HBw.out HB6.out⟩

end Go.Proofs.YtfnicgihpelhhaaGreat

namespace Go.Proofs.YtfnicgihpelhhaaGreat
open Go.RowKit

/-- A row of sets, each as a function tells. -/
def UsAt (w : World) (g n : Nat) (F : Int → Nat) : Prop := ∃ cs : Array Value, w.heap[g]? = some (.cells cs 43 (0, 0)) ∧ cs.size = n ∧ ∀ i : Nat, i < n → cs[i]? = some (.int .u16 ((F (i : Int) : Nat) : Int))
section
variable {w w1 : World} {g n : Nat} {F : Int → Nat}
theorem UsAt.lt (h : UsAt w g n F) : g < w.heap.size := by
  obtain ⟨cs, h1, _⟩ := h
  exact (Array.getElem?_eq_some_iff.1 h1).1
theorem UsAt.keep (h : UsAt w g n F) (hb : Below w.heap.size w w1) : UsAt w1 g n F := by
  obtain ⟨cs, h1, h2⟩ := h
  exact ⟨cs, by rw [hb.block g (Array.getElem?_eq_some_iff.1 h1).1]; exact h1, h2⟩
theorem UsAt.cell (h : UsAt w g n F) {x : Int} (h0 : 0 ≤ x) (h1 : x < n) : w.cell? ⟨g, x.toNat, none⟩ = some (.int .u16 ((F x : Nat) : Int)) := by
  obtain ⟨cs, hb, hs, hc⟩ := h
  have := hc x.toNat (by omega)
  rw [show ((x.toNat : Nat) : Int) = x by omega] at this
  simp [World.cell?, hb, this]
theorem UsAt.cellN (h : UsAt w g n F) {x : Nat} (h1 : x < n) : w.cell? ⟨g, x, none⟩ = some (.int .u16 ((F (x : Int) : Nat) : Int)) := by
  obtain ⟨cs, hb, hs, hc⟩ := h
  simp [World.cell?, hb, hc x h1]
theorem UsAt.fro (h : UsAt w g n F) (x : Nat) : w.frozen? ⟨g, x, none⟩ = false := by
  obtain ⟨cs, hb, _⟩ := h
  simp [World.frozen?, hb]
theorem UsAt.put (h : UsAt w g n F) {k : Nat} (_hk : k < n) (v : Nat) : UsAt (w.setCell ⟨g, k, none⟩ (.int .u16 (v : Int))) g n (putS F (k : Int) v) := by
  obtain ⟨cs, hb, hs, hc⟩ := h
  refine ⟨cs.setIfInBounds k (.int .u16 (v : Int)), box_set hb _ _, by simpa using hs, fun i hi => ?_⟩
  rw [Array.getElem?_setIfInBounds]
  by_cases e : k = i
  · rw [if_pos e, if_pos (by omega), ← e, putS_here]
  · rw [if_neg e, hc i hi, putS_else _ _ (by omega)]
theorem UsAt.other (h : UsAt w g n F) {g2 i : Nat} {v : Value} (hne : g ≠ g2) : UsAt (w.setCell ⟨g2, i, none⟩ v) g n F := by
  obtain ⟨cs, hb, hs⟩ := h
  exact ⟨cs, by rw [Below.heap_setCell _ _ _ _ hne]; exact hb, hs⟩
theorem UsAt.fit (h : UsAt w g n F) {G : Int → Nat} (e : ∀ i : Nat, i < n → F (i : Int) = G (i : Int)) : UsAt w g n G := by
  obtain ⟨cs, hb, hs, hc⟩ := h
  exact ⟨cs, hb, hs, fun i hi => by rw [← e i hi]; exact hc i hi⟩
end
theorem infoU16 : ∃ i, Tryz.prog.info? 43 = some i ∧ i.zero = some (.int .u16 0) ∧ i.size = 1 ∧ i.bytes = 2 :=
  ⟨(Tryz.prog.info? 43).get (by kernel_rfl), by kernel_rfl, by kernel_rfl, by kernel_rfl, by kernel_rfl⟩
theorem make_us (n : Nat) (hn : n ≤ 1048576) (w : World) : (Instr.makeSlice 31 (.int .i64 (n : Int)) (.int .i64 (n : Int))).run Tryz.prog w = .ok (.slice (some ⟨w.heap.size, 0, none⟩) n n) (w.alloc (.cells (madeCells #[.int .u16 0] n) 43)) := by
  obtain ⟨i, hi, hz, hs, hb⟩ := infoU16
  have h := run_makeSlice (P := Tryz.prog) w 31 43 i _ Tryz.underlying31 hi hz .i64 .i64 (n : Int) (n : Int) (by omega) (by omega) (by rw [hs]; omega) (by rw [hb]; omega) (by omega)
  rw [hs, show ((n : Int)).toNat = n by omega, Nat.mul_one] at h
  exact h
theorem UsAt.made (w : World) (n : Nat) : UsAt (w.alloc (.cells (madeCells #[.int .u16 0] n) 43)) w.heap.size n zeroS :=
  ⟨_, heap_alloc_new _ _, by simp [madeCells], fun i hi => by simp [madeCells, hi, zeroS, Nat.mod_one]⟩
/-- What a row of sets holds, read off the world. -/
def cellU (w : World) (g : Nat) (x : Int) : Nat := match w.cell? ⟨g, x.toNat, none⟩ with
  | some (.int _ v) => v.toNat
  | _ => 0
theorem UsAt.low {w : World} {g n : Nat} {F : Int → Nat} (h : UsAt w g n F) : lowS (cellU w g) n = lowS F n := lowS_same fun i hi => by
  unfold cellU
  rw [h.cell (x := (i : Int)) (by omega) (by omega)]
  simp
/-- The sets as a list. -/
def setL (F : Int → Nat) (n : Nat) : List Int := (List.range n).map fun (i : Nat) => ((F (i : Int) : Nat) : Int)
theorem setL_len (F : Int → Nat) (n : Nat) : (setL F n).length = n := by simp [setL]
theorem setL_nth {F : Int → Nat} {n i : Nat} (h : i < n) : nth (setL F n) i = ((F (i : Int) : Nat) : Int) := by simp [nth, setL, h]
theorem setL_same {F G : Int → Nat} {n : Nat} (h : ∀ i : Nat, i < n → F (i : Int) = G (i : Int)) : setL F n = setL G n := by
  unfold setL
  refine List.map_congr_left fun i hi => ?_
  rw [h i (by simpa using hi)]
theorem UsAt.ints {w : World} {g n : Nat} {F : Int → Nat} (h : UsAt w g n F) : IntsAt w (some ⟨g, 0, none⟩) .u16 (setL F n) := fun i hi => by
  rw [setL_len] at hi
  exact ⟨_, rfl, by rw [add0, setL_nth hi]; exact h.cellN hi⟩
/-- What Blocks answers. -/
def SetQ (L : List (List Int)) (R W : Nat → Nat) (n : Nat) (w : World) (e : Ending) (w' : World) : Prop := ∃ (g1 g2 : Nat) (F G : Int → Nat), e = .returned (.tuple #[.slice (some ⟨g1, 0, none⟩) n n, .slice (some ⟨g2, 0, none⟩) n n]) ∧ UsAt w' g1 n F ∧ UsAt w' g2 n G ∧ Lst L R W n F G ∧ (∀ x, G x < 65536) ∧ Below w.heap.size w w'
def SetP (text : List Int) (ent : Int) (w : World) (e : Ending) (w' : World) : Prop := SetQ (edgT text ent (blkL text ent).length) (blR text ent) (blW text ent) (blkL text ent).length w e w'
/-- What Behind answers. -/
def BhP (text : List Int) (ent : Int) (w : World) (e : Ending) (w' : World) : Prop := ∃ (g : Nat) (H : Int → Nat), e = .returned (.slice (some ⟨g, 0, none⟩) text.length text.length) ∧ UsAt w' g text.length H ∧ BhI text ent H ∧ Below w.heap.size w w'
theorem cut_run (A : Addr) (n c : Nat) {f t : Int} (h0 : 0 ≤ f) (h1 : f < t) (h2 : t ≤ (n : Int)) (h3 : n ≤ c) (w : World) : (Instr.slice 22 (.slice (some A) n c) (some (.int .i64 f)) (some (.int .i64 t)) none).run Tryz.prog w = .ok (.slice (some (A.add f.toNat)) (t - f).toNat (c - f.toNat)) w := by
  rw [run_slice_lh (P := Tryz.prog) w 22 (some A) n c (by kernel_rfl) .i64 .i64 f t h0 (by omega) (by omega)]
  rw [show (sizeOf (Tryz.prog.elem 22)).run Tryz.prog w = .ok 1 w by kernel_rfl]
  show Result.ok (sliced (some A) f.toNat t.toNat c 1) w = _
  unfold sliced
  simp
  omega


end Go.Proofs.YtfnicgihpelhhaaGreat
