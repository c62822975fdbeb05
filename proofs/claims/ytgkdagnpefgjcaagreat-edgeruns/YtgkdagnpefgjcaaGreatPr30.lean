/-
  New of package machine. Deeds of the program's machine: trap, set, jump, halt. Deeds of the program's machine: move.
-/
import Derived.Test.YtgkdagnpefgjcaaGreatProg
import Derived.WalkKit
import Derived.WalkSpells
import Derived.WalkLawsBesides
import Derived.RowKit3
import Derived.Below
import Derived.Deep.QuietTactic
import Derived.BigQuiet
import Derived.WalkSmall
import Derived.Laws.Rows
import Derived.Deep.RegionLaw
import Derived.Deep.AppendLies
import Derived.Deep.DeepCutAuto
import Derived.Laws.OwnMore
import Derived.Deep.RegionHeld3
import Derived.Laws.Pointers
import Derived.Outline
import Derived.StillTactics
import Derived.Test.YtgkdagnpefgjcaaGreatPr29
import Derived.Test.YtgkdagnpefgjcaaGreatPr28
namespace Go.Proofs.YtgkdagnpefgjcaaGreat
open Go.RowKit

theorem infoLong : ∃ i, Tryz.prog.info? 2 = some i ∧ i.zero = some (.int .i64 0) ∧ i.size = 1 ∧ i.bytes = 8 :=
  ⟨(Tryz.prog.info? 2).get (by kernel_rfl), by kernel_rfl, by kernel_rfl, by kernel_rfl, by kernel_rfl⟩
theorem box0 (ent : Int) : boxM s0 (newM [] [] [] ent) = #[.slice none 0 0, .slice none 0 0, .int .i64 0, .bool false, .int .i64 0, .bool false, .int .i64 0, .bool false, .int .i64 0, .bool false, .int .i64 0, .bool false, .int .i64 0, .bool false, .int .i64 0, .bool false, .int .i64 0, .bool false, .int .i64 0, .bool false, .int .i64 0, .bool false, .int .i64 0, .bool false, .int .i64 0, .bool false, .int .i64 0, .bool false, .int .i64 0, .bool false, .int .i64 0, .bool false, .int .i64 0, .bool false, .slice none 0 0, .slice none 0 0, .int .i64 (ent.toNat : Int), .int .i64 0, .int .i64 0, .int .i8 0] := by kernel_rfl
theorem infoIns : ∃ i, Tryz.prog.info? 72 = some i ∧ i.zero = some (.agg #[.int .i8 0, .int .i8 0, .int .i8 0, .int .i8 0, .int .i64 0]) ∧ i.size = 5 ∧ i.bytes = 16 :=
  ⟨(Tryz.prog.info? 72).get (by kernel_rfl), by kernel_rfl, by kernel_rfl, by kernel_rfl, by kernel_rfl⟩
def memW (l : List Int) : List Wd := l.map (fun v => (v, false))
theorem PAt.mono {w : World} {b b' P : Nat} {s : Loc} {m : Mach} (h : PAt w b P s m) (hb : b' ≤ b) : PAt w b' P s m :=
  ⟨h.box, Nat.le_trans hb h.bP, ownsRow_mono h.text hb, ownsRow_mono h.tape hb, ownsRow_mono h.mem hb, ownsRow_mono h.ports hb⟩
/-- New's error. -/
def newE (text tape mem : List Int) (ent : Int) : Int := if (checkI text mem.length ent).1 = 0 then (if 4096 < tape.length then 21 else 0) else (checkI text mem.length ent).1
def NewP (w : World) (text tape mem : List Int) (ent : Int) (e : Ending) (w' : World) : Prop :=
  Below w.heap.size w w' ∧ ((¬ newE text tape mem ent = 0 ∧ e = .returned (.tuple #[.pointer none, .int .i64 (newE text tape mem ent)])) ∨
    (newE text tape mem ent = 0 ∧ ∃ P s, e = .returned (.tuple #[.pointer (some ⟨P, 0, none⟩), .int .i64 0]) ∧ PAt w' w.heap.size P s (newM text tape mem ent)))
theorem new_no {w w' : World} {text tape mem : List Int} {ent E : Int} (h : newE text tape mem ent = E) (hE : ¬ E = 0) (hb : Below w.heap.size w w') : NewP w text tape mem ent (.returned (.tuple #[.pointer none, .int .i64 E])) w' := by
  subst h
  exact ⟨hb, .inl ⟨hE, rfl⟩⟩
set_option maxRecDepth 100000 in
set_option maxHeartbeats 8000000 in
theorem new_any (A1 A2 A3 : Option Addr) (c1 c2 c3 : Nat) (ent : Int) (text mem tape : List Int) (w : World) (hT : IntsAt w A1 .u32 text) (hM : IntsAt w A2 .i64 mem) (hX : IntsAt w A3 .i64 tape) (hR : ∀ i, i < text.length → 0 ≤ nth text i ∧ nth text i < 4294967296) (hl : text.length ≤ 1048576) (hml : mem.length ≤ 1048576) (hxl : tape.length ≤ maxLen) (h3 : A3 = none → c3 = 0) :
    Calls Tryz.prog 9 #[.agg #[.slice A1 text.length c1, .int .i64 ent, .slice A2 mem.length c2], .slice A3 tape.length c3] w (NewP w text tape mem ent) := by
  obtain ⟨W0, HW0⟩ : ∃ W0, Hid (w.alloc (.cells #[.slice A1 text.length c1, .int .i64 ent, .slice A2 mem.length c2] 25) = W0) := ⟨_, rfl⟩
  have HB0 : Hid (Below w.heap.size w W0) := by unfold Hid; rw [← HW0.out]; exact lb_alloc (Below.refl _ _) _
  have x0 : W0.cell? ⟨w.heap.size, 0, none⟩ = some (.slice A1 text.length c1) := by rw [← HW0.out]; simp [go_sem]
  have x1 : W0.cell? ⟨w.heap.size, 1, none⟩ = some (.int .i64 ent) := by rw [← HW0.out]; simp [go_sem]
  have x2 : W0.cell? ⟨w.heap.size, 2, none⟩ = some (.slice A2 mem.length c2) := by rw [← HW0.out]; simp [go_sem]
  replace hT := hT.keep HB0.out
  replace hM := hM.keep HB0.out
  replace hX := hX.keep HB0.out
  have C1 := check_any A1 A2 c1 mem.length c2 ent text W0 hT hR hl hml
  unfold maxLen at hxl
  by_cases hE : (checkI text mem.length ent).1 = 0
  · by_cases hx : 4096 < tape.length
    · have HE : Hid (newE text tape mem ent = 21) := by unfold Hid newE; rw [if_pos hE, if_pos hx]
      rw [hE] at C1
      have hx2 : (4096 : Int) < (tape.length : Int) := by omega
      go_enter Tryz.func9, Tryz.ntmps9
      go_upto_region 1 with fail
      rw [HW0.out]
      go_wp2_with (first
        | (go_at_call 19; refine C1.mono ?_; rintro e w1 ⟨rfl, hb⟩))
      go_ret2
      exact new_no HE.out (by decide) (lb_trans HB0.out hb)
    · have HE : Hid (newE text tape mem ent = 0) := by unfold Hid newE; rw [if_pos hE, if_neg hx]
      have HMy := check_mayI hE
      have HEN : Hid ((ent.toNat : Int) = ent) := Int.toNat_of_nonneg HMy.past.ent0
      have HMy : Hid _ := HMy
      rw [hE] at C1
      have hx2 : ¬ (4096 : Int) < (tape.length : Int) := by omega
      go_enter Tryz.func9, Tryz.ntmps9
      go_upto_region 1 with fail
      rw [HW0.out]
      clear HW0
      go_upto_region 7 with (first
        | (go_at_call 19; refine C1.mono ?_; rintro e w1 ⟨rfl, hb⟩; have y1 : w1.cell? ⟨w.heap.size, 1, none⟩ = some (.int .i64 ent) := lkeep hb x1))
      obtain ⟨W7, HW⟩ : ∃ W7, Hid (w1.alloc (.cells (boxM s0 (newM [] [] [] ent)) 70) = W7) := ⟨_, rfl⟩
      have h7 : PAt W7 W0.heap.size w1.heap.size s0 (newM [] [] [] ent) := by rw [← HW.out]; exact PAt.first hb.size
      have HB7 : Hid (Below W0.heap.size W0 W7) := by unfold Hid; rw [← HW.out]; exact lb_alloc hb _
      have HPb : Hid (W0.heap.size ≤ w1.heap.size) := hb.size
      have HW2 : (w1.alloc (.cells #[.slice none 0 0, .slice none 0 0, .int .i64 0, .bool false, .int .i64 0, .bool false, .int .i64 0, .bool false, .int .i64 0, .bool false, .int .i64 0, .bool false, .int .i64 0, .bool false, .int .i64 0, .bool false, .int .i64 0, .bool false, .int .i64 0, .bool false, .int .i64 0, .bool false, .int .i64 0, .bool false, .int .i64 0, .bool false, .int .i64 0, .bool false, .int .i64 0, .bool false, .int .i64 0, .bool false, .int .i64 0, .bool false, .slice none 0 0, .slice none 0 0, .int .i64 ent, .int .i64 0, .int .i64 0, .int .i8 0] 70)) = W7 := by rw [← HW.out, box0, HEN.out]
      rw [HW2]
      clear HW HW2 y1 hb C1
      generalize w1.heap.size = P at *
      have c1' : W7.cell? ⟨P, 1, none⟩ = some (.slice none 0 0) := (h7.cells rfl).2.1
      have f1' := h7.fro 1
      have hlt7 := h7.lt
      have hsz7 : W0.heap.size ≤ W7.heap.size := HB7.out.size
      go_cut [36] (fun x wx => Hid (∃ s, PAt wx W0.heap.size P s (newM [] tape [] ent)) ∧ Hid (Below W0.heap.size W0 wx))
      case first =>
        obtain ⟨i0, hi, hz0, hz1, hz2⟩ := infoLong
        cases A3 with
        | none =>
          have hx0 : tape = [] := by
            cases tape with
            | nil => rfl
            | cons x t => obtain ⟨a, e, _⟩ := hX 0 (by simp); cases e
          subst hx0
          obtain rfl := h3 rfl
          have hr := run_append_owned_none (P := Tryz.prog) (w := W7) W0.heap.size 23 23 2 i0 1 Tryz.underlying23 hi (.slice none 0 0) 0 [] (World.ownsRow_nil W7 _ _ _)
          have h8 := h7.addTape (w' := W7) (A := none) (c := 0) (l := []) (World.grownBy.refl W7 _) (World.ownsRow_nil _ _ _ _)
          go_wp2_with fail
          go_meet
          exact ⟨⟨_, h8⟩, HB7.out.setCell (p := ⟨P, 1, none⟩) HPb.out _⟩
        | some a =>
          have HC : Hid (∀ j u, (iVals .i64 tape)[j]? = some u → W7.cell? (a.add j) = some u) := fun j u hu => by
            have hj : j < tape.length := by have := (List.getElem?_eq_some_iff.1 hu).1; simpa [iVals] using this
            obtain ⟨b, e, c⟩ := hX j hj
            cases e
            rw [iVals_get hj] at hu
            cases hu
            exact lkeep HB7.out c
          have H1 : Hid (∀ u ∈ iVals .i64 tape, u.oneCell' = true) := fun u hu => by
            obtain ⟨i, _, rfl⟩ := List.mem_map.1 hu
            rfl
          have HL : Hid ((iVals .i64 tape).length = tape.length * 1) := by simp [Hid, iVals]
          clear hX
          go_wp2_with (at_builtin; refine wpList_append_own _ rfl (.tmp 32) (.tmp 33) 23 rfl W0.heap.size 2 i0 (.int .i64 0) 1 8 Tryz.underlying23 hi hz0 hz1 hz2 rfl (by decide) (.slice none 0 0) 0 [] rfl (World.ownsRow_nil W7 _ _ _) a tape.length c3 (iVals .i64 tape) rfl HL.out HC.out H1.out (by unfold maxLen; omega) (by omega) hsz7 ?_; intro v' w' hown hgrow hnil; have HO : Hid (w'.ownsRow W0.heap.size 2 1 v' tape.length (iVals .i64 tape)) := (by have e := hown; rw [Nat.zero_add, List.nil_append] at e; exact e); obtain ⟨A4, c4, e4⟩ := own_form HO.out; subst e4; have HG : Hid (W7.grownBy w' none) := hgrow; have k1 : w'.cell? ⟨P, 1, none⟩ = some (.slice none 0 0) := hgrow.cell c1' (fun e => by cases e); have k2 : w'.frozen? ⟨P, 1, none⟩ = false := (World.grownBy.frozen_far hgrow ⟨P, 1, none⟩ hlt7 (fun e => by cases e)).trans f1'; clear hown hgrow hnil)
          have h8 : Hid _ := h7.addTape HG.out HO.out
          have HB8 : Hid (Below W0.heap.size W0 w') := Below.grown HB7.out HG.out HB7.out.size (fun k e => by cases e)
          go_meet
          exact ⟨⟨_, h8.out⟩, HB8.out.setCell (p := ⟨P, 1, none⟩) HPb.out _⟩
      case rest =>
        clear c1' f1' hlt7 hsz7 h7 HB7 hX
        obtain ⟨HP, HB⟩ := hcut
        obtain ⟨iN, hN, hN0, hN1, hN2⟩ := infoIns
        obtain ⟨iW, hW, hW0, hW1, hW2⟩ := info_w
        have y0 := lkeep HB.out x0
        have hlen := HMy.out.past.len
        have hmle := HMy.out.past.mem
        have HZ : Hid (∃ s, PAt wc W0.heap.size P s (newM (text.take 0) tape [] ent)) := HP.out
        go_wp2_with fail
        go_loopw [40] (fun i wr => ∃ (k : Nat), i = .int .i64 k ∧ k ≤ text.length ∧ Hid (∃ s, PAt wr W0.heap.size P s (newM (text.take k) tape [] ent)) ∧ Hid (Below W0.heap.size W0 wr)) (fun i _ => text.length - (intOf i).toNat)
        case atStart => exact ⟨0, rfl, Nat.zero_le _, HZ, HB⟩
        case round =>
          clear HZ HP HB y0
          obtain ⟨k, rfl, hk, HP, HB⟩ := hrel
          by_cases hlt : k < text.length
          · obtain ⟨s1, h1⟩ := HP.out
            obtain ⟨a, rfl, q⟩ := (hT.keep HB.out) k hlt
            obtain ⟨v0, v1⟩ := hR k hlt
            have C := isadecode_any (nth text k) v0 v1
            have hkl : (text.take k).length = k := by rw [List.length_take]; omega
            have HSN : Hid (nVals (text.take (k + 1)) = nVals (text.take k) ++ [.int .i8 (dOp (nth text k)), .int .i8 (dD (nth text k)), .int .i8 (dA (nth text k)), .int .i8 (dB (nth text k)), .int .i64 (dN (nth text k))]) := by rw [Hid, ← nVals_snoc]; congr 1; rw [List.take_succ_eq_append_getElem hlt]; simp [nth, List.getD, hlt]
            have HO : Hid (wr.ownsRow W0.heap.size 72 5 (.slice s1.T k s1.tc) k (nVals (text.take k))) := by have e := h1.text; simp only [newM, hkl] at e; exact e
            have cX : wr.cell? ⟨P, 0, none⟩ = some (.slice s1.T k s1.tc) := by have e := (h1.cells rfl).1; simp only [newM, hkl] at e; exact e
            have HK : Hid ((text.take k).length = k ∧ (text.take (k + 1)).length = k + 1) := ⟨hkl, by rw [List.length_take]; omega⟩
            clear hkl v0 v1 HP
            generalize dOp (nth text k) = op at *
            generalize dD (nth text k) = d at *
            generalize dA (nth text k) = a1 at *
            generalize dB (nth text k) = b at *
            generalize dN (nth text k) = n at *
            go_upto_region 11 with fail
            go_region_law
              (first
                | (revert HO2; intro HO2; refine step_append_lies _ rfl (.tmp 48) (.tmp 51) 56 rfl W0.heap.size 72 iN (.agg #[.int .i8 0, .int .i8 0, .int .i8 0, .int .i8 0, .int .i64 0]) 5 16 Tryz.underlying56 hN hN0 hN1 hN2 rfl (by decide) (.slice s1.T k s1.tc) k (nVals (text.take k)) rfl HO2.out ⟨wd.heap.size, 0, none⟩ 1 1 [.int .i8 op, .int .i8 d, .int .i8 a1, .int .i8 b, .int .i64 n] rfl rfl (fun j u hu => World.news_of_block HNw.out j u hu) (by simp [Value.oneCell']) (by omega) (by unfold maxLen; omega) (by omega) (by have := HSz2.out; simp; omega) (wd.heap.size + 1) (by simp) ?_; intro g3 cap3 we hown hgrow hlie hlt3; have HG3 : Hid _ := hgrow; have HO3 : Hid _ := hown; have hPV : some P ≠ (.slice s1.T k s1.tc : Value).ownBlock := (fun e => own_ne HO2.out e.symm (PAt.box HT3.out) (by decide) rfl); have yD : we.cell? ⟨P, 0, none⟩ = some (.slice s1.T k s1.tc) := World.grownBy.cell hgrow (a := ⟨P, 0, none⟩) cE hPV; have fD : we.frozen? ⟨P, 0, none⟩ = false := box_fro ((hgrow.block P (PAt.lt HT3.out) hPV).trans (PAt.box HT3.out)) 0; clear hown hgrow hlie hPV)
                | (go_simp; go_at_call 20; refine (C wr.drew).mono ?_; rintro e wd ⟨rfl, HBX⟩; have hb1 : Below wr.heap.size wr wd := lb_trans (Below.drew (Below.refl _ _)) HBX; clear HBX; have HT2 : Hid (PAt wd W0.heap.size P s1 (newM (text.take k) tape [] ent)) := PAt.keep h1 hb1; have HT3 : Hid (PAt (wd.alloc (.cells #[.int .i8 op, .int .i8 d, .int .i8 a1, .int .i8 b, .int .i64 n] 72)) W0.heap.size P s1 (newM (text.take k) tape [] ent)) := PAt.alloc HT2.out _; have HBd : Hid (Below W0.heap.size W0 wd) := lb_trans HB.out hb1; have HO2 : Hid ((wd.alloc (.cells #[.int .i8 op, .int .i8 d, .int .i8 a1, .int .i8 b, .int .i64 n] 72)).ownsRow W0.heap.size 72 5 (.slice s1.T k s1.tc) k (nVals (text.take k))) := row_keep HO.out (lb_alloc hb1 _); have HSz2 : Hid (W0.heap.size ≤ wd.heap.size) := HBd.out.size; have HNw : Hid ((wd.alloc (.cells #[.int .i8 op, .int .i8 d, .int .i8 a1, .int .i8 b, .int .i64 n] 72)).heap[wd.heap.size]? = some (.cells #[.int .i8 op, .int .i8 d, .int .i8 a1, .int .i8 b, .int .i64 n] 72 (0, 0))) := heap_alloc_new _ _; have cD : wd.cell? ⟨P, 0, none⟩ = some (.slice s1.T k s1.tc) := lkeep hb1 cX; have cE : (wd.alloc (.cells #[.int .i8 op, .int .i8 d, .int .i8 a1, .int .i8 b, .int .i64 n] 72)).cell? ⟨P, 0, none⟩ = some (.slice s1.T k s1.tc) := lkeep (lb_alloc (Below.refl _ _) _) cD; clear hb1))
            all_goals (
              have HG4 : Hid ((wd.alloc (.cells #[.int .i8 op, .int .i8 d, .int .i8 a1, .int .i8 b, .int .i64 n] 72)).grownBy we (.slice s1.T k s1.tc : Value).ownBlock) := ⟨HG3.out.os, HG3.out.tape, HG3.out.output, HG3.out.size, HG3.out.block⟩
              have HO4 : Hid (we.ownsRow W0.heap.size 72 5 (.slice (some ⟨g3, 0, none⟩) (k + 1) cap3) (k + 1) (nVals (text.take (k + 1)))) := by have e := HO3.out; rw [HSN.out]; exact e
              have HB4 : Hid (Below W0.heap.size W0 we) := Below.grown (lb_alloc HBd.out _) HG4.out (by have := HSz2.out; simp; omega) (fun b e => (HO2.out.lt b e).1)
              have HQ : Hid (∃ s, PAt (we.setCell ⟨P, 0, none⟩ (.slice (some ⟨g3, 0, none⟩) (k + 1) cap3)) W0.heap.size P s (newM (text.take (k + 1)) tape [] ent)) := by
                have e := PAt.addIns (l := text.take (k + 1)) HT3.out (w' := we) (A := some ⟨g3, 0, none⟩) (c := cap3) (by have e := HG4.out; rw [← HK.out.1] at e; exact e) (by rw [HK.out.2]; exact HO4.out)
                rw [HK.out.2] at e
                exact ⟨_, e⟩
              clear HG3 HG4 HO3 HO4 HT2 HT3 HO2 HNw cD cE yD fD
              go_wp2_with fail
              go_roundw
              case rel => exact ⟨k + 1, by go_num, by omega, HQ, HB4.out.setCell (p := ⟨P, 0, none⟩) HPb.out _⟩
              case measure => simp [intOf]; omega)
          · obtain rfl : k = text.length := by omega
            rw [List.take_length] at HP
            have y2 := lkeep HB.out x2
            have HZ : Hid (∃ s, PAt wr W0.heap.size P s (newM text tape (mem.take 0) ent)) := HP.out
            clear hk hlt hT
            go_wp2_with fail
            go_loopw [59] (fun i wr => ∃ (k : Nat), i = .int .i64 k ∧ k ≤ mem.length ∧ Hid (∃ s, PAt wr W0.heap.size P s (newM text tape (mem.take k) ent)) ∧ Hid (Below W0.heap.size W0 wr)) (fun i _ => mem.length - (intOf i).toNat)
            case atStart => exact ⟨0, rfl, Nat.zero_le _, HZ, HB⟩
            case round =>
              clear HZ HP HB y2
              obtain ⟨k, rfl, hk, HP, HB⟩ := hrel
              by_cases hlt : k < mem.length
              · obtain ⟨s1, h1⟩ := HP.out
                obtain ⟨a, rfl, q⟩ := (hM.keep HB.out) k hlt
                have C := plain_any (nth mem k)
                have hkl : (memW (mem.take k)).length = k := by rw [memW, List.length_map, List.length_take]; omega
                have HSN : Hid (wVals (memW (mem.take (k + 1))) = wVals (memW (mem.take k)) ++ [.int .i64 (nth mem k), .bool false]) := by
                  have e : memW (mem.take (k + 1)) = memW (mem.take k) ++ [(nth mem k, false)] := by
                    rw [memW, memW, List.take_succ_eq_append_getElem hlt, List.map_append]; congr 1; simp [nth, List.getD, hlt]
                  rw [Hid, e, wVals_snoc]
                have HO : Hid (wr.ownsRow W0.heap.size 65 2 (.slice s1.M k s1.mc) k (wVals (memW (mem.take k)))) := by have e := h1.mem; have e2 : (newM text tape (mem.take k) ent).mem = memW (mem.take k) := rfl; rw [e2, hkl] at e; exact e
                have cX : wr.cell? ⟨P, 34, none⟩ = some (.slice s1.M k s1.mc) := by have e := (h1.cells rfl).2.2.1; have e2 : (newM text tape (mem.take k) ent).mem = memW (mem.take k) := rfl; rw [e2, hkl] at e; exact e
                have HK : Hid ((memW (mem.take k)).length = k ∧ (memW (mem.take (k + 1))).length = k + 1) := ⟨hkl, by rw [memW, List.length_map, List.length_take]; omega⟩
                clear hkl HP
                generalize nth mem k = v at *
                go_upto_region 16 with fail
                go_region_law
                  (first
                    | (revert HO2; intro HO2; refine step_append_lies _ rfl (.tmp 67) (.tmp 70) 67 rfl W0.heap.size 65 iW (.agg #[.int .i64 0, .bool false]) 2 16 Tryz.underlying67 hW hW0 hW1 hW2 rfl (by decide) (.slice s1.M k s1.mc) k (wVals (memW (mem.take k))) rfl HO2.out ⟨wd.heap.size, 0, none⟩ 1 1 [.int .i64 v, .bool false] rfl rfl (fun j u hu => World.news_of_block HNw.out j u hu) (by simp [Value.oneCell']) (by omega) (by unfold maxLen; omega) (by omega) (by have := HSz2.out; simp; omega) (wd.heap.size + 1) (by simp) ?_; intro g3 cap3 we hown hgrow hlie hlt3; have HG3 : Hid _ := hgrow; have HO3 : Hid _ := hown; have hPV : some P ≠ (.slice s1.M k s1.mc : Value).ownBlock := (fun e => own_ne HO2.out e.symm (PAt.box HT3.out) (by decide) rfl); have yD : we.cell? ⟨P, 34, none⟩ = some (.slice s1.M k s1.mc) := World.grownBy.cell hgrow (a := ⟨P, 34, none⟩) cE hPV; have fD : we.frozen? ⟨P, 34, none⟩ = false := box_fro ((hgrow.block P (PAt.lt HT3.out) hPV).trans (PAt.box HT3.out)) 34; clear hown hgrow hlie hPV)
                    | (go_simp; go_at_call 21; refine (C wr.drew).mono ?_; rintro e wd ⟨rfl, HBX⟩; have hb1 : Below wr.heap.size wr wd := (by rw [HBX]; exact lb_alloc (Below.drew (Below.refl _ _)) _); clear HBX; have HT2 : Hid (PAt wd W0.heap.size P s1 (newM text tape (mem.take k) ent)) := PAt.keep h1 hb1; have HT3 : Hid (PAt (wd.alloc (.cells #[.int .i64 v, .bool false] 65)) W0.heap.size P s1 (newM text tape (mem.take k) ent)) := PAt.alloc HT2.out _; have HBd : Hid (Below W0.heap.size W0 wd) := lb_trans HB.out hb1; have HO2 : Hid ((wd.alloc (.cells #[.int .i64 v, .bool false] 65)).ownsRow W0.heap.size 65 2 (.slice s1.M k s1.mc) k (wVals (memW (mem.take k)))) := row_keep HO.out (lb_alloc hb1 _); have HSz2 : Hid (W0.heap.size ≤ wd.heap.size) := HBd.out.size; have HNw : Hid ((wd.alloc (.cells #[.int .i64 v, .bool false] 65)).heap[wd.heap.size]? = some (.cells #[.int .i64 v, .bool false] 65 (0, 0))) := heap_alloc_new _ _; have cD : wd.cell? ⟨P, 34, none⟩ = some (.slice s1.M k s1.mc) := lkeep hb1 cX; have cE : (wd.alloc (.cells #[.int .i64 v, .bool false] 65)).cell? ⟨P, 34, none⟩ = some (.slice s1.M k s1.mc) := lkeep (lb_alloc (Below.refl _ _) _) cD; clear hb1))
                all_goals (
                  have HG4 : Hid ((wd.alloc (.cells #[.int .i64 v, .bool false] 65)).grownBy we (.slice s1.M k s1.mc : Value).ownBlock) := ⟨HG3.out.os, HG3.out.tape, HG3.out.output, HG3.out.size, HG3.out.block⟩
                  have HO4 : Hid (we.ownsRow W0.heap.size 65 2 (.slice (some ⟨g3, 0, none⟩) (k + 1) cap3) (k + 1) (wVals (memW (mem.take (k + 1))))) := by have e := HO3.out; rw [HSN.out]; exact e
                  have HB4 : Hid (Below W0.heap.size W0 we) := Below.grown (lb_alloc HBd.out _) HG4.out (by have := HSz2.out; simp; omega) (fun b e => (HO2.out.lt b e).1)
                  have HQ : Hid (∃ s, PAt (we.setCell ⟨P, 34, none⟩ (.slice (some ⟨g3, 0, none⟩) (k + 1) cap3)) W0.heap.size P s (newM text tape (mem.take (k + 1)) ent)) := by
                    have e := PAt.addWord (l := memW (mem.take (k + 1))) HT3.out rfl (w' := we) (A := some ⟨g3, 0, none⟩) (c := cap3) (by have e := HG4.out; rw [← HK.out.1] at e; exact e) (by rw [HK.out.2]; exact HO4.out)
                    rw [HK.out.2] at e
                    exact ⟨_, e⟩
                  clear HG3 HG4 HO3 HO4 HT2 HT3 HO2 HNw cD cE yD fD
                  go_wp2_with fail
                  go_roundw
                  case rel => exact ⟨k + 1, by go_num, by omega, HQ, HB4.out.setCell (p := ⟨P, 34, none⟩) HPb.out _⟩
                  case measure => simp [intOf]; omega)
              · obtain rfl : k = mem.length := by omega
                rw [List.take_length] at HP
                obtain ⟨s1, h1⟩ := HP.out
                have HP2 : Hid (PAt wr w.heap.size P s1 (newM text tape mem ent)) := h1.mono HB0.out.size
                have HB2 : Hid (Below w.heap.size w wr) := lb_trans HB0.out HB.out
                clear h1 HP hk hlt
                go_wp2
                go_ret2
                exact ⟨HB2.out, .inr ⟨HE.out, P, s1, rfl, HP2.out⟩⟩
  · have HE : Hid (newE text tape mem ent = (checkI text mem.length ent).1) := by unfold Hid newE; rw [if_neg hE]
    have HN : Hid _ := hE
    have h2 : ((checkI text mem.length ent).1 != 0) = true := by simpa using hE
    have h4 : ((checkI text mem.length ent).1 == 0) = false := by simpa using hE
    clear hE
    generalize (checkI text mem.length ent).1 = E at *
    go_enter Tryz.func9, Tryz.ntmps9
    go_upto_region 1 with fail
    rw [HW0.out]
    go_wp2_with (first
      | (go_at_call 19; refine C1.mono ?_; rintro e w1 ⟨rfl, hb⟩))
    go_ret2
    exact new_no HE.out HN.out (lb_trans HB0.out hb)



end Go.Proofs.YtgkdagnpefgjcaaGreat

namespace Go.Proofs.YtgkdagnpefgjcaaGreat
open Go.RowKit

section
variable {w : World} {base P : Nat} {s : Loc} {m : Mach}
theorem trap_any (_h : PAt w base P s m) (op d a b n : Int) : Calls Tryz.prog 50 #[.pointer (some ⟨P, 0, none⟩), .agg #[.int .i8 op, .int .i8 d, .int .i8 a, .int .i8 b, .int .i64 n]] w (DidP w base P s m (noD m 2)) := by
  go_enter Tryz.func50, Tryz.ntmps50
  go_wp2
  exact ⟨rfl, did_no (by decide) (lb_alloc (Below.refl _ _) _)⟩
theorem jump_any (h : PAt w base P s m) (_hm : Fine m) (_hp : m.pc < 16384) {op d a b n : Int} (hi : InsIn op d a b n) (hq : op = 15) : Calls Tryz.prog 58 #[.pointer (some ⟨P, 0, none⟩), .agg #[.int .i8 op, .int .i8 d, .int .i8 a, .int .i8 b, .int .i64 n]] w (DidP w base P s m (goD m n)) := by
  have hn := (hi.pl (.inl hq)).1
  clear hq
  have h2 := h.alloc (.cells #[.int .i8 op, .int .i8 d, .int .i8 a, .int .i8 b, .int .i64 n] 72)
  go_enter Tryz.func58, Tryz.ntmps58
  go_wp2
  go_ret
  exact did_yes rfl (by simp [goD]; omega) h2 ((Upto.refl _ _).alloc _)
theorem halt_any (h : PAt w base P s m) (hm : Fine m) (_hp : m.pc < 16384) {op d a b n : Int} (_hi : InsIn op d a b n) : Calls Tryz.prog 64 #[.pointer (some ⟨P, 0, none⟩), .agg #[.int .i8 op, .int .i8 d, .int .i8 a, .int .i8 b, .int .i64 n]] w (DidP w base P s m (haltD m)) := by
  have h2 := (h.status hm.sixteen 1).alloc (.cells #[.int .i8 op, .int .i8 d, .int .i8 a, .int .i8 b, .int .i64 n] 72)
  obtain ⟨c0, c1, c34, c35, c36, c37, c38, c39⟩ := h.cells hm.sixteen
  have f9 := h.fro 39
  have hP := h.lt
  clear h
  go_enter Tryz.func64, Tryz.ntmps64
  go_wp2
  go_ret
  exact did_yes rfl rfl h2 (((Upto.refl _ _).set (Or.inl (Or.inl rfl)) _ _).alloc _)
theorem set_any (h : PAt w base P s m) (hm : Fine m) (_hp : m.pc < 16384) {op d a b n : Int} (hi : InsIn op d a b n) : Calls Tryz.prog 51 #[.pointer (some ⟨P, 0, none⟩), .agg #[.int .i8 op, .int .i8 d, .int .i8 a, .int .i8 b, .int .i64 n]] w (DidP w base P s m (putD m d (n, false))) := by
  have C1 := plain_any n
  obtain ⟨k, hk0⟩ := Int.eq_ofNat_of_zero_le hi.d0
  have hk : k < 16 := by have := hi.d1; omega
  subst hk0
  have C2 := fun (W : World) (h : PAt W base P s m) => put_any h hm k hk (n, false)
  have hP := h.lt
  go_enter Tryz.func51, Tryz.ntmps51
  go_wp2_with fail
  go_region_with (first
    | (go_at_call 21; refine (C1 _).mono ?_; rintro e w1 ⟨rfl, rfl⟩)
    | (go_at_call 70; refine (C2 _ (by repeat (first | assumption | apply PAt.drew | apply PAt.alloc))).mono ?_; rintro e w1 ⟨rfl, hq, hu⟩))
  all_goals (
    go_wp2
    go_ret
    exact did_put rfl hq (Upto.trans (by repeat (first | exact Upto.refl _ _ | apply Upto.drew | apply Upto.alloc)) hu))
theorem place_any (h : PAt w base P s m) (hm : Fine m) (_hp : m.pc < 16384) {op d a b n : Int} (hi : InsIn op d a b n) : Calls Tryz.prog 63 #[.pointer (some ⟨P, 0, none⟩), .agg #[.int .i8 op, .int .i8 d, .int .i8 a, .int .i8 b, .int .i64 n]] w (DidP w base P s m (putD m d (n, true))) := by
  have C1 := sealed_any n
  obtain ⟨k, hk0⟩ := Int.eq_ofNat_of_zero_le hi.d0
  have hk : k < 16 := by have := hi.d1; omega
  subst hk0
  have C2 := fun (W : World) (h : PAt W base P s m) => put_any h hm k hk (n, true)
  have hP := h.lt
  go_enter Tryz.func63, Tryz.ntmps63
  go_wp2_with fail
  go_region_with (first
    | (go_at_call 77; refine (C1 _).mono ?_; rintro e w1 ⟨rfl, rfl⟩)
    | (go_at_call 70; refine (C2 _ (by repeat (first | assumption | apply PAt.drew | apply PAt.alloc))).mono ?_; rintro e w1 ⟨rfl, hq, hu⟩))
  all_goals (
    go_wp2
    go_ret
    exact did_put rfl hq (Upto.trans (by repeat (first | exact Upto.refl _ _ | apply Upto.drew | apply Upto.alloc)) hu))
end



end Go.Proofs.YtgkdagnpefgjcaaGreat

namespace Go.Proofs.YtgkdagnpefgjcaaGreat
open Go.RowKit

section
variable {w : World} {base P : Nat} {s : Loc} {m : Mach}
theorem move_any (h : PAt w base P s m) (hm : Fine m) (_hp : m.pc < 16384) {op d a b n : Int} (hi : InsIn op d a b n) : Calls Tryz.prog 52 #[.pointer (some ⟨P, 0, none⟩), .agg #[.int .i8 op, .int .i8 d, .int .i8 a, .int .i8 b, .int .i64 n]] w (DidP w base P s m (putD m d (rV m a, rC m a))) := by
  obtain ⟨k, hk0⟩ := Int.eq_ofNat_of_zero_le hi.d0
  have hk : k < 16 := by have := hi.d1; omega
  obtain ⟨j, hj0⟩ := Int.eq_ofNat_of_zero_le hi.a0
  have hj : j < 16 := by have := hi.a1; omega
  subst hk0 hj0
  have C2 := fun (W : World) (h : PAt W base P s m) => put_any h hm k hk (wV m.regs j, wC m.regs j)
  obtain ⟨d0, d1⟩ := h.reg hm.sixteen hj
  have hP := h.lt
  go_enter Tryz.func52, Tryz.ntmps52
  go_wp2_with fail
  go_region_with (first
    | (go_at_call 70; refine (C2 _ (by repeat (first | assumption | apply PAt.drew | apply PAt.alloc))).mono ?_; rintro e w1 ⟨rfl, hq, hu⟩))
  all_goals (
    go_wp2
    go_ret
    exact did_put rfl hq (Upto.trans (by repeat (first | exact Upto.refl _ _ | apply Upto.drew | apply Upto.alloc)) hu))
end



end Go.Proofs.YtgkdagnpefgjcaaGreat
