/-
  Step of the document's machine. Run of the document's machine. The program's machine: the instruction at which it stands; the table of deeds.
-/
import Derived.Test.YtdlcejpfjlpclaaGreatDoorProg
import Derived.WalkKit
import Derived.WalkSpells
import Derived.WalkLawsBesides
import Derived.RowKit3
import Derived.Below
import Derived.Deep.QuietTactic
import Derived.BigQuiet
import Derived.WalkSmall
import Derived.Laws.Rows
import Derived.Test.YtdlcejpfjlpclaaGreatDoorPr23
import Derived.Test.YtdlcejpfjlpclaaGreatDoorPr11
import Derived.Test.YtdlcejpfjlpclaaGreatDoorPr13
namespace Go.Proofs.YtdlcejpfjlpclaaGreatDoor
open Go.RowKit

section
variable {w : World} {base P : Nat} {s : QLoc} {m : Mach}
/-- What a step of the document's leaves. -/
def NowQ (w : World) (base P : Nat) (s : QLoc) (m' : Mach) (w' : World) : Prop := ∃ s', QAt w' base P s' m' ∧ Upto (QFoot s P) w w' ∧ ∀ b, QFoot s' P b → QFoot s P b ∨ w.heap.size ≤ b
theorem nowq_same {m' : Mach} {w' : World} (h : QAt w' base P s m') (hu : Upto (QFoot s P) w w') : NowQ w base P s m' w' := ⟨s, h, hu, fun _ h => .inl h⟩
theorem QAt.wrd (h : QAt w base P s m) {k : Nat} (hk : k < m.text.length) : ∃ g, s.T = some ⟨g, 0, none⟩ ∧ m.text.length ≤ s.tc ∧ w.cell? ⟨g, k, none⟩ = some (.int .u32 (nth m.text k)) := by
  have e1 := iVals_get (K := .u32) hk
  rcases h.text.2 with ⟨e, e0⟩ | ⟨g, cap, cur, e, hb, hg, hc, _, hs, ht⟩
  · omega
  · simp only [Value.slice.injEq] at e
    obtain ⟨e3, -, e4⟩ := e
    subst e4
    refine ⟨g, e3, hc, box_at hg ?_⟩
    rw [← ht, List.getElem?_take_of_lt (by omega)] at e1
    simpa using e1
set_option maxRecDepth 100000 in
set_option maxHeartbeats 4000000 in
theorem qstep_any (h : QAt w base P s m) (hm : Fine m) (hst : m.steps < 1048576) : Calls Tryz.prog 12 #[.pointer (some ⟨P, 0, none⟩)] w fun e w' => e = .returned (.int .i8 (stepM m).status) ∧ NowQ w base P s (stepM m) w' := by
  obtain ⟨c0, c1, c2, c3, c4, c5, c6, c7, c8⟩ := h.cells
  have hpc := hm.pc
  by_cases hs : m.status = 0
  · by_cases hp : m.pc < m.text.length
    · have hn0 : ¬ (m.pc : Int) < 0 := by omega
      have hn1 : ¬ (m.text.length : Int) ≤ (m.pc : Int) := by omega
      have hd0 : decide ((m.pc : Int) < 0) = false := by simp
      have hd1 : decide (m.text.length ≤ m.pc) = false := by simp; omega
      obtain ⟨v0, v1⟩ := hm.words m.pc hp
      obtain ⟨g, hT, hcap, t0⟩ := h.wrd hp
      rw [hT] at c0
      have yp : (m.pc : Int) < (m.text.length : Int) := by omega
      have zp : (0 : Int) ≤ (m.pc : Int) := Int.natCast_nonneg _
      rw [hs] at c2
      have C1 := refdecode_any (nth m.text m.pc) v0 v1
      have HD : Hid (doM m = deedM m (dOp (nth m.text m.pc)) (dD (nth m.text m.pc)) (dA (nth m.text m.pc)) (dB (nth m.text m.pc)) (dN (nth m.text m.pc))) := by unfold Hid doM; rw [if_neg (by omega)]
      have C2 := fun (W : World) (hW : QAt W base P s m) => qdeed hW hm hst hs (ins_in v0 v1)
      rw [← HD.out] at C2
      have HST : Hid ((doM m).err = 0 → ¬ (doM m).m.status = 0 → (doM m).to = (doM m).m.pc) := fun h1 h2 => by rw [HD.out] at h1 h2 ⊢; exact deed_stay hs h1 h2
      have HSM : Hid (stepM m = if (doM m).err = 0 then hopM (doM m).m (doM m).to (m.steps + 1) else endM m (doM m).err) := by unfold Hid stepM; rw [if_pos hs]
      have HKp : Hid ((doM m).err = 0 → (doM m).m.steps = m.steps) := fun e => (do_kept hm e).steps
      have HQ0 : Hid (QAt w base P s m) := h
      clear HD hT h v0 v1
      generalize doM m = r at *
      generalize dOp (nth m.text m.pc) = op at *
      generalize dD (nth m.text m.pc) = d at *
      generalize dA (nth m.text m.pc) = a at *
      generalize dB (nth m.text m.pc) = b at *
      generalize dN (nth m.text m.pc) = n at *
      by_cases he : r.err = 0
      · have C3 : ∀ W : World, QAt W base P s m → Calls Tryz.prog 34 #[.pointer (some ⟨P, 0, none⟩), .agg #[.int .i8 op, .int .i8 d, .int .i8 a, .int .i8 b, .int .i64 n]] W fun e w' => ∃ t, e = .returned (.tuple #[.int .i8 0, .int .i64 t]) ∧ (r.m.status = 0 → t = r.to) ∧ NowQ W base P s r.m w' := fun W hW => (C2 W hW).mono fun e w' k => k.elim (fun k => absurd he k.1) (fun ⟨_, t, s', k1, k2, k3, k4, k5⟩ => ⟨t, k1, k2, s', k3, k4, k5⟩)
        rw [if_pos he] at HSM
        have HKs := HKp.out he
        have HSy := HST.out he
        rw [HSM.out]
        have HKs : Hid (r.m.steps = m.steps) := HKs
        clear C2 HST HKp he
        go_enter Tryz.func12, Tryz.ntmps12
        go_wp2_with fail
        go_quiet (fail)
        go_wp2_with fail
        go_region_with (first
          | (go_at_call 28; refine (C1 _).mono ?_; rintro e w1 ⟨rfl, hb⟩; have h1 : QAt w1 base P s m := QAt.keep (by first | exact HQ0.out.drewN _ | exact (HQ0.out.drewN _).drew) hb; have HU1 : Hid (Upto (QFoot s P) w w1) := Upto.trans (by first | exact (Upto.refl _ _).drewN _ | exact ((Upto.refl _ _).drewN _).drew) (Upto.of hb); clear hb)
          | (go_at_call 34; refine (C3 _ (by first | exact h1 | exact h1.drew)).mono ?_; rintro e w2 ⟨t, rfl, ht, hn⟩))
        all_goals (
          obtain ⟨s', q1, q2, q3⟩ := hn
          have HN : Hid (NowQ w base P s r.m w2) := ⟨s', q1, HU1.out.trans q2, fun b hb => (q3 b hb).imp id fun k => Nat.le_trans HU1.out.size k⟩
          have HQ3 : Hid (QAt (w2.setCell ⟨P, 3, none⟩ (.int .i64 ((m.steps : Int) + 1))) base P s' { r.m with steps := m.steps + 1 }) := q1.steps (m.steps + 1)
          obtain ⟨-, -, k2, k3, -⟩ := q1.cells
          rw [HKs.out] at k3
          have g3 := q1.fro 3
          obtain ⟨-, j1, -⟩ := HQ3.out.cells
          have g1 := HQ3.out.fro 1
          have j2 : (w2.setCell ⟨P, 3, none⟩ (.int .i64 ((m.steps : Int) + 1))).cell? ⟨P, 2, none⟩ = some (.int .i8 r.m.status) := HQ3.out.cells.2.2.1
          have HF3 : Hid (Upto (QFoot s P) w w2 ∧ ∀ b, QFoot s' P b → QFoot s P b ∨ w.heap.size ≤ b) := ⟨HU1.out.trans q2, fun b hb => (q3 b hb).imp id fun k => Nat.le_trans HU1.out.size k⟩
          clear q1 q2 q3 c0 c1 c2 c3 c4 c5 c6 c7 c8 C1 C3 t0
          by_cases hz : r.m.status = 0
          · have e1 := ht hz
            subst e1
            rw [hz] at j2
            have HQ4 : Hid _ := HQ3.out.pc r.to
            have i2 : ((w2.setCell ⟨P, 3, none⟩ (.int .i64 ((m.steps : Int) + 1))).setCell ⟨P, 1, none⟩ (.int .i64 r.to)).cell? ⟨P, 2, none⟩ = some (.int .i8 0) := by have e := HQ4.out.cells.2.2.1; rw [show (({ r.m with steps := m.steps + 1 } : Mach)).status = 0 from hz] at e; exact e
            have HZ : Hid _ := hz
            clear hz ht
            go_wp2
            go_ret
            refine ⟨?_, s', HQ4.out, (HF3.out.1.set (Or.inl (Or.inl rfl)) _ _).set (Or.inl (Or.inl rfl)) _ _, HF3.out.2⟩
            show Ending.returned (.int .i8 0) = _
            rw [show (hopM r.m r.to (m.steps + 1)).status = 0 from HZ.out]
          · have hz2 : (r.m.status == 0) = false := by simpa using hz
            have hz3 : (r.m.status != 0) = true := by simpa using hz
            have e1 : Hid (r.to = r.m.pc) := HSy hz
            clear hz ht HSy
            go_wp2
            go_ret
            refine ⟨rfl, s', ?_, HF3.out.1.set (Or.inl (Or.inl rfl)) _ _, HF3.out.2⟩
            have e2 : hopM r.m r.to (m.steps + 1) = { r.m with steps := m.steps + 1 } := by rw [e1.out]; rfl
            rw [e2]
            exact HQ3.out)
      · have C3 : ∀ W : World, QAt W base P s m → Calls Tryz.prog 34 #[.pointer (some ⟨P, 0, none⟩), .agg #[.int .i8 op, .int .i8 d, .int .i8 a, .int .i8 b, .int .i64 n]] W fun e w' => ∃ t, e = .returned (.tuple #[.int .i8 r.err, .int .i64 t]) ∧ Below W.heap.size W w' := fun W hW => (C2 W hW).mono fun e w' k => k.elim (fun ⟨_, t, k1, k2⟩ => ⟨t, k1, k2⟩) (fun k => absurd k.1 he)
        rw [if_neg he] at HSM
        rw [HSM.out]
        have he2 : (r.err != 0) = true := by simpa using he
        have he3 : (r.err == 0) = false := by simpa using he
        clear C2 HST HKp he
        generalize r.err = f at *
        go_enter Tryz.func12, Tryz.ntmps12
        go_wp2_with fail
        go_quiet (fail)
        go_wp2_with fail
        go_region_with (first
          | (go_at_call 28; refine (C1 _).mono ?_; rintro e w1 ⟨rfl, hb⟩; have h1 : QAt w1 base P s m := QAt.keep (by first | exact HQ0.out.drewN _ | exact (HQ0.out.drewN _).drew) hb; have HU1 : Hid (Upto (QFoot s P) w w1) := Upto.trans (by first | exact (Upto.refl _ _).drewN _ | exact ((Upto.refl _ _).drewN _).drew) (Upto.of hb); clear hb)
          | (go_at_call 34; refine (C3 _ (by first | exact h1 | exact h1.drew)).mono ?_; rintro e w2 ⟨t, rfl, hb2⟩))
        all_goals (
          have h2 : QAt w2 base P s m := h1.keep hb2
          have HU2 : Hid (Upto (QFoot s P) w w2) := HU1.out.trans (Upto.of hb2)
          obtain ⟨-, -, k2, -⟩ := h2.cells
          have g2 := h2.fro 2
          have HQ3 : Hid _ := h2.status f
          clear c0 c1 c2 c3 c4 c5 c6 c7 c8 C1 C3 t0 h1 h2 hb2
          go_wp2
          go_ret
          exact ⟨rfl, nowq_same HQ3.out (HU2.out.set (Or.inl (Or.inl rfl)) _ _)⟩)
    · have hp2 : (m.text.length : Int) ≤ (m.pc : Int) := by omega
      have hn0 : ¬ (m.pc : Int) < 0 := by omega
      have hd0 : decide ((m.pc : Int) < 0) = false := by simp
      have hd1 : decide (m.text.length ≤ m.pc) = true := by simp; omega
      have HSM : Hid (stepM m = endM m 2) := by
        have e : doM m = noD m 2 := by unfold doM; rw [if_pos (by omega)]
        unfold Hid stepM
        rw [if_pos hs, e, if_neg (show ¬ (noD m 2).err = 0 from (by decide : ¬ (2 : Int) = 0))]
        rfl
      rw [HSM.out]
      rw [hs] at c2
      have f2 := h.fro 2
      have HQ3 : Hid _ := h.status 2
      have HQ4 : Hid (QAt w base P s m) := h
      clear h
      go_enter Tryz.func12, Tryz.ntmps12
      go_wp2_with fail
      go_quiet (fail)
      go_wp2
      go_ret
      exact ⟨rfl, nowq_same ((HQ4.out.drewN _).status 2) (((Upto.refl _ _).drewN _).set (Or.inl (Or.inl rfl)) _ _)⟩
  · have hs2 : (m.status != 0) = true := by simpa using hs
    have hs3 : (m.status == 0) = false := by simpa using hs
    have HSM : Hid (stepM m = m) := step_done hs
    rw [HSM.out]
    have HQ4 : Hid (QAt w base P s m) := h
    clear h hs
    go_enter Tryz.func12, Tryz.ntmps12
    go_wp2
    go_ret
    exact ⟨rfl, nowq_same HQ4.out (Upto.refl _ _)⟩
end

end Go.Proofs.YtdlcejpfjlpclaaGreatDoor

namespace Go.Proofs.YtdlcejpfjlpclaaGreatDoor
open Go.RowKit

section
variable {w : World} {base P : Nat} {s : QLoc} {m : Mach}
theorem NowQ.trans {w1 w2 : World} {m1 m2 : Mach} {s1 : QLoc} (_a1 : QAt w1 base P s1 m1) (a2 : Upto (QFoot s P) w w1) (a3 : ∀ b, QFoot s1 P b → QFoot s P b ∨ w.heap.size ≤ b) (k : NowQ w1 base P s1 m2 w2) : NowQ w base P s m2 w2 := by
  obtain ⟨s2, b1, b2, b3⟩ := k
  refine ⟨s2, b1, a2.on b2 (fun x hx => a3 x hx), fun b hb => ?_⟩
  rcases b3 b hb with f | f
  · exact a3 b f
  · exact .inr (Nat.le_trans a2.size f)
theorem nowq_drewN {m1 : Mach} {w1 : World} (h : NowQ w base P s m1 w1) (n : Nat) : NowQ w base P s m1 (w1.drewN n) := by
  obtain ⟨s1, a1, a2, a3⟩ := h
  exact ⟨s1, a1.drewN n, a2.drewN n, a3⟩
def runB (w : World) (P : Nat) : Nat := match w.cell? ⟨P, 2, none⟩ with
  | some (.int .i8 z) => if z = 0 then 1 else 0
  | _ => 0
theorem runB_at {w : World} {P : Nat} {z : Int} (h : w.cell? ⟨P, 2, none⟩ = some (.int .i8 z)) : runB w P = if z = 0 then 1 else 0 := by unfold runB; rw [h]
def RanQ (w : World) (base P : Nat) (s : QLoc) (m : Mach) (k : Nat) (e : Ending) (w' : World) : Prop := e = .returned (.tuple #[.int .i64 (((runM k m).steps : Int) - (m.steps : Int)), .int .i8 (runM k m).status]) ∧ NowQ w base P s (runM k m) w'
theorem ranq_of {j k : Nat} {w' : World} {D : Nat} (hD : (runM j m).steps = m.steps + D) (hn : NowQ w base P s (runM j m) w') (hr : runM k m = runM j m) : RanQ w base P s m k (.returned (.tuple #[.int .i64 D, .int .i8 (runM j m).status])) w' := by
  unfold RanQ
  rw [hr]
  refine ⟨?_, hn⟩
  have e : (((runM j m).steps : Int) - (m.steps : Int)) = (D : Int) := by rw [hD]; omega
  rw [e]
theorem meas_good {D : Nat} {most z : Int} (h : (D : Int) < most) : 2 * (most.toNat - (intOf (.int .i64 ((D + 1 : Nat) : Int))).toNat) + (if z = 0 then 1 else 0) < 2 * (most.toNat - (intOf (.int .i64 (D : Int))).toNat) + 1 := by
  have e1 : (intOf (.int .i64 ((D + 1 : Nat) : Int))).toNat = D + 1 := rfl
  have e2 : (intOf (.int .i64 (D : Int))).toNat = D := rfl
  rw [e1, e2]
  split <;> omega
set_option maxRecDepth 100000 in
set_option maxHeartbeats 4000000 in
theorem qrun_any (h : QAt w base P s m) (hm : Fine m) (most : Int) (hN : m.steps + most.toNat < 1048576) : Calls Tryz.prog 15 #[.pointer (some ⟨P, 0, none⟩), .int .i64 most] w (RanQ w base P s m most.toNat) := by
  have HN : Hid (NowQ w base P s (runM 0 m) w) := nowq_same h (Upto.refl _ _)
  clear h
  go_enter Tryz.func15, Tryz.ntmps15
  go_wp2
  go_loopw [6] (fun i wr => ∃ k D : Nat, i = .int .i64 D ∧ k ≤ most.toNat ∧ Hid ((runM k m).steps = m.steps + D) ∧ Hid ((runM k m).status = 0 → D = k) ∧ D ≤ k ∧ Hid (NowQ w base P s (runM k m) wr)) (fun i wr => 2 * (most.toNat - (intOf i).toNat) + runB wr P)
  case atStart => exact ⟨0, 0, rfl, Nat.zero_le _, rfl, fun _ => rfl, Nat.le_refl _, HN⟩
  case round =>
    clear HN
    obtain ⟨k, D, rfl, hk, HD, HS, hDk, HN⟩ := hrel
    obtain ⟨s1, a1, a2, a3⟩ := HN.out
    obtain ⟨-, -, c2, c3, -⟩ := a1.cells
    have hfk := fine_run hm k
    obtain ⟨st0, st1, -⟩ := run_steps m k
    have HA : Hid (QAt wr base P s1 (runM k m) ∧ Upto (QFoot s P) w wr ∧ ∀ b, QFoot s1 P b → QFoot s P b ∨ w.heap.size ≤ b) := ⟨a1, a2, a3⟩
    have HRB : Hid (runB wr P = if (runM k m).status = 0 then 1 else 0) := runB_at c2
    by_cases hz : (runM k m).status = 0
    · have hD := HS.out hz
      subst hD
      have hz1 : Hid ((runM D m).status = 0) := hz
      by_cases hlt : (D : Int) < most
      · have C2 := qstep_any a1 hfk (by omega)
        rw [← run_snoc] at C2
        have HX : Hid ((runM (D + 1) m).steps = (runM D m).steps + 1 ∨ ((runM (D + 1) m).steps = (runM D m).steps ∧ ¬ (runM (D + 1) m).status = 0)) := by have e := step_steps (runM D m); rw [← run_snoc] at e; exact e
        have HDv := HD.out
        rw [HDv] at c3
        rw [hz] at c2
        have c3b : wr.cell? ⟨P, 3, none⟩ = some (.int .i64 ((m.steps : Int) + (D : Int))) := by rw [c3]; rfl
        have hsb : m.steps < 1048576 := by omega
        clear a1 a2 a3 hz hfk HDv c3
        rcases HX.out with hx | ⟨hx, hx2⟩
        · have hx3 : Hid ((runM (D + 1) m).steps = m.steps + (D + 1)) := by rw [Hid, hx, HD.out]; omega
          go_wp2_with fail
          refine C2.mono ?_
          rintro e w1 ⟨rfl, hn⟩
          have HN2 : Hid (NowQ w base P s (runM (D + 1) m) w1) := NowQ.trans HA.out.1 HA.out.2.1 HA.out.2.2 hn
          obtain ⟨s2, b1, -⟩ := hn
          obtain ⟨-, -, d2, d3, -⟩ := b1.cells
          rw [hx3.out] at d3
          have d3b : w1.cell? ⟨P, 3, none⟩ = some (.int .i64 ((m.steps : Int) + ((D : Int) + 1))) := by rw [d3]; rfl
          have HRB2 : Hid (runB w1 P = if (runM (D + 1) m).status = 0 then 1 else 0) := runB_at d2
          clear c2 c3b C2 HX hx b1 d2 d3
          go_wp2
          have e9 : (D : Int) + ((m.steps : Int) + ((D : Int) + 1)) - ((m.steps : Int) + (D : Int)) = ((D + 1 : Nat) : Int) := by omega
          rw [e9]
          refine ⟨⟨D + 1, D + 1, rfl, by omega, hx3, fun _ => rfl, Nat.le_refl _, HN2⟩, ?_⟩
          rw [HRB.out, HRB2.out, if_pos hz1.out]
          exact meas_good hlt
        · have hx3 : Hid ((runM (D + 1) m).steps = m.steps + D) := by rw [Hid, hx, HD.out]
          have hx4 : Hid (¬ (runM (D + 1) m).status = 0) := hx2
          go_wp2_with fail
          refine C2.mono ?_
          rintro e w1 ⟨rfl, hn⟩
          have HN2 : Hid (NowQ w base P s (runM (D + 1) m) w1) := NowQ.trans HA.out.1 HA.out.2.1 HA.out.2.2 hn
          obtain ⟨s2, b1, -⟩ := hn
          obtain ⟨-, -, d2, d3, -⟩ := b1.cells
          rw [hx3.out] at d3
          have d3b : w1.cell? ⟨P, 3, none⟩ = some (.int .i64 ((m.steps : Int) + (D : Int))) := by rw [d3]; rfl
          have HRB2 : Hid (runB w1 P = if (runM (D + 1) m).status = 0 then 1 else 0) := runB_at d2
          clear c2 c3b C2 HX hx hx2 b1 d2 d3
          go_wp2
          refine ⟨⟨D + 1, D, rfl, by omega, hx3, fun e => absurd e hx4.out, by omega, HN2⟩, ?_⟩
          rw [HRB.out, HRB2.out, if_pos hz1.out, if_neg hx4.out]
          exact Nat.lt_succ_self _
      · have HE : Hid (runM most.toNat m = runM D m) := by rw [show most.toNat = D by omega]; rfl
        have HR : Hid (∀ w2, NowQ w base P s (runM D m) w2 → RanQ w base P s m most.toNat (.returned (.tuple #[.int .i64 (D : Int), .int .i8 (runM D m).status])) w2) := fun w2 h2 => ranq_of HD.out h2 HE.out
        clear a1 a2 a3 hz hfk c3 HE HS
        generalize (runM D m).status = Z at *
        go_wp2_with fail
        go_quiet (fail)
        go_wp2
        go_ret2
        exact HR.out _ (nowq_drewN HN.out _)
    · have HE : Hid (runM most.toNat m = runM k m) := run_end hz hk
      have HR : Hid (∀ w2, NowQ w base P s (runM k m) w2 → RanQ w base P s m most.toNat (.returned (.tuple #[.int .i64 (D : Int), .int .i8 (runM k m).status])) w2) := fun w2 h2 => ranq_of HD.out h2 HE.out
      have hz2 : ((runM k m).status != 0) = true := by simpa using hz
      have hz3 : ((runM k m).status == 0) = false := by simpa using hz
      clear a1 a2 a3 hz hfk c3 HE HS
      generalize (runM k m).status = Z at *
      by_cases hlt : (D : Int) < most
      · go_wp2_with fail
        go_quiet (fail)
        go_wp2
        go_ret2
        exact HR.out _ (nowq_drewN HN.out _)
      · go_wp2_with fail
        go_quiet (fail)
        go_wp2
        go_ret2
        exact HR.out _ (nowq_drewN HN.out _)
end

end Go.Proofs.YtdlcejpfjlpclaaGreatDoor

namespace Go.Proofs.YtdlcejpfjlpclaaGreatDoor
open Go.RowKit

section
variable {w : World} {base P : Nat} {s : Loc} {m : Mach}
theorem PAt.ins (h : PAt w base P s m) {k : Nat} (hk : k < m.text.length) : ∃ g, s.T = some ⟨g, 0, none⟩ ∧ m.text.length ≤ s.tc ∧ w.cell? ⟨g, k * 5, none⟩ = some (.int .i8 (dOp (nth m.text k))) ∧ w.cell? ⟨g, k * 5 + 1, none⟩ = some (.int .i8 (dD (nth m.text k))) ∧ w.cell? ⟨g, k * 5 + 2, none⟩ = some (.int .i8 (dA (nth m.text k))) ∧ w.cell? ⟨g, k * 5 + 3, none⟩ = some (.int .i8 (dB (nth m.text k))) ∧ w.cell? ⟨g, k * 5 + 4, none⟩ = some (.int .i64 (dN (nth m.text k))) := by
  obtain ⟨e0, e1, e2, e3, e4⟩ := nVals_get hk
  rcases h.text.2 with ⟨e, e0⟩ | ⟨g, cap, cur, e, hb, hg, hc, _, hs, ht⟩
  · omega
  · simp only [Value.slice.injEq] at e
    obtain ⟨eT, -, eC⟩ := e
    subst eC
    have q : ∀ {i : Nat} {v : Value}, i < m.text.length * 5 → (nVals m.text)[i]? = some v → cur[i]? = some v := by
      intro i v hi hv
      rw [← ht, List.getElem?_take_of_lt hi] at hv
      simpa using hv
    exact ⟨g, eT, hc, box_at hg (q (by omega) e0), box_at hg (q (by omega) e1), box_at hg (q (by omega) e2), box_at hg (q (by omega) e3), box_at hg (q (by omega) e4)⟩
set_option maxHeartbeats 1000000 in
theorem here_end (h : PAt w base P s m) (hm : Fine m) (hp : m.text.length ≤ m.pc) : Calls Tryz.prog 33 #[.pointer (some ⟨P, 0, none⟩)] w fun e w' => e = .returned (.agg #[.int .i8 0, .int .i8 0, .int .i8 0, .int .i8 0, .int .i64 0]) ∧ Below w.heap.size w w' := by
  obtain ⟨c0, c1, c34, c35, c36, c37, c38, c39⟩ := h.cells hm.sixteen
  have hP := h.lt
  have hp2 : (m.text.length : Int) ≤ (m.pc : Int) := by omega
  clear h
  go_enter Tryz.func33, Tryz.ntmps33
  go_wp2_with fail
  go_quiet (fail)
  go_wp2
  refine bodyPost_ret (v := .agg #[.int .i8 0, .int .i8 0, .int .i8 0, .int .i8 0, .int .i64 0]) (by simp [results, Tryz.results33, go_sem]) rfl ⟨rfl, ?_⟩
  repeat (first | exact Below.refl _ _ | apply lb_new | apply below_drewN | apply lb_alloc)
set_option maxHeartbeats 1000000 in
theorem here_ins (h : PAt w base P s m) (hm : Fine m) (hp : m.pc < m.text.length) : Calls Tryz.prog 33 #[.pointer (some ⟨P, 0, none⟩)] w fun e w' => e = .returned (.agg #[.int .i8 (dOp (nth m.text m.pc)), .int .i8 (dD (nth m.text m.pc)), .int .i8 (dA (nth m.text m.pc)), .int .i8 (dB (nth m.text m.pc)), .int .i64 (dN (nth m.text m.pc))]) ∧ Below w.heap.size w w' := by
  obtain ⟨g, hT, hcap, t0, t1, t2, t3, t4⟩ := h.ins hp
  obtain ⟨c0, c1, c34, c35, c36, c37, c38, c39⟩ := h.cells hm.sixteen
  rw [hT] at c0
  have hP := h.lt
  have hg : g < w.heap.size := World.block_lt_of_cell? w _ t0
  have hp2 : (m.pc : Int) < (m.text.length : Int) := by omega
  have hp3 : (0 : Int) ≤ (m.pc : Int) := Int.natCast_nonneg _
  clear h hT
  generalize dOp (nth m.text m.pc) = op at *
  generalize dD (nth m.text m.pc) = d at *
  generalize dA (nth m.text m.pc) = a at *
  generalize dB (nth m.text m.pc) = b at *
  generalize dN (nth m.text m.pc) = n at *
  go_enter Tryz.func33, Tryz.ntmps33
  go_wp2_with fail
  go_quiet (fail)
  go_wp2_with fail
  go_region
  all_goals (
    go_wp2
    refine bodyPost_ret (v := .agg #[.int .i8 op, .int .i8 d, .int .i8 a, .int .i8 b, .int .i64 n]) (by simp [results, Tryz.results33, go_sem]) rfl ⟨rfl, ?_⟩
    repeat (first | exact Below.refl _ _ | apply lb_new | apply below_drewN | apply lb_alloc))
end

def deV : Array Value := #[.func (.func 75) #[] #[], .func (.func 76) #[] #[], .func (.func 77) #[] #[], .func (.func 78) #[] #[], .func (.func 78) #[] #[], .func (.func 78) #[] #[], .func (.func 78) #[] #[], .func (.func 78) #[] #[], .func (.func 78) #[] #[], .func (.func 78) #[] #[], .func (.func 78) #[] #[], .func (.func 79) #[] #[], .func (.func 80) #[] #[], .func (.func 81) #[] #[], .func (.func 82) #[] #[], .func (.func 83) #[] #[], .func (.func 84) #[] #[], .func (.func 85) #[] #[], .func (.func 86) #[] #[], .func (.func 87) #[] #[], .func (.func 88) #[] #[], .func (.func 89) #[] #[]]
def z22 : Array Value := #[.nilFunc, .nilFunc, .nilFunc, .nilFunc, .nilFunc, .nilFunc, .nilFunc, .nilFunc, .nilFunc, .nilFunc, .nilFunc, .nilFunc, .nilFunc, .nilFunc, .nilFunc, .nilFunc, .nilFunc, .nilFunc, .nilFunc, .nilFunc, .nilFunc, .nilFunc]
theorem deeds_new (w : World) (o : Obj) : (w.alloc o).heap[w.heap.size]? = some o := heap_alloc_new w o
theorem deeds_res (w1 : World) (g : Nat) (h : w1.heap[g]? = some (.cells deV 111 (0, 0))) : (results Tryz.f64 #[.pointer (some ⟨g, 0, none⟩), .agg deV]).run Tryz.prog w1 = .ok (.agg deV) w1 := by
  have hl := run_loadVar_row (P := Tryz.prog) w1 g 111 111 deV (0, 0) _ h Tryz.underlying111 rfl (by kernel_rfl)
  have ha : (asAddr (Value.pointer (some ⟨g, 0, none⟩))).run Tryz.prog w1 = .ok ⟨g, 0, none⟩ w1 := rfl
  have hm : (results Tryz.f64 #[.pointer (some ⟨g, 0, none⟩), .agg deV]) = (do
      let vs ← (Tryz.f64.results.mapM fun
        | .tmp t => pure ((#[Value.pointer (some ⟨g, 0, none⟩), .agg deV] : Array Value).getD t undef)
        | .cell a t => do loadVar t (← asAddr ((#[Value.pointer (some ⟨g, 0, none⟩), .agg deV] : Array Value).getD a undef)) : Sem (Array Value))
      pure (if h : vs.size = 1 then vs[0] else .tuple vs)) := rfl
  rw [hm, Tryz.results64]
  have hg0 : (#[Value.pointer (some ⟨g, 0, none⟩), Value.agg deV] : Array Value).getD 0 undef = .pointer (some ⟨g, 0, none⟩) := rfl
  simp only [List.mapM_toArray, List.mapM_cons, List.mapM_nil, map_eq_pure_bind, bind_assoc, pure_bind, Sem.run_bind, Sem.run_pure, Result.andThen_ok, hg0, ha, hl]
  rfl
set_option maxRecDepth 100000 in
theorem deeds_any (w : World) : Calls Tryz.prog 64 #[] w fun e w' => e = .returned (.agg deV) ∧ Below w.heap.size w w' := by
  go_enter Tryz.func64, Tryz.ntmps64
  go_upto_region 1 with fail
  rename_i hK
  apply wp_region_lit
  refine wpList_buildTo rfl 111 _ rfl (some 1) rfl deV (by kernel_rfl) ?_
  refine wpList_store_row rfl 111 _ _ rfl w.heap.size deV rfl rfl 111 z22 (deeds_new _ _) (by kernel_rfl) (by kernel_rfl) (by kernel_rfl) ?_
  apply wpList_nil
  refine hK _ _ (wp_ret ?_)
  exact bodyPost_ret (v := .agg deV) (deeds_res _ _ (setRow_heap _ _ z22 _ _ _ (deeds_new _ _))) rfl ⟨rfl, below_setRow (lb_alloc (Below.refl _ _) _) (Nat.le_refl _) _⟩
theorem index_de0 (w : World) : (Instr.index 111 (.agg deV) (.int .i8 0)).run Tryz.prog w = .ok (.func (.func 75) #[] #[]) w := by kernel_rfl
theorem index_de1 (w : World) : (Instr.index 111 (.agg deV) (.int .i8 1)).run Tryz.prog w = .ok (.func (.func 76) #[] #[]) w := by kernel_rfl
theorem index_de2 (w : World) : (Instr.index 111 (.agg deV) (.int .i8 2)).run Tryz.prog w = .ok (.func (.func 77) #[] #[]) w := by kernel_rfl
theorem index_de3 (w : World) : (Instr.index 111 (.agg deV) (.int .i8 3)).run Tryz.prog w = .ok (.func (.func 78) #[] #[]) w := by kernel_rfl
theorem index_de4 (w : World) : (Instr.index 111 (.agg deV) (.int .i8 4)).run Tryz.prog w = .ok (.func (.func 78) #[] #[]) w := by kernel_rfl
theorem index_de5 (w : World) : (Instr.index 111 (.agg deV) (.int .i8 5)).run Tryz.prog w = .ok (.func (.func 78) #[] #[]) w := by kernel_rfl
theorem index_de6 (w : World) : (Instr.index 111 (.agg deV) (.int .i8 6)).run Tryz.prog w = .ok (.func (.func 78) #[] #[]) w := by kernel_rfl
theorem index_de7 (w : World) : (Instr.index 111 (.agg deV) (.int .i8 7)).run Tryz.prog w = .ok (.func (.func 78) #[] #[]) w := by kernel_rfl
theorem index_de8 (w : World) : (Instr.index 111 (.agg deV) (.int .i8 8)).run Tryz.prog w = .ok (.func (.func 78) #[] #[]) w := by kernel_rfl
theorem index_de9 (w : World) : (Instr.index 111 (.agg deV) (.int .i8 9)).run Tryz.prog w = .ok (.func (.func 78) #[] #[]) w := by kernel_rfl
theorem index_de10 (w : World) : (Instr.index 111 (.agg deV) (.int .i8 10)).run Tryz.prog w = .ok (.func (.func 78) #[] #[]) w := by kernel_rfl
theorem index_de11 (w : World) : (Instr.index 111 (.agg deV) (.int .i8 11)).run Tryz.prog w = .ok (.func (.func 79) #[] #[]) w := by kernel_rfl
theorem index_de12 (w : World) : (Instr.index 111 (.agg deV) (.int .i8 12)).run Tryz.prog w = .ok (.func (.func 80) #[] #[]) w := by kernel_rfl
theorem index_de13 (w : World) : (Instr.index 111 (.agg deV) (.int .i8 13)).run Tryz.prog w = .ok (.func (.func 81) #[] #[]) w := by kernel_rfl
theorem index_de14 (w : World) : (Instr.index 111 (.agg deV) (.int .i8 14)).run Tryz.prog w = .ok (.func (.func 82) #[] #[]) w := by kernel_rfl
theorem index_de15 (w : World) : (Instr.index 111 (.agg deV) (.int .i8 15)).run Tryz.prog w = .ok (.func (.func 83) #[] #[]) w := by kernel_rfl
theorem index_de16 (w : World) : (Instr.index 111 (.agg deV) (.int .i8 16)).run Tryz.prog w = .ok (.func (.func 84) #[] #[]) w := by kernel_rfl
theorem index_de17 (w : World) : (Instr.index 111 (.agg deV) (.int .i8 17)).run Tryz.prog w = .ok (.func (.func 85) #[] #[]) w := by kernel_rfl
theorem index_de18 (w : World) : (Instr.index 111 (.agg deV) (.int .i8 18)).run Tryz.prog w = .ok (.func (.func 86) #[] #[]) w := by kernel_rfl
theorem index_de19 (w : World) : (Instr.index 111 (.agg deV) (.int .i8 19)).run Tryz.prog w = .ok (.func (.func 87) #[] #[]) w := by kernel_rfl
theorem index_de20 (w : World) : (Instr.index 111 (.agg deV) (.int .i8 20)).run Tryz.prog w = .ok (.func (.func 88) #[] #[]) w := by kernel_rfl
theorem index_de21 (w : World) : (Instr.index 111 (.agg deV) (.int .i8 21)).run Tryz.prog w = .ok (.func (.func 89) #[] #[]) w := by kernel_rfl

end Go.Proofs.YtdlcejpfjlpclaaGreatDoor
