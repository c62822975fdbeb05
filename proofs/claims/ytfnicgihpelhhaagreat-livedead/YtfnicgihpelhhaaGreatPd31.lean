/-
  The program's machine: every instruction done. What recovers a fault: the deferred closure of Step. Step of the program's machine. Lists of the program's machine that grow.
-/
import Derived.Test.YtfnicgihpelhhaaGreatProg
import Derived.WalkKit
import Derived.WalkSpells
import Derived.WalkLawsBesides
import Derived.RowKit3
import Derived.Below
import Derived.Deep.QuietTactic
import Derived.BigQuiet
import Derived.WalkSmall
import Derived.Laws.Rows
import Derived.Deep.RegionHeld3
import Derived.Laws.Pointers
import Derived.Outline
import Derived.StillTactics
import Derived.Test.YtfnicgihpelhhaaGreatPd24
import Derived.Test.YtfnicgihpelhhaaGreatPd25
import Derived.Test.YtfnicgihpelhhaaGreatPd26
import Derived.Test.YtfnicgihpelhhaaGreatPd27
import Derived.Test.YtfnicgihpelhhaaGreatPd28
import Derived.Test.YtfnicgihpelhhaaGreatPd29
import Derived.Test.YtfnicgihpelhhaaGreatPd30
import Derived.Defers
import Derived.Recover
import Derived.Test.YtfnicgihpelhhaaGreatPd18
import Derived.Test.YtfnicgihpelhhaaGreatPd23
namespace Go.Proofs.YtfnicgihpelhhaaGreat
open Go.RowKit

theorem cases22 {op : Int} (h0 : 0 ≤ op) (h1 : op ≤ 21) : op = 0 ∨ op = 1 ∨ op = 2 ∨ op = 3 ∨ op = 4 ∨ op = 5 ∨ op = 6 ∨ op = 7 ∨ op = 8 ∨ op = 9 ∨ op = 10 ∨ op = 11 ∨ op = 12 ∨ op = 13 ∨ op = 14 ∨ op = 15 ∨ op = 16 ∨ op = 17 ∨ op = 18 ∨ op = 19 ∨ op = 20 ∨ op = 21 := by omega

section
variable {w : World} {base P : Nat} {s : Loc} {m : Mach}
theorem deed_at (h : PAt w base P s m) (hm : Fine m) (hp : m.pc < 16384) (hst : m.steps < 1048576) {op d a b n : Int} (hi : InsIn op d a b n) : Calls Tryz.prog 65 #[.pointer (some ⟨P, 0, none⟩), .agg #[.int .i8 op, .int .i8 d, .int .i8 a, .int .i8 b, .int .i64 n]] w (DidP w base P s m (deedM m op d a b n)) := by
  have h1 := hi.o1
  by_cases h0 : op < 0
  · have e : deedM m op d a b n = noD m 3 := by unfold deedM; rw [if_pos h0]
    rw [e]
    exact do_neg h0
  rcases cases22 (by omega) h1 with e | e | e | e | e | e | e | e | e | e | e | e | e | e | e | e | e | e | e | e | e | e
  · subst e
    exact do_trap h (by decide) index_de0 (fun W hW => trap_any hW _ _ _ _ _)
  · subst e
    exact do_set h (by decide) index_de1 (fun W hW => set_any hW hm hp hi)
  · subst e
    exact do_move h (by decide) index_de2 (fun W hW => move_any hW hm hp hi)
  · subst e
    exact do_calc h (by decide) index_de3 (fun W hW => calc_did hW hm hp hi)
  · subst e
    exact do_calc h (by decide) index_de4 (fun W hW => calc_did hW hm hp hi)
  · subst e
    exact do_calc h (by decide) index_de5 (fun W hW => calc_did hW hm hp hi)
  · subst e
    exact do_calc h (by decide) index_de6 (fun W hW => calc_did hW hm hp hi)
  · subst e
    exact do_calc h (by decide) index_de7 (fun W hW => calc_did hW hm hp hi)
  · subst e
    exact do_calc h (by decide) index_de8 (fun W hW => calc_did hW hm hp hi)
  · subst e
    exact do_calc h (by decide) index_de9 (fun W hW => calc_did hW hm hp hi)
  · subst e
    exact do_calc h (by decide) index_de10 (fun W hW => calc_did hW hm hp hi)
  · subst e
    exact do_load h (by decide) index_de11 (fun W hW => load_did hW hm hp hi)
  · subst e
    exact do_store h (by decide) index_de12 (fun W hW => store_did hW hm hp hi)
  · subst e
    exact do_in h (by decide) index_de13 (fun W hW => in_did hW hm hp hi)
  · subst e
    exact do_out h (by decide) index_de14 (fun W hW => out_did hW hm hp hi hst)
  · subst e
    exact do_jump h (by decide) index_de15 (fun W hW => jump_any hW hm hp hi rfl)
  · subst e
    exact do_zero h (by decide) index_de16 (fun W hW => zero_any hW hm hp hi rfl)
  · subst e
    exact do_call h (by decide) index_de17 (fun W hW => call_any hW hm hp hi rfl)
  · subst e
    exact do_calls h (by decide) index_de18 (fun W hW => calls_any hW hm hp hi)
  · subst e
    exact do_goTo h (by decide) index_de19 (fun W hW => goto_any hW hm hp hi)
  · subst e
    exact do_place h (by decide) index_de20 (fun W hW => place_any hW hm hp hi)
  · subst e
    exact do_halt h (by decide) index_de21 (fun W hW => halt_any hW hm hp hi)
end

theorem do_here {w : World} {base P : Nat} {s : Loc} {m : Mach} (h : PAt w base P s m) (hm : Fine m) (hst : m.steps < 1048576) (hp : m.pc < m.text.length) : Calls Tryz.prog 65 #[.pointer (some ⟨P, 0, none⟩), .agg #[.int .i8 (dOp (nth m.text m.pc)), .int .i8 (dD (nth m.text m.pc)), .int .i8 (dA (nth m.text m.pc)), .int .i8 (dB (nth m.text m.pc)), .int .i64 (dN (nth m.text m.pc))]] w (DidP w base P s m (doM m)) := by
  have e : doM m = deedM m (dOp (nth m.text m.pc)) (dD (nth m.text m.pc)) (dA (nth m.text m.pc)) (dB (nth m.text m.pc)) (dN (nth m.text m.pc)) := by unfold doM; rw [if_neg (by omega)]
  rw [e]
  obtain ⟨v0, v1⟩ := hm.words m.pc hp
  have := hm.text
  exact deed_at h hm (by omega) hst (ins_in v0 v1)
theorem do_end {w : World} {base P : Nat} {s : Loc} {m : Mach} (h : PAt w base P s m) (hp : m.text.length ≤ m.pc) : Calls Tryz.prog 65 #[.pointer (some ⟨P, 0, none⟩), .agg #[.int .i8 0, .int .i8 0, .int .i8 0, .int .i8 0, .int .i64 0]] w (DidP w base P s m (doM m)) := by
  have e : doM m = noD m 2 := by unfold doM; rw [if_pos hp]
  rw [e]
  exact do_trap h (by decide) index_de0 (fun W hW => trap_any hW _ _ _ _ _)
/-- What stands at the machine's place, and what doing it does. -/
theorem here_do {w : World} {base P : Nat} {s : Loc} {m : Mach} (_h : PAt w base P s m) (hm : Fine m) (hst : m.steps < 1048576) : ∃ op d a b n : Int, (∀ W : World, PAt W base P s m → Calls Tryz.prog 66 #[.pointer (some ⟨P, 0, none⟩)] W fun e w' => e = .returned (.agg #[.int .i8 op, .int .i8 d, .int .i8 a, .int .i8 b, .int .i64 n]) ∧ Below W.heap.size W w') ∧ (∀ W : World, PAt W base P s m → Calls Tryz.prog 65 #[.pointer (some ⟨P, 0, none⟩), .agg #[.int .i8 op, .int .i8 d, .int .i8 a, .int .i8 b, .int .i64 n]] W (DidP W base P s m (doM m))) := by
  by_cases hp : m.pc < m.text.length
  · exact ⟨_, _, _, _, _, fun W hW => here_ins hW hm hp, fun W hW => do_here hW hm hst hp⟩
  · exact ⟨_, _, _, _, _, fun W hW => here_end hW hm (by omega), fun W hW => do_end hW (by omega)⟩





end Go.Proofs.YtfnicgihpelhhaaGreat

namespace Go.Proofs.YtfnicgihpelhhaaGreat
open Go.RowKit

theorem ta_nil (w : World) : (Instr.typeAssert .nilIface 20 113 true).run Tryz.prog w = .ok (.tuple #[.int .i8 0, .bool false]) w := by kernel_rfl
theorem ta_stop (e : Int) (w : World) : (Instr.typeAssert (.iface 113 (.int .i8 e)) 20 113 true).run Tryz.prog w = .ok (.tuple #[.int .i8 e, .bool true]) w := by kernel_rfl
set_option maxRecDepth 100000 in
set_option maxHeartbeats 1000000 in
theorem catch_idle (p q : Addr) (w : World) :
    CallsD Tryz.prog 64 #[.pointer (some p), .pointer (some q)] .returning w fun e u' w' => e = .returned (.tuple #[]) ∧ u' = .returning ∧ w' = w := by
  refine callsD_of_wpS Tryz.func64 rfl fun c₀ cs hu => ?_
  apply wpS_seq
  apply wpS_region
  simp [wpOpsS, go_sem, recoverD, hu, Tryz.ntmps64, Exit.thenS, ta_nil]
  apply wpS_seq
  apply wpS_region
  simp [wpOpsS, go_sem, Exit.thenS]
  refine wpS_cond (t := false) (by simp [Act.eval, Array.replicate]) ?_
  simp only [Bool.false_eq_true, if_false]
  refine wpS_of_wp (wp_skip ?_)
  cases c₀
  simp_all [bodyPostS, results, Tryz.results64]
set_option maxRecDepth 100000 in
set_option maxHeartbeats 1000000 in
theorem catch_stop {base P : Nat} {s : Loc} {m : Mach} (g1 g2 : Nat) (e : Int) (x : Value) (older : List PanicEntry) (w : World) (h : PAt w base P s m) (hm : m.regs.length = 16) (hb1 : w.heap[g1]? = some (.cells #[.pointer (some ⟨P, 0, none⟩)] 54 (0, 0))) (hb2 : w.heap[g2]? = some (.cells #[x] 48 (0, 0))) (_h2 : g2 ≠ P) :
    CallsD Tryz.prog 64 #[.pointer (some ⟨g1, 0, none⟩), .pointer (some ⟨g2, 0, none⟩)] (.panicking ({ v := .iface 113 (.int .i8 e), recovered := false } :: older)) w fun r u' w' =>
      r = .returned (.tuple #[]) ∧ u' = .panicking ({ v := .iface 113 (.int .i8 e), recovered := true } :: older) ∧ w' = (w.setCell ⟨P, 39, none⟩ (.int .i8 e)).setCell ⟨g2, 0, none⟩ (.int .i8 e) := by
  refine callsD_of_wpS Tryz.func64 rfl fun c₀ cs hu => ?_
  have d1 : w.cell? ⟨g1, 0, none⟩ = some (.pointer (some ⟨P, 0, none⟩)) := box_at hb1 rfl
  have d2 : w.cell? ⟨g2, 0, none⟩ = some x := box_at hb2 rfl
  have f2 : w.frozen? ⟨g2, 0, none⟩ = false := box_fro hb2 0
  obtain ⟨c0, c1, c34, c35, c36, c37, c38, c39⟩ := h.cells hm
  have f39 := h.fro 39
  have hP := h.lt
  have n1 : g1 ≠ P := fun e => by have k := h.box; rw [← e, hb1] at k; simp at k
  have d3 : (w.setCell ⟨P, 39, none⟩ (.int .i8 e)).cell? ⟨g1, 0, none⟩ = some (.pointer (some ⟨P, 0, none⟩)) := by simp [go_sem, d1]
  have d4 : (w.setCell ⟨P, 39, none⟩ (.int .i8 e)).cell? ⟨P, 39, none⟩ = some (.int .i8 e) := by simp [go_sem, c39]
  have d5 : (w.setCell ⟨P, 39, none⟩ (.int .i8 e)).cell? ⟨g2, 0, none⟩ = some x := by simp [go_sem, d2]
  have f5 : (w.setCell ⟨P, 39, none⟩ (.int .i8 e)).frozen? ⟨g2, 0, none⟩ = false := by simp [go_sem, f2]
  clear h hb1 hb2
  apply wpS_seq
  apply wpS_region
  simp [wpOpsS, go_sem, recoverD, hu, Tryz.ntmps64, Exit.thenS, ta_stop]
  apply wpS_seq
  apply wpS_region
  simp [wpOpsS, go_sem, Exit.thenS]
  refine wpS_cond (t := true) (by simp [Act.eval, Array.replicate]) ?_
  simp only [if_true]
  apply wpS_seq
  apply wpS_region
  simp [wpOpsS, go_sem, Exit.thenS, d1, c39, f39]
  apply wpS_region
  simp [wpOpsS, go_sem, d3, d4, d5, f5, bodyPostS, results, Tryz.results64, Array.replicate]





end Go.Proofs.YtfnicgihpelhhaaGreat

namespace Go.Proofs.YtfnicgihpelhhaaGreat
open Go.RowKit

section
variable {w : World} {base P : Nat} {s : Loc} {m : Mach}
/-- What a step leaves. -/
def NowP (w : World) (base P : Nat) (s : Loc) (m' : Mach) (w' : World) : Prop := ∃ s', PAt w' base P s' m' ∧ Upto (Foot s P) w w' ∧ ∀ b, Foot s' P b → Foot s P b ∨ w.heap.size ≤ b
theorem now_same {m' : Mach} {w' : World} (h : PAt w' base P s m') (hu : Upto (Foot s P) w w') : NowP w base P s m' w' := ⟨s, h, hu, fun _ h => .inl h⟩
theorem newAt {w : World} {n : Nat} {o : Obj} (h : w.heap.size = n) : (w.alloc o).heap[n]? = some o := by subst h; exact heap_alloc_new _ _
theorem oldAt {w : World} {B : Nat} {o o' : Obj} (h : w.heap[B]? = some o) : (w.alloc o').heap[B]? = some o := ((lb_alloc (Below.refl _ _) o').block B (Array.getElem?_eq_some_iff.1 h).1).trans h
theorem int_cell {w : World} {B : Nat} {x : Value} {t : TypeId} (h : w.heap[B]? = some (.cells #[x] t (0, 0))) : w.cell? ⟨B, 0, none⟩ = some x := box_at h rfl
set_option maxRecDepth 100000 in
theorem leave_st {R : Ending → World → Prop} {wx : World} {tmps : Array Value} {g2 : Nat} {x : Value} (h2 : tmps[2]? = some (.pointer (some ⟨g2, 0, none⟩))) (hx : wx.heap[g2]? = some (.cells #[x] 48 (0, 0))) (hR : R (.returned x) wx) : Leaves Tryz.prog Tryz.f38 tmps R [] .returning wx := by
  have x0 := int_cell hx
  clear hx
  refine ⟨_, ?_, hR⟩
  simp [results, Tryz.results38, go_sem, h2, x0]
set_option maxRecDepth 100000 in
set_option maxHeartbeats 4000000 in
theorem step_ended (h : PAt w base P s m) (hm : Fine m) (hs : ¬ m.status = 0) : Calls Tryz.prog 38 #[.pointer (some ⟨P, 0, none⟩)] w fun e w' => e = .returned (.int .i8 m.status) ∧ Below w.heap.size w w' := by
  have hs2 : (m.status != 0) = true := by simpa using hs
  have hs3 : (m.status == 0) = false := by simpa using hs
  obtain ⟨W0, HW⟩ : ∃ W0, Hid ((w.alloc (.cells #[.pointer (some ⟨P, 0, none⟩)] 54)).alloc (.cells #[.int .i8 0] 48) = W0) := ⟨_, rfl⟩
  have h0 : PAt W0 base P s m := by rw [← HW.out]; exact (h.alloc _).alloc _
  have HB0 : Hid (Below w.heap.size w W0) := by unfold Hid; rw [← HW.out]; exact lb_alloc (lb_alloc (Below.refl _ _) _) _
  have b1 : W0.cell? ⟨w.heap.size, 0, none⟩ = some (.pointer (some ⟨P, 0, none⟩)) := by rw [← HW.out]; simp [go_sem]
  have HX : Hid (W0.heap[w.heap.size + 1]? = some (.cells #[.int .i8 0] 48 (0, 0))) := by unfold Hid; rw [← HW.out]; exact newAt (by simp)
  have x0 := int_cell HX.out
  have x1 := box_fro HX.out 0
  obtain ⟨c0, c1, c34, c35, c36, c37, c38, c39⟩ := h0.cells hm.sixteen
  have C1 := made_yes h0 hm
  have C2 := status_yes h0 hm
  go_enter_defers Tryz.func38, Tryz.ntmps38
  go_upto_region 1 with fail
  rw [HW.out]
  clear HW
  go_wp2_with (first
    | (go_at_call 62; refine C1.mono ?_; rintro e w1 ⟨rfl, rfl⟩)
    | (go_at_call 63; refine C2.mono ?_; rintro e w1 ⟨rfl, rfl⟩))
  unfold bodyPostD
  refine leave_st (g2 := w.heap.size + 1) (x := .int .i8 m.status) rfl (box_set HX.out 0 _) ?_
  refine ⟨rfl, ?_⟩
  exact HB0.out.setCell (p := ⟨w.heap.size + 1, 0, none⟩) (Nat.le_succ _) _
set_option maxRecDepth 100000 in
set_option maxHeartbeats 4000000 in
theorem step_runs (h : PAt w base P s m) (hm : Fine m) (hst : m.steps < 1048576) (hs : m.status = 0) (he : (doM m).err = 0) : Calls Tryz.prog 38 #[.pointer (some ⟨P, 0, none⟩)] w fun e w' => e = .returned (.int .i8 (stepM m).status) ∧ NowP w base P s (stepM m) w' := by
  have HE : Hid (stepM m = hopM (doM m).m (doM m).to (m.steps + 1)) := by unfold Hid stepM; rw [if_pos hs, if_pos he]
  have HK : Hid (Kept m (doM m)) := do_kept hm he
  obtain ⟨op, d, a, b, n, D1, D2⟩ := here_do h hm hst
  have D3 : ∀ W : World, PAt W base P s m → Calls Tryz.prog 65 #[.pointer (some ⟨P, 0, none⟩), .agg #[.int .i8 op, .int .i8 d, .int .i8 a, .int .i8 b, .int .i64 n]] W fun e w' => e = .returned (.int .i64 (doM m).to) ∧ DoneP W base P s (doM m) w' := fun W hW => (D2 W hW).mono fun e w' k => k.elim (fun k => absurd he k.1) (fun k => k.2)
  rw [HE.out]
  clear he D2
  have h16 : Hid ((doM m).m.regs.length = 16) := HK.out.fine.sixteen
  have hks : Hid ((doM m).m.steps = m.steps) := HK.out.steps
  generalize doM m = r at *
  obtain ⟨W0, HW⟩ : ∃ W0, Hid ((w.alloc (.cells #[.pointer (some ⟨P, 0, none⟩)] 54)).alloc (.cells #[.int .i8 0] 48) = W0) := ⟨_, rfl⟩
  have h0 : PAt W0 base P s m := by rw [← HW.out]; exact (h.alloc _).alloc _
  have HB0 : Hid (Below w.heap.size w W0) := by unfold Hid; rw [← HW.out]; exact lb_alloc (lb_alloc (Below.refl _ _) _) _
  have HX1 : Hid (W0.heap[w.heap.size]? = some (.cells #[.pointer (some ⟨P, 0, none⟩)] 54 (0, 0))) := by unfold Hid; rw [← HW.out]; exact oldAt (newAt rfl)
  have HX : Hid (W0.heap[w.heap.size + 1]? = some (.cells #[.int .i8 0] 48 (0, 0))) := by unfold Hid; rw [← HW.out]; exact newAt (by simp)
  have b1 := int_cell HX1.out
  have x0 := int_cell HX.out
  have x1 := box_fro HX.out 0
  have hF1 : ¬ Foot s P w.heap.size := fun hb => Nat.lt_irrefl _ (h.foot hb).2
  have HF2 : Hid (¬ Foot s P (w.heap.size + 1)) := fun hb => by have := (h.foot hb).2; omega
  obtain ⟨c0, c1, c34, c35, c36, c37, c38, c39⟩ := h0.cells hm.sixteen
  rw [hs] at c39
  have C1 := made_yes h0 hm
  have hmf : ∀ (fn : Fn) (first cap : Array Value) (w : World), (Instr.makeFunc fn first cap).run Tryz.prog w = .ok (.func fn first cap) w := fun _ _ _ _ => rfl
  have hU0 := Upto.refl (Foot s P) W0
  go_enter_defers Tryz.func38, Tryz.ntmps38
  go_upto_region 1 with fail
  rw [HW.out]
  clear HW
  go_upto_region 4 with (first
    | (go_at_call 62; refine C1.mono ?_; rintro e w1 ⟨rfl, hw1⟩; have hw1 := hw1.symm; subst hw1))
  clear c0 c1 c34 c35 c36 c37 c38 c39 C1
  go_region_held3 (fun W => Upto (Foot s P) W0 W ∧ W.cell? ⟨w.heap.size, 0, none⟩ = some (.pointer (some ⟨P, 0, none⟩)))
    (first | exact ⟨(hU2.set (Or.inl (Or.inl rfl)) _ _), upto_cell (hU2.set (Or.inl (Or.inl rfl)) _ _) hF1 b1⟩ | exact ⟨hU2, upto_cell hU2 hF1 b1⟩ | exact ⟨hU2.drew, upto_cell hU2.drew hF1 b1⟩ | exact ⟨hU1, upto_cell hU1 hF1 b1⟩ | exact ⟨hU1.drew, upto_cell hU1.drew hF1 b1⟩ | exact ⟨hU0, upto_cell hU0 hF1 b1⟩ | exact ⟨hU0.drew, upto_cell hU0.drew hF1 b1⟩)
    (first
      | (go_at_call 66; refine (D1 _ (by first | exact h0 | exact h0.drew)).mono ?_; rintro e w1 ⟨rfl, hb⟩; have h1 : PAt w1 base P s m := PAt.keep (by first | exact h0 | exact h0.drew) hb; have hU1 : Upto (Foot s P) W0 w1 := Upto.trans (by first | exact hU0 | exact hU0.drew) (Upto.of hb); clear hb)
      | (go_at_call 65; refine (D3 _ (by first | exact h1 | exact h1.drew)).mono ?_; rintro e w2 ⟨rfl, HQ⟩; have hU2 : Upto (Foot s P) W0 w2 := Upto.trans (by first | exact hU1 | exact hU1.drew) HQ.up; obtain ⟨s', q1, q2, q3⟩ := HQ; obtain ⟨-, -, -, -, k36, k37, -, k39⟩ := q1.cells h16.out; have k6 := q1.fro 36; have hP2 := q1.lt))
  all_goals (
    rename_i hS
    clear hS
    have HQ : Hid (PAt (w2.setCell ⟨P, 36, none⟩ (.int .i64 r.to)) base P s' { r.m with pc := r.to }) := q1.pc h16.out r.to
    obtain ⟨-, -, -, -, j36, j37, -, j39⟩ := HQ.out.cells h16.out
    rw [hks.out] at j37
    have j7 := HQ.out.fro 37
    have HU3 : Hid (Upto (Foot s P) W0 (w2.setCell ⟨P, 36, none⟩ (.int .i64 r.to))) := hU2.set (Or.inl (Or.inl rfl)) _ _
    have b3 := upto_cell HU3.out hF1 b1
    have HR : Hid (PAt ((w2.setCell ⟨P, 36, none⟩ (.int .i64 r.to)).setCell ⟨P, 37, none⟩ (.int .i64 ((m.steps : Int) + 1))) base P s' (hopM r.m r.to (m.steps + 1))) := HQ.out.steps h16.out (m.steps + 1)
    have HU4 : Hid (Upto (Foot s P) W0 ((w2.setCell ⟨P, 36, none⟩ (.int .i64 r.to)).setCell ⟨P, 37, none⟩ (.int .i64 ((m.steps : Int) + 1)))) := HU3.out.set (Or.inl (Or.inl rfl)) _ _
    have b4 := upto_cell HU4.out hF1 b1
    obtain ⟨-, -, -, -, -, -, -, i39⟩ := HR.out.cells h16.out
    have HX4 : Hid _ := (HU4.out.block _ (Array.getElem?_eq_some_iff.1 HX.out).1 HF2.out).trans HX.out
    have y0 := int_cell HX4.out
    have y1 := box_fro HX4.out 0
    have HF4 : Hid (∀ b, Foot s' P b → b ≠ w.heap.size + 1) := fun b hb e => (q3 b hb).elim (fun k => HF2.out (e ▸ k)) (fun k => by have k1 := hU1.size; have k2 := (Array.getElem?_eq_some_iff.1 HX.out).1; have k3 : w1.heap.size ≤ b := (by simpa using k); omega)
    have HF3 : Hid (∀ b, Foot s' P b → Foot s P b ∨ w.heap.size ≤ b) := fun b hb => (q3 b hb).imp id (fun k => Nat.le_trans HB0.out.size (Nat.le_trans hU1.size (by simpa using k)))
    clear q1 q2 q3 k36 k37 k39 k6 x0 x1 D1 D3 h0 h1 hU0 hU1 hU2 b1
    go_wp2
    refine leaves_cons (f := 64) (args := #[.pointer (some ⟨w.heap.size, 0, none⟩), .pointer (some ⟨w.heap.size + 1, 0, none⟩)]) (by simp) (by simp [go_sem]) ?_
    refine (catch_idle ⟨w.heap.size, 0, none⟩ ⟨w.heap.size + 1, 0, none⟩ _).mono ?_
    rintro e u' w'' ⟨rfl, rfl, rfl⟩
    refine leave_st (g2 := w.heap.size + 1) rfl (box_set HX4.out 0 _) ⟨rfl, s', ?_, ?_, HF3.out⟩
    · exact HR.out.stay fun b hb => Below.heap_setCell _ _ _ _ (HF4.out b hb)
    · exact (up_on HB0.out HU4.out).set (Or.inr (Nat.le_succ _)) _ _)
theorem PAt.off {w : World} (h : PAt w base P s m) {B : Nat} (hB : ¬ Foot s P B) (i : Nat) (v : Value) : PAt (w.setCell ⟨B, i, none⟩ v) base P s m := h.stay fun b hb => Below.heap_setCell _ _ _ _ (fun e => hB (by have e : b = B := e; rw [← e]; exact hb))
/-- A fault goes through the door: it is recovered, and told. -/
theorem stop_st {w w5 : World} {tmps : Array Value} {f : Int} {g1 g2 : Nat} {x : Value} (h : PAt w5 base P s m) (hm : m.regs.length = 16) (hb : Below w.heap.size w w5) (hg2 : w.heap.size ≤ g2) (hf2 : ¬ Foot s P g2) (hb1 : w5.heap[g1]? = some (.cells #[.pointer (some ⟨P, 0, none⟩)] 54 (0, 0))) (hb2 : w5.heap[g2]? = some (.cells #[x] 48 (0, 0))) (h2 : tmps[2]? = some (.pointer (some ⟨g2, 0, none⟩))) :
    bodyPostD Tryz.prog Tryz.f38 (fun e w' => e = .returned (.int .i8 f) ∧ NowP w base P s (endM m f) w') (.panic [{ v := .iface 113 (.int .i8 f), recovered := false }]) { tmps := tmps, defers := [{ target := Target.fn (Fn.func 64) #[.pointer (some ⟨g1, 0, none⟩), .pointer (some ⟨g2, 0, none⟩)], args := #[] }] } w5 := by
  refine leaves_cons (f := 64) (args := #[.pointer (some ⟨g1, 0, none⟩), .pointer (some ⟨g2, 0, none⟩)]) (by simp) (by simp [go_sem]) ?_
  refine (catch_stop g1 g2 f x [] _ h hm hb1 hb2 (fun e => hf2 (.inl e))).mono ?_
  rintro e u' w'' ⟨rfl, rfl, rfl⟩
  have hP2 : g2 ≠ P := fun e => hf2 (.inl e)
  refine leave_st (g2 := g2) (x := .int .i8 f) h2 (box_set ((Below.heap_setCell _ _ _ _ hP2).trans hb2) 0 _) ⟨rfl, now_same ?_ ?_⟩
  · exact (h.status hm f).off hf2 0 _
  · exact ((Upto.of hb).set (Or.inl (Or.inl rfl)) _ _).set (Or.inr hg2) _ _
theorem by_stopD {G : Prop} (g : G) (w : World) : wpAny Tryz.prog .any #[] (fun _ _ _ => True) 0 #[] ⟨#[], []⟩ w → G := fun _ => g
set_option maxRecDepth 100000 in
set_option maxHeartbeats 4000000 in
theorem step_stops (h : PAt w base P s m) (hm : Fine m) (hst : m.steps < 1048576) (hs : m.status = 0) (he : ¬ (doM m).err = 0) : Calls Tryz.prog 38 #[.pointer (some ⟨P, 0, none⟩)] w fun e w' => e = .returned (.int .i8 (stepM m).status) ∧ NowP w base P s (stepM m) w' := by
  have HE : Hid (stepM m = endM m (doM m).err) := by unfold Hid stepM; rw [if_pos hs, if_neg he]
  obtain ⟨op, d, a, b, n, D1, D2⟩ := here_do h hm hst
  have D3 : ∀ W : World, PAt W base P s m → Calls Tryz.prog 65 #[.pointer (some ⟨P, 0, none⟩), .agg #[.int .i8 op, .int .i8 d, .int .i8 a, .int .i8 b, .int .i64 n]] W fun e w' => e = .panicked [{ v := .iface 113 (.int .i8 (doM m).err), recovered := false }] ∧ Below W.heap.size W w' := fun W hW => (D2 W hW).mono fun e w' k => k.elim (fun k => k.2) (fun k => absurd k.1 he)
  rw [HE.out]
  clear he D2 HE
  generalize (doM m).err = f at *
  obtain ⟨W0, HW⟩ : ∃ W0, Hid ((w.alloc (.cells #[.pointer (some ⟨P, 0, none⟩)] 54)).alloc (.cells #[.int .i8 0] 48) = W0) := ⟨_, rfl⟩
  have h0 : PAt W0 base P s m := by rw [← HW.out]; exact (h.alloc _).alloc _
  have HB0 : Hid (Below w.heap.size w W0) := by unfold Hid; rw [← HW.out]; exact lb_alloc (lb_alloc (Below.refl _ _) _) _
  have HX1 : Hid (W0.heap[w.heap.size]? = some (.cells #[.pointer (some ⟨P, 0, none⟩)] 54 (0, 0))) := by unfold Hid; rw [← HW.out]; exact oldAt (newAt rfl)
  have HX : Hid (W0.heap[w.heap.size + 1]? = some (.cells #[.int .i8 0] 48 (0, 0))) := by unfold Hid; rw [← HW.out]; exact newAt (by simp)
  have b1 := int_cell HX1.out
  have HF2 : Hid (¬ Foot s P (w.heap.size + 1)) := fun hb => by have := (h.foot hb).2; omega
  obtain ⟨c0, c1, c34, c35, c36, c37, c38, c39⟩ := h0.cells hm.sixteen
  rw [hs] at c39
  have C1 := made_yes h0 hm
  have hmf : ∀ (fn : Fn) (first cap : Array Value) (w : World), (Instr.makeFunc fn first cap).run Tryz.prog w = .ok (.func fn first cap) w := fun _ _ _ _ => rfl
  go_enter_defers Tryz.func38, Tryz.ntmps38
  go_upto_region 1 with fail
  rw [HW.out]
  clear HW
  go_upto_region 4 with (first
    | (go_at_call 62; refine C1.mono ?_; rintro e w1 ⟨rfl, hw1⟩; have hw1 := hw1.symm; subst hw1))
  clear c0 c1 c34 c35 c36 c37 c38 c39 C1
  go_region_law
    (first
      | (go_simp; go_at_call 66; refine (D1 _ (by first | exact h0 | exact h0.drew)).mono ?_; rintro e w1 ⟨rfl, hb⟩; have h1 : PAt w1 base P s m := PAt.keep (by first | exact h0 | exact h0.drew) hb; have HB1 : Hid (Below W0.heap.size W0 w1) := lb_trans (Below.drew (Below.refl _ _)) hb; have b2 : w1.cell? ⟨w.heap.size, 0, none⟩ = some (.pointer (some ⟨P, 0, none⟩)) := lkeep hb b1; clear hb)
      | (go_simp; go_at_call 65; refine (D3 _ (by first | exact h1 | exact h1.drew)).mono ?_; rintro e w2 ⟨rfl, hb⟩; have HB2 : Hid (Below W0.heap.size W0 w2) := lb_trans HB1.out hb; refine by_stopD (stop_st (h1.keep hb) hm.sixteen (lb_trans HB0.out HB2.out) (Nat.le_succ _) HF2.out (lb_box HX1.out HB2.out) (lb_box HX.out HB2.out) rfl) w2 ?_))
  all_goals trivial
theorem step_any (h : PAt w base P s m) (hm : Fine m) (hst : m.steps < 1048576) : Calls Tryz.prog 38 #[.pointer (some ⟨P, 0, none⟩)] w fun e w' => e = .returned (.int .i8 (stepM m).status) ∧ NowP w base P s (stepM m) w' := by
  by_cases hs : m.status = 0
  · by_cases he : (doM m).err = 0
    · exact step_runs h hm hst hs he
    · exact step_stops h hm hst hs he
  · have e := step_done hs
    rw [e]
    exact (step_ended h hm hs).mono fun e w' k => ⟨k.1, now_same (h.keep k.2) (Upto.of k.2)⟩
end





end Go.Proofs.YtfnicgihpelhhaaGreat

namespace Go.Proofs.YtfnicgihpelhhaaGreat
open Go.RowKit

section
variable {w : World} {base P : Nat} {s : Loc} {m : Mach}
theorem set_hd0 {a b v : Value} {l : List Value} : ([a, b] ++ l).set 0 v = [v, b] ++ l := rfl
theorem set_hd1 {a b v : Value} {l : List Value} : ([a, b] ++ l).set 1 v = [a, v] ++ l := rfl
def Loc.atT (s : Loc) (A : Option Addr) (c : Nat) : Loc := { s with T := A, tc := c }
def Loc.atX (s : Loc) (A : Option Addr) (c : Nat) : Loc := { s with X := A, xc := c }
def Loc.atM (s : Loc) (A : Option Addr) (c : Nat) : Loc := { s with M := A, mc := c }
theorem boxM_T (s : Loc) (m : Mach) (A : Option Addr) (c : Nat) (l : List Int) : (boxM s m).setIfInBounds 0 (.slice A l.length c) = boxM (s.atT A c) { m with text := l } := by
  simp only [boxM, List.setIfInBounds_toArray, hdM, set_hd0]
  rfl
theorem boxM_X (s : Loc) (m : Mach) (A : Option Addr) (c : Nat) (l : List Int) : (boxM s m).setIfInBounds 1 (.slice A l.length c) = boxM (s.atX A c) { m with tape := l } := by
  simp only [boxM, List.setIfInBounds_toArray, hdM, set_hd1]
  rfl
theorem boxM_M (s : Loc) (m : Mach) (hm : m.regs.length = 16) (A : Option Addr) (c : Nat) (l : List Wd) : (boxM s m).setIfInBounds 34 (.slice A l.length c) = boxM (s.atM A c) { m with mem := l } := by
  rw [show 34 = 34 + 0 from rfl, boxM_at s m hm]
  rfl
/-- One row of a machine grew, and the box's cell of it is written. -/
theorem PAt.grew {w' : World} {e : TypeId} {z n : Nat} {v v' : Value} {xs : List Value} (h : PAt w base P s m) (hv : w.ownsRow base e z v n xs) (hne : e ≠ 87) (hg : w.grownBy w' v.ownBlock) :
    w'.heap[P]? = some (.cells (boxM s m) 87 (0, 0)) ∧ ∀ (i : Nat) {e2 : TypeId} {z2 n2 : Nat} {u : Value} {ys : List Value}, w.ownsRow base e2 z2 u n2 ys → e2 ≠ e → e2 ≠ 87 → (w'.setCell ⟨P, i, none⟩ v').ownsRow base e2 z2 u n2 ys := by
  have hPV : some P ≠ v.ownBlock := fun e => own_ne hv e.symm h.box hne rfl
  refine ⟨(hg.block P h.lt hPV).trans h.box, ?_⟩
  intro i e2 z2 n2 u ys hr n1 n2'
  refine own_stay hr fun b e => ?_
  have hbP := own_ne hr e h.box n2'
  rw [Below.heap_setCell _ _ _ _ hbP]
  refine hg.block b (own_in hr e).2 fun ev => ?_
  obtain ⟨cur, hc⟩ := own_block hv ev.symm
  exact own_ne hr e hc n1 rfl
theorem own_set {w' : World} {e : TypeId} {z n i : Nat} {v x : Value} {xs : List Value} {cs : Array Value} (ho : w'.ownsRow base e z v n xs) (hb : w'.heap[P]? = some (.cells cs 87 (0, 0))) (hne : e ≠ 87) : (w'.setCell ⟨P, i, none⟩ x).ownsRow base e z v n xs :=
  own_stay ho fun _b e => Below.heap_setCell _ _ _ _ (own_ne ho e hb hne)
theorem PAt.addIns (h : PAt w base P s m) {w' : World} {A : Option Addr} {c : Nat} {l : List Int} (hg : w.grownBy w' (Value.slice s.T m.text.length s.tc).ownBlock) (ho : w'.ownsRow base 50 5 (.slice A l.length c) l.length (nVals l)) : PAt (w'.setCell ⟨P, 0, none⟩ (.slice A l.length c)) base P (s.atT A c) { m with text := l } := by
  obtain ⟨hb, row⟩ := h.grew (v' := .slice A l.length c) h.text (by decide) hg
  refine ⟨?_, h.bP, own_set ho hb (by decide), row 0 h.tape (by decide) (by decide), row 0 h.mem (by decide) (by decide), row 0 h.ports (by decide) (by decide)⟩
  rw [← boxM_T]
  exact box_set hb _ _
theorem PAt.addTape (h : PAt w base P s m) {w' : World} {A : Option Addr} {c : Nat} {l : List Int} (hg : w.grownBy w' (Value.slice s.X m.tape.length s.xc).ownBlock) (ho : w'.ownsRow base 2 1 (.slice A l.length c) l.length (iVals .i64 l)) : PAt (w'.setCell ⟨P, 1, none⟩ (.slice A l.length c)) base P (s.atX A c) { m with tape := l } := by
  obtain ⟨hb, row⟩ := h.grew (v' := .slice A l.length c) h.tape (by decide) hg
  refine ⟨?_, h.bP, row 1 h.text (by decide) (by decide), own_set ho hb (by decide), row 1 h.mem (by decide) (by decide), row 1 h.ports (by decide) (by decide)⟩
  rw [← boxM_X]
  exact box_set hb _ _
theorem PAt.addWord (h : PAt w base P s m) (hm : m.regs.length = 16) {w' : World} {A : Option Addr} {c : Nat} {l : List Wd} (hg : w.grownBy w' (Value.slice s.M m.mem.length s.mc).ownBlock) (ho : w'.ownsRow base 82 2 (.slice A l.length c) l.length (wVals l)) : PAt (w'.setCell ⟨P, 34, none⟩ (.slice A l.length c)) base P (s.atM A c) { m with mem := l } := by
  obtain ⟨hb, row⟩ := h.grew (v' := .slice A l.length c) h.mem (by decide) hg
  refine ⟨?_, h.bP, row 34 h.text (by decide) (by decide), row 34 h.tape (by decide) (by decide), own_set ho hb (by decide), row 34 h.ports (by decide) (by decide)⟩
  rw [← boxM_M s m hm]
  exact box_set hb _ _
/-- A machine that is just made. -/
def s0 : Loc := ⟨none, 0, none, 0, none, 0, .slice none 0 0⟩
theorem PAt.first {w : World} {ent : Int} (hb : base ≤ w.heap.size) : PAt (w.alloc (.cells (boxM s0 (newM [] [] [] ent)) 87)) base w.heap.size s0 (newM [] [] [] ent) :=
  ⟨heap_alloc_new _ _, hb, World.ownsRow_nil _ _ _ _, World.ownsRow_nil _ _ _ _, World.ownsRow_nil _ _ _ _, World.ownsRow_nil _ _ _ _⟩
end





end Go.Proofs.YtfnicgihpelhhaaGreat
