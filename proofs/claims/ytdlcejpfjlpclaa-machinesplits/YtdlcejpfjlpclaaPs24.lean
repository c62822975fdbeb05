/-
  The program's machine: every instruction done. What recovers a fault: the deferred closure of Step. Step of the program's machine. Run of the program's machine. Rows of words and ports, compared.
-/
import Derived.Test.YtdlcejpfjlpclaaProg
import Derived.WalkKit
import Derived.WalkSpells
import Derived.WalkLawsBesides
import Derived.RowKit3
import Derived.Below
import Derived.Deep.QuietTactic
import Derived.BigQuiet
import Derived.WalkSmall
import Derived.Laws.Rows
import Derived.Test.YtdlcejpfjlpclaaPs18
import Derived.Test.YtdlcejpfjlpclaaPs19
import Derived.Test.YtdlcejpfjlpclaaPs20
import Derived.Test.YtdlcejpfjlpclaaPs21
import Derived.Test.YtdlcejpfjlpclaaPs22
import Derived.Test.YtdlcejpfjlpclaaPs23
import Derived.Test.YtdlcejpfjlpclaaPs13
import Derived.Test.YtdlcejpfjlpclaaPs17
import Derived.Defers
import Derived.Recover
import Derived.Test.YtdlcejpfjlpclaaPs06
namespace Go.Proofs.Ytdlcejpfjlpclaa
open Go.RowKit

theorem cases22 {op : Int} (h0 : 0 ≤ op) (h1 : op ≤ 21) : op = 0 ∨ op = 1 ∨ op = 2 ∨ op = 3 ∨ op = 4 ∨ op = 5 ∨ op = 6 ∨ op = 7 ∨ op = 8 ∨ op = 9 ∨ op = 10 ∨ op = 11 ∨ op = 12 ∨ op = 13 ∨ op = 14 ∨ op = 15 ∨ op = 16 ∨ op = 17 ∨ op = 18 ∨ op = 19 ∨ op = 20 ∨ op = 21 := by omega

section
variable {w : World} {base P : Nat} {s : Loc} {m : Mach}
theorem deed_at (h : PAt w base P s m) (hm : Fine m) (hp : m.pc < 16384) (hst : m.steps < 1048576) {op d a b n : Int} (hi : InsIn op d a b n) : Calls Try.prog 26 #[.pointer (some ⟨P, 0, none⟩), .agg #[.int .i8 op, .int .i8 d, .int .i8 a, .int .i8 b, .int .i64 n]] w (DidP w base P s m (deedM m op d a b n)) := by
  have h1 := hi.o1
  by_cases h0 : op < 0
  · have e : deedM m op d a b n = noD m 3 := by unfold deedM; rw [if_pos h0]
    rw [e]
    exact do_neg h0
  rcases cases22 (by omega) h1 with e | e | e | e | e | e | e | e | e | e | e | e | e | e | e | e | e | e | e | e | e | e
  · subst e
    exact do_trap h (by decide) index_de0 (fun W hW => trap_any hW _ _ _ _ _)
  · subst e
    exact do_set h (by decide) index_de1 (fun W hW => set_any hW hm hp hi)
  · subst e
    exact do_move h (by decide) index_de2 (fun W hW => move_any hW hm hp hi)
  · subst e
    exact do_calc h (by decide) index_de3 (fun W hW => calc_did hW hm hp hi)
  · subst e
    exact do_calc h (by decide) index_de4 (fun W hW => calc_did hW hm hp hi)
  · subst e
    exact do_calc h (by decide) index_de5 (fun W hW => calc_did hW hm hp hi)
  · subst e
    exact do_calc h (by decide) index_de6 (fun W hW => calc_did hW hm hp hi)
  · subst e
    exact do_calc h (by decide) index_de7 (fun W hW => calc_did hW hm hp hi)
  · subst e
    exact do_calc h (by decide) index_de8 (fun W hW => calc_did hW hm hp hi)
  · subst e
    exact do_calc h (by decide) index_de9 (fun W hW => calc_did hW hm hp hi)
  · subst e
    exact do_calc h (by decide) index_de10 (fun W hW => calc_did hW hm hp hi)
  · subst e
    exact do_load h (by decide) index_de11 (fun W hW => load_did hW hm hp hi)
  · subst e
    exact do_store h (by decide) index_de12 (fun W hW => store_did hW hm hp hi)
  · subst e
    exact do_in h (by decide) index_de13 (fun W hW => in_did hW hm hp hi)
  · subst e
    exact do_out h (by decide) index_de14 (fun W hW => out_did hW hm hp hi hst)
  · subst e
    exact do_jump h (by decide) index_de15 (fun W hW => jump_any hW hm hp hi rfl)
  · subst e
    exact do_zero h (by decide) index_de16 (fun W hW => zero_any hW hm hp hi rfl)
  · subst e
    exact do_call h (by decide) index_de17 (fun W hW => call_any hW hm hp hi rfl)
  · subst e
    exact do_calls h (by decide) index_de18 (fun W hW => calls_any hW hm hp hi)
  · subst e
    exact do_goTo h (by decide) index_de19 (fun W hW => goto_any hW hm hp hi)
  · subst e
    exact do_place h (by decide) index_de20 (fun W hW => place_any hW hm hp hi)
  · subst e
    exact do_halt h (by decide) index_de21 (fun W hW => halt_any hW hm hp hi)
end

theorem do_here {w : World} {base P : Nat} {s : Loc} {m : Mach} (h : PAt w base P s m) (hm : Fine m) (hst : m.steps < 1048576) (hp : m.pc < m.text.length) : Calls Try.prog 26 #[.pointer (some ⟨P, 0, none⟩), .agg #[.int .i8 (dOp (nth m.text m.pc)), .int .i8 (dD (nth m.text m.pc)), .int .i8 (dA (nth m.text m.pc)), .int .i8 (dB (nth m.text m.pc)), .int .i64 (dN (nth m.text m.pc))]] w (DidP w base P s m (doM m)) := by
  have e : doM m = deedM m (dOp (nth m.text m.pc)) (dD (nth m.text m.pc)) (dA (nth m.text m.pc)) (dB (nth m.text m.pc)) (dN (nth m.text m.pc)) := by unfold doM; rw [if_neg (by omega)]
  rw [e]
  obtain ⟨v0, v1⟩ := hm.words m.pc hp
  have := hm.text
  exact deed_at h hm (by omega) hst (ins_in v0 v1)
theorem do_end {w : World} {base P : Nat} {s : Loc} {m : Mach} (h : PAt w base P s m) (hp : m.text.length ≤ m.pc) : Calls Try.prog 26 #[.pointer (some ⟨P, 0, none⟩), .agg #[.int .i8 0, .int .i8 0, .int .i8 0, .int .i8 0, .int .i64 0]] w (DidP w base P s m (doM m)) := by
  have e : doM m = noD m 2 := by unfold doM; rw [if_pos hp]
  rw [e]
  exact do_trap h (by decide) index_de0 (fun W hW => trap_any hW _ _ _ _ _)
/-- What stands at the machine's place, and what doing it does. -/
theorem here_do {w : World} {base P : Nat} {s : Loc} {m : Mach} (_h : PAt w base P s m) (hm : Fine m) (hst : m.steps < 1048576) : ∃ op d a b n : Int, (∀ W : World, PAt W base P s m → Calls Try.prog 27 #[.pointer (some ⟨P, 0, none⟩)] W fun e w' => e = .returned (.agg #[.int .i8 op, .int .i8 d, .int .i8 a, .int .i8 b, .int .i64 n]) ∧ Below W.heap.size W w') ∧ (∀ W : World, PAt W base P s m → Calls Try.prog 26 #[.pointer (some ⟨P, 0, none⟩), .agg #[.int .i8 op, .int .i8 d, .int .i8 a, .int .i8 b, .int .i64 n]] W (DidP W base P s m (doM m))) := by
  by_cases hp : m.pc < m.text.length
  · exact ⟨_, _, _, _, _, fun W hW => here_ins hW hm hp, fun W hW => do_here hW hm hst hp⟩
  · exact ⟨_, _, _, _, _, fun W hW => here_end hW hm (by omega), fun W hW => do_end hW (by omega)⟩

end Go.Proofs.Ytdlcejpfjlpclaa

namespace Go.Proofs.Ytdlcejpfjlpclaa
open Go.RowKit

theorem ta_nil (w : World) : (Instr.typeAssert .nilIface 20 65 true).run Try.prog w = .ok (.tuple #[.int .i8 0, .bool false]) w := by kernel_rfl
theorem ta_stop (e : Int) (w : World) : (Instr.typeAssert (.iface 65 (.int .i8 e)) 20 65 true).run Try.prog w = .ok (.tuple #[.int .i8 e, .bool true]) w := by kernel_rfl
set_option maxRecDepth 100000 in
set_option maxHeartbeats 1000000 in
theorem catch_idle (p q : Addr) (w : World) :
    CallsD Try.prog 25 #[.pointer (some p), .pointer (some q)] .returning w fun e u' w' => e = .returned (.tuple #[]) ∧ u' = .returning ∧ w' = w := by
  refine callsD_of_wpS Try.func25 rfl fun c₀ cs hu => ?_
  apply wpS_seq
  apply wpS_region
  simp [wpOpsS, go_sem, recoverD, hu, Try.ntmps25, Exit.thenS, ta_nil]
  apply wpS_seq
  apply wpS_region
  simp [wpOpsS, go_sem, Exit.thenS]
  refine wpS_cond (t := false) (by simp [Act.eval, Array.replicate]) ?_
  simp only [Bool.false_eq_true, if_false]
  refine wpS_of_wp (wp_skip ?_)
  cases c₀
  simp_all [bodyPostS, results, Try.results25]
set_option maxRecDepth 100000 in
set_option maxHeartbeats 1000000 in
theorem catch_stop {base P : Nat} {s : Loc} {m : Mach} (g1 g2 : Nat) (e : Int) (x : Value) (older : List PanicEntry) (w : World) (h : PAt w base P s m) (hm : m.regs.length = 16) (hb1 : w.heap[g1]? = some (.cells #[.pointer (some ⟨P, 0, none⟩)] 29 (0, 0))) (hb2 : w.heap[g2]? = some (.cells #[x] 33 (0, 0))) (_h2 : g2 ≠ P) :
    CallsD Try.prog 25 #[.pointer (some ⟨g1, 0, none⟩), .pointer (some ⟨g2, 0, none⟩)] (.panicking ({ v := .iface 65 (.int .i8 e), recovered := false } :: older)) w fun r u' w' =>
      r = .returned (.tuple #[]) ∧ u' = .panicking ({ v := .iface 65 (.int .i8 e), recovered := true } :: older) ∧ w' = (w.setCell ⟨P, 39, none⟩ (.int .i8 e)).setCell ⟨g2, 0, none⟩ (.int .i8 e) := by
  refine callsD_of_wpS Try.func25 rfl fun c₀ cs hu => ?_
  have d1 : w.cell? ⟨g1, 0, none⟩ = some (.pointer (some ⟨P, 0, none⟩)) := box_at hb1 rfl
  have d2 : w.cell? ⟨g2, 0, none⟩ = some x := box_at hb2 rfl
  have f2 : w.frozen? ⟨g2, 0, none⟩ = false := box_fro hb2 0
  obtain ⟨c0, c1, c34, c35, c36, c37, c38, c39⟩ := h.cells hm
  have f39 := h.fro 39
  have hP := h.lt
  have n1 : g1 ≠ P := fun e => by have k := h.box; rw [← e, hb1] at k; simp at k
  have d3 : (w.setCell ⟨P, 39, none⟩ (.int .i8 e)).cell? ⟨g1, 0, none⟩ = some (.pointer (some ⟨P, 0, none⟩)) := by simp [go_sem, d1]
  have d4 : (w.setCell ⟨P, 39, none⟩ (.int .i8 e)).cell? ⟨P, 39, none⟩ = some (.int .i8 e) := by simp [go_sem, c39]
  have d5 : (w.setCell ⟨P, 39, none⟩ (.int .i8 e)).cell? ⟨g2, 0, none⟩ = some x := by simp [go_sem, d2]
  have f5 : (w.setCell ⟨P, 39, none⟩ (.int .i8 e)).frozen? ⟨g2, 0, none⟩ = false := by simp [go_sem, f2]
  clear h hb1 hb2
  apply wpS_seq
  apply wpS_region
  simp [wpOpsS, go_sem, recoverD, hu, Try.ntmps25, Exit.thenS, ta_stop]
  apply wpS_seq
  apply wpS_region
  simp [wpOpsS, go_sem, Exit.thenS]
  refine wpS_cond (t := true) (by simp [Act.eval, Array.replicate]) ?_
  simp only [if_true]
  apply wpS_seq
  apply wpS_region
  simp [wpOpsS, go_sem, Exit.thenS, d1, c39, f39]
  apply wpS_region
  simp [wpOpsS, go_sem, d3, d4, d5, f5, bodyPostS, results, Try.results25, Array.replicate]

end Go.Proofs.Ytdlcejpfjlpclaa

namespace Go.Proofs.Ytdlcejpfjlpclaa
open Go.RowKit

section
variable {w : World} {base P : Nat} {s : Loc} {m : Mach}
/-- What a step leaves. -/
def NowP (w : World) (base P : Nat) (s : Loc) (m' : Mach) (w' : World) : Prop := ∃ s', PAt w' base P s' m' ∧ Upto (Foot s P) w w' ∧ ∀ b, Foot s' P b → Foot s P b ∨ w.heap.size ≤ b
theorem now_same {m' : Mach} {w' : World} (h : PAt w' base P s m') (hu : Upto (Foot s P) w w') : NowP w base P s m' w' := ⟨s, h, hu, fun _ h => .inl h⟩
theorem newAt {w : World} {n : Nat} {o : Obj} (h : w.heap.size = n) : (w.alloc o).heap[n]? = some o := by subst h; exact heap_alloc_new _ _
theorem oldAt {w : World} {B : Nat} {o o' : Obj} (h : w.heap[B]? = some o) : (w.alloc o').heap[B]? = some o := ((lb_alloc (Below.refl _ _) o').block B (Array.getElem?_eq_some_iff.1 h).1).trans h
theorem int_cell {w : World} {B : Nat} {x : Value} {t : TypeId} (h : w.heap[B]? = some (.cells #[x] t (0, 0))) : w.cell? ⟨B, 0, none⟩ = some x := box_at h rfl
set_option maxRecDepth 100000 in
theorem leave_st {R : Ending → World → Prop} {wx : World} {tmps : Array Value} {g2 : Nat} {x : Value} (h2 : tmps[2]? = some (.pointer (some ⟨g2, 0, none⟩))) (hx : wx.heap[g2]? = some (.cells #[x] 33 (0, 0))) (hR : R (.returned x) wx) : Leaves Try.prog Try.f16 tmps R [] .returning wx := by
  have x0 := int_cell hx
  clear hx
  refine ⟨_, ?_, hR⟩
  simp [results, Try.results16, go_sem, h2, x0]
set_option maxRecDepth 100000 in
set_option maxHeartbeats 4000000 in
theorem step_ended (h : PAt w base P s m) (hm : Fine m) (hs : ¬ m.status = 0) : Calls Try.prog 16 #[.pointer (some ⟨P, 0, none⟩)] w fun e w' => e = .returned (.int .i8 m.status) ∧ Below w.heap.size w w' := by
  have hs2 : (m.status != 0) = true := by simpa using hs
  have hs3 : (m.status == 0) = false := by simpa using hs
  obtain ⟨W0, HW⟩ : ∃ W0, Hid ((w.alloc (.cells #[.pointer (some ⟨P, 0, none⟩)] 29)).alloc (.cells #[.int .i8 0] 33) = W0) := ⟨_, rfl⟩
  have h0 : PAt W0 base P s m := by rw [← HW.out]; exact (h.alloc _).alloc _
  have HB0 : Hid (Below w.heap.size w W0) := by unfold Hid; rw [← HW.out]; exact lb_alloc (lb_alloc (Below.refl _ _) _) _
  have b1 : W0.cell? ⟨w.heap.size, 0, none⟩ = some (.pointer (some ⟨P, 0, none⟩)) := by rw [← HW.out]; simp [go_sem]
  have HX : Hid (W0.heap[w.heap.size + 1]? = some (.cells #[.int .i8 0] 33 (0, 0))) := by unfold Hid; rw [← HW.out]; exact newAt (by simp)
  have x0 := int_cell HX.out
  have x1 := box_fro HX.out 0
  obtain ⟨c0, c1, c34, c35, c36, c37, c38, c39⟩ := h0.cells hm.sixteen
  have C1 := made_yes h0 hm
  have C2 := status_yes h0 hm
  go_enter_defers Try.func16, Try.ntmps16
  go_upto_region 1 with fail
  rw [HW.out]
  clear HW
  go_wp2_with (first
    | (go_at_call 22; refine C1.mono ?_; rintro e w1 ⟨rfl, rfl⟩)
    | (go_at_call 18; refine C2.mono ?_; rintro e w1 ⟨rfl, rfl⟩))
  unfold bodyPostD
  refine leave_st (g2 := w.heap.size + 1) (x := .int .i8 m.status) rfl (box_set HX.out 0 _) ?_
  refine ⟨rfl, ?_⟩
  exact HB0.out.setCell (p := ⟨w.heap.size + 1, 0, none⟩) (Nat.le_succ _) _
set_option maxRecDepth 100000 in
set_option maxHeartbeats 4000000 in
theorem step_runs (h : PAt w base P s m) (hm : Fine m) (hst : m.steps < 1048576) (hs : m.status = 0) (he : (doM m).err = 0) : Calls Try.prog 16 #[.pointer (some ⟨P, 0, none⟩)] w fun e w' => e = .returned (.int .i8 (stepM m).status) ∧ NowP w base P s (stepM m) w' := by
  have HE : Hid (stepM m = hopM (doM m).m (doM m).to (m.steps + 1)) := by unfold Hid stepM; rw [if_pos hs, if_pos he]
  have HK : Hid (Kept m (doM m)) := do_kept hm he
  obtain ⟨op, d, a, b, n, D1, D2⟩ := here_do h hm hst
  have D3 : ∀ W : World, PAt W base P s m → Calls Try.prog 26 #[.pointer (some ⟨P, 0, none⟩), .agg #[.int .i8 op, .int .i8 d, .int .i8 a, .int .i8 b, .int .i64 n]] W fun e w' => e = .returned (.int .i64 (doM m).to) ∧ DoneP W base P s (doM m) w' := fun W hW => (D2 W hW).mono fun e w' k => k.elim (fun k => absurd he k.1) (fun k => k.2)
  rw [HE.out]
  clear he D2
  have h16 : Hid ((doM m).m.regs.length = 16) := HK.out.fine.sixteen
  have hks : Hid ((doM m).m.steps = m.steps) := HK.out.steps
  generalize doM m = r at *
  obtain ⟨W0, HW⟩ : ∃ W0, Hid ((w.alloc (.cells #[.pointer (some ⟨P, 0, none⟩)] 29)).alloc (.cells #[.int .i8 0] 33) = W0) := ⟨_, rfl⟩
  have h0 : PAt W0 base P s m := by rw [← HW.out]; exact (h.alloc _).alloc _
  have HB0 : Hid (Below w.heap.size w W0) := by unfold Hid; rw [← HW.out]; exact lb_alloc (lb_alloc (Below.refl _ _) _) _
  have HX1 : Hid (W0.heap[w.heap.size]? = some (.cells #[.pointer (some ⟨P, 0, none⟩)] 29 (0, 0))) := by unfold Hid; rw [← HW.out]; exact oldAt (newAt rfl)
  have HX : Hid (W0.heap[w.heap.size + 1]? = some (.cells #[.int .i8 0] 33 (0, 0))) := by unfold Hid; rw [← HW.out]; exact newAt (by simp)
  have b1 := int_cell HX1.out
  have x0 := int_cell HX.out
  have x1 := box_fro HX.out 0
  have hF1 : ¬ Foot s P w.heap.size := fun hb => Nat.lt_irrefl _ (h.foot hb).2
  have HF2 : Hid (¬ Foot s P (w.heap.size + 1)) := fun hb => by have := (h.foot hb).2; omega
  obtain ⟨c0, c1, c34, c35, c36, c37, c38, c39⟩ := h0.cells hm.sixteen
  rw [hs] at c39
  have C1 := made_yes h0 hm
  have hmf : ∀ (fn : Fn) (first cap : Array Value) (w : World), (Instr.makeFunc fn first cap).run Try.prog w = .ok (.func fn first cap) w := fun _ _ _ _ => rfl
  have hU0 := Upto.refl (Foot s P) W0
  go_enter_defers Try.func16, Try.ntmps16
  go_upto_region 1 with fail
  rw [HW.out]
  clear HW
  go_upto_region 4 with (first
    | (go_at_call 22; refine C1.mono ?_; rintro e w1 ⟨rfl, hw1⟩; have hw1 := hw1.symm; subst hw1))
  clear c0 c1 c34 c35 c36 c37 c38 c39 C1
  go_region_held3 (fun W => Upto (Foot s P) W0 W ∧ W.cell? ⟨w.heap.size, 0, none⟩ = some (.pointer (some ⟨P, 0, none⟩)))
    (first | exact ⟨(hU2.set (Or.inl (Or.inl rfl)) _ _), upto_cell (hU2.set (Or.inl (Or.inl rfl)) _ _) hF1 b1⟩ | exact ⟨hU2, upto_cell hU2 hF1 b1⟩ | exact ⟨hU2.drew, upto_cell hU2.drew hF1 b1⟩ | exact ⟨hU1, upto_cell hU1 hF1 b1⟩ | exact ⟨hU1.drew, upto_cell hU1.drew hF1 b1⟩ | exact ⟨hU0, upto_cell hU0 hF1 b1⟩ | exact ⟨hU0.drew, upto_cell hU0.drew hF1 b1⟩)
    (first
      | (go_at_call 27; refine (D1 _ (by first | exact h0 | exact h0.drew)).mono ?_; rintro e w1 ⟨rfl, hb⟩; have h1 : PAt w1 base P s m := PAt.keep (by first | exact h0 | exact h0.drew) hb; have hU1 : Upto (Foot s P) W0 w1 := Upto.trans (by first | exact hU0 | exact hU0.drew) (Upto.of hb); clear hb)
      | (go_at_call 26; refine (D3 _ (by first | exact h1 | exact h1.drew)).mono ?_; rintro e w2 ⟨rfl, HQ⟩; have hU2 : Upto (Foot s P) W0 w2 := Upto.trans (by first | exact hU1 | exact hU1.drew) HQ.up; obtain ⟨s', q1, q2, q3⟩ := HQ; obtain ⟨-, -, -, -, k36, k37, -, k39⟩ := q1.cells h16.out; have k6 := q1.fro 36; have hP2 := q1.lt))
  all_goals (
    rename_i hS
    clear hS
    have HQ : Hid (PAt (w2.setCell ⟨P, 36, none⟩ (.int .i64 r.to)) base P s' { r.m with pc := r.to }) := q1.pc h16.out r.to
    obtain ⟨-, -, -, -, j36, j37, -, j39⟩ := HQ.out.cells h16.out
    rw [hks.out] at j37
    have j7 := HQ.out.fro 37
    have HU3 : Hid (Upto (Foot s P) W0 (w2.setCell ⟨P, 36, none⟩ (.int .i64 r.to))) := hU2.set (Or.inl (Or.inl rfl)) _ _
    have b3 := upto_cell HU3.out hF1 b1
    have HR : Hid (PAt ((w2.setCell ⟨P, 36, none⟩ (.int .i64 r.to)).setCell ⟨P, 37, none⟩ (.int .i64 ((m.steps : Int) + 1))) base P s' (hopM r.m r.to (m.steps + 1))) := HQ.out.steps h16.out (m.steps + 1)
    have HU4 : Hid (Upto (Foot s P) W0 ((w2.setCell ⟨P, 36, none⟩ (.int .i64 r.to)).setCell ⟨P, 37, none⟩ (.int .i64 ((m.steps : Int) + 1)))) := HU3.out.set (Or.inl (Or.inl rfl)) _ _
    have b4 := upto_cell HU4.out hF1 b1
    obtain ⟨-, -, -, -, -, -, -, i39⟩ := HR.out.cells h16.out
    have HX4 : Hid _ := (HU4.out.block _ (Array.getElem?_eq_some_iff.1 HX.out).1 HF2.out).trans HX.out
    have y0 := int_cell HX4.out
    have y1 := box_fro HX4.out 0
    have HF4 : Hid (∀ b, Foot s' P b → b ≠ w.heap.size + 1) := fun b hb e => (q3 b hb).elim (fun k => HF2.out (e ▸ k)) (fun k => by have k1 := hU1.size; have k2 := (Array.getElem?_eq_some_iff.1 HX.out).1; have k3 : w1.heap.size ≤ b := (by simpa using k); omega)
    have HF3 : Hid (∀ b, Foot s' P b → Foot s P b ∨ w.heap.size ≤ b) := fun b hb => (q3 b hb).imp id (fun k => Nat.le_trans HB0.out.size (Nat.le_trans hU1.size (by simpa using k)))
    clear q1 q2 q3 k36 k37 k39 k6 x0 x1 D1 D3 h0 h1 hU0 hU1 hU2 b1
    go_wp2
    refine leaves_cons (f := 25) (args := #[.pointer (some ⟨w.heap.size, 0, none⟩), .pointer (some ⟨w.heap.size + 1, 0, none⟩)]) (by simp) (by simp [go_sem]) ?_
    refine (catch_idle ⟨w.heap.size, 0, none⟩ ⟨w.heap.size + 1, 0, none⟩ _).mono ?_
    rintro e u' w'' ⟨rfl, rfl, rfl⟩
    refine leave_st (g2 := w.heap.size + 1) rfl (box_set HX4.out 0 _) ⟨rfl, s', ?_, ?_, HF3.out⟩
    · exact HR.out.stay fun b hb => Below.heap_setCell _ _ _ _ (HF4.out b hb)
    · exact (up_on HB0.out HU4.out).set (Or.inr (Nat.le_succ _)) _ _)
theorem PAt.off {w : World} (h : PAt w base P s m) {B : Nat} (hB : ¬ Foot s P B) (i : Nat) (v : Value) : PAt (w.setCell ⟨B, i, none⟩ v) base P s m := h.stay fun b hb => Below.heap_setCell _ _ _ _ (fun e => hB (by have e : b = B := e; rw [← e]; exact hb))
/-- A fault goes through the door: it is recovered, and told. -/
theorem stop_st {w w5 : World} {tmps : Array Value} {f : Int} {g1 g2 : Nat} {x : Value} (h : PAt w5 base P s m) (hm : m.regs.length = 16) (hb : Below w.heap.size w w5) (hg2 : w.heap.size ≤ g2) (hf2 : ¬ Foot s P g2) (hb1 : w5.heap[g1]? = some (.cells #[.pointer (some ⟨P, 0, none⟩)] 29 (0, 0))) (hb2 : w5.heap[g2]? = some (.cells #[x] 33 (0, 0))) (h2 : tmps[2]? = some (.pointer (some ⟨g2, 0, none⟩))) :
    bodyPostD Try.prog Try.f16 (fun e w' => e = .returned (.int .i8 f) ∧ NowP w base P s (endM m f) w') (.panic [{ v := .iface 65 (.int .i8 f), recovered := false }]) { tmps := tmps, defers := [{ target := Target.fn (Fn.func 25) #[.pointer (some ⟨g1, 0, none⟩), .pointer (some ⟨g2, 0, none⟩)], args := #[] }] } w5 := by
  refine leaves_cons (f := 25) (args := #[.pointer (some ⟨g1, 0, none⟩), .pointer (some ⟨g2, 0, none⟩)]) (by simp) (by simp [go_sem]) ?_
  refine (catch_stop g1 g2 f x [] _ h hm hb1 hb2 (fun e => hf2 (.inl e))).mono ?_
  rintro e u' w'' ⟨rfl, rfl, rfl⟩
  have hP2 : g2 ≠ P := fun e => hf2 (.inl e)
  refine leave_st (g2 := g2) (x := .int .i8 f) h2 (box_set ((Below.heap_setCell _ _ _ _ hP2).trans hb2) 0 _) ⟨rfl, now_same ?_ ?_⟩
  · exact (h.status hm f).off hf2 0 _
  · exact ((Upto.of hb).set (Or.inl (Or.inl rfl)) _ _).set (Or.inr hg2) _ _
theorem by_stopD {G : Prop} (g : G) (w : World) : wpAny Try.prog .any #[] (fun _ _ _ => True) 0 #[] ⟨#[], []⟩ w → G := fun _ => g
set_option maxRecDepth 100000 in
set_option maxHeartbeats 4000000 in
theorem step_stops (h : PAt w base P s m) (hm : Fine m) (hst : m.steps < 1048576) (hs : m.status = 0) (he : ¬ (doM m).err = 0) : Calls Try.prog 16 #[.pointer (some ⟨P, 0, none⟩)] w fun e w' => e = .returned (.int .i8 (stepM m).status) ∧ NowP w base P s (stepM m) w' := by
  have HE : Hid (stepM m = endM m (doM m).err) := by unfold Hid stepM; rw [if_pos hs, if_neg he]
  obtain ⟨op, d, a, b, n, D1, D2⟩ := here_do h hm hst
  have D3 : ∀ W : World, PAt W base P s m → Calls Try.prog 26 #[.pointer (some ⟨P, 0, none⟩), .agg #[.int .i8 op, .int .i8 d, .int .i8 a, .int .i8 b, .int .i64 n]] W fun e w' => e = .panicked [{ v := .iface 65 (.int .i8 (doM m).err), recovered := false }] ∧ Below W.heap.size W w' := fun W hW => (D2 W hW).mono fun e w' k => k.elim (fun k => k.2) (fun k => absurd k.1 he)
  rw [HE.out]
  clear he D2 HE
  generalize (doM m).err = f at *
  obtain ⟨W0, HW⟩ : ∃ W0, Hid ((w.alloc (.cells #[.pointer (some ⟨P, 0, none⟩)] 29)).alloc (.cells #[.int .i8 0] 33) = W0) := ⟨_, rfl⟩
  have h0 : PAt W0 base P s m := by rw [← HW.out]; exact (h.alloc _).alloc _
  have HB0 : Hid (Below w.heap.size w W0) := by unfold Hid; rw [← HW.out]; exact lb_alloc (lb_alloc (Below.refl _ _) _) _
  have HX1 : Hid (W0.heap[w.heap.size]? = some (.cells #[.pointer (some ⟨P, 0, none⟩)] 29 (0, 0))) := by unfold Hid; rw [← HW.out]; exact oldAt (newAt rfl)
  have HX : Hid (W0.heap[w.heap.size + 1]? = some (.cells #[.int .i8 0] 33 (0, 0))) := by unfold Hid; rw [← HW.out]; exact newAt (by simp)
  have b1 := int_cell HX1.out
  have HF2 : Hid (¬ Foot s P (w.heap.size + 1)) := fun hb => by have := (h.foot hb).2; omega
  obtain ⟨c0, c1, c34, c35, c36, c37, c38, c39⟩ := h0.cells hm.sixteen
  rw [hs] at c39
  have C1 := made_yes h0 hm
  have hmf : ∀ (fn : Fn) (first cap : Array Value) (w : World), (Instr.makeFunc fn first cap).run Try.prog w = .ok (.func fn first cap) w := fun _ _ _ _ => rfl
  go_enter_defers Try.func16, Try.ntmps16
  go_upto_region 1 with fail
  rw [HW.out]
  clear HW
  go_upto_region 4 with (first
    | (go_at_call 22; refine C1.mono ?_; rintro e w1 ⟨rfl, hw1⟩; have hw1 := hw1.symm; subst hw1))
  clear c0 c1 c34 c35 c36 c37 c38 c39 C1
  go_region_law
    (first
      | (go_simp; go_at_call 27; refine (D1 _ (by first | exact h0 | exact h0.drew)).mono ?_; rintro e w1 ⟨rfl, hb⟩; have h1 : PAt w1 base P s m := PAt.keep (by first | exact h0 | exact h0.drew) hb; have HB1 : Hid (Below W0.heap.size W0 w1) := lb_trans (Below.drew (Below.refl _ _)) hb; have b2 : w1.cell? ⟨w.heap.size, 0, none⟩ = some (.pointer (some ⟨P, 0, none⟩)) := lkeep hb b1; clear hb)
      | (go_simp; go_at_call 26; refine (D3 _ (by first | exact h1 | exact h1.drew)).mono ?_; rintro e w2 ⟨rfl, hb⟩; have HB2 : Hid (Below W0.heap.size W0 w2) := lb_trans HB1.out hb; refine by_stopD (stop_st (h1.keep hb) hm.sixteen (lb_trans HB0.out HB2.out) (Nat.le_succ _) HF2.out (lb_box HX1.out HB2.out) (lb_box HX.out HB2.out) rfl) w2 ?_))
  all_goals trivial
theorem step_any (h : PAt w base P s m) (hm : Fine m) (hst : m.steps < 1048576) : Calls Try.prog 16 #[.pointer (some ⟨P, 0, none⟩)] w fun e w' => e = .returned (.int .i8 (stepM m).status) ∧ NowP w base P s (stepM m) w' := by
  by_cases hs : m.status = 0
  · by_cases he : (doM m).err = 0
    · exact step_runs h hm hst hs he
    · exact step_stops h hm hst hs he
  · have e := step_done hs
    rw [e]
    exact (step_ended h hm hs).mono fun e w' k => ⟨k.1, now_same (h.keep k.2) (Upto.of k.2)⟩
end

end Go.Proofs.Ytdlcejpfjlpclaa

namespace Go.Proofs.Ytdlcejpfjlpclaa
open Go.RowKit

section
variable {w : World} {base P : Nat} {s : Loc} {m : Mach}
theorem NowP.then {w1 w2 : World} {m1 m2 : Mach} (h : NowP w base P s m1 w1) (k : ∀ s1, PAt w1 base P s1 m1 → NowP w1 base P s1 m2 w2) : NowP w base P s m2 w2 := by
  obtain ⟨s1, a1, a2, a3⟩ := h
  obtain ⟨s2, b1, b2, b3⟩ := k s1 a1
  refine ⟨s2, b1, a2.on b2 (fun x hx => a3 x hx), fun b hb => ?_⟩
  rcases b3 b hb with f | f
  · exact a3 b f
  · exact .inr (Nat.le_trans a2.size f)
theorem NowP.trans {w1 w2 : World} {m1 m2 : Mach} {s1 : Loc} (_a1 : PAt w1 base P s1 m1) (a2 : Upto (Foot s P) w w1) (a3 : ∀ b, Foot s1 P b → Foot s P b ∨ w.heap.size ≤ b) (k : NowP w1 base P s1 m2 w2) : NowP w base P s m2 w2 := by
  obtain ⟨s2, b1, b2, b3⟩ := k
  refine ⟨s2, b1, a2.on b2 (fun x hx => a3 x hx), fun b hb => ?_⟩
  rcases b3 b hb with f | f
  · exact a3 b f
  · exact .inr (Nat.le_trans a2.size f)
theorem now_drewN {m1 : Mach} {w1 : World} (h : NowP w base P s m1 w1) (n : Nat) : NowP w base P s m1 (w1.drewN n) := by
  obtain ⟨s1, a1, a2, a3⟩ := h
  exact ⟨s1, a1.drewN n, a2.drewN n, a3⟩
/-- What Run answers. -/
def RanP (w : World) (base P : Nat) (s : Loc) (m : Mach) (k : Nat) (e : Ending) (w' : World) : Prop := e = .returned (.tuple #[.int .i64 (((runM k m).steps : Int) - (m.steps : Int)), .int .i8 (runM k m).status]) ∧ NowP w base P s (runM k m) w'
theorem ran_of {j k : Nat} {w' : World} {e : Ending} (he : e = .returned (.tuple #[.int .i64 (((runM j m).steps : Int) - (m.steps : Int)), .int .i8 (runM j m).status])) (hn : NowP w base P s (runM j m) w') (hr : runM k m = runM j m) : RanP w base P s m k e w' := by
  unfold RanP
  rw [hr]
  exact ⟨he, hn⟩
set_option maxRecDepth 100000 in
set_option maxHeartbeats 4000000 in
theorem run_any (h : PAt w base P s m) (hm : Fine m) (most : Int) (hN : m.steps + most.toNat < 1048576) : Calls Try.prog 8 #[.pointer (some ⟨P, 0, none⟩), .int .i64 most] w (RanP w base P s m most.toNat) := by
  have C1 := made_yes h hm
  obtain ⟨c0, c1, c34, c35, c36, c37, c38, c39⟩ := h.cells hm.sixteen
  have HN : Hid (NowP w base P s (runM 0 m) w) := now_same h (Upto.refl _ _)
  clear h
  go_enter Try.func8, Try.ntmps8
  go_wp2_with (first
    | (go_at_call 22; refine C1.mono ?_; rintro e w1 ⟨rfl, hw1⟩; have hw1 := hw1.symm; subst hw1))
  clear c0 c1 c34 c35 c36 c37 c38 c39 C1
  go_loopw [15] (fun i wr => ∃ k : Nat, i = .int .i64 k ∧ k ≤ most.toNat ∧ Hid (NowP w base P s (runM k m) wr)) (fun i _ => most.toNat - (intOf i).toNat)
  case atStart => exact ⟨0, rfl, Nat.zero_le _, HN⟩
  case round =>
    clear HN
    obtain ⟨k, rfl, hk, HN⟩ := hrel
    obtain ⟨s1, a1, a2, a3⟩ := HN.out
    have HA : Hid (PAt wr base P s1 (runM k m) ∧ Upto (Foot s P) w wr ∧ ∀ b, Foot s1 P b → Foot s P b ∨ w.heap.size ≤ b) := ⟨a1, a2, a3⟩
    have hfk := fine_run hm k
    obtain ⟨st0, st1, -⟩ := run_steps m k
    by_cases hlt : (k : Int) < most
    · have C2 := step_any a1 hfk (by omega)
      rw [← run_snoc] at C2
      have HM2 : Hid (Fine (runM (k + 1) m)) := fine_run hm (k + 1)
      obtain ⟨su0, su1, -⟩ := run_steps m (k + 1)
      clear a1 a2 a3 hfk
      by_cases hz : (runM (k + 1) m).status = 0
      · rw [hz] at C2
        clear hz
        go_wp2_with (first
          | (go_at_call 16; refine C2.mono ?_; rintro e w1 ⟨rfl, hn⟩))
        go_roundw
        case rel => exact ⟨k + 1, by go_num, by omega, NowP.trans HA.out.1 HA.out.2.1 HA.out.2.2 hn⟩
        case measure => simp [intOf]; omega
      · have HE : Hid (runM most.toNat m = runM (k + 1) m) := run_end hz (by omega)
        have hz2 : ((runM (k + 1) m).status != 0) = true := by simpa using hz
        have hz3 : ((runM (k + 1) m).status == 0) = false := by simpa using hz
        clear hz
        go_upto_region 8 with (first
          | (go_at_call 16; refine C2.mono ?_; rintro e w1 ⟨rfl, hn⟩))
        have HN2 : Hid (NowP w base P s (runM (k + 1) m) w1) := NowP.trans HA.out.1 HA.out.2.1 HA.out.2.2 hn
        obtain ⟨s2, b1, -⟩ := hn
        obtain ⟨-, -, -, -, -, c37, -, c39⟩ := b1.cells HM2.out.sixteen
        have HR : Hid (∀ w2, NowP w base P s (runM (k + 1) m) w2 → RanP w base P s m most.toNat (.returned (.tuple #[.int .i64 (((runM (k + 1) m).steps : Int) - (m.steps : Int)), .int .i8 (runM (k + 1) m).status])) w2) := fun w2 h2 => ran_of rfl h2 HE.out
        clear b1 C2 HE
        generalize (runM (k + 1) m).steps = S at *
        generalize (runM (k + 1) m).status = Z at *
        go_quiet (fail)
        go_wp2
        go_ret2
        exact HR.out _ (now_drewN HN2.out _)
    · have HE : Hid (runM most.toNat m = runM k m) := by rw [show most.toNat = k by omega]; rfl
      obtain ⟨-, -, -, -, -, c37, -, c39⟩ := a1.cells hfk.sixteen
      have HR : Hid (∀ w2, NowP w base P s (runM k m) w2 → RanP w base P s m most.toNat (.returned (.tuple #[.int .i64 (((runM k m).steps : Int) - (m.steps : Int)), .int .i8 (runM k m).status])) w2) := fun w2 h2 => ran_of rfl h2 HE.out
      clear a1 a2 a3 hfk HE
      generalize (runM k m).steps = S at *
      generalize (runM k m).status = Z at *
      go_wp2_with fail
      go_quiet (fail)
      go_wp2
      go_ret2
      exact HR.out _ (now_drewN HN.out _)
end

end Go.Proofs.Ytdlcejpfjlpclaa

namespace Go.Proofs.Ytdlcejpfjlpclaa
open Go.RowKit

def WordsAt (w : World) (A : Option Addr) (l : List (Wd)) : Prop := ∀ i, i < l.length → ∃ a : Addr, A = some a ∧ w.cell? (a.add (i * 2)) = some (.int .i64 (wV l i)) ∧ w.cell? ((a.add (i * 2)).add 1) = some (.bool (wC l i))
theorem WordsAt.keep {w w1 : World} {A : Option Addr} {l : List (Wd)} (h : WordsAt w A l) (hb : Below w.heap.size w w1) : WordsAt w1 A l := fun i hi => by
  obtain ⟨a, e, h0, h1⟩ := h i hi
  exact ⟨a, e, lkeep hb h0, lkeep hb h1⟩
theorem row_w {w : World} {b : Nat} {e : TypeId} {A : Option Addr} {n c : Nat} {l : List (Wd)} (h : w.ownsRow b e 2 (.slice A n c) l.length (wVals l)) : WordsAt w A l := fun i hi => by
  obtain ⟨e0, e1⟩ := wVals_get hi
  have hl := wVals_len l
  rcases h.2 with ⟨e, e2⟩ | ⟨g, cap, cur, e, hb, hg, hc, _, hs, ht⟩
  · omega
  · simp only [Value.slice.injEq] at e
    have q : ∀ {j : Nat} {v : Value}, j < l.length * 2 → (wVals l)[j]? = some v → cur[j]? = some v := by
      intro j v hj hv
      rw [← ht, List.getElem?_take_of_lt hj] at hv
      simpa using hv
    refine ⟨⟨g, 0, none⟩, e.1, ?_, ?_⟩
    · rw [add_at]; exact box_at hg (by rw [Nat.zero_add]; exact q (by omega) e0)
    · rw [add_at, add_at]; exact box_at hg (by rw [Nat.zero_add]; exact q (by omega) e1)
set_option maxRecDepth 100000 in
set_option maxHeartbeats 1000000 in
theorem eq_w (A B : Option Addr) (ca cb : Nat) (l : List (Wd)) (w : World) (hA : WordsAt w A l) (hB : WordsAt w B l) (hz : l.length ≤ 1048576) :
    Calls Try.prog 12 #[.slice A l.length ca, .slice B l.length cb] w fun e w' => e = .returned (.bool true) ∧ Below w.heap.size w w' := by
  go_enter Try.func12, Try.ntmps12
  go_wp2
  go_loopw [5] (fun i wr => ∃ (k j : Nat), i = .int .i64 k ∧ k ≤ l.length ∧ wr = w.drewN j) (fun i _ => l.length - (intOf i).toNat)
  case atStart => exact ⟨0, 0, rfl, by omega, rfl⟩
  case round =>
    obtain ⟨k, j, rfl, hk, rfl⟩ := hrel
    by_cases hlt : k < l.length
    · obtain ⟨a, rfl, c0, c1⟩ := hA k hlt
      obtain ⟨b, rfl, d0, d1⟩ := hB k hlt
      have hlt2 : (k : Int) < (l.length : Int) := by omega
      have p1 : w.cell? (⟨(a.add (k * 2)).block, (a.add (k * 2)).off + 1, none⟩) = some (.bool (wC l k)) := c1
      have q1 : w.cell? (⟨(b.add (k * 2)).block, (b.add (k * 2)).off + 1, none⟩) = some (.bool (wC l k)) := d1
      clear c1 d1
      go_wp2_with fail
      go_quiet (fail)
      go_wp2
      go_roundw
      case rel => exact ⟨k + 1, _, by go_num, by omega, rfl⟩
      case measure => simp [intOf]; omega
    · go_wp2
      go_ret
      exact ⟨rfl, below_drewN (Below.refl _ _) _⟩

def PortsAt (w : World) (A : Option Addr) (l : List (Int × Int)) : Prop := ∀ i, i < l.length → ∃ a : Addr, A = some a ∧ w.cell? (a.add (i * 2)) = some (.int .i64 (rAt l i)) ∧ w.cell? ((a.add (i * 2)).add 1) = some (.int .i64 (rSym l i))
theorem PortsAt.keep {w w1 : World} {A : Option Addr} {l : List (Int × Int)} (h : PortsAt w A l) (hb : Below w.heap.size w w1) : PortsAt w1 A l := fun i hi => by
  obtain ⟨a, e, h0, h1⟩ := h i hi
  exact ⟨a, e, lkeep hb h0, lkeep hb h1⟩
theorem row_p {w : World} {b : Nat} {e : TypeId} {A : Option Addr} {n c : Nat} {l : List (Int × Int)} (h : w.ownsRow b e 2 (.slice A n c) l.length (pVals l)) : PortsAt w A l := fun i hi => by
  obtain ⟨e0, e1⟩ := pVals_get hi
  have hl := pVals_len l
  rcases h.2 with ⟨e, e2⟩ | ⟨g, cap, cur, e, hb, hg, hc, _, hs, ht⟩
  · omega
  · simp only [Value.slice.injEq] at e
    have q : ∀ {j : Nat} {v : Value}, j < l.length * 2 → (pVals l)[j]? = some v → cur[j]? = some v := by
      intro j v hj hv
      rw [← ht, List.getElem?_take_of_lt hj] at hv
      simpa using hv
    refine ⟨⟨g, 0, none⟩, e.1, ?_, ?_⟩
    · rw [add_at]; exact box_at hg (by rw [Nat.zero_add]; exact q (by omega) e0)
    · rw [add_at, add_at]; exact box_at hg (by rw [Nat.zero_add]; exact q (by omega) e1)
set_option maxRecDepth 100000 in
set_option maxHeartbeats 1000000 in
theorem eq_p (A B : Option Addr) (ca cb : Nat) (l : List (Int × Int)) (w : World) (hA : PortsAt w A l) (hB : PortsAt w B l) (hz : l.length ≤ 1048576) :
    Calls Try.prog 14 #[.slice A l.length ca, .slice B l.length cb] w fun e w' => e = .returned (.bool true) ∧ Below w.heap.size w w' := by
  go_enter Try.func14, Try.ntmps14
  go_wp2
  go_loopw [5] (fun i wr => ∃ (k j : Nat), i = .int .i64 k ∧ k ≤ l.length ∧ wr = w.drewN j) (fun i _ => l.length - (intOf i).toNat)
  case atStart => exact ⟨0, 0, rfl, by omega, rfl⟩
  case round =>
    obtain ⟨k, j, rfl, hk, rfl⟩ := hrel
    by_cases hlt : k < l.length
    · obtain ⟨a, rfl, c0, c1⟩ := hA k hlt
      obtain ⟨b, rfl, d0, d1⟩ := hB k hlt
      have hlt2 : (k : Int) < (l.length : Int) := by omega
      have p1 : w.cell? (⟨(a.add (k * 2)).block, (a.add (k * 2)).off + 1, none⟩) = some (.int .i64 (rSym l k)) := c1
      have q1 : w.cell? (⟨(b.add (k * 2)).block, (b.add (k * 2)).off + 1, none⟩) = some (.int .i64 (rSym l k)) := d1
      clear c1 d1
      go_wp2_with fail
      go_quiet (fail)
      go_wp2
      go_roundw
      case rel => exact ⟨k + 1, _, by go_num, by omega, rfl⟩
      case measure => simp [intOf]; omega
    · go_wp2
      go_ret
      exact ⟨rfl, below_drewN (Below.refl _ _) _⟩

end Go.Proofs.Ytdlcejpfjlpclaa
