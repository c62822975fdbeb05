/-
  Deeds of the program's machine: in. The program's machine: the instruction at which it stands; the table of deeds. The program's machine: what an instruction leaves.
-/
import Derived.Test.YtgkdagnpefgjcaaGreatProg
import Derived.WalkKit
import Derived.WalkSpells
import Derived.WalkLawsBesides
import Derived.RowKit3
import Derived.Below
import Derived.Deep.QuietTactic
import Derived.BigQuiet
import Derived.WalkSmall
import Derived.Laws.Rows
import Derived.Deep.DeepCutAuto
import Derived.Deep.RegionLaw
import Derived.Deep.RegionHeld3
import Derived.Laws.Pointers
import Derived.Outline
import Derived.StillTactics
import Derived.Test.YtgkdagnpefgjcaaGreatPr28
namespace Go.Proofs.YtgkdagnpefgjcaaGreat
open Go.RowKit

section
variable {w : World} {base P : Nat} {s : Loc} {m : Mach}
theorem PAt.num (h : PAt w base P s m) {k : Nat} (hk : k < m.tape.length) : ∃ g, s.X = some ⟨g, 0, none⟩ ∧ m.tape.length ≤ s.xc ∧ w.cell? ⟨g, k, none⟩ = some (.int .i64 (nth m.tape k)) := by
  have e1 := iVals_get (K := .i64) hk
  rcases h.tape.2 with ⟨e, e0⟩ | ⟨g, cap, cur, e, hb, hg, hc, _, hs, ht⟩
  · omega
  · simp only [Value.slice.injEq] at e
    obtain ⟨e3, -, e4⟩ := e
    subst e4
    refine ⟨g, e3, hc, box_at hg ?_⟩
    rw [← ht, List.getElem?_take_of_lt (by omega)] at e1
    simpa using e1
set_option maxHeartbeats 2000000 in
theorem in_did (h : PAt w base P s m) (hm : Fine m) (_hp : m.pc < 16384) {op d a b n : Int} (hi : InsIn op d a b n) : Calls Tryz.prog 56 #[.pointer (some ⟨P, 0, none⟩), .agg #[.int .i8 op, .int .i8 d, .int .i8 a, .int .i8 b, .int .i64 n]] w (DidP w base P s m (inD m d)) := by
  obtain ⟨k, hk0⟩ := Int.eq_ofNat_of_zero_le hi.d0
  have hk : k < 16 := by have := hi.d1; omega
  subst hk0
  have zk : (0 : Int) ≤ (k : Int) := Int.natCast_nonneg _
  have yk : (k : Int) < 16 := by omega
  obtain ⟨c0, c1, c34, c35, c36, c37, c38, c39⟩ := h.cells hm.sixteen
  have htk := hm.taken
  have htl := hm.tape
  have hP := h.lt
  by_cases he : m.taken = m.tape.length
  · have e0 : inD m k = putD m k (0, false) := by unfold inD; rw [if_pos he]
    rw [e0]
    rw [he] at c38
    clear e0 he htk
    have C1 := plain_any 0
    have C2 := fun (W : World) (h : PAt W base P s m) => put_any h hm k hk (0, false)
    have hq0 : ((m.tape.length : Int) == (m.tape.length : Int)) = true := by simp
    go_enter Tryz.func56, Tryz.ntmps56
    go_wp2_with fail
    go_quiet (fail)
    go_wp2_with fail
    go_region_with (first
      | (go_at_call 21; refine (C1 _).mono ?_; rintro e w1 ⟨rfl, rfl⟩)
      | (go_at_call 70; refine (C2 _ (by repeat (first | assumption | apply PAt.drew | apply PAt.drewN | apply PAt.alloc))).mono ?_; rintro e w1 ⟨rfl, hq, hu⟩))
    all_goals (
      go_wp2
      go_ret
      exact did_put rfl hq (Upto.trans (by repeat (first | exact Upto.refl _ _ | apply Upto.drew | apply Upto.drewN | apply Upto.alloc)) hu))
  · have hlt : m.taken < m.tape.length := by omega
    have e0 : inD m k = ⟨0, putM (takeM m) k (nth m.tape m.taken, false), m.pc + 1⟩ := by unfold inD; rw [if_neg he]
    rw [e0]
    have hne0 : ((m.taken : Int) == (m.tape.length : Int)) = false := by simp; omega
    clear e0 he
    have f38 := h.fro 38
    go_enter Tryz.func56, Tryz.ntmps56
    go_wp2_with fail
    go_quiet (fail)
    go_upto_region 4 with fail
    obtain ⟨W0, HW⟩ : ∃ W0, Hid ((((w.alloc (.cells #[.int .i8 op, .int .i8 k, .int .i8 a, .int .i8 b, .int .i64 n] 72)).drewN nq).setCell ⟨P, 38, none⟩ (.int .i64 ((m.taken : Int) + 1))) = W0) := ⟨_, rfl⟩
    have h0 : PAt W0 base P s (takeM m) := by rw [← HW.out]; exact ((h.alloc _).drewN nq).taken hm.sixteen (m.taken + 1)
    have HU : Hid (Upto (Foot s P) w W0) := by unfold Hid; rw [← HW.out]; exact (((Upto.refl _ _).alloc _).drewN nq).set (Or.inl (Or.inl rfl)) _ _
    have hne : w.heap.size ≠ P := by omega
    have HN9 : Hid (But P ((w.alloc (.cells #[.int .i8 op, .int .i8 k, .int .i8 a, .int .i8 b, .int .i64 n] 72)).drewN nq) W0) := by unfold Hid; rw [← HW.out]; exact (But.refl P _).set _ _
    have x1 : W0.cell? ⟨w.heap.size, 1, none⟩ = some (.int .i8 k) := HN9.out.cell (p := ⟨w.heap.size, 1, none⟩) hne (by simp [go_sem])
    rw [HW.out]
    clear HW HN9
    have hm2 : Fine (takeM m) := ⟨hm.sixteen, hm.regs, hm.mem, hm.words, hm.text, hm.some, hm.tape, hm.mlen, hm.pc, hlt, hm.ports⟩
    obtain ⟨g, hX, hcap, t0⟩ := h0.num (k := m.taken) hlt
    have hgP : g ≠ P := own_ne h0.tape (by rw [own_aB, hX]; rfl) h0.box (by decide)
    have C1 := plain_any (nth m.tape m.taken)
    have C2 := fun (W : World) (h : PAt W base P s (takeM m)) => put_near h hm2 k hk (nth m.tape m.taken, false)
    clear c0 c1 c34 c35 c36 c37 c38 c39 f38
    have c1 : W0.cell? ⟨P, 1, none⟩ = some (.slice (some ⟨g, 0, none⟩) m.tape.length s.xc) := by rw [← hX]; exact (h0.cells hm.sixteen).2.1
    have c38 : W0.cell? ⟨P, 38, none⟩ = some (.int .i64 ((m.taken : Int) + 1)) := (h0.cells hm.sixteen).2.2.2.2.2.2.1
    have hN0 := Near.refl P W0
    have hP0 := h0.lt
    have t0 : W0.cell? ⟨g, m.taken, none⟩ = some (.int .i64 (nth m.tape m.taken)) := t0
    have yt : (m.taken : Int) < (m.tape.length : Int) := by omega
    have zt : (0 : Int) ≤ (m.taken : Int) := Int.natCast_nonneg _
    have hcap : m.tape.length ≤ s.xc := hcap
    have wt : IntKind.i64.wrap (m.taken : Int) = (m.taken : Int) := by simp [IntKind.wrap, IntKind.signed, IntKind.bits]; omega
    clear hX h
    go_region_held3 (fun W => Near P W0 W ∧ W.cell? ⟨w.heap.size, 1, none⟩ = some (.int .i8 k) ∧ W.cell? ⟨P, 1, none⟩ = some (.slice (some ⟨g, 0, none⟩) m.tape.length s.xc) ∧ W.cell? ⟨P, 38, none⟩ = some (.int .i64 ((m.taken : Int) + 1)) ∧ W.cell? ⟨g, m.taken, none⟩ = some (.int .i64 (nth m.tape m.taken)))
      (first | exact ⟨hN2, hN2.box hne x1, hN2.tap.trans c1, hN2.tak.trans c38, hN2.box hgP t0⟩ | exact ⟨hN2.drew, hN2.drew.box hne x1, hN2.drew.tap.trans c1, hN2.drew.tak.trans c38, hN2.drew.box hgP t0⟩ | exact ⟨hN, hN.box hne x1, hN.tap.trans c1, hN.tak.trans c38, hN.box hgP t0⟩ | exact ⟨hN.drew, hN.drew.box hne x1, hN.drew.tap.trans c1, hN.drew.tak.trans c38, hN.drew.box hgP t0⟩ | exact ⟨hN0, hN0.box hne x1, hN0.tap.trans c1, hN0.tak.trans c38, hN0.box hgP t0⟩ | exact ⟨hN0.drew, hN0.drew.box hne x1, hN0.drew.tap.trans c1, hN0.drew.tak.trans c38, hN0.drew.box hgP t0⟩)
      (first
        | (go_at_call 21; refine (C1 _).mono ?_; rintro e w1 ⟨rfl, hw1⟩; have hb : Below W0.heap.size W0 w1 := (by rw [hw1]; repeat (first | exact Below.refl _ _ | apply Below.drew | apply lb_alloc)); clear hw1; have h1 : PAt w1 base P s (takeM m) := PAt.keep h0 hb; have hN : Near P W0 w1 := Near.below hN0 hb hP0)
        | (go_at_call 70; refine (C2 _ (by first | exact h1 | exact h1.drew)).mono ?_; rintro e w2 ⟨rfl, hq, hn⟩; have hN2 : Near P W0 w2 := Near.trans (by first | exact hN | exact hN.drew) hn))

    all_goals (
      rename_i hS
      clear hS
      go_wp2_with fail
      go_ret
      exact did_yes rfl rfl hq (HU.out.trans hN2.up))
end



end Go.Proofs.YtgkdagnpefgjcaaGreat

namespace Go.Proofs.YtgkdagnpefgjcaaGreat
open Go.RowKit

section
variable {w : World} {base P : Nat} {s : Loc} {m : Mach}
theorem PAt.ins (h : PAt w base P s m) {k : Nat} (hk : k < m.text.length) : ∃ g, s.T = some ⟨g, 0, none⟩ ∧ m.text.length ≤ s.tc ∧ w.cell? ⟨g, k * 5, none⟩ = some (.int .i8 (dOp (nth m.text k))) ∧ w.cell? ⟨g, k * 5 + 1, none⟩ = some (.int .i8 (dD (nth m.text k))) ∧ w.cell? ⟨g, k * 5 + 2, none⟩ = some (.int .i8 (dA (nth m.text k))) ∧ w.cell? ⟨g, k * 5 + 3, none⟩ = some (.int .i8 (dB (nth m.text k))) ∧ w.cell? ⟨g, k * 5 + 4, none⟩ = some (.int .i64 (dN (nth m.text k))) := by
  obtain ⟨e0, e1, e2, e3, e4⟩ := nVals_get hk
  rcases h.text.2 with ⟨e, e0⟩ | ⟨g, cap, cur, e, hb, hg, hc, _, hs, ht⟩
  · omega
  · simp only [Value.slice.injEq] at e
    obtain ⟨eT, -, eC⟩ := e
    subst eC
    have q : ∀ {i : Nat} {v : Value}, i < m.text.length * 5 → (nVals m.text)[i]? = some v → cur[i]? = some v := by
      intro i v hi hv
      rw [← ht, List.getElem?_take_of_lt hi] at hv
      simpa using hv
    exact ⟨g, eT, hc, box_at hg (q (by omega) e0), box_at hg (q (by omega) e1), box_at hg (q (by omega) e2), box_at hg (q (by omega) e3), box_at hg (q (by omega) e4)⟩
set_option maxHeartbeats 1000000 in
theorem here_end (h : PAt w base P s m) (hm : Fine m) (hp : m.text.length ≤ m.pc) : Calls Tryz.prog 26 #[.pointer (some ⟨P, 0, none⟩)] w fun e w' => e = .returned (.agg #[.int .i8 0, .int .i8 0, .int .i8 0, .int .i8 0, .int .i64 0]) ∧ Below w.heap.size w w' := by
  obtain ⟨c0, c1, c34, c35, c36, c37, c38, c39⟩ := h.cells hm.sixteen
  have hP := h.lt
  have hp2 : (m.text.length : Int) ≤ (m.pc : Int) := by omega
  clear h
  go_enter Tryz.func26, Tryz.ntmps26
  go_wp2_with fail
  go_quiet (fail)
  go_wp2
  refine bodyPost_ret (v := .agg #[.int .i8 0, .int .i8 0, .int .i8 0, .int .i8 0, .int .i64 0]) (by simp [results, Tryz.results26, go_sem]) rfl ⟨rfl, ?_⟩
  repeat (first | exact Below.refl _ _ | apply lb_new | apply below_drewN | apply lb_alloc)
set_option maxHeartbeats 1000000 in
theorem here_ins (h : PAt w base P s m) (hm : Fine m) (hp : m.pc < m.text.length) : Calls Tryz.prog 26 #[.pointer (some ⟨P, 0, none⟩)] w fun e w' => e = .returned (.agg #[.int .i8 (dOp (nth m.text m.pc)), .int .i8 (dD (nth m.text m.pc)), .int .i8 (dA (nth m.text m.pc)), .int .i8 (dB (nth m.text m.pc)), .int .i64 (dN (nth m.text m.pc))]) ∧ Below w.heap.size w w' := by
  obtain ⟨g, hT, hcap, t0, t1, t2, t3, t4⟩ := h.ins hp
  obtain ⟨c0, c1, c34, c35, c36, c37, c38, c39⟩ := h.cells hm.sixteen
  rw [hT] at c0
  have hP := h.lt
  have hg : g < w.heap.size := World.block_lt_of_cell? w _ t0
  have hp2 : (m.pc : Int) < (m.text.length : Int) := by omega
  have hp3 : (0 : Int) ≤ (m.pc : Int) := Int.natCast_nonneg _
  clear h hT
  generalize dOp (nth m.text m.pc) = op at *
  generalize dD (nth m.text m.pc) = d at *
  generalize dA (nth m.text m.pc) = a at *
  generalize dB (nth m.text m.pc) = b at *
  generalize dN (nth m.text m.pc) = n at *
  go_enter Tryz.func26, Tryz.ntmps26
  go_wp2_with fail
  go_quiet (fail)
  go_wp2_with fail
  go_region
  all_goals (
    go_wp2
    refine bodyPost_ret (v := .agg #[.int .i8 op, .int .i8 d, .int .i8 a, .int .i8 b, .int .i64 n]) (by simp [results, Tryz.results26, go_sem]) rfl ⟨rfl, ?_⟩
    repeat (first | exact Below.refl _ _ | apply lb_new | apply below_drewN | apply lb_alloc))
end

def deV : Array Value := #[.func (.func 50) #[] #[], .func (.func 51) #[] #[], .func (.func 52) #[] #[], .func (.func 53) #[] #[], .func (.func 53) #[] #[], .func (.func 53) #[] #[], .func (.func 53) #[] #[], .func (.func 53) #[] #[], .func (.func 53) #[] #[], .func (.func 53) #[] #[], .func (.func 53) #[] #[], .func (.func 54) #[] #[], .func (.func 55) #[] #[], .func (.func 56) #[] #[], .func (.func 57) #[] #[], .func (.func 58) #[] #[], .func (.func 59) #[] #[], .func (.func 60) #[] #[], .func (.func 61) #[] #[], .func (.func 62) #[] #[], .func (.func 63) #[] #[], .func (.func 64) #[] #[]]
def z22 : Array Value := #[.nilFunc, .nilFunc, .nilFunc, .nilFunc, .nilFunc, .nilFunc, .nilFunc, .nilFunc, .nilFunc, .nilFunc, .nilFunc, .nilFunc, .nilFunc, .nilFunc, .nilFunc, .nilFunc, .nilFunc, .nilFunc, .nilFunc, .nilFunc, .nilFunc, .nilFunc]
theorem deeds_new (w : World) (o : Obj) : (w.alloc o).heap[w.heap.size]? = some o := heap_alloc_new w o
theorem deeds_res (w1 : World) (g : Nat) (h : w1.heap[g]? = some (.cells deV 97 (0, 0))) : (results Tryz.f39 #[.pointer (some ⟨g, 0, none⟩), .agg deV]).run Tryz.prog w1 = .ok (.agg deV) w1 := by
  have hl := run_loadVar_row (P := Tryz.prog) w1 g 97 97 deV (0, 0) _ h Tryz.underlying97 rfl (by kernel_rfl)
  have ha : (asAddr (Value.pointer (some ⟨g, 0, none⟩))).run Tryz.prog w1 = .ok ⟨g, 0, none⟩ w1 := rfl
  have hm : (results Tryz.f39 #[.pointer (some ⟨g, 0, none⟩), .agg deV]) = (do
      let vs ← (Tryz.f39.results.mapM fun
        | .tmp t => pure ((#[Value.pointer (some ⟨g, 0, none⟩), .agg deV] : Array Value).getD t undef)
        | .cell a t => do loadVar t (← asAddr ((#[Value.pointer (some ⟨g, 0, none⟩), .agg deV] : Array Value).getD a undef)) : Sem (Array Value))
      pure (if h : vs.size = 1 then vs[0] else .tuple vs)) := rfl
  rw [hm, Tryz.results39]
  have hg0 : (#[Value.pointer (some ⟨g, 0, none⟩), Value.agg deV] : Array Value).getD 0 undef = .pointer (some ⟨g, 0, none⟩) := rfl
  simp only [List.mapM_toArray, List.mapM_cons, List.mapM_nil, map_eq_pure_bind, bind_assoc, pure_bind, Sem.run_bind, Sem.run_pure, Result.andThen_ok, hg0, ha, hl]
  rfl
set_option maxRecDepth 100000 in
theorem deeds_any (w : World) : Calls Tryz.prog 39 #[] w fun e w' => e = .returned (.agg deV) ∧ Below w.heap.size w w' := by
  go_enter Tryz.func39, Tryz.ntmps39
  go_upto_region 1 with fail
  rename_i hK
  apply wp_region_lit
  refine wpList_buildTo rfl 97 _ rfl (some 1) rfl deV (by kernel_rfl) ?_
  refine wpList_store_row rfl 97 _ _ rfl w.heap.size deV rfl rfl 97 z22 (deeds_new _ _) (by kernel_rfl) (by kernel_rfl) (by kernel_rfl) ?_
  apply wpList_nil
  refine hK _ _ (wp_ret ?_)
  exact bodyPost_ret (v := .agg deV) (deeds_res _ _ (setRow_heap _ _ z22 _ _ _ (deeds_new _ _))) rfl ⟨rfl, below_setRow (lb_alloc (Below.refl _ _) _) (Nat.le_refl _) _⟩
theorem index_de0 (w : World) : (Instr.index 97 (.agg deV) (.int .i8 0)).run Tryz.prog w = .ok (.func (.func 50) #[] #[]) w := by kernel_rfl
theorem index_de1 (w : World) : (Instr.index 97 (.agg deV) (.int .i8 1)).run Tryz.prog w = .ok (.func (.func 51) #[] #[]) w := by kernel_rfl
theorem index_de2 (w : World) : (Instr.index 97 (.agg deV) (.int .i8 2)).run Tryz.prog w = .ok (.func (.func 52) #[] #[]) w := by kernel_rfl
theorem index_de3 (w : World) : (Instr.index 97 (.agg deV) (.int .i8 3)).run Tryz.prog w = .ok (.func (.func 53) #[] #[]) w := by kernel_rfl
theorem index_de4 (w : World) : (Instr.index 97 (.agg deV) (.int .i8 4)).run Tryz.prog w = .ok (.func (.func 53) #[] #[]) w := by kernel_rfl
theorem index_de5 (w : World) : (Instr.index 97 (.agg deV) (.int .i8 5)).run Tryz.prog w = .ok (.func (.func 53) #[] #[]) w := by kernel_rfl
theorem index_de6 (w : World) : (Instr.index 97 (.agg deV) (.int .i8 6)).run Tryz.prog w = .ok (.func (.func 53) #[] #[]) w := by kernel_rfl
theorem index_de7 (w : World) : (Instr.index 97 (.agg deV) (.int .i8 7)).run Tryz.prog w = .ok (.func (.func 53) #[] #[]) w := by kernel_rfl
theorem index_de8 (w : World) : (Instr.index 97 (.agg deV) (.int .i8 8)).run Tryz.prog w = .ok (.func (.func 53) #[] #[]) w := by kernel_rfl
theorem index_de9 (w : World) : (Instr.index 97 (.agg deV) (.int .i8 9)).run Tryz.prog w = .ok (.func (.func 53) #[] #[]) w := by kernel_rfl
theorem index_de10 (w : World) : (Instr.index 97 (.agg deV) (.int .i8 10)).run Tryz.prog w = .ok (.func (.func 53) #[] #[]) w := by kernel_rfl
theorem index_de11 (w : World) : (Instr.index 97 (.agg deV) (.int .i8 11)).run Tryz.prog w = .ok (.func (.func 54) #[] #[]) w := by kernel_rfl
theorem index_de12 (w : World) : (Instr.index 97 (.agg deV) (.int .i8 12)).run Tryz.prog w = .ok (.func (.func 55) #[] #[]) w := by kernel_rfl
theorem index_de13 (w : World) : (Instr.index 97 (.agg deV) (.int .i8 13)).run Tryz.prog w = .ok (.func (.func 56) #[] #[]) w := by kernel_rfl
theorem index_de14 (w : World) : (Instr.index 97 (.agg deV) (.int .i8 14)).run Tryz.prog w = .ok (.func (.func 57) #[] #[]) w := by kernel_rfl
theorem index_de15 (w : World) : (Instr.index 97 (.agg deV) (.int .i8 15)).run Tryz.prog w = .ok (.func (.func 58) #[] #[]) w := by kernel_rfl
theorem index_de16 (w : World) : (Instr.index 97 (.agg deV) (.int .i8 16)).run Tryz.prog w = .ok (.func (.func 59) #[] #[]) w := by kernel_rfl
theorem index_de17 (w : World) : (Instr.index 97 (.agg deV) (.int .i8 17)).run Tryz.prog w = .ok (.func (.func 60) #[] #[]) w := by kernel_rfl
theorem index_de18 (w : World) : (Instr.index 97 (.agg deV) (.int .i8 18)).run Tryz.prog w = .ok (.func (.func 61) #[] #[]) w := by kernel_rfl
theorem index_de19 (w : World) : (Instr.index 97 (.agg deV) (.int .i8 19)).run Tryz.prog w = .ok (.func (.func 62) #[] #[]) w := by kernel_rfl
theorem index_de20 (w : World) : (Instr.index 97 (.agg deV) (.int .i8 20)).run Tryz.prog w = .ok (.func (.func 63) #[] #[]) w := by kernel_rfl
theorem index_de21 (w : World) : (Instr.index 97 (.agg deV) (.int .i8 21)).run Tryz.prog w = .ok (.func (.func 64) #[] #[]) w := by kernel_rfl



end Go.Proofs.YtgkdagnpefgjcaaGreat

namespace Go.Proofs.YtgkdagnpefgjcaaGreat
open Go.RowKit

section
variable {w W : World} {base P : Nat} {s : Loc} {m : Mach}
/-- What is done. -/
def DoneP (w : World) (base P : Nat) (s : Loc) (r : Did) (w' : World) : Prop := ∃ s', PAt w' base P s' r.m ∧ Upto (Foot s P) w w' ∧ ∀ b, Foot s' P b → Foot s P b ∨ w.heap.size ≤ b
theorem DoneP.up {r : Did} {w' : World} (h : DoneP w base P s r w') : Upto (Foot s P) w w' := by
  obtain ⟨s', -, h, -⟩ := h
  exact h
theorem DoneP.on {r : Did} {w1 w' : World} (hu : Upto (Foot s P) w w1) (h : DoneP w1 base P s r w') : DoneP w base P s r w' := by
  obtain ⟨s', h1, h2, h3⟩ := h
  exact ⟨s', h1, hu.trans h2, fun b hb => (h3 b hb).imp id fun k => Nat.le_trans hu.size k⟩
theorem done_did {r : Did} {w1 w' : World} (hr : r.err = 0) (hb : Below w.heap.size w w1) (h : DoneP w1 base P s r w') : DidP w base P s m r (.returned (.int .i64 r.to)) w' := .inr ⟨hr, rfl, DoneP.on (Upto.of hb) h⟩
theorem upto_cell {F : Nat → Prop} {W0 : World} {B i : Nat} {v : Value} (h : Upto F W0 W) (hn : ¬ F B) (hc : W0.cell? ⟨B, i, none⟩ = some v) : W.cell? ⟨B, i, none⟩ = some v := by
  rw [World.cell?_of_block (h.block B (World.block_lt_of_cell? W0 _ hc) hn)]
  exact hc
set_option maxHeartbeats 2000000 in
theorem do_neg {op d a b n : Int} (ho : op < 0) : Calls Tryz.prog 25 #[.pointer (some ⟨P, 0, none⟩), .agg #[.int .i8 op, .int .i8 d, .int .i8 a, .int .i8 b, .int .i64 n]] w (DidP w base P s m (noD m 3)) := by
  go_enter Tryz.func25, Tryz.ntmps25
  go_wp2
  exact ⟨rfl, did_no (by decide) (lb_alloc (Below.refl _ _) _)⟩
end



end Go.Proofs.YtgkdagnpefgjcaaGreat
