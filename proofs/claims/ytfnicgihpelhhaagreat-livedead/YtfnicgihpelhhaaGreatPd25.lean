/-
  The program's machine: the instruction at which it stands; the table of deeds. The program's machine: what an instruction leaves.
-/
import Derived.Test.YtfnicgihpelhhaaGreatProg
import Derived.WalkKit
import Derived.WalkSpells
import Derived.WalkLawsBesides
import Derived.RowKit3
import Derived.Below
import Derived.Deep.QuietTactic
import Derived.BigQuiet
import Derived.WalkSmall
import Derived.Laws.Rows
import Derived.Deep.RegionHeld3
import Derived.Laws.Pointers
import Derived.Outline
import Derived.StillTactics
import Derived.Test.YtfnicgihpelhhaaGreatPd22
import Derived.Deep.RegionLaw
import Derived.Test.YtfnicgihpelhhaaGreatPd24
namespace Go.Proofs.YtfnicgihpelhhaaGreat
open Go.RowKit

section
variable {w : World} {base P : Nat} {s : Loc} {m : Mach}
theorem PAt.ins (h : PAt w base P s m) {k : Nat} (hk : k < m.text.length) : ∃ g, s.T = some ⟨g, 0, none⟩ ∧ m.text.length ≤ s.tc ∧ w.cell? ⟨g, k * 5, none⟩ = some (.int .i8 (dOp (nth m.text k))) ∧ w.cell? ⟨g, k * 5 + 1, none⟩ = some (.int .i8 (dD (nth m.text k))) ∧ w.cell? ⟨g, k * 5 + 2, none⟩ = some (.int .i8 (dA (nth m.text k))) ∧ w.cell? ⟨g, k * 5 + 3, none⟩ = some (.int .i8 (dB (nth m.text k))) ∧ w.cell? ⟨g, k * 5 + 4, none⟩ = some (.int .i64 (dN (nth m.text k))) := by
  obtain ⟨e0, e1, e2, e3, e4⟩ := nVals_get hk
  rcases h.text.2 with ⟨e, e0⟩ | ⟨g, cap, cur, e, hb, hg, hc, _, hs, ht⟩
  · omega
  · simp only [Value.slice.injEq] at e
    obtain ⟨eT, -, eC⟩ := e
    subst eC
    have q : ∀ {i : Nat} {v : Value}, i < m.text.length * 5 → (nVals m.text)[i]? = some v → cur[i]? = some v := by
      intro i v hi hv
      rw [← ht, List.getElem?_take_of_lt hi] at hv
      simpa using hv
    exact ⟨g, eT, hc, box_at hg (q (by omega) e0), box_at hg (q (by omega) e1), box_at hg (q (by omega) e2), box_at hg (q (by omega) e3), box_at hg (q (by omega) e4)⟩
set_option maxHeartbeats 1000000 in
theorem here_end (h : PAt w base P s m) (hm : Fine m) (hp : m.text.length ≤ m.pc) : Calls Tryz.prog 66 #[.pointer (some ⟨P, 0, none⟩)] w fun e w' => e = .returned (.agg #[.int .i8 0, .int .i8 0, .int .i8 0, .int .i8 0, .int .i64 0]) ∧ Below w.heap.size w w' := by
  obtain ⟨c0, c1, c34, c35, c36, c37, c38, c39⟩ := h.cells hm.sixteen
  have hP := h.lt
  have hp2 : (m.text.length : Int) ≤ (m.pc : Int) := by omega
  clear h
  go_enter Tryz.func66, Tryz.ntmps66
  go_wp2_with fail
  go_quiet (fail)
  go_wp2
  refine bodyPost_ret (v := .agg #[.int .i8 0, .int .i8 0, .int .i8 0, .int .i8 0, .int .i64 0]) (by simp [results, Tryz.results66, go_sem]) rfl ⟨rfl, ?_⟩
  repeat (first | exact Below.refl _ _ | apply lb_new | apply below_drewN | apply lb_alloc)
set_option maxHeartbeats 1000000 in
theorem here_ins (h : PAt w base P s m) (hm : Fine m) (hp : m.pc < m.text.length) : Calls Tryz.prog 66 #[.pointer (some ⟨P, 0, none⟩)] w fun e w' => e = .returned (.agg #[.int .i8 (dOp (nth m.text m.pc)), .int .i8 (dD (nth m.text m.pc)), .int .i8 (dA (nth m.text m.pc)), .int .i8 (dB (nth m.text m.pc)), .int .i64 (dN (nth m.text m.pc))]) ∧ Below w.heap.size w w' := by
  obtain ⟨g, hT, hcap, t0, t1, t2, t3, t4⟩ := h.ins hp
  obtain ⟨c0, c1, c34, c35, c36, c37, c38, c39⟩ := h.cells hm.sixteen
  rw [hT] at c0
  have hP := h.lt
  have hg : g < w.heap.size := World.block_lt_of_cell? w _ t0
  have hp2 : (m.pc : Int) < (m.text.length : Int) := by omega
  have hp3 : (0 : Int) ≤ (m.pc : Int) := Int.natCast_nonneg _
  clear h hT
  generalize dOp (nth m.text m.pc) = op at *
  generalize dD (nth m.text m.pc) = d at *
  generalize dA (nth m.text m.pc) = a at *
  generalize dB (nth m.text m.pc) = b at *
  generalize dN (nth m.text m.pc) = n at *
  go_enter Tryz.func66, Tryz.ntmps66
  go_wp2_with fail
  go_quiet (fail)
  go_wp2_with fail
  go_region
  all_goals (
    go_wp2
    refine bodyPost_ret (v := .agg #[.int .i8 op, .int .i8 d, .int .i8 a, .int .i8 b, .int .i64 n]) (by simp [results, Tryz.results66, go_sem]) rfl ⟨rfl, ?_⟩
    repeat (first | exact Below.refl _ _ | apply lb_new | apply below_drewN | apply lb_alloc))
end

def deV : Array Value := #[.func (.func 95) #[] #[], .func (.func 96) #[] #[], .func (.func 97) #[] #[], .func (.func 98) #[] #[], .func (.func 98) #[] #[], .func (.func 98) #[] #[], .func (.func 98) #[] #[], .func (.func 98) #[] #[], .func (.func 98) #[] #[], .func (.func 98) #[] #[], .func (.func 98) #[] #[], .func (.func 99) #[] #[], .func (.func 100) #[] #[], .func (.func 101) #[] #[], .func (.func 102) #[] #[], .func (.func 103) #[] #[], .func (.func 104) #[] #[], .func (.func 105) #[] #[], .func (.func 106) #[] #[], .func (.func 107) #[] #[], .func (.func 108) #[] #[], .func (.func 109) #[] #[]]
def z22 : Array Value := #[.nilFunc, .nilFunc, .nilFunc, .nilFunc, .nilFunc, .nilFunc, .nilFunc, .nilFunc, .nilFunc, .nilFunc, .nilFunc, .nilFunc, .nilFunc, .nilFunc, .nilFunc, .nilFunc, .nilFunc, .nilFunc, .nilFunc, .nilFunc, .nilFunc, .nilFunc]
theorem deeds_new (w : World) (o : Obj) : (w.alloc o).heap[w.heap.size]? = some o := heap_alloc_new w o
theorem deeds_res (w1 : World) (g : Nat) (h : w1.heap[g]? = some (.cells deV 143 (0, 0))) : (results Tryz.f85 #[.pointer (some ⟨g, 0, none⟩), .agg deV]).run Tryz.prog w1 = .ok (.agg deV) w1 := by
  have hl := run_loadVar_row (P := Tryz.prog) w1 g 143 143 deV (0, 0) _ h Tryz.underlying143 rfl (by kernel_rfl)
  have ha : (asAddr (Value.pointer (some ⟨g, 0, none⟩))).run Tryz.prog w1 = .ok ⟨g, 0, none⟩ w1 := rfl
  have hm : (results Tryz.f85 #[.pointer (some ⟨g, 0, none⟩), .agg deV]) = (do
      let vs ← (Tryz.f85.results.mapM fun
        | .tmp t => pure ((#[Value.pointer (some ⟨g, 0, none⟩), .agg deV] : Array Value).getD t undef)
        | .cell a t => do loadVar t (← asAddr ((#[Value.pointer (some ⟨g, 0, none⟩), .agg deV] : Array Value).getD a undef)) : Sem (Array Value))
      pure (if h : vs.size = 1 then vs[0] else .tuple vs)) := rfl
  rw [hm, Tryz.results85]
  have hg0 : (#[Value.pointer (some ⟨g, 0, none⟩), Value.agg deV] : Array Value).getD 0 undef = .pointer (some ⟨g, 0, none⟩) := rfl
  simp only [List.mapM_toArray, List.mapM_cons, List.mapM_nil, map_eq_pure_bind, bind_assoc, pure_bind, Sem.run_bind, Sem.run_pure, Result.andThen_ok, hg0, ha, hl]
  rfl
set_option maxRecDepth 100000 in
theorem deeds_any (w : World) : Calls Tryz.prog 85 #[] w fun e w' => e = .returned (.agg deV) ∧ Below w.heap.size w w' := by
  go_enter Tryz.func85, Tryz.ntmps85
  go_upto_region 1 with fail
  rename_i hK
  apply wp_region_lit
  refine wpList_buildTo rfl 143 _ rfl (some 1) rfl deV (by kernel_rfl) ?_
  refine wpList_store_row rfl 143 _ _ rfl w.heap.size deV rfl rfl 143 z22 (deeds_new _ _) (by kernel_rfl) (by kernel_rfl) (by kernel_rfl) ?_
  apply wpList_nil
  refine hK _ _ (wp_ret ?_)
  exact bodyPost_ret (v := .agg deV) (deeds_res _ _ (setRow_heap _ _ z22 _ _ _ (deeds_new _ _))) rfl ⟨rfl, below_setRow (lb_alloc (Below.refl _ _) _) (Nat.le_refl _) _⟩
theorem index_de0 (w : World) : (Instr.index 143 (.agg deV) (.int .i8 0)).run Tryz.prog w = .ok (.func (.func 95) #[] #[]) w := by kernel_rfl
theorem index_de1 (w : World) : (Instr.index 143 (.agg deV) (.int .i8 1)).run Tryz.prog w = .ok (.func (.func 96) #[] #[]) w := by kernel_rfl
theorem index_de2 (w : World) : (Instr.index 143 (.agg deV) (.int .i8 2)).run Tryz.prog w = .ok (.func (.func 97) #[] #[]) w := by kernel_rfl
theorem index_de3 (w : World) : (Instr.index 143 (.agg deV) (.int .i8 3)).run Tryz.prog w = .ok (.func (.func 98) #[] #[]) w := by kernel_rfl
theorem index_de4 (w : World) : (Instr.index 143 (.agg deV) (.int .i8 4)).run Tryz.prog w = .ok (.func (.func 98) #[] #[]) w := by kernel_rfl
theorem index_de5 (w : World) : (Instr.index 143 (.agg deV) (.int .i8 5)).run Tryz.prog w = .ok (.func (.func 98) #[] #[]) w := by kernel_rfl
theorem index_de6 (w : World) : (Instr.index 143 (.agg deV) (.int .i8 6)).run Tryz.prog w = .ok (.func (.func 98) #[] #[]) w := by kernel_rfl
theorem index_de7 (w : World) : (Instr.index 143 (.agg deV) (.int .i8 7)).run Tryz.prog w = .ok (.func (.func 98) #[] #[]) w := by kernel_rfl
theorem index_de8 (w : World) : (Instr.index 143 (.agg deV) (.int .i8 8)).run Tryz.prog w = .ok (.func (.func 98) #[] #[]) w := by kernel_rfl
theorem index_de9 (w : World) : (Instr.index 143 (.agg deV) (.int .i8 9)).run Tryz.prog w = .ok (.func (.func 98) #[] #[]) w := by kernel_rfl
theorem index_de10 (w : World) : (Instr.index 143 (.agg deV) (.int .i8 10)).run Tryz.prog w = .ok (.func (.func 98) #[] #[]) w := by kernel_rfl
theorem index_de11 (w : World) : (Instr.index 143 (.agg deV) (.int .i8 11)).run Tryz.prog w = .ok (.func (.func 99) #[] #[]) w := by kernel_rfl
theorem index_de12 (w : World) : (Instr.index 143 (.agg deV) (.int .i8 12)).run Tryz.prog w = .ok (.func (.func 100) #[] #[]) w := by kernel_rfl
theorem index_de13 (w : World) : (Instr.index 143 (.agg deV) (.int .i8 13)).run Tryz.prog w = .ok (.func (.func 101) #[] #[]) w := by kernel_rfl
theorem index_de14 (w : World) : (Instr.index 143 (.agg deV) (.int .i8 14)).run Tryz.prog w = .ok (.func (.func 102) #[] #[]) w := by kernel_rfl
theorem index_de15 (w : World) : (Instr.index 143 (.agg deV) (.int .i8 15)).run Tryz.prog w = .ok (.func (.func 103) #[] #[]) w := by kernel_rfl
theorem index_de16 (w : World) : (Instr.index 143 (.agg deV) (.int .i8 16)).run Tryz.prog w = .ok (.func (.func 104) #[] #[]) w := by kernel_rfl
theorem index_de17 (w : World) : (Instr.index 143 (.agg deV) (.int .i8 17)).run Tryz.prog w = .ok (.func (.func 105) #[] #[]) w := by kernel_rfl
theorem index_de18 (w : World) : (Instr.index 143 (.agg deV) (.int .i8 18)).run Tryz.prog w = .ok (.func (.func 106) #[] #[]) w := by kernel_rfl
theorem index_de19 (w : World) : (Instr.index 143 (.agg deV) (.int .i8 19)).run Tryz.prog w = .ok (.func (.func 107) #[] #[]) w := by kernel_rfl
theorem index_de20 (w : World) : (Instr.index 143 (.agg deV) (.int .i8 20)).run Tryz.prog w = .ok (.func (.func 108) #[] #[]) w := by kernel_rfl
theorem index_de21 (w : World) : (Instr.index 143 (.agg deV) (.int .i8 21)).run Tryz.prog w = .ok (.func (.func 109) #[] #[]) w := by kernel_rfl





end Go.Proofs.YtfnicgihpelhhaaGreat

namespace Go.Proofs.YtfnicgihpelhhaaGreat
open Go.RowKit

section
variable {w W : World} {base P : Nat} {s : Loc} {m : Mach}
/-- What is done. -/
def DoneP (w : World) (base P : Nat) (s : Loc) (r : Did) (w' : World) : Prop := ∃ s', PAt w' base P s' r.m ∧ Upto (Foot s P) w w' ∧ ∀ b, Foot s' P b → Foot s P b ∨ w.heap.size ≤ b
theorem DoneP.up {r : Did} {w' : World} (h : DoneP w base P s r w') : Upto (Foot s P) w w' := by
  obtain ⟨s', -, h, -⟩ := h
  exact h
theorem DoneP.on {r : Did} {w1 w' : World} (hu : Upto (Foot s P) w w1) (h : DoneP w1 base P s r w') : DoneP w base P s r w' := by
  obtain ⟨s', h1, h2, h3⟩ := h
  exact ⟨s', h1, hu.trans h2, fun b hb => (h3 b hb).imp id fun k => Nat.le_trans hu.size k⟩
theorem done_did {r : Did} {w1 w' : World} (hr : r.err = 0) (hb : Below w.heap.size w w1) (h : DoneP w1 base P s r w') : DidP w base P s m r (.returned (.int .i64 r.to)) w' := .inr ⟨hr, rfl, DoneP.on (Upto.of hb) h⟩
theorem upto_cell {F : Nat → Prop} {W0 : World} {B i : Nat} {v : Value} (h : Upto F W0 W) (hn : ¬ F B) (hc : W0.cell? ⟨B, i, none⟩ = some v) : W.cell? ⟨B, i, none⟩ = some v := by
  rw [World.cell?_of_block (h.block B (World.block_lt_of_cell? W0 _ hc) hn)]
  exact hc
set_option maxHeartbeats 2000000 in
theorem do_neg {op d a b n : Int} (ho : op < 0) : Calls Tryz.prog 65 #[.pointer (some ⟨P, 0, none⟩), .agg #[.int .i8 op, .int .i8 d, .int .i8 a, .int .i8 b, .int .i64 n]] w (DidP w base P s m (noD m 3)) := by
  go_enter Tryz.func65, Tryz.ntmps65
  go_wp2
  exact ⟨rfl, did_no (by decide) (lb_alloc (Below.refl _ _) _)⟩
end





end Go.Proofs.YtfnicgihpelhhaaGreat
