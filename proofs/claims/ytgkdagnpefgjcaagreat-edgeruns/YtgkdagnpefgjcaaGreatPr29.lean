/-
  Deeds of the program's machine: out. Rows of words and ports, cloned; Memory and Ports of the program's machine. Lists of the program's machine that grow.
-/
import Derived.Test.YtgkdagnpefgjcaaGreatProg
import Derived.WalkKit
import Derived.WalkSpells
import Derived.WalkLawsBesides
import Derived.RowKit3
import Derived.Below
import Derived.Deep.QuietTactic
import Derived.BigQuiet
import Derived.WalkSmall
import Derived.Laws.Rows
import Derived.Deep.DeepCutAuto
import Derived.Deep.RegionLaw
import Derived.Deep.AppendLies
import Derived.Deep.RegionHeld3
import Derived.Laws.Pointers
import Derived.Outline
import Derived.StillTactics
import Derived.Test.YtgkdagnpefgjcaaGreatPr28
import Derived.Test.YtgkdagnpefgjcaaGreatPr27
import Derived.Test.YtgkdagnpefgjcaaGreatPr10
namespace Go.Proofs.YtgkdagnpefgjcaaGreat
open Go.RowKit

section
variable {w : World} {base P : Nat} {s : Loc} {m : Mach}
theorem infoPort : ∃ i, Tryz.prog.info? 120 = some i ∧ i.zero = some (.agg #[.int .i64 0, .int .i64 0]) ∧ i.size = 2 ∧ i.bytes = 16 :=
  ⟨(Tryz.prog.info? 120).get (by kernel_rfl), by kernel_rfl, by kernel_rfl, by kernel_rfl, by kernel_rfl⟩
/-- Where the ports lie now. -/
def Loc.at (s : Loc) (v : Value) : Loc := { s with V := v }
theorem boxM_out (s : Loc) (m : Mach) (h : m.regs.length = 16) (v : Value) (x y : Int) : (boxM s m).setIfInBounds 35 v = boxM (s.at v) (outM m x y) := by
  rw [show 35 = 34 + 1 from rfl, boxM_at s m h]
  rfl
/-- One more port: the list grew. -/
theorem PAt.out (h : PAt w base P s m) (hm : m.regs.length = 16) {w' : World} {v : Value} {x y : Int} (hg : w.grownBy w' s.V.ownBlock) (ho : w'.ownsRow base 120 2 v (m.ports.length + 1) (pVals m.ports ++ [.int .i64 x, .int .i64 y])) : PAt (w'.setCell ⟨P, 35, none⟩ v) base P (s.at v) (outM m x y) := by
  have hk : ∀ b, b < w.heap.size → some b ≠ s.V.ownBlock → w'.heap[b]? = w.heap[b]? := fun b hb hn => hg.block b hb hn
  have hPV : some P ≠ s.V.ownBlock := fun e => own_ne h.ports e.symm h.box (by decide) rfl
  have hb : w'.heap[P]? = some (.cells (boxM s m) 70 (0, 0)) := (hk P h.lt hPV).trans h.box
  have row : ∀ {e : TypeId} {z n : Nat} {u : Value} {xs : List Value}, w.ownsRow base e z u n xs → e ≠ 120 → e ≠ 70 → (w'.setCell ⟨P, 35, none⟩ v).ownsRow base e z u n xs := by
    intro e z n u xs hr n1 n2
    refine own_stay hr fun b e => ?_
    have hbP := own_ne hr e h.box n2
    rw [Below.heap_setCell _ _ _ _ hbP]
    refine hk b (own_in hr e).2 fun ev => ?_
    obtain ⟨cur, hc⟩ := own_block h.ports ev.symm
    exact own_ne hr e hc n1 rfl
  refine ⟨?_, h.bP, row h.text (by decide) (by decide), row h.tape (by decide) (by decide), row h.mem (by decide) (by decide), ?_⟩
  · rw [← boxM_out s m hm v x y]
    exact box_set hb _ _
  · have hl : (outM m x y).ports.length = m.ports.length + 1 := by simp [outM]
    rw [hl]
    have e : pVals (outM m x y).ports = pVals m.ports ++ [.int .i64 x, .int .i64 y] := pVals_snoc m.ports (x, y)
    rw [e]
    exact own_stay ho fun b e => Below.heap_setCell _ _ _ _ (own_ne ho e hb (by decide))
theorem out_up {w' : World} {v : Value} {g H : Nat} (hg : w.grownBy w' s.V.ownBlock) (hv : v.ownBlock = some g) (hl : s.V.ownBlock = some g ∨ g = H) (hH : w.heap.size = H) : Upto (Foot s P) w (w'.setCell ⟨P, 35, none⟩ v) ∧ ∀ b, Foot (s.at v) P b → Foot s P b ∨ w.heap.size ≤ b := by
  refine ⟨?_, ?_⟩
  · refine Upto.set (a := w) (b := w') ⟨hg.os, hg.tape, hg.output, hg.size, fun b hb hn => hg.block b hb fun e => hn (.inr (.inr (.inr (.inr e.symm))))⟩ (Or.inl (Or.inl rfl)) _ _
  · intro b hb
    rcases hb with e | e | e | e | e
    · exact .inl (.inl e)
    · exact .inl (.inr (.inl e))
    · exact .inl (.inr (.inr (.inl e)))
    · exact .inl (.inr (.inr (.inr (.inl e))))
    · have e : v.ownBlock = some b := e
      rw [hv] at e
      cases e
      rcases hl with e | e
      · exact .inl (.inr (.inr (.inr (.inr e))))
      · exact .inr (by omega)
set_option maxHeartbeats 4000000 in
theorem out_did (h : PAt w base P s m) (hm : Fine m) (hp : m.pc < 16384) {op d a b n : Int} (hi : InsIn op d a b n) (hst : m.steps < 1048576) : Calls Tryz.prog 57 #[.pointer (some ⟨P, 0, none⟩), .agg #[.int .i8 op, .int .i8 d, .int .i8 a, .int .i8 b, .int .i64 n]] w (DidP w base P s m (outD m a n)) := by
  obtain ⟨j, hj0⟩ := Int.eq_ofNat_of_zero_le hi.a0
  have hj : j < 16 := by have := hi.a1; omega
  subst hj0
  have zj : (0 : Int) ≤ (j : Int) := Int.natCast_nonneg _
  have yj : (j : Int) < 16 := by omega
  by_cases hc : wC m.regs j = true
  · have e0 : outD m j n = noD m 4 := by unfold outD; rw [if_pos (show rC m j = true from hc)]
    rw [e0]
    have C1 := fun (W : World) (h : PAt W base P s m) => number_no h hm j hj hc
    clear e0
    obtain ⟨W0, HW⟩ : ∃ W0, Hid (w.alloc (.cells #[.int .i8 op, .int .i8 d, .int .i8 j, .int .i8 b, .int .i64 n] 72) = W0) := ⟨_, rfl⟩
    have x0 : W0.cell? ⟨w.heap.size, 0, none⟩ = some (.int .i8 op) := by rw [← HW.out]; simp [go_sem]
    have x1 : W0.cell? ⟨w.heap.size, 1, none⟩ = some (.int .i8 d) := by rw [← HW.out]; simp [go_sem]
    have x2 : W0.cell? ⟨w.heap.size, 2, none⟩ = some (.int .i8 j) := by rw [← HW.out]; simp [go_sem]
    have x3 : W0.cell? ⟨w.heap.size, 3, none⟩ = some (.int .i8 b) := by rw [← HW.out]; simp [go_sem]
    have x4 : W0.cell? ⟨w.heap.size, 4, none⟩ = some (.int .i64 n) := by rw [← HW.out]; simp [go_sem]
    have h0 : PAt W0 base P s m := by rw [← HW.out]; exact h.alloc _
    have HB0 : Hid (Below w.heap.size w W0) := by unfold Hid; rw [← HW.out]; exact lb_alloc (Below.refl _ _) _
    have hz0 : w.heap.size < W0.heap.size := by rw [← HW.out]; simp
    have hP := h.lt
    have hWW := Below.refl W0.heap.size W0
    obtain ⟨-, -, -, c35, -⟩ := h0.cells hm.sixteen
    clear hWW
    go_enter Tryz.func57, Tryz.ntmps57
    go_upto_region 1 with fail
    rw [HW.out]
    clear HW h
    go_region_law (go_simp; go_at_call 74; refine (C1 _ (by first | exact h0 | exact h0.drew)).mono ?_; rintro e w1 ⟨rfl, hb⟩; refine by_stop ⟨rfl, did_no (by decide) (lb_trans HB0.out (lb_trans (Below.drew (Below.refl _ _)) hb))⟩ w1 ?_)
    all_goals trivial
  · have hc : wC m.regs j = false := by simpa using hc
    have e0 : outD m j n = ⟨0, outM m n (wV m.regs j), m.pc + 1⟩ := by unfold outD; rw [if_neg (by show ¬ wC m.regs j = true; rw [hc]; decide)]; rfl
    rw [e0]
    have C1 := fun (W : World) (h : PAt W base P s m) => number_yes h hm j hj hc
    clear e0 hc
    obtain ⟨ip, hp0, hp1, hp2, hp3⟩ := infoPort
    obtain ⟨W0, HW⟩ : ∃ W0, Hid (w.alloc (.cells #[.int .i8 op, .int .i8 d, .int .i8 j, .int .i8 b, .int .i64 n] 72) = W0) := ⟨_, rfl⟩
    have x0 : W0.cell? ⟨w.heap.size, 0, none⟩ = some (.int .i8 op) := by rw [← HW.out]; simp [go_sem]
    have x1 : W0.cell? ⟨w.heap.size, 1, none⟩ = some (.int .i8 d) := by rw [← HW.out]; simp [go_sem]
    have x2 : W0.cell? ⟨w.heap.size, 2, none⟩ = some (.int .i8 j) := by rw [← HW.out]; simp [go_sem]
    have x3 : W0.cell? ⟨w.heap.size, 3, none⟩ = some (.int .i8 b) := by rw [← HW.out]; simp [go_sem]
    have x4 : W0.cell? ⟨w.heap.size, 4, none⟩ = some (.int .i64 n) := by rw [← HW.out]; simp [go_sem]
    have h0 : PAt W0 base P s m := by rw [← HW.out]; exact h.alloc _
    have HB0 : Hid (Below w.heap.size w W0) := by unfold Hid; rw [← HW.out]; exact lb_alloc (Below.refl _ _) _
    have hz0 : w.heap.size < W0.heap.size := by rw [← HW.out]; simp
    have hP := h.lt
    have hWW := Below.refl W0.heap.size W0
    obtain ⟨-, -, -, c35, c36, -⟩ := h0.cells hm.sixteen
    have hpl := hm.ports
    have hpc := hm.pc
    have hbase : base ≤ W0.heap.size := Nat.le_of_lt (Nat.lt_of_le_of_lt h0.bP h0.lt)
    have hP0 := h0.lt
    generalize wV m.regs j = V at *
    clear hWW
    go_enter Tryz.func57, Tryz.ntmps57
    go_upto_region 1 with fail
    rw [HW.out]
    clear HW h
    go_region_law
      (first
        | (revert HO2; intro HO2; refine step_append_lies _ rfl (.tmp 9) (.tmp 17) 68 rfl base 120 ip (.agg #[.int .i64 0, .int .i64 0]) 2 16 Tryz.underlying68 hp0 hp1 hp2 hp3 rfl (by decide) s.V m.ports.length (pVals m.ports) rfl HO2.out ⟨wd.heap.size, 0, none⟩ 1 1 [.int .i64 n, .int .i64 V] rfl rfl (fun j u hu => World.news_of_block HNw.out j u hu) (by simp [Value.oneCell']) (by omega) (by unfold maxLen; omega) (by omega) (by have := HSz2.out; simp; omega) (wd.heap.size + 1) (by simp) ?_; intro g3 cap3 we hown hgrow hlie hlt3; have HG3 : Hid _ := hgrow; have HO3 : Hid _ := hown; have HL3 : Hid _ := hlie; have yD : we.cell? ⟨P, 35, none⟩ = some s.V := (World.grownBy.cell hgrow (a := ⟨P, 35, none⟩) cE (fun e => own_ne HO2.out e.symm (PAt.box HT3.out) (by decide) rfl)); have fD : we.frozen? ⟨P, 35, none⟩ = false := box_fro ((hgrow.block P (PAt.lt HT3.out) (fun e => own_ne HO2.out e.symm (PAt.box HT3.out) (by decide) rfl)).trans (PAt.box HT3.out)) 35; clear hown hgrow hlie)
        | (go_simp; go_at_call 74; refine (C1 _ (by first | exact h0 | exact h0.drew)).mono ?_; rintro e wd ⟨rfl, hb1⟩; have HT2 : Hid (PAt wd base P s m) := PAt.keep (by first | exact h0 | exact h0.drew) hb1; have HT3 : Hid (PAt (wd.alloc (.cells #[.int .i64 n, .int .i64 V] 120)) base P s m) := PAt.alloc HT2.out _; have HO2 : Hid _ := PAt.ports HT3.out; have HBd : Hid (Below W0.heap.size W0 wd) := lb_trans (Below.drew (Below.refl _ _)) hb1; have HSz2 : Hid (base ≤ wd.heap.size) := Nat.le_trans hbase hb1.size; have HNw : Hid ((wd.alloc (.cells #[.int .i64 n, .int .i64 V] 120)).heap[wd.heap.size]? = some (.cells #[.int .i64 n, .int .i64 V] 120 (0, 0))) := heap_alloc_new _ _; have cD : wd.cell? ⟨P, 35, none⟩ = some s.V := lkeep hb1 c35; have cE : (wd.alloc (.cells #[.int .i64 n, .int .i64 V] 120)).cell? ⟨P, 35, none⟩ = some s.V := lkeep (lb_alloc (Below.refl _ _) _) cD; have xn : wd.cell? ⟨w.heap.size, 4, none⟩ = some (.int .i64 n) := lkeep hb1 x4; clear hb1))
    all_goals (
      have HG4 : Hid ((wd.alloc (.cells #[.int .i64 n, .int .i64 V] 120)).grownBy we s.V.ownBlock) := ⟨HG3.out.os, HG3.out.tape, HG3.out.output, HG3.out.size, HG3.out.block⟩
      have h8 : Hid _ := PAt.out HT3.out hm.sixteen HG4.out HO3.out
      have k36 : (we.setCell ⟨P, 35, none⟩ (.slice (some ⟨g3, 0, none⟩) (m.ports.length + 1) cap3)).cell? ⟨P, 36, none⟩ = some (.int .i64 m.pc) := (h8.out.cells hm.sixteen).2.2.2.2.1
      have HU : Hid _ := out_up (P := P) HG4.out (v := .slice (some ⟨g3, 0, none⟩) (m.ports.length + 1) cap3) rfl HL3.out (by simp)
      have HB9 : Hid (Below w.heap.size w (wd.alloc (.cells #[.int .i64 n, .int .i64 V] 120))) := lb_alloc (lb_trans HB0.out HBd.out) _
      clear HG3 HG4 HO3 HL3 HT2 HT3 HO2 HSz2 HNw cD cE xn yD fD C1 x0 x1 x2 x3 x4 c35 c36
      go_wp2
      go_ret
      exact .inr ⟨rfl, rfl, _, h8.out, up_on HB9.out HU.out.1, fun b hb => (HU.out.2 b hb).imp id fun hb => Nat.le_trans HB9.out.size hb⟩)
end



end Go.Proofs.YtgkdagnpefgjcaaGreat

namespace Go.Proofs.YtgkdagnpefgjcaaGreat
open Go.RowKit

theorem bs_w (w : World) : (Instr.buildSlice 67 0 #[]).run Tryz.prog w = .ok (.slice (some ⟨w.heap.size, 0, none⟩) 0 0) (w.alloc (.cells #[] 65)) := by kernel_rfl
theorem nil_w (w : World) : (binOp BinOp.eql 67 (.slice none 0 0) (.slice none 0 0)).run Tryz.prog w = .ok (.bool true) w := by kernel_rfl
theorem some_w (g n c : Nat) (w : World) : (binOp BinOp.eql 67 (.slice (some ⟨g, 0, none⟩) n c) (.slice none 0 0)).run Tryz.prog w = .ok (.bool false) w := by kernel_rfl
theorem info_w : ∃ i, Tryz.prog.info? 65 = some i ∧ i.zero = some (.agg #[.int .i64 0, .bool false]) ∧ i.size = 2 ∧ i.bytes = 16 :=
  ⟨(Tryz.prog.info? 65).get (by kernel_rfl), by kernel_rfl, by kernel_rfl, by kernel_rfl, by kernel_rfl⟩
/-- A row, cloned. -/
def Cl_w (w : World) (n : Nat) (xs : List Value) (e : Ending) (w' : World) : Prop := ∃ v, e = .returned v ∧ w'.ownsRow w.heap.size 65 2 v n xs ∧ Below w.heap.size w w'
theorem bs_p (w : World) : (Instr.buildSlice 68 0 #[]).run Tryz.prog w = .ok (.slice (some ⟨w.heap.size, 0, none⟩) 0 0) (w.alloc (.cells #[] 120)) := by kernel_rfl
theorem nil_p (w : World) : (binOp BinOp.eql 68 (.slice none 0 0) (.slice none 0 0)).run Tryz.prog w = .ok (.bool true) w := by kernel_rfl
theorem some_p (g n c : Nat) (w : World) : (binOp BinOp.eql 68 (.slice (some ⟨g, 0, none⟩) n c) (.slice none 0 0)).run Tryz.prog w = .ok (.bool false) w := by kernel_rfl
theorem info_p : ∃ i, Tryz.prog.info? 120 = some i ∧ i.zero = some (.agg #[.int .i64 0, .int .i64 0]) ∧ i.size = 2 ∧ i.bytes = 16 :=
  ⟨(Tryz.prog.info? 120).get (by kernel_rfl), by kernel_rfl, by kernel_rfl, by kernel_rfl, by kernel_rfl⟩
/-- A row, cloned. -/
def Cl_p (w : World) (n : Nat) (xs : List Value) (e : Ending) (w' : World) : Prop := ∃ v, e = .returned v ∧ w'.ownsRow w.heap.size 120 2 v n xs ∧ Below w.heap.size w w'
theorem wVals_one (l : List Wd) : ∀ u ∈ wVals l, u.oneCell' = true := fun u hu => by
  simp only [wVals, List.mem_flatMap] at hu
  obtain ⟨x, -, hx⟩ := hu
  simp at hx
  rcases hx with rfl | rfl <;> rfl
theorem pVals_one (l : List (Int × Int)) : ∀ u ∈ pVals l, u.oneCell' = true := fun u hu => by
  simp only [pVals, List.mem_flatMap] at hu
  obtain ⟨x, -, hx⟩ := hu
  simp at hx
  rcases hx with rfl | rfl <;> rfl


end Go.Proofs.YtgkdagnpefgjcaaGreat

namespace Go.Proofs.YtgkdagnpefgjcaaGreat
open Go.RowKit

section
variable {w : World} {base P : Nat} {s : Loc} {m : Mach}
theorem set_hd0 {a b v : Value} {l : List Value} : ([a, b] ++ l).set 0 v = [v, b] ++ l := rfl
theorem set_hd1 {a b v : Value} {l : List Value} : ([a, b] ++ l).set 1 v = [a, v] ++ l := rfl
def Loc.atT (s : Loc) (A : Option Addr) (c : Nat) : Loc := { s with T := A, tc := c }
def Loc.atX (s : Loc) (A : Option Addr) (c : Nat) : Loc := { s with X := A, xc := c }
def Loc.atM (s : Loc) (A : Option Addr) (c : Nat) : Loc := { s with M := A, mc := c }
theorem boxM_T (s : Loc) (m : Mach) (A : Option Addr) (c : Nat) (l : List Int) : (boxM s m).setIfInBounds 0 (.slice A l.length c) = boxM (s.atT A c) { m with text := l } := by
  simp only [boxM, List.setIfInBounds_toArray, hdM, set_hd0]
  rfl
theorem boxM_X (s : Loc) (m : Mach) (A : Option Addr) (c : Nat) (l : List Int) : (boxM s m).setIfInBounds 1 (.slice A l.length c) = boxM (s.atX A c) { m with tape := l } := by
  simp only [boxM, List.setIfInBounds_toArray, hdM, set_hd1]
  rfl
theorem boxM_M (s : Loc) (m : Mach) (hm : m.regs.length = 16) (A : Option Addr) (c : Nat) (l : List Wd) : (boxM s m).setIfInBounds 34 (.slice A l.length c) = boxM (s.atM A c) { m with mem := l } := by
  rw [show 34 = 34 + 0 from rfl, boxM_at s m hm]
  rfl
/-- One row of a machine grew, and the box's cell of it is written. -/
theorem PAt.grew {w' : World} {e : TypeId} {z n : Nat} {v v' : Value} {xs : List Value} (h : PAt w base P s m) (hv : w.ownsRow base e z v n xs) (hne : e ≠ 70) (hg : w.grownBy w' v.ownBlock) :
    w'.heap[P]? = some (.cells (boxM s m) 70 (0, 0)) ∧ ∀ (i : Nat) {e2 : TypeId} {z2 n2 : Nat} {u : Value} {ys : List Value}, w.ownsRow base e2 z2 u n2 ys → e2 ≠ e → e2 ≠ 70 → (w'.setCell ⟨P, i, none⟩ v').ownsRow base e2 z2 u n2 ys := by
  have hPV : some P ≠ v.ownBlock := fun e => own_ne hv e.symm h.box hne rfl
  refine ⟨(hg.block P h.lt hPV).trans h.box, ?_⟩
  intro i e2 z2 n2 u ys hr n1 n2'
  refine own_stay hr fun b e => ?_
  have hbP := own_ne hr e h.box n2'
  rw [Below.heap_setCell _ _ _ _ hbP]
  refine hg.block b (own_in hr e).2 fun ev => ?_
  obtain ⟨cur, hc⟩ := own_block hv ev.symm
  exact own_ne hr e hc n1 rfl
theorem own_set {w' : World} {e : TypeId} {z n i : Nat} {v x : Value} {xs : List Value} {cs : Array Value} (ho : w'.ownsRow base e z v n xs) (hb : w'.heap[P]? = some (.cells cs 70 (0, 0))) (hne : e ≠ 70) : (w'.setCell ⟨P, i, none⟩ x).ownsRow base e z v n xs :=
  own_stay ho fun _b e => Below.heap_setCell _ _ _ _ (own_ne ho e hb hne)
theorem PAt.addIns (h : PAt w base P s m) {w' : World} {A : Option Addr} {c : Nat} {l : List Int} (hg : w.grownBy w' (Value.slice s.T m.text.length s.tc).ownBlock) (ho : w'.ownsRow base 72 5 (.slice A l.length c) l.length (nVals l)) : PAt (w'.setCell ⟨P, 0, none⟩ (.slice A l.length c)) base P (s.atT A c) { m with text := l } := by
  obtain ⟨hb, row⟩ := h.grew (v' := .slice A l.length c) h.text (by decide) hg
  refine ⟨?_, h.bP, own_set ho hb (by decide), row 0 h.tape (by decide) (by decide), row 0 h.mem (by decide) (by decide), row 0 h.ports (by decide) (by decide)⟩
  rw [← boxM_T]
  exact box_set hb _ _
theorem PAt.addTape (h : PAt w base P s m) {w' : World} {A : Option Addr} {c : Nat} {l : List Int} (hg : w.grownBy w' (Value.slice s.X m.tape.length s.xc).ownBlock) (ho : w'.ownsRow base 2 1 (.slice A l.length c) l.length (iVals .i64 l)) : PAt (w'.setCell ⟨P, 1, none⟩ (.slice A l.length c)) base P (s.atX A c) { m with tape := l } := by
  obtain ⟨hb, row⟩ := h.grew (v' := .slice A l.length c) h.tape (by decide) hg
  refine ⟨?_, h.bP, row 1 h.text (by decide) (by decide), own_set ho hb (by decide), row 1 h.mem (by decide) (by decide), row 1 h.ports (by decide) (by decide)⟩
  rw [← boxM_X]
  exact box_set hb _ _
theorem PAt.addWord (h : PAt w base P s m) (hm : m.regs.length = 16) {w' : World} {A : Option Addr} {c : Nat} {l : List Wd} (hg : w.grownBy w' (Value.slice s.M m.mem.length s.mc).ownBlock) (ho : w'.ownsRow base 65 2 (.slice A l.length c) l.length (wVals l)) : PAt (w'.setCell ⟨P, 34, none⟩ (.slice A l.length c)) base P (s.atM A c) { m with mem := l } := by
  obtain ⟨hb, row⟩ := h.grew (v' := .slice A l.length c) h.mem (by decide) hg
  refine ⟨?_, h.bP, row 34 h.text (by decide) (by decide), row 34 h.tape (by decide) (by decide), own_set ho hb (by decide), row 34 h.ports (by decide) (by decide)⟩
  rw [← boxM_M s m hm]
  exact box_set hb _ _
/-- A machine that is just made. -/
def s0 : Loc := ⟨none, 0, none, 0, none, 0, .slice none 0 0⟩
theorem PAt.first {w : World} {ent : Int} (hb : base ≤ w.heap.size) : PAt (w.alloc (.cells (boxM s0 (newM [] [] [] ent)) 70)) base w.heap.size s0 (newM [] [] [] ent) :=
  ⟨heap_alloc_new _ _, hb, World.ownsRow_nil _ _ _ _, World.ownsRow_nil _ _ _ _, World.ownsRow_nil _ _ _ _, World.ownsRow_nil _ _ _ _⟩
end



end Go.Proofs.YtgkdagnpefgjcaaGreat
