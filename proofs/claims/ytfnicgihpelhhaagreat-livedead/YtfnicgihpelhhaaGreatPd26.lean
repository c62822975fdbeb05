/-
  Deeds of the program's machine: in. Deeds of the program's machine: out. The program's machine: the instruction at which it stands; the table of deeds. The program's machine: what an instruction leaves.
-/
import Derived.Test.YtfnicgihpelhhaaGreatProg
import Derived.WalkKit
import Derived.WalkSpells
import Derived.WalkLawsBesides
import Derived.RowKit3
import Derived.Below
import Derived.Deep.QuietTactic
import Derived.BigQuiet
import Derived.WalkSmall
import Derived.Laws.Rows
import Derived.Deep.DeepCutAuto
import Derived.Deep.RegionLaw
import Derived.Deep.RegionHeld3
import Derived.Laws.Pointers
import Derived.Outline
import Derived.StillTactics
import Derived.Test.YtfnicgihpelhhaaGreatPd24
import Derived.Deep.AppendLies
import Derived.Test.YtfnicgihpelhhaaGreatPd25
namespace Go.Proofs.YtfnicgihpelhhaaGreat
open Go.RowKit

section
variable {w : World} {base P : Nat} {s : Loc} {m : Mach}
theorem PAt.num (h : PAt w base P s m) {k : Nat} (hk : k < m.tape.length) : ∃ g, s.X = some ⟨g, 0, none⟩ ∧ m.tape.length ≤ s.xc ∧ w.cell? ⟨g, k, none⟩ = some (.int .i64 (nth m.tape k)) := by
  have e1 := iVals_get (K := .i64) hk
  rcases h.tape.2 with ⟨e, e0⟩ | ⟨g, cap, cur, e, hb, hg, hc, _, hs, ht⟩
  · omega
  · simp only [Value.slice.injEq] at e
    obtain ⟨e3, -, e4⟩ := e
    subst e4
    refine ⟨g, e3, hc, box_at hg ?_⟩
    rw [← ht, List.getElem?_take_of_lt (by omega)] at e1
    simpa using e1
set_option maxHeartbeats 2000000 in
theorem in_did (h : PAt w base P s m) (hm : Fine m) (_hp : m.pc < 16384) {op d a b n : Int} (hi : InsIn op d a b n) : Calls Tryz.prog 101 #[.pointer (some ⟨P, 0, none⟩), .agg #[.int .i8 op, .int .i8 d, .int .i8 a, .int .i8 b, .int .i64 n]] w (DidP w base P s m (inD m d)) := by
  obtain ⟨k, hk0⟩ := Int.eq_ofNat_of_zero_le hi.d0
  have hk : k < 16 := by have := hi.d1; omega
  subst hk0
  have zk : (0 : Int) ≤ (k : Int) := Int.natCast_nonneg _
  have yk : (k : Int) < 16 := by omega
  obtain ⟨c0, c1, c34, c35, c36, c37, c38, c39⟩ := h.cells hm.sixteen
  have htk := hm.taken
  have htl := hm.tape
  have hP := h.lt
  by_cases he : m.taken = m.tape.length
  · have e0 : inD m k = putD m k (0, false) := by unfold inD; rw [if_pos he]
    rw [e0]
    rw [he] at c38
    clear e0 he htk
    have C1 := plain_any 0
    have C2 := fun (W : World) (h : PAt W base P s m) => put_any h hm k hk (0, false)
    have hq0 : ((m.tape.length : Int) == (m.tape.length : Int)) = true := by simp
    go_enter Tryz.func101, Tryz.ntmps101
    go_wp2_with fail
    go_quiet (fail)
    go_wp2_with fail
    go_region_with (first
      | (go_at_call 37; refine (C1 _).mono ?_; rintro e w1 ⟨rfl, rfl⟩)
      | (go_at_call 115; refine (C2 _ (by repeat (first | assumption | apply PAt.drew | apply PAt.drewN | apply PAt.alloc))).mono ?_; rintro e w1 ⟨rfl, hq, hu⟩))
    all_goals (
      go_wp2
      go_ret
      exact did_put rfl hq (Upto.trans (by repeat (first | exact Upto.refl _ _ | apply Upto.drew | apply Upto.drewN | apply Upto.alloc)) hu))
  · have hlt : m.taken < m.tape.length := by omega
    have e0 : inD m k = ⟨0, putM (takeM m) k (nth m.tape m.taken, false), m.pc + 1⟩ := by unfold inD; rw [if_neg he]
    rw [e0]
    have hne0 : ((m.taken : Int) == (m.tape.length : Int)) = false := by simp; omega
    clear e0 he
    have f38 := h.fro 38
    go_enter Tryz.func101, Tryz.ntmps101
    go_wp2_with fail
    go_quiet (fail)
    go_upto_region 4 with fail
    obtain ⟨W0, HW⟩ : ∃ W0, Hid ((((w.alloc (.cells #[.int .i8 op, .int .i8 k, .int .i8 a, .int .i8 b, .int .i64 n] 50)).drewN nq).setCell ⟨P, 38, none⟩ (.int .i64 ((m.taken : Int) + 1))) = W0) := ⟨_, rfl⟩
    have h0 : PAt W0 base P s (takeM m) := by rw [← HW.out]; exact ((h.alloc _).drewN nq).taken hm.sixteen (m.taken + 1)
    have HU : Hid (Upto (Foot s P) w W0) := by unfold Hid; rw [← HW.out]; exact (((Upto.refl _ _).alloc _).drewN nq).set (Or.inl (Or.inl rfl)) _ _
    have hne : w.heap.size ≠ P := by omega
    have HN9 : Hid (But P ((w.alloc (.cells #[.int .i8 op, .int .i8 k, .int .i8 a, .int .i8 b, .int .i64 n] 50)).drewN nq) W0) := by unfold Hid; rw [← HW.out]; exact (But.refl P _).set _ _
    have x1 : W0.cell? ⟨w.heap.size, 1, none⟩ = some (.int .i8 k) := HN9.out.cell (p := ⟨w.heap.size, 1, none⟩) hne (by simp [go_sem])
    rw [HW.out]
    clear HW HN9
    have hm2 : Fine (takeM m) := ⟨hm.sixteen, hm.regs, hm.mem, hm.words, hm.text, hm.some, hm.tape, hm.mlen, hm.pc, hlt, hm.ports⟩
    obtain ⟨g, hX, hcap, t0⟩ := h0.num (k := m.taken) hlt
    have hgP : g ≠ P := own_ne h0.tape (by rw [own_aB, hX]; rfl) h0.box (by decide)
    have C1 := plain_any (nth m.tape m.taken)
    have C2 := fun (W : World) (h : PAt W base P s (takeM m)) => put_near h hm2 k hk (nth m.tape m.taken, false)
    clear c0 c1 c34 c35 c36 c37 c38 c39 f38
    have c1 : W0.cell? ⟨P, 1, none⟩ = some (.slice (some ⟨g, 0, none⟩) m.tape.length s.xc) := by rw [← hX]; exact (h0.cells hm.sixteen).2.1
    have c38 : W0.cell? ⟨P, 38, none⟩ = some (.int .i64 ((m.taken : Int) + 1)) := (h0.cells hm.sixteen).2.2.2.2.2.2.1
    have hN0 := Near.refl P W0
    have hP0 := h0.lt
    have t0 : W0.cell? ⟨g, m.taken, none⟩ = some (.int .i64 (nth m.tape m.taken)) := t0
    have yt : (m.taken : Int) < (m.tape.length : Int) := by omega
    have zt : (0 : Int) ≤ (m.taken : Int) := Int.natCast_nonneg _
    have hcap : m.tape.length ≤ s.xc := hcap
    have wt : IntKind.i64.wrap (m.taken : Int) = (m.taken : Int) := by simp [IntKind.wrap, IntKind.signed, IntKind.bits]; omega
    clear hX h
    go_region_held3 (fun W => Near P W0 W ∧ W.cell? ⟨w.heap.size, 1, none⟩ = some (.int .i8 k) ∧ W.cell? ⟨P, 1, none⟩ = some (.slice (some ⟨g, 0, none⟩) m.tape.length s.xc) ∧ W.cell? ⟨P, 38, none⟩ = some (.int .i64 ((m.taken : Int) + 1)) ∧ W.cell? ⟨g, m.taken, none⟩ = some (.int .i64 (nth m.tape m.taken)))
      (first | exact ⟨hN2, hN2.box hne x1, hN2.tap.trans c1, hN2.tak.trans c38, hN2.box hgP t0⟩ | exact ⟨hN2.drew, hN2.drew.box hne x1, hN2.drew.tap.trans c1, hN2.drew.tak.trans c38, hN2.drew.box hgP t0⟩ | exact ⟨hN, hN.box hne x1, hN.tap.trans c1, hN.tak.trans c38, hN.box hgP t0⟩ | exact ⟨hN.drew, hN.drew.box hne x1, hN.drew.tap.trans c1, hN.drew.tak.trans c38, hN.drew.box hgP t0⟩ | exact ⟨hN0, hN0.box hne x1, hN0.tap.trans c1, hN0.tak.trans c38, hN0.box hgP t0⟩ | exact ⟨hN0.drew, hN0.drew.box hne x1, hN0.drew.tap.trans c1, hN0.drew.tak.trans c38, hN0.drew.box hgP t0⟩)
      (first
        | (go_at_call 37; refine (C1 _).mono ?_; rintro e w1 ⟨rfl, hw1⟩; have hb : Below W0.heap.size W0 w1 := (by rw [hw1]; repeat (first | exact Below.refl _ _ | apply Below.drew | apply lb_alloc)); clear hw1; have h1 : PAt w1 base P s (takeM m) := PAt.keep h0 hb; have hN : Near P W0 w1 := Near.below hN0 hb hP0)
        | (go_at_call 115; refine (C2 _ (by first | exact h1 | exact h1.drew)).mono ?_; rintro e w2 ⟨rfl, hq, hn⟩; have hN2 : Near P W0 w2 := Near.trans (by first | exact hN | exact hN.drew) hn))

    all_goals (
      rename_i hS
      clear hS
      go_wp2_with fail
      go_ret
      exact did_yes rfl rfl hq (HU.out.trans hN2.up))
end





end Go.Proofs.YtfnicgihpelhhaaGreat

namespace Go.Proofs.YtfnicgihpelhhaaGreat
open Go.RowKit

section
variable {w : World} {base P : Nat} {s : Loc} {m : Mach}
theorem infoPort : ∃ i, Tryz.prog.info? 118 = some i ∧ i.zero = some (.agg #[.int .i64 0, .int .i64 0]) ∧ i.size = 2 ∧ i.bytes = 16 :=
  ⟨(Tryz.prog.info? 118).get (by kernel_rfl), by kernel_rfl, by kernel_rfl, by kernel_rfl, by kernel_rfl⟩
/-- Where the ports lie now. -/
def Loc.at (s : Loc) (v : Value) : Loc := { s with V := v }
theorem boxM_out (s : Loc) (m : Mach) (h : m.regs.length = 16) (v : Value) (x y : Int) : (boxM s m).setIfInBounds 35 v = boxM (s.at v) (outM m x y) := by
  rw [show 35 = 34 + 1 from rfl, boxM_at s m h]
  rfl
/-- One more port: the list grew. -/
theorem PAt.out (h : PAt w base P s m) (hm : m.regs.length = 16) {w' : World} {v : Value} {x y : Int} (hg : w.grownBy w' s.V.ownBlock) (ho : w'.ownsRow base 118 2 v (m.ports.length + 1) (pVals m.ports ++ [.int .i64 x, .int .i64 y])) : PAt (w'.setCell ⟨P, 35, none⟩ v) base P (s.at v) (outM m x y) := by
  have hk : ∀ b, b < w.heap.size → some b ≠ s.V.ownBlock → w'.heap[b]? = w.heap[b]? := fun b hb hn => hg.block b hb hn
  have hPV : some P ≠ s.V.ownBlock := fun e => own_ne h.ports e.symm h.box (by decide) rfl
  have hb : w'.heap[P]? = some (.cells (boxM s m) 87 (0, 0)) := (hk P h.lt hPV).trans h.box
  have row : ∀ {e : TypeId} {z n : Nat} {u : Value} {xs : List Value}, w.ownsRow base e z u n xs → e ≠ 118 → e ≠ 87 → (w'.setCell ⟨P, 35, none⟩ v).ownsRow base e z u n xs := by
    intro e z n u xs hr n1 n2
    refine own_stay hr fun b e => ?_
    have hbP := own_ne hr e h.box n2
    rw [Below.heap_setCell _ _ _ _ hbP]
    refine hk b (own_in hr e).2 fun ev => ?_
    obtain ⟨cur, hc⟩ := own_block h.ports ev.symm
    exact own_ne hr e hc n1 rfl
  refine ⟨?_, h.bP, row h.text (by decide) (by decide), row h.tape (by decide) (by decide), row h.mem (by decide) (by decide), ?_⟩
  · rw [← boxM_out s m hm v x y]
    exact box_set hb _ _
  · have hl : (outM m x y).ports.length = m.ports.length + 1 := by simp [outM]
    rw [hl]
    have e : pVals (outM m x y).ports = pVals m.ports ++ [.int .i64 x, .int .i64 y] := pVals_snoc m.ports (x, y)
    rw [e]
    exact own_stay ho fun b e => Below.heap_setCell _ _ _ _ (own_ne ho e hb (by decide))
theorem out_up {w' : World} {v : Value} {g H : Nat} (hg : w.grownBy w' s.V.ownBlock) (hv : v.ownBlock = some g) (hl : s.V.ownBlock = some g ∨ g = H) (hH : w.heap.size = H) : Upto (Foot s P) w (w'.setCell ⟨P, 35, none⟩ v) ∧ ∀ b, Foot (s.at v) P b → Foot s P b ∨ w.heap.size ≤ b := by
  refine ⟨?_, ?_⟩
  · refine Upto.set (a := w) (b := w') ⟨hg.os, hg.tape, hg.output, hg.size, fun b hb hn => hg.block b hb fun e => hn (.inr (.inr (.inr (.inr e.symm))))⟩ (Or.inl (Or.inl rfl)) _ _
  · intro b hb
    rcases hb with e | e | e | e | e
    · exact .inl (.inl e)
    · exact .inl (.inr (.inl e))
    · exact .inl (.inr (.inr (.inl e)))
    · exact .inl (.inr (.inr (.inr (.inl e))))
    · have e : v.ownBlock = some b := e
      rw [hv] at e
      cases e
      rcases hl with e | e
      · exact .inl (.inr (.inr (.inr (.inr e))))
      · exact .inr (by omega)
set_option maxHeartbeats 4000000 in
theorem out_did (h : PAt w base P s m) (hm : Fine m) (hp : m.pc < 16384) {op d a b n : Int} (hi : InsIn op d a b n) (hst : m.steps < 1048576) : Calls Tryz.prog 102 #[.pointer (some ⟨P, 0, none⟩), .agg #[.int .i8 op, .int .i8 d, .int .i8 a, .int .i8 b, .int .i64 n]] w (DidP w base P s m (outD m a n)) := by
  obtain ⟨j, hj0⟩ := Int.eq_ofNat_of_zero_le hi.a0
  have hj : j < 16 := by have := hi.a1; omega
  subst hj0
  have zj : (0 : Int) ≤ (j : Int) := Int.natCast_nonneg _
  have yj : (j : Int) < 16 := by omega
  by_cases hc : wC m.regs j = true
  · have e0 : outD m j n = noD m 4 := by unfold outD; rw [if_pos (show rC m j = true from hc)]
    rw [e0]
    have C1 := fun (W : World) (h : PAt W base P s m) => number_no h hm j hj hc
    clear e0
    obtain ⟨W0, HW⟩ : ∃ W0, Hid (w.alloc (.cells #[.int .i8 op, .int .i8 d, .int .i8 j, .int .i8 b, .int .i64 n] 50) = W0) := ⟨_, rfl⟩
    have x0 : W0.cell? ⟨w.heap.size, 0, none⟩ = some (.int .i8 op) := by rw [← HW.out]; simp [go_sem]
    have x1 : W0.cell? ⟨w.heap.size, 1, none⟩ = some (.int .i8 d) := by rw [← HW.out]; simp [go_sem]
    have x2 : W0.cell? ⟨w.heap.size, 2, none⟩ = some (.int .i8 j) := by rw [← HW.out]; simp [go_sem]
    have x3 : W0.cell? ⟨w.heap.size, 3, none⟩ = some (.int .i8 b) := by rw [← HW.out]; simp [go_sem]
    have x4 : W0.cell? ⟨w.heap.size, 4, none⟩ = some (.int .i64 n) := by rw [← HW.out]; simp [go_sem]
    have h0 : PAt W0 base P s m := by rw [← HW.out]; exact h.alloc _
    have HB0 : Hid (Below w.heap.size w W0) := by unfold Hid; rw [← HW.out]; exact lb_alloc (Below.refl _ _) _
    have hz0 : w.heap.size < W0.heap.size := by rw [← HW.out]; simp
    have hP := h.lt
    have hWW := Below.refl W0.heap.size W0
    obtain ⟨-, -, -, c35, -⟩ := h0.cells hm.sixteen
    clear hWW
    go_enter Tryz.func102, Tryz.ntmps102
    go_upto_region 1 with fail
    rw [HW.out]
    clear HW h
    go_region_law (go_simp; go_at_call 119; refine (C1 _ (by first | exact h0 | exact h0.drew)).mono ?_; rintro e w1 ⟨rfl, hb⟩; refine by_stop ⟨rfl, did_no (by decide) (lb_trans HB0.out (lb_trans (Below.drew (Below.refl _ _)) hb))⟩ w1 ?_)
    all_goals trivial
  · have hc : wC m.regs j = false := by simpa using hc
    have e0 : outD m j n = ⟨0, outM m n (wV m.regs j), m.pc + 1⟩ := by unfold outD; rw [if_neg (by show ¬ wC m.regs j = true; rw [hc]; decide)]; rfl
    rw [e0]
    have C1 := fun (W : World) (h : PAt W base P s m) => number_yes h hm j hj hc
    clear e0 hc
    obtain ⟨ip, hp0, hp1, hp2, hp3⟩ := infoPort
    obtain ⟨W0, HW⟩ : ∃ W0, Hid (w.alloc (.cells #[.int .i8 op, .int .i8 d, .int .i8 j, .int .i8 b, .int .i64 n] 50) = W0) := ⟨_, rfl⟩
    have x0 : W0.cell? ⟨w.heap.size, 0, none⟩ = some (.int .i8 op) := by rw [← HW.out]; simp [go_sem]
    have x1 : W0.cell? ⟨w.heap.size, 1, none⟩ = some (.int .i8 d) := by rw [← HW.out]; simp [go_sem]
    have x2 : W0.cell? ⟨w.heap.size, 2, none⟩ = some (.int .i8 j) := by rw [← HW.out]; simp [go_sem]
    have x3 : W0.cell? ⟨w.heap.size, 3, none⟩ = some (.int .i8 b) := by rw [← HW.out]; simp [go_sem]
    have x4 : W0.cell? ⟨w.heap.size, 4, none⟩ = some (.int .i64 n) := by rw [← HW.out]; simp [go_sem]
    have h0 : PAt W0 base P s m := by rw [← HW.out]; exact h.alloc _
    have HB0 : Hid (Below w.heap.size w W0) := by unfold Hid; rw [← HW.out]; exact lb_alloc (Below.refl _ _) _
    have hz0 : w.heap.size < W0.heap.size := by rw [← HW.out]; simp
    have hP := h.lt
    have hWW := Below.refl W0.heap.size W0
    obtain ⟨-, -, -, c35, c36, -⟩ := h0.cells hm.sixteen
    have hpl := hm.ports
    have hpc := hm.pc
    have hbase : base ≤ W0.heap.size := Nat.le_of_lt (Nat.lt_of_le_of_lt h0.bP h0.lt)
    have hP0 := h0.lt
    generalize wV m.regs j = V at *
    clear hWW
    go_enter Tryz.func102, Tryz.ntmps102
    go_upto_region 1 with fail
    rw [HW.out]
    clear HW h
    go_region_law
      (first
        | (revert HO2; intro HO2; refine step_append_lies _ rfl (.tmp 9) (.tmp 17) 85 rfl base 118 ip (.agg #[.int .i64 0, .int .i64 0]) 2 16 Tryz.underlying85 hp0 hp1 hp2 hp3 rfl (by decide) s.V m.ports.length (pVals m.ports) rfl HO2.out ⟨wd.heap.size, 0, none⟩ 1 1 [.int .i64 n, .int .i64 V] rfl rfl (fun j u hu => World.news_of_block HNw.out j u hu) (by simp [Value.oneCell']) (by omega) (by unfold maxLen; omega) (by omega) (by have := HSz2.out; simp; omega) (wd.heap.size + 1) (by simp) ?_; intro g3 cap3 we hown hgrow hlie hlt3; have HG3 : Hid _ := hgrow; have HO3 : Hid _ := hown; have HL3 : Hid _ := hlie; have yD : we.cell? ⟨P, 35, none⟩ = some s.V := (World.grownBy.cell hgrow (a := ⟨P, 35, none⟩) cE (fun e => own_ne HO2.out e.symm (PAt.box HT3.out) (by decide) rfl)); have fD : we.frozen? ⟨P, 35, none⟩ = false := box_fro ((hgrow.block P (PAt.lt HT3.out) (fun e => own_ne HO2.out e.symm (PAt.box HT3.out) (by decide) rfl)).trans (PAt.box HT3.out)) 35; clear hown hgrow hlie)
        | (go_simp; go_at_call 119; refine (C1 _ (by first | exact h0 | exact h0.drew)).mono ?_; rintro e wd ⟨rfl, hb1⟩; have HT2 : Hid (PAt wd base P s m) := PAt.keep (by first | exact h0 | exact h0.drew) hb1; have HT3 : Hid (PAt (wd.alloc (.cells #[.int .i64 n, .int .i64 V] 118)) base P s m) := PAt.alloc HT2.out _; have HO2 : Hid _ := PAt.ports HT3.out; have HBd : Hid (Below W0.heap.size W0 wd) := lb_trans (Below.drew (Below.refl _ _)) hb1; have HSz2 : Hid (base ≤ wd.heap.size) := Nat.le_trans hbase hb1.size; have HNw : Hid ((wd.alloc (.cells #[.int .i64 n, .int .i64 V] 118)).heap[wd.heap.size]? = some (.cells #[.int .i64 n, .int .i64 V] 118 (0, 0))) := heap_alloc_new _ _; have cD : wd.cell? ⟨P, 35, none⟩ = some s.V := lkeep hb1 c35; have cE : (wd.alloc (.cells #[.int .i64 n, .int .i64 V] 118)).cell? ⟨P, 35, none⟩ = some s.V := lkeep (lb_alloc (Below.refl _ _) _) cD; have xn : wd.cell? ⟨w.heap.size, 4, none⟩ = some (.int .i64 n) := lkeep hb1 x4; clear hb1))
    all_goals (
      have HG4 : Hid ((wd.alloc (.cells #[.int .i64 n, .int .i64 V] 118)).grownBy we s.V.ownBlock) := ⟨HG3.out.os, HG3.out.tape, HG3.out.output, HG3.out.size, HG3.out.block⟩
      have h8 : Hid _ := PAt.out HT3.out hm.sixteen HG4.out HO3.out
      have k36 : (we.setCell ⟨P, 35, none⟩ (.slice (some ⟨g3, 0, none⟩) (m.ports.length + 1) cap3)).cell? ⟨P, 36, none⟩ = some (.int .i64 m.pc) := (h8.out.cells hm.sixteen).2.2.2.2.1
      have HU : Hid _ := out_up (P := P) HG4.out (v := .slice (some ⟨g3, 0, none⟩) (m.ports.length + 1) cap3) rfl HL3.out (by simp)
      have HB9 : Hid (Below w.heap.size w (wd.alloc (.cells #[.int .i64 n, .int .i64 V] 118))) := lb_alloc (lb_trans HB0.out HBd.out) _
      clear HG3 HG4 HO3 HL3 HT2 HT3 HO2 HSz2 HNw cD cE xn yD fD C1 x0 x1 x2 x3 x4 c35 c36
      go_wp2
      go_ret
      exact .inr ⟨rfl, rfl, _, h8.out, up_on HB9.out HU.out.1, fun b hb => (HU.out.2 b hb).imp id fun hb => Nat.le_trans HB9.out.size hb⟩)
end





end Go.Proofs.YtfnicgihpelhhaaGreat

namespace Go.Proofs.YtfnicgihpelhhaaGreat
open Go.RowKit

section
variable {w : World} {base P : Nat} {s : Loc} {m : Mach}
theorem PAt.ins (h : PAt w base P s m) {k : Nat} (hk : k < m.text.length) : ∃ g, s.T = some ⟨g, 0, none⟩ ∧ m.text.length ≤ s.tc ∧ w.cell? ⟨g, k * 5, none⟩ = some (.int .i8 (dOp (nth m.text k))) ∧ w.cell? ⟨g, k * 5 + 1, none⟩ = some (.int .i8 (dD (nth m.text k))) ∧ w.cell? ⟨g, k * 5 + 2, none⟩ = some (.int .i8 (dA (nth m.text k))) ∧ w.cell? ⟨g, k * 5 + 3, none⟩ = some (.int .i8 (dB (nth m.text k))) ∧ w.cell? ⟨g, k * 5 + 4, none⟩ = some (.int .i64 (dN (nth m.text k))) := by
  obtain ⟨e0, e1, e2, e3, e4⟩ := nVals_get hk
  rcases h.text.2 with ⟨e, e0⟩ | ⟨g, cap, cur, e, hb, hg, hc, _, hs, ht⟩
  · omega
  · simp only [Value.slice.injEq] at e
    obtain ⟨eT, -, eC⟩ := e
    subst eC
    have q : ∀ {i : Nat} {v : Value}, i < m.text.length * 5 → (nVals m.text)[i]? = some v → cur[i]? = some v := by
      intro i v hi hv
      rw [← ht, List.getElem?_take_of_lt hi] at hv
      simpa using hv
    exact ⟨g, eT, hc, box_at hg (q (by omega) e0), box_at hg (q (by omega) e1), box_at hg (q (by omega) e2), box_at hg (q (by omega) e3), box_at hg (q (by omega) e4)⟩
set_option maxHeartbeats 1000000 in
theorem here_end (h : PAt w base P s m) (hm : Fine m) (hp : m.text.length ≤ m.pc) : Calls Tryz.prog 66 #[.pointer (some ⟨P, 0, none⟩)] w fun e w' => e = .returned (.agg #[.int .i8 0, .int .i8 0, .int .i8 0, .int .i8 0, .int .i64 0]) ∧ Below w.heap.size w w' := by
  obtain ⟨c0, c1, c34, c35, c36, c37, c38, c39⟩ := h.cells hm.sixteen
  have hP := h.lt
  have hp2 : (m.text.length : Int) ≤ (m.pc : Int) := by omega
  clear h
  go_enter Tryz.func66, Tryz.ntmps66
  go_wp2_with fail
  go_quiet (fail)
  go_wp2
  refine bodyPost_ret (v := .agg #[.int .i8 0, .int .i8 0, .int .i8 0, .int .i8 0, .int .i64 0]) (by simp [results, Tryz.results66, go_sem]) rfl ⟨rfl, ?_⟩
  repeat (first | exact Below.refl _ _ | apply lb_new | apply below_drewN | apply lb_alloc)
set_option maxHeartbeats 1000000 in
theorem here_ins (h : PAt w base P s m) (hm : Fine m) (hp : m.pc < m.text.length) : Calls Tryz.prog 66 #[.pointer (some ⟨P, 0, none⟩)] w fun e w' => e = .returned (.agg #[.int .i8 (dOp (nth m.text m.pc)), .int .i8 (dD (nth m.text m.pc)), .int .i8 (dA (nth m.text m.pc)), .int .i8 (dB (nth m.text m.pc)), .int .i64 (dN (nth m.text m.pc))]) ∧ Below w.heap.size w w' := by
  obtain ⟨g, hT, hcap, t0, t1, t2, t3, t4⟩ := h.ins hp
  obtain ⟨c0, c1, c34, c35, c36, c37, c38, c39⟩ := h.cells hm.sixteen
  rw [hT] at c0
  have hP := h.lt
  have hg : g < w.heap.size := World.block_lt_of_cell? w _ t0
  have hp2 : (m.pc : Int) < (m.text.length : Int) := by omega
  have hp3 : (0 : Int) ≤ (m.pc : Int) := Int.natCast_nonneg _
  clear h hT
  generalize dOp (nth m.text m.pc) = op at *
  generalize dD (nth m.text m.pc) = d at *
  generalize dA (nth m.text m.pc) = a at *
  generalize dB (nth m.text m.pc) = b at *
  generalize dN (nth m.text m.pc) = n at *
  go_enter Tryz.func66, Tryz.ntmps66
  go_wp2_with fail
  go_quiet (fail)
  go_wp2_with fail
  go_region
  all_goals (
    go_wp2
    refine bodyPost_ret (v := .agg #[.int .i8 op, .int .i8 d, .int .i8 a, .int .i8 b, .int .i64 n]) (by simp [results, Tryz.results66, go_sem]) rfl ⟨rfl, ?_⟩
    repeat (first | exact Below.refl _ _ | apply lb_new | apply below_drewN | apply lb_alloc))
end

def deV : Array Value := #[.func (.func 95) #[] #[], .func (.func 96) #[] #[], .func (.func 97) #[] #[], .func (.func 98) #[] #[], .func (.func 98) #[] #[], .func (.func 98) #[] #[], .func (.func 98) #[] #[], .func (.func 98) #[] #[], .func (.func 98) #[] #[], .func (.func 98) #[] #[], .func (.func 98) #[] #[], .func (.func 99) #[] #[], .func (.func 100) #[] #[], .func (.func 101) #[] #[], .func (.func 102) #[] #[], .func (.func 103) #[] #[], .func (.func 104) #[] #[], .func (.func 105) #[] #[], .func (.func 106) #[] #[], .func (.func 107) #[] #[], .func (.func 108) #[] #[], .func (.func 109) #[] #[]]
def z22 : Array Value := #[.nilFunc, .nilFunc, .nilFunc, .nilFunc, .nilFunc, .nilFunc, .nilFunc, .nilFunc, .nilFunc, .nilFunc, .nilFunc, .nilFunc, .nilFunc, .nilFunc, .nilFunc, .nilFunc, .nilFunc, .nilFunc, .nilFunc, .nilFunc, .nilFunc, .nilFunc]
theorem deeds_new (w : World) (o : Obj) : (w.alloc o).heap[w.heap.size]? = some o := heap_alloc_new w o
theorem deeds_res (w1 : World) (g : Nat) (h : w1.heap[g]? = some (.cells deV 143 (0, 0))) : (results Tryz.f85 #[.pointer (some ⟨g, 0, none⟩), .agg deV]).run Tryz.prog w1 = .ok (.agg deV) w1 := by
  have hl := run_loadVar_row (P := Tryz.prog) w1 g 143 143 deV (0, 0) _ h Tryz.underlying143 rfl (by kernel_rfl)
  have ha : (asAddr (Value.pointer (some ⟨g, 0, none⟩))).run Tryz.prog w1 = .ok ⟨g, 0, none⟩ w1 := rfl
  have hm : (results Tryz.f85 #[.pointer (some ⟨g, 0, none⟩), .agg deV]) = (do
      let vs ← (Tryz.f85.results.mapM fun
        | .tmp t => pure ((#[Value.pointer (some ⟨g, 0, none⟩), .agg deV] : Array Value).getD t undef)
        | .cell a t => do loadVar t (← asAddr ((#[Value.pointer (some ⟨g, 0, none⟩), .agg deV] : Array Value).getD a undef)) : Sem (Array Value))
      pure (if h : vs.size = 1 then vs[0] else .tuple vs)) := rfl
  rw [hm, Tryz.results85]
  have hg0 : (#[Value.pointer (some ⟨g, 0, none⟩), Value.agg deV] : Array Value).getD 0 undef = .pointer (some ⟨g, 0, none⟩) := rfl
  simp only [List.mapM_toArray, List.mapM_cons, List.mapM_nil, map_eq_pure_bind, bind_assoc, pure_bind, Sem.run_bind, Sem.run_pure, Result.andThen_ok, hg0, ha, hl]
  rfl
set_option maxRecDepth 100000 in
theorem deeds_any (w : World) : Calls Tryz.prog 85 #[] w fun e w' => e = .returned (.agg deV) ∧ Below w.heap.size w w' := by
  go_enter Tryz.func85, Tryz.ntmps85
  go_upto_region 1 with fail
  rename_i hK
  apply wp_region_lit
  refine wpList_buildTo rfl 143 _ rfl (some 1) rfl deV (by kernel_rfl) ?_
  refine wpList_store_row rfl 143 _ _ rfl w.heap.size deV rfl rfl 143 z22 (deeds_new _ _) (by kernel_rfl) (by kernel_rfl) (by kernel_rfl) ?_
  apply wpList_nil
  refine hK _ _ (wp_ret ?_)
  exact bodyPost_ret (v := .agg deV) (deeds_res _ _ (setRow_heap _ _ z22 _ _ _ (deeds_new _ _))) rfl ⟨rfl, below_setRow (lb_alloc (Below.refl _ _) _) (Nat.le_refl _) _⟩
theorem index_de0 (w : World) : (Instr.index 143 (.agg deV) (.int .i8 0)).run Tryz.prog w = .ok (.func (.func 95) #[] #[]) w := by kernel_rfl
theorem index_de1 (w : World) : (Instr.index 143 (.agg deV) (.int .i8 1)).run Tryz.prog w = .ok (.func (.func 96) #[] #[]) w := by kernel_rfl
theorem index_de2 (w : World) : (Instr.index 143 (.agg deV) (.int .i8 2)).run Tryz.prog w = .ok (.func (.func 97) #[] #[]) w := by kernel_rfl
theorem index_de3 (w : World) : (Instr.index 143 (.agg deV) (.int .i8 3)).run Tryz.prog w = .ok (.func (.func 98) #[] #[]) w := by kernel_rfl
theorem index_de4 (w : World) : (Instr.index 143 (.agg deV) (.int .i8 4)).run Tryz.prog w = .ok (.func (.func 98) #[] #[]) w := by kernel_rfl
theorem index_de5 (w : World) : (Instr.index 143 (.agg deV) (.int .i8 5)).run Tryz.prog w = .ok (.func (.func 98) #[] #[]) w := by kernel_rfl
theorem index_de6 (w : World) : (Instr.index 143 (.agg deV) (.int .i8 6)).run Tryz.prog w = .ok (.func (.func 98) #[] #[]) w := by kernel_rfl
theorem index_de7 (w : World) : (Instr.index 143 (.agg deV) (.int .i8 7)).run Tryz.prog w = .ok (.func (.func 98) #[] #[]) w := by kernel_rfl
theorem index_de8 (w : World) : (Instr.index 143 (.agg deV) (.int .i8 8)).run Tryz.prog w = .ok (.func (.func 98) #[] #[]) w := by kernel_rfl
theorem index_de9 (w : World) : (Instr.index 143 (.agg deV) (.int .i8 9)).run Tryz.prog w = .ok (.func (.func 98) #[] #[]) w := by kernel_rfl
theorem index_de10 (w : World) : (Instr.index 143 (.agg deV) (.int .i8 10)).run Tryz.prog w = .ok (.func (.func 98) #[] #[]) w := by kernel_rfl
theorem index_de11 (w : World) : (Instr.index 143 (.agg deV) (.int .i8 11)).run Tryz.prog w = .ok (.func (.func 99) #[] #[]) w := by kernel_rfl
theorem index_de12 (w : World) : (Instr.index 143 (.agg deV) (.int .i8 12)).run Tryz.prog w = .ok (.func (.func 100) #[] #[]) w := by kernel_rfl
theorem index_de13 (w : World) : (Instr.index 143 (.agg deV) (.int .i8 13)).run Tryz.prog w = .ok (.func (.func 101) #[] #[]) w := by kernel_rfl
theorem index_de14 (w : World) : (Instr.index 143 (.agg deV) (.int .i8 14)).run Tryz.prog w = .ok (.func (.func 102) #[] #[]) w := by kernel_rfl
theorem index_de15 (w : World) : (Instr.index 143 (.agg deV) (.int .i8 15)).run Tryz.prog w = .ok (.func (.func 103) #[] #[]) w := by kernel_rfl
theorem index_de16 (w : World) : (Instr.index 143 (.agg deV) (.int .i8 16)).run Tryz.prog w = .ok (.func (.func 104) #[] #[]) w := by kernel_rfl
theorem index_de17 (w : World) : (Instr.index 143 (.agg deV) (.int .i8 17)).run Tryz.prog w = .ok (.func (.func 105) #[] #[]) w := by kernel_rfl
theorem index_de18 (w : World) : (Instr.index 143 (.agg deV) (.int .i8 18)).run Tryz.prog w = .ok (.func (.func 106) #[] #[]) w := by kernel_rfl
theorem index_de19 (w : World) : (Instr.index 143 (.agg deV) (.int .i8 19)).run Tryz.prog w = .ok (.func (.func 107) #[] #[]) w := by kernel_rfl
theorem index_de20 (w : World) : (Instr.index 143 (.agg deV) (.int .i8 20)).run Tryz.prog w = .ok (.func (.func 108) #[] #[]) w := by kernel_rfl
theorem index_de21 (w : World) : (Instr.index 143 (.agg deV) (.int .i8 21)).run Tryz.prog w = .ok (.func (.func 109) #[] #[]) w := by kernel_rfl





end Go.Proofs.YtfnicgihpelhhaaGreat

namespace Go.Proofs.YtfnicgihpelhhaaGreat
open Go.RowKit

section
variable {w W : World} {base P : Nat} {s : Loc} {m : Mach}
/-- What is done. -/
def DoneP (w : World) (base P : Nat) (s : Loc) (r : Did) (w' : World) : Prop := ∃ s', PAt w' base P s' r.m ∧ Upto (Foot s P) w w' ∧ ∀ b, Foot s' P b → Foot s P b ∨ w.heap.size ≤ b
theorem DoneP.up {r : Did} {w' : World} (h : DoneP w base P s r w') : Upto (Foot s P) w w' := by
  obtain ⟨s', -, h, -⟩ := h
  exact h
theorem DoneP.on {r : Did} {w1 w' : World} (hu : Upto (Foot s P) w w1) (h : DoneP w1 base P s r w') : DoneP w base P s r w' := by
  obtain ⟨s', h1, h2, h3⟩ := h
  exact ⟨s', h1, hu.trans h2, fun b hb => (h3 b hb).imp id fun k => Nat.le_trans hu.size k⟩
theorem done_did {r : Did} {w1 w' : World} (hr : r.err = 0) (hb : Below w.heap.size w w1) (h : DoneP w1 base P s r w') : DidP w base P s m r (.returned (.int .i64 r.to)) w' := .inr ⟨hr, rfl, DoneP.on (Upto.of hb) h⟩
theorem upto_cell {F : Nat → Prop} {W0 : World} {B i : Nat} {v : Value} (h : Upto F W0 W) (hn : ¬ F B) (hc : W0.cell? ⟨B, i, none⟩ = some v) : W.cell? ⟨B, i, none⟩ = some v := by
  rw [World.cell?_of_block (h.block B (World.block_lt_of_cell? W0 _ hc) hn)]
  exact hc
set_option maxHeartbeats 2000000 in
theorem do_neg {op d a b n : Int} (ho : op < 0) : Calls Tryz.prog 65 #[.pointer (some ⟨P, 0, none⟩), .agg #[.int .i8 op, .int .i8 d, .int .i8 a, .int .i8 b, .int .i64 n]] w (DidP w base P s m (noD m 3)) := by
  go_enter Tryz.func65, Tryz.ntmps65
  go_wp2
  exact ⟨rfl, did_no (by decide) (lb_alloc (Below.refl _ _) _)⟩
end





end Go.Proofs.YtfnicgihpelhhaaGreat
