/-
  Lists of blocks, how they lie in memory. The document marks labels. What Places and Blocks of the document answer.
-/
import Derived.Test.YtfnicgihpelhhaaGreatProg
import Derived.WalkKit
import Derived.WalkSpells
import Derived.WalkLawsBesides
import Derived.RowKit3
import Derived.Below
import Derived.Deep.QuietTactic
import Derived.BigQuiet
import Derived.WalkSmall
import Derived.Laws.Rows
import Derived.Deep.AppendLies
import Derived.Test.YtfnicgihpelhhaaGreatPl17
import Derived.Test.YtfnicgihpelhhaaGreatPl05
import Derived.Test.YtfnicgihpelhhaaGreatPl12
import Derived.Test.YtfnicgihpelhhaaGreatPl14
namespace Go.Proofs.YtfnicgihpelhhaaGreat
open Go.RowKit

/-- The cells of a list of blocks. -/
def dNews : List Rel → List Value
  | [] => []
  | x :: l => .int .i64 x.1 :: .int .i64 x.2 :: dNews l
theorem dNews_append : ∀ a b : List Rel, dNews (a ++ b) = dNews a ++ dNews b
  | [], _ => rfl
  | x :: a, b => by rw [List.cons_append, dNews, dNews, dNews_append a b]; rfl
theorem dNews_snoc (a : List Rel) (x : Rel) : dNews (a ++ [x]) = dNews a ++ [.int .i64 x.1, .int .i64 x.2] := dNews_append a [x]
theorem dNews_len : ∀ l : List Rel, (dNews l).length = l.length * 2
  | [] => rfl
  | x :: l => by simp [dNews, dNews_len l]; omega
theorem dNews_get : ∀ {l : List Rel} {i : Nat}, i < l.length → (dNews l)[i * 2]? = some (.int .i64 (rAt l i)) ∧ (dNews l)[i * 2 + 1]? = some (.int .i64 (rSym l i))
  | [], _, h => absurd h (Nat.not_lt_zero _)
  | x :: l, 0, _ => ⟨rfl, rfl⟩
  | x :: l, i + 1, h => by
    have := dNews_get (l := l) (i := i) (by simpa using h)
    rw [show (i + 1) * 2 = i * 2 + 1 + 1 by omega]
    exact this
theorem dNews_one : ∀ (l : List Rel), ∀ u ∈ dNews l, u.oneCell' = true
  | [], u, hu => by simp [dNews] at hu
  | x :: l, u, hu => by
    simp only [dNews, List.mem_cons] at hu
    rcases hu with rfl | rfl | hu
    · rfl
    · rfl
    · exact dNews_one l u hu
theorem dNews_cell {w : World} {a : Addr} {zs : List Rel} (hA : RelsAt w (some a) zs) (j : Nat) (u : Value) (h : (dNews zs)[j]? = some u) : w.cell? (a.add j) = some u := by
  have hj : j < zs.length * 2 := by
    have := (List.getElem?_eq_some_iff.1 h).1; rwa [dNews_len] at this
  obtain ⟨i, hi⟩ : ∃ i, i = j / 2 := ⟨_, rfl⟩
  obtain ⟨b, e, c0, c1⟩ := hA i (by omega)
  obtain rfl := Option.some.inj e
  obtain ⟨g0, g1⟩ := dNews_get (l := zs) (i := i) (by omega)
  have hm : j = i * 2 ∨ j = i * 2 + 1 := by omega
  clear hi
  rcases hm with rfl | rfl
  · rw [c0, ← h, g0]
  · rw [g1] at h
    rw [← h, ← Deep.add_add]
    exact c1
theorem drow_rels {w : World} {base c n : Nat} {e : TypeId} {A : Option Addr} {l : List Rel} (h : w.ownsRow base e 2 (.slice A n c) l.length (dNews l)) : RelsAt w A l := fun i hi => by
  rcases h.2 with ⟨_, h0⟩ | ⟨j, cap, cur, hv, hb, hg, hc, _⟩
  · omega
  · cases hv
    obtain ⟨a, b⟩ := dNews_get hi
    exact ⟨_, rfl, h.cells rfl _ _ a, by rw [Deep.add_add]; exact h.cells rfl _ _ b⟩
theorem no_rels (w : World) : RelsAt w none [] := fun i hi => by simp at hi
theorem infoB : ∃ i, Tryz.prog.info? 67 = some i ∧ i.zero = some (.agg #[.int .i64 0, .int .i64 0]) ∧ i.size = 2 ∧ i.bytes = 16 :=
  ⟨(Tryz.prog.info? 67).get (by kernel_rfl), by kernel_rfl, by kernel_rfl, by kernel_rfl, by kernel_rfl⟩
theorem two_oneI {x y : Int} : ∀ u ∈ [Value.int .i64 x, .int .i64 y], u.oneCell' = true := fun u hu => by
  simp only [List.mem_cons, List.not_mem_nil, or_false] at hu
  rcases hu with rfl | rfl <;> rfl



end Go.Proofs.YtfnicgihpelhhaaGreat

namespace Go.Proofs.YtfnicgihpelhhaaGreat
open Go.RowKit

theorem fieldIns0R (a b c d e : Value) (w : World) : (Instr.field 50 (.agg #[a, b, c, d, e]) 0).run Tryz.prog w = .ok a w := by kernel_rfl

set_option maxRecDepth 100000 in
set_option maxHeartbeats 4000000 in
theorem refmark0_any (A1 A2 : Option Addr) (c1 ml c2 : Nat) (ent : Int) (text : List Int) (w : World) (hT : IntsAt w A1 .u32 text) (hR : ∀ i, i < text.length → 0 ≤ nth text i ∧ nth text i < 4294967296) (hM : MayI text ml ent) :
    Calls Tryz.prog 55 #[.agg #[.slice A1 text.length c1, .int .i64 ent, .slice A2 ml c2], .int .i64 0] w (MarkP text.length (labF text ent) w) := by
  have hfl := fieldIns0R
  have hl : text.length ≤ 16384 := hM.past.len
  have he0 := hM.past.ent0
  have he1 := hM.past.ent1
  have hmk := make_bls text.length (by omega)
  obtain ⟨W, HW⟩ : ∃ W, Hid ((w.alloc (.cells #[.slice A1 text.length c1, .int .i64 ent, .slice A2 ml c2] 25)).alloc (.cells (madeCells #[.bool false] text.length) 4) = W) := ⟨_, rfl⟩
  have HB : Hid (Below w.heap.size w W) := by unfold Hid; rw [← HW.out]; exact lb_alloc (lb_alloc (Below.refl _ _) _) _
  have HS : Hid (BlsAt W (w.heap.size + 1) text.length noF) := by
    have := BlsAt.made (w.alloc (.cells #[.slice A1 text.length c1, .int .i64 ent, .slice A2 ml c2] 25)) text.length
    rw [HW.out] at this
    simpa [Hid] using this
  have i0 : W.cell? ⟨w.heap.size, 0, none⟩ = some (.slice A1 text.length c1) := by rw [← HW.out]; simp [go_sem]
  have i1 : W.cell? ⟨w.heap.size, 1, none⟩ = some (.int .i64 ent) := by rw [← HW.out]; simp [go_sem]
  have hZ : w.heap.size + 1 < W.heap.size := by rw [← HW.out]; simp
  have HT : Hid (IntsAt w A1 .u32 text) := hT
  have HM : Hid (MayI text ml ent) := hM
  have HR : Hid _ := hR
  clear hT hR hM
  go_enter Tryz.func55, Tryz.ntmps55
  go_upto_region 2 with fail
  rw [HW.out]
  clear HW hmk
  go_wp2
  go_loopw [6] (fun i wr => ∃ k : Nat, i = .int .i64 k ∧ k ≤ text.length ∧ Hid (BlsAt wr (w.heap.size + 1) text.length (addK noF (gLab text) k)) ∧ Hid (W.grownBy wr (some (w.heap.size + 1)))) (fun i _ => text.length - (intOf i).toNat)
  case atStart => exact ⟨0, rfl, Nat.zero_le _, HS.out.fit fun y => (addK_zero _ _ y).symm, World.grownBy.refl _ _⟩
  case round =>
    clear HS
    obtain ⟨k, rfl, hk, HS, HG⟩ := hrel
    have j0 := cell_other HG.out i0 (show w.heap.size ≠ w.heap.size + 1 by omega)
    have j1 := cell_other HG.out i1 (show w.heap.size ≠ w.heap.size + 1 by omega)
    have HBr : Hid (Below w.heap.size w wr) := grown_belowR HB.out HG.out (by omega) HB.out.size
    by_cases hlt : k < text.length
    · obtain ⟨a, rfl, q⟩ := (HT.out.keep HBr.out) k hlt
      obtain ⟨hv0, hv1⟩ := HR.out k hlt
      have C1 := refdecode_any (nth text k) hv0 hv1 wr
      have C2 := fun wx => reftarget_any (nth text k) hv0 hv1 wx

      have HY : Hid (isT (nth text k) = true → gLab text k = some (tgV (nth text k)) ∧ 0 ≤ tgV (nth text k) ∧ tgV (nth text k) < (text.length : Int)) := fun h => ⟨gLab_yes h, (tg_pos h).1, far_in (HM.out.far k hlt) h⟩
      have HN : Hid (isT (nth text k) = false → gLab text k = none) := gLab_no
      generalize nth text k = v at *
      generalize isT v = t at *
      generalize tgV v = z at *
      generalize dOp v = x at *
      generalize dD v = x1 at *
      generalize dA v = x2 at *
      generalize dB v = x3 at *
      generalize dN v = x4 at *
      cases t with
      | false =>
        have HG0 : Hid (gLab text k = none) := HN.out rfl
        clear HY HN
        go_wp2_with (first
          | (go_at_call 20; refine C1.mono ?_; rintro e w2 ⟨rfl, hb2⟩; have m0 := lkeep hb2 j0; have m1 := lkeep hb2 q)
          | (go_at_call 16; refine (C2 _).mono ?_; rintro e w3 ⟨rfl, hb3⟩))
        go_roundw
        case rel => exact ⟨k + 1, by go_num, by omega, ((HS.out.keep hb2).keep hb3).fit (addK_none HG0.out), grown_on (grown_on HG.out hb2) hb3⟩
        case measure => simp [intOf]; omega
      | true =>
        obtain ⟨hg, hz0, hz1⟩ := HY.out rfl
        have HG0 : Hid (gLab text k = some z) := hg
        clear HY HN hg
        go_wp2_with (first
          | (go_at_call 20; refine C1.mono ?_; rintro e w2 ⟨rfl, hb2⟩; have m0 := lkeep hb2 j0; have m1 := lkeep hb2 q)
          | (go_at_call 16; refine (C2 _).mono ?_; rintro e w3 ⟨rfl, hb3⟩; have HS3 : Hid (BlsAt w3 (w.heap.size + 1) text.length (addK noF (gLab text) k)) := (HS.out.keep hb2).keep hb3; have s0 := HS3.out.cell hz0 hz1; have s1 := HS3.out.fro z.toNat))
        go_roundw
        case rel => exact ⟨k + 1, by go_num, by omega, (HS3.out.set hz0 hz1).fit (addK_some HG0.out), (grown_on (grown_on HG.out hb2) hb3).trans (gset11 _ _ _ _)⟩
        case measure => simp [intOf]; omega
    · obtain rfl : k = text.length := by omega
      have s0 := HS.out.cell he0 he1
      have s1 := HS.out.fro ent.toNat
      go_wp2
      go_ret
      exact ⟨w.heap.size + 1, rfl, (HS.out.set he0 he1).fit (lab_set text ent), HBr.out.setCell (by simp) _⟩



end Go.Proofs.YtfnicgihpelhhaaGreat

namespace Go.Proofs.YtfnicgihpelhhaaGreat
open Go.RowKit

def PlcP (ps : List Int) (w : World) (e : Ending) (w' : World) : Prop := ∃ (A : Option Addr) (c : Nat), e = .returned (.slice A ps.length c) ∧ IntsAt w' A .i64 ps ∧ Below w.heap.size w w'
def RelP (l : List Rel) (w : World) (e : Ending) (w' : World) : Prop := ∃ (A : Option Addr) (c : Nat), e = .returned (.slice A l.length c) ∧ RelsAt w' A l ∧ Below w.heap.size w w'
theorem BlsAt.kept {w w1 : World} {g n : Nat} {F : Int → Bool} {base : Nat} {e : TypeId} {sz : Nat} {v : Value} {m : Nat} {xs : List Value} (h : BlsAt w g n F) (hr : w.ownsRow base e sz v m xs) (he : e ≠ 4) (hg : w.grownBy w1 v.ownBlock) : BlsAt w1 g n F := by
  obtain ⟨cs, h1, h2⟩ := h
  refine ⟨cs, ?_, h2⟩
  rw [hg.block g (Array.getElem?_eq_some_iff.1 h1).1 ?_]
  · exact h1
  · rcases hr.2 with ⟨rfl, _⟩ | ⟨g2, cap, cur, rfl, _, hg2, _⟩
    · intro e; cases e
    · intro e
      cases e
      rw [h1] at hg2
      injection hg2 with hg2
      injection hg2 with a b
      exact he b.symm



end Go.Proofs.YtfnicgihpelhhaaGreat
