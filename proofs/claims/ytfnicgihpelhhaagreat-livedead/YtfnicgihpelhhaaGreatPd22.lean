/-
  The other text, word by word; both machines at the beginning; no Go in sight. A row of cells and a map are not one; new blocks. The other image while its text is filled. What is asked of a machine of the program's: made, Status, At, Steps, Taken, Register, the numbers and places of registers.
-/
import Derived.Test.YtfnicgihpelhhaaGreatProg
import Derived.WalkKit
import Derived.WalkSpells
import Derived.WalkLawsBesides
import Derived.RowKit3
import Derived.Below
import Derived.Deep.QuietTactic
import Derived.BigQuiet
import Derived.WalkSmall
import Derived.Laws.Rows
import Derived.Test.YtfnicgihpelhhaaGreatPd10
import Derived.Test.YtfnicgihpelhhaaGreatPd21
import Derived.Test.YtfnicgihpelhhaaGreatPd18
import Derived.Test.YtfnicgihpelhhaaGreatPd04
import Derived.Test.YtfnicgihpelhhaaGreatPd20
import Derived.Deep.RegionHeld3
import Derived.Laws.Pointers
import Derived.Outline
import Derived.StillTactics
import Derived.Test.YtfnicgihpelhhaaGreatPd12
import Derived.Test.YtfnicgihpelhhaaGreatPd16
import Derived.Test.YtfnicgihpelhhaaGreatPd13
namespace Go.Proofs.YtfnicgihpelhhaaGreat
open Go.RowKit

/-- A word, its target moved. -/
def mvV (q : Nat) (v : Int) : Int := if (isT v && decide ((q : Int) < tgV v)) = true then aimV v (tgV v + 1) else v
theorem tgV_is {v : Int} (h : isT v = true) : tgV v = dN v := by unfold tgV; rw [if_pos h]
theorem mv_twn {q : Nat} {v : Int} (h0 : 0 ≤ v) (ht : isT v = true → tgV v < 16383) : Twn q v (mvV q v) := by
  unfold mvV
  by_cases hT : isT v = true
  · have hh := isT_ins hT
    have hp := tg_pos hT
    have e := tgV_is hT
    by_cases hq : (q : Int) < tgV v
    · have hr : 0 ≤ tgV v + 1 ∧ tgV v + 1 < 16384 := by have := ht hT; omega
      rw [if_pos (by rw [hT, decide_eq_true hq]; rfl), aim_is hT hr]
      have hE := aim_ok hT hr
      unfold aimE at hE
      rw [hT, decide_eq_true hr] at hE
      have hE : encE (dOp v) (dD v) (dA v) (dB v) (tgV v + 1) = 0 := by simpa using hE
      obtain ⟨e1, e2, e3, e4, e5⟩ := dec_enc hE
      refine ⟨e1, e2, e3, e4, ?_⟩
      rw [e5, if_pos hh.2.1, ← e]
      unfold shP
      rw [if_pos hq]
    · rw [if_neg (by rw [hT, decide_eq_false hq]; decide)]
      refine ⟨rfl, rfl, rfl, rfl, ?_⟩
      rw [if_pos hh.2.1, ← e]
      unfold shP
      rw [if_neg hq]
  · rw [if_neg (by simp [hT])]
    refine ⟨rfl, rfl, rfl, rfl, ?_⟩
    by_cases hP' : hP (dOp v) = true
    · exfalso
      cases hi : isIns v with
      | true => exact hT (by unfold isT; rw [hP', decide_eq_true (dOp_yes h0 hi)]; rfl)
      | false => rw [dOp_no hi] at hP'; revert hP'; decide
    · rw [if_neg hP']
/-- The other text, as far as k words of the first. -/
def othL (text : List Int) (q : Nat) (wn : Int) : Nat → List Int
  | 0 => []
  | k + 1 => othL text q wn k ++ [mvV q (nth text k)] ++ (if k = q then [wn] else [])
theorem othL_len (text : List Int) (q : Nat) (wn : Int) : ∀ k, (othL text q wn k).length = if q < k then k + 1 else k
  | 0 => by rw [if_neg (by omega)]; rfl
  | k + 1 => by
    show (othL text q wn k ++ [mvV q (nth text k)] ++ (if k = q then [wn] else [])).length = _
    rw [List.length_append, List.length_append, othL_len text q wn k]
    by_cases e : k = q
    · rw [if_pos e, if_neg (by omega), if_pos (by omega)]; rfl
    · rw [if_neg e]
      by_cases h : q < k
      · rw [if_pos h, if_pos (by omega)]; rfl
      · rw [if_neg h, if_neg (by omega)]; rfl
theorem othL_old (text : List Int) (q : Nat) (wn : Int) {i : Nat} : ∀ {k : Nat}, i < k → nth (othL text q wn k) (shN q i) = mvV q (nth text i)
  | 0, h => by omega
  | k + 1, h => by
    show nth (othL text q wn k ++ [mvV q (nth text k)] ++ (if k = q then [wn] else [])) (shN q i) = _
    have hl := othL_len text q wn k
    by_cases e : i = k
    · subst e
      have hs : shN q i = (othL text q wn i).length := by rw [hl]; rfl
      rw [List.append_assoc, hs, show (othL text q wn i).length = (othL text q wn i).length + 0 from rfl, nth_right]
      rfl
    · have hb : shN q i < (othL text q wn k).length := by rw [hl]; unfold shN; split <;> split <;> omega
      rw [List.append_assoc, nth_left hb]
      exact othL_old text q wn (by omega)
theorem othL_new (text : List Int) (q : Nat) (wn : Int) : ∀ {k : Nat}, q < k → nth (othL text q wn k) (q + 1) = wn
  | 0, h => by omega
  | k + 1, h => by
    show nth (othL text q wn k ++ [mvV q (nth text k)] ++ (if k = q then [wn] else [])) (q + 1) = _
    have hl := othL_len text q wn k
    by_cases e : k = q
    · subst e
      rw [if_pos rfl]
      rw [if_neg (by omega)] at hl
      have : k + 1 = (othL text k wn k ++ [mvV k (nth text k)]).length + 0 := by rw [List.length_append, hl]; rfl
      rw [this, nth_right]
      rfl
    · rw [if_pos (by omega)] at hl
      rw [List.append_assoc, nth_left (by omega)]
      exact othL_new text q wn (by omega)
theorem oth_is {text : List Int} {ml : Nat} {ent r wn : Int} {q : Nat} (hM : MayI text ml ent) (hR : ∀ i, i < text.length → 0 ≤ nth text i ∧ nth text i < 4294967296) (hl : text.length ≤ 500) (hq : q + 1 < text.length) (he : endsB (dOp (nth text q)) = false) (h1 : dOp wn = 1) (h2 : dD wn = r) : Oth text (othL text q wn text.length) q r := by
  refine ⟨by rw [othL_len, if_pos (by omega)], hq, fun i hi => ?_, by rw [othL_new text q wn (by omega)]; exact h1, by rw [othL_new text q wn (by omega)]; exact h2, he⟩
  rw [othL_old text q wn hi]
  exact mv_twn (hR i hi).1 (fun hT => by have := far_in (hM.far i hi) hT; omega)
theorem mv_range {q : Nat} {v : Int} (h0 : 0 ≤ v) (h1 : v < 4294967296) : 0 ≤ mvV q v ∧ mvV q v < 4294967296 := by
  unfold mvV
  split
  · exact aim_range _ _
  · exact ⟨h0, h1⟩
theorem oth_place {text : List Int} {q : Nat} {wn : Int} (hq : q + 1 < text.length) {j : Nat} (hj : j < (othL text q wn text.length).length) : j = q + 1 ∨ ∃ i, i < text.length ∧ j = shN q i := by
  rw [othL_len, if_pos (by omega)] at hj
  by_cases e : j = q + 1
  · exact .inl e
  · refine .inr ?_
    by_cases h : j ≤ q
    · exact ⟨j, by omega, by unfold shN; rw [if_neg (by omega)]⟩
    · exact ⟨j - 1, by omega, by unfold shN; rw [if_pos (by omega)]; omega⟩
theorem oth_range {text : List Int} {q : Nat} {wn : Int} (hR : ∀ i, i < text.length → 0 ≤ nth text i ∧ nth text i < 4294967296) (hq : q + 1 < text.length) (hw : 0 ≤ wn ∧ wn < 4294967296) : ∀ j, j < (othL text q wn text.length).length → 0 ≤ nth (othL text q wn text.length) j ∧ nth (othL text q wn text.length) j < 4294967296 := fun j hj => by
  rcases oth_place hq hj with e | ⟨i, hi, e⟩
  · rw [e, othL_new text q wn (by omega)]; exact hw
  · rw [e, othL_old text q wn hi]; exact mv_range (hR i hi).1 (hR i hi).2
/-- The other one may be, too. -/
theorem oth_may {text : List Int} {ml : Nat} {ent r wn : Int} {q : Nat} (hM : MayI text ml ent) (hl : text.length ≤ 500) (hO : Oth text (othL text q wn text.length) q r) : MayI (othL text q wn text.length) ml (shP q ent) := by
  have hq := hO.qlt
  have hlen := hO.len
  have p := hM.past
  have e0 := p.ent0
  have e1 := p.ent1
  have hs : 0 ≤ shP q ent ∧ shP q ent < (text.length : Int) + 1 := by unfold shP; split <;> omega
  refine ⟨⟨by omega, by omega, p.mem, hs.1, by rw [hlen]; push_cast; omega⟩, fun j hj => ?_, ?_⟩
  · cases hf : farT (othL text q wn text.length) j with
    | false => rfl
    | true =>
      exfalso
      unfold farT at hf
      rw [Bool.and_eq_true, decide_eq_true_eq] at hf
      obtain ⟨hT, hfar⟩ := hf
      rw [hlen] at hfar
      have hTg := tgV_is hT
      unfold isT at hT
      rw [Bool.and_eq_true, decide_eq_true_eq] at hT
      rcases oth_place hq hj with e | ⟨i, hi, e⟩
      · rw [e, hO.op] at hT
        exact absurd hT.2 (by decide)
      · have tw := hO.old i hi
        rw [← e] at tw
        rw [tw.op] at hT
        have hTi : isT (nth text i) = true := by unfold isT; rw [hT.2, decide_eq_true hT.1]; rfl
        have h4 := far_in (hM.far i hi) hTi
        rw [tgV_is hTi] at h4
        rw [hTg, tw.n, if_pos hT.2] at hfar
        unfold shP at hfar
        split at hfar <;> push_cast at hfar <;> omega
  · have tw := hO.old (text.length - 1) (by omega)
    have hs : shN q (text.length - 1) = (othL text q wn text.length).length - 1 := by rw [hlen]; unfold shN; rw [if_pos (by omega)]; omega
    rw [hs] at tw
    have := hM.last
    unfold lastOK at this ⊢
    rw [tw.op]
    exact this
theorem rl_new {text tape mem : List Int} {ml : Nat} {ent wn : Int} {q : Nat} {H : Int → Nat} (hM : MayI text ml ent) (hf : Fine (newM text tape mem ent)) (hk : Fine (newM (othL text q wn text.length) tape mem (shP q ent))) : Rl text (othL text q wn text.length) ent q H (newM text tape mem ent) (newM (othL text q wn text.length) tape mem (shP q ent)) := by
  refine ⟨going_new hM hf, hk, rfl, ?_, ?_⟩
  · have := shN_cast q ent.toNat
    have e0 := hM.past.ent0
    rw [show ((ent.toNat : Nat) : Int) = ent by omega] at this
    show (shP q ent).toNat = shN q ent.toNat
    omega
  · refine ⟨fun r _ => ?_, fun j => ?_, rfl, rfl, rfl, rfl, rfl⟩
    · show (List.replicate 16 ((0, false) : Wd)).getD r (0, false) = shW q ((List.replicate 16 ((0, false) : Wd)).getD r (0, false))
      have : (List.replicate 16 ((0, false) : Wd)).getD r (0, false) = (0, false) := by
        rw [List.getD_eq_getElem?_getD, List.getElem?_replicate]
        split <;> rfl
      rw [this]
      rfl
    · show (mem.map (fun v => ((v, false) : Wd))).getD j (0, false) = shW q ((mem.map (fun v => ((v, false) : Wd))).getD j (0, false))
      rw [List.getD_eq_getElem?_getD, List.getElem?_map]
      cases mem[j]? with
      | none => rfl
      | some v => rfl
/-- What both tell at the end. -/
theorem sim_words {q S : Nat} {m k : Mach} (h : Sim q S m k) (j : Nat) : wC k.mem j = wC m.mem j ∧ wV k.mem j = (if wC m.mem j = true ∧ (q : Int) < wV m.mem j then wV m.mem j + 1 else wV m.mem j) := by
  have e := h.mem j
  refine ⟨?_, ?_⟩
  · show (k.mem.getD j (0, false)).2 = _
    rw [e]
    rfl
  · show (k.mem.getD j (0, false)).1 = _
    rw [e]
    show (if wC m.mem j = true then shP q (wV m.mem j) else wV m.mem j) = _
    unfold shP
    by_cases c : wC m.mem j = true
    · rw [if_pos c]
      by_cases d : (q : Int) < wV m.mem j
      · rw [if_pos d, if_pos ⟨c, d⟩]
      · rw [if_neg d, if_neg fun x => d x.2]
    · rw [if_neg c, if_neg fun x => c x.1]
/-- One round of both: the one that was put in is done besides. -/
def rndK (q : Nat) (m k : Mach) : Mach := if (stepM m).status = 0 ∧ (stepM k).status = 0 ∧ (stepM k).pc = q + 1 ∧ (stepM m).pc = q + 1 then stepM (stepM k) else stepM k
theorem round_both {text text' : List Int} {ml : Nat} {ent r : Int} {q : Nat} {H : Int → Nat} {m k : Mach} (hM : MayI text ml ent) (hO : Oth text text' q r) (hH : BhI text ent H) (hd : (H (q : Int)).testBit r.toNat = false) (h : Rl text text' ent q H m k) :
    (rndK q m k).status = (stepM m).status ∧ (stepM k).status = (stepM m).status ∧ Sim q 0 (stepM m) (rndK q m k) ∧ ((stepM m).status = 0 → Rl text text' ent q H (stepM m) (rndK q m k)) := by
  obtain ⟨h1, h2, h3⟩ := step_both hM hO hH hd h
  unfold rndK
  by_cases hs : (stepM m).status = 0
  · rcases h3 hs with ⟨hq, hr⟩ | ⟨_, e1, e2, e3, hr⟩
    · have hn : ¬ ((stepM m).status = 0 ∧ (stepM k).status = 0 ∧ (stepM k).pc = q + 1 ∧ (stepM m).pc = q + 1) := fun x => by
        have := hr.pc
        rw [x.2.2.1, x.2.2.2] at this
        unfold shN at this
        rw [if_pos (by omega)] at this
        omega
      rw [if_neg hn]
      exact ⟨h1, h1, h2, fun _ => hr⟩
    · rw [if_pos ⟨hs, by rw [h1]; exact hs, e2, e1⟩]
      exact ⟨by rw [e3, hs], h1, hr.sim.less fun j hj => (by rw [Nat.zero_testBit] at hj; cases hj), fun _ => hr⟩
  · rw [if_neg fun x => hs x.1]
    exact ⟨h1, h1, h2, fun x => absurd x hs⟩



end Go.Proofs.YtfnicgihpelhhaaGreat

namespace Go.Proofs.YtfnicgihpelhhaaGreat
open Go.RowKit

theorem newAtK {w : World} {o : Obj} {n : Nat} (h : n = w.heap.size) : (w.alloc o).heap[n]? = some o := by subst h; exact heap_alloc_new w o
theorem Mks.notrow {w : World} {b n : Nat} {f : Int → Bool} (h : Mks w b n f) {base : Nat} {e : TypeId} {sz : Nat} {v : Value} {m : Nat} {xs : List Value} (hr : w.ownsRow base e sz v m xs) : some b ≠ v.ownBlock := by
  obtain ⟨D, ⟨es, clock, h1, h2⟩, h3⟩ := h
  rcases hr.2 with ⟨rfl, _⟩ | ⟨g, cap, cur, rfl, _, hg2, _⟩
  · intro e; cases e
  · intro e
    cases e
    rw [h1] at hg2
    cases hg2



end Go.Proofs.YtfnicgihpelhhaaGreat

namespace Go.Proofs.YtfnicgihpelhhaaGreat
open Go.RowKit

/-- The other image in the block g: its text so far a row of its own behind g. -/
structure Ot (Y wr : World) (g : Nat) (O : Option Addr) (c : Nat) (e : Int) (B2 : Option Addr) (ml m2 : Nat) (l : List Int) : Prop where
  box : wr.heap[g]? = some (.cells #[.slice O l.length c, .int .i64 e, .slice B2 ml m2] 25 (0, 0))
  row : wr.ownsRow (g + 1) 45 1 (.slice O l.length c) l.length (iVals .u32 l)
  but : But g Y wr
  yz : Y.heap.size = g + 1
section
variable {Y wr w1 : World} {g : Nat} {O O1 : Option Addr} {c k1 : Nat} {e : Int} {B2 : Option Addr} {ml m2 : Nat} {l : List Int}
theorem Ot.keep (h : Ot Y wr g O c e B2 ml m2 l) (hb : Below wr.heap.size wr w1) : Ot Y w1 g O c e B2 ml m2 l :=
  ⟨lb_box h.box hb, row_keep h.row hb, h.but.on hb, h.yz⟩
theorem Ot.cells (h : Ot Y wr g O c e B2 ml m2 l) : wr.cell? ⟨g, 0, none⟩ = some (.slice O l.length c) ∧ wr.cell? ⟨g, 1, none⟩ = some (.int .i64 e) ∧ wr.cell? ⟨g, 2, none⟩ = some (.slice B2 ml m2) := zbox3_cell h.box
theorem Ot.same (h : Ot Y wr g O c e B2 ml m2 l) {x : Int} (hg : (wr.alloc (.cells #[.int .u32 x] 45)).grownBy w1 (Value.slice O l.length c).ownBlock) : w1.heap[g]? = some (.cells #[.slice O l.length c, .int .i64 e, .slice B2 ml m2] 25 (0, 0)) := by
  have hlt := (Array.getElem?_eq_some_iff.1 h.box).1
  rw [hg.block g (by simp; omega) (fun ee => by have := (h.row.lt g ee.symm).1; omega)]
  exact old_at h.box
theorem Ot.one (h : Ot Y wr g O c e B2 ml m2 l) {x : Int} (hg : (wr.alloc (.cells #[.int .u32 x] 45)).grownBy w1 (Value.slice O l.length c).ownBlock) : w1.cell? ⟨g, 0, none⟩ = some (.slice O l.length c) ∧ w1.frozen? ⟨g, 0, none⟩ = false := ⟨(zbox3_cell (h.same hg)).1, box_fro (h.same hg) 0⟩
theorem Ot.app (h : Ot Y wr g O c e B2 ml m2 l) {x : Int} (ho : w1.ownsRow (g + 1) 45 1 (.slice O1 (l.length + 1) k1) (l.length + 1) (iVals .u32 l ++ [.int .u32 x])) (hg : (wr.alloc (.cells #[.int .u32 x] 45)).grownBy w1 (Value.slice O l.length c).ownBlock) :
    Ot Y (w1.setCell ⟨g, 0, none⟩ (.slice O1 (l.length + 1) k1)) g O1 k1 e B2 ml m2 (l ++ [x]) := by
  have hb := h.same hg
  have hln : (l ++ [x]).length = l.length + 1 := by simp
  refine ⟨?_, ?_, ?_, h.yz⟩
  · rw [hln, box_set hb]; rfl
  · rw [hln, iVals_snoc]
    exact ownsRow_setCell_other ho (fun ee => by have := (ho.lt g ee).1; omega) _
  · refine But.set ?_ _ _
    have h1 : But g Y (wr.alloc (.cells #[.int .u32 x] 45)) := h.but.on (lb_alloc (Below.refl _ _) _)
    refine ⟨hg.os.trans h1.1, hg.tape.trans h1.2.1, hg.output.trans h1.2.2.1, Nat.le_trans h1.2.2.2.1 hg.size, fun k hk hn => ?_⟩
    rw [hg.block k (Nat.lt_of_lt_of_le hk h1.2.2.2.1) (fun ee => by have := (h.row.lt k ee.symm).1; have := h.yz; omega)]
    exact h1.2.2.2.2 k hk hn
theorem Ot.room (h : Ot Y wr g O c e B2 ml m2 l) : g + 1 ≤ wr.heap.size := by
  have := (Array.getElem?_eq_some_iff.1 h.box).1
  omega
theorem Ot.entry (h : Ot Y wr g O c e B2 ml m2 l) (e' : Int) : Ot Y (wr.setCell ⟨g, 1, none⟩ (.int .i64 e')) g O c e' B2 ml m2 l := by
  refine ⟨by rw [box_set h.box]; rfl, ownsRow_setCell_other h.row (fun ee => by have := (h.row.lt g ee).1; omega) _, h.but.set _ _, h.yz⟩
theorem one_oneW {x : Int} : ∀ u ∈ [Value.int .u32 x], u.oneCell' = true := fun u hu => by
  simp only [List.mem_cons, List.not_mem_nil, or_false] at hu
  rw [hu]; rfl
end

end Go.Proofs.YtfnicgihpelhhaaGreat

namespace Go.Proofs.YtfnicgihpelhhaaGreat
open Go.RowKit

/-- What a step gives up with. -/
def stopM (f : Int) : Ending := .panicked [{ v := .iface 113 (.int .i8 f), recovered := false }]
section
variable {w : World} {base P : Nat} {s : Loc} {m : Mach}
theorem made_yes (h : PAt w base P s m) (hm : Fine m) : Calls Tryz.prog 62 #[.pointer (some ⟨P, 0, none⟩)] w fun e w' => e = .returned (.bool true) ∧ w' = w := by
  obtain ⟨c0, -⟩ := h.cells hm.sixteen
  have hl := hm.some
  go_enter Tryz.func62, Tryz.ntmps62
  go_wp2
  go_ret
  exact ⟨rfl, rfl⟩
theorem status_yes (h : PAt w base P s m) (hm : Fine m) : Calls Tryz.prog 63 #[.pointer (some ⟨P, 0, none⟩)] w fun e w' => e = .returned (.int .i8 m.status) ∧ w' = w := by
  have C := made_yes h hm
  obtain ⟨c0, c1, c34, c35, c36, c37, c38, c39⟩ := h.cells hm.sixteen
  clear h
  go_enter Tryz.func63, Tryz.ntmps63
  go_wp2_with fail
  refine C.mono ?_
  rintro e w1 ⟨rfl, rfl⟩
  go_wp2
  go_ret
  exact ⟨rfl, rfl⟩
theorem at_yes (h : PAt w base P s m) (hm : Fine m) : Calls Tryz.prog 39 #[.pointer (some ⟨P, 0, none⟩)] w fun e w' => e = .returned (.int .i64 m.pc) ∧ w' = w := by
  have C := made_yes h hm
  obtain ⟨c0, c1, c34, c35, c36, c37, c38, c39⟩ := h.cells hm.sixteen
  clear h
  go_enter Tryz.func39, Tryz.ntmps39
  go_wp2_with fail
  refine C.mono ?_
  rintro e w1 ⟨rfl, rfl⟩
  go_wp2
  go_ret
  exact ⟨rfl, rfl⟩
theorem number_no (h : PAt w base P s m) (hm : Fine m) (r : Nat) (hr : r < 16) (hc : wC m.regs r = true) : Calls Tryz.prog 119 #[.pointer (some ⟨P, 0, none⟩), .int .i8 r] w fun e w' => e = stopM 4 ∧ Below w.heap.size w w' := by
  obtain ⟨d0, d1⟩ := h.reg hm.sixteen hr
  rw [hc] at d1
  clear h
  go_enter Tryz.func119, Tryz.ntmps119
  go_wp2
  exact ⟨rfl, rfl, lb_alloc (Below.refl _ _) _⟩
theorem number_yes (h : PAt w base P s m) (hm : Fine m) (r : Nat) (hr : r < 16) (hc : wC m.regs r = false) : Calls Tryz.prog 119 #[.pointer (some ⟨P, 0, none⟩), .int .i8 r] w fun e w' => e = .returned (.int .i64 (wV m.regs r)) ∧ Below w.heap.size w w' := by
  obtain ⟨d0, d1⟩ := h.reg hm.sixteen hr
  rw [hc] at d1
  clear h
  go_enter Tryz.func119, Tryz.ntmps119
  go_wp2
  go_ret
  exact ⟨rfl, lb_alloc (Below.refl _ _) _⟩
theorem goal_no (h : PAt w base P s m) (hm : Fine m) (r : Nat) (hr : r < 16) (hc : wC m.regs r = false) : Calls Tryz.prog 121 #[.pointer (some ⟨P, 0, none⟩), .int .i8 r] w fun e w' => e = stopM 4 ∧ Below w.heap.size w w' := by
  obtain ⟨d0, d1⟩ := h.reg hm.sixteen hr
  rw [hc] at d1
  clear h
  go_enter Tryz.func121, Tryz.ntmps121
  go_wp2
  exact ⟨rfl, rfl, lb_alloc (Below.refl _ _) _⟩
theorem goal_yes (h : PAt w base P s m) (hm : Fine m) (r : Nat) (hr : r < 16) (hc : wC m.regs r = true) : Calls Tryz.prog 121 #[.pointer (some ⟨P, 0, none⟩), .int .i8 r] w fun e w' => e = .returned (.int .i64 (wV m.regs r)) ∧ Below w.heap.size w w' := by
  obtain ⟨d0, d1⟩ := h.reg hm.sixteen hr
  rw [hc] at d1
  clear h
  go_enter Tryz.func121, Tryz.ntmps121
  go_wp2
  go_ret
  exact ⟨rfl, lb_alloc (Below.refl _ _) _⟩
end
theorem raise_yes (w : World) : Calls Tryz.prog 117 #[.int .i8 0] w fun e w' => e = .returned (.tuple #[]) ∧ w' = w := by
  go_enter Tryz.func117, Tryz.ntmps117
  go_wp2
  go_end0
  exact ⟨rfl, rfl⟩
theorem raise_no (f : Int) (hf : ¬ f = 0) (w : World) : Calls Tryz.prog 117 #[.int .i8 f] w fun e w' => e = stopM f ∧ w' = w := by
  have hf' : (f == 0) = false := by simpa using hf
  go_enter Tryz.func117, Tryz.ntmps117
  go_wp2
  exact ⟨rfl, rfl, rfl⟩
section
variable {w : World} {base P : Nat} {s : Loc} {m : Mach}
theorem set_mid {hd W tl : List Value} {n i : Nat} (v : Value) (hn : n = hd.length + i) (hi : i < W.length) : (hd ++ (W ++ tl)).set n v = hd ++ (W.set i v ++ tl) := by
  subst hn
  rw [List.set_append_right _ _ (by omega), show hd.length + i - hd.length = i by omega, List.set_append_left _ _ hi]
theorem set_tail {hd W tl : List Value} {n i : Nat} (v : Value) (hn : n = hd.length + W.length + i) : (hd ++ (W ++ tl)).set n v = hd ++ (W ++ tl.set i v) := by
  subst hn
  rw [List.set_append_right _ _ (by omega), List.set_append_right _ _ (by omega), show hd.length + W.length + i - hd.length - W.length = i by omega]
theorem boxM_put (s : Loc) (m : Mach) (h : m.regs.length = 16) {k : Nat} (hk : k < 16) (x : Wd) : ((boxM s m).setIfInBounds (2 + k * 2) (.int .i64 x.1)).setIfInBounds (2 + k * 2 + 1) (.bool x.2) = boxM s (putM m k x) := by
  have hl := wVals_len m.regs
  have e := wVals_set (l := m.regs) (k := k) x
  simp only [boxM, List.setIfInBounds_toArray]
  rw [set_mid (i := k * 2) _ (by simp [hdM]) (by omega), set_mid (i := k * 2 + 1) _ (by simp [hdM]; omega) (by simp; omega), e]
  simp [putM, hdM, tlM]
theorem boxM_at (s : Loc) (m : Mach) (h : m.regs.length = 16) (k : Nat) (v : Value) : (boxM s m).setIfInBounds (34 + k) v = (hdM s m ++ (wVals m.regs ++ (tlM s m).set k v)).toArray := by
  have hl := wVals_len m.regs
  simp only [boxM, List.setIfInBounds_toArray]
  rw [set_tail (i := k) _ (by simp [hdM]; omega)]
theorem own_ne {e t : TypeId} {size n b : Nat} {v : Value} {xs : List Value} {cs : Array Value} (h : w.ownsRow base e size v n xs) (hv : v.ownBlock = some b) (hp : w.heap[P]? = some (.cells cs t (0, 0))) (ne : e ≠ t) : b ≠ P := by
  rintro rfl
  rcases h.2 with ⟨rfl, -⟩ | ⟨g, cap, cur, rfl, -, hg, -⟩
  · cases hv
  · simp only [Value.ownBlock, Option.some.injEq] at hv
    subst hv
    rw [hg] at hp
    cases hp
    exact ne rfl
/-- The box alone is other. -/
theorem PAt.rebox {w' : World} {m' : Mach} (h : PAt w base P s m) (hb : w'.heap[P]? = some (.cells (boxM s m') 87 (0, 0))) (ho : ∀ b, b ≠ P → w'.heap[b]? = w.heap[b]?) (e1 : m'.text = m.text) (e2 : m'.tape = m.tape) (e3 : m'.mem = m.mem) (e4 : m'.ports = m.ports) : PAt w' base P s m' :=
  ⟨hb, h.bP, by rw [e1]; exact own_stay h.text fun b e => ho b (own_ne h.text e h.box (by decide)), by rw [e2]; exact own_stay h.tape fun b e => ho b (own_ne h.tape e h.box (by decide)), by rw [e3]; exact own_stay h.mem fun b e => ho b (own_ne h.mem e h.box (by decide)), by rw [e4]; exact own_stay h.ports fun b e => ho b (own_ne h.ports e h.box (by decide))⟩
theorem PAt.put (h : PAt w base P s m) (hm : m.regs.length = 16) {k : Nat} (hk : k < 16) (x : Wd) : PAt ((w.setCell ⟨P, 2 + k * 2, none⟩ (.int .i64 x.1)).setCell ⟨P, 2 + k * 2 + 1, none⟩ (.bool x.2)) base P s (putM m k x) := by
  refine h.rebox ?_ (fun b hb => (Below.heap_setCell _ _ _ _ hb).trans (Below.heap_setCell _ _ _ _ hb)) rfl rfl rfl rfl
  rw [← boxM_put s m hm hk x]
  exact box_set (box_set h.box _ _) _ _
theorem Upto.set {F : Nat → Prop} {a b : World} (h : Upto F a b) {B : Nat} (hB : F B ∨ a.heap.size ≤ B) (i : Nat) (v : Value) : Upto F a (b.setCell ⟨B, i, none⟩ v) :=
  ⟨h.os, h.tape, h.output, by simpa [go_sem] using h.size, fun x hx hn => (Below.heap_setCell _ _ _ _ (fun e => by subst e; rcases hB with f | f; exact hn f; omega)).trans (h.block x hx hn)⟩
theorem put_any (h : PAt w base P s m) (hm : Fine m) (r : Nat) (hr : r < 16) (x : Wd) : Calls Tryz.prog 115 #[.pointer (some ⟨P, 0, none⟩), .int .i8 r, .agg #[.int .i64 x.1, .bool x.2]] w fun e w' => e = .returned (.int .i64 ((m.pc : Int) + 1)) ∧ PAt w' base P s (putM m r x) ∧ Upto (Foot s P) w w' := by
  have hq := ((h.put hm.sixteen hr x).alloc (.cells #[.int .i64 x.1, .bool x.2] 82)).drew
  obtain ⟨d0, d1⟩ := h.reg hm.sixteen hr
  obtain ⟨c0, c1, c34, c35, c36, c37, c38, c39⟩ := h.cells hm.sixteen
  have f0 := h.fro (2 + r * 2)
  have f1 := h.fro (2 + r * 2 + 1)
  have hP := h.lt
  have hpc := hm.pc
  clear h
  go_enter Tryz.func115, Tryz.ntmps115
  go_wp2_with fail
  go_region
  all_goals (
    go_wp2
    go_ret
    exact ⟨rfl, hq, ((((Upto.refl _ _).set (Or.inl (Or.inl rfl)) _ _).set (Or.inl (Or.inl rfl)) _ _).alloc _).drew⟩)
/-- Single cells behind the registers. -/
theorem PAt.pc (h : PAt w base P s m) (hm : m.regs.length = 16) (k : Nat) : PAt (w.setCell ⟨P, 36, none⟩ (.int .i64 k)) base P s { m with pc := k } := by
  refine h.rebox ?_ (fun b hb => Below.heap_setCell _ _ _ _ hb) rfl rfl rfl rfl
  rw [box_set h.box, show 36 = 34 + 2 from rfl, boxM_at s m hm]
  rfl
theorem PAt.steps (h : PAt w base P s m) (hm : m.regs.length = 16) (k : Nat) : PAt (w.setCell ⟨P, 37, none⟩ (.int .i64 k)) base P s { m with steps := k } := by
  refine h.rebox ?_ (fun b hb => Below.heap_setCell _ _ _ _ hb) rfl rfl rfl rfl
  rw [box_set h.box, show 37 = 34 + 3 from rfl, boxM_at s m hm]
  rfl
theorem PAt.taken (h : PAt w base P s m) (hm : m.regs.length = 16) (k : Nat) : PAt (w.setCell ⟨P, 38, none⟩ (.int .i64 k)) base P s { m with taken := k } := by
  refine h.rebox ?_ (fun b hb => Below.heap_setCell _ _ _ _ hb) rfl rfl rfl rfl
  rw [box_set h.box, show 38 = 34 + 4 from rfl, boxM_at s m hm]
  rfl
theorem PAt.status (h : PAt w base P s m) (hm : m.regs.length = 16) (k : Int) : PAt (w.setCell ⟨P, 39, none⟩ (.int .i8 k)) base P s { m with status := k } := by
  refine h.rebox ?_ (fun b hb => Below.heap_setCell _ _ _ _ hb) rfl rfl rfl rfl
  rw [box_set h.box, show 39 = 34 + 5 from rfl, boxM_at s m hm]
  rfl
end





end Go.Proofs.YtfnicgihpelhhaaGreat
