/-
  leaves and Check of package image, by what they return; each word is of 32 bits. What a map of marks leaves alone; targets; no Go in sight. What gather answers. Where control can go, plain.
-/
import Derived.Test.YtfnicgihpelhhaaGreatProg
import Derived.WalkKit
import Derived.WalkSpells
import Derived.WalkLawsBesides
import Derived.RowKit3
import Derived.Below
import Derived.Deep.QuietTactic
import Derived.BigQuiet
import Derived.WalkSmall
import Derived.Laws.Rows
import Derived.Test.YtfnicgihpelhhaaGreatPd05
import Derived.Test.YtfnicgihpelhhaaGreatPd17
import Derived.Test.YtfnicgihpelhhaaGreatPd08
import Derived.Test.YtfnicgihpelhhaaGreatPd04
import Derived.Deep.AppendLies
import Derived.Test.YtfnicgihpelhhaaGreatPd09
namespace Go.Proofs.YtfnicgihpelhhaaGreat
open Go.RowKit

theorem leaves_any (v : Int) (h0 : 0 ≤ v) (h1 : v < 4294967296) (w : World) : Calls Tryz.prog 59 #[.int .u32 v] w fun e w' => e = .returned (.bool (lastOK v)) ∧ Below w.heap.size w w' := by
  have C := isadecode_any v h0 h1 w
  unfold lastOK
  generalize dOp v = x at *
  generalize dD v = x1 at *
  generalize dA v = x2 at *
  generalize dB v = x3 at *
  generalize dN v = x4 at *
  go_enter Tryz.func59, Tryz.ntmps59
  go_wp2_with fail
  refine C.mono ?_
  rintro e w1 ⟨rfl, hb⟩
  clear C
  go_wp2
  all_goals (
    go_ret
    refine ⟨retB ?_, hb⟩
    simp_all)
theorem lb_box0 {w w1 : World} {B : Nat} {cs : Array Value} {t : TypeId} (h : w.heap[B]? = some (.cells cs t (0, 0))) (hb : Below w.heap.size w w1) : w1.heap[B]? = some (.cells cs t (0, 0)) := by
  rw [hb.block B (Array.getElem?_eq_some_iff.1 h).1]; exact h
def ChkP (E N : Int) (w : World) (e : Ending) (w' : World) : Prop := e = .returned (.tuple #[.int .i64 E, .int .i64 N]) ∧ Below w.heap.size w w'
set_option maxRecDepth 100000 in
set_option maxHeartbeats 1000000 in
theorem check_any (A1 A2 : Option Addr) (c1 ml c2 : Nat) (ent : Int) (text : List Int) (w : World) (hT : IntsAt w A1 .u32 text) (hR : ∀ i, i < text.length → 0 ≤ nth text i ∧ nth text i < 4294967296) (hl : text.length ≤ 1048576) (hm : ml ≤ 1048576) :
    Calls Tryz.prog 35 #[.agg #[.slice A1 text.length c1, .int .i64 ent, .slice A2 ml c2]] w (ChkP (checkI text ml ent).1 (checkI text ml ent).2 w) := by
  by_cases h0 : text.length = 0
  · rw [check0 h0, h0]
    go_enter Tryz.func35, Tryz.ntmps35
    go_wp2
    go_ret2
    exact ⟨rfl, lb_alloc (Below.refl _ _) _⟩
  have n0 : ((text.length : Int) == 0) = false := by simpa using h0
  by_cases h1 : 16384 < text.length
  · rw [check1 h0 h1]
    go_enter Tryz.func35, Tryz.ntmps35
    go_wp2
    go_ret2
    exact ⟨rfl, lb_alloc (Below.refl _ _) _⟩
  by_cases h2 : 4096 < ml
  · rw [check2 h0 h1 h2]
    go_enter Tryz.func35, Tryz.ntmps35
    go_wp2
    go_ret2
    exact ⟨rfl, lb_alloc (Below.refl _ _) _⟩
  by_cases h3 : ent < 0
  · rw [check3 h0 h1 h2 (.inl h3)]
    go_enter Tryz.func35, Tryz.ntmps35
    go_wp2
    go_ret2
    exact ⟨rfl, lb_alloc (Below.refl _ _) _⟩
  by_cases h4 : (text.length : Int) ≤ ent
  · rw [check3 h0 h1 h2 (.inr h4)]
    go_enter Tryz.func35, Tryz.ntmps35
    go_wp2
    go_ret2
    exact ⟨rfl, lb_alloc (Below.refl _ _) _⟩
  have HP : Hid (Past text ml ent) := ⟨by omega, by omega, by omega, by omega, by omega⟩
  have HB0 : Hid (Below w.heap.size w (w.alloc (.cells #[.slice A1 text.length c1, .int .i64 ent, .slice A2 ml c2] 25))) := lb_alloc (Below.refl _ _) _
  have HX : Hid ((w.alloc (.cells #[.slice A1 text.length c1, .int .i64 ent, .slice A2 ml c2] 25)).heap[w.heap.size]? = some (.cells #[.slice A1 text.length c1, .int .i64 ent, .slice A2 ml c2] 25 (0, 0))) := heap_alloc_new _ _
  have HS : Hid (∀ i, i < text.length → ∃ a : Addr, A1 = some a) := fun i hi => (hT i hi).imp fun a h => h.1
  clear h1 h2 h3 h4
  have hlen : text.length ≤ 16384 := HP.out.len
  have hml := HP.out.mem
  have hpos := HP.out.pos
  have he0 := HP.out.ent0
  have he1 := HP.out.ent1
  go_enter Tryz.func35, Tryz.ntmps35
  go_wp2
  go_loopw [37] (fun i wr => ∃ k : Nat, i = .int .i64 k ∧ k ≤ text.length ∧ Hid (∀ j, j < k → farT text j = false) ∧ Hid (Below (w.alloc (.cells #[.slice A1 text.length c1, .int .i64 ent, .slice A2 ml c2] 25)).heap.size (w.alloc (.cells #[.slice A1 text.length c1, .int .i64 ent, .slice A2 ml c2] 25)) wr)) (fun i _ => text.length - (intOf i).toNat)
  case atStart => exact ⟨0, rfl, by omega, fun j hj => by omega, Below.refl _ _⟩
  case round =>
    obtain ⟨k, rfl, hk, hj, hb⟩ := hrel
    have HBr : Hid (Below w.heap.size w wr) := lb_trans HB0.out hb.out
    by_cases hlt : k < text.length
    · obtain ⟨a, rfl, q⟩ := (hT.keep HBr.out) k hlt
      obtain ⟨hv0, hv1⟩ := hR k hlt
      have C := isatarget_any (nth text k) hv0 hv1 wr
      have HF : Hid (farT text k = (isT (nth text k) && decide ((text.length : Int) ≤ tgV (nth text k)))) := rfl
      generalize nth text k = v at *
      generalize isT v = t at *
      generalize tgV v = z at *
      cases t with
      | false =>
        go_wp2_with (go_at_call 58; refine C.mono ?_; rintro e w1 ⟨rfl, hb1⟩)
        go_roundw
        case rel => exact ⟨k + 1, by go_num, by omega, fun j hj1 => by
          by_cases hjk : j = k
          · subst hjk; rw [HF.out]; rfl
          · exact hj.out j (by omega), lb_trans hb.out hb1⟩
        case measure => simp [intOf]; omega
      | true =>
        by_cases hz : (text.length : Int) ≤ z
        · go_wp2_with (go_at_call 58; refine C.mono ?_; rintro e w1 ⟨rfl, hb1⟩)
          go_ret2
          have e := check_far HP.out hlt hj.out (by rw [HF.out]; simpa using hz)
          rw [e]
          exact ⟨rfl, lb_trans HBr.out hb1⟩
        · go_wp2_with (go_at_call 58; refine C.mono ?_; rintro e w1 ⟨rfl, hb1⟩)
          go_roundw
          case rel => exact ⟨k + 1, by go_num, by omega, fun j hj1 => by
            by_cases hjk : j = k
            · subst hjk; rw [HF.out]; simpa using hz
            · exact hj.out j (by omega), lb_trans hb.out hb1⟩
          case measure => simp [intOf]; omega
    · obtain rfl : k = text.length := by omega
      obtain ⟨a, rfl, q⟩ := (hT.keep HBr.out) (text.length - 1) (by omega)
      have hx := lb_box0 HX.out hb.out
      have x0 : wr.cell? ⟨w.heap.size, 0, none⟩ = some (.slice (some a) text.length c1) := by simp [World.cell?, hx]
      obtain ⟨hv0, hv1⟩ := hR (text.length - 1) (by omega)
      have C := leaves_any (nth text (text.length - 1)) hv0 hv1 wr
      have HE : Hid _ := check_end HP.out hj.out
      have hc : ((text.length - 1 : Nat) : Int) = (text.length : Int) - 1 := by omega
      generalize nth text (text.length - 1) = v at *
      generalize lastOK v = t at *
      cases t with
      | true =>
        go_wp2_with (go_at_call 59; refine C.mono ?_; rintro e w1 ⟨rfl, hb1⟩)
        go_ret2
        rw [HE.out]
        exact ⟨rfl, lb_trans HBr.out hb1⟩
      | false =>
        go_wp2_with (go_at_call 59; refine C.mono ?_; rintro e w1 ⟨rfl, hb1⟩)
        go_ret2
        rw [HE.out]
        exact ⟨by simp; omega, lb_trans HBr.out hb1⟩






end Go.Proofs.YtfnicgihpelhhaaGreat

namespace Go.Proofs.YtfnicgihpelhhaaGreat
open Go.RowKit

theorem hP_hN11 {op : Int} (h : hP op = true) : hN op = true := by
  unfold hP at h
  unfold hN
  rw [decide_eq_true_eq] at h ⊢
  omega
theorem isT_ins11 {v : Int} (h : isT v = true) : isIns v = true ∧ hP (dOp v) = true ∧ 0 ≤ dOp v := by
  unfold isT at h
  rw [Bool.and_eq_true, decide_eq_true_eq] at h
  refine ⟨?_, h.2, h.1⟩
  cases hi : isIns v
  · have : dOp v = -1 := by unfold dOp; rw [hi]; simp
    omega
  · rfl
theorem tg_pos {v : Int} (hT : isT v = true) : 0 ≤ tgV v ∧ tgV v < 16384 := by
  obtain ⟨hi, hP', h0⟩ := isT_ins11 hT
  have hd : dOp v = wOp v := by unfold dOp; rw [hi]; simp
  have hi2 := hi
  unfold isIns at hi2
  rw [Bool.and_eq_true] at hi2
  have hok := hi2.2
  unfold insOK numOK at hok
  rw [hd] at hP'
  simp only [Bool.and_eq_true, hP_hN11 hP', hP', if_true, decide_eq_true_iff] at hok
  have e : tgV v = wN v := by unfold tgV dN; rw [hT, hi]; simp
  rw [e]
  exact hok.2
/-- A Place has a target. -/
theorem place_tg {v : Int} (h : dOp v = 20) : isT v = true ∧ tgV v = dN v := by
  have hT : isT v = true := by
    unfold isT hP
    rw [h]
    rfl
  exact ⟨hT, by unfold tgV; rw [if_pos hT]⟩
theorem Mks.apart {w : World} {b n : Nat} {f : Int → Bool} (h : Mks w b n f) {p : Addr} {v : Value} (hc : w.cell? p = some v) : some p.block ≠ some b := by
  obtain ⟨D, ⟨es, clock, h1, h2⟩, h3⟩ := h
  intro e
  injection e with e
  rw [World.cell?] at hc
  rw [e, h1] at hc
  simp at hc
theorem Mks.cell {w w1 : World} {b n : Nat} {f : Int → Bool} (h : Mks w b n f) (hg : w.grownBy w1 (some b)) {p : Addr} {v : Value} (hc : w.cell? p = some v) : w1.cell? p = some v := hg.cell hc (h.apart hc)
theorem Mks.ints {w w1 : World} {b n : Nat} {f : Int → Bool} (h : Mks w b n f) (hg : w.grownBy w1 (some b)) {A : Option Addr} {K : IntKind} {zs : List Int} (hc : IntsAt w A K zs) : IntsAt w1 A K zs := fun i hi => by
  obtain ⟨a, e, c⟩ := hc i hi
  exact ⟨a, e, h.cell hg c⟩
theorem grown_of {w w1 : World} {row : Option Nat} (hb : Below w.heap.size w w1) : w.grownBy w1 row := ⟨hb.os, hb.tape, hb.output, hb.size, fun k hk _ => hb.block k hk⟩
theorem grown_on {w w1 w2 : World} {row : Option Nat} (h : w.grownBy w1 row) (hb : Below w1.heap.size w1 w2) : w.grownBy w2 row := h.trans (grown_of hb)
/-- An answer of what marks. -/
def MkP (b m : Nat) (F : Int → Bool) (w : World) (e : Ending) (w' : World) : Prop := e = .returned (.tuple #[]) ∧ Mks w' b m F ∧ w.grownBy w' (some b)
theorem gLab_yes {text : List Int} {k : Nat} (h : isT (nth text k) = true) : gLab text k = some (tgV (nth text k)) := by unfold gLab; rw [if_pos h]
theorem gLab_no {text : List Int} {k : Nat} (h : isT (nth text k) = false) : gLab text k = none := by unfold gLab; rw [if_neg (by simp [h])]
theorem gTak_yes {text : List Int} {k : Nat} (h : (dOp (nth text k) == 20) = true) : gTak text k = some (dN (nth text k)) := by unfold gTak; rw [if_pos h]
theorem gTak_no {text : List Int} {k : Nat} (h : (dOp (nth text k) == 20) = false) : gTak text k = none := by unfold gTak; rw [if_neg (by simp [h])]
theorem gSit_yes {text : List Int} {k : Nat} (h : (dOp (nth text k) == 17) = true ∨ (dOp (nth text k) == 18) = true) : gSit text k = some ((k : Int) + 1) := by unfold gSit; rw [if_pos h]
theorem gSit_no {text : List Int} {k : Nat} (h : (dOp (nth text k) == 17) = false) (h2 : (dOp (nth text k) == 18) = false) : gSit text k = none := by unfold gSit; rw [if_neg (by simp [h, h2])]
theorem gEnd_yes {text : List Int} {k : Nat} (h : endsB (dOp (nth text k)) = true) : gEnd text k = some ((k : Int) + 1) := by unfold gEnd; rw [if_pos h]
theorem gEnd_no {text : List Int} {k : Nat} (h : endsB (dOp (nth text k)) = false) : gEnd text k = none := by unfold gEnd; rw [if_neg (by simp [h])]



end Go.Proofs.YtfnicgihpelhhaaGreat

namespace Go.Proofs.YtfnicgihpelhhaaGreat
open Go.RowKit

/-- The places that are told: none, if the image may not be. -/
def outL (text : List Int) (ml : Nat) (ent : Int) (f : Int → Bool) : List Int := if (checkI text ml ent).1 = 0 then plcT f text.length else []
theorem outL_ok {text : List Int} {ml : Nat} {ent : Int} {f : Int → Bool} (h : (checkI text ml ent).1 = 0) : outL text ml ent f = plcT f text.length := if_pos h
theorem outL_no {text : List Int} {ml : Nat} {ent : Int} {f : Int → Bool} (h : ¬ (checkI text ml ent).1 = 0) : outL text ml ent f = [] := if_neg h
def GatP (E : Int) (ps : List Int) (w : World) (e : Ending) (w' : World) : Prop :=
  ∃ (A : Option Addr) (c : Nat), e = .returned (.tuple #[.slice A ps.length c, .int .i64 E]) ∧ w'.ownsRow w.heap.size 3 1 (.slice A ps.length c) ps.length (iVals .i64 ps) ∧ Below w.heap.size w w'
theorem gat_no {text : List Int} {ml : Nat} {ent : Int} {f : Int → Bool} (h : ¬ (checkI text ml ent).1 = 0) {w w' : World} (hb : Below w.heap.size w w') : GatP (checkI text ml ent).1 (outL text ml ent f) w (.returned (.tuple #[.slice none 0 0, .int .i64 (checkI text ml ent).1])) w' := by
  rw [outL_no h]
  exact ⟨none, 0, rfl, World.ownsRow_nil _ _ _ _, hb⟩
theorem infoI : ∃ i, Tryz.prog.info? 3 = some i ∧ i.zero = some (.int .i64 0) ∧ i.size = 1 ∧ i.bytes = 8 :=
  ⟨(Tryz.prog.info? 3).get (by kernel_rfl), by kernel_rfl, by kernel_rfl, by kernel_rfl, by kernel_rfl⟩
theorem one_oneI {x : Int} : ∀ u ∈ [Value.int .i64 x], u.oneCell' = true := fun u hu => by
  simp only [List.mem_cons, List.not_mem_nil, or_false] at hu
  rw [hu]; rfl
theorem own_sl {w : World} {b n : Nat} {e : TypeId} {sz : Nat} {v : Value} {xs : List Value} (h : w.ownsRow b e sz v n xs) : ∃ A c, v = .slice A n c := own_form h
/-- A row stays where a map is written. -/
theorem row_map {w w1 : World} {base : Nat} {e : TypeId} {sz : Nat} {v : Value} {n : Nat} {xs : List Value} {b : Nat} (h : w.ownsRow base e sz v n xs) (hg : w.grownBy w1 (some b)) (hb : ∀ cs t, w.heap[b]? ≠ some (.cells cs t (0, 0))) : w1.ownsRow base e sz v n xs := by
  refine h.kept hg ?_
  rcases h.2 with ⟨rfl, _⟩ | ⟨g, cap, cur, rfl, _, hg2, _⟩
  · exact .inl rfl
  · refine .inr fun e => ?_
    cases e
    exact hb _ _ hg2



end Go.Proofs.YtfnicgihpelhhaaGreat

namespace Go.Proofs.YtfnicgihpelhhaaGreat
open Go.RowKit

def goesF (op n : Int) (next : Bool) (place : Int) (known : Bool) : Bool :=
  if op = -1 ∨ op = 0 ∨ op = 21 then false else if op = 15 ∨ op = 17 then (n == place) else if op = 16 then (n == place || next) else if op = 18 ∨ op = 19 then known else next
/-- The last word of a block. -/
def lastW (text : List Int) (ent : Int) (i : Nat) : Int := nth text (rSym (blkL text ent) i - 1).toNat
/-- May control go from the block i to the block k? -/
def edgB (text : List Int) (ent : Int) (i k : Nat) : Bool := goesF (dOp (lastW text ent i)) (dN (lastW text ent i)) ((k : Int) == (i : Int) + 1) (rAt (blkL text ent) k) (takF text (rAt (blkL text ent) k) || sitF text (rAt (blkL text ent) k))
def edgR (text : List Int) (ent : Int) (i : Nat) (y : Int) : Bool := edgB text ent i y.toNat
def edgT (text : List Int) (ent : Int) (k : Nat) : List (List Int) := (List.range k).map fun i => plcT (edgR text ent i) (blkL text ent).length
theorem edgT_succ (text : List Int) (ent : Int) (k : Nat) : edgT text ent (k + 1) = edgT text ent k ++ [plcT (edgR text ent k) (blkL text ent).length] := by simp [edgT, List.range_succ]
theorem edgT_len (text : List Int) (ent : Int) (k : Nat) : (edgT text ent k).length = k := by simp [edgT]
/-- What a block of an image that may be is. -/
theorem blk_len_le (text : List Int) (ent : Int) : (blkL text ent).length ≤ text.length := by
  have := plcT_len (begF text ent) text.length
  unfold blkL
  rw [zipN_len]
  omega
theorem blk_in {text : List Int} {ent : Int} {k : Nat} (hk : k < (blkL text ent).length) : 0 ≤ rAt (blkL text ent) k ∧ rAt (blkL text ent) k < rSym (blkL text ent) k ∧ rSym (blkL text ent) k ≤ (text.length : Int) := by
  have hk2 : k < (plcT (begF text ent) text.length).length := by rw [← blkN_len]; exact hk
  have h1 := blk_from (f := begF text ent) (n := text.length) hk2
  have h2 := blk_wide (f := begF text ent) (n := text.length) hk2
  have h3 := blk_to (f := begF text ent) (n := text.length) hk2
  have h4 := plcT_mem.1 (nth_mem hk2)
  have e : blkN (begF text ent) text.length = blkL text ent := rfl
  rw [e] at h1 h2 h3
  refine ⟨by rw [h1]; exact h4.1, h2, ?_⟩
  rw [h3]
  split
  · next h => have := (plcT_mem.1 (nth_mem h)).2.1; omega
  · exact Int.le_refl _



end Go.Proofs.YtfnicgihpelhhaaGreat
