/-
  Lists of lists of numbers, how they lie in memory. Where control can go, plain. leaves and Check of package image, by what they return; each word is of 32 bits.
-/
import Derived.Test.YtfnicgihpelhhaaGreatProg
import Derived.WalkKit
import Derived.WalkSpells
import Derived.WalkLawsBesides
import Derived.RowKit3
import Derived.Below
import Derived.Deep.QuietTactic
import Derived.BigQuiet
import Derived.WalkSmall
import Derived.Laws.Rows
import Derived.Deep.AppendLies
import Derived.Test.YtfnicgihpelhhaaGreatPl12
import Derived.Test.YtfnicgihpelhhaaGreatPl05
import Derived.Test.YtfnicgihpelhhaaGreatPl04
import Derived.Test.YtfnicgihpelhhaaGreatPl11
namespace Go.Proofs.YtfnicgihpelhhaaGreat
open Go.RowKit

def rowZ (L : List (List Int)) (i : Nat) : List Int := L.getD i []
/-- A list of lists of its own: each row a block of its own behind base. -/
structure RowsZ (w : World) (base : Nat) (V : Value) (vs : List Value) (L : List (List Int)) : Prop where
  bag : w.ownsRow base 72 1 V L.length vs
  row : ∀ i, i < L.length → w.ownsRow base 3 1 (vn vs i) (rowZ L i).length (iVals .i64 (rowZ L i))
/-- A list of lists, to be read. -/
def IntsZ (w : World) (A : Option Addr) (L : List (List Int)) : Prop := ∀ i, i < L.length → ∃ (a : Addr) (R : Option Addr) (k : Nat), A = some a ∧ w.cell? (a.add i) = some (.slice R (rowZ L i).length k) ∧ IntsAt w R .i64 (rowZ L i)
theorem IntsZ.keep {w w1 : World} {A : Option Addr} {L : List (List Int)} (h : IntsZ w A L) (hb : Below w.heap.size w w1) : IntsZ w1 A L := fun i hi => by
  obtain ⟨a, R, k, e, c, r⟩ := h i hi
  exact ⟨a, R, k, e, lkeep hb c, r.keep hb⟩
theorem RowsZ.nil (w : World) (base : Nat) : RowsZ w base (.slice none 0 0) [] [] := ⟨World.ownsRow_nil _ _ _ _, fun _i hi => absurd hi (Nat.not_lt_zero _)⟩
theorem RowsZ.keep {w w1 : World} {base : Nat} {V : Value} {vs : List Value} {L : List (List Int)} (h : RowsZ w base V vs L) (hb : Below w.heap.size w w1) : RowsZ w1 base V vs L := ⟨row_keep h.bag hb, fun i hi => row_keep (h.row i hi) hb⟩
theorem RowsZ.mono {w : World} {base b' : Nat} {V : Value} {vs : List Value} {L : List (List Int)} (h : RowsZ w base V vs L) (hb : b' ≤ base) : RowsZ w b' V vs L := ⟨ownsRow_mono h.bag hb, fun i hi => ownsRow_mono (h.row i hi) hb⟩
theorem RowsZ.len {w : World} {base : Nat} {V : Value} {vs : List Value} {L : List (List Int)} (h : RowsZ w base V vs L) : vs.length = L.length := by have := h.bag.1; omega
theorem row_other {w w1 : World} {b b2 : Nat} {e e2 : TypeId} {sz sz2 n n2 : Nat} {v v2 : Value} {xs xs2 : List Value} (h : w.ownsRow b e sz v n xs) (h2 : w.ownsRow b2 e2 sz2 v2 n2 xs2) (hne : e ≠ e2) (hg : w.grownBy w1 v2.ownBlock) : w1.ownsRow b e sz v n xs := by
  refine h.kept hg ?_
  rcases h.2 with ⟨rfl, _⟩ | ⟨g, cap, cur, rfl, _, hg1, _⟩
  · exact .inl rfl
  · refine .inr fun e => ?_
    rcases h2.2 with ⟨rfl, _⟩ | ⟨g2, cap2, cur2, rfl, _, hg2, _⟩
    · cases e
    · cases e
      rw [hg1] at hg2
      injection hg2 with hg2
      injection hg2 with _ hh
      exact hne hh
/-- One row more. -/
theorem RowsZ.add {w w1 : World} {base : Nat} {V V1 r : Value} {vs : List Value} {L : List (List Int)} {l : List Int} (h : RowsZ w base V vs L) (hr : w.ownsRow base 3 1 r l.length (iVals .i64 l)) (h1 : w1.ownsRow base 72 1 V1 (L.length + 1) (vs ++ [r])) (hg : w.grownBy w1 V.ownBlock) : RowsZ w1 base V1 (vs ++ [r]) (L ++ [l]) := by
  refine ⟨by simpa using h1, fun i hi => ?_⟩
  have hl := h.len
  by_cases he : i < L.length
  · have a : vn (vs ++ [r]) i = vn vs i := vn_old vs r i (by omega)
    have b : rowZ (L ++ [l]) i = rowZ L i := by
      unfold rowZ
      rw [List.getD_eq_getElem?_getD, List.getD_eq_getElem?_getD, List.getElem?_append_left he]
    rw [a, b]
    exact row_other (h.row i he) h.bag (by decide) hg
  · have hi' : i = L.length := by simp at hi; omega
    subst hi'
    have a : vn (vs ++ [r]) L.length = r := by rw [← hl]; exact vn_last vs r
    have b : rowZ (L ++ [l]) L.length = l := by simp [rowZ]
    rw [a, b]
    exact row_other hr h.bag (by decide) hg
theorem RowsZ.row_other {w w1 : World} {base : Nat} {V : Value} {vs : List Value} {L : List (List Int)} {b n : Nat} {v : Value} {xs : List Value} (h : RowsZ w base V vs L) (hv : w.ownsRow b 3 1 v n xs) (hoff : ∀ i, i < L.length → ∀ k, (vn vs i).ownBlock = some k → v.ownBlock ≠ some k) (hg : w.grownBy w1 v.ownBlock) : RowsZ w1 base V vs L :=
  ⟨Go.Proofs.YtfnicgihpelhhaaGreat.row_other h.bag hv (by decide) hg, fun i hi => by
    refine (h.row i hi).kept hg ?_
    cases hk : (vn vs i).ownBlock with
    | none => exact .inl rfl
    | some k => exact .inr fun e => hoff i hi k hk e.symm⟩
theorem RowsZ.ints {w : World} {base c n : Nat} {A : Option Addr} {vs : List Value} {L : List (List Int)} (h : RowsZ w base (.slice A n c) vs L) : IntsZ w A L := fun i hi => by
  obtain ⟨R, k, e⟩ := own_form (h.row i hi)
  have hr := h.row i hi
  rw [e] at hr
  rcases h.bag.2 with ⟨_, h0⟩ | ⟨j, cap, cur, hv, hb, hg, hc, _⟩
  · omega
  · cases hv
    have hl := h.len
    refine ⟨_, R, k, rfl, ?_, row_ints hr⟩
    refine h.bag.cells rfl i _ ?_
    rw [← e]
    unfold vn
    rw [List.getD_eq_getElem?_getD, List.getElem?_eq_getElem (by omega)]
    rfl
theorem infoS : ∃ i, Tryz.prog.info? 72 = some i ∧ i.zero = some (.slice none 0 0) ∧ i.size = 1 ∧ i.bytes = 24 :=
  ⟨(Tryz.prog.info? 72).get (by kernel_rfl), by kernel_rfl, by kernel_rfl, by kernel_rfl, by kernel_rfl⟩
theorem one_slice {A : Option Addr} {n c : Nat} : ∀ u ∈ [Value.slice A n c], u.oneCell' = true := fun u hu => by
  simp only [List.mem_cons, List.not_mem_nil, or_false] at hu
  rw [hu]; rfl
theorem rowZ_map {f : Nat → List Int} {n i : Nat} (h : i < n) : rowZ ((List.range n).map f) i = f i := by simp [rowZ, h]
def hasZ (l : List Int) (x : Int) : Bool := decide (x ∈ l)
/-- Edges turned round. -/
def backR (L : List (List Int)) (k : Nat) (y : Int) : Bool := hasZ (rowZ L y.toNat) (k : Int)
def backT (L : List (List Int)) (k : Nat) : List (List Int) := (List.range k).map fun j => plcT (backR L j) L.length
theorem backT_succ (L : List (List Int)) (k : Nat) : backT L (k + 1) = backT L k ++ [plcT (backR L k) L.length] := by simp [backT, List.range_succ]
theorem backT_len (L : List (List Int)) (k : Nat) : (backT L k).length = k := by simp [backT]
/-- An answer that is a list of lists. -/
def ZP (L : List (List Int)) (w : World) (e : Ending) (w' : World) : Prop := ∃ (A : Option Addr) (c : Nat) (vs : List Value), e = .returned (.slice A L.length c) ∧ RowsZ w' w.heap.size (.slice A L.length c) vs L ∧ Below w.heap.size w w'



end Go.Proofs.YtfnicgihpelhhaaGreat

namespace Go.Proofs.YtfnicgihpelhhaaGreat
open Go.RowKit

def goesF (op n : Int) (next : Bool) (place : Int) (known : Bool) : Bool :=
  if op = -1 ∨ op = 0 ∨ op = 21 then false else if op = 15 ∨ op = 17 then (n == place) else if op = 16 then (n == place || next) else if op = 18 ∨ op = 19 then known else next
/-- The last word of a block. -/
def lastW (text : List Int) (ent : Int) (i : Nat) : Int := nth text (rSym (blkL text ent) i - 1).toNat
/-- May control go from the block i to the block k? -/
def edgB (text : List Int) (ent : Int) (i k : Nat) : Bool := goesF (dOp (lastW text ent i)) (dN (lastW text ent i)) ((k : Int) == (i : Int) + 1) (rAt (blkL text ent) k) (takF text (rAt (blkL text ent) k) || sitF text (rAt (blkL text ent) k))
def edgR (text : List Int) (ent : Int) (i : Nat) (y : Int) : Bool := edgB text ent i y.toNat
def edgT (text : List Int) (ent : Int) (k : Nat) : List (List Int) := (List.range k).map fun i => plcT (edgR text ent i) (blkL text ent).length
theorem edgT_succ (text : List Int) (ent : Int) (k : Nat) : edgT text ent (k + 1) = edgT text ent k ++ [plcT (edgR text ent k) (blkL text ent).length] := by simp [edgT, List.range_succ]
theorem edgT_len (text : List Int) (ent : Int) (k : Nat) : (edgT text ent k).length = k := by simp [edgT]
/-- What a block of an image that may be is. -/
theorem blk_len_le (text : List Int) (ent : Int) : (blkL text ent).length ≤ text.length := by
  have := plcT_len (begF text ent) text.length
  unfold blkL
  rw [zipN_len]
  omega
theorem blk_in {text : List Int} {ent : Int} {k : Nat} (hk : k < (blkL text ent).length) : 0 ≤ rAt (blkL text ent) k ∧ rAt (blkL text ent) k < rSym (blkL text ent) k ∧ rSym (blkL text ent) k ≤ (text.length : Int) := by
  have hk2 : k < (plcT (begF text ent) text.length).length := by rw [← blkN_len]; exact hk
  have h1 := blk_from (f := begF text ent) (n := text.length) hk2
  have h2 := blk_wide (f := begF text ent) (n := text.length) hk2
  have h3 := blk_to (f := begF text ent) (n := text.length) hk2
  have h4 := plcT_mem.1 (nth_mem hk2)
  have e : blkN (begF text ent) text.length = blkL text ent := rfl
  rw [e] at h1 h2 h3
  refine ⟨by rw [h1]; exact h4.1, h2, ?_⟩
  rw [h3]
  split
  · next h => have := (plcT_mem.1 (nth_mem h)).2.1; omega
  · exact Int.le_refl _



end Go.Proofs.YtfnicgihpelhhaaGreat

namespace Go.Proofs.YtfnicgihpelhhaaGreat
open Go.RowKit

theorem leaves_any (v : Int) (h0 : 0 ≤ v) (h1 : v < 4294967296) (w : World) : Calls Tryz.prog 59 #[.int .u32 v] w fun e w' => e = .returned (.bool (lastOK v)) ∧ Below w.heap.size w w' := by
  have C := isadecode_any v h0 h1 w
  unfold lastOK
  generalize dOp v = x at *
  generalize dD v = x1 at *
  generalize dA v = x2 at *
  generalize dB v = x3 at *
  generalize dN v = x4 at *
  go_enter Tryz.func59, Tryz.ntmps59
  go_wp2_with fail
  refine C.mono ?_
  rintro e w1 ⟨rfl, hb⟩
  clear C
  go_wp2
  all_goals (
    go_ret
    refine ⟨retB ?_, hb⟩
    simp_all)
theorem lb_box0 {w w1 : World} {B : Nat} {cs : Array Value} {t : TypeId} (h : w.heap[B]? = some (.cells cs t (0, 0))) (hb : Below w.heap.size w w1) : w1.heap[B]? = some (.cells cs t (0, 0)) := by
  rw [hb.block B (Array.getElem?_eq_some_iff.1 h).1]; exact h
def ChkP (E N : Int) (w : World) (e : Ending) (w' : World) : Prop := e = .returned (.tuple #[.int .i64 E, .int .i64 N]) ∧ Below w.heap.size w w'
set_option maxRecDepth 100000 in
set_option maxHeartbeats 1000000 in
theorem check_any (A1 A2 : Option Addr) (c1 ml c2 : Nat) (ent : Int) (text : List Int) (w : World) (hT : IntsAt w A1 .u32 text) (hR : ∀ i, i < text.length → 0 ≤ nth text i ∧ nth text i < 4294967296) (hl : text.length ≤ 1048576) (hm : ml ≤ 1048576) :
    Calls Tryz.prog 35 #[.agg #[.slice A1 text.length c1, .int .i64 ent, .slice A2 ml c2]] w (ChkP (checkI text ml ent).1 (checkI text ml ent).2 w) := by
  by_cases h0 : text.length = 0
  · rw [check0 h0, h0]
    go_enter Tryz.func35, Tryz.ntmps35
    go_wp2
    go_ret2
    exact ⟨rfl, lb_alloc (Below.refl _ _) _⟩
  have n0 : ((text.length : Int) == 0) = false := by simpa using h0
  by_cases h1 : 16384 < text.length
  · rw [check1 h0 h1]
    go_enter Tryz.func35, Tryz.ntmps35
    go_wp2
    go_ret2
    exact ⟨rfl, lb_alloc (Below.refl _ _) _⟩
  by_cases h2 : 4096 < ml
  · rw [check2 h0 h1 h2]
    go_enter Tryz.func35, Tryz.ntmps35
    go_wp2
    go_ret2
    exact ⟨rfl, lb_alloc (Below.refl _ _) _⟩
  by_cases h3 : ent < 0
  · rw [check3 h0 h1 h2 (.inl h3)]
    go_enter Tryz.func35, Tryz.ntmps35
    go_wp2
    go_ret2
    exact ⟨rfl, lb_alloc (Below.refl _ _) _⟩
  by_cases h4 : (text.length : Int) ≤ ent
  · rw [check3 h0 h1 h2 (.inr h4)]
    go_enter Tryz.func35, Tryz.ntmps35
    go_wp2
    go_ret2
    exact ⟨rfl, lb_alloc (Below.refl _ _) _⟩
  have HP : Hid (Past text ml ent) := ⟨by omega, by omega, by omega, by omega, by omega⟩
  have HB0 : Hid (Below w.heap.size w (w.alloc (.cells #[.slice A1 text.length c1, .int .i64 ent, .slice A2 ml c2] 25))) := lb_alloc (Below.refl _ _) _
  have HX : Hid ((w.alloc (.cells #[.slice A1 text.length c1, .int .i64 ent, .slice A2 ml c2] 25)).heap[w.heap.size]? = some (.cells #[.slice A1 text.length c1, .int .i64 ent, .slice A2 ml c2] 25 (0, 0))) := heap_alloc_new _ _
  have HS : Hid (∀ i, i < text.length → ∃ a : Addr, A1 = some a) := fun i hi => (hT i hi).imp fun a h => h.1
  clear h1 h2 h3 h4
  have hlen : text.length ≤ 16384 := HP.out.len
  have hml := HP.out.mem
  have hpos := HP.out.pos
  have he0 := HP.out.ent0
  have he1 := HP.out.ent1
  go_enter Tryz.func35, Tryz.ntmps35
  go_wp2
  go_loopw [37] (fun i wr => ∃ k : Nat, i = .int .i64 k ∧ k ≤ text.length ∧ Hid (∀ j, j < k → farT text j = false) ∧ Hid (Below (w.alloc (.cells #[.slice A1 text.length c1, .int .i64 ent, .slice A2 ml c2] 25)).heap.size (w.alloc (.cells #[.slice A1 text.length c1, .int .i64 ent, .slice A2 ml c2] 25)) wr)) (fun i _ => text.length - (intOf i).toNat)
  case atStart => exact ⟨0, rfl, by omega, fun j hj => by omega, Below.refl _ _⟩
  case round =>
    obtain ⟨k, rfl, hk, hj, hb⟩ := hrel
    have HBr : Hid (Below w.heap.size w wr) := lb_trans HB0.out hb.out
    by_cases hlt : k < text.length
    · obtain ⟨a, rfl, q⟩ := (hT.keep HBr.out) k hlt
      obtain ⟨hv0, hv1⟩ := hR k hlt
      have C := isatarget_any (nth text k) hv0 hv1 wr
      have HF : Hid (farT text k = (isT (nth text k) && decide ((text.length : Int) ≤ tgV (nth text k)))) := rfl
      generalize nth text k = v at *
      generalize isT v = t at *
      generalize tgV v = z at *
      cases t with
      | false =>
        go_wp2_with (go_at_call 58; refine C.mono ?_; rintro e w1 ⟨rfl, hb1⟩)
        go_roundw
        case rel => exact ⟨k + 1, by go_num, by omega, fun j hj1 => by
          by_cases hjk : j = k
          · subst hjk; rw [HF.out]; rfl
          · exact hj.out j (by omega), lb_trans hb.out hb1⟩
        case measure => simp [intOf]; omega
      | true =>
        by_cases hz : (text.length : Int) ≤ z
        · go_wp2_with (go_at_call 58; refine C.mono ?_; rintro e w1 ⟨rfl, hb1⟩)
          go_ret2
          have e := check_far HP.out hlt hj.out (by rw [HF.out]; simpa using hz)
          rw [e]
          exact ⟨rfl, lb_trans HBr.out hb1⟩
        · go_wp2_with (go_at_call 58; refine C.mono ?_; rintro e w1 ⟨rfl, hb1⟩)
          go_roundw
          case rel => exact ⟨k + 1, by go_num, by omega, fun j hj1 => by
            by_cases hjk : j = k
            · subst hjk; rw [HF.out]; simpa using hz
            · exact hj.out j (by omega), lb_trans hb.out hb1⟩
          case measure => simp [intOf]; omega
    · obtain rfl : k = text.length := by omega
      obtain ⟨a, rfl, q⟩ := (hT.keep HBr.out) (text.length - 1) (by omega)
      have hx := lb_box0 HX.out hb.out
      have x0 : wr.cell? ⟨w.heap.size, 0, none⟩ = some (.slice (some a) text.length c1) := by simp [World.cell?, hx]
      obtain ⟨hv0, hv1⟩ := hR (text.length - 1) (by omega)
      have C := leaves_any (nth text (text.length - 1)) hv0 hv1 wr
      have HE : Hid _ := check_end HP.out hj.out
      have hc : ((text.length - 1 : Nat) : Int) = (text.length : Int) - 1 := by omega
      generalize nth text (text.length - 1) = v at *
      generalize lastOK v = t at *
      cases t with
      | true =>
        go_wp2_with (go_at_call 59; refine C.mono ?_; rintro e w1 ⟨rfl, hb1⟩)
        go_ret2
        rw [HE.out]
        exact ⟨rfl, lb_trans HBr.out hb1⟩
      | false =>
        go_wp2_with (go_at_call 59; refine C.mono ?_; rintro e w1 ⟨rfl, hb1⟩)
        go_ret2
        rw [HE.out]
        exact ⟨by simp; omega, lb_trans HBr.out hb1⟩






end Go.Proofs.YtfnicgihpelhhaaGreat
