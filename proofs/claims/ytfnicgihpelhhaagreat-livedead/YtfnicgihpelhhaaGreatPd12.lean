/-
  Lists of lists of numbers, how they lie in memory. Where control can go, plain. A row of bools in memory; what the document marks. What can be reached, plain; how it is counted.
-/
import Derived.Test.YtfnicgihpelhhaaGreatProg
import Derived.WalkKit
import Derived.WalkSpells
import Derived.WalkLawsBesides
import Derived.RowKit3
import Derived.Below
import Derived.Deep.QuietTactic
import Derived.BigQuiet
import Derived.WalkSmall
import Derived.Laws.Rows
import Derived.Deep.AppendLies
import Derived.Test.YtfnicgihpelhhaaGreatPd11
import Derived.Test.YtfnicgihpelhhaaGreatPd10
import Derived.Test.YtfnicgihpelhhaaGreatPd04
namespace Go.Proofs.YtfnicgihpelhhaaGreat
open Go.RowKit

def rowZ (L : List (List Int)) (i : Nat) : List Int := L.getD i []
/-- A list of lists of its own: each row a block of its own behind base. -/
structure RowsZ (w : World) (base : Nat) (V : Value) (vs : List Value) (L : List (List Int)) : Prop where
  bag : w.ownsRow base 72 1 V L.length vs
  row : ∀ i, i < L.length → w.ownsRow base 3 1 (vn vs i) (rowZ L i).length (iVals .i64 (rowZ L i))
/-- A list of lists, to be read. -/
def IntsZ (w : World) (A : Option Addr) (L : List (List Int)) : Prop := ∀ i, i < L.length → ∃ (a : Addr) (R : Option Addr) (k : Nat), A = some a ∧ w.cell? (a.add i) = some (.slice R (rowZ L i).length k) ∧ IntsAt w R .i64 (rowZ L i)
theorem IntsZ.keep {w w1 : World} {A : Option Addr} {L : List (List Int)} (h : IntsZ w A L) (hb : Below w.heap.size w w1) : IntsZ w1 A L := fun i hi => by
  obtain ⟨a, R, k, e, c, r⟩ := h i hi
  exact ⟨a, R, k, e, lkeep hb c, r.keep hb⟩
theorem RowsZ.nil (w : World) (base : Nat) : RowsZ w base (.slice none 0 0) [] [] := ⟨World.ownsRow_nil _ _ _ _, fun _i hi => absurd hi (Nat.not_lt_zero _)⟩
theorem RowsZ.keep {w w1 : World} {base : Nat} {V : Value} {vs : List Value} {L : List (List Int)} (h : RowsZ w base V vs L) (hb : Below w.heap.size w w1) : RowsZ w1 base V vs L := ⟨row_keep h.bag hb, fun i hi => row_keep (h.row i hi) hb⟩
theorem RowsZ.mono {w : World} {base b' : Nat} {V : Value} {vs : List Value} {L : List (List Int)} (h : RowsZ w base V vs L) (hb : b' ≤ base) : RowsZ w b' V vs L := ⟨ownsRow_mono h.bag hb, fun i hi => ownsRow_mono (h.row i hi) hb⟩
theorem RowsZ.len {w : World} {base : Nat} {V : Value} {vs : List Value} {L : List (List Int)} (h : RowsZ w base V vs L) : vs.length = L.length := by have := h.bag.1; omega
theorem row_other {w w1 : World} {b b2 : Nat} {e e2 : TypeId} {sz sz2 n n2 : Nat} {v v2 : Value} {xs xs2 : List Value} (h : w.ownsRow b e sz v n xs) (h2 : w.ownsRow b2 e2 sz2 v2 n2 xs2) (hne : e ≠ e2) (hg : w.grownBy w1 v2.ownBlock) : w1.ownsRow b e sz v n xs := by
  refine h.kept hg ?_
  rcases h.2 with ⟨rfl, _⟩ | ⟨g, cap, cur, rfl, _, hg1, _⟩
  · exact .inl rfl
  · refine .inr fun e => ?_
    rcases h2.2 with ⟨rfl, _⟩ | ⟨g2, cap2, cur2, rfl, _, hg2, _⟩
    · cases e
    · cases e
      rw [hg1] at hg2
      injection hg2 with hg2
      injection hg2 with _ hh
      exact hne hh
/-- One row more. -/
theorem RowsZ.add {w w1 : World} {base : Nat} {V V1 r : Value} {vs : List Value} {L : List (List Int)} {l : List Int} (h : RowsZ w base V vs L) (hr : w.ownsRow base 3 1 r l.length (iVals .i64 l)) (h1 : w1.ownsRow base 72 1 V1 (L.length + 1) (vs ++ [r])) (hg : w.grownBy w1 V.ownBlock) : RowsZ w1 base V1 (vs ++ [r]) (L ++ [l]) := by
  refine ⟨by simpa using h1, fun i hi => ?_⟩
  have hl := h.len
  by_cases he : i < L.length
  · have a : vn (vs ++ [r]) i = vn vs i := vn_old vs r i (by omega)
    have b : rowZ (L ++ [l]) i = rowZ L i := by
      unfold rowZ
      rw [List.getD_eq_getElem?_getD, List.getD_eq_getElem?_getD, List.getElem?_append_left he]
    rw [a, b]
    exact row_other (h.row i he) h.bag (by decide) hg
  · have hi' : i = L.length := by simp at hi; omega
    subst hi'
    have a : vn (vs ++ [r]) L.length = r := by rw [← hl]; exact vn_last vs r
    have b : rowZ (L ++ [l]) L.length = l := by simp [rowZ]
    rw [a, b]
    exact row_other hr h.bag (by decide) hg
theorem RowsZ.row_other {w w1 : World} {base : Nat} {V : Value} {vs : List Value} {L : List (List Int)} {b n : Nat} {v : Value} {xs : List Value} (h : RowsZ w base V vs L) (hv : w.ownsRow b 3 1 v n xs) (hoff : ∀ i, i < L.length → ∀ k, (vn vs i).ownBlock = some k → v.ownBlock ≠ some k) (hg : w.grownBy w1 v.ownBlock) : RowsZ w1 base V vs L :=
  ⟨Go.Proofs.YtfnicgihpelhhaaGreat.row_other h.bag hv (by decide) hg, fun i hi => by
    refine (h.row i hi).kept hg ?_
    cases hk : (vn vs i).ownBlock with
    | none => exact .inl rfl
    | some k => exact .inr fun e => hoff i hi k hk e.symm⟩
theorem RowsZ.ints {w : World} {base c n : Nat} {A : Option Addr} {vs : List Value} {L : List (List Int)} (h : RowsZ w base (.slice A n c) vs L) : IntsZ w A L := fun i hi => by
  obtain ⟨R, k, e⟩ := own_form (h.row i hi)
  have hr := h.row i hi
  rw [e] at hr
  rcases h.bag.2 with ⟨_, h0⟩ | ⟨j, cap, cur, hv, hb, hg, hc, _⟩
  · omega
  · cases hv
    have hl := h.len
    refine ⟨_, R, k, rfl, ?_, row_ints hr⟩
    refine h.bag.cells rfl i _ ?_
    rw [← e]
    unfold vn
    rw [List.getD_eq_getElem?_getD, List.getElem?_eq_getElem (by omega)]
    rfl
theorem infoS : ∃ i, Tryz.prog.info? 72 = some i ∧ i.zero = some (.slice none 0 0) ∧ i.size = 1 ∧ i.bytes = 24 :=
  ⟨(Tryz.prog.info? 72).get (by kernel_rfl), by kernel_rfl, by kernel_rfl, by kernel_rfl, by kernel_rfl⟩
theorem one_slice {A : Option Addr} {n c : Nat} : ∀ u ∈ [Value.slice A n c], u.oneCell' = true := fun u hu => by
  simp only [List.mem_cons, List.not_mem_nil, or_false] at hu
  rw [hu]; rfl
theorem rowZ_map {f : Nat → List Int} {n i : Nat} (h : i < n) : rowZ ((List.range n).map f) i = f i := by simp [rowZ, h]
def hasZ (l : List Int) (x : Int) : Bool := decide (x ∈ l)
/-- Edges turned round. -/
def backR (L : List (List Int)) (k : Nat) (y : Int) : Bool := hasZ (rowZ L y.toNat) (k : Int)
def backT (L : List (List Int)) (k : Nat) : List (List Int) := (List.range k).map fun j => plcT (backR L j) L.length
theorem backT_succ (L : List (List Int)) (k : Nat) : backT L (k + 1) = backT L k ++ [plcT (backR L k) L.length] := by simp [backT, List.range_succ]
theorem backT_len (L : List (List Int)) (k : Nat) : (backT L k).length = k := by simp [backT]
/-- An answer that is a list of lists. -/
def ZP (L : List (List Int)) (w : World) (e : Ending) (w' : World) : Prop := ∃ (A : Option Addr) (c : Nat) (vs : List Value), e = .returned (.slice A L.length c) ∧ RowsZ w' w.heap.size (.slice A L.length c) vs L ∧ Below w.heap.size w w'



end Go.Proofs.YtfnicgihpelhhaaGreat

namespace Go.Proofs.YtfnicgihpelhhaaGreat
open Go.RowKit

def goesF (op n : Int) (next : Bool) (place : Int) (known : Bool) : Bool :=
  if op = -1 ∨ op = 0 ∨ op = 21 then false else if op = 15 ∨ op = 17 then (n == place) else if op = 16 then (n == place || next) else if op = 18 ∨ op = 19 then known else next
/-- The last word of a block. -/
def lastW (text : List Int) (ent : Int) (i : Nat) : Int := nth text (rSym (blkL text ent) i - 1).toNat
/-- May control go from the block i to the block k? -/
def edgB (text : List Int) (ent : Int) (i k : Nat) : Bool := goesF (dOp (lastW text ent i)) (dN (lastW text ent i)) ((k : Int) == (i : Int) + 1) (rAt (blkL text ent) k) (takF text (rAt (blkL text ent) k) || sitF text (rAt (blkL text ent) k))
def edgR (text : List Int) (ent : Int) (i : Nat) (y : Int) : Bool := edgB text ent i y.toNat
def edgT (text : List Int) (ent : Int) (k : Nat) : List (List Int) := (List.range k).map fun i => plcT (edgR text ent i) (blkL text ent).length
theorem edgT_succ (text : List Int) (ent : Int) (k : Nat) : edgT text ent (k + 1) = edgT text ent k ++ [plcT (edgR text ent k) (blkL text ent).length] := by simp [edgT, List.range_succ]
theorem edgT_len (text : List Int) (ent : Int) (k : Nat) : (edgT text ent k).length = k := by simp [edgT]
/-- What a block of an image that may be is. -/
theorem blk_len_le (text : List Int) (ent : Int) : (blkL text ent).length ≤ text.length := by
  have := plcT_len (begF text ent) text.length
  unfold blkL
  rw [zipN_len]
  omega
theorem blk_in {text : List Int} {ent : Int} {k : Nat} (hk : k < (blkL text ent).length) : 0 ≤ rAt (blkL text ent) k ∧ rAt (blkL text ent) k < rSym (blkL text ent) k ∧ rSym (blkL text ent) k ≤ (text.length : Int) := by
  have hk2 : k < (plcT (begF text ent) text.length).length := by rw [← blkN_len]; exact hk
  have h1 := blk_from (f := begF text ent) (n := text.length) hk2
  have h2 := blk_wide (f := begF text ent) (n := text.length) hk2
  have h3 := blk_to (f := begF text ent) (n := text.length) hk2
  have h4 := plcT_mem.1 (nth_mem hk2)
  have e : blkN (begF text ent) text.length = blkL text ent := rfl
  rw [e] at h1 h2 h3
  refine ⟨by rw [h1]; exact h4.1, h2, ?_⟩
  rw [h3]
  split
  · next h => have := (plcT_mem.1 (nth_mem h)).2.1; omega
  · exact Int.le_refl _



end Go.Proofs.YtfnicgihpelhhaaGreat

namespace Go.Proofs.YtfnicgihpelhhaaGreat
open Go.RowKit

/-- A row of bools, each as a function tells. -/
def BlsAt (w : World) (g n : Nat) (F : Int → Bool) : Prop := ∃ cs : Array Value, w.heap[g]? = some (.cells cs 4 (0, 0)) ∧ cs.size = n ∧ ∀ i : Nat, i < n → cs[i]? = some (.bool (F (i : Int)))
theorem BlsAt.lt {w : World} {g n : Nat} {F : Int → Bool} (h : BlsAt w g n F) : g < w.heap.size := by
  obtain ⟨cs, h1, _⟩ := h
  exact (Array.getElem?_eq_some_iff.1 h1).1
theorem BlsAt.keep {w w1 : World} {g n : Nat} {F : Int → Bool} (h : BlsAt w g n F) (hb : Below w.heap.size w w1) : BlsAt w1 g n F := by
  obtain ⟨cs, h1, h2⟩ := h
  exact ⟨cs, by rw [hb.block g (Array.getElem?_eq_some_iff.1 h1).1]; exact h1, h2⟩
theorem BlsAt.cell {w : World} {g n : Nat} {F : Int → Bool} (h : BlsAt w g n F) {x : Int} (h0 : 0 ≤ x) (h1 : x < n) : w.cell? ⟨g, x.toNat, none⟩ = some (.bool (F x)) := by
  obtain ⟨cs, hb, hs, hc⟩ := h
  have := hc x.toNat (by omega)
  rw [show ((x.toNat : Nat) : Int) = x by omega] at this
  simp [World.cell?, hb, this]
theorem BlsAt.cellN {w : World} {g n : Nat} {F : Int → Bool} (h : BlsAt w g n F) {x : Nat} (h1 : x < n) : w.cell? ⟨g, x, none⟩ = some (.bool (F (x : Int))) := by
  obtain ⟨cs, hb, hs, hc⟩ := h
  simp [World.cell?, hb, hc x h1]
theorem BlsAt.fro {w : World} {g n : Nat} {F : Int → Bool} (h : BlsAt w g n F) (x : Nat) : w.frozen? ⟨g, x, none⟩ = false := by
  obtain ⟨cs, hb, _⟩ := h
  simp [World.frozen?, hb]
theorem BlsAt.set {w : World} {g n : Nat} {F : Int → Bool} (h : BlsAt w g n F) {x : Int} (h0 : 0 ≤ x) (_h1 : x < n) : BlsAt (w.setCell ⟨g, x.toNat, none⟩ (.bool true)) g n (setF F x) := by
  obtain ⟨cs, hb, hs, hc⟩ := h
  refine ⟨cs.setIfInBounds x.toNat (.bool true), box_set hb _ _, by simpa using hs, fun i hi => ?_⟩
  rw [Array.getElem?_setIfInBounds]
  by_cases e : x.toNat = i
  · rw [if_pos e, if_pos (by omega)]
    unfold setF
    rw [show ((i : Int) == x) = true by rw [beq_iff_eq]; omega]
    rfl
  · rw [if_neg e, hc i hi]
    unfold setF
    rw [show ((i : Int) == x) = false by rw [beq_eq_false_iff_ne]; omega]
    rfl
theorem BlsAt.setN {w : World} {g n : Nat} {F : Int → Bool} (h : BlsAt w g n F) {k : Nat} (h1 : k < n) : BlsAt (w.setCell ⟨g, k, none⟩ (.bool true)) g n (setF F (k : Int)) := by
  have := h.set (x := (k : Int)) (by omega) (by omega)
  rwa [show ((k : Int)).toNat = k by omega] at this
theorem BlsAt.fit {w : World} {g n : Nat} {F G : Int → Bool} (h : BlsAt w g n F) (e : ∀ x, F x = G x) : BlsAt w g n G := by
  obtain ⟨cs, hb, hs, hc⟩ := h
  exact ⟨cs, hb, hs, fun i hi => by rw [← e]; exact hc i hi⟩
theorem gset11 (w : World) (g i : Nat) (v : Value) : w.grownBy (w.setCell ⟨g, i, none⟩ v) (some g) :=
  ⟨rfl, rfl, rfl, Nat.le_of_eq (by simp [go_sem]), fun k _ hn => Below.heap_setCell _ _ _ _ (fun e => hn (by rw [e]))⟩
theorem infoL : ∃ i, Tryz.prog.info? 4 = some i ∧ i.zero = some (.bool false) ∧ i.size = 1 ∧ i.bytes = 1 :=
  ⟨(Tryz.prog.info? 4).get (by kernel_rfl), by kernel_rfl, by kernel_rfl, by kernel_rfl, by kernel_rfl⟩
theorem make_bls (n : Nat) (hn : n ≤ 1048576) (w : World) : (Instr.makeSlice 108 (.int .i64 (n : Int)) (.int .i64 (n : Int))).run Tryz.prog w = .ok (.slice (some ⟨w.heap.size, 0, none⟩) n n) (w.alloc (.cells (madeCells #[.bool false] n) 4)) := by
  obtain ⟨i, hi, hz, hs, hb⟩ := infoL
  have h := run_makeSlice (P := Tryz.prog) w 108 4 i _ Tryz.underlying108 hi hz .i64 .i64 (n : Int) (n : Int) (by omega) (by omega) (by rw [hs]; omega) (by rw [hb]; omega) (by omega)
  rw [hs, show ((n : Int)).toNat = n by omega, Nat.mul_one] at h
  exact h
theorem BlsAt.made (w : World) (n : Nat) : BlsAt (w.alloc (.cells (madeCells #[.bool false] n) 4)) w.heap.size n noF :=
  ⟨_, heap_alloc_new _ _, by simp [madeCells], fun i hi => by simp [madeCells, hi, noF, Nat.mod_one]⟩
theorem far_in {text : List Int} {i : Nat} (h : farT text i = false) (ht : isT (nth text i) = true) : tgV (nth text i) < text.length := by
  unfold farT at h
  rw [ht, Bool.true_and, decide_eq_false_iff_not] at h
  omega
theorem sit_in {text : List Int} {ml : Nat} {ent : Int} (h : MayI text ml ent) {i : Nat} (hi : i < text.length) (ho : (dOp (nth text i) == 17) = true ∨ (dOp (nth text i) == 18) = true) : i + 1 < text.length := by
  by_cases e : i + 1 = text.length
  · have hl := h.last
    rw [show text.length - 1 = i by omega] at hl
    unfold lastOK at hl
    rw [decide_eq_true_eq] at hl
    simp at ho
    omega
  · omega
/-- What Marks answers. -/
def MarkP (n : Nat) (F : Int → Bool) (w : World) (e : Ending) (w' : World) : Prop := ∃ g : Nat, e = .returned (.slice (some ⟨g, 0, none⟩) n n) ∧ BlsAt w' g n F ∧ Below w.heap.size w w'
theorem lab_set (text : List Int) (ent : Int) (y : Int) : setF (addK noF (gLab text) text.length) ent y = labF text ent y := by
  show ((y == ent) || (false || anyF (gLab text) text.length y)) = (((y == ent) || false) || anyF (gLab text) text.length y)
  rw [Bool.or_false, Bool.false_or]
theorem grown_belowR {w w1 w2 : World} {B b : Nat} (h : Below B w w1) (hg : w1.grownBy w2 (some b)) (hb : B ≤ b) (hB : B ≤ w1.heap.size) : Below B w w2 := h.grown hg hB (fun j hj => by cases hj; exact hb)
theorem cell_other {w w1 : World} {g : Nat} (hg : w.grownBy w1 (some g)) {p : Addr} {v : Value} (hc : w.cell? p = some v) (hp : p.block ≠ g) : w1.cell? p = some v := hg.cell hc (fun e => hp (by injection e))



end Go.Proofs.YtfnicgihpelhhaaGreat

namespace Go.Proofs.YtfnicgihpelhhaaGreat
open Go.RowKit

/-- The blocks that can be reached. -/
inductive Rch (L : List (List Int)) (e : Int) : Int → Prop
  | base : Rch L e e
  | step {i x : Int} : Rch L e i → 0 ≤ i → x ∈ rowZ L i.toNat → Rch L e x
open Classical in
noncomputable def rchF (L : List (List Int)) (e : Int) (x : Int) : Bool := decide (Rch L e x)
open Classical in
theorem rchF_iff {L : List (List Int)} {e x : Int} : rchF L e x = true ↔ Rch L e x := by
  unfold rchF
  exact decide_eq_true_iff
/-- Only what can be reached is marked, and the first one is. -/
structure Snd (L : List (List Int)) (e : Int) (F : Int → Bool) : Prop where
  here : F e = true
  snd : ∀ x, F x = true → Rch L e x
/-- From what is marked, up to n, nothing leads out. -/
def Cls (L : List (List Int)) (F : Int → Bool) (n : Nat) : Prop := ∀ i : Nat, i < n → F (i : Int) = true → ∀ t, t < (rowZ L i).length → F (nth (rowZ L i) t) = true
theorem rowZ_out {L : List (List Int)} {i : Nat} {x : Int} (h : x ∈ rowZ L i) : i < L.length := by
  unfold rowZ at h
  by_cases hi : i < L.length
  · exact hi
  · rw [List.getD_eq_getElem?_getD, List.getElem?_eq_none (by omega)] at h
    simp at h
theorem rch_in {L : List (List Int)} {e : Int} {F : Int → Bool} (h : Snd L e F) (hc : Cls L F L.length) {x : Int} (hx : Rch L e x) : F x = true := by
  induction hx with
  | base => exact h.here
  | step _ h0 hm ih =>
    have hl := rowZ_out hm
    obtain ⟨t, ht, e⟩ := mem_nth hm
    rw [← e]
    refine hc _ hl ?_ t ht
    rw [show ((Int.toNat _ : Nat) : Int) = _ from Int.toNat_of_nonneg h0]
    exact ih
theorem rch_same {L : List (List Int)} {e : Int} {F : Int → Bool} (h : Snd L e F) (hc : Cls L F L.length) (x : Int) : F x = rchF L e x := by
  rw [Bool.eq_iff_iff, rchF_iff]
  exact ⟨h.snd x, rch_in h hc⟩
theorem snd_zero (L : List (List Int)) (e : Int) : Snd L e (setF noF e) := ⟨by simp [setF], fun x hx => by
  have : x = e := by simpa [setF, noF] using hx
  rw [this]
  exact .base⟩
theorem Snd.more {L : List (List Int)} {e : Int} {F : Int → Bool} (h : Snd L e F) {i t : Nat} (hi : F (i : Int) = true) (ht : t < (rowZ L i).length) : Snd L e (setF F (nth (rowZ L i) t)) := ⟨by simp [setF, h.here], fun x hx => by
  have hx' : x = nth (rowZ L i) t ∨ F x = true := by simpa [setF] using hx
  rcases hx' with rfl | hx'
  · exact .step (h.snd _ hi) (by omega) (by simpa using nth_mem ht)
  · exact h.snd x hx'⟩
/-- How many are not marked. -/
def lowN (F : Int → Bool) : Nat → Nat
  | 0 => 0
  | n + 1 => lowN F n + (if F (n : Int) then 0 else 1)
theorem lowN_le {F G : Int → Bool} {n : Nat} (h : ∀ i : Nat, i < n → F (i : Int) = true → G (i : Int) = true) : lowN G n ≤ lowN F n := by
  induction n with
  | zero => exact Nat.le_refl _
  | succ n ih =>
    have h1 := ih fun i hi => h i (by omega)
    have h2 := h n (by omega)
    unfold lowN
    cases hf : F (n : Int) with
    | true => rw [h2 hf]; simpa using h1
    | false => cases G (n : Int) <;> simp <;> omega
theorem lowN_same {F G : Int → Bool} {n : Nat} (h : ∀ i : Nat, i < n → F (i : Int) = G (i : Int)) : lowN F n = lowN G n :=
  Nat.le_antisymm (lowN_le fun i hi e => by rw [h i hi]; exact e) (lowN_le fun i hi e => by rw [← h i hi]; exact e)
theorem lowN_set {F : Int → Bool} {n : Nat} {x : Int} (h0 : 0 ≤ x) (h1 : x < (n : Int)) (hF : F x = false) : lowN (setF F x) n < lowN F n := by
  induction n with
  | zero => omega
  | succ n ih =>
    unfold lowN
    by_cases e : x = (n : Int)
    · have h2 : lowN (setF F x) n ≤ lowN F n := lowN_le fun i _ h => by simp [setF, h]
      rw [← e, hF, show setF F x x = true by simp [setF]]
      simp
      omega
    · have h2 := ih (by omega)
      have h3 : setF F x (n : Int) = F (n : Int) := by
        unfold setF
        rw [show ((n : Int) == x) = false by rw [beq_eq_false_iff_ne]; omega]
        rfl
      rw [h3]
      omega
/-- What a row of bools holds, read off the world. -/
def cellF (w : World) (g : Nat) (x : Int) : Bool := match w.cell? ⟨g, x.toNat, none⟩ with
  | some (.bool b) => b
  | _ => false
theorem BlsAt.low {w : World} {g n : Nat} {F : Int → Bool} (h : BlsAt w g n F) : lowN (cellF w g) n = lowN F n := lowN_same fun i hi => by
  unfold cellF
  rw [h.cell (x := (i : Int)) (by omega) (by omega)]
def bolOf : Value → Nat
  | .bool true => 1
  | _ => 0
/-- How a round has come on. -/
def Onw (L : List (List Int)) (n : Nat) (F G : Int → Bool) (m : Bool) (k : Nat) : Prop := (m = false → G = F ∧ Cls L F k) ∧ (m = true → lowN G n < lowN F n)
def Onw2 (L : List (List Int)) (n : Nat) (F G : Int → Bool) (m : Bool) (k j : Nat) : Prop := (m = false → G = F ∧ Cls L F k ∧ ∀ t, t < j → F (nth (rowZ L k) t) = true) ∧ (m = true → lowN G n < lowN F n)
theorem Onw.zero (L : List (List Int)) (n : Nat) (F : Int → Bool) : Onw L n F F false 0 := ⟨fun _ => ⟨rfl, fun _i hi => absurd hi (Nat.not_lt_zero _)⟩, fun h => by cases h⟩
theorem Onw.start {L : List (List Int)} {n : Nat} {F G : Int → Bool} {m : Bool} {k : Nat} (h : Onw L n F G m k) : Onw2 L n F G m k 0 := ⟨fun e => ⟨(h.1 e).1, (h.1 e).2, fun _t ht => absurd ht (Nat.not_lt_zero _)⟩, h.2⟩
theorem Onw2.stop {L : List (List Int)} {n : Nat} {F G : Int → Bool} {m : Bool} {k j : Nat} (h : Onw2 L n F G m k j) (hj : (rowZ L k).length ≤ j ∨ G (k : Int) = false) : Onw L n F G m (k + 1) := ⟨fun e => by
  obtain ⟨h1, h2, h3⟩ := h.1 e
  refine ⟨h1, fun i hi hf t ht => ?_⟩
  by_cases e2 : i = k
  · subst e2
    rcases hj with hj | hj
    · exact h3 t (by omega)
    · rw [h1, hf] at hj; cases hj
  · exact h2 i (by omega) hf t ht, h.2⟩
theorem Onw2.met {L : List (List Int)} {n : Nat} {F G : Int → Bool} {m : Bool} {k j : Nat} (h : Onw2 L n F G m k j) (hx : G (nth (rowZ L k) j) = true) : Onw2 L n F G m k (j + 1) := ⟨fun e => by
  obtain ⟨h1, h2, h3⟩ := h.1 e
  refine ⟨h1, h2, fun t ht => ?_⟩
  by_cases e2 : t = j
  · rw [e2, ← h1]; exact hx
  · exact h3 t (by omega), h.2⟩
theorem Onw2.new {L : List (List Int)} {n : Nat} {F G : Int → Bool} {m : Bool} {k j j' : Nat} {x : Int} (h : Onw2 L n F G m k j) (h0 : 0 ≤ x) (h1 : x < (n : Int)) (hx : G x = false) : Onw2 L n F (setF G x) true k j' := by
  have h2 := lowN_set h0 h1 hx
  refine ⟨fun e => (by cases e), fun _ => ?_⟩
  cases m with
  | true => have := h.2 rfl; omega
  | false => have := (h.1 rfl).1; subst this; exact h2
theorem Onw.done {L : List (List Int)} {n : Nat} {F G : Int → Bool} {m : Bool} {k : Nat} (h : Onw L n F G m k) (e : m = false) : Cls L G k := by
  obtain ⟨h1, h2⟩ := h.1 e
  rw [h1]; exact h2
theorem edg_row {text : List Int} {ent : Int} {n k : Nat} (hk : k < n) : rowZ (edgT text ent n) k = plcT (edgR text ent k) (blkL text ent).length := rowZ_map hk
theorem edg_in {text : List Int} {ent : Int} {n k t : Nat} (hk : k < n) (ht : t < (rowZ (edgT text ent n) k).length) : 0 ≤ nth (rowZ (edgT text ent n) k) t ∧ nth (rowZ (edgT text ent n) k) t < ((blkL text ent).length : Int) := by
  have h := nth_mem ht
  rw [edg_row hk] at h ⊢
  exact ⟨(plcT_mem.1 h).1, (plcT_mem.1 h).2.1⟩
theorem beg_ent (text : List Int) (ent : Int) : begF text ent ent = true := by simp [begF, addK, setF]
theorem ent_blk {text : List Int} {ent : Int} (h0 : 0 ≤ ent) (h1 : ent < (text.length : Int)) : ∃ k : Nat, k < (blkL text ent).length ∧ ofB (blkL text ent) ent = (k : Int) := by
  obtain ⟨k, hk, e, _⟩ := blk_begin (f := begF text ent) (n := text.length) (plcT_mem.2 ⟨h0, h1, beg_ent text ent⟩)
  exact ⟨k, hk, e⟩
theorem below_setAt {B : Nat} {w w1 : World} (h : Below B w w1) {g i : Nat} {v : Value} (hg : B ≤ g) (hB : B ≤ w1.heap.size) : Below B w (w1.setCell ⟨g, i, none⟩ v) := grown_belowR h (gset11 _ _ _ _) hg hB



end Go.Proofs.YtfnicgihpelhhaaGreat
