/-
  A row of bools in memory; what the document marks. What can be reached, plain; how it is counted. The least sets of live registers, plain. A graph with a hub has the same least sets; sets that grow while blocks wait; plain.
-/
import Derived.Test.YtfnicgihpelhhaaGreatProg
import Derived.WalkKit
import Derived.WalkSpells
import Derived.WalkLawsBesides
import Derived.RowKit3
import Derived.Below
import Derived.Deep.QuietTactic
import Derived.BigQuiet
import Derived.WalkSmall
import Derived.Laws.Rows
import Derived.Test.YtfnicgihpelhhaaGreatPd18
import Derived.Test.YtfnicgihpelhhaaGreatPd09
import Derived.Test.YtfnicgihpelhhaaGreatPd08
namespace Go.Proofs.YtfnicgihpelhhaaGreat
open Go.RowKit

/-- A row of bools, each as a function tells. -/
def BlsAt (w : World) (g n : Nat) (F : Int → Bool) : Prop := ∃ cs : Array Value, w.heap[g]? = some (.cells cs 4 (0, 0)) ∧ cs.size = n ∧ ∀ i : Nat, i < n → cs[i]? = some (.bool (F (i : Int)))
theorem BlsAt.lt {w : World} {g n : Nat} {F : Int → Bool} (h : BlsAt w g n F) : g < w.heap.size := by
  obtain ⟨cs, h1, _⟩ := h
  exact (Array.getElem?_eq_some_iff.1 h1).1
theorem BlsAt.keep {w w1 : World} {g n : Nat} {F : Int → Bool} (h : BlsAt w g n F) (hb : Below w.heap.size w w1) : BlsAt w1 g n F := by
  obtain ⟨cs, h1, h2⟩ := h
  exact ⟨cs, by rw [hb.block g (Array.getElem?_eq_some_iff.1 h1).1]; exact h1, h2⟩
theorem BlsAt.cell {w : World} {g n : Nat} {F : Int → Bool} (h : BlsAt w g n F) {x : Int} (h0 : 0 ≤ x) (h1 : x < n) : w.cell? ⟨g, x.toNat, none⟩ = some (.bool (F x)) := by
  obtain ⟨cs, hb, hs, hc⟩ := h
  have := hc x.toNat (by omega)
  rw [show ((x.toNat : Nat) : Int) = x by omega] at this
  simp [World.cell?, hb, this]
theorem BlsAt.cellN {w : World} {g n : Nat} {F : Int → Bool} (h : BlsAt w g n F) {x : Nat} (h1 : x < n) : w.cell? ⟨g, x, none⟩ = some (.bool (F (x : Int))) := by
  obtain ⟨cs, hb, hs, hc⟩ := h
  simp [World.cell?, hb, hc x h1]
theorem BlsAt.fro {w : World} {g n : Nat} {F : Int → Bool} (h : BlsAt w g n F) (x : Nat) : w.frozen? ⟨g, x, none⟩ = false := by
  obtain ⟨cs, hb, _⟩ := h
  simp [World.frozen?, hb]
theorem BlsAt.set {w : World} {g n : Nat} {F : Int → Bool} (h : BlsAt w g n F) {x : Int} (h0 : 0 ≤ x) (_h1 : x < n) : BlsAt (w.setCell ⟨g, x.toNat, none⟩ (.bool true)) g n (setF F x) := by
  obtain ⟨cs, hb, hs, hc⟩ := h
  refine ⟨cs.setIfInBounds x.toNat (.bool true), box_set hb _ _, by simpa using hs, fun i hi => ?_⟩
  rw [Array.getElem?_setIfInBounds]
  by_cases e : x.toNat = i
  · rw [if_pos e, if_pos (by omega)]
    unfold setF
    rw [show ((i : Int) == x) = true by rw [beq_iff_eq]; omega]
    rfl
  · rw [if_neg e, hc i hi]
    unfold setF
    rw [show ((i : Int) == x) = false by rw [beq_eq_false_iff_ne]; omega]
    rfl
theorem BlsAt.setN {w : World} {g n : Nat} {F : Int → Bool} (h : BlsAt w g n F) {k : Nat} (h1 : k < n) : BlsAt (w.setCell ⟨g, k, none⟩ (.bool true)) g n (setF F (k : Int)) := by
  have := h.set (x := (k : Int)) (by omega) (by omega)
  rwa [show ((k : Int)).toNat = k by omega] at this
theorem BlsAt.fit {w : World} {g n : Nat} {F G : Int → Bool} (h : BlsAt w g n F) (e : ∀ x, F x = G x) : BlsAt w g n G := by
  obtain ⟨cs, hb, hs, hc⟩ := h
  exact ⟨cs, hb, hs, fun i hi => by rw [← e]; exact hc i hi⟩
theorem gset11 (w : World) (g i : Nat) (v : Value) : w.grownBy (w.setCell ⟨g, i, none⟩ v) (some g) :=
  ⟨rfl, rfl, rfl, Nat.le_of_eq (by simp [go_sem]), fun k _ hn => Below.heap_setCell _ _ _ _ (fun e => hn (by rw [e]))⟩
theorem infoL : ∃ i, Tryz.prog.info? 4 = some i ∧ i.zero = some (.bool false) ∧ i.size = 1 ∧ i.bytes = 1 :=
  ⟨(Tryz.prog.info? 4).get (by kernel_rfl), by kernel_rfl, by kernel_rfl, by kernel_rfl, by kernel_rfl⟩
theorem make_bls (n : Nat) (hn : n ≤ 1048576) (w : World) : (Instr.makeSlice 108 (.int .i64 (n : Int)) (.int .i64 (n : Int))).run Tryz.prog w = .ok (.slice (some ⟨w.heap.size, 0, none⟩) n n) (w.alloc (.cells (madeCells #[.bool false] n) 4)) := by
  obtain ⟨i, hi, hz, hs, hb⟩ := infoL
  have h := run_makeSlice (P := Tryz.prog) w 108 4 i _ Tryz.underlying108 hi hz .i64 .i64 (n : Int) (n : Int) (by omega) (by omega) (by rw [hs]; omega) (by rw [hb]; omega) (by omega)
  rw [hs, show ((n : Int)).toNat = n by omega, Nat.mul_one] at h
  exact h
theorem BlsAt.made (w : World) (n : Nat) : BlsAt (w.alloc (.cells (madeCells #[.bool false] n) 4)) w.heap.size n noF :=
  ⟨_, heap_alloc_new _ _, by simp [madeCells], fun i hi => by simp [madeCells, hi, noF, Nat.mod_one]⟩
theorem far_in {text : List Int} {i : Nat} (h : farT text i = false) (ht : isT (nth text i) = true) : tgV (nth text i) < text.length := by
  unfold farT at h
  rw [ht, Bool.true_and, decide_eq_false_iff_not] at h
  omega
theorem sit_in {text : List Int} {ml : Nat} {ent : Int} (h : MayI text ml ent) {i : Nat} (hi : i < text.length) (ho : (dOp (nth text i) == 17) = true ∨ (dOp (nth text i) == 18) = true) : i + 1 < text.length := by
  by_cases e : i + 1 = text.length
  · have hl := h.last
    rw [show text.length - 1 = i by omega] at hl
    unfold lastOK at hl
    rw [decide_eq_true_eq] at hl
    simp at ho
    omega
  · omega
/-- What Marks answers. -/
def MarkP (n : Nat) (F : Int → Bool) (w : World) (e : Ending) (w' : World) : Prop := ∃ g : Nat, e = .returned (.slice (some ⟨g, 0, none⟩) n n) ∧ BlsAt w' g n F ∧ Below w.heap.size w w'
theorem lab_set (text : List Int) (ent : Int) (y : Int) : setF (addK noF (gLab text) text.length) ent y = labF text ent y := by
  show ((y == ent) || (false || anyF (gLab text) text.length y)) = (((y == ent) || false) || anyF (gLab text) text.length y)
  rw [Bool.or_false, Bool.false_or]
theorem grown_belowR {w w1 w2 : World} {B b : Nat} (h : Below B w w1) (hg : w1.grownBy w2 (some b)) (hb : B ≤ b) (hB : B ≤ w1.heap.size) : Below B w w2 := h.grown hg hB (fun j hj => by cases hj; exact hb)
theorem cell_other {w w1 : World} {g : Nat} (hg : w.grownBy w1 (some g)) {p : Addr} {v : Value} (hc : w.cell? p = some v) (hp : p.block ≠ g) : w1.cell? p = some v := hg.cell hc (fun e => hp (by injection e))



end Go.Proofs.YtfnicgihpelhhaaGreat

namespace Go.Proofs.YtfnicgihpelhhaaGreat
open Go.RowKit

/-- The blocks that can be reached. -/
inductive Rch (L : List (List Int)) (e : Int) : Int → Prop
  | base : Rch L e e
  | step {i x : Int} : Rch L e i → 0 ≤ i → x ∈ rowZ L i.toNat → Rch L e x
open Classical in
noncomputable def rchF (L : List (List Int)) (e : Int) (x : Int) : Bool := decide (Rch L e x)
open Classical in
theorem rchF_iff {L : List (List Int)} {e x : Int} : rchF L e x = true ↔ Rch L e x := by
  unfold rchF
  exact decide_eq_true_iff
/-- Only what can be reached is marked, and the first one is. -/
structure Snd (L : List (List Int)) (e : Int) (F : Int → Bool) : Prop where
  here : F e = true
  snd : ∀ x, F x = true → Rch L e x
/-- From what is marked, up to n, nothing leads out. -/
def Cls (L : List (List Int)) (F : Int → Bool) (n : Nat) : Prop := ∀ i : Nat, i < n → F (i : Int) = true → ∀ t, t < (rowZ L i).length → F (nth (rowZ L i) t) = true
theorem rowZ_out {L : List (List Int)} {i : Nat} {x : Int} (h : x ∈ rowZ L i) : i < L.length := by
  unfold rowZ at h
  by_cases hi : i < L.length
  · exact hi
  · rw [List.getD_eq_getElem?_getD, List.getElem?_eq_none (by omega)] at h
    simp at h
theorem rch_in {L : List (List Int)} {e : Int} {F : Int → Bool} (h : Snd L e F) (hc : Cls L F L.length) {x : Int} (hx : Rch L e x) : F x = true := by
  induction hx with
  | base => exact h.here
  | step _ h0 hm ih =>
    have hl := rowZ_out hm
    obtain ⟨t, ht, e⟩ := mem_nth hm
    rw [← e]
    refine hc _ hl ?_ t ht
    rw [show ((Int.toNat _ : Nat) : Int) = _ from Int.toNat_of_nonneg h0]
    exact ih
theorem rch_same {L : List (List Int)} {e : Int} {F : Int → Bool} (h : Snd L e F) (hc : Cls L F L.length) (x : Int) : F x = rchF L e x := by
  rw [Bool.eq_iff_iff, rchF_iff]
  exact ⟨h.snd x, rch_in h hc⟩
theorem snd_zero (L : List (List Int)) (e : Int) : Snd L e (setF noF e) := ⟨by simp [setF], fun x hx => by
  have : x = e := by simpa [setF, noF] using hx
  rw [this]
  exact .base⟩
theorem Snd.more {L : List (List Int)} {e : Int} {F : Int → Bool} (h : Snd L e F) {i t : Nat} (hi : F (i : Int) = true) (ht : t < (rowZ L i).length) : Snd L e (setF F (nth (rowZ L i) t)) := ⟨by simp [setF, h.here], fun x hx => by
  have hx' : x = nth (rowZ L i) t ∨ F x = true := by simpa [setF] using hx
  rcases hx' with rfl | hx'
  · exact .step (h.snd _ hi) (by omega) (by simpa using nth_mem ht)
  · exact h.snd x hx'⟩
/-- How many are not marked. -/
def lowN (F : Int → Bool) : Nat → Nat
  | 0 => 0
  | n + 1 => lowN F n + (if F (n : Int) then 0 else 1)
theorem lowN_le {F G : Int → Bool} {n : Nat} (h : ∀ i : Nat, i < n → F (i : Int) = true → G (i : Int) = true) : lowN G n ≤ lowN F n := by
  induction n with
  | zero => exact Nat.le_refl _
  | succ n ih =>
    have h1 := ih fun i hi => h i (by omega)
    have h2 := h n (by omega)
    unfold lowN
    cases hf : F (n : Int) with
    | true => rw [h2 hf]; simpa using h1
    | false => cases G (n : Int) <;> simp <;> omega
theorem lowN_same {F G : Int → Bool} {n : Nat} (h : ∀ i : Nat, i < n → F (i : Int) = G (i : Int)) : lowN F n = lowN G n :=
  Nat.le_antisymm (lowN_le fun i hi e => by rw [h i hi]; exact e) (lowN_le fun i hi e => by rw [← h i hi]; exact e)
theorem lowN_set {F : Int → Bool} {n : Nat} {x : Int} (h0 : 0 ≤ x) (h1 : x < (n : Int)) (hF : F x = false) : lowN (setF F x) n < lowN F n := by
  induction n with
  | zero => omega
  | succ n ih =>
    unfold lowN
    by_cases e : x = (n : Int)
    · have h2 : lowN (setF F x) n ≤ lowN F n := lowN_le fun i _ h => by simp [setF, h]
      rw [← e, hF, show setF F x x = true by simp [setF]]
      simp
      omega
    · have h2 := ih (by omega)
      have h3 : setF F x (n : Int) = F (n : Int) := by
        unfold setF
        rw [show ((n : Int) == x) = false by rw [beq_eq_false_iff_ne]; omega]
        rfl
      rw [h3]
      omega
/-- What a row of bools holds, read off the world. -/
def cellF (w : World) (g : Nat) (x : Int) : Bool := match w.cell? ⟨g, x.toNat, none⟩ with
  | some (.bool b) => b
  | _ => false
theorem BlsAt.low {w : World} {g n : Nat} {F : Int → Bool} (h : BlsAt w g n F) : lowN (cellF w g) n = lowN F n := lowN_same fun i hi => by
  unfold cellF
  rw [h.cell (x := (i : Int)) (by omega) (by omega)]
def bolOf : Value → Nat
  | .bool true => 1
  | _ => 0
/-- How a round has come on. -/
def Onw (L : List (List Int)) (n : Nat) (F G : Int → Bool) (m : Bool) (k : Nat) : Prop := (m = false → G = F ∧ Cls L F k) ∧ (m = true → lowN G n < lowN F n)
def Onw2 (L : List (List Int)) (n : Nat) (F G : Int → Bool) (m : Bool) (k j : Nat) : Prop := (m = false → G = F ∧ Cls L F k ∧ ∀ t, t < j → F (nth (rowZ L k) t) = true) ∧ (m = true → lowN G n < lowN F n)
theorem Onw.zero (L : List (List Int)) (n : Nat) (F : Int → Bool) : Onw L n F F false 0 := ⟨fun _ => ⟨rfl, fun _i hi => absurd hi (Nat.not_lt_zero _)⟩, fun h => by cases h⟩
theorem Onw.start {L : List (List Int)} {n : Nat} {F G : Int → Bool} {m : Bool} {k : Nat} (h : Onw L n F G m k) : Onw2 L n F G m k 0 := ⟨fun e => ⟨(h.1 e).1, (h.1 e).2, fun _t ht => absurd ht (Nat.not_lt_zero _)⟩, h.2⟩
theorem Onw2.stop {L : List (List Int)} {n : Nat} {F G : Int → Bool} {m : Bool} {k j : Nat} (h : Onw2 L n F G m k j) (hj : (rowZ L k).length ≤ j ∨ G (k : Int) = false) : Onw L n F G m (k + 1) := ⟨fun e => by
  obtain ⟨h1, h2, h3⟩ := h.1 e
  refine ⟨h1, fun i hi hf t ht => ?_⟩
  by_cases e2 : i = k
  · subst e2
    rcases hj with hj | hj
    · exact h3 t (by omega)
    · rw [h1, hf] at hj; cases hj
  · exact h2 i (by omega) hf t ht, h.2⟩
theorem Onw2.met {L : List (List Int)} {n : Nat} {F G : Int → Bool} {m : Bool} {k j : Nat} (h : Onw2 L n F G m k j) (hx : G (nth (rowZ L k) j) = true) : Onw2 L n F G m k (j + 1) := ⟨fun e => by
  obtain ⟨h1, h2, h3⟩ := h.1 e
  refine ⟨h1, h2, fun t ht => ?_⟩
  by_cases e2 : t = j
  · rw [e2, ← h1]; exact hx
  · exact h3 t (by omega), h.2⟩
theorem Onw2.new {L : List (List Int)} {n : Nat} {F G : Int → Bool} {m : Bool} {k j j' : Nat} {x : Int} (h : Onw2 L n F G m k j) (h0 : 0 ≤ x) (h1 : x < (n : Int)) (hx : G x = false) : Onw2 L n F (setF G x) true k j' := by
  have h2 := lowN_set h0 h1 hx
  refine ⟨fun e => (by cases e), fun _ => ?_⟩
  cases m with
  | true => have := h.2 rfl; omega
  | false => have := (h.1 rfl).1; subst this; exact h2
theorem Onw.done {L : List (List Int)} {n : Nat} {F G : Int → Bool} {m : Bool} {k : Nat} (h : Onw L n F G m k) (e : m = false) : Cls L G k := by
  obtain ⟨h1, h2⟩ := h.1 e
  rw [h1]; exact h2
theorem edg_row {text : List Int} {ent : Int} {n k : Nat} (hk : k < n) : rowZ (edgT text ent n) k = plcT (edgR text ent k) (blkL text ent).length := rowZ_map hk
theorem edg_in {text : List Int} {ent : Int} {n k t : Nat} (hk : k < n) (ht : t < (rowZ (edgT text ent n) k).length) : 0 ≤ nth (rowZ (edgT text ent n) k) t ∧ nth (rowZ (edgT text ent n) k) t < ((blkL text ent).length : Int) := by
  have h := nth_mem ht
  rw [edg_row hk] at h ⊢
  exact ⟨(plcT_mem.1 h).1, (plcT_mem.1 h).2.1⟩
theorem beg_ent (text : List Int) (ent : Int) : begF text ent ent = true := by simp [begF, addK, setF]
theorem ent_blk {text : List Int} {ent : Int} (h0 : 0 ≤ ent) (h1 : ent < (text.length : Int)) : ∃ k : Nat, k < (blkL text ent).length ∧ ofB (blkL text ent) ent = (k : Int) := by
  obtain ⟨k, hk, e, _⟩ := blk_begin (f := begF text ent) (n := text.length) (plcT_mem.2 ⟨h0, h1, beg_ent text ent⟩)
  exact ⟨k, hk, e⟩
theorem below_setAt {B : Nat} {w w1 : World} (h : Below B w w1) {g i : Nat} {v : Value} (hg : B ≤ g) (hB : B ≤ w1.heap.size) : Below B w (w1.setCell ⟨g, i, none⟩ v) := grown_belowR h (gset11 _ _ _ _) hg hB



end Go.Proofs.YtfnicgihpelhhaaGreat

namespace Go.Proofs.YtfnicgihpelhhaaGreat
open Go.RowKit

/-- A set within a set. -/
def SubN (a b : Nat) : Prop := ∀ r, a.testBit r = true → b.testBit r = true
theorem SubN.refl (a : Nat) : SubN a a := fun _ h => h
theorem SubN.trans {a b c : Nat} (h : SubN a b) (k : SubN b c) : SubN a c := fun r x => k r (h r x)
theorem SubN.anti {a b : Nat} (h : SubN a b) (k : SubN b a) : a = b := Nat.eq_of_testBit_eq fun i => by
  rw [Bool.eq_iff_iff]; exact ⟨h i, k i⟩
theorem SubN.le {a b : Nat} (h : SubN a b) : a ≤ b := by
  have e : a ||| b = b := Nat.eq_of_testBit_eq fun i => by
    rw [Nat.testBit_or]
    have := h i
    cases ha : a.testBit i with
    | true => rw [this ha]; rfl
    | false => rfl
  exact Nat.le_trans Nat.left_le_or (Nat.le_of_eq e)
theorem SubN.zero (b : Nat) : SubN 0 b := fun r h => by rw [Nat.zero_testBit] at h; cases h
theorem sub_or {a b c d : Nat} (h : SubN a c) (k : SubN b d) : SubN (a ||| b) (c ||| d) := fun r x => by
  rw [Nat.testBit_or, Bool.or_eq_true] at x ⊢
  exact x.imp (h r) (k r)
theorem sub_less {a b w : Nat} (hw : w < 65536) (h : SubN a b) : SubN (lessN a w) (lessN b w) := fun r x => by
  rw [lessN_bit hw, Bool.and_eq_true] at x ⊢
  exact ⟨h r x.1, x.2⟩
/-- All that is in the sets of the first k of a list. -/
def orE (F : Int → Nat) (l : List Int) : Nat → Nat
  | 0 => 0
  | k + 1 => orE F l k ||| F (nth l k)
theorem orE_sub {F G : Int → Nat} {l : List Int} : ∀ {k : Nat}, (∀ t, t < k → SubN (F (nth l t)) (G (nth l t))) → SubN (orE F l k) (orE G l k)
  | 0, _ => SubN.refl _
  | k + 1, h => sub_or (orE_sub fun t ht => h t (by omega)) (h k (by omega))
theorem orE_lt {F : Int → Nat} (l : List Int) (h : ∀ x, F x < 65536) : ∀ k, orE F l k < 65536
  | 0 => by show 0 < 65536; decide
  | k + 1 => orN_lt (orE_lt l h k) (h _)
/-- What is live ahead: read, or live behind and not written. -/
def insN (r w o : Nat) : Nat := r ||| lessN o w
theorem insN_lt {r w o : Nat} (hr : r < 65536) (ho : o < 65536) : insN r w o < 65536 := orN_lt hr (lessN_lt ho)
theorem insN_sub {r w a b : Nat} (hw : w < 65536) (h : SubN a b) : SubN (insN r w a) (insN r w b) := sub_or (SubN.refl _) (sub_less hw h)
/-- Sets for which each block's equations hold. -/
structure Sol (L : List (List Int)) (R W : Nat → Nat) (n : Nat) (F G : Int → Nat) : Prop where
  out : ∀ j : Nat, j < n → G (j : Int) = orE F (rowZ L j) (rowZ L j).length
  inn : ∀ j : Nat, j < n → F (j : Int) = insN (R j) (W j) (G (j : Int))
/-- The least ones. -/
structure Lst (L : List (List Int)) (R W : Nat → Nat) (n : Nat) (F G : Int → Nat) : Prop where
  sol : Sol L R W n F G
  low : ∀ F' G', Sol L R W n F' G' → ∀ j : Nat, j < n → SubN (F (j : Int)) (F' (j : Int)) ∧ SubN (G (j : Int)) (G' (j : Int))
theorem Lst.uniq {L : List (List Int)} {R W : Nat → Nat} {n : Nat} {F G F' G' : Int → Nat} (h : Lst L R W n F G) (k : Lst L R W n F' G') (j : Nat) (hj : j < n) : F (j : Int) = F' (j : Int) ∧ G (j : Int) = G' (j : Int) := by
  have h1 := h.low _ _ k.sol j hj
  have h2 := k.low _ _ h.sol j hj
  exact ⟨h1.1.anti h2.1, h1.2.anti h2.2⟩
/-- What stands between: sets that grow. -/
structure Grw (L : List (List Int)) (R W : Nat → Nat) (n : Nat) (F G : Int → Nat) : Prop where
  lt : ∀ x, F x < 65536 ∧ G x < 65536
  fst : ∀ j : Nat, j < n → SubN (F (j : Int)) (insN (R j) (W j) (G (j : Int)))
  snd : ∀ j : Nat, j < n → SubN (G (j : Int)) (orE F (rowZ L j) (rowZ L j).length)
  top : ∀ F' G', Sol L R W n F' G' → ∀ j : Nat, j < n → SubN (F (j : Int)) (F' (j : Int)) ∧ SubN (G (j : Int)) (G' (j : Int))
def zeroS (_ : Int) : Nat := 0
theorem Grw.zero (L : List (List Int)) (R W : Nat → Nat) (n : Nat) : Grw L R W n zeroS zeroS := ⟨fun _ => ⟨by show 0 < 65536; decide, by show 0 < 65536; decide⟩, fun _ _ => SubN.zero _, fun _ _ => SubN.zero _, fun _ _ _ _ _ => ⟨SubN.zero _, SubN.zero _⟩⟩
def putS (F : Int → Nat) (x : Int) (v : Nat) (y : Int) : Nat := if y = x then v else F y
theorem putS_here (F : Int → Nat) (x : Int) (v : Nat) : putS F x v x = v := if_pos rfl
theorem putS_else (F : Int → Nat) {x y : Int} (v : Nat) (h : y ≠ x) : putS F x v y = F y := if_neg h
theorem putS_same (F : Int → Nat) (x : Int) : putS F x (F x) = F := funext fun y => by
  by_cases h : y = x
  · rw [h, putS_here]
  · rw [putS_else _ _ h]
def Inn (L : List (List Int)) (n : Nat) : Prop := ∀ k t, k < n → t < (rowZ L k).length → 0 ≤ nth (rowZ L k) t ∧ nth (rowZ L k) t < (n : Int)
section
variable {L : List (List Int)} {R W : Nat → Nat} {n : Nat} {F G : Int → Nat}
theorem Grw.more (h : Grw L R W n F G) (hR : ∀ j, R j < 65536) (hW : ∀ j, W j < 65536) (hI : Inn L n) {k : Nat} (hk : k < n) :
    Grw L R W n (putS F (k : Int) (insN (R k) (W k) (orE F (rowZ L k) (rowZ L k).length))) (putS G (k : Int) (orE F (rowZ L k) (rowZ L k).length)) := by
  have ho := orE_lt (rowZ L k) (fun x => (h.lt x).1) (rowZ L k).length
  have hup : ∀ y, SubN (F y) (putS F (k : Int) (insN (R k) (W k) (orE F (rowZ L k) (rowZ L k).length)) y) := fun y => by
    by_cases e : y = (k : Int)
    · rw [e, putS_here]
      exact (h.fst k hk).trans (insN_sub (hW k) (h.snd k hk))
    · rw [putS_else _ _ e]; exact SubN.refl _
  refine ⟨fun x => ⟨?_, ?_⟩, fun j hj => ?_, fun j hj => ?_, fun F' G' hs j hj => ?_⟩
  · unfold putS
    split
    · exact insN_lt (hR k) ho
    · exact (h.lt x).1
  · unfold putS
    split
    · exact ho
    · exact (h.lt x).2
  · by_cases e : j = k
    · rw [e, putS_here, putS_here]; exact SubN.refl _
    · rw [putS_else _ _ (by omega), putS_else _ _ (by omega)]; exact h.fst j hj
  · by_cases e : j = k
    · rw [e, putS_here]; exact orE_sub fun t _ => hup _
    · rw [putS_else _ _ (by omega)]; exact (h.snd j hj).trans (orE_sub fun t _ => hup _)
  · by_cases e : j = k
    · have h1 : SubN (orE F (rowZ L k) (rowZ L k).length) (G' (k : Int)) := by
        rw [hs.out k hk]
        refine orE_sub fun t ht => ?_
        obtain ⟨a, b⟩ := hI k t hk ht
        have := (h.top F' G' hs (nth (rowZ L k) t).toNat (by omega)).1
        rwa [show (((nth (rowZ L k) t).toNat : Nat) : Int) = nth (rowZ L k) t by omega] at this
      rw [e, putS_here, putS_here]
      refine ⟨?_, h1⟩
      rw [hs.inn k hk]
      exact insN_sub (hW k) h1
    · rw [putS_else _ _ (by omega), putS_else _ _ (by omega)]; exact h.top F' G' hs j hj
end
/-- How much is still lacking. -/
def lowS (F : Int → Nat) : Nat → Nat
  | 0 => 0
  | n + 1 => lowS F n + (65535 - F (n : Int))
theorem lowS_le {F G : Int → Nat} : ∀ {n : Nat}, (∀ i : Nat, i < n → F (i : Int) ≤ G (i : Int)) → lowS G n ≤ lowS F n
  | 0, _ => Nat.le_refl _
  | n + 1, h => by
    have h1 := lowS_le (n := n) fun i hi => h i (by omega)
    have h2 := h n (by omega)
    unfold lowS
    omega
theorem lowS_lt {F G : Int → Nat} {k : Nat} : ∀ {n : Nat}, (∀ i : Nat, i < n → F (i : Int) ≤ G (i : Int)) → k < n → F (k : Int) < G (k : Int) → G (k : Int) < 65536 → lowS G n < lowS F n
  | 0, _, hk, _, _ => by omega
  | n + 1, h, hk, h1, h2 => by
    unfold lowS
    by_cases e : k = n
    · have h3 := lowS_le (n := n) fun i hi => h i (by omega)
      rw [e] at h1 h2
      omega
    · have h3 := lowS_lt (n := n) (fun i hi => h i (by omega)) (by omega) h1 h2
      have h4 := h n (by omega)
      omega
theorem lowS_same {F G : Int → Nat} {n : Nat} (h : ∀ i : Nat, i < n → F (i : Int) = G (i : Int)) : lowS F n = lowS G n :=
  Nat.le_antisymm (lowS_le fun i hi => Nat.le_of_eq (h i hi).symm) (lowS_le fun i hi => Nat.le_of_eq (h i hi))
/-- How a round has come on: all from k on are done. -/
def OnS (L : List (List Int)) (R W : Nat → Nat) (n : Nat) (F0 G0 F G : Int → Nat) (m : Bool) (k : Nat) : Prop :=
  (m = false → F = F0 ∧ G = G0 ∧ ∀ j : Nat, k ≤ j → j < n → G0 (j : Int) = orE F0 (rowZ L j) (rowZ L j).length ∧ F0 (j : Int) = insN (R j) (W j) (G0 (j : Int))) ∧ (m = true → lowS F n + lowS G n < lowS F0 n + lowS G0 n)
theorem OnS.zero (L : List (List Int)) (R W : Nat → Nat) (n : Nat) (F G : Int → Nat) : OnS L R W n F G F G false n := ⟨fun _ => ⟨rfl, rfl, fun j h1 h2 => by omega⟩, fun h => by cases h⟩
section
variable {L : List (List Int)} {R W : Nat → Nat} {n : Nat} {F0 G0 F G : Int → Nat} {m : Bool} {k : Nat}
theorem OnS.keep (h : OnS L R W n F0 G0 F G m (k + 1)) (e1 : insN (R k) (W k) (orE F (rowZ L k) (rowZ L k).length) = F (k : Int)) (e2 : orE F (rowZ L k) (rowZ L k).length = G (k : Int)) :
    OnS L R W n F0 G0 (putS F (k : Int) (insN (R k) (W k) (orE F (rowZ L k) (rowZ L k).length))) (putS G (k : Int) (orE F (rowZ L k) (rowZ L k).length)) m k := by
  rw [e1, putS_same, e2, putS_same]
  refine ⟨fun hm => ?_, h.2⟩
  obtain ⟨h1, h2, h3⟩ := h.1 hm
  subst h1 h2
  refine ⟨rfl, rfl, fun j hj hn => ?_⟩
  by_cases e : j = k
  · subst e
    exact ⟨e2.symm, by rw [← e2]; exact e1.symm⟩
  · exact h3 j (by omega) hn
theorem OnS.new (h : OnS L R W n F0 G0 F G m (k + 1)) (hg : Grw L R W n F G) (hR : ∀ j, R j < 65536) (hW : ∀ j, W j < 65536) (hk : k < n) (e : insN (R k) (W k) (orE F (rowZ L k) (rowZ L k).length) ≠ F (k : Int) ∨ orE F (rowZ L k) (rowZ L k).length ≠ G (k : Int)) :
    OnS L R W n F0 G0 (putS F (k : Int) (insN (R k) (W k) (orE F (rowZ L k) (rowZ L k).length))) (putS G (k : Int) (orE F (rowZ L k) (rowZ L k).length)) true k := by
  have ho := orE_lt (rowZ L k) (fun x => (hg.lt x).1) (rowZ L k).length
  have a1 : F (k : Int) ≤ insN (R k) (W k) (orE F (rowZ L k) (rowZ L k).length) := ((hg.fst k hk).trans (insN_sub (hW k) (hg.snd k hk))).le
  have a2 : G (k : Int) ≤ orE F (rowZ L k) (rowZ L k).length := (hg.snd k hk).le
  have b1 := insN_lt (w := W k) (hR k) ho
  generalize insN (R k) (W k) (orE F (rowZ L k) (rowZ L k).length) = v at *
  generalize orE F (rowZ L k) (rowZ L k).length = o at *
  have c1 : ∀ i : Nat, i < n → F (i : Int) ≤ putS F (k : Int) v (i : Int) := fun i _ => by
    by_cases x : i = k
    · rw [x, putS_here]; exact a1
    · rw [putS_else _ _ (by omega)]; exact Nat.le_refl _
  have c2 : ∀ i : Nat, i < n → G (i : Int) ≤ putS G (k : Int) o (i : Int) := fun i _ => by
    by_cases x : i = k
    · rw [x, putS_here]; exact a2
    · rw [putS_else _ _ (by omega)]; exact Nat.le_refl _
  have d1 := lowS_le c1
  have d2 := lowS_le c2
  have dd : lowS (putS F (k : Int) v) n + lowS (putS G (k : Int) o) n < lowS F n + lowS G n := by
    rcases e with e | e
    · have := lowS_lt c1 hk (by rw [putS_here]; omega) (by rw [putS_here]; exact b1)
      omega
    · have := lowS_lt c2 hk (by rw [putS_here]; omega) (by rw [putS_here]; exact ho)
      omega
  refine ⟨fun x => (by cases x), fun _ => ?_⟩
  cases m with
  | true => have := h.2 rfl; omega
  | false => obtain ⟨x, y, _⟩ := h.1 rfl; rw [x, y] at dd ⊢; exact dd
theorem OnS.done (h : OnS L R W n F0 G0 F G m 0) (hg : Grw L R W n F G) (e : m = false) : Lst L R W n F G := by
  obtain ⟨h1, h2, h3⟩ := h.1 e
  subst h1 h2
  exact ⟨⟨fun j hj => (h3 j (Nat.zero_le _) hj).1, fun j hj => (h3 j (Nat.zero_le _) hj).2⟩, hg.top⟩
end
/-- Place by place from a block's end. -/
def setB (text : List Int) (e : Int) (s : Nat) : Nat → Nat
  | 0 => s
  | k + 1 => insN (rdN (nth text (e - 1 - k).toNat)) (wrN (nth text (e - 1 - k).toNat)) (setB text e s k)
theorem setB_lt (text : List Int) (e : Int) {s : Nat} (h : s < 65536) : ∀ k, setB text e s k < 65536
  | 0 => h
  | k + 1 => insN_lt (rdN_lt _) (setB_lt text e h k)
/-- A block's words, what they read, what they write. -/
def cutL (l : List Int) (a b : Int) : List Int := (l.drop a.toNat).take (b - a).toNat
def blR (text : List Int) (ent : Int) (i : Nat) : Nat := allR (cutL text (rAt (blkL text ent) i) (rSym (blkL text ent) i)) (cutL text (rAt (blkL text ent) i) (rSym (blkL text ent) i)).length
def blW (text : List Int) (ent : Int) (i : Nat) : Nat := allW (cutL text (rAt (blkL text ent) i) (rSym (blkL text ent) i)) (cutL text (rAt (blkL text ent) i) (rSym (blkL text ent) i)).length
theorem blR_lt (text : List Int) (ent : Int) (i : Nat) : blR text ent i < 65536 := allR_lt _ _
theorem blW_lt (text : List Int) (ent : Int) (i : Nat) : blW text ent i < 65536 := allW_lt _ _
/-- The least sets of an image's blocks. -/
def LstI (text : List Int) (ent : Int) (F G : Int → Nat) : Prop := Lst (edgT text ent (blkL text ent).length) (blR text ent) (blW text ent) (blkL text ent).length F G
/-- What is live behind each place. -/
def BhI (text : List Int) (ent : Int) (H : Int → Nat) : Prop := ∃ F G, LstI text ent F G ∧ ∀ i : Nat, i < (blkL text ent).length → ∀ p : Nat, rAt (blkL text ent) i ≤ (p : Int) → (p : Int) < rSym (blkL text ent) i → H (p : Int) = setB text (rSym (blkL text ent) i) (G (i : Int)) (rSym (blkL text ent) i - 1 - (p : Int)).toNat
theorem cutL_len {l : List Int} {a b : Int} (h0 : 0 ≤ a) (h1 : a ≤ b) (h2 : b ≤ (l.length : Int)) : (cutL l a b).length = (b - a).toNat := by
  unfold cutL
  rw [List.length_take, List.length_drop]
  omega
theorem cutL_nth {l : List Int} {a b : Int} (h0 : 0 ≤ a) (h1 : a ≤ b) (h2 : b ≤ (l.length : Int)) {i : Nat} (hi : i < (cutL l a b).length) : nth (cutL l a b) i = nth l (a.toNat + i) := by
  rw [cutL_len h0 h1 h2] at hi
  unfold nth cutL
  rw [List.getD_eq_getElem?_getD, List.getD_eq_getElem?_getD, List.getElem?_take_of_lt hi, List.getElem?_drop]
theorem addTwo (a : Addr) (x i : Nat) : (a.add x).add i = a.add (x + i) := by
  by_cases hx : x = 0
  · subst hx; simp [Addr.add]
  · by_cases hi : i = 0
    · subst hi; simp [Addr.add]
    · simp [Addr.add, hx, hi, Nat.add_assoc]
theorem cutL_ints {w : World} {a : Addr} {K : IntKind} {l : List Int} (h : IntsAt w (some a) K l) {x y : Int} (h0 : 0 ≤ x) (h1 : x ≤ y) (h2 : y ≤ (l.length : Int)) : IntsAt w (some (a.add x.toNat)) K (cutL l x y) := fun i hi => by
  have hl := hi
  rw [cutL_len h0 h1 h2] at hl
  obtain ⟨b, e, q⟩ := h (x.toNat + i) (by omega)
  cases e
  exact ⟨_, rfl, by rw [cutL_nth h0 h1 h2 hi, ← q, addTwo]⟩


end Go.Proofs.YtfnicgihpelhhaaGreat

namespace Go.Proofs.YtfnicgihpelhhaaGreat
open Go.RowKit

/-- A graph with a hub: what leaps goes to the hub alone, and the hub goes where each of them went. -/
structure Hub (L M : List (List Int)) (n : Nat) (lp : Nat → Bool) : Prop where
  len : M.length = n + 1
  plain : ∀ k, k < n → lp k = false → rowZ M k = rowZ L k
  leap : ∀ k, k < n → lp k = true → rowZ M k = [(n : Int)]
  hub : ∀ k, k < n → lp k = true → rowZ M n = rowZ L k
  inn : ∀ t, t < (rowZ M n).length → 0 ≤ nth (rowZ M n) t ∧ nth (rowZ M n) t < (n : Int)
/-- What the blocks read; the hub behind them nothing. -/
def hubN (R : Nat → Nat) (n : Nat) (j : Nat) : Nat := if j < n then R j else 0
theorem hubN_in {R : Nat → Nat} {n j : Nat} (h : j < n) : hubN R n j = R j := if_pos h
theorem hubN_hub (R : Nat → Nat) (n : Nat) : hubN R n n = 0 := if_neg (by omega)
theorem hubN_lt {R : Nat → Nat} (n : Nat) (h : ∀ j, R j < 65536) (j : Nat) : hubN R n j < 65536 := by
  unfold hubN
  split
  · exact h j
  · omega
theorem orE_fit {F G : Int → Nat} {l : List Int} : ∀ {k : Nat}, (∀ t, t < k → F (nth l t) = G (nth l t)) → orE F l k = orE G l k
  | 0, _ => rfl
  | k + 1, h => by
    show orE F l k ||| F (nth l k) = orE G l k ||| G (nth l k)
    rw [orE_fit fun t ht => h t (by omega), h k (by omega)]
theorem orE_one (F : Int → Nat) (x : Int) : orE F [x] [x].length = F x := by
  show (0 : Nat) ||| F (nth [x] 0) = F x
  rw [Nat.zero_or]; rfl
theorem orE_in {F : Int → Nat} {l : List Int} : ∀ {k t : Nat}, t < k → SubN (F (nth l t)) (orE F l k)
  | 0, t, h => by omega
  | k + 1, t, h => fun r x => by
    show (orE F l k ||| F (nth l k)).testBit r = true
    rw [Nat.testBit_or, Bool.or_eq_true]
    by_cases e : t = k
    · subst e; exact .inr x
    · exact .inl (orE_in (show t < k by omega) r x)
theorem orE_out {F : Int → Nat} {l : List Int} {b : Nat} : ∀ {k : Nat}, (∀ t, t < k → SubN (F (nth l t)) b) → SubN (orE F l k) b
  | 0, _ => SubN.zero b
  | k + 1, h => fun r x => by
    have x : (orE F l k ||| F (nth l k)).testBit r = true := x
    rw [Nat.testBit_or, Bool.or_eq_true] at x
    rcases x with x | x
    · exact orE_out (fun t ht => h t (by omega)) r x
    · exact h k (by omega) r x
theorem orE_ltL {F : Int → Nat} {l : List Int} : ∀ {k : Nat}, (∀ t, t < k → F (nth l t) < 65536) → orE F l k < 65536
  | 0, _ => by show 0 < 65536; decide
  | k + 1, h => orN_lt (orE_ltL fun t ht => h t (by omega)) (h k (by omega))
theorem insN_hub {o : Nat} (h : o < 65536) : insN 0 0 o = o := by
  apply Nat.eq_of_testBit_eq
  intro i
  unfold insN
  rw [Nat.zero_or, lessN_bit (by omega), Nat.zero_testBit]
  by_cases e : i < 16
  · simp [e]
  · have : o.testBit i = false := Nat.testBit_lt_two_pow (Nat.lt_of_lt_of_le h (Nat.pow_le_pow_right (n := 2) (by omega) (show 16 ≤ i by omega)))
    rw [this]; rfl
theorem insN_all {r w o : Nat} (hr : r < 65536) : insN r w o < 65536 := orN_lt hr (Nat.lt_of_le_of_lt Nat.and_le_right (by omega))
section
variable {L M : List (List Int)} {n : Nat} {lp : Nat → Bool} {R W : Nat → Nat} {F G : Int → Nat}
theorem nth_back {l : List Int} {t : Nat} {n : Nat} (h : 0 ≤ nth l t ∧ nth l t < (n : Int)) : ∃ j : Nat, j < n ∧ nth l t = (j : Int) := ⟨(nth l t).toNat, by omega, by omega⟩
theorem Hub.sol (h : Hub L M n lp) (hR : ∀ j, R j < 65536) (hs : Sol M (hubN R n) (hubN W n) (n + 1) F G) : Sol L R W n F G := by
  have hF : ∀ j : Nat, j < n + 1 → F (j : Int) < 65536 := fun j hj => by
    rw [hs.inn j hj]
    exact insN_all (hubN_lt n hR j)
  have hGn : G (n : Int) < 65536 := by
    rw [hs.out n (by omega)]
    refine orE_ltL fun t ht => ?_
    obtain ⟨j, hj, e⟩ := nth_back (h.inn t ht)
    rw [e]; exact hF j (by omega)
  refine ⟨fun j hj => ?_, fun j hj => ?_⟩
  · cases e : lp j with
    | false => rw [hs.out j (by omega), h.plain j hj e]
    | true =>
      rw [hs.out j (by omega), h.leap j hj e, orE_one, hs.inn n (by omega), hubN_hub, hubN_hub, insN_hub hGn, hs.out n (by omega), h.hub j hj e]
  · rw [hs.inn j (by omega), hubN_in hj, hubN_in hj]
theorem Hub.low (h : Hub L M n lp) (hR : ∀ j, R j < 65536) (hI : Inn L n) (hs : Sol L R W n F G) : ∃ F' G', Sol M (hubN R n) (hubN W n) (n + 1) F' G' ∧ ∀ j : Nat, j < n → F' (j : Int) = F (j : Int) ∧ G' (j : Int) = G (j : Int) := by
  have hF : ∀ j : Nat, j < n → F (j : Int) < 65536 := fun j hj => by
    rw [hs.inn j hj]
    exact insN_all (hR j)
  have hb : orE F (rowZ M n) (rowZ M n).length < 65536 := orE_ltL fun t ht => by
    obtain ⟨j, hj, e⟩ := nth_back (h.inn t ht)
    rw [e]; exact hF j hj
  generalize hv : orE F (rowZ M n) (rowZ M n).length = v at hb
  have hold : ∀ (H : Int → Nat) (j : Nat), j < n → putS H (n : Int) v (j : Int) = H (j : Int) := fun H j hj => putS_else _ _ (by omega)
  have hor : ∀ l : List Int, (∀ t, t < l.length → 0 ≤ nth l t ∧ nth l t < (n : Int)) → orE (putS F (n : Int) v) l l.length = orE F l l.length := fun l hl => orE_fit fun t ht => by
    obtain ⟨j, hj, e⟩ := nth_back (hl t ht)
    rw [e]; exact hold F j hj
  refine ⟨putS F (n : Int) v, putS G (n : Int) v, ⟨fun j hj => ?_, fun j hj => ?_⟩, fun j hj => ⟨hold F j hj, hold G j hj⟩⟩
  · by_cases e : j = n
    · subst e
      rw [putS_here, hor _ h.inn, hv]
    · have hj : j < n := by omega
      rw [hold G j hj]
      cases e : lp j with
      | false => rw [h.plain j hj e, hor _ (fun t ht => hI j t hj ht)]; exact hs.out j hj
      | true => rw [h.leap j hj e, orE_one, putS_here, ← hv, h.hub j hj e]; exact hs.out j hj
  · by_cases e : j = n
    · subst e
      rw [putS_here, putS_here, hubN_hub, hubN_hub, insN_hub hb]
    · have hj : j < n := by omega
      rw [hold F j hj, hold G j hj, hubN_in hj, hubN_in hj]
      exact hs.inn j hj
/-- The least sets of the graph with the hub are those of the graph. -/
theorem Hub.lst (h : Hub L M n lp) (hR : ∀ j, R j < 65536) (hI : Inn L n) (hs : Lst M (hubN R n) (hubN W n) (n + 1) F G) : Lst L R W n F G := by
  refine ⟨h.sol hR hs.sol, fun F' G' k j hj => ?_⟩
  obtain ⟨F2, G2, k2, e⟩ := h.low hR hI k
  have := hs.low F2 G2 k2 j (by omega)
  rw [(e j hj).1, (e j hj).2] at this
  exact this
end
/-- Sets that grow, and which blocks wait. -/
structure Wk (M : List (List Int)) (R W : Nat → Nat) (N : Nat) (F G : Int → Nat) (S : Int → Bool) : Prop where
  grw : Grw M R W N F G
  done : ∀ k : Nat, k < N → S (k : Int) = false → F (k : Int) = insN (R k) (W k) (G (k : Int)) ∧ ∀ j : Nat, j < N → (k : Int) ∈ rowZ M j → SubN (F (k : Int)) (G (j : Int))
/-- In the midst of one: m of those that come to it have been told. -/
structure Md (M : List (List Int)) (R W : Nat → Nat) (N : Nat) (l : List Int) (k m : Nat) (F G : Int → Nat) (S : Int → Bool) : Prop where
  grw : Grw M R W N F G
  done : ∀ j : Nat, j < N → j ≠ k → S (j : Int) = false → F (j : Int) = insN (R j) (W j) (G (j : Int)) ∧ ∀ i : Nat, i < N → (j : Int) ∈ rowZ M i → SubN (F (j : Int)) (G (i : Int))
  here : S (k : Int) = false → F (k : Int) = insN (R k) (W k) (G (k : Int))
  told : ∀ t, t < m → SubN (F (k : Int)) (G (nth l t))
section
variable {M : List (List Int)} {R W : Nat → Nat} {N : Nat} {F G : Int → Nat} {S S' : Int → Bool} {l : List Int} {k m : Nat}
theorem mem_at {l : List Int} {x : Int} (h : x ∈ l) : ∃ t, t < l.length ∧ nth l t = x := by
  obtain ⟨t, ht, e⟩ := List.getElem_of_mem h
  refine ⟨t, ht, ?_⟩
  unfold nth
  rw [List.getD_eq_getElem?_getD, List.getElem?_eq_getElem ht, e]; rfl
theorem Wk.zero (hS : ∀ k : Nat, k < N → S (k : Int) = true) : Wk M R W N zeroS zeroS S := ⟨Grw.zero M R W N, fun k hk e => by rw [hS k hk] at e; cases e⟩
theorem Wk.fit (h : Wk M R W N F G S) (e : ∀ k : Nat, k < N → S (k : Int) = S' (k : Int)) : Wk M R W N F G S' := ⟨h.grw, fun k hk x => h.done k hk (by rw [e k hk]; exact x)⟩
/-- One is taken out: what is live ahead of it is told anew. -/
theorem Wk.take (h : Wk M R W N F G S) (hR : ∀ j, R j < 65536) (hW : ∀ j, W j < 65536) (hk : k < N) (hSk : S (k : Int) = true) (e : ∀ j : Nat, j < N → j ≠ k → S' (j : Int) = S (j : Int)) :
    Md M R W N l k 0 (putS F (k : Int) (insN (R k) (W k) (G (k : Int)))) G S' := by
  have hup : ∀ y, SubN (F y) (putS F (k : Int) (insN (R k) (W k) (G (k : Int))) y) := fun y => by
    by_cases e : y = (k : Int)
    · rw [e, putS_here]; exact h.grw.fst k hk
    · rw [putS_else _ _ e]; exact SubN.refl _
  refine ⟨⟨fun x => ⟨?_, (h.grw.lt x).2⟩, fun j hj => ?_, fun j hj => ?_, fun F' G' hs j hj => ?_⟩, fun j hj hne hS => ?_, fun _ => by rw [putS_here], fun t ht => by omega⟩
  · unfold putS
    split
    · exact insN_lt (hR k) (h.grw.lt _).2
    · exact (h.grw.lt x).1
  · by_cases e : j = k
    · rw [e, putS_here]; exact SubN.refl _
    · rw [putS_else _ _ (by omega)]; exact h.grw.fst j hj
  · exact (h.grw.snd j hj).trans (orE_sub fun t _ => hup _)
  · have := h.grw.top F' G' hs j hj
    by_cases e : j = k
    · subst e
      rw [putS_here]
      refine ⟨?_, this.2⟩
      rw [hs.inn j hj]
      exact insN_sub (hW j) this.2
    · rw [putS_else _ _ (by omega)]; exact this
  · rw [e j hj hne] at hS
    rw [putS_else _ _ (by omega)]
    exact h.done j hj hS
/-- One more that comes to it has all that is live ahead of it already. -/
theorem Md.skip (h : Md M R W N l k m F G S) (e : SubN (F (k : Int)) (G (nth l m))) : Md M R W N l k (m + 1) F G S := ⟨h.grw, h.done, h.here, fun t ht => by
  by_cases x : t = m
  · subst x; exact e
  · exact h.told t (by omega)⟩
/-- One more that comes to it grows, and waits. -/
theorem Md.grow (h : Md M R W N l k m F G S) (hW : ∀ j, W j < 65536) (hk : k < N) {f : Nat} (hf : f < N) (hl : nth l m = (f : Int)) (hm : (k : Int) ∈ rowZ M f) (e : ∀ j : Nat, j < N → j ≠ f → S' (j : Int) = S (j : Int)) (hS' : S' (f : Int) = true) :
    Md M R W N l k (m + 1) F (putS G (f : Int) (G (f : Int) ||| F (k : Int))) S' := by
  have hup : ∀ y, SubN (G y) (putS G (f : Int) (G (f : Int) ||| F (k : Int)) y) := fun y r x => by
    by_cases e : y = (f : Int)
    · rw [e, putS_here, Nat.testBit_or, ← e, x]; rfl
    · rw [putS_else _ _ e]; exact x
  obtain ⟨t0, ht0, et0⟩ := mem_at hm
  refine ⟨⟨fun x => ⟨(h.grw.lt x).1, ?_⟩, fun j hj => ?_, fun j hj => ?_, fun F' G' hs j hj => ?_⟩, fun j hj hne hS => ?_, fun hS => ?_, fun t ht => ?_⟩
  · unfold putS
    split
    · exact orN_lt (h.grw.lt _).2 (h.grw.lt _).1
    · exact (h.grw.lt x).2
  · exact (h.grw.fst j hj).trans (insN_sub (hW j) (hup _))
  · by_cases e : j = f
    · subst e
      rw [putS_here]
      intro r x
      rw [Nat.testBit_or, Bool.or_eq_true] at x
      rcases x with x | x
      · exact h.grw.snd j hj r x
      · exact orE_in ht0 r (by rw [et0]; exact x)
    · rw [putS_else _ _ (by omega)]; exact h.grw.snd j hj
  · have ht := h.grw.top F' G' hs j hj
    by_cases e : j = f
    · subst e
      rw [putS_here]
      refine ⟨ht.1, fun r x => ?_⟩
      rw [Nat.testBit_or, Bool.or_eq_true] at x
      rcases x with x | x
      · exact ht.2 r x
      · rw [hs.out j hj]
        exact orE_in ht0 r (by rw [et0]; exact (h.grw.top F' G' hs k hk).1 r x)
    · rw [putS_else _ _ (by omega)]; exact ht
  · by_cases x : j = f
    · subst x; rw [hS'] at hS; cases hS
    · rw [e j hj x] at hS
      obtain ⟨a, b⟩ := h.done j hj hne hS
      rw [putS_else _ _ (by omega)]
      exact ⟨a, fun i hi hm => (b i hi hm).trans (hup _)⟩
  · by_cases x : k = f
    · subst x; rw [hS'] at hS; cases hS
    · rw [e k hk x] at hS
      rw [putS_else _ _ (by omega)]
      exact h.here hS
  · by_cases x : t = m
    · subst x
      rw [hl, putS_here]
      intro r y
      rw [Nat.testBit_or, y, Bool.or_true]
    · exact (h.told t (by omega)).trans (hup _)
/-- All that come to it have been told. -/
theorem Md.wk (h : Md M R W N l k m F G S) (hl : ∀ j : Nat, j < N → (k : Int) ∈ rowZ M j → (j : Int) ∈ l) (hm : m = l.length) : Wk M R W N F G S := ⟨h.grw, fun j hj hS => by
  by_cases x : j = k
  · subst x
    refine ⟨h.here hS, fun i hi hi2 => ?_⟩
    obtain ⟨t, ht, et⟩ := mem_at (hl i hi hi2)
    rw [← et]
    exact h.told t (by omega)
  · exact h.done j hj x hS⟩
/-- None waits: the least sets. -/
theorem Wk.lst (h : Wk M R W N F G S) (hI : Inn M N) (hS : ∀ k : Nat, k < N → S (k : Int) = false) : Lst M R W N F G := by
  refine ⟨⟨fun j hj => ?_, fun j hj => (h.done j hj (hS j hj)).1⟩, h.grw.top⟩
  refine SubN.anti (h.grw.snd j hj) (orE_out fun t ht => ?_)
  obtain ⟨i, hi, e⟩ := nth_back (hI j t hj ht)
  rw [e]
  refine (h.done i hi (hS i hi)).2 j hj ?_
  rw [← e]
  exact nth_mem ht
/-- A set that grows. -/
theorem or_grows {a b : Nat} (hne : lessN b a ≠ 0) (ha : a < 65536) : a < a ||| b := by
  refine Nat.lt_of_le_of_ne Nat.left_le_or fun e => hne ?_
  apply Nat.eq_of_testBit_eq
  intro i
  rw [lessN_bit ha, Nat.zero_testBit]
  have h3 : a.testBit i = (a.testBit i || b.testBit i) := by
    have := congrArg (fun x => Nat.testBit x i) e
    simp only [Nat.testBit_or] at this
    exact this
  clear e
  generalize a.testBit i = x at *
  generalize b.testBit i = y at *
  cases x <;> cases y <;> first | exact absurd h3 (by decide) | simp
theorem less_zero {a b : Nat} (ha : a < 65536) (hb : b < 65536) (h : lessN b a = 0) : SubN b a := fun r x => by
  have := congrArg (fun y => Nat.testBit y r) h
  simp only [lessN_bit ha, x, Nat.zero_testBit, Bool.true_and] at this
  cases e : a.testBit r with
  | true => rfl
  | false =>
    rw [e] at this
    have h16 : r < 16 := by
      refine Classical.byContradiction fun hn => ?_
      have : b.testBit r = false := Nat.testBit_lt_two_pow (Nat.lt_of_lt_of_le hb (Nat.pow_le_pow_right (n := 2) (by omega) (show 16 ≤ r by omega)))
      rw [this] at x; cases x
    simp [h16] at this
theorem lowS_put {F : Int → Nat} {n f : Nat} {v : Nat} (hf : f < n) (h1 : F (f : Int) < v) (h2 : v < 65536) : lowS (putS F (f : Int) v) n < lowS F n := by
  refine lowS_lt (fun i hi => ?_) hf (by rw [putS_here]; exact h1) (by rw [putS_here]; exact h2)
  by_cases e : i = f
  · subst e; rw [putS_here]; omega
  · rw [putS_else _ _ (by omega)]; exact Nat.le_refl _
end
/-- Edges turned round, as members. -/
theorem back_mem {M : List (List Int)} {k j : Nat} (hk : k < M.length) (hj : j < M.length) (h : (k : Int) ∈ rowZ M j) : (j : Int) ∈ rowZ (backT M M.length) k := by
  unfold backT
  rw [rowZ_map hk, plcT_mem]
  refine ⟨by omega, by omega, ?_⟩
  unfold backR hasZ
  rw [show ((j : Int)).toNat = j by omega]
  exact decide_eq_true h
theorem back_at {M : List (List Int)} {k t : Nat} (hk : k < M.length) (ht : t < (rowZ (backT M M.length) k).length) : ∃ f : Nat, f < M.length ∧ nth (rowZ (backT M M.length) k) t = (f : Int) ∧ (k : Int) ∈ rowZ M f := by
  have hm := nth_mem ht
  generalize nth (rowZ (backT M M.length) k) t = x at hm
  unfold backT at hm
  rw [rowZ_map hk, plcT_mem] at hm
  obtain ⟨h0, h1, h2⟩ := hm
  unfold backR hasZ at h2
  exact ⟨x.toNat, by omega, by omega, of_decide_eq_true h2⟩

end Go.Proofs.YtfnicgihpelhhaaGreat
