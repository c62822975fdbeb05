/-
  What is live behind each place, gone through block by block, plain. Blocks that leap; the text in which the first leap alone is left has the same blocks and edges; the lists with the hub; plain. slices.Clone of a row of words; a row of words in a block of its own that is written. A machine goes from a block to one of its edges: plain.
-/
import Derived.Test.YtfnicgihpelhhaaGreatProg
import Derived.WalkKit
import Derived.WalkSpells
import Derived.WalkLawsBesides
import Derived.RowKit3
import Derived.Below
import Derived.Deep.QuietTactic
import Derived.BigQuiet
import Derived.WalkSmall
import Derived.Laws.Rows
import Derived.Test.YtfnicgihpelhhaaGreatPd19
import Derived.Test.YtfnicgihpelhhaaGreatPd05
import Derived.Test.YtfnicgihpelhhaaGreatPd18
import Derived.Test.YtfnicgihpelhhaaGreatPd04
import Derived.Test.YtfnicgihpelhhaaGreatPd02
import Derived.Deep.AppendLies
import Derived.Deep.DeepCutAuto
import Derived.Deep.RegionHeld3
import Derived.Great.BuildSlice
import Derived.Laws.BitsAllLaws
import Derived.Laws.CopyOwn
import Derived.Laws.Tables
import Derived.Test.YtfnicgihpelhhaaGreatPd11
namespace Go.Proofs.YtfnicgihpelhhaaGreat
open Go.RowKit

def Dn (text : List Int) (L : List Rel) (G H : Int → Nat) (k : Nat) : Prop := ∀ i : Nat, i < k → ∀ p : Nat, rAt L i ≤ (p : Int) → (p : Int) < rSym L i → H (p : Int) = setB text (rSym L i) (G (i : Int)) (rSym L i - 1 - (p : Int)).toNat
def Dp (text : List Int) (L : List Rel) (G H : Int → Nat) (k : Nat) (x : Int) : Prop := Dn text L G H k ∧ ∀ p : Nat, x < (p : Int) → (p : Int) < rSym L k → H (p : Int) = setB text (rSym L k) (G (k : Int)) (rSym L k - 1 - (p : Int)).toNat
section
variable {text : List Int} {L : List Rel} {G H : Int → Nat} {k : Nat}
theorem Dp.start (h : Dn text L G H k) : Dp text L G H k (rSym L k - 1) := ⟨h, fun p a b => by omega⟩
theorem Dp.put {x : Nat} (h : Dp text L G H k (x : Int)) (hm : ∀ i, i < k → rSym L i ≤ rAt L k) (hx : rAt L k ≤ (x : Int)) (s : Nat) (hs : s = setB text (rSym L k) (G (k : Int)) (rSym L k - 1 - (x : Int)).toNat) : Dp text L G (putS H (x : Int) s) k ((x : Int) - 1) := by
  refine ⟨fun i hi p a b => ?_, fun p a b => ?_⟩
  · have := hm i hi
    rw [putS_else _ _ (by omega)]
    exact h.1 i hi p a b
  · by_cases e : p = x
    · subst e
      rw [putS_here]; exact hs
    · rw [putS_else _ _ (by omega)]
      exact h.2 p (by omega) b
theorem Dp.done {x : Int} (h : Dp text L G H k x) (hx : x < rAt L k) : Dn text L G H (k + 1) := fun i hi p a b => by
  by_cases e : i = k
  · subst e
    exact h.2 p (by omega) b
  · exact h.1 i (by omega) p a b
end
theorem begin_zero (text : List Int) (ent : Int) : begF text ent 0 = true := by simp [begF, addK, setF]
theorem blkRise {text : List Int} {ent : Int} (hn : 0 < text.length) : ∀ {k : Nat}, k < (blkL text ent).length → ∀ i, i < k → rSym (blkL text ent) i ≤ rAt (blkL text ent) k
  | 0, _, i, hi => by omega
  | k + 1, hk, i, hi => by
    have h1 : rAt (blkL text ent) (k + 1) = rSym (blkL text ent) k := by
      have := (cov_here hn (begin_zero text ent) hk).1
      rw [cov_succ] at this
      exact this
    rw [h1]
    by_cases e : i = k
    · rw [e]; exact Int.le_refl _
    · have h2 := blkRise (ent := ent) hn (k := k) (by omega) i (by omega)
      have h3 := (blk_in (text := text) (ent := ent) (show k < (blkL text ent).length by omega)).2.1
      omega
/-- Each place lies in a block. -/
theorem blk_all {text : List Int} {ent : Int} (hn : 0 < text.length) {p : Nat} (hp : p < text.length) : ∃ i : Nat, i < (blkL text ent).length ∧ rAt (blkL text ent) i ≤ (p : Int) ∧ (p : Int) < rSym (blkL text ent) i := by
  have h : ∀ k : Nat, k ≤ (blkL text ent).length → (p : Int) < covAt (blkL text ent) k → ∃ i : Nat, i < k ∧ rAt (blkL text ent) i ≤ (p : Int) ∧ (p : Int) < rSym (blkL text ent) i := by
    intro k
    induction k with
    | zero => intro _ h; rw [cov_zero] at h; omega
    | succ k ih =>
      intro hk h
      have h1 : rAt (blkL text ent) k = covAt (blkL text ent) k := (cov_here hn (begin_zero text ent) (show k < (blkL text ent).length by omega)).1
      rw [cov_succ] at h
      by_cases e : (p : Int) < covAt (blkL text ent) k
      · obtain ⟨i, a, b⟩ := ih (by omega) e
        exact ⟨i, by omega, b⟩
      · exact ⟨k, by omega, by omega, h⟩
  have he : covAt (blkL text ent) (blkL text ent).length = (text.length : Int) := cov_end hn (begin_zero text ent)
  obtain ⟨i, a, b⟩ := h _ (Nat.le_refl _) (by rw [he]; omega)
  exact ⟨i, a, b⟩
theorem BhI.uniq {text : List Int} {ent : Int} (hn : 0 < text.length) {H H' : Int → Nat} (h : BhI text ent H) (k : BhI text ent H') (p : Nat) (hp : p < text.length) : H (p : Int) = H' (p : Int) := by
  obtain ⟨F, G, h1, h2⟩ := h
  obtain ⟨F', G', k1, k2⟩ := k
  obtain ⟨i, a, b, c⟩ := blk_all (ent := ent) hn hp
  rw [h2 i a p b c, k2 i a p b c, (Lst.uniq h1 k1 i a).2]


end Go.Proofs.YtfnicgihpelhhaaGreat

namespace Go.Proofs.YtfnicgihpelhhaaGreat
open Go.RowKit

/-- Does the block k leap: end in Calls or Go? -/
def lpB (text : List Int) (ent : Int) (k : Nat) : Bool := dOp (lastW text ent k) == 18 || dOp (lastW text ent k) == 19
def lpF (text : List Int) (ent : Int) (y : Int) : Bool := lpB text ent y.toNat
def lpL (text : List Int) (ent : Int) : List Int := plcT (lpF text ent) (blkL text ent).length
theorem lpF_at (text : List Int) (ent : Int) (k : Nat) : lpF text ent (k : Int) = lpB text ent k := by unfold lpF; rw [show ((k : Int)).toNat = k by omega]
/-- The place of the t-th leap. -/
def lpP (text : List Int) (ent : Int) (t : Nat) : Nat := (rSym (blkL text ent) (nth (lpL text ent) t).toNat - 1).toNat
theorem plcT_rise (f : Int → Bool) : ∀ (k : Nat) {s t : Nat}, s < t → t < (plcT f k).length → nth (plcT f k) s < nth (plcT f k) t
  | 0, s, t, _, h => by simp [plcT] at h
  | k + 1, s, t, hst, h => by
    cases e : f (k : Int) with
    | false => rw [plcT_no e] at h ⊢; exact plcT_rise f k hst h
    | true =>
      rw [plcT_yes e] at h ⊢
      rw [List.length_append] at h
      by_cases ht : t < (plcT f k).length
      · rw [nth_left ht, nth_left (by omega)]
        exact plcT_rise f k hst ht
      · have et : t = (plcT f k).length + 0 := by simp at h; omega
        rw [et, nth_right, nth_left (by omega)]
        have := (plcT_mem.1 (nth_mem (show s < (plcT f k).length by omega))).2.1
        exact this
theorem lp_at {text : List Int} {ent : Int} {t : Nat} (h : t < (lpL text ent).length) : ∃ k : Nat, k < (blkL text ent).length ∧ nth (lpL text ent) t = (k : Int) ∧ lpB text ent k = true := by
  have hm := plcT_mem.1 (nth_mem h)
  refine ⟨(nth (lpL text ent) t).toNat, by have := hm.2.1; have := hm.1; unfold lpL at *; omega, by have := hm.1; unfold lpL at *; omega, ?_⟩
  exact hm.2.2
theorem lp_has {text : List Int} {ent : Int} {k : Nat} (hk : k < (blkL text ent).length) (h : lpB text ent k = true) : ∃ t, t < (lpL text ent).length ∧ nth (lpL text ent) t = (k : Int) := by
  have hm : (k : Int) ∈ lpL text ent := plcT_mem.2 ⟨by omega, by omega, by rw [lpF_at]; exact h⟩
  obtain ⟨t, ht, e⟩ := mem_at hm
  exact ⟨t, ht, e⟩
theorem lpP_at {text : List Int} {ent : Int} {t k : Nat} (hk : k < (blkL text ent).length) (e : nth (lpL text ent) t = (k : Int)) : (lpP text ent t : Int) = rSym (blkL text ent) k - 1 ∧ lpP text ent t < text.length ∧ nth text (lpP text ent t) = lastW text ent k := by
  obtain ⟨h0, h1, h2⟩ := blk_in hk
  unfold lpP lastW
  rw [e, show ((k : Int)).toNat = k by omega]
  refine ⟨by omega, by omega, rfl⟩
theorem lpP_ne {text : List Int} {ent : Int} (hn : 0 < text.length) {s t : Nat} (hs : s < (lpL text ent).length) (ht : t < (lpL text ent).length) (hne : s ≠ t) : lpP text ent s ≠ lpP text ent t := by
  have key : ∀ {a b : Nat}, a < b → b < (lpL text ent).length → lpP text ent a < lpP text ent b := fun {a b} hab hb => by
    obtain ⟨i, hi, ei, _⟩ := lp_at (show a < (lpL text ent).length by omega)
    obtain ⟨j, hj, ej, _⟩ := lp_at hb
    have hr := plcT_rise (lpF text ent) (blkL text ent).length hab hb
    have hij : i < j := by unfold lpL at ei ej; omega
    have h1 := blkRise hn hj i hij
    have h2 := (blk_in hj).2.1
    have h3 := (lpP_at hi ei).1
    have h4 := (lpP_at hj ej).1
    omega
  rcases Nat.lt_or_ge s t with h | h
  · exact Nat.ne_of_lt (key h ht)
  · exact (Nat.ne_of_lt (key (by omega) hs)).symm
/-- The word that takes a leap's place: a Call or a Jump to the place 0. -/
def cutW (v : Int) : Int := if dOp v = 18 then 2281701376 else 2013265920
theorem cutW18 {v : Int} (h : dOp v = 18) : cutW v = 2281701376 := if_pos h
theorem cutW19 {v : Int} (h : dOp v = 19) : cutW v = 2013265920 := if_neg (by omega)
theorem call0 : dOp 2281701376 = 17 ∧ dN 2281701376 = 0 ∧ isT 2281701376 = true ∧ tgV 2281701376 = 0 := by decide
theorem jump0 : dOp 2013265920 = 15 ∧ dN 2013265920 = 0 ∧ isT 2013265920 = true ∧ tgV 2013265920 = 0 := by decide
/-- A text in which some leaps have given way. -/
structure OneL (text T : List Int) : Prop where
  len : T.length = text.length
  word : ∀ p, p < text.length → nth T p = nth text p ∨ ((dOp (nth text p) = 18 ∨ dOp (nth text p) = 19) ∧ nth T p = cutW (nth text p))
structure OneJ (text : List Int) (ent : Int) (T : List Int) (j : Nat) : Prop where
  one : OneL text T
  rest : ∀ t, t < (lpL text ent).length → t = 0 ∨ j < t → nth T (lpP text ent t) = nth text (lpP text ent t)
theorem nth_set {l : List Int} {i p : Nat} {v : Int} (hp : p < l.length) : nth (l.set i v) p = if i = p then v else nth l p := by
  unfold nth
  rw [List.getD_eq_getElem?_getD, List.getElem?_set, List.getD_eq_getElem?_getD]
  by_cases e : i = p
  · rw [if_pos e, if_pos e, if_pos (by omega)]; rfl
  · rw [if_neg e, if_neg e]
theorem OneJ.zero (text : List Int) (ent : Int) : OneJ text ent text 0 := ⟨⟨rfl, fun _ _ => .inl rfl⟩, fun _ _ _ => rfl⟩
theorem lp_ops {text : List Int} {ent : Int} {k : Nat} (h : lpB text ent k = true) : dOp (lastW text ent k) = 18 ∨ dOp (lastW text ent k) = 19 := by
  unfold lpB at h
  simpa using h
theorem OneJ.step {text : List Int} {ent : Int} {T : List Int} {j : Nat} (h : OneJ text ent T j) (hn : 0 < text.length) (hj : j + 1 < (lpL text ent).length) : OneJ text ent (T.set (lpP text ent (j + 1)) (cutW (nth T (lpP text ent (j + 1))))) (j + 1) := by
  obtain ⟨k, hk, ek, hl⟩ := lp_at hj
  obtain ⟨_, h2, h3⟩ := lpP_at hk ek
  have hT : nth T (lpP text ent (j + 1)) = nth text (lpP text ent (j + 1)) := h.rest _ hj (.inr (by omega))
  have hlen := h.one.len
  rw [hT]
  refine ⟨⟨by rw [List.length_set]; exact hlen, fun p hp => ?_⟩, fun t ht hc => ?_⟩
  · rw [nth_set (by omega)]
    by_cases e : lpP text ent (j + 1) = p
    · rw [if_pos e]
      subst e
      exact .inr ⟨by rw [h3]; exact lp_ops hl, rfl⟩
    · rw [if_neg e]; exact h.one.word p hp
  · obtain ⟨i, hi, ei, _⟩ := lp_at ht
    have h5 := (lpP_at hi ei).2.1
    rw [nth_set (by omega), if_neg (lpP_ne hn hj ht (by omega))]
    exact h.rest t ht (by omega)
section
variable {text T : List Int} {ent : Int} {ml : Nat}
theorem OneL.oTak (h : OneL text T) {p : Nat} (hp : p < text.length) : gTak T p = gTak text p := by
  unfold gTak
  rcases h.word p hp with e | ⟨e, e2⟩
  · rw [e]
  · rw [e2]
    rcases e with e | e
    · rw [cutW18 e, call0.1, e]; rfl
    · rw [cutW19 (by assumption), jump0.1, e]; rfl
theorem OneL.oSit (h : OneL text T) {p : Nat} (hp : p < text.length) : gSit T p = gSit text p := by
  unfold gSit
  rcases h.word p hp with e | ⟨e, e2⟩
  · rw [e]
  · rw [e2]
    rcases e with e | e
    · rw [cutW18 e, call0.1, e]; rfl
    · rw [cutW19 (by assumption), jump0.1, e]; rfl
theorem OneL.oEnd (h : OneL text T) {p : Nat} (hp : p < text.length) : gEnd T p = gEnd text p := by
  unfold gEnd
  rcases h.word p hp with e | ⟨e, e2⟩
  · rw [e]
  · rw [e2]
    rcases e with e | e
    · rw [cutW18 e, call0.1, e]; rfl
    · rw [cutW19 (by assumption), jump0.1, e]; rfl
theorem anyF_fit {f g : Nat → Option Int} {k : Nat} (h : ∀ i, i < k → f i = g i) (y : Int) : anyF f k y = anyF g k y := by
  rw [Bool.eq_iff_iff, anyF_iff, anyF_iff]
  constructor
  · rintro ⟨i, hi, e⟩; exact ⟨i, hi, by rw [← h i hi]; exact e⟩
  · rintro ⟨i, hi, e⟩; exact ⟨i, hi, by rw [h i hi]; exact e⟩
theorem OneL.oLab (h : OneL text T) {p : Nat} (hp : p < text.length) : gLab T p = gLab text p ∨ (gLab text p = none ∧ gLab T p = some 0) := by
  rcases h.word p hp with e | ⟨e, e2⟩
  · left; unfold gLab; rw [e]
  · right
    have hold : isT (nth text p) = false := by
      unfold isT hP
      rcases e with e | e <;> (rw [e]; rfl)
    refine ⟨by unfold gLab; rw [hold]; rfl, ?_⟩
    unfold gLab
    rw [e2]
    rcases e with e | e
    · rw [cutW18 e, call0.2.2.1, call0.2.2.2]; rfl
    · rw [cutW19 (by assumption), jump0.2.2.1, jump0.2.2.2]; rfl
theorem OneL.oTakF (h : OneL text T) (y : Int) : takF T y = takF text y := by
  unfold takF addK
  rw [h.len, anyF_fit (fun i hi => h.oTak hi)]
theorem OneL.oSitF (h : OneL text T) (y : Int) : sitF T y = sitF text y := by
  unfold sitF addK
  rw [h.len, anyF_fit (fun i hi => h.oSit hi)]
theorem OneL.beg (h : OneL text T) (y : Int) : begF T ent y = begF text ent y := by
  rw [Bool.eq_iff_iff, beg_iff, beg_iff, lab_iff, lab_iff, h.len, anyF_fit (f := gEnd T) (fun i hi => h.oEnd hi), anyF_iff (g := gLab T), anyF_iff (g := gLab text)]
  constructor
  · rintro (a | (a | ⟨i, hi, e⟩) | a)
    · exact .inl a
    · exact .inr (.inl (.inl a))
    · rcases h.oLab hi with e2 | ⟨_, e2⟩
      · exact .inr (.inl (.inr ⟨i, hi, by rw [← e2]; exact e⟩))
      · rw [e2] at e
        injection e with e
        exact .inl e.symm
    · exact .inr (.inr a)
  · rintro (a | (a | ⟨i, hi, e⟩) | a)
    · exact .inl a
    · exact .inr (.inl (.inl a))
    · rcases h.oLab hi with e2 | ⟨e2, _⟩
      · exact .inr (.inl (.inr ⟨i, hi, by rw [e2]; exact e⟩))
      · rw [e2] at e; cases e
    · exact .inr (.inr a)
theorem OneL.blk (h : OneL text T) (ent : Int) : blkL T ent = blkL text ent := by
  unfold blkL
  rw [h.len, plcT_fit (fun i _ => h.beg (ent := ent) (i : Int))]
theorem OneL.may (h : OneL text T) (hM : MayI text ml ent) : MayI T ml ent := by
  have hl := h.len
  obtain ⟨a, b, c, d, e⟩ := hM.past
  refine ⟨⟨by omega, by omega, c, d, by omega⟩, fun j hj => ?_, ?_⟩
  · have hf := hM.far j (by omega)
    unfold farT at hf ⊢
    rw [hl]
    rcases h.word j (by omega) with e1 | ⟨e1, e2⟩
    · rw [e1]; exact hf
    · rw [e2]
      rcases e1 with e1 | e1
      · rw [cutW18 e1, call0.2.2.2, decide_eq_false (by omega), Bool.and_false]
      · rw [cutW19 (by assumption), jump0.2.2.2, decide_eq_false (by omega), Bool.and_false]
  · have hk := hM.last
    rw [hl]
    rcases h.word (text.length - 1) (by omega) with e1 | ⟨e1, e2⟩
    · rw [e1]; exact hk
    · rw [e2]
      unfold lastOK at hk ⊢
      have hk := of_decide_eq_true hk
      rcases e1 with e1 | e1
      · omega
      · rw [cutW19 (by assumption), jump0.1]; rfl
theorem OneL.range (h : OneL text T) (hR : ∀ i, i < text.length → 0 ≤ nth text i ∧ nth text i < 4294967296) : ∀ i, i < T.length → 0 ≤ nth T i ∧ nth T i < 4294967296 := fun i hi => by
  rw [h.len] at hi
  rcases h.word i hi with e | ⟨_, e⟩
  · rw [e]; exact hR i hi
  · rw [e]
    unfold cutW
    split <;> omega
theorem OneL.edg (h : OneL text T) {i : Nat} (hw : lastW T ent i = lastW text ent i) (y : Int) : edgR T ent i y = edgR text ent i y := by
  unfold edgR edgB
  rw [hw, h.blk, h.oTakF, h.oSitF]
theorem OneL.last (h : OneL text T) {k : Nat} (hk : k < (blkL text ent).length) (hl : lpB text ent k = false) : lastW T ent k = lastW text ent k := by
  obtain ⟨h0, h1, h2⟩ := blk_in hk
  unfold lastW
  rw [h.blk]
  rcases h.word (rSym (blkL text ent) k - 1).toNat (by omega) with e | ⟨e, _⟩
  · exact e
  · exfalso
    unfold lpB lastW at hl
    rcases e with e | e <;> (rw [e] at hl; revert hl; decide)
theorem OneJ.last0 {j : Nat} (h : OneJ text ent T j) {k : Nat} (hk : k < (blkL text ent).length) (h0 : 0 < (lpL text ent).length) (e : nth (lpL text ent) 0 = (k : Int)) : lastW T ent k = lastW text ent k := by
  obtain ⟨p1, _, p3⟩ := lpP_at hk e
  have := h.rest 0 h0 (.inl rfl)
  rw [p3] at this
  rw [← this]
  unfold lastW
  rw [h.one.blk]
  congr 1
  omega
theorem edgT_row {text : List Int} {ent : Int} {n i : Nat} (h : i < n) : rowZ (edgT text ent n) i = plcT (edgR text ent i) (blkL text ent).length := rowZ_map h
theorem OneL.row (h : OneL text T) {n k : Nat} (hk : k < n) (hw : lastW T ent k = lastW text ent k) : rowZ (edgT T ent n) k = rowZ (edgT text ent n) k := by
  rw [edgT_row hk, edgT_row hk, h.blk]
  exact plcT_fit fun i _ => h.edg hw (i : Int)
/-- All that leap go to the same blocks. -/
theorem leap_row {text : List Int} {ent : Int} {n i j : Nat} (hi : i < n) (hj : j < n) (li : lpB text ent i = true) (lj : lpB text ent j = true) : rowZ (edgT text ent n) i = rowZ (edgT text ent n) j := by
  rw [edgT_row hi, edgT_row hj]
  refine plcT_fit fun y _ => ?_
  unfold edgR edgB goesF
  have h1 := lp_ops li
  have h2 := lp_ops lj
  rw [if_neg (by omega), if_neg (by omega), if_neg (by omega), if_pos h1, if_neg (by omega), if_neg (by omega), if_neg (by omega), if_pos h2]
end
/-- The lists as flow writes them: the first j leaps lead to the hub. -/
structure FlJ (text : List Int) (ent : Int) (T : List Int) (M : List (List Int)) (j : Nat) : Prop where
  len : M.length = (blkL text ent).length + 1
  old : ∀ k, k < (blkL text ent).length → (∀ t, t < j → nth (lpL text ent) t ≠ (k : Int)) → rowZ M k = rowZ (edgT T ent (blkL text ent).length) k
  new : ∀ t, t < j → rowZ M (nth (lpL text ent) t).toNat = [((blkL text ent).length : Int)]
  hub : rowZ M (blkL text ent).length = if 0 < (lpL text ent).length then rowZ (edgT T ent (blkL text ent).length) (nth (lpL text ent) 0).toNat else []
theorem rowZ_setL {M : List (List Int)} {i t : Nat} {l : List Int} (ht : t < M.length) : rowZ (M.set i l) t = if i = t then l else rowZ M t := by
  unfold rowZ
  rw [List.getD_eq_getElem?_getD, List.getElem?_set, List.getD_eq_getElem?_getD]
  by_cases e : i = t
  · rw [if_pos e, if_pos e, if_pos (by omega)]; rfl
  · rw [if_neg e, if_neg e]
theorem FlJ.step {text : List Int} {ent : Int} {T : List Int} {M : List (List Int)} {j : Nat} (h : FlJ text ent T M j) (hj : j < (lpL text ent).length) : FlJ text ent T (M.set (nth (lpL text ent) j).toNat [((blkL text ent).length : Int)]) (j + 1) := by
  obtain ⟨i, hi, ei, _⟩ := lp_at hj
  have hl := h.len
  rw [ei, show ((i : Int)).toNat = i by omega]
  refine ⟨by rw [List.length_set]; exact hl, fun k hk hne => ?_, fun t ht => ?_, ?_⟩
  · rw [rowZ_setL (by omega), if_neg (fun e => hne j (by omega) (by rw [ei, e]))]
    exact h.old k hk fun t ht => hne t (by omega)
  · by_cases e : t = j
    · subst e
      rw [ei, show ((i : Int)).toNat = i by omega, rowZ_setL (by omega), if_pos rfl]
    · obtain ⟨i2, hi2, ei2, _⟩ := lp_at (show t < (lpL text ent).length by omega)
      have := h.new t (by omega)
      rw [ei2, show ((i2 : Int)).toNat = i2 by omega] at this ⊢
      rw [rowZ_setL (by omega)]
      split
      · rfl
      · exact this
  · rw [rowZ_setL (by omega), if_neg (by omega)]
    exact h.hub
theorem FlJ.is {text : List Int} {ent : Int} {T : List Int} {M : List (List Int)} {jj : Nat} (h : FlJ text ent T M (lpL text ent).length) (hT : OneJ text ent T jj) : Hub (edgT text ent (blkL text ent).length) M (blkL text ent).length (lpB text ent) := by
  have hrow0 : ∀ k, k < (blkL text ent).length → lpB text ent k = true → rowZ M (blkL text ent).length = rowZ (edgT text ent (blkL text ent).length) k := fun k hk hl => by
    obtain ⟨t, ht, et⟩ := lp_has hk hl
    have h0 : 0 < (lpL text ent).length := by omega
    obtain ⟨i, hi, ei, li⟩ := lp_at h0
    rw [h.hub, if_pos h0, ei, show ((i : Int)).toNat = i by omega, hT.one.row hi (hT.last0 hi h0 ei)]
    exact leap_row hi hk li hl
  refine ⟨h.len, fun k hk hl => ?_, fun k hk hl => ?_, hrow0, fun t ht => ?_⟩
  · rw [h.old k hk (fun t ht e => by
      obtain ⟨i, hi, ei, li⟩ := lp_at ht
      rw [ei] at e
      have : i = k := by omega
      subst this
      rw [li] at hl; cases hl)]
    exact hT.one.row hk (hT.one.last hk hl)
  · obtain ⟨t, ht, et⟩ := lp_has hk hl
    have := h.new t ht
    rwa [et, show ((k : Int)).toNat = k by omega] at this
  · by_cases h0 : 0 < (lpL text ent).length
    · obtain ⟨i, hi, ei, li⟩ := lp_at h0
      rw [hrow0 i hi li] at ht ⊢
      rw [edgT_row hi] at ht ⊢
      have := plcT_mem.1 (nth_mem ht)
      exact ⟨this.1, this.2.1⟩
    · rw [h.hub, if_neg h0] at ht
      simp at ht
theorem edgT_inn (text : List Int) (ent : Int) : Inn (edgT text ent (blkL text ent).length) (blkL text ent).length := fun k t hk ht => by
  rw [edgT_row hk] at ht ⊢
  have := plcT_mem.1 (nth_mem ht)
  exact ⟨this.1, this.2.1⟩
theorem Hub.innM {L M : List (List Int)} {n : Nat} {lp : Nat → Bool} (h : Hub L M n lp) (hI : Inn L n) : Inn M (n + 1) := fun k t hk ht => by
  by_cases e : k = n
  · subst e
    have := h.inn t ht
    omega
  · have hk : k < n := by omega
    cases el : lp k with
    | false =>
      rw [h.plain k hk el] at ht ⊢
      have := hI k t hk ht
      omega
    | true =>
      rw [h.leap k hk el] at ht ⊢
      obtain rfl : t = 0 := by simpa using ht
      show 0 ≤ (n : Int) ∧ (n : Int) < _
      omega
theorem Hub.rowlen {text : List Int} {ent : Int} {M : List (List Int)} (h : Hub (edgT text ent (blkL text ent).length) M (blkL text ent).length (lpB text ent)) (h0 : ∀ (_ : ¬ ∃ k, k < (blkL text ent).length ∧ lpB text ent k = true), rowZ M (blkL text ent).length = []) (k : Nat) (hk : k < (blkL text ent).length + 1) : (rowZ M k).length ≤ (blkL text ent).length + 1 := by
  by_cases e : k = (blkL text ent).length
  · subst e
    by_cases hx : ∃ k, k < (blkL text ent).length ∧ lpB text ent k = true
    · obtain ⟨i, hi, li⟩ := hx
      rw [h.hub i hi li, edgT_row hi]
      have := plcT_len (edgR text ent i) (blkL text ent).length
      omega
    · rw [h0 hx]; simp
  · have hk : k < (blkL text ent).length := by omega
    cases el : lpB text ent k with
    | false =>
      rw [h.plain k hk el, edgT_row hk]
      have := plcT_len (edgR text ent k) (blkL text ent).length
      omega
    | true => rw [h.leap k hk el]; simp

end Go.Proofs.YtfnicgihpelhhaaGreat

namespace Go.Proofs.YtfnicgihpelhhaaGreat
open Go.RowKit

theorem bs_c (w : World) : (Instr.buildSlice 22 0 #[]).run Tryz.prog w = .ok (.slice (some ⟨w.heap.size, 0, none⟩) 0 0) (w.alloc (.cells #[] 45)) := by kernel_rfl
theorem some_c (a : Addr) (n c : Nat) (w : World) : (binOp BinOp.eql 22 (.slice (some a) n c) (.slice none 0 0)).run Tryz.prog w = .ok (.bool false) w := by kernel_rfl
theorem info_c : ∃ i, Tryz.prog.info? 45 = some i ∧ i.zero = some (.int .u32 0) ∧ i.size = 1 ∧ i.bytes = 4 :=
  ⟨(Tryz.prog.info? 45).get (by kernel_rfl), by kernel_rfl, by kernel_rfl, by kernel_rfl, by kernel_rfl⟩
/-- A row of words in the block g. -/
def WdAt (w : World) (g : Nat) (l : List Int) : Prop := ∃ cs : Array Value, w.heap[g]? = some (.cells cs 45 (0, 0)) ∧ l.length ≤ cs.size ∧ ∀ i, i < l.length → cs[i]? = some (.int .u32 (nth l i))
section
variable {w w1 : World} {g : Nat} {l : List Int}
theorem WdAt.lt (h : WdAt w g l) : g < w.heap.size := by
  obtain ⟨cs, h1, _⟩ := h
  exact (Array.getElem?_eq_some_iff.1 h1).1
theorem WdAt.keep (h : WdAt w g l) (hb : Below w.heap.size w w1) : WdAt w1 g l := by
  obtain ⟨cs, h1, h2⟩ := h
  exact ⟨cs, by rw [hb.block g (Array.getElem?_eq_some_iff.1 h1).1]; exact h1, h2⟩
theorem WdAt.other (h : WdAt w g l) {g2 i : Nat} {v : Value} (hne : g ≠ g2) : WdAt (w.setCell ⟨g2, i, none⟩ v) g l := by
  obtain ⟨cs, hb, hs⟩ := h
  exact ⟨cs, by rw [Below.heap_setCell _ _ _ _ hne]; exact hb, hs⟩
theorem WdAt.cell (h : WdAt w g l) {p : Nat} (hp : p < l.length) : w.cell? ⟨g, p, none⟩ = some (.int .u32 (nth l p)) := by
  obtain ⟨cs, hb, _, hc⟩ := h
  simp [World.cell?, hb, hc p hp]
theorem WdAt.fro (h : WdAt w g l) (p : Nat) : w.frozen? ⟨g, p, none⟩ = false := by
  obtain ⟨cs, hb, _⟩ := h
  simp [World.frozen?, hb]
theorem WdAt.ints (h : WdAt w g l) : IntsAt w (some ⟨g, 0, none⟩) .u32 l := fun i hi => ⟨_, rfl, by rw [add0]; exact h.cell hi⟩
theorem WdAt.put (h : WdAt w g l) {p : Nat} (_hp : p < l.length) (v : Int) : WdAt (w.setCell ⟨g, p, none⟩ (.int .u32 v)) g (l.set p v) := by
  obtain ⟨cs, hb, hs, hc⟩ := h
  refine ⟨cs.setIfInBounds p (.int .u32 v), box_set hb _ _, by simpa using hs, fun i hi => ?_⟩
  rw [List.length_set] at hi
  rw [Array.getElem?_setIfInBounds, nth_set hi]
  by_cases e : p = i
  · rw [if_pos e, if_pos (by omega), if_pos e]
  · rw [if_neg e, if_neg e, hc i hi]
end
theorem iVals_oneC (K : IntKind) (l : List Int) : ∀ u ∈ iVals K l, u.oneCell' = true := fun u hu => by
  unfold iVals at hu
  rw [List.mem_map] at hu
  obtain ⟨x, -, rfl⟩ := hu
  rfl
set_option maxRecDepth 100000 in
set_option maxHeartbeats 1000000 in
theorem clone32_any (a : Addr) (c : Nat) (l : List Int) (w : World) (h : IntsAt w (some a) .u32 l) (hl : l.length ≤ 1048576) :
    Calls Tryz.prog 90 #[.slice (some a) l.length c] w fun e w' => ∃ g cap, e = .returned (.slice (some ⟨g, 0, none⟩) l.length cap) ∧ l.length ≤ cap ∧ WdAt w' g l ∧ w.heap.size ≤ g ∧ Below w.heap.size w w' := by
  obtain ⟨i0, hi, hz0, hz1, hz2⟩ := info_c
  have hb0 := bs_c
  have hn0 := some_c a l.length c
  have HC : Hid (∀ j u, (iVals .u32 l)[j]? = some u → (w.alloc (.cells #[] 45)).cell? (a.add j) = some u) := fun j u hu => by
    have hj : j < l.length := by
      have := (List.getElem?_eq_some_iff.1 hu).1
      simpa [iVals] using this
    obtain ⟨b, e, q⟩ := h j hj
    cases e
    rw [iVals_get hj] at hu
    cases hu
    exact lkeep (lb_alloc (Below.refl _ _) _) q
  have H1 : Hid (∀ u ∈ iVals .u32 l, u.oneCell' = true) := iVals_oneC _ _
  have HL : Hid ((iVals .u32 l).length = l.length * 1) := by unfold Hid iVals; simp
  have HG : Hid (∀ i, i < l.length → (iVals .u32 l)[i]? = some (.int .u32 (nth l i))) := fun i hi => iVals_get hi
  clear h
  generalize iVals .u32 l = xs at *
  go_enter Tryz.func90, Tryz.ntmps90
  go_wp2_with (at_builtin; refine wpList_append_own _ rfl (.tmp 5) (.tmp 6) 22 rfl w.heap.size 45 i0 (.int .u32 0) 1 4 Tryz.underlying22 hi hz0 hz1 hz2 rfl (by decide) (.slice (some ⟨w.heap.size, 0, none⟩) 0 0) 0 [] rfl (World.ownsRow_made w #[] 0 (Nat.le_refl _) (Nat.zero_le _) rfl) a l.length c xs rfl HL.out HC.out H1.out (by unfold maxLen; omega) (by omega) (by simp) ?_; intro v' w' hown hgrow hnil)
  all_goals (
    have HO : Hid (w'.ownsRow w.heap.size 45 1 v' l.length xs) := by have e := hown; rw [Nat.zero_add, List.nil_append] at e; exact e
    have HG2 : Hid _ := hgrow
    have HN : Hid _ := hnil
    clear hown hgrow hnil
    go_wp2
    go_ret
    rcases HO.out.2 with ⟨e, h0⟩ | ⟨g, cap, cur, e, hb, hg, hn, hm, hs, ht⟩
    · exact absurd ((HN.out.1 e).1) (by simp)
    · refine ⟨g, cap, by rw [e]; rfl, hn, ⟨cur, hg, by omega, fun i hi => ?_⟩, hb, Below.grown (lb_alloc (Below.refl _ _) _) HG2.out (by simp) (fun k e => by simp [Value.ownBlock] at e; omega)⟩
      have := HG.out i hi
      rw [← ht, List.getElem?_take_of_lt (by omega)] at this
      simpa using this)

end Go.Proofs.YtfnicgihpelhhaaGreat

namespace Go.Proofs.YtfnicgihpelhhaaGreat
open Go.RowKit

/-- Each place lies in a block. -/
theorem in_blk {f : Int → Bool} {n : Nat} (h0 : f 0 = true) (p : Nat) (hp : p < n) : ∃ b : Nat, b < (blkN f n).length ∧ rAt (blkN f n) b ≤ (p : Int) ∧ (p : Int) < rSym (blkN f n) b := by
  induction p with
  | zero =>
    obtain ⟨h1, h2⟩ := plc_first (f := f) (n := n) hp h0
    have h3 := blk_wide (f := f) (n := n) h1
    rw [blk_from h1, h2] at h3
    exact ⟨0, by rw [blkN_len]; exact h1, by rw [blk_from h1, h2]; omega, by omega⟩
  | succ p ih =>
    obtain ⟨b, hb, h1, h2⟩ := ih (by omega)
    by_cases h3 : ((p + 1 : Nat) : Int) < rSym (blkN f n) b
    · exact ⟨b, hb, by omega, h3⟩
    · rw [blkN_len] at hb
      by_cases h4 : b + 1 < (plcT f n).length
      · have h5 := blk_next (f := f) (n := n) h4
        have h6 := blk_wide (f := f) (n := n) h4
        exact ⟨b + 1, by rw [blkN_len]; exact h4, by omega, by omega⟩
      · have h5 := blk_last (f := f) (n := n) (k := b) (by omega)
        omega
theorem blk_mono {f : Int → Bool} {n i j : Nat} (hij : i < j) (hj : j < (blkN f n).length) : rSym (blkN f n) i ≤ rAt (blkN f n) j := by
  rw [blkN_len] at hj
  rw [blk_next (show i + 1 < (plcT f n).length by omega), blk_from (show i + 1 < (plcT f n).length by omega), blk_from hj]
  by_cases e : i + 1 = j
  · rw [e]; exact Int.le_refl _
  · have := plc_rise (f := f) (n := n) (show i + 1 < j by omega) hj
    omega
theorem blk_only {f : Int → Bool} {n i j : Nat} {p : Int} (hi : i < (blkN f n).length) (hj : j < (blkN f n).length) (a1 : rAt (blkN f n) i ≤ p) (a2 : p < rSym (blkN f n) i) (b1 : rAt (blkN f n) j ≤ p) (b2 : p < rSym (blkN f n) j) : i = j := by
  rcases Nat.lt_trichotomy i j with h | h | h
  · have := blk_mono h hj; omega
  · exact h
  · have := blk_mono h hi; omega
theorem of_in {f : Int → Bool} {n b : Nat} {p : Int} (hb : b < (blkN f n).length) (h1 : rAt (blkN f n) b ≤ p) (h2 : p < rSym (blkN f n) b) : ofB (blkN f n) p = (b : Int) := by
  refine of_at hb (fun j hj => ?_) ?_
  · unfold hasB
    rw [decide_eq_false_iff_not]
    intro h
    have := blk_mono hj hb
    omega
  · unfold hasB
    rw [decide_eq_true_eq]
    exact ⟨h1, h2⟩
/-- Inside a block nothing begins. -/
theorem no_beg {text : List Int} {ent : Int} {b : Nat} {p : Int} (hb : b < (blkL text ent).length) (h1 : rAt (blkL text ent) b < p) (h2 : p < rSym (blkL text ent) b) : begF text ent p = false := by
  cases h : begF text ent p with
  | false => rfl
  | true =>
    have hin := blk_in hb
    obtain ⟨k, hk, _, e⟩ := blk_begin (f := begF text ent) (n := text.length) (plcT_mem.2 ⟨by omega, by omega, h⟩)
    have hw := blk_in (text := text) (ent := ent) hk
    have : b = k := blk_only (f := begF text ent) (n := text.length) hb hk (p := p) (by show rAt (blkL text ent) b ≤ p; omega) h2 (by omega) (by
      have h3 : rAt (blkL text ent) k = p := e
      have := hw.2.1
      show p < rSym (blkL text ent) k
      omega)
    subst this
    have h3 : rAt (blkL text ent) b = p := e
    omega
/-- Where an instruction leads. -/
theorem deed_to {m : Mach} {op d a b n : Int} (he : (deedM m op d a b n).err = 0) (hr : (deedM m op d a b n).m.status = 0) :
    (endsB op = false ∧ (deedM m op d a b n).to = m.pc + 1) ∨ ((op = 15 ∨ op = 16 ∨ op = 17) ∧ (deedM m op d a b n).to = n.toNat) ∨ (op = 16 ∧ (deedM m op d a b n).to = m.pc + 1) ∨ ((op = 18 ∨ op = 19) ∧ ∃ k, wC m.regs k = true ∧ (deedM m op d a b n).to = (wV m.regs k).toNat) := by
  unfold deedM at he hr ⊢
  by_cases c1 : op < 0
  · rw [if_pos c1] at he; cases he
  rw [if_neg c1] at he hr ⊢
  by_cases c2 : op = 0
  · rw [if_pos c2] at he; cases he
  rw [if_neg c2] at he hr ⊢
  by_cases c3 : op = 1
  · rw [if_pos c3]; exact .inl ⟨by rw [c3]; rfl, rfl⟩
  rw [if_neg c3] at he hr ⊢
  by_cases c4 : op = 2
  · rw [if_pos c4]; exact .inl ⟨by rw [c4]; rfl, rfl⟩
  rw [if_neg c4] at he hr ⊢
  by_cases c5 : op ≤ 10
  · rw [if_pos c5] at he ⊢
    refine .inl ⟨by unfold endsB; rw [decide_eq_false_iff_not]; omega, ?_⟩
    unfold calcD at he ⊢
    by_cases k : cE m op a b = 0
    · rw [if_pos k]; rfl
    · rw [if_neg k] at he; exact absurd he k
  rw [if_neg c5] at he hr ⊢
  by_cases c6 : op = 11
  · rw [if_pos c6] at he ⊢
    refine .inl ⟨by rw [c6]; rfl, ?_⟩
    unfold loadD at he ⊢
    by_cases k : aE m a n = 0
    · rw [if_pos k]; rfl
    · rw [if_neg k] at he; exact absurd he k
  rw [if_neg c6] at he hr ⊢
  by_cases c7 : op = 12
  · rw [if_pos c7] at he ⊢
    refine .inl ⟨by rw [c7]; rfl, ?_⟩
    unfold storeD at he ⊢
    by_cases k : aE m a n = 0
    · rw [if_pos k]
    · rw [if_neg k] at he; exact absurd he k
  rw [if_neg c7] at he hr ⊢
  by_cases c8 : op = 13
  · rw [if_pos c8]
    refine .inl ⟨by rw [c8]; rfl, ?_⟩
    unfold inD
    split <;> rfl
  rw [if_neg c8] at he hr ⊢
  by_cases c9 : op = 14
  · rw [if_pos c9] at he ⊢
    refine .inl ⟨by rw [c9]; rfl, ?_⟩
    unfold outD at he ⊢
    by_cases k : rC m a = true
    · rw [if_pos k] at he; cases he
    · rw [if_neg k]
  rw [if_neg c9] at he hr ⊢
  by_cases c10 : op = 15
  · rw [if_pos c10]; exact .inr (.inl ⟨.inl c10, rfl⟩)
  rw [if_neg c10] at he hr ⊢
  by_cases c11 : op = 16
  · rw [if_pos c11] at he ⊢
    unfold zeroD at he ⊢
    by_cases k : rC m a = true
    · rw [if_pos k] at he; cases he
    · rw [if_neg k]
      by_cases k2 : rV m a = 0
      · rw [if_pos k2]; exact .inr (.inl ⟨.inr (.inl c11), rfl⟩)
      · rw [if_neg k2]; exact .inr (.inr (.inl ⟨c11, rfl⟩))
  rw [if_neg c11] at he hr ⊢
  by_cases c12 : op = 17
  · rw [if_pos c12]; exact .inr (.inl ⟨.inr (.inr c12), rfl⟩)
  rw [if_neg c12] at he hr ⊢
  by_cases c13 : op = 18
  · rw [if_pos c13] at he ⊢
    unfold callsD at he ⊢
    by_cases k : rC m a = true
    · rw [if_pos k]; exact .inr (.inr (.inr ⟨.inl c13, a.toNat, k, rfl⟩))
    · rw [if_neg k] at he; cases he
  rw [if_neg c13] at he hr ⊢
  by_cases c14 : op = 19
  · rw [if_pos c14] at he ⊢
    unfold gotoD at he ⊢
    by_cases k : rC m a = true
    · rw [if_pos k]; exact .inr (.inr (.inr ⟨.inr c14, a.toNat, k, rfl⟩))
    · rw [if_neg k] at he; cases he
  rw [if_neg c14] at he hr ⊢
  by_cases c15 : op = 20
  · rw [if_pos c15]; exact .inl ⟨by rw [c15]; rfl, rfl⟩
  rw [if_neg c15] at hr
  cases hr
/-- Every sealed word is of a kind. -/
def Knw (G : Int → Prop) (l : List Wd) : Prop := ∀ k, wC l k = true → G (wV l k)
theorem Knw.set {G : Int → Prop} {l : List Wd} (h : Knw G l) (k : Nat) (x : Wd) (hx : x.2 = true → G x.1) : Knw G (l.set k x) := by
  intro j hj
  by_cases hk : k < l.length
  · rw [wC_set j hk] at hj
    rw [wV_set j hk]
    split
    · rename_i e; rw [if_pos e] at hj; exact hx hj
    · rename_i e; rw [if_neg e] at hj; exact h j hj
  · rw [List.set_eq_of_length_le (by omega)] at hj ⊢
    exact h j hj
structure Kn (G : Int → Prop) (m : Mach) : Prop where
  regs : Knw G m.regs
  mem : Knw G m.mem
theorem Kn.put {G : Int → Prop} {m : Mach} (h : Kn G m) (d : Int) (x : Wd) (hx : x.2 = true → G x.1) : Kn G (putM m d x) := ⟨h.regs.set _ _ hx, h.mem⟩
theorem deed_kn {G : Int → Prop} {m : Mach} {op d a b n : Int} (h : Kn G m) (h1 : (op = 17 ∨ op = 18) → G ((m.pc : Int) + 1)) (h2 : op = 20 → G n) (he : (deedM m op d a b n).err = 0) : Kn G (deedM m op d a b n).m := by
  unfold deedM at he ⊢
  by_cases c1 : op < 0
  · rw [if_pos c1] at he; cases he
  rw [if_neg c1] at he ⊢
  by_cases c2 : op = 0
  · rw [if_pos c2] at he; cases he
  rw [if_neg c2] at he ⊢
  by_cases c3 : op = 1
  · rw [if_pos c3]; exact h.put _ _ (fun e => by cases e)
  rw [if_neg c3] at he ⊢
  by_cases c4 : op = 2
  · rw [if_pos c4]; exact h.put _ _ (fun e => h.regs _ e)
  rw [if_neg c4] at he ⊢
  by_cases c5 : op ≤ 10
  · rw [if_pos c5] at he ⊢
    unfold calcD at he ⊢
    by_cases k : cE m op a b = 0
    · rw [if_pos k]; exact h.put _ _ (fun e => by cases e)
    · rw [if_neg k] at he; exact absurd he k
  rw [if_neg c5] at he ⊢
  by_cases c6 : op = 11
  · rw [if_pos c6] at he ⊢
    unfold loadD at he ⊢
    by_cases k : aE m a n = 0
    · rw [if_pos k]; exact h.put _ _ (fun e => h.mem _ e)
    · rw [if_neg k] at he; exact absurd he k
  rw [if_neg c6] at he ⊢
  by_cases c7 : op = 12
  · rw [if_pos c7] at he ⊢
    unfold storeD at he ⊢
    by_cases k : aE m a n = 0
    · rw [if_pos k]; exact ⟨h.regs, h.mem.set _ _ (fun e => h.regs _ e)⟩
    · rw [if_neg k] at he; exact absurd he k
  rw [if_neg c7] at he ⊢
  by_cases c8 : op = 13
  · rw [if_pos c8]
    unfold inD
    split
    · exact h.put _ _ (fun e => by cases e)
    · exact ⟨h.regs.set _ _ (fun e => by cases e), h.mem⟩
  rw [if_neg c8] at he ⊢
  by_cases c9 : op = 14
  · rw [if_pos c9] at he ⊢
    unfold outD at he ⊢
    by_cases k : rC m a = true
    · rw [if_pos k] at he; cases he
    · rw [if_neg k]; exact ⟨h.regs, h.mem⟩
  rw [if_neg c9] at he ⊢
  by_cases c10 : op = 15
  · rw [if_pos c10]; exact h
  rw [if_neg c10] at he ⊢
  by_cases c11 : op = 16
  · rw [if_pos c11] at he ⊢
    unfold zeroD at he ⊢
    by_cases k : rC m a = true
    · rw [if_pos k] at he; cases he
    · rw [if_neg k]; split <;> exact h
  rw [if_neg c11] at he ⊢
  by_cases c12 : op = 17
  · rw [if_pos c12]; exact h.put _ _ (fun _ => h1 (.inl c12))
  rw [if_neg c12] at he ⊢
  by_cases c13 : op = 18
  · rw [if_pos c13] at he ⊢
    unfold callsD at he ⊢
    by_cases k : rC m a = true
    · rw [if_pos k]; exact h.put _ _ (fun _ => h1 (.inr c13))
    · rw [if_neg k] at he; cases he
  rw [if_neg c13] at he ⊢
  by_cases c14 : op = 19
  · rw [if_pos c14] at he ⊢
    unfold gotoD at he ⊢
    by_cases k : rC m a = true
    · rw [if_pos k]; exact h
    · rw [if_neg k] at he; cases he
  rw [if_neg c14] at he ⊢
  by_cases c15 : op = 20
  · rw [if_pos c15]; exact h.put _ _ (fun _ => h2 c15)
  rw [if_neg c15]
  exact ⟨h.regs, h.mem⟩





end Go.Proofs.YtfnicgihpelhhaaGreat
