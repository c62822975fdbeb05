/-
  What is live behind each place, gone through block by block, plain. Blocks that leap; the text in which the first leap alone is left has the same blocks and edges; the lists with the hub; plain. slices.Clone of a row of words; a row of words in a block of its own that is written. What coding and aiming words keep; no Go in sight.
-/
import Derived.Test.YtfnicgihpelhhaaGreatProg
import Derived.WalkKit
import Derived.WalkSpells
import Derived.WalkLawsBesides
import Derived.RowKit3
import Derived.Below
import Derived.Deep.QuietTactic
import Derived.BigQuiet
import Derived.WalkSmall
import Derived.Laws.Rows
import Derived.Test.YtfnicgihpelhhaaGreatPd13
import Derived.Test.YtfnicgihpelhhaaGreatPd05
import Derived.Test.YtfnicgihpelhhaaGreatPd12
import Derived.Test.YtfnicgihpelhhaaGreatPd04
import Derived.Test.YtfnicgihpelhhaaGreatPd11
import Derived.Test.YtfnicgihpelhhaaGreatPd02
namespace Go.Proofs.YtfnicgihpelhhaaGreat
open Go.RowKit

def Dn (text : List Int) (L : List Rel) (G H : Int → Nat) (k : Nat) : Prop := ∀ i : Nat, i < k → ∀ p : Nat, rAt L i ≤ (p : Int) → (p : Int) < rSym L i → H (p : Int) = setB text (rSym L i) (G (i : Int)) (rSym L i - 1 - (p : Int)).toNat
def Dp (text : List Int) (L : List Rel) (G H : Int → Nat) (k : Nat) (x : Int) : Prop := Dn text L G H k ∧ ∀ p : Nat, x < (p : Int) → (p : Int) < rSym L k → H (p : Int) = setB text (rSym L k) (G (k : Int)) (rSym L k - 1 - (p : Int)).toNat
section
variable {text : List Int} {L : List Rel} {G H : Int → Nat} {k : Nat}
theorem Dp.start (h : Dn text L G H k) : Dp text L G H k (rSym L k - 1) := ⟨h, fun p a b => by omega⟩
theorem Dp.put {x : Nat} (h : Dp text L G H k (x : Int)) (hm : ∀ i, i < k → rSym L i ≤ rAt L k) (hx : rAt L k ≤ (x : Int)) (s : Nat) (hs : s = setB text (rSym L k) (G (k : Int)) (rSym L k - 1 - (x : Int)).toNat) : Dp text L G (putS H (x : Int) s) k ((x : Int) - 1) := by
  refine ⟨fun i hi p a b => ?_, fun p a b => ?_⟩
  · have := hm i hi
    rw [putS_else _ _ (by omega)]
    exact h.1 i hi p a b
  · by_cases e : p = x
    · subst e
      rw [putS_here]; exact hs
    · rw [putS_else _ _ (by omega)]
      exact h.2 p (by omega) b
theorem Dp.done {x : Int} (h : Dp text L G H k x) (hx : x < rAt L k) : Dn text L G H (k + 1) := fun i hi p a b => by
  by_cases e : i = k
  · subst e
    exact h.2 p (by omega) b
  · exact h.1 i (by omega) p a b
end
theorem begin_zero (text : List Int) (ent : Int) : begF text ent 0 = true := by simp [begF, addK, setF]
theorem blkRise {text : List Int} {ent : Int} (hn : 0 < text.length) : ∀ {k : Nat}, k < (blkL text ent).length → ∀ i, i < k → rSym (blkL text ent) i ≤ rAt (blkL text ent) k
  | 0, _, i, hi => by omega
  | k + 1, hk, i, hi => by
    have h1 : rAt (blkL text ent) (k + 1) = rSym (blkL text ent) k := by
      have := (cov_here hn (begin_zero text ent) hk).1
      rw [cov_succ] at this
      exact this
    rw [h1]
    by_cases e : i = k
    · rw [e]; exact Int.le_refl _
    · have h2 := blkRise (ent := ent) hn (k := k) (by omega) i (by omega)
      have h3 := (blk_in (text := text) (ent := ent) (show k < (blkL text ent).length by omega)).2.1
      omega
/-- Each place lies in a block. -/
theorem blk_all {text : List Int} {ent : Int} (hn : 0 < text.length) {p : Nat} (hp : p < text.length) : ∃ i : Nat, i < (blkL text ent).length ∧ rAt (blkL text ent) i ≤ (p : Int) ∧ (p : Int) < rSym (blkL text ent) i := by
  have h : ∀ k : Nat, k ≤ (blkL text ent).length → (p : Int) < covAt (blkL text ent) k → ∃ i : Nat, i < k ∧ rAt (blkL text ent) i ≤ (p : Int) ∧ (p : Int) < rSym (blkL text ent) i := by
    intro k
    induction k with
    | zero => intro _ h; rw [cov_zero] at h; omega
    | succ k ih =>
      intro hk h
      have h1 : rAt (blkL text ent) k = covAt (blkL text ent) k := (cov_here hn (begin_zero text ent) (show k < (blkL text ent).length by omega)).1
      rw [cov_succ] at h
      by_cases e : (p : Int) < covAt (blkL text ent) k
      · obtain ⟨i, a, b⟩ := ih (by omega) e
        exact ⟨i, by omega, b⟩
      · exact ⟨k, by omega, by omega, h⟩
  have he : covAt (blkL text ent) (blkL text ent).length = (text.length : Int) := cov_end hn (begin_zero text ent)
  obtain ⟨i, a, b⟩ := h _ (Nat.le_refl _) (by rw [he]; omega)
  exact ⟨i, a, b⟩
theorem BhI.uniq {text : List Int} {ent : Int} (hn : 0 < text.length) {H H' : Int → Nat} (h : BhI text ent H) (k : BhI text ent H') (p : Nat) (hp : p < text.length) : H (p : Int) = H' (p : Int) := by
  obtain ⟨F, G, h1, h2⟩ := h
  obtain ⟨F', G', k1, k2⟩ := k
  obtain ⟨i, a, b, c⟩ := blk_all (ent := ent) hn hp
  rw [h2 i a p b c, k2 i a p b c, (Lst.uniq h1 k1 i a).2]


end Go.Proofs.YtfnicgihpelhhaaGreat

namespace Go.Proofs.YtfnicgihpelhhaaGreat
open Go.RowKit

/-- Does the block k leap: end in Calls or Go? -/
def lpB (text : List Int) (ent : Int) (k : Nat) : Bool := dOp (lastW text ent k) == 18 || dOp (lastW text ent k) == 19
def lpF (text : List Int) (ent : Int) (y : Int) : Bool := lpB text ent y.toNat
def lpL (text : List Int) (ent : Int) : List Int := plcT (lpF text ent) (blkL text ent).length
theorem lpF_at (text : List Int) (ent : Int) (k : Nat) : lpF text ent (k : Int) = lpB text ent k := by unfold lpF; rw [show ((k : Int)).toNat = k by omega]
/-- The place of the t-th leap. -/
def lpP (text : List Int) (ent : Int) (t : Nat) : Nat := (rSym (blkL text ent) (nth (lpL text ent) t).toNat - 1).toNat
theorem plcT_rise (f : Int → Bool) : ∀ (k : Nat) {s t : Nat}, s < t → t < (plcT f k).length → nth (plcT f k) s < nth (plcT f k) t
  | 0, s, t, _, h => by simp [plcT] at h
  | k + 1, s, t, hst, h => by
    cases e : f (k : Int) with
    | false => rw [plcT_no e] at h ⊢; exact plcT_rise f k hst h
    | true =>
      rw [plcT_yes e] at h ⊢
      rw [List.length_append] at h
      by_cases ht : t < (plcT f k).length
      · rw [nth_left ht, nth_left (by omega)]
        exact plcT_rise f k hst ht
      · have et : t = (plcT f k).length + 0 := by simp at h; omega
        rw [et, nth_right, nth_left (by omega)]
        have := (plcT_mem.1 (nth_mem (show s < (plcT f k).length by omega))).2.1
        exact this
theorem lp_at {text : List Int} {ent : Int} {t : Nat} (h : t < (lpL text ent).length) : ∃ k : Nat, k < (blkL text ent).length ∧ nth (lpL text ent) t = (k : Int) ∧ lpB text ent k = true := by
  have hm := plcT_mem.1 (nth_mem h)
  refine ⟨(nth (lpL text ent) t).toNat, by have := hm.2.1; have := hm.1; unfold lpL at *; omega, by have := hm.1; unfold lpL at *; omega, ?_⟩
  exact hm.2.2
theorem lp_has {text : List Int} {ent : Int} {k : Nat} (hk : k < (blkL text ent).length) (h : lpB text ent k = true) : ∃ t, t < (lpL text ent).length ∧ nth (lpL text ent) t = (k : Int) := by
  have hm : (k : Int) ∈ lpL text ent := plcT_mem.2 ⟨by omega, by omega, by rw [lpF_at]; exact h⟩
  obtain ⟨t, ht, e⟩ := mem_at hm
  exact ⟨t, ht, e⟩
theorem lpP_at {text : List Int} {ent : Int} {t k : Nat} (hk : k < (blkL text ent).length) (e : nth (lpL text ent) t = (k : Int)) : (lpP text ent t : Int) = rSym (blkL text ent) k - 1 ∧ lpP text ent t < text.length ∧ nth text (lpP text ent t) = lastW text ent k := by
  obtain ⟨h0, h1, h2⟩ := blk_in hk
  unfold lpP lastW
  rw [e, show ((k : Int)).toNat = k by omega]
  refine ⟨by omega, by omega, rfl⟩
theorem lpP_ne {text : List Int} {ent : Int} (hn : 0 < text.length) {s t : Nat} (hs : s < (lpL text ent).length) (ht : t < (lpL text ent).length) (hne : s ≠ t) : lpP text ent s ≠ lpP text ent t := by
  have key : ∀ {a b : Nat}, a < b → b < (lpL text ent).length → lpP text ent a < lpP text ent b := fun {a b} hab hb => by
    obtain ⟨i, hi, ei, _⟩ := lp_at (show a < (lpL text ent).length by omega)
    obtain ⟨j, hj, ej, _⟩ := lp_at hb
    have hr := plcT_rise (lpF text ent) (blkL text ent).length hab hb
    have hij : i < j := by unfold lpL at ei ej; omega
    have h1 := blkRise hn hj i hij
    have h2 := (blk_in hj).2.1
    have h3 := (lpP_at hi ei).1
    have h4 := (lpP_at hj ej).1
    omega
  rcases Nat.lt_or_ge s t with h | h
  · exact Nat.ne_of_lt (key h ht)
  · exact (Nat.ne_of_lt (key (by omega) hs)).symm
/-- The word that takes a leap's place: a Call or a Jump to the place 0. -/
def cutW (v : Int) : Int := if dOp v = 18 then 2281701376 else 2013265920
theorem cutW18 {v : Int} (h : dOp v = 18) : cutW v = 2281701376 := if_pos h
theorem cutW19 {v : Int} (h : dOp v = 19) : cutW v = 2013265920 := if_neg (by omega)
theorem call0 : dOp 2281701376 = 17 ∧ dN 2281701376 = 0 ∧ isT 2281701376 = true ∧ tgV 2281701376 = 0 := by decide
theorem jump0 : dOp 2013265920 = 15 ∧ dN 2013265920 = 0 ∧ isT 2013265920 = true ∧ tgV 2013265920 = 0 := by decide
/-- A text in which some leaps have given way. -/
structure OneL (text T : List Int) : Prop where
  len : T.length = text.length
  word : ∀ p, p < text.length → nth T p = nth text p ∨ ((dOp (nth text p) = 18 ∨ dOp (nth text p) = 19) ∧ nth T p = cutW (nth text p))
structure OneJ (text : List Int) (ent : Int) (T : List Int) (j : Nat) : Prop where
  one : OneL text T
  rest : ∀ t, t < (lpL text ent).length → t = 0 ∨ j < t → nth T (lpP text ent t) = nth text (lpP text ent t)
theorem nth_set {l : List Int} {i p : Nat} {v : Int} (hp : p < l.length) : nth (l.set i v) p = if i = p then v else nth l p := by
  unfold nth
  rw [List.getD_eq_getElem?_getD, List.getElem?_set, List.getD_eq_getElem?_getD]
  by_cases e : i = p
  · rw [if_pos e, if_pos e, if_pos (by omega)]; rfl
  · rw [if_neg e, if_neg e]
theorem OneJ.zero (text : List Int) (ent : Int) : OneJ text ent text 0 := ⟨⟨rfl, fun _ _ => .inl rfl⟩, fun _ _ _ => rfl⟩
theorem lp_ops {text : List Int} {ent : Int} {k : Nat} (h : lpB text ent k = true) : dOp (lastW text ent k) = 18 ∨ dOp (lastW text ent k) = 19 := by
  unfold lpB at h
  simpa using h
theorem OneJ.step {text : List Int} {ent : Int} {T : List Int} {j : Nat} (h : OneJ text ent T j) (hn : 0 < text.length) (hj : j + 1 < (lpL text ent).length) : OneJ text ent (T.set (lpP text ent (j + 1)) (cutW (nth T (lpP text ent (j + 1))))) (j + 1) := by
  obtain ⟨k, hk, ek, hl⟩ := lp_at hj
  obtain ⟨_, h2, h3⟩ := lpP_at hk ek
  have hT : nth T (lpP text ent (j + 1)) = nth text (lpP text ent (j + 1)) := h.rest _ hj (.inr (by omega))
  have hlen := h.one.len
  rw [hT]
  refine ⟨⟨by rw [List.length_set]; exact hlen, fun p hp => ?_⟩, fun t ht hc => ?_⟩
  · rw [nth_set (by omega)]
    by_cases e : lpP text ent (j + 1) = p
    · rw [if_pos e]
      subst e
      exact .inr ⟨by rw [h3]; exact lp_ops hl, rfl⟩
    · rw [if_neg e]; exact h.one.word p hp
  · obtain ⟨i, hi, ei, _⟩ := lp_at ht
    have h5 := (lpP_at hi ei).2.1
    rw [nth_set (by omega), if_neg (lpP_ne hn hj ht (by omega))]
    exact h.rest t ht (by omega)
section
variable {text T : List Int} {ent : Int} {ml : Nat}
theorem OneL.oTak (h : OneL text T) {p : Nat} (hp : p < text.length) : gTak T p = gTak text p := by
  unfold gTak
  rcases h.word p hp with e | ⟨e, e2⟩
  · rw [e]
  · rw [e2]
    rcases e with e | e
    · rw [cutW18 e, call0.1, e]; rfl
    · rw [cutW19 (by assumption), jump0.1, e]; rfl
theorem OneL.oSit (h : OneL text T) {p : Nat} (hp : p < text.length) : gSit T p = gSit text p := by
  unfold gSit
  rcases h.word p hp with e | ⟨e, e2⟩
  · rw [e]
  · rw [e2]
    rcases e with e | e
    · rw [cutW18 e, call0.1, e]; rfl
    · rw [cutW19 (by assumption), jump0.1, e]; rfl
theorem OneL.oEnd (h : OneL text T) {p : Nat} (hp : p < text.length) : gEnd T p = gEnd text p := by
  unfold gEnd
  rcases h.word p hp with e | ⟨e, e2⟩
  · rw [e]
  · rw [e2]
    rcases e with e | e
    · rw [cutW18 e, call0.1, e]; rfl
    · rw [cutW19 (by assumption), jump0.1, e]; rfl
theorem anyF_fit {f g : Nat → Option Int} {k : Nat} (h : ∀ i, i < k → f i = g i) (y : Int) : anyF f k y = anyF g k y := by
  rw [Bool.eq_iff_iff, anyF_iff, anyF_iff]
  constructor
  · rintro ⟨i, hi, e⟩; exact ⟨i, hi, by rw [← h i hi]; exact e⟩
  · rintro ⟨i, hi, e⟩; exact ⟨i, hi, by rw [h i hi]; exact e⟩
theorem OneL.oLab (h : OneL text T) {p : Nat} (hp : p < text.length) : gLab T p = gLab text p ∨ (gLab text p = none ∧ gLab T p = some 0) := by
  rcases h.word p hp with e | ⟨e, e2⟩
  · left; unfold gLab; rw [e]
  · right
    have hold : isT (nth text p) = false := by
      unfold isT hP
      rcases e with e | e <;> (rw [e]; rfl)
    refine ⟨by unfold gLab; rw [hold]; rfl, ?_⟩
    unfold gLab
    rw [e2]
    rcases e with e | e
    · rw [cutW18 e, call0.2.2.1, call0.2.2.2]; rfl
    · rw [cutW19 (by assumption), jump0.2.2.1, jump0.2.2.2]; rfl
theorem OneL.oTakF (h : OneL text T) (y : Int) : takF T y = takF text y := by
  unfold takF addK
  rw [h.len, anyF_fit (fun i hi => h.oTak hi)]
theorem OneL.oSitF (h : OneL text T) (y : Int) : sitF T y = sitF text y := by
  unfold sitF addK
  rw [h.len, anyF_fit (fun i hi => h.oSit hi)]
theorem OneL.beg (h : OneL text T) (y : Int) : begF T ent y = begF text ent y := by
  rw [Bool.eq_iff_iff, beg_iff, beg_iff, lab_iff, lab_iff, h.len, anyF_fit (f := gEnd T) (fun i hi => h.oEnd hi), anyF_iff (g := gLab T), anyF_iff (g := gLab text)]
  constructor
  · rintro (a | (a | ⟨i, hi, e⟩) | a)
    · exact .inl a
    · exact .inr (.inl (.inl a))
    · rcases h.oLab hi with e2 | ⟨_, e2⟩
      · exact .inr (.inl (.inr ⟨i, hi, by rw [← e2]; exact e⟩))
      · rw [e2] at e
        injection e with e
        exact .inl e.symm
    · exact .inr (.inr a)
  · rintro (a | (a | ⟨i, hi, e⟩) | a)
    · exact .inl a
    · exact .inr (.inl (.inl a))
    · rcases h.oLab hi with e2 | ⟨e2, _⟩
      · exact .inr (.inl (.inr ⟨i, hi, by rw [e2]; exact e⟩))
      · rw [e2] at e; cases e
    · exact .inr (.inr a)
theorem OneL.blk (h : OneL text T) (ent : Int) : blkL T ent = blkL text ent := by
  unfold blkL
  rw [h.len, plcT_fit (fun i _ => h.beg (ent := ent) (i : Int))]
theorem OneL.may (h : OneL text T) (hM : MayI text ml ent) : MayI T ml ent := by
  have hl := h.len
  obtain ⟨a, b, c, d, e⟩ := hM.past
  refine ⟨⟨by omega, by omega, c, d, by omega⟩, fun j hj => ?_, ?_⟩
  · have hf := hM.far j (by omega)
    unfold farT at hf ⊢
    rw [hl]
    rcases h.word j (by omega) with e1 | ⟨e1, e2⟩
    · rw [e1]; exact hf
    · rw [e2]
      rcases e1 with e1 | e1
      · rw [cutW18 e1, call0.2.2.2, decide_eq_false (by omega), Bool.and_false]
      · rw [cutW19 (by assumption), jump0.2.2.2, decide_eq_false (by omega), Bool.and_false]
  · have hk := hM.last
    rw [hl]
    rcases h.word (text.length - 1) (by omega) with e1 | ⟨e1, e2⟩
    · rw [e1]; exact hk
    · rw [e2]
      unfold lastOK at hk ⊢
      have hk := of_decide_eq_true hk
      rcases e1 with e1 | e1
      · omega
      · rw [cutW19 (by assumption), jump0.1]; rfl
theorem OneL.range (h : OneL text T) (hR : ∀ i, i < text.length → 0 ≤ nth text i ∧ nth text i < 4294967296) : ∀ i, i < T.length → 0 ≤ nth T i ∧ nth T i < 4294967296 := fun i hi => by
  rw [h.len] at hi
  rcases h.word i hi with e | ⟨_, e⟩
  · rw [e]; exact hR i hi
  · rw [e]
    unfold cutW
    split <;> omega
theorem OneL.edg (h : OneL text T) {i : Nat} (hw : lastW T ent i = lastW text ent i) (y : Int) : edgR T ent i y = edgR text ent i y := by
  unfold edgR edgB
  rw [hw, h.blk, h.oTakF, h.oSitF]
theorem OneL.last (h : OneL text T) {k : Nat} (hk : k < (blkL text ent).length) (hl : lpB text ent k = false) : lastW T ent k = lastW text ent k := by
  obtain ⟨h0, h1, h2⟩ := blk_in hk
  unfold lastW
  rw [h.blk]
  rcases h.word (rSym (blkL text ent) k - 1).toNat (by omega) with e | ⟨e, _⟩
  · exact e
  · exfalso
    unfold lpB lastW at hl
    rcases e with e | e <;> (rw [e] at hl; revert hl; decide)
theorem OneJ.last0 {j : Nat} (h : OneJ text ent T j) {k : Nat} (hk : k < (blkL text ent).length) (h0 : 0 < (lpL text ent).length) (e : nth (lpL text ent) 0 = (k : Int)) : lastW T ent k = lastW text ent k := by
  obtain ⟨p1, _, p3⟩ := lpP_at hk e
  have := h.rest 0 h0 (.inl rfl)
  rw [p3] at this
  rw [← this]
  unfold lastW
  rw [h.one.blk]
  congr 1
  omega
theorem edgT_row {text : List Int} {ent : Int} {n i : Nat} (h : i < n) : rowZ (edgT text ent n) i = plcT (edgR text ent i) (blkL text ent).length := rowZ_map h
theorem OneL.row (h : OneL text T) {n k : Nat} (hk : k < n) (hw : lastW T ent k = lastW text ent k) : rowZ (edgT T ent n) k = rowZ (edgT text ent n) k := by
  rw [edgT_row hk, edgT_row hk, h.blk]
  exact plcT_fit fun i _ => h.edg hw (i : Int)
/-- All that leap go to the same blocks. -/
theorem leap_row {text : List Int} {ent : Int} {n i j : Nat} (hi : i < n) (hj : j < n) (li : lpB text ent i = true) (lj : lpB text ent j = true) : rowZ (edgT text ent n) i = rowZ (edgT text ent n) j := by
  rw [edgT_row hi, edgT_row hj]
  refine plcT_fit fun y _ => ?_
  unfold edgR edgB goesF
  have h1 := lp_ops li
  have h2 := lp_ops lj
  rw [if_neg (by omega), if_neg (by omega), if_neg (by omega), if_pos h1, if_neg (by omega), if_neg (by omega), if_neg (by omega), if_pos h2]
end
/-- The lists as flow writes them: the first j leaps lead to the hub. -/
structure FlJ (text : List Int) (ent : Int) (T : List Int) (M : List (List Int)) (j : Nat) : Prop where
  len : M.length = (blkL text ent).length + 1
  old : ∀ k, k < (blkL text ent).length → (∀ t, t < j → nth (lpL text ent) t ≠ (k : Int)) → rowZ M k = rowZ (edgT T ent (blkL text ent).length) k
  new : ∀ t, t < j → rowZ M (nth (lpL text ent) t).toNat = [((blkL text ent).length : Int)]
  hub : rowZ M (blkL text ent).length = if 0 < (lpL text ent).length then rowZ (edgT T ent (blkL text ent).length) (nth (lpL text ent) 0).toNat else []
theorem rowZ_setL {M : List (List Int)} {i t : Nat} {l : List Int} (ht : t < M.length) : rowZ (M.set i l) t = if i = t then l else rowZ M t := by
  unfold rowZ
  rw [List.getD_eq_getElem?_getD, List.getElem?_set, List.getD_eq_getElem?_getD]
  by_cases e : i = t
  · rw [if_pos e, if_pos e, if_pos (by omega)]; rfl
  · rw [if_neg e, if_neg e]
theorem FlJ.step {text : List Int} {ent : Int} {T : List Int} {M : List (List Int)} {j : Nat} (h : FlJ text ent T M j) (hj : j < (lpL text ent).length) : FlJ text ent T (M.set (nth (lpL text ent) j).toNat [((blkL text ent).length : Int)]) (j + 1) := by
  obtain ⟨i, hi, ei, _⟩ := lp_at hj
  have hl := h.len
  rw [ei, show ((i : Int)).toNat = i by omega]
  refine ⟨by rw [List.length_set]; exact hl, fun k hk hne => ?_, fun t ht => ?_, ?_⟩
  · rw [rowZ_setL (by omega), if_neg (fun e => hne j (by omega) (by rw [ei, e]))]
    exact h.old k hk fun t ht => hne t (by omega)
  · by_cases e : t = j
    · subst e
      rw [ei, show ((i : Int)).toNat = i by omega, rowZ_setL (by omega), if_pos rfl]
    · obtain ⟨i2, hi2, ei2, _⟩ := lp_at (show t < (lpL text ent).length by omega)
      have := h.new t (by omega)
      rw [ei2, show ((i2 : Int)).toNat = i2 by omega] at this ⊢
      rw [rowZ_setL (by omega)]
      split
      · rfl
      · exact this
  · rw [rowZ_setL (by omega), if_neg (by omega)]
    exact h.hub
theorem FlJ.is {text : List Int} {ent : Int} {T : List Int} {M : List (List Int)} {jj : Nat} (h : FlJ text ent T M (lpL text ent).length) (hT : OneJ text ent T jj) : Hub (edgT text ent (blkL text ent).length) M (blkL text ent).length (lpB text ent) := by
  have hrow0 : ∀ k, k < (blkL text ent).length → lpB text ent k = true → rowZ M (blkL text ent).length = rowZ (edgT text ent (blkL text ent).length) k := fun k hk hl => by
    obtain ⟨t, ht, et⟩ := lp_has hk hl
    have h0 : 0 < (lpL text ent).length := by omega
    obtain ⟨i, hi, ei, li⟩ := lp_at h0
    rw [h.hub, if_pos h0, ei, show ((i : Int)).toNat = i by omega, hT.one.row hi (hT.last0 hi h0 ei)]
    exact leap_row hi hk li hl
  refine ⟨h.len, fun k hk hl => ?_, fun k hk hl => ?_, hrow0, fun t ht => ?_⟩
  · rw [h.old k hk (fun t ht e => by
      obtain ⟨i, hi, ei, li⟩ := lp_at ht
      rw [ei] at e
      have : i = k := by omega
      subst this
      rw [li] at hl; cases hl)]
    exact hT.one.row hk (hT.one.last hk hl)
  · obtain ⟨t, ht, et⟩ := lp_has hk hl
    have := h.new t ht
    rwa [et, show ((k : Int)).toNat = k by omega] at this
  · by_cases h0 : 0 < (lpL text ent).length
    · obtain ⟨i, hi, ei, li⟩ := lp_at h0
      rw [hrow0 i hi li] at ht ⊢
      rw [edgT_row hi] at ht ⊢
      have := plcT_mem.1 (nth_mem ht)
      exact ⟨this.1, this.2.1⟩
    · rw [h.hub, if_neg h0] at ht
      simp at ht
theorem edgT_inn (text : List Int) (ent : Int) : Inn (edgT text ent (blkL text ent).length) (blkL text ent).length := fun k t hk ht => by
  rw [edgT_row hk] at ht ⊢
  have := plcT_mem.1 (nth_mem ht)
  exact ⟨this.1, this.2.1⟩
theorem Hub.innM {L M : List (List Int)} {n : Nat} {lp : Nat → Bool} (h : Hub L M n lp) (hI : Inn L n) : Inn M (n + 1) := fun k t hk ht => by
  by_cases e : k = n
  · subst e
    have := h.inn t ht
    omega
  · have hk : k < n := by omega
    cases el : lp k with
    | false =>
      rw [h.plain k hk el] at ht ⊢
      have := hI k t hk ht
      omega
    | true =>
      rw [h.leap k hk el] at ht ⊢
      obtain rfl : t = 0 := by simpa using ht
      show 0 ≤ (n : Int) ∧ (n : Int) < _
      omega
theorem Hub.rowlen {text : List Int} {ent : Int} {M : List (List Int)} (h : Hub (edgT text ent (blkL text ent).length) M (blkL text ent).length (lpB text ent)) (h0 : ∀ (_ : ¬ ∃ k, k < (blkL text ent).length ∧ lpB text ent k = true), rowZ M (blkL text ent).length = []) (k : Nat) (hk : k < (blkL text ent).length + 1) : (rowZ M k).length ≤ (blkL text ent).length + 1 := by
  by_cases e : k = (blkL text ent).length
  · subst e
    by_cases hx : ∃ k, k < (blkL text ent).length ∧ lpB text ent k = true
    · obtain ⟨i, hi, li⟩ := hx
      rw [h.hub i hi li, edgT_row hi]
      have := plcT_len (edgR text ent i) (blkL text ent).length
      omega
    · rw [h0 hx]; simp
  · have hk : k < (blkL text ent).length := by omega
    cases el : lpB text ent k with
    | false =>
      rw [h.plain k hk el, edgT_row hk]
      have := plcT_len (edgR text ent k) (blkL text ent).length
      omega
    | true => rw [h.leap k hk el]; simp

end Go.Proofs.YtfnicgihpelhhaaGreat

namespace Go.Proofs.YtfnicgihpelhhaaGreat
open Go.RowKit

theorem bs_c (w : World) : (Instr.buildSlice 22 0 #[]).run Tryz.prog w = .ok (.slice (some ⟨w.heap.size, 0, none⟩) 0 0) (w.alloc (.cells #[] 45)) := by kernel_rfl
theorem some_c (a : Addr) (n c : Nat) (w : World) : (binOp BinOp.eql 22 (.slice (some a) n c) (.slice none 0 0)).run Tryz.prog w = .ok (.bool false) w := by kernel_rfl
theorem info_c : ∃ i, Tryz.prog.info? 45 = some i ∧ i.zero = some (.int .u32 0) ∧ i.size = 1 ∧ i.bytes = 4 :=
  ⟨(Tryz.prog.info? 45).get (by kernel_rfl), by kernel_rfl, by kernel_rfl, by kernel_rfl, by kernel_rfl⟩
/-- A row of words in the block g. -/
def WdAt (w : World) (g : Nat) (l : List Int) : Prop := ∃ cs : Array Value, w.heap[g]? = some (.cells cs 45 (0, 0)) ∧ l.length ≤ cs.size ∧ ∀ i, i < l.length → cs[i]? = some (.int .u32 (nth l i))
section
variable {w w1 : World} {g : Nat} {l : List Int}
theorem WdAt.lt (h : WdAt w g l) : g < w.heap.size := by
  obtain ⟨cs, h1, _⟩ := h
  exact (Array.getElem?_eq_some_iff.1 h1).1
theorem WdAt.keep (h : WdAt w g l) (hb : Below w.heap.size w w1) : WdAt w1 g l := by
  obtain ⟨cs, h1, h2⟩ := h
  exact ⟨cs, by rw [hb.block g (Array.getElem?_eq_some_iff.1 h1).1]; exact h1, h2⟩
theorem WdAt.other (h : WdAt w g l) {g2 i : Nat} {v : Value} (hne : g ≠ g2) : WdAt (w.setCell ⟨g2, i, none⟩ v) g l := by
  obtain ⟨cs, hb, hs⟩ := h
  exact ⟨cs, by rw [Below.heap_setCell _ _ _ _ hne]; exact hb, hs⟩
theorem WdAt.cell (h : WdAt w g l) {p : Nat} (hp : p < l.length) : w.cell? ⟨g, p, none⟩ = some (.int .u32 (nth l p)) := by
  obtain ⟨cs, hb, _, hc⟩ := h
  simp [World.cell?, hb, hc p hp]
theorem WdAt.fro (h : WdAt w g l) (p : Nat) : w.frozen? ⟨g, p, none⟩ = false := by
  obtain ⟨cs, hb, _⟩ := h
  simp [World.frozen?, hb]
theorem WdAt.ints (h : WdAt w g l) : IntsAt w (some ⟨g, 0, none⟩) .u32 l := fun i hi => ⟨_, rfl, by rw [add0]; exact h.cell hi⟩
theorem WdAt.put (h : WdAt w g l) {p : Nat} (_hp : p < l.length) (v : Int) : WdAt (w.setCell ⟨g, p, none⟩ (.int .u32 v)) g (l.set p v) := by
  obtain ⟨cs, hb, hs, hc⟩ := h
  refine ⟨cs.setIfInBounds p (.int .u32 v), box_set hb _ _, by simpa using hs, fun i hi => ?_⟩
  rw [List.length_set] at hi
  rw [Array.getElem?_setIfInBounds, nth_set hi]
  by_cases e : p = i
  · rw [if_pos e, if_pos (by omega), if_pos e]
  · rw [if_neg e, if_neg e, hc i hi]
end
theorem iVals_oneC (K : IntKind) (l : List Int) : ∀ u ∈ iVals K l, u.oneCell' = true := fun u hu => by
  unfold iVals at hu
  rw [List.mem_map] at hu
  obtain ⟨x, -, rfl⟩ := hu
  rfl
set_option maxRecDepth 100000 in
set_option maxHeartbeats 1000000 in
theorem clone32_any (a : Addr) (c : Nat) (l : List Int) (w : World) (h : IntsAt w (some a) .u32 l) (hl : l.length ≤ 1048576) :
    Calls Tryz.prog 90 #[.slice (some a) l.length c] w fun e w' => ∃ g cap, e = .returned (.slice (some ⟨g, 0, none⟩) l.length cap) ∧ l.length ≤ cap ∧ WdAt w' g l ∧ w.heap.size ≤ g ∧ Below w.heap.size w w' := by
  obtain ⟨i0, hi, hz0, hz1, hz2⟩ := info_c
  have hb0 := bs_c
  have hn0 := some_c a l.length c
  have HC : Hid (∀ j u, (iVals .u32 l)[j]? = some u → (w.alloc (.cells #[] 45)).cell? (a.add j) = some u) := fun j u hu => by
    have hj : j < l.length := by
      have := (List.getElem?_eq_some_iff.1 hu).1
      simpa [iVals] using this
    obtain ⟨b, e, q⟩ := h j hj
    cases e
    rw [iVals_get hj] at hu
    cases hu
    exact lkeep (lb_alloc (Below.refl _ _) _) q
  have H1 : Hid (∀ u ∈ iVals .u32 l, u.oneCell' = true) := iVals_oneC _ _
  have HL : Hid ((iVals .u32 l).length = l.length * 1) := by unfold Hid iVals; simp
  have HG : Hid (∀ i, i < l.length → (iVals .u32 l)[i]? = some (.int .u32 (nth l i))) := fun i hi => iVals_get hi
  clear h
  generalize iVals .u32 l = xs at *
  go_enter Tryz.func90, Tryz.ntmps90
  go_wp2_with (at_builtin; refine wpList_append_own _ rfl (.tmp 5) (.tmp 6) 22 rfl w.heap.size 45 i0 (.int .u32 0) 1 4 Tryz.underlying22 hi hz0 hz1 hz2 rfl (by decide) (.slice (some ⟨w.heap.size, 0, none⟩) 0 0) 0 [] rfl (World.ownsRow_made w #[] 0 (Nat.le_refl _) (Nat.zero_le _) rfl) a l.length c xs rfl HL.out HC.out H1.out (by unfold maxLen; omega) (by omega) (by simp) ?_; intro v' w' hown hgrow hnil)
  all_goals (
    have HO : Hid (w'.ownsRow w.heap.size 45 1 v' l.length xs) := by have e := hown; rw [Nat.zero_add, List.nil_append] at e; exact e
    have HG2 : Hid _ := hgrow
    have HN : Hid _ := hnil
    clear hown hgrow hnil
    go_wp2
    go_ret
    rcases HO.out.2 with ⟨e, h0⟩ | ⟨g, cap, cur, e, hb, hg, hn, hm, hs, ht⟩
    · exact absurd ((HN.out.1 e).1) (by simp)
    · refine ⟨g, cap, by rw [e]; rfl, hn, ⟨cur, hg, by omega, fun i hi => ?_⟩, hb, Below.grown (lb_alloc (Below.refl _ _) _) HG2.out (by simp) (fun k e => by simp [Value.ownBlock] at e; omega)⟩
      have := HG.out i hi
      rw [← ht, List.getElem?_take_of_lt (by omega)] at this
      simpa using this)

end Go.Proofs.YtfnicgihpelhhaaGreat

namespace Go.Proofs.YtfnicgihpelhhaaGreat
open Go.RowKit

theorem dOp_yes {v : Int} (h0 : 0 ≤ v) (h : isIns v = true) : 0 ≤ dOp v := by
  unfold dOp; rw [if_pos h]; unfold wOp; omega
theorem dOp_no {v : Int} (h : isIns v = false) : dOp v = -1 := by
  unfold dOp; rw [h]; rfl
theorem word_yes {v : Int} (h0 : 0 ≤ v) (h1 : v < 4294967296) (h : isIns v = true) : encV (dOp v) (dD v) (dA v) (dB v) (dN v) = v ∧ encE (dOp v) (dD v) (dA v) (dB v) (dN v) = 0 := by
  have e := enc_yes h0 h1 h
  unfold dOp dD dA dB dN
  rw [if_pos h, if_pos h, if_pos h, if_pos h, if_pos h]
  exact e
theorem word_no {v : Int} (h : isIns v = false) : encV (dOp v) (dD v) (dA v) (dB v) (dN v) = 0 ∧ encE (dOp v) (dD v) (dA v) (dB v) (dN v) = 10 := by
  rw [dOp_no h]
  unfold encV encE
  rw [if_pos (by omega), if_pos (by omega)]
  exact ⟨rfl, rfl⟩

theorem regOK_range {h : Bool} {r : Int} (hr : regOK h r = true) : 0 ≤ r ∧ r < 16 := by
  unfold regOK at hr
  cases h
  · simp at hr; omega
  · simp at hr; omega
theorem encE_ok {op d a b n : Int} (h : encE op d a b n = 0) : 0 ≤ op ∧ op ≤ 21 ∧ insOK op d a b n = true ∧ encV op d a b n = encW op d a b n := by
  unfold encE at h
  by_cases h1 : op < 0 ∨ 21 < op
  · rw [if_pos h1] at h; omega
  · rw [if_neg h1] at h
    cases hi : insOK op d a b n with
    | false => rw [hi] at h; simp at h
    | true =>
      refine ⟨by omega, by omega, rfl, ?_⟩
      unfold encV; rw [if_neg h1, hi]; rfl
theorem insOK_parts {op d a b n : Int} (h : insOK op d a b n = true) : (0 ≤ d ∧ d < 16) ∧ (0 ≤ a ∧ a < 16) ∧ (0 ≤ b ∧ b < 16) ∧ numOK (hN op) (hP op) n = true := by
  unfold insOK at h
  simp only [Bool.and_eq_true] at h
  exact ⟨regOK_range h.1.1.1, regOK_range h.1.1.2, regOK_range h.1.2, h.2⟩

theorem fields_enc {op d a b n : Int} (ho : 0 ≤ op ∧ op ≤ 21) (h : insOK op d a b n = true) :
    wOp (encW op d a b n) = op ∧ wD (encW op d a b n) = d ∧ wA (encW op d a b n) = a ∧ wB (encW op d a b n) = b ∧ wN (encW op d a b n) = n ∧ 0 ≤ encW op d a b n ∧ encW op d a b n < 4294967296 := by
  obtain ⟨hd, ha, hb, hn⟩ := insOK_parts h
  have e1 : wOp (encW op d a b n) = op := by unfold wOp encW; omega
  have e2 : wD (encW op d a b n) = d := by unfold wD encW; omega
  have e3 : wA (encW op d a b n) = a := by unfold wA encW; omega
  have e4 : wB (encW op d a b n) = b := by unfold wB encW; omega
  have e5 : encW op d a b n % 32768 = n % 32768 := by unfold encW; omega
  have e6 : 0 ≤ encW op d a b n ∧ encW op d a b n < 4294967296 := by unfold encW; omega
  refine ⟨e1, e2, e3, e4, ?_, e6.1, e6.2⟩
  unfold wN
  rw [e1, e5]
  unfold numOK at hn
  cases h1 : hN op with
  | false => rw [h1] at hn; simp at hn; subst hn; rfl
  | true =>
    rw [h1] at hn
    cases h2 : hP op with
    | true => rw [h2] at hn; simp at hn ⊢; omega
    | false =>
      rw [h2] at hn
      simp at hn
      by_cases hs : n < 0
      · have e7 : n % 32768 = n + 32768 := by omega
        rw [e7, decide_eq_true (by omega)]; simp
      · have e7 : n % 32768 = n := by omega
        rw [e7, decide_eq_false (by omega)]; simp

theorem dec_enc {op d a b n : Int} (h : encE op d a b n = 0) : dOp (encV op d a b n) = op ∧ dD (encV op d a b n) = d ∧ dA (encV op d a b n) = a ∧ dB (encV op d a b n) = b ∧ dN (encV op d a b n) = n := by
  obtain ⟨h1, h2, h3, h4⟩ := encE_ok h
  obtain ⟨e1, e2, e3, e4, e5, _, _⟩ := fields_enc ⟨h1, h2⟩ h3
  rw [h4]
  have hi : isIns (encW op d a b n) = true := by
    unfold isIns; rw [e1, e2, e3, e4, e5, h3, decide_eq_true h2]; rfl
  unfold dOp dD dA dB dN
  rw [if_pos hi, if_pos hi, if_pos hi, if_pos hi, if_pos hi]
  exact ⟨e1, e2, e3, e4, e5⟩
theorem enc_range (op d a b n : Int) : 0 ≤ encV op d a b n ∧ encV op d a b n < 4294967296 := by
  unfold encV
  by_cases h1 : op < 0 ∨ 21 < op
  · rw [if_pos h1]; omega
  · rw [if_neg h1]
    cases hi : insOK op d a b n with
    | false => simp
    | true =>
      obtain ⟨_, _, _, _, _, h, k⟩ := fields_enc ⟨by omega, by omega⟩ hi
      exact ⟨h, k⟩
theorem aim_range (v p : Int) : 0 ≤ aimV v p ∧ aimV v p < 4294967296 := by
  unfold aimV
  split
  · exact enc_range _ _ _ _ _
  · omega
theorem aim_target {v p : Int} (h : aimE v p = 0) : isT (aimV v p) = true ∧ tgV (aimV v p) = p := by
  unfold aimE at h
  cases hT : isT v with
  | false => rw [hT] at h; simp at h
  | true =>
    rw [hT] at h
    simp only [if_true] at h
    cases hp : decide (0 ≤ p ∧ p < 16384) with
    | false => rw [hp] at h; simp at h
    | true =>
      rw [hp] at h
      simp only [if_true] at h
      have ha : aimV v p = encV (dOp v) (dD v) (dA v) (dB v) p := by unfold aimV; rw [hT, hp]; rfl
      obtain ⟨e1, _, _, _, e5⟩ := dec_enc h
      have hq : isT (aimV v p) = true := by
        unfold isT; rw [ha, e1]; exact hT
      refine ⟨hq, ?_⟩
      unfold tgV; rw [hq, ha, e5]; rfl




end Go.Proofs.YtfnicgihpelhhaaGreat
