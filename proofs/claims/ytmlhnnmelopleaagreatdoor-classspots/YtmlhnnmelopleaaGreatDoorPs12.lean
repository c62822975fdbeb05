/-
  The least sets of live registers, plain. What is live behind each place, gone through block by block, plain. What a row of words can be folded as, and a spot (plain). The least register outside of a set: a listed table of the library.
-/
import Derived.Test.YtmlhnnmelopleaaGreatDoorProg
import Derived.WalkKit
import Derived.WalkSpells
import Derived.WalkLawsBesides
import Derived.RowKit3
import Derived.Below
import Derived.Deep.QuietTactic
import Derived.BigQuiet
import Derived.WalkSmall
import Derived.Laws.Rows
import Derived.Test.YtmlhnnmelopleaaGreatDoorPs11
import Derived.Test.YtmlhnnmelopleaaGreatDoorPs02
import Derived.Test.YtmlhnnmelopleaaGreatDoorPs04
import Derived.Test.YtmlhnnmelopleaaGreatDoorPs03
import Derived.Test.YtmlhnnmelopleaaGreatDoorPs01
import Derived.Lib.LaidTab
import Derived.Carry
namespace Go.Proofs.YtmlhnnmelopleaaGreatDoor
open Go.RowKit

/-- A set within a set. -/
def SubN (a b : Nat) : Prop := ∀ r, a.testBit r = true → b.testBit r = true
theorem SubN.refl (a : Nat) : SubN a a := fun _ h => h
theorem SubN.trans {a b c : Nat} (h : SubN a b) (k : SubN b c) : SubN a c := fun r x => k r (h r x)
theorem SubN.anti {a b : Nat} (h : SubN a b) (k : SubN b a) : a = b := Nat.eq_of_testBit_eq fun i => by
  rw [Bool.eq_iff_iff]; exact ⟨h i, k i⟩
theorem SubN.le {a b : Nat} (h : SubN a b) : a ≤ b := by
  have e : a ||| b = b := Nat.eq_of_testBit_eq fun i => by
    rw [Nat.testBit_or]
    have := h i
    cases ha : a.testBit i with
    | true => rw [this ha]; rfl
    | false => rfl
  exact Nat.le_trans Nat.left_le_or (Nat.le_of_eq e)
theorem SubN.zero (b : Nat) : SubN 0 b := fun r h => by rw [Nat.zero_testBit] at h; cases h
theorem sub_or {a b c d : Nat} (h : SubN a c) (k : SubN b d) : SubN (a ||| b) (c ||| d) := fun r x => by
  rw [Nat.testBit_or, Bool.or_eq_true] at x ⊢
  exact x.imp (h r) (k r)
theorem sub_less {a b w : Nat} (hw : w < 65536) (h : SubN a b) : SubN (lessN a w) (lessN b w) := fun r x => by
  rw [lessN_bit hw, Bool.and_eq_true] at x ⊢
  exact ⟨h r x.1, x.2⟩
/-- All that is in the sets of the first k of a list. -/
def orE (F : Int → Nat) (l : List Int) : Nat → Nat
  | 0 => 0
  | k + 1 => orE F l k ||| F (nth l k)
theorem orE_sub {F G : Int → Nat} {l : List Int} : ∀ {k : Nat}, (∀ t, t < k → SubN (F (nth l t)) (G (nth l t))) → SubN (orE F l k) (orE G l k)
  | 0, _ => SubN.refl _
  | k + 1, h => sub_or (orE_sub fun t ht => h t (by omega)) (h k (by omega))
theorem orE_lt {F : Int → Nat} (l : List Int) (h : ∀ x, F x < 65536) : ∀ k, orE F l k < 65536
  | 0 => by show 0 < 65536; decide
  | k + 1 => orN_lt (orE_lt l h k) (h _)
/-- What is live ahead: read, or live behind and not written. -/
def insN (r w o : Nat) : Nat := r ||| lessN o w
theorem insN_lt {r w o : Nat} (hr : r < 65536) (ho : o < 65536) : insN r w o < 65536 := orN_lt hr (lessN_lt ho)
theorem insN_sub {r w a b : Nat} (hw : w < 65536) (h : SubN a b) : SubN (insN r w a) (insN r w b) := sub_or (SubN.refl _) (sub_less hw h)
/-- Sets for which each block's equations hold. -/
structure Sol (L : List (List Int)) (R W : Nat → Nat) (n : Nat) (F G : Int → Nat) : Prop where
  out : ∀ j : Nat, j < n → G (j : Int) = orE F (rowZ L j) (rowZ L j).length
  inn : ∀ j : Nat, j < n → F (j : Int) = insN (R j) (W j) (G (j : Int))
/-- The least ones. -/
structure Lst (L : List (List Int)) (R W : Nat → Nat) (n : Nat) (F G : Int → Nat) : Prop where
  sol : Sol L R W n F G
  low : ∀ F' G', Sol L R W n F' G' → ∀ j : Nat, j < n → SubN (F (j : Int)) (F' (j : Int)) ∧ SubN (G (j : Int)) (G' (j : Int))
theorem Lst.uniq {L : List (List Int)} {R W : Nat → Nat} {n : Nat} {F G F' G' : Int → Nat} (h : Lst L R W n F G) (k : Lst L R W n F' G') (j : Nat) (hj : j < n) : F (j : Int) = F' (j : Int) ∧ G (j : Int) = G' (j : Int) := by
  have h1 := h.low _ _ k.sol j hj
  have h2 := k.low _ _ h.sol j hj
  exact ⟨h1.1.anti h2.1, h1.2.anti h2.2⟩
/-- What stands between: sets that grow. -/
structure Grw (L : List (List Int)) (R W : Nat → Nat) (n : Nat) (F G : Int → Nat) : Prop where
  lt : ∀ x, F x < 65536 ∧ G x < 65536
  fst : ∀ j : Nat, j < n → SubN (F (j : Int)) (insN (R j) (W j) (G (j : Int)))
  snd : ∀ j : Nat, j < n → SubN (G (j : Int)) (orE F (rowZ L j) (rowZ L j).length)
  top : ∀ F' G', Sol L R W n F' G' → ∀ j : Nat, j < n → SubN (F (j : Int)) (F' (j : Int)) ∧ SubN (G (j : Int)) (G' (j : Int))
def zeroS (_ : Int) : Nat := 0
theorem Grw.zero (L : List (List Int)) (R W : Nat → Nat) (n : Nat) : Grw L R W n zeroS zeroS := ⟨fun _ => ⟨by show 0 < 65536; decide, by show 0 < 65536; decide⟩, fun _ _ => SubN.zero _, fun _ _ => SubN.zero _, fun _ _ _ _ _ => ⟨SubN.zero _, SubN.zero _⟩⟩
def putS (F : Int → Nat) (x : Int) (v : Nat) (y : Int) : Nat := if y = x then v else F y
theorem putS_here (F : Int → Nat) (x : Int) (v : Nat) : putS F x v x = v := if_pos rfl
theorem putS_else (F : Int → Nat) {x y : Int} (v : Nat) (h : y ≠ x) : putS F x v y = F y := if_neg h
theorem putS_same (F : Int → Nat) (x : Int) : putS F x (F x) = F := funext fun y => by
  by_cases h : y = x
  · rw [h, putS_here]
  · rw [putS_else _ _ h]
def Inn (L : List (List Int)) (n : Nat) : Prop := ∀ k t, k < n → t < (rowZ L k).length → 0 ≤ nth (rowZ L k) t ∧ nth (rowZ L k) t < (n : Int)
section
variable {L : List (List Int)} {R W : Nat → Nat} {n : Nat} {F G : Int → Nat}
theorem Grw.more (h : Grw L R W n F G) (hR : ∀ j, R j < 65536) (hW : ∀ j, W j < 65536) (hI : Inn L n) {k : Nat} (hk : k < n) :
    Grw L R W n (putS F (k : Int) (insN (R k) (W k) (orE F (rowZ L k) (rowZ L k).length))) (putS G (k : Int) (orE F (rowZ L k) (rowZ L k).length)) := by
  have ho := orE_lt (rowZ L k) (fun x => (h.lt x).1) (rowZ L k).length
  have hup : ∀ y, SubN (F y) (putS F (k : Int) (insN (R k) (W k) (orE F (rowZ L k) (rowZ L k).length)) y) := fun y => by
    by_cases e : y = (k : Int)
    · rw [e, putS_here]
      exact (h.fst k hk).trans (insN_sub (hW k) (h.snd k hk))
    · rw [putS_else _ _ e]; exact SubN.refl _
  refine ⟨fun x => ⟨?_, ?_⟩, fun j hj => ?_, fun j hj => ?_, fun F' G' hs j hj => ?_⟩
  · unfold putS
    split
    · exact insN_lt (hR k) ho
    · exact (h.lt x).1
  · unfold putS
    split
    · exact ho
    · exact (h.lt x).2
  · by_cases e : j = k
    · rw [e, putS_here, putS_here]; exact SubN.refl _
    · rw [putS_else _ _ (by omega), putS_else _ _ (by omega)]; exact h.fst j hj
  · by_cases e : j = k
    · rw [e, putS_here]; exact orE_sub fun t _ => hup _
    · rw [putS_else _ _ (by omega)]; exact (h.snd j hj).trans (orE_sub fun t _ => hup _)
  · by_cases e : j = k
    · have h1 : SubN (orE F (rowZ L k) (rowZ L k).length) (G' (k : Int)) := by
        rw [hs.out k hk]
        refine orE_sub fun t ht => ?_
        obtain ⟨a, b⟩ := hI k t hk ht
        have := (h.top F' G' hs (nth (rowZ L k) t).toNat (by omega)).1
        rwa [show (((nth (rowZ L k) t).toNat : Nat) : Int) = nth (rowZ L k) t by omega] at this
      rw [e, putS_here, putS_here]
      refine ⟨?_, h1⟩
      rw [hs.inn k hk]
      exact insN_sub (hW k) h1
    · rw [putS_else _ _ (by omega), putS_else _ _ (by omega)]; exact h.top F' G' hs j hj
end
/-- How much is still lacking. -/
def lowS (F : Int → Nat) : Nat → Nat
  | 0 => 0
  | n + 1 => lowS F n + (65535 - F (n : Int))
theorem lowS_le {F G : Int → Nat} : ∀ {n : Nat}, (∀ i : Nat, i < n → F (i : Int) ≤ G (i : Int)) → lowS G n ≤ lowS F n
  | 0, _ => Nat.le_refl _
  | n + 1, h => by
    have h1 := lowS_le (n := n) fun i hi => h i (by omega)
    have h2 := h n (by omega)
    unfold lowS
    omega
theorem lowS_lt {F G : Int → Nat} {k : Nat} : ∀ {n : Nat}, (∀ i : Nat, i < n → F (i : Int) ≤ G (i : Int)) → k < n → F (k : Int) < G (k : Int) → G (k : Int) < 65536 → lowS G n < lowS F n
  | 0, _, hk, _, _ => by omega
  | n + 1, h, hk, h1, h2 => by
    unfold lowS
    by_cases e : k = n
    · have h3 := lowS_le (n := n) fun i hi => h i (by omega)
      rw [e] at h1 h2
      omega
    · have h3 := lowS_lt (n := n) (fun i hi => h i (by omega)) (by omega) h1 h2
      have h4 := h n (by omega)
      omega
theorem lowS_same {F G : Int → Nat} {n : Nat} (h : ∀ i : Nat, i < n → F (i : Int) = G (i : Int)) : lowS F n = lowS G n :=
  Nat.le_antisymm (lowS_le fun i hi => Nat.le_of_eq (h i hi).symm) (lowS_le fun i hi => Nat.le_of_eq (h i hi))
/-- How a round has come on: all from k on are done. -/
def OnS (L : List (List Int)) (R W : Nat → Nat) (n : Nat) (F0 G0 F G : Int → Nat) (m : Bool) (k : Nat) : Prop :=
  (m = false → F = F0 ∧ G = G0 ∧ ∀ j : Nat, k ≤ j → j < n → G0 (j : Int) = orE F0 (rowZ L j) (rowZ L j).length ∧ F0 (j : Int) = insN (R j) (W j) (G0 (j : Int))) ∧ (m = true → lowS F n + lowS G n < lowS F0 n + lowS G0 n)
theorem OnS.zero (L : List (List Int)) (R W : Nat → Nat) (n : Nat) (F G : Int → Nat) : OnS L R W n F G F G false n := ⟨fun _ => ⟨rfl, rfl, fun j h1 h2 => by omega⟩, fun h => by cases h⟩
section
variable {L : List (List Int)} {R W : Nat → Nat} {n : Nat} {F0 G0 F G : Int → Nat} {m : Bool} {k : Nat}
theorem OnS.keep (h : OnS L R W n F0 G0 F G m (k + 1)) (e1 : insN (R k) (W k) (orE F (rowZ L k) (rowZ L k).length) = F (k : Int)) (e2 : orE F (rowZ L k) (rowZ L k).length = G (k : Int)) :
    OnS L R W n F0 G0 (putS F (k : Int) (insN (R k) (W k) (orE F (rowZ L k) (rowZ L k).length))) (putS G (k : Int) (orE F (rowZ L k) (rowZ L k).length)) m k := by
  rw [e1, putS_same, e2, putS_same]
  refine ⟨fun hm => ?_, h.2⟩
  obtain ⟨h1, h2, h3⟩ := h.1 hm
  subst h1 h2
  refine ⟨rfl, rfl, fun j hj hn => ?_⟩
  by_cases e : j = k
  · subst e
    exact ⟨e2.symm, by rw [← e2]; exact e1.symm⟩
  · exact h3 j (by omega) hn
theorem OnS.new (h : OnS L R W n F0 G0 F G m (k + 1)) (hg : Grw L R W n F G) (hR : ∀ j, R j < 65536) (hW : ∀ j, W j < 65536) (hk : k < n) (e : insN (R k) (W k) (orE F (rowZ L k) (rowZ L k).length) ≠ F (k : Int) ∨ orE F (rowZ L k) (rowZ L k).length ≠ G (k : Int)) :
    OnS L R W n F0 G0 (putS F (k : Int) (insN (R k) (W k) (orE F (rowZ L k) (rowZ L k).length))) (putS G (k : Int) (orE F (rowZ L k) (rowZ L k).length)) true k := by
  have ho := orE_lt (rowZ L k) (fun x => (hg.lt x).1) (rowZ L k).length
  have a1 : F (k : Int) ≤ insN (R k) (W k) (orE F (rowZ L k) (rowZ L k).length) := ((hg.fst k hk).trans (insN_sub (hW k) (hg.snd k hk))).le
  have a2 : G (k : Int) ≤ orE F (rowZ L k) (rowZ L k).length := (hg.snd k hk).le
  have b1 := insN_lt (w := W k) (hR k) ho
  generalize insN (R k) (W k) (orE F (rowZ L k) (rowZ L k).length) = v at *
  generalize orE F (rowZ L k) (rowZ L k).length = o at *
  have c1 : ∀ i : Nat, i < n → F (i : Int) ≤ putS F (k : Int) v (i : Int) := fun i _ => by
    by_cases x : i = k
    · rw [x, putS_here]; exact a1
    · rw [putS_else _ _ (by omega)]; exact Nat.le_refl _
  have c2 : ∀ i : Nat, i < n → G (i : Int) ≤ putS G (k : Int) o (i : Int) := fun i _ => by
    by_cases x : i = k
    · rw [x, putS_here]; exact a2
    · rw [putS_else _ _ (by omega)]; exact Nat.le_refl _
  have d1 := lowS_le c1
  have d2 := lowS_le c2
  have dd : lowS (putS F (k : Int) v) n + lowS (putS G (k : Int) o) n < lowS F n + lowS G n := by
    rcases e with e | e
    · have := lowS_lt c1 hk (by rw [putS_here]; omega) (by rw [putS_here]; exact b1)
      omega
    · have := lowS_lt c2 hk (by rw [putS_here]; omega) (by rw [putS_here]; exact ho)
      omega
  refine ⟨fun x => (by cases x), fun _ => ?_⟩
  cases m with
  | true => have := h.2 rfl; omega
  | false => obtain ⟨x, y, _⟩ := h.1 rfl; rw [x, y] at dd ⊢; exact dd
theorem OnS.done (h : OnS L R W n F0 G0 F G m 0) (hg : Grw L R W n F G) (e : m = false) : Lst L R W n F G := by
  obtain ⟨h1, h2, h3⟩ := h.1 e
  subst h1 h2
  exact ⟨⟨fun j hj => (h3 j (Nat.zero_le _) hj).1, fun j hj => (h3 j (Nat.zero_le _) hj).2⟩, hg.top⟩
end
/-- Place by place from a block's end. -/
def setB (text : List Int) (e : Int) (s : Nat) : Nat → Nat
  | 0 => s
  | k + 1 => insN (rdN (nth text (e - 1 - k).toNat)) (wrN (nth text (e - 1 - k).toNat)) (setB text e s k)
theorem setB_lt (text : List Int) (e : Int) {s : Nat} (h : s < 65536) : ∀ k, setB text e s k < 65536
  | 0 => h
  | k + 1 => insN_lt (rdN_lt _) (setB_lt text e h k)
/-- A block's words, what they read, what they write. -/
def cutL (l : List Int) (a b : Int) : List Int := (l.drop a.toNat).take (b - a).toNat
def blR (text : List Int) (ent : Int) (i : Nat) : Nat := allR (cutL text (rAt (blkL text ent) i) (rSym (blkL text ent) i)) (cutL text (rAt (blkL text ent) i) (rSym (blkL text ent) i)).length
def blW (text : List Int) (ent : Int) (i : Nat) : Nat := allW (cutL text (rAt (blkL text ent) i) (rSym (blkL text ent) i)) (cutL text (rAt (blkL text ent) i) (rSym (blkL text ent) i)).length
theorem blR_lt (text : List Int) (ent : Int) (i : Nat) : blR text ent i < 65536 := allR_lt _ _
theorem blW_lt (text : List Int) (ent : Int) (i : Nat) : blW text ent i < 65536 := allW_lt _ _
/-- The least sets of an image's blocks. -/
def LstI (text : List Int) (ent : Int) (F G : Int → Nat) : Prop := Lst (edgT text ent (blkL text ent).length) (blR text ent) (blW text ent) (blkL text ent).length F G
/-- What is live behind each place. -/
def BhI (text : List Int) (ent : Int) (H : Int → Nat) : Prop := ∃ F G, LstI text ent F G ∧ ∀ i : Nat, i < (blkL text ent).length → ∀ p : Nat, rAt (blkL text ent) i ≤ (p : Int) → (p : Int) < rSym (blkL text ent) i → H (p : Int) = setB text (rSym (blkL text ent) i) (G (i : Int)) (rSym (blkL text ent) i - 1 - (p : Int)).toNat
theorem cutL_len {l : List Int} {a b : Int} (h0 : 0 ≤ a) (h1 : a ≤ b) (h2 : b ≤ (l.length : Int)) : (cutL l a b).length = (b - a).toNat := by
  unfold cutL
  rw [List.length_take, List.length_drop]
  omega
theorem cutL_nth {l : List Int} {a b : Int} (h0 : 0 ≤ a) (h1 : a ≤ b) (h2 : b ≤ (l.length : Int)) {i : Nat} (hi : i < (cutL l a b).length) : nth (cutL l a b) i = nth l (a.toNat + i) := by
  rw [cutL_len h0 h1 h2] at hi
  unfold nth cutL
  rw [List.getD_eq_getElem?_getD, List.getD_eq_getElem?_getD, List.getElem?_take_of_lt hi, List.getElem?_drop]
theorem addTwo (a : Addr) (x i : Nat) : (a.add x).add i = a.add (x + i) := by
  by_cases hx : x = 0
  · subst hx; simp [Addr.add]
  · by_cases hi : i = 0
    · subst hi; simp [Addr.add]
    · simp [Addr.add, hx, hi, Nat.add_assoc]
theorem cutL_ints {w : World} {a : Addr} {K : IntKind} {l : List Int} (h : IntsAt w (some a) K l) {x y : Int} (h0 : 0 ≤ x) (h1 : x ≤ y) (h2 : y ≤ (l.length : Int)) : IntsAt w (some (a.add x.toNat)) K (cutL l x y) := fun i hi => by
  have hl := hi
  rw [cutL_len h0 h1 h2] at hl
  obtain ⟨b, e, q⟩ := h (x.toNat + i) (by omega)
  cases e
  exact ⟨_, rfl, by rw [cutL_nth h0 h1 h2 hi, ← q, addTwo]⟩



end Go.Proofs.YtmlhnnmelopleaaGreatDoor

namespace Go.Proofs.YtmlhnnmelopleaaGreatDoor
open Go.RowKit

def Dn (text : List Int) (L : List Rel) (G H : Int → Nat) (k : Nat) : Prop := ∀ i : Nat, i < k → ∀ p : Nat, rAt L i ≤ (p : Int) → (p : Int) < rSym L i → H (p : Int) = setB text (rSym L i) (G (i : Int)) (rSym L i - 1 - (p : Int)).toNat
def Dp (text : List Int) (L : List Rel) (G H : Int → Nat) (k : Nat) (x : Int) : Prop := Dn text L G H k ∧ ∀ p : Nat, x < (p : Int) → (p : Int) < rSym L k → H (p : Int) = setB text (rSym L k) (G (k : Int)) (rSym L k - 1 - (p : Int)).toNat
section
variable {text : List Int} {L : List Rel} {G H : Int → Nat} {k : Nat}
theorem Dp.start (h : Dn text L G H k) : Dp text L G H k (rSym L k - 1) := ⟨h, fun p a b => by omega⟩
theorem Dp.put {x : Nat} (h : Dp text L G H k (x : Int)) (hm : ∀ i, i < k → rSym L i ≤ rAt L k) (hx : rAt L k ≤ (x : Int)) (s : Nat) (hs : s = setB text (rSym L k) (G (k : Int)) (rSym L k - 1 - (x : Int)).toNat) : Dp text L G (putS H (x : Int) s) k ((x : Int) - 1) := by
  refine ⟨fun i hi p a b => ?_, fun p a b => ?_⟩
  · have := hm i hi
    rw [putS_else _ _ (by omega)]
    exact h.1 i hi p a b
  · by_cases e : p = x
    · subst e
      rw [putS_here]; exact hs
    · rw [putS_else _ _ (by omega)]
      exact h.2 p (by omega) b
theorem Dp.done {x : Int} (h : Dp text L G H k x) (hx : x < rAt L k) : Dn text L G H (k + 1) := fun i hi p a b => by
  by_cases e : i = k
  · subst e
    exact h.2 p (by omega) b
  · exact h.1 i (by omega) p a b
end
theorem begin_zero (text : List Int) (ent : Int) : begF text ent 0 = true := by simp [begF, addK, setF]
theorem blkRise {text : List Int} {ent : Int} (hn : 0 < text.length) : ∀ {k : Nat}, k < (blkL text ent).length → ∀ i, i < k → rSym (blkL text ent) i ≤ rAt (blkL text ent) k
  | 0, _, i, hi => by omega
  | k + 1, hk, i, hi => by
    have h1 : rAt (blkL text ent) (k + 1) = rSym (blkL text ent) k := by
      have := (cov_here hn (begin_zero text ent) hk).1
      rw [cov_succ] at this
      exact this
    rw [h1]
    by_cases e : i = k
    · rw [e]; exact Int.le_refl _
    · have h2 := blkRise (ent := ent) hn (k := k) (by omega) i (by omega)
      have h3 := (blk_in (text := text) (ent := ent) (show k < (blkL text ent).length by omega)).2.1
      omega
/-- Each place lies in a block. -/
theorem blk_all {text : List Int} {ent : Int} (hn : 0 < text.length) {p : Nat} (hp : p < text.length) : ∃ i : Nat, i < (blkL text ent).length ∧ rAt (blkL text ent) i ≤ (p : Int) ∧ (p : Int) < rSym (blkL text ent) i := by
  have h : ∀ k : Nat, k ≤ (blkL text ent).length → (p : Int) < covAt (blkL text ent) k → ∃ i : Nat, i < k ∧ rAt (blkL text ent) i ≤ (p : Int) ∧ (p : Int) < rSym (blkL text ent) i := by
    intro k
    induction k with
    | zero => intro _ h; rw [cov_zero] at h; omega
    | succ k ih =>
      intro hk h
      have h1 : rAt (blkL text ent) k = covAt (blkL text ent) k := (cov_here hn (begin_zero text ent) (show k < (blkL text ent).length by omega)).1
      rw [cov_succ] at h
      by_cases e : (p : Int) < covAt (blkL text ent) k
      · obtain ⟨i, a, b⟩ := ih (by omega) e
        exact ⟨i, by omega, b⟩
      · exact ⟨k, by omega, by omega, h⟩
  have he : covAt (blkL text ent) (blkL text ent).length = (text.length : Int) := cov_end hn (begin_zero text ent)
  obtain ⟨i, a, b⟩ := h _ (Nat.le_refl _) (by rw [he]; omega)
  exact ⟨i, a, b⟩
theorem BhI.uniq {text : List Int} {ent : Int} (hn : 0 < text.length) {H H' : Int → Nat} (h : BhI text ent H) (k : BhI text ent H') (p : Nat) (hp : p < text.length) : H (p : Int) = H' (p : Int) := by
  obtain ⟨F, G, h1, h2⟩ := h
  obtain ⟨F', G', k1, k2⟩ := k
  obtain ⟨i, a, b, c⟩ := blk_all (ent := ent) hn hp
  rw [h2 i a p b c, k2 i a p b c, (Lst.uniq h1 k1 i a).2]



end Go.Proofs.YtmlhnnmelopleaaGreatDoor

namespace Go.Proofs.YtmlhnnmelopleaaGreatDoor
open Go.RowKit

/-- Does one below k? -/
def hasN (f : Nat → Bool) : Nat → Bool
  | 0 => false
  | k + 1 => hasN f k || f k
theorem hasN_no {f : Nat → Bool} : ∀ {k : Nat}, (∀ i, i < k → f i = false) → hasN f k = false
  | 0, _ => rfl
  | k + 1, h => by
    show (hasN f k || f k) = false
    rw [hasN_no fun i hi => h i (by omega), h k (by omega)]; rfl
theorem hasN_yes {f : Nat → Bool} : ∀ {k i : Nat}, i < k → f i = true → hasN f k = true
  | 0, _, hi, _ => absurd hi (Nat.not_lt_zero _)
  | k + 1, i, hi, h => by
    show (hasN f k || f k) = true
    by_cases e : i = k
    · rw [← e, h, Bool.or_true]
    · rw [hasN_yes (by omega) h, Bool.true_or]
theorem hasN_of {f : Nat → Bool} : ∀ {k : Nat}, hasN f k = true → ∃ i, i < k ∧ f i = true
  | 0, h => by cases h
  | k + 1, h => by
    have h : (hasN f k || f k) = true := h
    rw [Bool.or_eq_true] at h
    rcases h with h | h
    · obtain ⟨i, hi, e⟩ := hasN_of h
      exact ⟨i, by omega, e⟩
    · exact ⟨k, by omega, h⟩
theorem hasN_fit {f g : Nat → Bool} : ∀ {k : Nat}, (∀ i, i < k → f i = g i) → hasN f k = hasN g k
  | 0, _ => rfl
  | k + 1, h => by
    show (hasN f k || f k) = (hasN g k || g k)
    rw [hasN_fit fun i hi => h i (by omega), h k (by omega)]
def alW (l : List Int) (i : Nat) : Bool := alB (nth l i)
def enW (l : List Int) (i : Nat) : Bool := endsB (dOp (nth l i))
def lastN (op : Int) : Int := if op = 0 ∨ op = 15 ∨ op = 19 ∨ op = 21 then 1 else if op = 17 ∨ op = 18 then 2 else 3
/-- What a row of words can be folded as. -/
def kindN (l : List Int) : Int := if l.length = 0 ∨ hasN (alW l) l.length = true ∨ hasN (enW l) (l.length - 1) = true then 0 else lastN (dOp (nth l (l.length - 1)))
theorem kind_empty {l : List Int} (h : l.length = 0) : kindN l = 0 := if_pos (.inl h)
theorem kind_alone {l : List Int} (h : hasN (alW l) l.length = true) : kindN l = 0 := if_pos (.inr (.inl h))
theorem kind_ends {l : List Int} (h : hasN (enW l) (l.length - 1) = true) : kindN l = 0 := if_pos (.inr (.inr h))
theorem kind_last {l : List Int} (h0 : l.length ≠ 0) (h1 : hasN (alW l) l.length = false) (h2 : hasN (enW l) (l.length - 1) = false) : kindN l = lastN (dOp (nth l (l.length - 1))) := if_neg (by rw [h1, h2]; simp [h0])
theorem last1 {op : Int} (h : op = 0 ∨ op = 15 ∨ op = 19 ∨ op = 21) : lastN op = 1 := if_pos h
theorem last2 {op : Int} (h : op = 17 ∨ op = 18) : lastN op = 2 := by
  unfold lastN; rw [if_neg (by omega), if_pos h]
theorem last3 {op : Int} (h : ¬ (op = 0 ∨ op = 15 ∨ op = 19 ∨ op = 21)) (k : ¬ (op = 17 ∨ op = 18)) : lastN op = 3 := by
  unfold lastN; rw [if_neg h, if_neg k]
theorem last_in (op : Int) : lastN op = 1 ∨ lastN op = 2 ∨ lastN op = 3 := by
  by_cases h : op = 0 ∨ op = 15 ∨ op = 19 ∨ op = 21
  · exact .inl (last1 h)
  · by_cases k : op = 17 ∨ op = 18
    · exact .inr (.inl (last2 k))
    · exact .inr (.inr (last3 h k))
theorem kind_in (l : List Int) : kindN l = 0 ∨ kindN l = 1 ∨ kindN l = 2 ∨ kindN l = 3 := by
  unfold kindN
  split
  · exact .inl rfl
  · exact .inr (last_in _)
/-- The n words from p on. -/
def cutN (text : List Int) (p n : Nat) : List Int := (text.drop p).take n
theorem cutN_len {text : List Int} {p n : Nat} (h : p + n ≤ text.length) : (cutN text p n).length = n := by
  unfold cutN; rw [List.length_take, List.length_drop]; omega
theorem cutN_nth {text : List Int} {p n i : Nat} (hi : i < n) : nth (cutN text p n) i = nth text (p + i) := by
  unfold cutN nth
  rw [List.getD_eq_getElem?_getD, List.getD_eq_getElem?_getD, List.getElem?_take_of_lt hi, List.getElem?_drop]
theorem nth_list {l m : List Int} (h : l.length = m.length) (k : ∀ i, i < l.length → nth l i = nth m i) : l = m := by
  refine List.ext_getElem h fun i h1 h2 => ?_
  have := k i h1
  unfold nth at this
  rwa [List.getD_eq_getElem?_getD, List.getD_eq_getElem?_getD, List.getElem?_eq_getElem h1, List.getElem?_eq_getElem h2] at this
/-- The least register outside of a set of sixteen; 16 if there is none. -/
def lestN (s : Nat) : Nat := match (List.range 16).find? fun r => !s.testBit r with
  | some r => r
  | none => 16
theorem lestN_of {s r : Nat} (hr : r < 16) (h : s.testBit r = false) (k : ∀ i, i < r → s.testBit i = true) : lestN s = r := by
  have : (List.range 16).find? (fun r => !s.testBit r) = some r := by
    rw [List.find?_range_eq_some]
    exact ⟨by rw [h]; rfl, by simpa using hr, fun i hi => by rw [k i hi]; rfl⟩
  unfold lestN; rw [this]
theorem lestN_none {s : Nat} (k : ∀ i, i < 16 → s.testBit i = true) : lestN s = 16 := by
  have : (List.range 16).find? (fun r => !s.testBit r) = none := by
    rw [List.find?_eq_none]
    intro x hx
    simp only [List.mem_range] at hx
    rw [k x hx]; simp
  unfold lestN; rw [this]
theorem lestN_low (s : Nat) : lestN s ≤ 16 ∧ (∀ i, i < lestN s → s.testBit i = true) ∧ (lestN s < 16 → s.testBit (lestN s) = false) := by
  by_cases h : ∃ r, r < 16 ∧ s.testBit r = false
  · obtain ⟨r, hr, e⟩ := h
    induction r using Nat.strongRecOn with
    | _ r ih =>
      by_cases k : ∀ i, i < r → s.testBit i = true
      · rw [lestN_of hr e k]
        exact ⟨by omega, k, fun _ => e⟩
      · have : ∃ i, i < r ∧ s.testBit i = false := by
          refine Classical.byContradiction fun hn => k fun i hi => ?_
          cases hb : s.testBit i with
          | true => rfl
          | false => exact absurd ⟨i, hi, hb⟩ hn
        obtain ⟨i, hi, e2⟩ := this
        exact ih i hi (by omega) e2
  · have k : ∀ i, i < 16 → s.testBit i = true := fun i hi => by
      cases hb : s.testBit i with
      | true => rfl
      | false => exact absurd ⟨i, hi, hb⟩ h
    rw [lestN_none k]
    exact ⟨by omega, k, fun hh => by omega⟩
/-- What a word reads or writes is in what the row reads and writes. -/
theorem all_named (l : List Int) : ∀ (k i r : Nat), i < k → (rdN (nth l i) ||| wrN (nth l i)).testBit r = true → (allR l k ||| allW l k).testBit r = true
  | 0, _, _, hi, _ => absurd hi (Nat.not_lt_zero _)
  | k + 1, i, r, hi, h => by
    have hr : r < 16 := by
      refine Classical.byContradiction fun hn => ?_
      have h2 : rdN (nth l i) ||| wrN (nth l i) < 2 ^ r := Nat.lt_of_lt_of_le (orN_lt (rdN_lt _) (wrN_lt _)) (Nat.pow_le_pow_right (n := 2) (i := 16) (by omega) (by omega))
      rw [Nat.testBit_lt_two_pow h2] at h; cases h
    have e1 : allR l (k + 1) = allR l k ||| lessN (rdN (nth l k)) (allW l k) := rfl
    have e2 : allW l (k + 1) = allW l k ||| wrN (nth l k) := rfl
    rw [e1, e2]
    simp only [Nat.testBit_or, Bool.or_eq_true, lessN_bit (allW_lt l k), Bool.and_eq_true, Bool.not_eq_true', decide_eq_true_eq] at h ⊢
    by_cases e : i = k
    · subst e
      cases hw : (allW l i).testBit r with
      | true => exact .inr (.inl rfl)
      | false => rcases h with h | h
                 · exact .inl (.inr ⟨h, hr, rfl⟩)
                 · exact .inr (.inr h)
    · have := all_named l k i r (by omega) (by simpa only [Nat.testBit_or, Bool.or_eq_true] using h)
      simp only [Nat.testBit_or, Bool.or_eq_true] at this
      rcases this with h | h
      · exact .inl (.inl h)
      · exact .inr (.inl h)
/-- Does the sequence of n words at p lie in one block? -/
def inB (text : List Int) (ent : Int) (n p : Nat) : Bool := decide ((p : Int) + n ≤ rSym (blkL text ent) (ofB (blkL text ent) p).toNat)
/-- The set of registers that are alive behind it, or that it touches. -/
def busyN (text : List Int) (H : Int → Nat) (n p : Nat) : Nat := H ((p + n - 1 : Nat) : Int) ||| allR (cutN text p n) n ||| allW (cutN text p n) n
/-- A spot: its class and register; none: class 0. -/
def spotN (text : List Int) (ent : Int) (H : Int → Nat) (n p : Nat) : Int × Int :=
  if inB text ent n p = false ∨ kindN (cutN text p n) = 0 then (0, 0)
  else if kindN (cutN text p n) ≠ 3 then (kindN (cutN text p n), 0)
  else if (H ((p + n - 1 : Nat) : Int)).testBit 15 = false then (3, 0)
  else if 3 < n ∧ lestN (busyN text H n p) < 15 then (4, (lestN (busyN text H n p) : Int)) else (0, 0)
theorem spot_same {text : List Int} {ent : Int} {H G : Int → Nat} {n p : Nat} (hp : p + n ≤ text.length) (hn : 0 < n) (h : BhI text ent H) (k : BhI text ent G) : spotN text ent H n p = spotN text ent G n p := by
  have e : H ((p + n - 1 : Nat) : Int) = G ((p + n - 1 : Nat) : Int) := BhI.uniq (by omega) h k (p + n - 1) (by omega)
  unfold spotN busyN
  rw [e]
/-- The spots among places, in order. -/
def spotsN (text : List Int) (ent : Int) (H : Int → Nat) (n : Nat) : List Int → List (Int × Int × Int)
  | [] => []
  | p :: l => if (spotN text ent H n p.toNat).1 = 0 then spotsN text ent H n l else (p, spotN text ent H n p.toNat) :: spotsN text ent H n l
theorem spots_snoc (text : List Int) (ent : Int) (H : Int → Nat) (n : Nat) : ∀ (l : List Int) (p : Int), spotsN text ent H n (l ++ [p]) = spotsN text ent H n l ++ (if (spotN text ent H n p.toNat).1 = 0 then [] else [(p, spotN text ent H n p.toNat)])
  | [], p => by
    show (if _ then _ else _) = [] ++ _
    split <;> rfl
  | q :: l, p => by
    show (if _ then spotsN text ent H n (l ++ [p]) else _ :: spotsN text ent H n (l ++ [p])) = _
    rw [spots_snoc text ent H n l p]
    show _ = (if _ then _ else _) ++ _
    split <;> rfl
/-- Are there n places from p on? -/
def fitB (text : List Int) (n p : Int) : Bool := decide (2 ≤ n ∧ 0 ≤ p ∧ p + n ≤ (text.length : Int))
/-- Do the n words at q stand at p, none of them alone? -/
def sameB (text : List Int) (n p q : Nat) : Bool := !hasN (fun i => (nth text (p + i) != nth text (q + i)) || alB (nth text (p + i))) n
/-- May these places be one sequence's? -/
def oneB (text : List Int) (n : Int) (at' : List Int) : Bool :=
  decide (at' ≠ []) && !hasN (fun i => !fitB text n (nth at' i) || (decide (0 < i) && (decide (nth at' i ≤ nth at' (i - 1)) || !sameB text n.toNat (nth at' 0).toNat (nth at' i).toNat))) at'.length

end Go.Proofs.YtmlhnnmelopleaaGreatDoor

namespace Go.Proofs.YtmlhnnmelopleaaGreatDoor
open Go.RowKit

def tzTab : List Int := [0, 1, 28, 2, 29, 14, 24, 3, 30, 22, 20, 15, 25, 17, 4, 8, 31, 27, 13, 23, 21, 19, 16, 7, 26, 12, 18, 6, 11, 5, 10, 9]
/-- The table lies as listed. -/
def Tz (w : World) : Prop := Lib.TabIs Tryz.prog w "math/bits.deBruijn32tab" .u8 tzTab
theorem gTz : Tryz.prog.globalNamed "math/bits.deBruijn32tab" = some 0 := by kernel_rfl
theorem Tz.below {w w1 : World} (h : Tz w) (hb : Below w.heap.size w w1) : Tz w1 := by
  have hc := Lib.TabIs.cell h gTz 0 (by decide)
  exact var?_below hb gTz (World.block_lt_of_cell? w _ hc) h
theorem Tz.cells {w : World} (h : Tz w) {i : Nat} (hi : i < 32) : w.cell? ⟨0, i, none⟩ = some (.int .u8 (nth tzTab i)) := by
  have := Lib.TabIs.cell h gTz i hi
  rw [this]
  unfold nth
  rw [List.getD_eq_getElem?_getD, List.getElem?_eq_getElem hi]
theorem low_bit {x r : Nat} (h1 : x.testBit r = true) (h0 : ∀ i, i < r → x.testBit i = false) : ∃ q, x = 2 ^ (r + 1) * q + 2 ^ r := by
  refine ⟨x / 2 ^ (r + 1), ?_⟩
  have hm : x % 2 ^ (r + 1) = 2 ^ r := by
    refine Nat.eq_of_testBit_eq fun j => ?_
    rw [Nat.testBit_mod_two_pow, Nat.testBit_two_pow]
    by_cases e : j < r + 1
    · by_cases e2 : j = r
      · subst e2; simp [h1]
      · rw [h0 j (by omega), Bool.and_false, decide_eq_false (fun h => e2 h.symm)]
    · rw [decide_eq_false e, Bool.false_and, decide_eq_false (fun h => e (by omega))]
  have := Nat.div_add_mod x (2 ^ (r + 1))
  rw [hm] at this
  exact this.symm
theorem and_neg {x r : Nat} (hx : x < 65536) (h1 : x.testBit r = true) (h0 : ∀ i, i < r → x.testBit i = false) : x &&& (65536 - x) = 2 ^ r := by
  obtain ⟨q, hq⟩ := low_bit h1 h0
  have hp : 0 < 2 ^ r := Nat.pos_of_ne_zero (by simp)
  have hr : r < 16 := by
    refine Classical.byContradiction fun hn => ?_
    rw [Nat.testBit_lt_two_pow (Nat.lt_of_lt_of_le hx (Nat.pow_le_pow_right (n := 2) (i := 16) (by omega) (by omega)))] at h1
    cases h1
  obtain ⟨y, hy⟩ : ∃ y, x = y + 1 := ⟨x - 1, by omega⟩
  have hq2 : y = 2 ^ (r + 1) * q + (2 ^ r - 1) := by omega
  have hlt : 2 ^ r < 2 ^ (r + 1) := Nat.pow_lt_pow_right (by omega) (by omega)
  refine Nat.eq_of_testBit_eq fun j => ?_
  rw [Nat.testBit_and, hy, show 65536 - (y + 1) = 2 ^ 16 - (y + 1) by rfl, Nat.testBit_two_pow_sub_succ (by omega), ← hy, hq, hq2, Nat.testBit_two_pow_mul_add _ hlt, Nat.testBit_two_pow_mul_add _ (by omega), Nat.testBit_two_pow, Nat.testBit_two_pow_sub_one]
  by_cases e : j < r + 1
  · rw [if_pos e, if_pos e]
    by_cases e2 : r = j
    · subst e2; simp; omega
    · simp [e2]
  · rw [if_neg e, if_neg e]
    have : ¬ r = j := by omega
    simp [this]
    intro h _
    exact h
theorem andI {a b : Nat} (h : a < 65536) (k : b < 65536) : bits .and .u16 (a : Int) (b : Int) = ((a &&& b : Nat) : Int) := by
  rw [u16_and _ _ (by omega) (by omega) (by omega) (by omega)]
  simp

theorem tz_num : ∀ r : Nat, r < 16 → nth tzTab (2 ^ r * 125613361 % 4294967296 / 134217728) = (r : Int) ∧ 2 ^ r * 125613361 % 4294967296 / 134217728 < 32 := by decide
set_option maxHeartbeats 2000000 in
theorem tz16_any (x : Nat) (hx : x < 65536) (w : World) (hT : Tz w) : Calls Tryz.prog 94 #[.int .u16 (x : Int)] w fun e w' => e = .returned (.int .i64 (lestN (65535 - x) : Nat)) ∧ w' = w := by
  by_cases h0 : x = 0
  · subst h0
    go_enter Tryz.func94, Tryz.ntmps94
    go_wp2
    go_ret
    exact ⟨by rw [show lestN (65535 - 0) = 16 by decide]; rfl, rfl⟩
  · have hne : ((x : Int) == 0) = false := by rw [beq_eq_false_iff_ne]; omega
    obtain ⟨l1, l2, l3⟩ := lestN_low (65535 - x)
    have hb : ∀ i, i < 16 → (65535 - x).testBit i = !x.testBit i := fun i hi => by
      rw [show 65535 - x = 2 ^ 16 - (x + 1) by omega, Nat.testBit_two_pow_sub_succ (by omega), decide_eq_true hi, Bool.true_and]
    have hr : lestN (65535 - x) < 16 := by
      refine Classical.byContradiction fun hn => h0 (Nat.eq_of_testBit_eq fun j => ?_)
      rw [Nat.zero_testBit]
      by_cases hj : j < 16
      · have := l2 j (by omega)
        rw [hb j hj] at this
        simpa using this
      · exact Nat.testBit_lt_two_pow (Nat.lt_of_lt_of_le hx (Nat.pow_le_pow_right (n := 2) (i := 16) (by omega) (by omega)))
    generalize hR : lestN (65535 - x) = r at *
    have b1 : x.testBit r = true := by
      have := l3 hr
      rw [hb r hr] at this
      simpa using this
    have b0 : ∀ i, i < r → x.testBit i = false := fun i hi => by
      have := l2 i hi
      rw [hb i (by omega)] at this
      simpa using this
    have hA := and_neg hx b1 b0
    have hI : bits .and .u16 (x : Int) ((65536 - x : Nat) : Int) = ((2 ^ r : Nat) : Int) := by rw [andI hx (by omega), hA]
    obtain ⟨t1, t2⟩ := tz_num r hr
    have hc := hT.cells t2
    have hp : 2 ^ r < 65536 := Nat.pow_lt_pow_right (n := 16) (by omega) hr
    rw [t1] at hc
    clear l1 l2 l3 hb b1 b0 hA t1 hR
    generalize 2 ^ r = z at *
    have hu : IntKind.u16.wrap (-(x : Int)) = ((65536 - x : Nat) : Int) := by
      simp [IntKind.wrap, IntKind.signed, IntKind.bits]; omega
    go_enter Tryz.func94, Tryz.ntmps94
    go_wp2
    go_ret
    exact ⟨rfl, rfl⟩

theorem xor_all {s : Nat} (hs : s < 65536) : 65535 ^^^ s = 65535 - s := by
  refine Nat.eq_of_testBit_eq fun j => ?_
  rw [show 65535 - s = 2 ^ 16 - (s + 1) by omega, Nat.testBit_two_pow_sub_succ (by omega), Nat.testBit_xor, show 65535 = 2 ^ 16 - 1 by rfl, Nat.testBit_two_pow_sub_one]
  by_cases h : j < 16
  · simp [h]
  · have : s.testBit j = false := Nat.testBit_lt_two_pow (Nat.lt_of_lt_of_le hs (Nat.pow_le_pow_right (n := 2) (i := 16) (by omega) (by omega)))
    simp [h, this]
set_option maxHeartbeats 2000000 in
theorem lout_any (s : Nat) (hs : s < 65536) (w : World) (hT : Tz w) : Calls Tryz.prog 79 #[.int .u16 (s : Int)] w fun e w' => e = .returned (.int .i8 (lestN s : Nat)) ∧ w' = w := by
  have C := tz16_any (65535 - s) (by omega) w hT
  rw [show 65535 - (65535 - s) = s by omega] at C
  have h16 := (lestN_low s).1
  generalize lestN s = r at *
  have hx : bits .xor .u16 (if IntKind.u16.signed = true then -1 else IntKind.u16.max) (s : Int) = ((65535 - s : Nat) : Int) := by
    rw [show (if IntKind.u16.signed = true then (-1 : Int) else IntKind.u16.max) = ((65535 : Nat) : Int) by rfl, u16_xor_nat _ _ (by omega) hs, xor_all hs]
  obtain ⟨t, ht⟩ : ∃ t, t = 65535 - s := ⟨_, rfl⟩
  rw [← ht] at C hx
  clear ht
  go_enter Tryz.func79, Tryz.ntmps79
  go_wp2_with (go_at_call 94; refine C.mono ?_; rintro e w1 ⟨rfl, rfl⟩)
  go_ret
  exact ⟨rfl, rfl⟩

end Go.Proofs.YtmlhnnmelopleaaGreatDoor
