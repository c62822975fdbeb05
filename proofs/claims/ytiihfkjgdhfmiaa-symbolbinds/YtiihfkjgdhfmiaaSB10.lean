/-
  What an object that may be is, as plain mathematics: its parts, and that each relocation is found; no Go in sight. An object that may be, with one word more, one relocation less, one symbol twice, as plain mathematics; no Go in sight. What binding means, as plain mathematics; no Go in sight. A Global symbol is what its name stands for; one more Wanted symbol changes nothing; no Go in sight.
-/
import Derived.Test.YtiihfkjgdhfmiaaSB02
import Derived.Test.YtiihfkjgdhfmiaaProg
import Derived.WalkKit
import Derived.WalkSpells
import Derived.WalkLawsBesides
import Derived.RowKit3
import Derived.Below
import Derived.Deep.QuietTactic
import Derived.BigQuiet
import Derived.WalkSmall
import Derived.Laws.Rows
import Derived.Test.YtiihfkjgdhfmiaaSB06
namespace Go.Proofs.Ytiihfkjgdhfmiaa
open Go.RowKit

theorem first_zero {n : Nat} {f : Nat → Int} (h : (firstOf n f).1 = 0) : ∀ j, j < n → f j = 0 := by
  intro j hj
  unfold firstOf at h
  cases hf : (List.range n).find? (fun k => f k != 0) with
  | none =>
    rw [List.find?_eq_none] at hf
    simpa using hf j (by simpa using hj)
  | some k =>
    rw [hf] at h
    have := List.find?_some hf
    simp at this
    exact absurd h this
/-- An object's sizes may be. -/
def SizeOK (nm : ByteArray) (nc ns nr nd : Nat) (dA : Int) : Prop := nameOK nm = true ∧ nc ≤ 16384 ∧ ns ≤ 256 ∧ nr ≤ nc ∧ 0 ≤ dA ∧ dA ≤ 4096 ∧ (nd : Int) ≤ 4096 - dA
theorem size_ok {nm : ByteArray} {nc ns nr nd : Nat} {dA : Int} (h : SizeOK nm nc ns nr nd dA) : sizeC (nameOK nm) nc ns nr nd dA = (0, 0) := by
  obtain ⟨h1, h2, h3, h4, h5, h6, h7⟩ := h
  unfold sizeC
  rw [if_neg (by rw [h1]; simp), if_neg (by omega), if_neg (by omega), if_neg (by omega), if_neg (by omega)]
theorem ok_size {nm : ByteArray} {nc ns nr nd : Nat} {dA : Int} (h : (sizeC (nameOK nm) nc ns nr nd dA).1 = 0) : SizeOK nm nc ns nr nd dA := by
  unfold sizeC at h
  by_cases h1 : nameOK nm = false
  · rw [if_pos h1] at h; simp at h
  rw [if_neg h1] at h
  by_cases h2 : 16384 < nc
  · rw [if_pos h2] at h; simp at h
  rw [if_neg h2] at h
  by_cases h3 : 256 < ns
  · rw [if_pos h3] at h; simp at h
  rw [if_neg h3] at h
  by_cases h4 : nc < nr
  · rw [if_pos h4] at h; simp at h
  rw [if_neg h4] at h
  by_cases h5 : dA < 0 ∨ 4096 < dA ∨ 4096 - dA < (nd : Int)
  · rw [if_pos h5] at h; simp at h
  exact ⟨by simpa using h1, by omega, by omega, by omega, by omega, by omega, by omega⟩
/-- An object may be. -/
def MayBe (nm : ByteArray) (code : List Int) (dA : Int) (nd : Nat) (ss : List Sym) (rs : List Rel) : Prop :=
  SizeOK nm code.length ss.length rs.length nd dA ∧ (∀ j, j < ss.length → symE ss code.length j = 0) ∧ (∀ j, j < rs.length → relE rs code ss.length j = 0) ∧ ∀ j, j < code.length → codE code j = 0
theorem may_check {nm : ByteArray} {code : List Int} {dA : Int} {nd : Nat} {ss : List Sym} {rs : List Rel} (h : MayBe nm code dA nd ss rs) : checkC nm code dA nd ss rs = (0, 0) := by
  obtain ⟨h1, h2, h3, h4⟩ := h
  have e1 := size_ok h1
  have e2 : symC ss code.length = (0, 0) := first_none h2
  have e3 : relC rs code ss.length = (0, 0) := first_none h3
  have e4 : codC code = (0, 0) := by unfold codC; rw [first_none h4]; rfl
  unfold checkC
  rw [e1, e2, e3, e4]; simp
theorem check_may {nm : ByteArray} {code : List Int} {dA : Int} {nd : Nat} {ss : List Sym} {rs : List Rel} (h : (checkC nm code dA nd ss rs).1 = 0) : MayBe nm code dA nd ss rs := by
  unfold checkC at h
  by_cases h1 : (sizeC (nameOK nm) code.length ss.length rs.length nd dA).1 = 0
  · rw [if_neg (by simpa using h1)] at h
    by_cases h2 : (symC ss code.length).1 = 0
    · rw [if_neg (by simpa using h2)] at h
      by_cases h3 : (relC rs code ss.length).1 = 0
      · rw [if_neg (by simpa using h3)] at h
        refine ⟨ok_size h1, first_zero h2, first_zero h3, ?_⟩
        unfold codC at h
        by_cases h4 : (firstOf code.length (codE code)).1 = 0
        · exact first_zero h4
        · rw [if_neg h4] at h; simp at h
      · rw [if_pos h3] at h; exact absurd h h3
    · rw [if_pos h2] at h; exact absurd h h2
  · rw [if_pos h1] at h; exact absurd h h1
theorem sym_parts {ss : List Sym} {nc k : Nat} : symE ss nc k = 0 ↔ nameOK (sName ss k) = true ∧ ofS ss (sName ss k) = k ∧ 0 ≤ sKind ss k ∧ sKind ss k ≤ 3 ∧ 0 ≤ sAt ss k ∧ sAt ss k ≤ nc ∧ (sKind ss k = 3 → sAt ss k = 0) := by
  unfold symE
  constructor
  · intro h
    by_cases h1 : nameOK (sName ss k) = false
    · rw [if_pos h1] at h; simp at h
    rw [if_neg h1] at h
    by_cases h2 : ¬ ofS ss (sName ss k) = k
    · rw [if_pos h2] at h; simp at h
    rw [if_neg h2] at h
    by_cases h3 : sKind ss k < 0 ∨ 3 < sKind ss k
    · rw [if_pos h3] at h; simp at h
    rw [if_neg h3] at h
    by_cases h4 : sAt ss k < 0 ∨ (nc : Int) < sAt ss k ∨ (sKind ss k = 3 ∧ ¬ sAt ss k = 0)
    · rw [if_pos h4] at h; simp at h
    exact ⟨by simpa using h1, by simpa using h2, by omega, by omega, by omega, by omega, by omega⟩
  · rintro ⟨h1, h2, h3, h4, h5, h6, h7⟩
    rw [if_neg (by rw [h1]; simp), if_neg (by simpa using h2), if_neg (by omega), if_neg (by omega)]
theorem rel_parts {rs : List Rel} {code : List Int} {ns k : Nat} : relE rs code ns k = 0 ↔ 0 ≤ rAt rs k ∧ rAt rs k < code.length ∧ (0 < k → rAt rs (k - 1) < rAt rs k) ∧ 0 ≤ rSym rs k ∧ rSym rs k < ns ∧ isT (nth code (rAt rs k).toNat) = true ∧ tgV (nth code (rAt rs k).toNat) = 0 := by
  unfold relE
  constructor
  · intro h
    by_cases h1 : rAt rs k < 0 ∨ (code.length : Int) ≤ rAt rs k ∨ (0 < k ∧ rAt rs k ≤ rAt rs (k - 1)) ∨ rSym rs k < 0 ∨ (ns : Int) ≤ rSym rs k
    · rw [if_pos h1] at h; simp at h
    rw [if_neg h1] at h
    by_cases h2 : isT (nth code (rAt rs k).toNat) = false ∨ ¬ tgV (nth code (rAt rs k).toNat) = 0
    · rw [if_pos h2] at h; simp at h
    have h3 : isT (nth code (rAt rs k).toNat) = true := by
      cases e : isT (nth code (rAt rs k).toNat)
      · exact absurd (Or.inl e) h2
      · rfl
    have h4 : tgV (nth code (rAt rs k).toNat) = 0 := Classical.byContradiction fun e => h2 (Or.inr e)
    exact ⟨by omega, by omega, by omega, by omega, by omega, h3, h4⟩
  · rintro ⟨h1, h2, h3, h4, h5, h6, h7⟩
    rw [if_neg (by omega), if_neg (by rw [h6, h7]; simp)]
theorem cod_parts {code : List Int} {k : Nat} : codE code k = 0 ↔ (isT (nth code k) = true → tgV (nth code k) ≤ code.length) := by
  unfold codE
  constructor
  · intro h hT
    by_cases h1 : isT (nth code k) = true ∧ (code.length : Int) < tgV (nth code k)
    · rw [if_pos h1] at h; simp at h
    · have : ¬ (code.length : Int) < tgV (nth code k) := fun e => h1 ⟨hT, e⟩
      omega
  · intro h
    rw [if_neg]
    rintro ⟨h1, h2⟩
    have := h h1
    omega
/-- The relocations' places rise: each is found by its own. -/
theorem rel_rise {rs : List Rel} {code : List Int} {ns : Nat} (h : ∀ j, j < rs.length → relE rs code ns j = 0) : ∀ k i, i < k → k < rs.length → rAt rs i < rAt rs k := by
  intro k
  induction k with
  | zero => intro i hi; omega
  | succ k ih =>
    intro i hi hk
    have h1 := ((rel_parts.1 (h (k + 1) hk)).2.2.1) (by omega)
    rw [Nat.add_sub_cancel] at h1
    by_cases e : i = k
    · subst e; exact h1
    · have := ih i (by omega) (by omega); omega
theorem at_found {rs : List Rel} {k : Nat} {p : Int} (hk : k < rs.length) (e : rAt rs k = p) (h : ∀ i, i < k → ¬ rAt rs i = p) : atR rs p = k := by
  have step : ∀ j, j ≤ k → atFrom (rs.drop j) p j = k := by
    intro j hj
    induction hd : k - j generalizing j with
    | zero =>
      have : j = k := by omega
      subst this
      exact at_hit hk (by simpa using e)
    | succ d ih =>
      rw [at_miss (by omega) (by simpa using h j (by omega))]
      exact ih (j + 1) (by omega) (by omega)
  have := step 0 (by omega)
  simpa [atR] using this
theorem finds_at {rs : List Rel} {code : List Int} {ns : Nat} (h : ∀ j, j < rs.length → relE rs code ns j = 0) (k : Nat) (hk : k < rs.length) : atR rs (rAt rs k) = k :=
  at_found hk rfl fun i hi => by have := rel_rise h k i hi hk; omega
theorem nth_app {code : List Int} {x : Int} {i : Nat} (h : i < code.length) : nth (code ++ [x]) i = nth code i := by simp [nth, List.getD, h, List.getElem?_append_left h]
theorem nth_last {code : List Int} {x : Int} : nth (code ++ [x]) code.length = x := by simp [nth, List.getD]
theorem may_word {nm : ByteArray} {code : List Int} {dA : Int} {nd : Nat} {ss : List Sym} {rs : List Rel} (h : MayBe nm code dA nd ss rs) (hl : code.length < 16384) : MayBe nm (code ++ [1]) dA nd ss rs := by
  obtain ⟨⟨a1, a2, a3, a4, a5, a6, a7⟩, h2, h3, h4⟩ := h
  have hlen : (code ++ [1]).length = code.length + 1 := by simp
  refine ⟨⟨a1, by omega, a3, by omega, a5, a6, a7⟩, fun j hj => ?_, fun j hj => ?_, fun j hj => ?_⟩
  · obtain ⟨b1, b2, b3, b4, b5, b6, b7⟩ := sym_parts.1 (h2 j hj)
    exact sym_parts.2 ⟨b1, b2, b3, b4, b5, by rw [hlen]; omega, b7⟩
  · obtain ⟨b1, b2, b3, b4, b5, b6, b7⟩ := rel_parts.1 (h3 j hj)
    have e : nth (code ++ [1]) (rAt rs j).toNat = nth code (rAt rs j).toNat := nth_app (by omega)
    exact rel_parts.2 ⟨b1, by rw [hlen]; omega, b3, b4, b5, by rw [e]; exact b6, by rw [e]; exact b7⟩
  · by_cases e : j < code.length
    · have k := cod_parts.1 (h4 j e)
      refine cod_parts.2 fun hT => ?_
      rw [nth_app e] at hT ⊢
      have := k hT
      rw [hlen]; omega
    · have : j = code.length := by omega
      subst this
      refine cod_parts.2 fun hT => ?_
      rw [nth_last] at hT
      exact absurd hT (by decide +kernel)
theorem rAt_take {rs : List Rel} {n i : Nat} (h : i < n) : rAt (rs.take n) i = rAt rs i := by simp [rAt, List.getD, h]
theorem rSym_take {rs : List Rel} {n i : Nat} (h : i < n) : rSym (rs.take n) i = rSym rs i := by simp [rSym, List.getD, h]
theorem may_less {nm : ByteArray} {code : List Int} {dA : Int} {nd : Nat} {ss : List Sym} {rs : List Rel} (h : MayBe nm code dA nd ss rs) (n : Nat) (hn : n ≤ rs.length) : MayBe nm code dA nd ss (rs.take n) := by
  obtain ⟨⟨a1, a2, a3, a4, a5, a6, a7⟩, h2, h3, h4⟩ := h
  have hlen : (rs.take n).length = n := by rw [List.length_take, Nat.min_eq_left hn]
  refine ⟨⟨a1, a2, a3, by omega, a5, a6, a7⟩, h2, fun j hj => ?_, h4⟩
  rw [hlen] at hj
  obtain ⟨b1, b2, b3, b4, b5, b6, b7⟩ := rel_parts.1 (h3 j (by omega))
  rw [rel_parts, rAt_take hj, rSym_take hj, rAt_take (show j - 1 < n by omega)]
  exact ⟨b1, b2, b3, b4, b5, b6, b7⟩
theorem rels_take {w : World} {O : Option Addr} {rs : List Rel} (h : RelsAt w O rs) (n : Nat) (hn : n ≤ rs.length) : RelsAt w O (rs.take n) := fun i hi => by
  have hi' : i < n := by rw [List.length_take, Nat.min_eq_left hn] at hi; exact hi
  rw [rAt_take hi', rSym_take hi']
  exact h i (by omega)
theorem of_app (s : ByteArray) (t : List Sym) : ∀ (l : List Sym) (k : Nat), ¬ ofFrom l s k = -1 → ofFrom (l ++ t) s k = ofFrom l s k
  | [], k, h => absurd rfl h
  | x :: l, k, h => by
    rw [List.cons_append, ofFrom, ofFrom]
    rw [ofFrom] at h
    by_cases e : (x.1.toList == s.toList) = true
    · rw [if_pos e, if_pos e]
    · rw [if_neg e] at h
      rw [if_neg e, if_neg e]
      exact of_app s t l (k + 1) h
theorem s_app {ss : List Sym} {x : Sym} {i : Nat} (h : i < ss.length) : (ss ++ [x]).getD i symD = ss.getD i symD := by simp [List.getD, h, List.getElem?_append_left h]
theorem s_last {ss : List Sym} {x : Sym} : (ss ++ [x]).getD ss.length symD = x := by simp [List.getD]
theorem twice_check {nm : ByteArray} {code : List Int} {dA : Int} {nd : Nat} {ss : List Sym} {rs : List Rel} (h : MayBe nm code dA nd ss rs) (p : Nat) (hp : p < ss.length) (hl : ss.length < 256) : checkC nm code dA nd (ss ++ [ss.getD p symD]) rs = (26, (ss.length : Int)) := by
  obtain ⟨⟨a1, a2, a3, a4, a5, a6, a7⟩, h2, h3, h4⟩ := h
  have hlen : (ss ++ [ss.getD p symD]).length = ss.length + 1 := by simp
  have e1 : sizeC (nameOK nm) code.length (ss ++ [ss.getD p symD]).length rs.length nd dA = (0, 0) := size_ok ⟨a1, a2, by omega, a4, a5, a6, a7⟩
  have hof : ∀ j, j < ss.length → ofS (ss ++ [ss.getD p symD]) (sName ss j) = j := fun j hj => by
    obtain ⟨_, b2, _⟩ := sym_parts.1 (h2 j hj)
    have : ¬ ofFrom ss (sName ss j) 0 = -1 := by have e : ofFrom ss (sName ss j) 0 = j := b2; rw [e]; omega
    unfold ofS
    rw [of_app _ _ _ _ this]; exact b2
  have z : ∀ j, j < ss.length → symE (ss ++ [ss.getD p symD]) code.length j = 0 := fun j hj => by
    obtain ⟨b1, b2, b3, b4, b5, b6, b7⟩ := sym_parts.1 (h2 j hj)
    have g := s_app (x := ss.getD p symD) hj
    have g1 : sName (ss ++ [ss.getD p symD]) j = sName ss j := by unfold sName; rw [g]
    have g2 : sKind (ss ++ [ss.getD p symD]) j = sKind ss j := by unfold sKind; rw [g]
    have g3 : sAt (ss ++ [ss.getD p symD]) j = sAt ss j := by unfold sAt; rw [g]
    rw [sym_parts, g1, g2, g3]
    exact ⟨b1, hof j hj, b3, b4, b5, b6, b7⟩
  have y : symE (ss ++ [ss.getD p symD]) code.length ss.length = 26 := by
    have g1 : sName (ss ++ [ss.getD p symD]) ss.length = sName ss p := by unfold sName; rw [s_last]
    obtain ⟨b1, _⟩ := sym_parts.1 (h2 p hp)
    unfold symE
    rw [g1, if_neg (by rw [b1]; simp), if_pos (by rw [hof p hp]; omega)]
  have e2 : symC (ss ++ [ss.getD p symD]) code.length = (26, (ss.length : Int)) := by
    unfold symC
    rw [first_hit (k := ss.length) (by omega) z (by rw [y]; omega), y]
  unfold checkC
  rw [e1, e2]; simp
theorem may_names {nm : ByteArray} {code : List Int} {dA : Int} {nd : Nat} {ss : List Sym} {rs : List Rel} (h : MayBe nm code dA nd ss rs) (i : Nat) (hi : i < ss.length) : ofS ss (sName ss i) = i ∧ nameOK (sName ss i) = true := by
  obtain ⟨b1, b2, _⟩ := sym_parts.1 (h.2.1 i hi)
  exact ⟨b2, b1⟩
theorem may_at {nm : ByteArray} {code : List Int} {dA : Int} {nd : Nat} {ss : List Sym} {rs : List Rel} (h : MayBe nm code dA nd ss rs) (i : Nat) (hi : i < rs.length) : atR rs (rAt rs i) = i := finds_at h.2.2.1 i hi





end Go.Proofs.Ytiihfkjgdhfmiaa

namespace Go.Proofs.Ytiihfkjgdhfmiaa
open Go.RowKit

/-- A row's first symbol of a name and kind, the whole list's. -/
def rowW (nm : ByteArray) (kd : Int) (l : List Ob) (i : Nat) : Option (Nat × Int) := (rowF nm kd (ob l i).ss (ob l i).ss.length).map fun a => (i, a)
theorem fst_same {β : Type} {f g : Nat → Option β} : ∀ {n : Nat}, (∀ j, j < n → f j = g j) → fstN f n = fstN g n
  | 0, _ => rfl
  | n + 1, h => by
    rw [fstN, fstN, fst_same (fun j hj => h j (by omega)), h n (by omega)]
theorem first_whole (nm : ByteArray) (kd : Int) (l : List Ob) : firstF nm kd l l.length 0 = fstN (rowW nm kd l) l.length := by
  unfold firstF
  rw [show min l.length (l.length + 1) = l.length by omega]
  refine fst_same fun j hj => ?_
  unfold hitO rowW upTo
  rw [if_neg (by omega)]
theorem rowF_some {nm : ByteArray} {kd : Int} {ss : List Sym} {n : Nat} {a : Int} (h : rowF nm kd ss n = some a) : ∃ k, k < n ∧ (sName ss k).toList = nm.toList ∧ sKind ss k = kd ∧ a = sAt ss k := by
  obtain ⟨k, hk, e, _⟩ := fst_some h
  unfold hitS at e
  split at e
  · next hc =>
    cases e
    exact ⟨k, hk, by simpa using hc.1, by simpa using hc.2, rfl⟩
  · cases e
theorem rowW_some {nm : ByteArray} {kd : Int} {l : List Ob} {i : Nat} {x : Nat × Int} (h : rowW nm kd l i = some x) : x.1 = i ∧ ∃ k, k < (ob l i).ss.length ∧ (sName (ob l i).ss k).toList = nm.toList ∧ sKind (ob l i).ss k = kd ∧ x.2 = sAt (ob l i).ss k := by
  unfold rowW at h
  cases hr : rowF nm kd (ob l i).ss (ob l i).ss.length with
  | none => rw [hr] at h; cases h
  | some a =>
    rw [hr] at h
    cases h
    exact ⟨rfl, rowF_some hr⟩
theorem findF_some {nm : ByteArray} {l : List Ob} {x : Nat × Int} (h : findF nm l = some x) : x.1 < l.length ∧ ∃ k, k < (ob l x.1).ss.length ∧ x.2 = sAt (ob l x.1).ss k := by
  have main : ∀ kd, fstN (rowW nm kd l) l.length = some x → x.1 < l.length ∧ ∃ k, k < (ob l x.1).ss.length ∧ x.2 = sAt (ob l x.1).ss k := fun kd e => by
    obtain ⟨i, hi, hr, _⟩ := fst_some e
    obtain ⟨e1, k, hk, _, _, e2⟩ := rowW_some hr
    rw [e1]
    exact ⟨hi, k, hk, e2⟩
  unfold findF at h
  rw [first_whole, first_whole] at h
  split at h
  · next hf => cases h; exact main 1 hf
  · exact main 2 h
/-- Objects that resolve. -/
structure Res (l : List Ob) : Prop where
  few : l.length ≤ 32
  may : ∀ i, i < l.length → MayBe (ob l i).nm (ob l i).code (ob l i).dA (ob l i).data.length (ob l i).ss (ob l i).rs
  own : ∀ i, i < l.length → ∀ k, k < i → (ob l k).nm.toList ≠ (ob l i).nm.toList
  tw : ∀ i, i < l.length → ∀ k, k < (ob l i).ss.length → twS l i k = none
  un : ∀ i, i < l.length → ∀ k, k < (ob l i).ss.length → unS l i k = none
theorem res_ok {l : List Ob} (h : resE l = none) : Res l := by
  unfold resE at h
  cases hc : chkL l with
  | some x => rw [hc] at h; cases h
  | none =>
    rw [hc] at h
    unfold chkL at hc
    split at hc
    · cases hc
    · next hf =>
      have hb := fst_no hc
      unfold namL at h
      cases ht : fstN (twO l) l.length with
      | some x => rw [ht] at h; cases h
      | none =>
        rw [ht] at h
        have hE : ∀ i, i < l.length → (obC (ob l i)).1 = 0 ∧ fstN (sameN l i) i = none := fun i hi => by
          have := hb i hi
          unfold badO at this
          split at this
          · next e =>
            split at this
            · cases this
            · next e2 => exact ⟨e, e2⟩
          · cases this
        refine ⟨by omega, fun i hi => check_may (hE i hi).1, fun i hi k hk e => ?_, fun i hi k hk => fst_no (fst_no ht i hi) k hk, fun i hi k hk => fst_no (fst_no h i hi) k hk⟩
        have := fst_no (hE i hi).2 k hk
        unfold sameN at this
        rw [if_pos (by simpa using e)] at this
        cases this
theorem ok_res {l : List Ob} (h : Res l) : resE l = none := by
  have hb : ∀ i, i < l.length → badO l i = none := fun i hi => by
    unfold badO
    have e : obC (ob l i) = (0, 0) := may_check (h.may i hi)
    rw [e, if_pos rfl, fst_none (fun k hk => by
      unfold sameN
      rw [if_neg (by simpa using h.own i hi k hk)])]
  unfold resE chkL
  rw [if_neg (by have := h.few; omega), fst_none hb]
  show namL l = none
  unfold namL
  rw [fst_none (f := twO l) (fun i hi => fst_none (h.tw i hi)), fst_none (f := unO l) (fun i hi => fst_none (h.un i hi))]
theorem may_sym {nm : ByteArray} {code : List Int} {dA : Int} {nd : Nat} {ss : List Sym} {rs : List Rel} (h : MayBe nm code dA nd ss rs) (k : Nat) (hk : k < ss.length) : 0 ≤ sAt ss k ∧ sAt ss k ≤ code.length ∧ 0 ≤ sKind ss k ∧ sKind ss k ≤ 3 := by
  have := h.2.1 k hk
  unfold symE at this
  split at this
  · cases this
  · split at this
    · cases this
    · split at this
      · cases this
      · split at this
        · cases this
        · omega
theorem Res.find {l : List Ob} (h : Res l) {nm : ByteArray} {x : Nat × Int} (hf : findF nm l = some x) : x.1 < l.length ∧ 0 ≤ x.2 ∧ x.2 ≤ (ob l x.1).code.length := by
  obtain ⟨h1, k, hk, e⟩ := findF_some hf
  have := may_sym (h.may x.1 h1) k hk
  rw [e]
  exact ⟨h1, this.1, this.2.1⟩
/-- A symbol that is not Local stands for something. -/
theorem Res.has {l : List Ob} (h : Res l) {i k : Nat} (hi : i < l.length) (hk : k < (ob l i).ss.length) (h0 : sKind (ob l i).ss k ≠ 0) : (findF (sName (ob l i).ss k) l).isSome = true := by
  have hr := may_sym (h.may i hi) k hk
  by_cases h3 : sKind (ob l i).ss k = 3
  · have := h.un i hi k hk
    unfold unS at this
    cases hf : (findF (sName (ob l i).ss k) l).isSome with
    | true => rfl
    | false =>
      rw [hf, if_pos ⟨by simp [h3], rfl⟩] at this
      cases this
  · have hit : ∀ kd, sKind (ob l i).ss k = kd → (fstN (rowW (sName (ob l i).ss k) kd l) l.length).isSome = true := fun kd e => by
      cases hf : fstN (rowW (sName (ob l i).ss k) kd l) l.length with
      | some x => rfl
      | none =>
        have h1 := fst_no hf i hi
        unfold rowW at h1
        cases hr : rowF (sName (ob l i).ss k) kd (ob l i).ss (ob l i).ss.length with
        | some a => rw [hr] at h1; cases h1
        | none =>
          have h2 := fst_no hr k hk
          rw [hitS_yes (by simp) (by simp [e])] at h2
          cases h2
    unfold findF
    rw [first_whole, first_whole]
    have : sKind (ob l i).ss k = 1 ∨ sKind (ob l i).ss k = 2 := by omega
    rcases this with e | e
    · have := hit 1 e
      cases hf : fstN (rowW (sName (ob l i).ss k) 1 l) l.length with
      | some x => rfl
      | none => rw [hf] at this; cases this
    · have := hit 2 e
      cases hf : fstN (rowW (sName (ob l i).ss k) 1 l) l.length with
      | some x => rfl
      | none => exact this


end Go.Proofs.Ytiihfkjgdhfmiaa

namespace Go.Proofs.Ytiihfkjgdhfmiaa
open Go.RowKit

theorem Res.glob {l : List Ob} (h : Res l) {i k : Nat} (hi : i < l.length) (hk : k < (ob l i).ss.length) (h1 : sKind (ob l i).ss k = 1) : findF (sName (ob l i).ss k) l = some (i, sAt (ob l i).ss k) := by
  have ht := h.tw i hi k hk
  have hn : firstF (sName (ob l i).ss k) 1 l i k = none := by
    unfold twS at ht
    cases hf : firstF (sName (ob l i).ss k) 1 l i k with
    | none => rfl
    | some x =>
      rw [hf, if_pos ⟨by simp [h1], rfl⟩] at ht
      cases ht
  have ho := fst_no hn
  have hlow : ∀ j, j < i → rowW (sName (ob l i).ss k) 1 l j = none := fun j hj => by
    have := ho j (by omega)
    unfold hitO upTo at this
    rw [if_neg (by omega)] at this
    exact this
  have hrow : rowW (sName (ob l i).ss k) 1 l i = some (i, sAt (ob l i).ss k) := by
    have := ho i (by omega)
    unfold hitO upTo at this
    rw [if_pos rfl, show min k (ob l i).ss.length = k by omega] at this
    have hz : rowF (sName (ob l i).ss k) 1 (ob l i).ss k = none := by
      cases hr : rowF (sName (ob l i).ss k) 1 (ob l i).ss k with
      | none => rfl
      | some a => rw [hr] at this; cases this
    unfold rowW rowF
    rw [fst_hit (fst_no hz) (hitS_yes (by simp) (by simp [h1])) hk]
    rfl
  unfold findF
  rw [first_whole, fst_hit hlow hrow hi]
theorem Res.stand {l : List Ob} (h : Res l) {i k : Nat} (hi : i < l.length) (hk : k < (ob l i).ss.length) : ∃ (x : Nat) (y : Int), standS l i k = ((x : Int), y) ∧ x < l.length ∧ 0 ≤ y ∧ y ≤ (ob l x).code.length ∧ (sKind (ob l i).ss k = 0 ∨ sKind (ob l i).ss k = 1 → x = i ∧ y = sAt (ob l i).ss k) ∧ (sKind (ob l i).ss k ≠ 0 → findF (sName (ob l i).ss k) l = some (x, y)) := by
  have hm := may_sym (h.may i hi) k hk
  unfold standS
  by_cases h0 : sKind (ob l i).ss k = 0
  · rw [if_neg (by simp [h0])]
    exact ⟨i, _, rfl, hi, hm.1, hm.2.1, fun _ => ⟨rfl, rfl⟩, fun hn => absurd h0 hn⟩
  · rw [if_pos (by simpa using h0)]
    have hs := h.has hi hk h0
    cases hf : findF (sName (ob l i).ss k) l with
    | none => rw [hf] at hs; cases hs
    | some x =>
      obtain ⟨a, b, c⟩ := h.find hf
      refine ⟨x.1, x.2, rfl, a, b, c, fun ho => ?_, fun _ => rfl⟩
      have h1 : sKind (ob l i).ss k = 1 := by omega
      have := h.glob hi hk h1
      rw [hf] at this
      cases this
      exact ⟨rfl, rfl⟩
/-- One more object, with a Wanted symbol. -/
def moreN : ByteArray := ⟨#[111, 110, 101, 46, 109, 111, 114, 101, 46, 111, 98, 106, 101, 99, 116, 46, 104, 101, 114, 101, 95]⟩
def moreO (nm : ByteArray) : Ob := ⟨moreN, [], 0, [], [(nm, 3, 0)], []⟩
theorem ob_old {l : List Ob} {o : Ob} {i : Nat} (h : i < l.length) : ob (l ++ [o]) i = ob l i := by
  unfold ob
  rw [List.getD_eq_getElem?_getD, List.getD_eq_getElem?_getD, List.getElem?_append_left h]
theorem ob_new (l : List Ob) (o : Ob) : ob (l ++ [o]) l.length = o := by simp [ob]
theorem rowW_old {l : List Ob} {o : Ob} {i : Nat} (h : i < l.length) (nm : ByteArray) (kd : Int) : rowW nm kd (l ++ [o]) i = rowW nm kd l i := by unfold rowW; rw [ob_old h]
theorem rowW_new (l : List Ob) (nm n2 : ByteArray) (kd : Int) (h : kd ≠ 3) : rowW nm kd (l ++ [moreO n2]) l.length = none := by
  unfold rowW
  rw [ob_new]
  have : rowF nm kd (moreO n2).ss (moreO n2).ss.length = none := by
    refine fst_none fun j hj => ?_
    obtain rfl : j = 0 := by simp [moreO] at hj; omega
    refine hitS_no (Or.inr ?_)
    show ((3 : Int) == kd) = false
    simpa using fun e => h e.symm
  rw [this]
  rfl
theorem fstW (l : List Ob) (nm n2 : ByteArray) (kd : Int) (h : kd ≠ 3) : fstN (rowW nm kd (l ++ [moreO n2])) (l ++ [moreO n2]).length = fstN (rowW nm kd l) l.length := by
  rw [show (l ++ [moreO n2]).length = l.length + 1 by simp, fstN, rowW_new l nm n2 kd h, fst_same (fun j hj => rowW_old hj nm kd)]
  cases fstN (rowW nm kd l) l.length <;> rfl
theorem find_more (l : List Ob) (nm n2 : ByteArray) : findF nm (l ++ [moreO n2]) = findF nm l := by
  unfold findF
  rw [first_whole, first_whole, first_whole, first_whole, fstW l nm n2 1 (by decide), fstW l nm n2 2 (by decide)]
theorem first_more (l : List Ob) (nm n2 : ByteArray) {i : Nat} (k : Nat) (hi : i < l.length) : firstF nm 1 (l ++ [moreO n2]) i k = firstF nm 1 l i k := by
  unfold firstF
  rw [show (l ++ [moreO n2]).length = l.length + 1 by simp, show min (l.length + 1) (i + 1) = i + 1 by omega, show min l.length (i + 1) = i + 1 by omega]
  refine fst_same fun j hj => ?_
  unfold hitO upTo
  rw [ob_old (by omega)]
theorem may_more {nm : ByteArray} (h : nameOK nm = true) : MayBe (moreO nm).nm (moreO nm).code (moreO nm).dA (moreO nm).data.length (moreO nm).ss (moreO nm).rs := by
  refine ⟨?_, fun j hj => ?_, fun j hj => absurd hj (Nat.not_lt_zero _), fun j hj => absurd hj (Nat.not_lt_zero _)⟩
  · exact ⟨show nameOK moreN = true by decide +kernel, Nat.zero_le _, by simp [moreO], Nat.le_refl _, Int.le_refl _, show (0 : Int) ≤ 4096 by decide, show ((0 : Nat) : Int) ≤ 4096 - 0 by decide⟩
  · obtain rfl : j = 0 := by simp [moreO] at hj; omega
    unfold symE
    have e : sName (moreO nm).ss 0 = nm := rfl
    have e2 : ofS (moreO nm).ss nm = 0 := by simp [ofS, ofFrom, moreO]
    rw [e, h, e2]
    rfl
theorem Res.more {l : List Ob} (h : Res l) (hl : l.length < 32) {i k : Nat} (hi : i < l.length) (hk : k < (ob l i).ss.length) (h1 : sKind (ob l i).ss k = 1) (hn : ∀ j, j < l.length → (ob l j).nm.toList ≠ moreN.toList) : Res (l ++ [moreO (sName (ob l i).ss k)]) := by
  have hlen : (l ++ [moreO (sName (ob l i).ss k)]).length = l.length + 1 := by simp
  refine ⟨by omega, fun j hj => ?_, fun j hj m hm => ?_, fun j hj m hm => ?_, fun j hj m hm => ?_⟩
  · by_cases he : j < l.length
    · rw [ob_old he]; exact h.may j he
    · obtain rfl : j = l.length := by omega
      rw [ob_new]
      exact may_more (may_names (h.may i hi) k hk).2
  · by_cases he : j < l.length
    · rw [ob_old he, ob_old (by omega)]; exact h.own j he m hm
    · obtain rfl : j = l.length := by omega
      rw [ob_new, ob_old hm]
      exact hn m hm
  · by_cases he : j < l.length
    · rw [ob_old he] at hm
      have := h.tw j he m hm
      unfold twS at this ⊢
      rw [ob_old he, first_more l _ _ m he]
      exact this
    · obtain rfl : j = l.length := by omega
      rw [ob_new] at hm
      obtain rfl : m = 0 := by simp [moreO] at hm; omega
      unfold twS
      rw [ob_new, if_neg]
      rintro ⟨hc, _⟩
      exact absurd hc (by simp [moreO, sKind])
  · by_cases he : j < l.length
    · rw [ob_old he] at hm
      have := h.un j he m hm
      unfold unS at this ⊢
      rw [ob_old he, find_more]
      exact this
    · obtain rfl : j = l.length := by omega
      rw [ob_new] at hm
      obtain rfl : m = 0 := by simp [moreO] at hm; omega
      unfold unS
      rw [ob_new, find_more]
      have e : sName (moreO (sName (ob l i).ss k)).ss 0 = sName (ob l i).ss k := rfl
      rw [e, h.glob hi hk h1, if_neg]
      rintro ⟨_, hc⟩
      cases hc
theorem stand_old {l : List Ob} {n2 : ByteArray} {j m : Nat} (hj : j < l.length) : standS (l ++ [moreO n2]) j m = standS l j m := by
  unfold standS
  rw [ob_old hj, find_more]
theorem rowT_old {l : List Ob} {n2 : ByteArray} {j : Nat} (hj : j < l.length) (m : Nat) : rowT (l ++ [moreO n2]) j m = rowT l j m := by
  unfold rowT
  exact List.map_congr_left fun x _ => stand_old hj
theorem rowT_new {l : List Ob} (_h : Res l) {i k : Nat} (_hi : i < l.length) (_hk : k < (ob l i).ss.length) (h1 : sKind (ob l i).ss k = 1) : rowT (l ++ [moreO (sName (ob l i).ss k)]) l.length 1 = [standS l i k] := by
  show [standS (l ++ [moreO (sName (ob l i).ss k)]) l.length 0] = _
  unfold standS
  rw [ob_new, find_more]
  have e : sName (moreO (sName (ob l i).ss k)).ss 0 = sName (ob l i).ss k := rfl
  have e2 : sKind (moreO (sName (ob l i).ss k)).ss 0 = 3 := rfl
  rw [e, e2, if_pos (by decide), if_pos (by simp [h1])]
theorem resL_ok {l : List Ob} (h : Res l) : resL l = rowsT l l.length := by unfold resL; rw [ok_res h]


end Go.Proofs.Ytiihfkjgdhfmiaa
