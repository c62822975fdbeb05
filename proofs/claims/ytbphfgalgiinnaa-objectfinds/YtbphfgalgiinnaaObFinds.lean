/-
  What an object that may be is, as plain mathematics: its parts, and that each relocation is found; no Go in sight. An object that may be, with one word more, one relocation less, one symbol twice, as plain mathematics; no Go in sight.
-/
import Derived.Test.YtbphfgalgiinnaaObCheck
namespace Go.Proofs.Ytbphfgalgiinnaa
open Go.RowKit

theorem first_zero {n : Nat} {f : Nat → Int} (h : (firstOf n f).1 = 0) : ∀ j, j < n → f j = 0 := by
  intro j hj
  unfold firstOf at h
  cases hf : (List.range n).find? (fun k => f k != 0) with
  | none =>
    rw [List.find?_eq_none] at hf
    simpa using hf j (by simpa using hj)
  | some k =>
    rw [hf] at h
    have := List.find?_some hf
    simp at this
    exact absurd h this
/-- An object's sizes may be. -/
def SizeOK (nm : ByteArray) (nc ns nr nd : Nat) (dA : Int) : Prop := nameOK nm = true ∧ nc ≤ 16384 ∧ ns ≤ 256 ∧ nr ≤ nc ∧ 0 ≤ dA ∧ dA ≤ 4096 ∧ (nd : Int) ≤ 4096 - dA
theorem size_ok {nm : ByteArray} {nc ns nr nd : Nat} {dA : Int} (h : SizeOK nm nc ns nr nd dA) : sizeC (nameOK nm) nc ns nr nd dA = (0, 0) := by
  obtain ⟨h1, h2, h3, h4, h5, h6, h7⟩ := h
  unfold sizeC
  rw [if_neg (by rw [h1]; simp), if_neg (by omega), if_neg (by omega), if_neg (by omega), if_neg (by omega)]
theorem ok_size {nm : ByteArray} {nc ns nr nd : Nat} {dA : Int} (h : (sizeC (nameOK nm) nc ns nr nd dA).1 = 0) : SizeOK nm nc ns nr nd dA := by
  unfold sizeC at h
  by_cases h1 : nameOK nm = false
  · rw [if_pos h1] at h; simp at h
  rw [if_neg h1] at h
  by_cases h2 : 16384 < nc
  · rw [if_pos h2] at h; simp at h
  rw [if_neg h2] at h
  by_cases h3 : 256 < ns
  · rw [if_pos h3] at h; simp at h
  rw [if_neg h3] at h
  by_cases h4 : nc < nr
  · rw [if_pos h4] at h; simp at h
  rw [if_neg h4] at h
  by_cases h5 : dA < 0 ∨ 4096 < dA ∨ 4096 - dA < (nd : Int)
  · rw [if_pos h5] at h; simp at h
  exact ⟨by simpa using h1, by omega, by omega, by omega, by omega, by omega, by omega⟩
/-- An object may be. -/
def MayBe (nm : ByteArray) (code : List Int) (dA : Int) (nd : Nat) (ss : List Sym) (rs : List Rel) : Prop :=
  SizeOK nm code.length ss.length rs.length nd dA ∧ (∀ j, j < ss.length → symE ss code.length j = 0) ∧ (∀ j, j < rs.length → relE rs code ss.length j = 0) ∧ ∀ j, j < code.length → codE code j = 0
theorem may_check {nm : ByteArray} {code : List Int} {dA : Int} {nd : Nat} {ss : List Sym} {rs : List Rel} (h : MayBe nm code dA nd ss rs) : checkC nm code dA nd ss rs = (0, 0) := by
  obtain ⟨h1, h2, h3, h4⟩ := h
  have e1 := size_ok h1
  have e2 : symC ss code.length = (0, 0) := first_none h2
  have e3 : relC rs code ss.length = (0, 0) := first_none h3
  have e4 : codC code = (0, 0) := by unfold codC; rw [first_none h4]; rfl
  unfold checkC
  rw [e1, e2, e3, e4]; simp
theorem check_may {nm : ByteArray} {code : List Int} {dA : Int} {nd : Nat} {ss : List Sym} {rs : List Rel} (h : (checkC nm code dA nd ss rs).1 = 0) : MayBe nm code dA nd ss rs := by
  unfold checkC at h
  by_cases h1 : (sizeC (nameOK nm) code.length ss.length rs.length nd dA).1 = 0
  · rw [if_neg (by simpa using h1)] at h
    by_cases h2 : (symC ss code.length).1 = 0
    · rw [if_neg (by simpa using h2)] at h
      by_cases h3 : (relC rs code ss.length).1 = 0
      · rw [if_neg (by simpa using h3)] at h
        refine ⟨ok_size h1, first_zero h2, first_zero h3, ?_⟩
        unfold codC at h
        by_cases h4 : (firstOf code.length (codE code)).1 = 0
        · exact first_zero h4
        · rw [if_neg h4] at h; simp at h
      · rw [if_pos h3] at h; exact absurd h h3
    · rw [if_pos h2] at h; exact absurd h h2
  · rw [if_pos h1] at h; exact absurd h h1
theorem sym_parts {ss : List Sym} {nc k : Nat} : symE ss nc k = 0 ↔ nameOK (sName ss k) = true ∧ ofS ss (sName ss k) = k ∧ 0 ≤ sKind ss k ∧ sKind ss k ≤ 3 ∧ 0 ≤ sAt ss k ∧ sAt ss k ≤ nc ∧ (sKind ss k = 3 → sAt ss k = 0) := by
  unfold symE
  constructor
  · intro h
    by_cases h1 : nameOK (sName ss k) = false
    · rw [if_pos h1] at h; simp at h
    rw [if_neg h1] at h
    by_cases h2 : ¬ ofS ss (sName ss k) = k
    · rw [if_pos h2] at h; simp at h
    rw [if_neg h2] at h
    by_cases h3 : sKind ss k < 0 ∨ 3 < sKind ss k
    · rw [if_pos h3] at h; simp at h
    rw [if_neg h3] at h
    by_cases h4 : sAt ss k < 0 ∨ (nc : Int) < sAt ss k ∨ (sKind ss k = 3 ∧ ¬ sAt ss k = 0)
    · rw [if_pos h4] at h; simp at h
    exact ⟨by simpa using h1, by simpa using h2, by omega, by omega, by omega, by omega, by omega⟩
  · rintro ⟨h1, h2, h3, h4, h5, h6, h7⟩
    rw [if_neg (by rw [h1]; simp), if_neg (by simpa using h2), if_neg (by omega), if_neg (by omega)]
theorem rel_parts {rs : List Rel} {code : List Int} {ns k : Nat} : relE rs code ns k = 0 ↔ 0 ≤ rAt rs k ∧ rAt rs k < code.length ∧ (0 < k → rAt rs (k - 1) < rAt rs k) ∧ 0 ≤ rSym rs k ∧ rSym rs k < ns ∧ isT (nth code (rAt rs k).toNat) = true ∧ tgV (nth code (rAt rs k).toNat) = 0 := by
  unfold relE
  constructor
  · intro h
    by_cases h1 : rAt rs k < 0 ∨ (code.length : Int) ≤ rAt rs k ∨ (0 < k ∧ rAt rs k ≤ rAt rs (k - 1)) ∨ rSym rs k < 0 ∨ (ns : Int) ≤ rSym rs k
    · rw [if_pos h1] at h; simp at h
    rw [if_neg h1] at h
    by_cases h2 : isT (nth code (rAt rs k).toNat) = false ∨ ¬ tgV (nth code (rAt rs k).toNat) = 0
    · rw [if_pos h2] at h; simp at h
    have h3 : isT (nth code (rAt rs k).toNat) = true := by
      cases e : isT (nth code (rAt rs k).toNat)
      · exact absurd (Or.inl e) h2
      · rfl
    have h4 : tgV (nth code (rAt rs k).toNat) = 0 := Classical.byContradiction fun e => h2 (Or.inr e)
    exact ⟨by omega, by omega, by omega, by omega, by omega, h3, h4⟩
  · rintro ⟨h1, h2, h3, h4, h5, h6, h7⟩
    rw [if_neg (by omega), if_neg (by rw [h6, h7]; simp)]
theorem cod_parts {code : List Int} {k : Nat} : codE code k = 0 ↔ (isT (nth code k) = true → tgV (nth code k) ≤ code.length) := by
  unfold codE
  constructor
  · intro h hT
    by_cases h1 : isT (nth code k) = true ∧ (code.length : Int) < tgV (nth code k)
    · rw [if_pos h1] at h; simp at h
    · have : ¬ (code.length : Int) < tgV (nth code k) := fun e => h1 ⟨hT, e⟩
      omega
  · intro h
    rw [if_neg]
    rintro ⟨h1, h2⟩
    have := h h1
    omega
/-- The relocations' places rise: each is found by its own. -/
theorem rel_rise {rs : List Rel} {code : List Int} {ns : Nat} (h : ∀ j, j < rs.length → relE rs code ns j = 0) : ∀ k i, i < k → k < rs.length → rAt rs i < rAt rs k := by
  intro k
  induction k with
  | zero => intro i hi; omega
  | succ k ih =>
    intro i hi hk
    have h1 := ((rel_parts.1 (h (k + 1) hk)).2.2.1) (by omega)
    rw [Nat.add_sub_cancel] at h1
    by_cases e : i = k
    · subst e; exact h1
    · have := ih i (by omega) (by omega); omega
theorem at_found {rs : List Rel} {k : Nat} {p : Int} (hk : k < rs.length) (e : rAt rs k = p) (h : ∀ i, i < k → ¬ rAt rs i = p) : atR rs p = k := by
  have step : ∀ j, j ≤ k → atFrom (rs.drop j) p j = k := by
    intro j hj
    induction hd : k - j generalizing j with
    | zero =>
      have : j = k := by omega
      subst this
      exact at_hit hk (by simpa using e)
    | succ d ih =>
      rw [at_miss (by omega) (by simpa using h j (by omega))]
      exact ih (j + 1) (by omega) (by omega)
  have := step 0 (by omega)
  simpa [atR] using this
theorem finds_at {rs : List Rel} {code : List Int} {ns : Nat} (h : ∀ j, j < rs.length → relE rs code ns j = 0) (k : Nat) (hk : k < rs.length) : atR rs (rAt rs k) = k :=
  at_found hk rfl fun i hi => by have := rel_rise h k i hi hk; omega
theorem nth_app {code : List Int} {x : Int} {i : Nat} (h : i < code.length) : nth (code ++ [x]) i = nth code i := by simp [nth, List.getD, h, List.getElem?_append_left h]
theorem nth_last {code : List Int} {x : Int} : nth (code ++ [x]) code.length = x := by simp [nth, List.getD]
theorem may_word {nm : ByteArray} {code : List Int} {dA : Int} {nd : Nat} {ss : List Sym} {rs : List Rel} (h : MayBe nm code dA nd ss rs) (hl : code.length < 16384) : MayBe nm (code ++ [1]) dA nd ss rs := by
  obtain ⟨⟨a1, a2, a3, a4, a5, a6, a7⟩, h2, h3, h4⟩ := h
  have hlen : (code ++ [1]).length = code.length + 1 := by simp
  refine ⟨⟨a1, by omega, a3, by omega, a5, a6, a7⟩, fun j hj => ?_, fun j hj => ?_, fun j hj => ?_⟩
  · obtain ⟨b1, b2, b3, b4, b5, b6, b7⟩ := sym_parts.1 (h2 j hj)
    exact sym_parts.2 ⟨b1, b2, b3, b4, b5, by rw [hlen]; omega, b7⟩
  · obtain ⟨b1, b2, b3, b4, b5, b6, b7⟩ := rel_parts.1 (h3 j hj)
    have e : nth (code ++ [1]) (rAt rs j).toNat = nth code (rAt rs j).toNat := nth_app (by omega)
    exact rel_parts.2 ⟨b1, by rw [hlen]; omega, b3, b4, b5, by rw [e]; exact b6, by rw [e]; exact b7⟩
  · by_cases e : j < code.length
    · have k := cod_parts.1 (h4 j e)
      refine cod_parts.2 fun hT => ?_
      rw [nth_app e] at hT ⊢
      have := k hT
      rw [hlen]; omega
    · have : j = code.length := by omega
      subst this
      refine cod_parts.2 fun hT => ?_
      rw [nth_last] at hT
      exact absurd hT (by decide +kernel)
theorem rAt_take {rs : List Rel} {n i : Nat} (h : i < n) : rAt (rs.take n) i = rAt rs i := by simp [rAt, List.getD, h]
theorem rSym_take {rs : List Rel} {n i : Nat} (h : i < n) : rSym (rs.take n) i = rSym rs i := by simp [rSym, List.getD, h]
theorem may_less {nm : ByteArray} {code : List Int} {dA : Int} {nd : Nat} {ss : List Sym} {rs : List Rel} (h : MayBe nm code dA nd ss rs) (n : Nat) (hn : n ≤ rs.length) : MayBe nm code dA nd ss (rs.take n) := by
  obtain ⟨⟨a1, a2, a3, a4, a5, a6, a7⟩, h2, h3, h4⟩ := h
  have hlen : (rs.take n).length = n := by rw [List.length_take, Nat.min_eq_left hn]
  refine ⟨⟨a1, a2, a3, by omega, a5, a6, a7⟩, h2, fun j hj => ?_, h4⟩
  rw [hlen] at hj
  obtain ⟨b1, b2, b3, b4, b5, b6, b7⟩ := rel_parts.1 (h3 j (by omega))
  rw [rel_parts, rAt_take hj, rSym_take hj, rAt_take (show j - 1 < n by omega)]
  exact ⟨b1, b2, b3, b4, b5, b6, b7⟩
theorem rels_take {w : World} {O : Option Addr} {rs : List Rel} (h : RelsAt w O rs) (n : Nat) (hn : n ≤ rs.length) : RelsAt w O (rs.take n) := fun i hi => by
  have hi' : i < n := by rw [List.length_take, Nat.min_eq_left hn] at hi; exact hi
  rw [rAt_take hi', rSym_take hi']
  exact h i (by omega)
theorem of_app (s : ByteArray) (t : List Sym) : ∀ (l : List Sym) (k : Nat), ¬ ofFrom l s k = -1 → ofFrom (l ++ t) s k = ofFrom l s k
  | [], k, h => absurd rfl h
  | x :: l, k, h => by
    rw [List.cons_append, ofFrom, ofFrom]
    rw [ofFrom] at h
    by_cases e : (x.1.toList == s.toList) = true
    · rw [if_pos e, if_pos e]
    · rw [if_neg e] at h
      rw [if_neg e, if_neg e]
      exact of_app s t l (k + 1) h
theorem s_app {ss : List Sym} {x : Sym} {i : Nat} (h : i < ss.length) : (ss ++ [x]).getD i symD = ss.getD i symD := by simp [List.getD, h, List.getElem?_append_left h]
theorem s_last {ss : List Sym} {x : Sym} : (ss ++ [x]).getD ss.length symD = x := by simp [List.getD]
theorem twice_check {nm : ByteArray} {code : List Int} {dA : Int} {nd : Nat} {ss : List Sym} {rs : List Rel} (h : MayBe nm code dA nd ss rs) (p : Nat) (hp : p < ss.length) (hl : ss.length < 256) : checkC nm code dA nd (ss ++ [ss.getD p symD]) rs = (26, (ss.length : Int)) := by
  obtain ⟨⟨a1, a2, a3, a4, a5, a6, a7⟩, h2, h3, h4⟩ := h
  have hlen : (ss ++ [ss.getD p symD]).length = ss.length + 1 := by simp
  have e1 : sizeC (nameOK nm) code.length (ss ++ [ss.getD p symD]).length rs.length nd dA = (0, 0) := size_ok ⟨a1, a2, by omega, a4, a5, a6, a7⟩
  have hof : ∀ j, j < ss.length → ofS (ss ++ [ss.getD p symD]) (sName ss j) = j := fun j hj => by
    obtain ⟨_, b2, _⟩ := sym_parts.1 (h2 j hj)
    have : ¬ ofFrom ss (sName ss j) 0 = -1 := by have e : ofFrom ss (sName ss j) 0 = j := b2; rw [e]; omega
    unfold ofS
    rw [of_app _ _ _ _ this]; exact b2
  have z : ∀ j, j < ss.length → symE (ss ++ [ss.getD p symD]) code.length j = 0 := fun j hj => by
    obtain ⟨b1, b2, b3, b4, b5, b6, b7⟩ := sym_parts.1 (h2 j hj)
    have g := s_app (x := ss.getD p symD) hj
    have g1 : sName (ss ++ [ss.getD p symD]) j = sName ss j := by unfold sName; rw [g]
    have g2 : sKind (ss ++ [ss.getD p symD]) j = sKind ss j := by unfold sKind; rw [g]
    have g3 : sAt (ss ++ [ss.getD p symD]) j = sAt ss j := by unfold sAt; rw [g]
    rw [sym_parts, g1, g2, g3]
    exact ⟨b1, hof j hj, b3, b4, b5, b6, b7⟩
  have y : symE (ss ++ [ss.getD p symD]) code.length ss.length = 26 := by
    have g1 : sName (ss ++ [ss.getD p symD]) ss.length = sName ss p := by unfold sName; rw [s_last]
    obtain ⟨b1, _⟩ := sym_parts.1 (h2 p hp)
    unfold symE
    rw [g1, if_neg (by rw [b1]; simp), if_pos (by rw [hof p hp]; omega)]
  have e2 : symC (ss ++ [ss.getD p symD]) code.length = (26, (ss.length : Int)) := by
    unfold symC
    rw [first_hit (k := ss.length) (by omega) z (by rw [y]; omega), y]
  unfold checkC
  rw [e1, e2]; simp
theorem may_names {nm : ByteArray} {code : List Int} {dA : Int} {nd : Nat} {ss : List Sym} {rs : List Rel} (h : MayBe nm code dA nd ss rs) (i : Nat) (hi : i < ss.length) : ofS ss (sName ss i) = i ∧ nameOK (sName ss i) = true := by
  obtain ⟨b1, b2, _⟩ := sym_parts.1 (h.2.1 i hi)
  exact ⟨b2, b1⟩
theorem may_at {nm : ByteArray} {code : List Int} {dA : Int} {nd : Nat} {ss : List Sym} {rs : List Rel} (h : MayBe nm code dA nd ss rs) (i : Nat) (hi : i < rs.length) : atR rs (rAt rs i) = i := finds_at h.2.2.1 i hi

end Go.Proofs.Ytbphfgalgiinnaa
