/-
  What an object that may be is, as plain mathematics: its parts, and that each relocation is found; no Go in sight. An object that may be, with one word more, one relocation less, one symbol twice, as plain mathematics; no Go in sight. An object that may be is of few bytes; no Go in sight. Write of package wire: what it answers; the lists are at most 2^20 long, words of 32 bits. The program takes the beginning and the end of an input.
-/
import Derived.Test.YthfcimmfkibmjaaGreatDoorP02
import Derived.Test.YthfcimmfkibmjaaGreatDoorProg
import Derived.WalkKit
import Derived.WalkSpells
import Derived.WalkLawsBesides
import Derived.RowKit3
import Derived.Below
import Derived.Deep.QuietTactic
import Derived.BigQuiet
import Derived.WalkSmall
import Derived.Laws.Rows
import Derived.Test.YthfcimmfkibmjaaGreatDoorP01
import Derived.Test.YthfcimmfkibmjaaGreatDoorP09
import Derived.Test.YthfcimmfkibmjaaGreatDoorP19
import Derived.Test.YthfcimmfkibmjaaGreatDoorP03
import Derived.Test.YthfcimmfkibmjaaGreatDoorP06
namespace Go.Proofs.YthfcimmfkibmjaaGreatDoor
open Go.RowKit

theorem first_zero {n : Nat} {f : Nat → Int} (h : (firstOf n f).1 = 0) : ∀ j, j < n → f j = 0 := by
  intro j hj
  unfold firstOf at h
  cases hf : (List.range n).find? (fun k => f k != 0) with
  | none =>
    rw [List.find?_eq_none] at hf
    simpa using hf j (by simpa using hj)
  | some k =>
    rw [hf] at h
    have := List.find?_some hf
    simp at this
    exact absurd h this
/-- An object's sizes may be. -/
def SizeOK (nm : ByteArray) (nc ns nr nd : Nat) (dA : Int) : Prop := nameOK nm = true ∧ nc ≤ 16384 ∧ ns ≤ 256 ∧ nr ≤ nc ∧ 0 ≤ dA ∧ dA ≤ 4096 ∧ (nd : Int) ≤ 4096 - dA
theorem size_ok {nm : ByteArray} {nc ns nr nd : Nat} {dA : Int} (h : SizeOK nm nc ns nr nd dA) : sizeC (nameOK nm) nc ns nr nd dA = (0, 0) := by
  obtain ⟨h1, h2, h3, h4, h5, h6, h7⟩ := h
  unfold sizeC
  rw [if_neg (by rw [h1]; simp), if_neg (by omega), if_neg (by omega), if_neg (by omega), if_neg (by omega)]
theorem ok_size {nm : ByteArray} {nc ns nr nd : Nat} {dA : Int} (h : (sizeC (nameOK nm) nc ns nr nd dA).1 = 0) : SizeOK nm nc ns nr nd dA := by
  unfold sizeC at h
  by_cases h1 : nameOK nm = false
  · rw [if_pos h1] at h; simp at h
  rw [if_neg h1] at h
  by_cases h2 : 16384 < nc
  · rw [if_pos h2] at h; simp at h
  rw [if_neg h2] at h
  by_cases h3 : 256 < ns
  · rw [if_pos h3] at h; simp at h
  rw [if_neg h3] at h
  by_cases h4 : nc < nr
  · rw [if_pos h4] at h; simp at h
  rw [if_neg h4] at h
  by_cases h5 : dA < 0 ∨ 4096 < dA ∨ 4096 - dA < (nd : Int)
  · rw [if_pos h5] at h; simp at h
  exact ⟨by simpa using h1, by omega, by omega, by omega, by omega, by omega, by omega⟩
/-- An object may be. -/
def MayBe (nm : ByteArray) (code : List Int) (dA : Int) (nd : Nat) (ss : List Sym) (rs : List Rel) : Prop :=
  SizeOK nm code.length ss.length rs.length nd dA ∧ (∀ j, j < ss.length → symE ss code.length j = 0) ∧ (∀ j, j < rs.length → relE rs code ss.length j = 0) ∧ ∀ j, j < code.length → codE code j = 0
theorem may_check {nm : ByteArray} {code : List Int} {dA : Int} {nd : Nat} {ss : List Sym} {rs : List Rel} (h : MayBe nm code dA nd ss rs) : checkC nm code dA nd ss rs = (0, 0) := by
  obtain ⟨h1, h2, h3, h4⟩ := h
  have e1 := size_ok h1
  have e2 : symC ss code.length = (0, 0) := first_none h2
  have e3 : relC rs code ss.length = (0, 0) := first_none h3
  have e4 : codC code = (0, 0) := by unfold codC; rw [first_none h4]; rfl
  unfold checkC
  rw [e1, e2, e3, e4]; simp
theorem check_may {nm : ByteArray} {code : List Int} {dA : Int} {nd : Nat} {ss : List Sym} {rs : List Rel} (h : (checkC nm code dA nd ss rs).1 = 0) : MayBe nm code dA nd ss rs := by
  unfold checkC at h
  by_cases h1 : (sizeC (nameOK nm) code.length ss.length rs.length nd dA).1 = 0
  · rw [if_neg (by simpa using h1)] at h
    by_cases h2 : (symC ss code.length).1 = 0
    · rw [if_neg (by simpa using h2)] at h
      by_cases h3 : (relC rs code ss.length).1 = 0
      · rw [if_neg (by simpa using h3)] at h
        refine ⟨ok_size h1, first_zero h2, first_zero h3, ?_⟩
        unfold codC at h
        by_cases h4 : (firstOf code.length (codE code)).1 = 0
        · exact first_zero h4
        · rw [if_neg h4] at h; simp at h
      · rw [if_pos h3] at h; exact absurd h h3
    · rw [if_pos h2] at h; exact absurd h h2
  · rw [if_pos h1] at h; exact absurd h h1
theorem sym_parts {ss : List Sym} {nc k : Nat} : symE ss nc k = 0 ↔ nameOK (sName ss k) = true ∧ ofS ss (sName ss k) = k ∧ 0 ≤ sKind ss k ∧ sKind ss k ≤ 3 ∧ 0 ≤ sAt ss k ∧ sAt ss k ≤ nc ∧ (sKind ss k = 3 → sAt ss k = 0) := by
  unfold symE
  constructor
  · intro h
    by_cases h1 : nameOK (sName ss k) = false
    · rw [if_pos h1] at h; simp at h
    rw [if_neg h1] at h
    by_cases h2 : ¬ ofS ss (sName ss k) = k
    · rw [if_pos h2] at h; simp at h
    rw [if_neg h2] at h
    by_cases h3 : sKind ss k < 0 ∨ 3 < sKind ss k
    · rw [if_pos h3] at h; simp at h
    rw [if_neg h3] at h
    by_cases h4 : sAt ss k < 0 ∨ (nc : Int) < sAt ss k ∨ (sKind ss k = 3 ∧ ¬ sAt ss k = 0)
    · rw [if_pos h4] at h; simp at h
    exact ⟨by simpa using h1, by simpa using h2, by omega, by omega, by omega, by omega, by omega⟩
  · rintro ⟨h1, h2, h3, h4, h5, h6, h7⟩
    rw [if_neg (by rw [h1]; simp), if_neg (by simpa using h2), if_neg (by omega), if_neg (by omega)]
theorem rel_parts {rs : List Rel} {code : List Int} {ns k : Nat} : relE rs code ns k = 0 ↔ 0 ≤ rAt rs k ∧ rAt rs k < code.length ∧ (0 < k → rAt rs (k - 1) < rAt rs k) ∧ 0 ≤ rSym rs k ∧ rSym rs k < ns ∧ isT (nth code (rAt rs k).toNat) = true ∧ tgV (nth code (rAt rs k).toNat) = 0 := by
  unfold relE
  constructor
  · intro h
    by_cases h1 : rAt rs k < 0 ∨ (code.length : Int) ≤ rAt rs k ∨ (0 < k ∧ rAt rs k ≤ rAt rs (k - 1)) ∨ rSym rs k < 0 ∨ (ns : Int) ≤ rSym rs k
    · rw [if_pos h1] at h; simp at h
    rw [if_neg h1] at h
    by_cases h2 : isT (nth code (rAt rs k).toNat) = false ∨ ¬ tgV (nth code (rAt rs k).toNat) = 0
    · rw [if_pos h2] at h; simp at h
    have h3 : isT (nth code (rAt rs k).toNat) = true := by
      cases e : isT (nth code (rAt rs k).toNat)
      · exact absurd (Or.inl e) h2
      · rfl
    have h4 : tgV (nth code (rAt rs k).toNat) = 0 := Classical.byContradiction fun e => h2 (Or.inr e)
    exact ⟨by omega, by omega, by omega, by omega, by omega, h3, h4⟩
  · rintro ⟨h1, h2, h3, h4, h5, h6, h7⟩
    rw [if_neg (by omega), if_neg (by rw [h6, h7]; simp)]
theorem cod_parts {code : List Int} {k : Nat} : codE code k = 0 ↔ (isT (nth code k) = true → tgV (nth code k) ≤ code.length) := by
  unfold codE
  constructor
  · intro h hT
    by_cases h1 : isT (nth code k) = true ∧ (code.length : Int) < tgV (nth code k)
    · rw [if_pos h1] at h; simp at h
    · have : ¬ (code.length : Int) < tgV (nth code k) := fun e => h1 ⟨hT, e⟩
      omega
  · intro h
    rw [if_neg]
    rintro ⟨h1, h2⟩
    have := h h1
    omega
/-- The relocations' places rise: each is found by its own. -/
theorem rel_rise {rs : List Rel} {code : List Int} {ns : Nat} (h : ∀ j, j < rs.length → relE rs code ns j = 0) : ∀ k i, i < k → k < rs.length → rAt rs i < rAt rs k := by
  intro k
  induction k with
  | zero => intro i hi; omega
  | succ k ih =>
    intro i hi hk
    have h1 := ((rel_parts.1 (h (k + 1) hk)).2.2.1) (by omega)
    rw [Nat.add_sub_cancel] at h1
    by_cases e : i = k
    · subst e; exact h1
    · have := ih i (by omega) (by omega); omega
theorem at_found {rs : List Rel} {k : Nat} {p : Int} (hk : k < rs.length) (e : rAt rs k = p) (h : ∀ i, i < k → ¬ rAt rs i = p) : atR rs p = k := by
  have step : ∀ j, j ≤ k → atFrom (rs.drop j) p j = k := by
    intro j hj
    induction hd : k - j generalizing j with
    | zero =>
      have : j = k := by omega
      subst this
      exact at_hit hk (by simpa using e)
    | succ d ih =>
      rw [at_miss (by omega) (by simpa using h j (by omega))]
      exact ih (j + 1) (by omega) (by omega)
  have := step 0 (by omega)
  simpa [atR] using this
theorem finds_at {rs : List Rel} {code : List Int} {ns : Nat} (h : ∀ j, j < rs.length → relE rs code ns j = 0) (k : Nat) (hk : k < rs.length) : atR rs (rAt rs k) = k :=
  at_found hk rfl fun i hi => by have := rel_rise h k i hi hk; omega
theorem nth_app {code : List Int} {x : Int} {i : Nat} (h : i < code.length) : nth (code ++ [x]) i = nth code i := by simp [nth, List.getD, h, List.getElem?_append_left h]
theorem nth_last {code : List Int} {x : Int} : nth (code ++ [x]) code.length = x := by simp [nth, List.getD]
theorem may_word {nm : ByteArray} {code : List Int} {dA : Int} {nd : Nat} {ss : List Sym} {rs : List Rel} (h : MayBe nm code dA nd ss rs) (hl : code.length < 16384) : MayBe nm (code ++ [1]) dA nd ss rs := by
  obtain ⟨⟨a1, a2, a3, a4, a5, a6, a7⟩, h2, h3, h4⟩ := h
  have hlen : (code ++ [1]).length = code.length + 1 := by simp
  refine ⟨⟨a1, by omega, a3, by omega, a5, a6, a7⟩, fun j hj => ?_, fun j hj => ?_, fun j hj => ?_⟩
  · obtain ⟨b1, b2, b3, b4, b5, b6, b7⟩ := sym_parts.1 (h2 j hj)
    exact sym_parts.2 ⟨b1, b2, b3, b4, b5, by rw [hlen]; omega, b7⟩
  · obtain ⟨b1, b2, b3, b4, b5, b6, b7⟩ := rel_parts.1 (h3 j hj)
    have e : nth (code ++ [1]) (rAt rs j).toNat = nth code (rAt rs j).toNat := nth_app (by omega)
    exact rel_parts.2 ⟨b1, by rw [hlen]; omega, b3, b4, b5, by rw [e]; exact b6, by rw [e]; exact b7⟩
  · by_cases e : j < code.length
    · have k := cod_parts.1 (h4 j e)
      refine cod_parts.2 fun hT => ?_
      rw [nth_app e] at hT ⊢
      have := k hT
      rw [hlen]; omega
    · have : j = code.length := by omega
      subst this
      refine cod_parts.2 fun hT => ?_
      rw [nth_last] at hT
      exact absurd hT (by decide +kernel)
theorem rAt_take {rs : List Rel} {n i : Nat} (h : i < n) : rAt (rs.take n) i = rAt rs i := by simp [rAt, List.getD, h]
theorem rSym_take {rs : List Rel} {n i : Nat} (h : i < n) : rSym (rs.take n) i = rSym rs i := by simp [rSym, List.getD, h]
theorem may_less {nm : ByteArray} {code : List Int} {dA : Int} {nd : Nat} {ss : List Sym} {rs : List Rel} (h : MayBe nm code dA nd ss rs) (n : Nat) (hn : n ≤ rs.length) : MayBe nm code dA nd ss (rs.take n) := by
  obtain ⟨⟨a1, a2, a3, a4, a5, a6, a7⟩, h2, h3, h4⟩ := h
  have hlen : (rs.take n).length = n := by rw [List.length_take, Nat.min_eq_left hn]
  refine ⟨⟨a1, a2, a3, by omega, a5, a6, a7⟩, h2, fun j hj => ?_, h4⟩
  rw [hlen] at hj
  obtain ⟨b1, b2, b3, b4, b5, b6, b7⟩ := rel_parts.1 (h3 j (by omega))
  rw [rel_parts, rAt_take hj, rSym_take hj, rAt_take (show j - 1 < n by omega)]
  exact ⟨b1, b2, b3, b4, b5, b6, b7⟩
theorem rels_take {w : World} {O : Option Addr} {rs : List Rel} (h : RelsAt w O rs) (n : Nat) (hn : n ≤ rs.length) : RelsAt w O (rs.take n) := fun i hi => by
  have hi' : i < n := by rw [List.length_take, Nat.min_eq_left hn] at hi; exact hi
  rw [rAt_take hi', rSym_take hi']
  exact h i (by omega)
theorem of_app (s : ByteArray) (t : List Sym) : ∀ (l : List Sym) (k : Nat), ¬ ofFrom l s k = -1 → ofFrom (l ++ t) s k = ofFrom l s k
  | [], k, h => absurd rfl h
  | x :: l, k, h => by
    rw [List.cons_append, ofFrom, ofFrom]
    rw [ofFrom] at h
    by_cases e : (x.1.toList == s.toList) = true
    · rw [if_pos e, if_pos e]
    · rw [if_neg e] at h
      rw [if_neg e, if_neg e]
      exact of_app s t l (k + 1) h
theorem s_app {ss : List Sym} {x : Sym} {i : Nat} (h : i < ss.length) : (ss ++ [x]).getD i symD = ss.getD i symD := by simp [List.getD, h, List.getElem?_append_left h]
theorem s_last {ss : List Sym} {x : Sym} : (ss ++ [x]).getD ss.length symD = x := by simp [List.getD]
theorem twice_check {nm : ByteArray} {code : List Int} {dA : Int} {nd : Nat} {ss : List Sym} {rs : List Rel} (h : MayBe nm code dA nd ss rs) (p : Nat) (hp : p < ss.length) (hl : ss.length < 256) : checkC nm code dA nd (ss ++ [ss.getD p symD]) rs = (26, (ss.length : Int)) := by
  obtain ⟨⟨a1, a2, a3, a4, a5, a6, a7⟩, h2, h3, h4⟩ := h
  have hlen : (ss ++ [ss.getD p symD]).length = ss.length + 1 := by simp
  have e1 : sizeC (nameOK nm) code.length (ss ++ [ss.getD p symD]).length rs.length nd dA = (0, 0) := size_ok ⟨a1, a2, by omega, a4, a5, a6, a7⟩
  have hof : ∀ j, j < ss.length → ofS (ss ++ [ss.getD p symD]) (sName ss j) = j := fun j hj => by
    obtain ⟨_, b2, _⟩ := sym_parts.1 (h2 j hj)
    have : ¬ ofFrom ss (sName ss j) 0 = -1 := by have e : ofFrom ss (sName ss j) 0 = j := b2; rw [e]; omega
    unfold ofS
    rw [of_app _ _ _ _ this]; exact b2
  have z : ∀ j, j < ss.length → symE (ss ++ [ss.getD p symD]) code.length j = 0 := fun j hj => by
    obtain ⟨b1, b2, b3, b4, b5, b6, b7⟩ := sym_parts.1 (h2 j hj)
    have g := s_app (x := ss.getD p symD) hj
    have g1 : sName (ss ++ [ss.getD p symD]) j = sName ss j := by unfold sName; rw [g]
    have g2 : sKind (ss ++ [ss.getD p symD]) j = sKind ss j := by unfold sKind; rw [g]
    have g3 : sAt (ss ++ [ss.getD p symD]) j = sAt ss j := by unfold sAt; rw [g]
    rw [sym_parts, g1, g2, g3]
    exact ⟨b1, hof j hj, b3, b4, b5, b6, b7⟩
  have y : symE (ss ++ [ss.getD p symD]) code.length ss.length = 26 := by
    have g1 : sName (ss ++ [ss.getD p symD]) ss.length = sName ss p := by unfold sName; rw [s_last]
    obtain ⟨b1, _⟩ := sym_parts.1 (h2 p hp)
    unfold symE
    rw [g1, if_neg (by rw [b1]; simp), if_pos (by rw [hof p hp]; omega)]
  have e2 : symC (ss ++ [ss.getD p symD]) code.length = (26, (ss.length : Int)) := by
    unfold symC
    rw [first_hit (k := ss.length) (by omega) z (by rw [y]; omega), y]
  unfold checkC
  rw [e1, e2]; simp
theorem may_names {nm : ByteArray} {code : List Int} {dA : Int} {nd : Nat} {ss : List Sym} {rs : List Rel} (h : MayBe nm code dA nd ss rs) (i : Nat) (hi : i < ss.length) : ofS ss (sName ss i) = i ∧ nameOK (sName ss i) = true := by
  obtain ⟨b1, b2, _⟩ := sym_parts.1 (h.2.1 i hi)
  exact ⟨b2, b1⟩
theorem may_at {nm : ByteArray} {code : List Int} {dA : Int} {nd : Nat} {ss : List Sym} {rs : List Rel} (h : MayBe nm code dA nd ss rs) (i : Nat) (hi : i < rs.length) : atR rs (rAt rs i) = i := finds_at h.2.2.1 i hi


end Go.Proofs.YthfcimmfkibmjaaGreatDoor

namespace Go.Proofs.YthfcimmfkibmjaaGreatDoor
open Go.RowKit


theorem name_size {s : ByteArray} (h : nameOK s = true) : s.size ≤ 24 := by
  unfold nameOK at h
  have e : s.size = s.data.toList.length := by rw [Array.length_toList]; rfl
  rw [e]
  split at h
  · cases h
  · next c l hs =>
    rw [hs]
    simp at h
    simp
    omega
structure Fit (nm : ByteArray) (code : List Int) (dA : Int) (nd : Nat) (ss : List Sym) (rs : List Rel) : Prop where
  hnm : nm.size ≤ 24
  hcode : code.length ≤ 16384
  hdata : nd ≤ 4096
  hsyms : ss.length ≤ 256
  hrels : rs.length ≤ code.length
  hdA : 0 ≤ dA ∧ dA ≤ 4096
  sym : ∀ i, i < ss.length → (sName ss i).size ≤ 24 ∧ 0 ≤ sKind ss i ∧ sKind ss i ≤ 3 ∧ 0 ≤ sAt ss i ∧ sAt ss i ≤ 16384
  rel : ∀ i, i < rs.length → 0 ≤ rAt rs i ∧ rAt rs i < 16384 ∧ 0 ≤ rSym rs i ∧ rSym rs i < 256
theorem may_fit {nm : ByteArray} {code : List Int} {dA : Int} {nd : Nat} {ss : List Sym} {rs : List Rel} (h : MayBe nm code dA nd ss rs) : Fit nm code dA nd ss rs := by
  obtain ⟨⟨h1, h2, h3, h4, h5, h6, h7⟩, hs, hr, _⟩ := h
  refine ⟨name_size h1, h2, by omega, h3, h4, ⟨h5, h6⟩, fun i hi => ?_, fun i hi => ?_⟩
  · obtain ⟨a, _, b, c, d, e, _⟩ := sym_parts.1 (hs i hi)
    exact ⟨name_size a, b, c, d, by omega⟩
  · obtain ⟨a, b, _, c, d, _⟩ := rel_parts.1 (hr i hi)
    exact ⟨a, by omega, c, by omega⟩
theorem syms_size (ss : List Sym) (h : ∀ x ∈ ss, x.1.size ≤ 24) : (ss.flatMap symB).length ≤ ss.length * 36 := by
  induction ss with
  | nil => simp
  | cons x l ih =>
    have h1 := h x (by simp)
    have h2 := ih fun y hy => h y (by simp [hy])
    have h3 : (symB x).length = x.1.size + 12 := by
      unfold symB textB strB
      rw [List.length_append, List.length_append, List.length_append, List.length_map, be4_len, be4_len, be4_len, Array.length_toList]
      show 4 + x.1.size + 4 + 4 = _
      omega
    rw [List.flatMap_cons, List.length_append, h3, List.length_cons]
    omega
theorem syms_mem {ss : List Sym} (h : ∀ i, i < ss.length → (sName ss i).size ≤ 24) : ∀ x ∈ ss, x.1.size ≤ 24 := fun x hx => by
  obtain ⟨i, hi, e⟩ := List.getElem_of_mem hx
  have := h i hi
  simpa [sName, List.getD, hi, e] using this

end Go.Proofs.YthfcimmfkibmjaaGreatDoor

namespace Go.Proofs.YthfcimmfkibmjaaGreatDoor
open Go.RowKit


theorem sum_any (A : Option Addr) (cap : Nat) (b : List Int) (w : World) (hB : IntsAt w A .u8 b) (hA : AreB b) (hN : b.length ≤ 1048576) : Calls Tryz.prog 31 #[.slice A b.length cap] w fun r w' => r = .returned (.int .u32 (sumB b)) ∧ w' = w := by
  go_enter Tryz.func31, Tryz.ntmps31
  go_wp2
  go_loop [8, 3] (fun i s => ∃ k : Nat, i = .int .i64 k ∧ k ≤ b.length ∧ s = .int .u32 (sumB (b.take k))) (fun i _ => b.length - (intOf i).toNat)
  case atStart => exact ⟨0, rfl, by omega, rfl⟩
  case round =>
    obtain ⟨k, rfl, hk, rfl⟩ := hrel
    by_cases hlt : k < b.length
    · obtain ⟨a, rfl, q⟩ := hB k hlt
      have HS : Hid _ := sum_step b k hlt
      have hx : 0 ≤ nth b k ∧ nth b k < 256 := hA _ (by simp [nth, List.getD, hlt])
      generalize nth b k = x at q HS hx
      generalize sumB (b.take k) = s at HS
      go_wp2
      go_round
      case rel => exact ⟨k + 1, by go_num, by omega, by rw [HS.out]; congr 1; omega⟩
      case measure => simp [intOf]; omega
    · obtain rfl : k = b.length := by omega
      go_wp2
      go_ret
      exact ⟨by simp, rfl⟩
/-- A row of bytes, as it lies. -/
theorem own_ints {w : World} {base n : Nat} {v : Value} {l : List Int} (h : w.ownsRow base 5 1 v n (bNews l)) : ∃ A c, v = .slice A l.length c ∧ IntsAt w A .u8 l ∧ l.length ≤ c := by
  have hn : l.length = n := by have := h.1; rw [bNews_len] at this; omega
  rcases h.2 with ⟨rfl, h0⟩ | ⟨g, cap, cur, rfl, hb, hg, hc, _⟩
  · refine ⟨none, 0, by rw [hn, h0], fun i hi => by omega, by omega⟩
  · refine ⟨some ⟨g, 0, none⟩, cap, by rw [hn], fun i hi => ⟨_, rfl, ?_⟩, by omega⟩
    exact h.cells rfl i _ (by simp [bNews, nth, List.getD, hi])
theorem textB_areB (s : ByteArray) : AreB (textB s) := (be4_areB _).app fun x hx => by
  unfold strB at hx
  obtain ⟨c, _, rfl⟩ := List.mem_map.1 hx
  have := c.toNat_lt
  omega
theorem flat_areB {α : Type} (f : α → List Int) (hf : ∀ x, AreB (f x)) (l : List α) : AreB (l.flatMap f) := fun x hx => by
  obtain ⟨y, _, h⟩ := List.mem_flatMap.1 hx
  exact hf y x h
theorem body_areB (nm : ByteArray) (code : List Int) (dA : Int) (data : List Int) (ss : List Sym) (rs : List Rel) : AreB (bodyB nm code dA data ss rs) := by
  unfold bodyB
  refine ((((((((((?_ : AreB [80, 76, 79, 49]).app (textB_areB _)).app (be4_areB _)).app (flat_areB _ be4_areB _)).app (be4_areB _)).app (be4_areB _)).app (flat_areB _ be8_areB _)).app (be4_areB _)).app (flat_areB _ (fun x => ((textB_areB _).app (be4_areB _)).app (be4_areB _)) _)).app (be4_areB _)).app (flat_areB _ (fun x => (be4_areB _).app (be4_areB _)) _)
  intro x hx
  simp at hx
  omega
/-- What Write answers. -/
def WroteP (nm : ByteArray) (code : List Int) (dA : Int) (data : List Int) (ss : List Sym) (rs : List Rel) (w : World) (r : Ending) (w' : World) : Prop :=
  if (checkC nm code dA data.length ss rs).1 = 0 then ∃ v, r = .returned (.tuple #[v, .int .i64 0]) ∧ w'.ownsRow w.heap.size 5 1 v (bytesB nm code dA data ss rs).length (bNews (bytesB nm code dA data ss rs)) ∧ Below w.heap.size w w'
  else r = .returned (.tuple #[.slice none 0 0, .int .i64 (checkC nm code dA data.length ss rs).1]) ∧ Below w.heap.size w w'
theorem ownsRow_mono {w : World} {b b' : Nat} {e : TypeId} {k n : Nat} {v : Value} {xs : List Value} (h : w.ownsRow b e k v n xs) (hb : b' ≤ b) : w.ownsRow b' e k v n xs := by
  refine ⟨h.1, ?_⟩
  rcases h.2 with h0 | ⟨g, cap, cur, hv, hg, r⟩
  · exact Or.inl h0
  · exact Or.inr ⟨g, cap, cur, hv, Nat.le_trans hb hg, r⟩
set_option maxRecDepth 100000 in
set_option maxHeartbeats 1000000 in
theorem write_any (nm : ByteArray) (dA : Int) (A1 A2 A3 A4 : Option Addr) (c1 c2 c3 c4 : Nat) (code data : List Int) (ss : List Sym) (rs : List Rel) (w : World)
    (hC : IntsAt w A1 .u32 code) (hD : IntsAt w A2 .i64 data) (hS : SymsAt w A3 ss) (hL : RelsAt w A4 rs) (hR : ∀ i, i < code.length → 0 ≤ nth code i ∧ nth code i < 4294967296) (hc : code.length ≤ 1048576) (hd : data.length ≤ 1048576) (hs : ss.length ≤ 1048576) (hl : rs.length ≤ 1048576) (hN : ∀ i, (sName ss i).size ≤ 140737488355328) (hA : -9223372036854775808 ≤ dA ∧ dA ≤ 9223372036854775807) :
    Calls Tryz.prog 9 #[.agg #[.string nm, .slice A1 code.length c1, .int .i64 dA, .slice A2 data.length c2, .slice A3 ss.length c3, .slice A4 rs.length c4]] w (WroteP nm code dA data ss rs w) := by
  have hB := lb_alloc (Below.refl w.heap.size w) (.cells #[.string nm, .slice A1 code.length c1, .int .i64 dA, .slice A2 data.length c2, .slice A3 ss.length c3, .slice A4 rs.length c4] 27)
  have C := fun (wx : World) (hb : Below w.heap.size w wx) => objcheck_any nm dA A1 A2 A3 A4 c1 data.length c2 c3 c4 code ss rs wx (hC.keep hb) (hS.keep hb) (hL.keep hb) hR hc hd hs hl hN hA
  have hbx : Hid ((w.alloc (.cells #[.string nm, .slice A1 code.length c1, .int .i64 dA, .slice A2 data.length c2, .slice A3 ss.length c3, .slice A4 rs.length c4] 27)).heap[w.heap.size]? = some (.cells #[.string nm, .slice A1 code.length c1, .int .i64 dA, .slice A2 data.length c2, .slice A3 ss.length c3, .slice A4 rs.length c4] 27 (0, 0))) := heap_alloc_new _ _
  by_cases h0 : (checkC nm code dA data.length ss rs).1 = 0
  · have hm := check_may h0
    have hf := may_fit hm
    have h5 := syms_size ss (syms_mem fun i hi => (hf.sym i hi).1)
    obtain ⟨p1, p2, p3, p4, p5, p6⟩ := part_lens nm code dA data ss rs
    have hlen : (bodyB nm code dA data ss rs).length ≤ 300000 := by
      have := hf.hnm; have := hf.hcode; have := hf.hdata; have := hf.hsyms; have := hf.hrels
      omega
    have hk : ∀ i, i < ss.length → 0 ≤ sKind ss i ∧ sKind ss i < 128 := fun i hi => by have := hf.sym i hi; omega
    have hareB := body_areB nm code dA data ss rs
    have hsum := sum_range (bodyB nm code dA data ss rs)
    have HP : Hid (∀ r w', WroteP nm code dA data ss rs w r w' = (∃ v, r = .returned (.tuple #[v, .int .i64 0]) ∧ w'.ownsRow w.heap.size 5 1 v (bytesB nm code dA data ss rs).length (bNews (bytesB nm code dA data ss rs)) ∧ Below w.heap.size w w')) := fun r w' => by unfold WroteP; rw [if_pos h0]
    rw [h0] at C
    clear p1 p2 p3 p4 p5 p6 h5 hm
    generalize (checkC nm code dA data.length ss rs).2 = q at C
    have H0 : Hid _ := h0
    clear h0
    have HW : Hid _ := hB
    go_enter Tryz.func9, Tryz.ntmps9
    go_wp2_with fail
    refine (C _ HW.out).mono ?_
    rintro e w1 ⟨rfl, h1⟩
    have hb1 : Hid (Below w.heap.size w w1) := lb_trans HW.out h1
    have hx1 : Hid (w1.heap[w.heap.size]? = _) := (h1.block w.heap.size (by simp)).trans hbx.out
    obtain ⟨d0, d1, d2, d3, d4, d5⟩ := box6_cell hx1.out
    have hz1 : w.heap.size < w1.heap.size := by have := h1.size; simp at this; omega
    clear h1
    have hgb : Hid (Below w1.heap.size w1 (w1.alloc (.cells #[.slice none 0 0] 76))) := lb_alloc (Below.refl _ _) _
    have hgv : Hid ((w1.alloc (.cells #[.slice none 0 0] 76)).heap[w1.heap.size]? = some (.cells #[.slice none 0 0] 76 (0, 0))) := heap_alloc_new _ _
    go_wp2_with fail
    refine (wObject w1.heap.size nm dA A1 A2 A3 A4 c1 c2 c3 c4 code data ss rs w _ hC hD hS hL hR hk (lb_trans hb1.out hgb.out) (by omega) (by omega) hs hgv.out).mono ?_
    rintro e w2 ⟨rfl, h2, t2⟩
    have t2 : Hid _ := t2
    have h2 : OutAt w2 w1.heap.size (bodyB nm code dA data ss rs) := h2
    have hg2 := h2.lt
    obtain ⟨v, hv, hr⟩ := h2
    have HO : Hid (OutAt w2 w1.heap.size (bodyB nm code dA data ss rs)) := ⟨v, hv, hr⟩
    obtain ⟨A', c', rfl, hI, hcap⟩ := own_ints hr
    have hcell := (box_cell hv).1
    have hfro := (box_cell hv).2
    clear hv hr
    go_wp2_with fail
    refine (sum_any A' c' (bodyB nm code dA data ss rs) _ hI hareB (by omega)).mono ?_
    rintro e w3 ⟨rfl, rfl⟩
    go_wp2_with fail
    refine (wNumber w1.heap.size (bodyB nm code dA data ss rs) _ hsum.1 hsum.2 (by omega) _ HO.out).mono ?_
    rintro e w3 ⟨rfl, h3, t3⟩
    have t3 : Hid _ := t3
    have h3 : OutAt w3 w1.heap.size (bytesB nm code dA data ss rs) := h3
    obtain ⟨v, hv, hr⟩ := h3
    obtain ⟨A2', c2', rfl, hI2, hcap2⟩ := own_ints hr
    have hcell2 := (box_cell hv).1
    have HR : Hid _ := hr
    clear hv hr
    go_wp2
    go_ret2
    rw [HP.out]
    refine ⟨_, rfl, ownsRow_mono HR.out (by omega), ?_⟩
    have q1 := (OutTo.of (g := w1.heap.size) hgb.out).trans (t2.out.trans t3.out)
    exact hb1.out.trans ⟨q1.os, q1.tape, q1.output, q1.size, fun k hk => q1.block k (by omega) (by omega) (Or.inl (by omega))⟩
  · have HP : Hid (∀ r w', WroteP nm code dA data ss rs w r w' = (r = .returned (.tuple #[.slice none 0 0, .int .i64 (checkC nm code dA data.length ss rs).1]) ∧ Below w.heap.size w w')) := fun r w' => by unfold WroteP; rw [if_neg h0]
    have h0b : ((checkC nm code dA data.length ss rs).1 != 0) = true := by simpa using h0
    generalize (checkC nm code dA data.length ss rs).1 = E at C h0b HP
    generalize (checkC nm code dA data.length ss rs).2 = q at C
    clear h0
    have HW : Hid _ := hB
    go_enter Tryz.func9, Tryz.ntmps9
    go_wp2_with fail
    refine (C _ HW.out).mono ?_
    rintro e w1 ⟨rfl, h1⟩
    have hb1 : Hid (Below w.heap.size w w1) := lb_trans HW.out h1
    clear h1
    go_wp2
    go_ret2
    rw [HP.out]
    exact ⟨rfl, hb1.out⟩

end Go.Proofs.YthfcimmfkibmjaaGreatDoor

namespace Go.Proofs.YthfcimmfkibmjaaGreatDoor
open Go.RowKit


def begL : List Int := [80, 76, 79, 49]
theorem begin_at {b : List Int} {i : Nat} (hi : i < 4) (h : ∀ j, j < i → j < b.length ∧ nth b j = nth begL j) (hn : b.length ≤ i ∨ ¬ nth b i = nth begL i) : tBegin b [80, 76, 79, 49] = ⟨4, 27, i⟩ := by
  have e : (List.range ([80, 76, 79, 49] : List Int).length).find? (fun i => decide (b.length ≤ i) || nth b i != nth [80, 76, 79, 49] i) = some i := by
    rw [List.find?_range_eq_some]
    refine ⟨?_, by simpa using hi, fun j hj => ?_⟩
    · rcases hn with hn | hn
      · simp [hn]
      · simp [show nth [80, 76, 79, 49] i = nth begL i from rfl, hn]
    · obtain ⟨h1, h2⟩ := h j hj
      simp [h1, h2, show nth [80, 76, 79, 49] j = nth begL j from rfl]
  unfold tBegin
  rw [e]
  rfl
theorem begin_all {b : List Int} (h : ∀ j, j < 4 → j < b.length ∧ nth b j = nth begL j) : tBegin b [80, 76, 79, 49] = ⟨4, 0, 0⟩ := by
  have e : (List.range ([80, 76, 79, 49] : List Int).length).find? (fun i => decide (b.length ≤ i) || nth b i != nth [80, 76, 79, 49] i) = none := by
    rw [List.find?_eq_none]
    intro j hj
    obtain ⟨h1, h2⟩ := h j (by simpa using hj)
    simp [h1, h2, show nth [80, 76, 79, 49] j = nth begL j from rfl]
  unfold tBegin
  rw [e]
  rfl
theorem begin_good {b : List Int} (h : (tBegin b [80, 76, 79, 49]).bad = 0) : tBegin b [80, 76, 79, 49] = ⟨4, 0, 0⟩ := by
  unfold tBegin at h ⊢
  split at h
  · cases h
  · rfl
theorem bne_of {x y : Int} (h : ¬ x = y) : (x != y) = true := by simpa using h
/-- What a taker that tells an error alone answers. -/
def TakesE (w0 : World) (g : Nat) (A : Option Addr) (c : Nat) (b : List Int) (t : Tk) (w : World) (r : Ending) (w' : World) : Prop :=
  But g w w' ∧ ((t.bad = 0 ∧ r = .returned .nilIface ∧ InBy w0 g A c b t.pos w') ∨ (¬ t.bad = 0 ∧ r = .returned (errV t.bad t.place) ∧ ∃ p, InBy w0 g A c b p w'))
theorem takesE_yes {w0 : World} {g : Nat} {A : Option Addr} {c : Nat} {b : List Int} {t : Tk} {w w' : World} {q : Nat} (hb : But g w w') (h : t = ⟨q, 0, 0⟩) (hi : InBy w0 g A c b q w') : TakesE w0 g A c b t w (.returned .nilIface) w' := by
  subst h
  exact ⟨hb, Or.inl ⟨rfl, rfl, hi⟩⟩
theorem takesE_no {w0 : World} {g : Nat} {A : Option Addr} {c : Nat} {b : List Int} {t : Tk} {w w' : World} {x y : Int} {p q : Nat} (hb : But g w w') (h : t = ⟨q, x, y⟩) (hx : ¬ x = 0) (hi : InBy w0 g A c b p w') : TakesE w0 g A c b t w (.returned (.iface 97 (.agg #[.int .i64 x, .int .i64 y]))) w' := by
  subst h
  exact ⟨hb, Or.inr ⟨hx, rfl, p, hi⟩⟩
theorem TakesE.ok {w0 : World} {g : Nat} {A : Option Addr} {c : Nat} {b : List Int} {t : Tk} {w w' : World} {r : Ending} (h : TakesE w0 g A c b t w r w') (e : t.bad = 0) : r = .returned .nilIface ∧ InBy w0 g A c b t.pos w' ∧ But g w w' := by
  obtain ⟨hb, ⟨_, h1, h2⟩ | ⟨h0, _⟩⟩ := h
  · exact ⟨h1, h2, hb⟩
  · exact absurd e h0
theorem TakesE.err {w0 : World} {g : Nat} {A : Option Addr} {c : Nat} {b : List Int} {t : Tk} {w w' : World} {r : Ending} (h : TakesE w0 g A c b t w r w') (e : ¬ t.bad = 0) : ∃ p, r = .returned (.iface 97 (.agg #[.int .i64 t.bad, .int .i64 t.place])) ∧ InBy w0 g A c b p w' ∧ But g w w' := by
  obtain ⟨hb, ⟨h0, _⟩ | ⟨_, h1, p, h2⟩⟩ := h
  · exact absurd h0 e
  · exact ⟨p, h1, h2, hb⟩
set_option maxRecDepth 100000 in
set_option maxHeartbeats 1000000 in
theorem beginning_any (w0 : World) (g : Nat) (A : Option Addr) (c : Nat) (b : List Int) (w : World) (h : InBy w0 g A c b 0 w) :
    Calls Tryz.prog 97 #[.pointer (some ⟨g, 0, none⟩)] w (TakesE w0 g A c b (tBegin b [80, 76, 79, 49]) w) := by
  have HI : Hid _ := h
  clear h
  go_enter Tryz.func97, Tryz.ntmps97
  go_wp2
  go_loopw [6] (fun i wr => ∃ k : Nat, i = .int .i64 k ∧ k ≤ 4 ∧ (∀ j, j < k → j < b.length ∧ nth b j = nth begL j) ∧ InBy w0 g A c b k wr ∧ But g w wr) (fun i _ => 4 - (intOf i).toNat)
  case atStart => exact ⟨0, rfl, by omega, fun j hj => by omega, HI.out, But.refl _ _⟩
  case round =>
    obtain ⟨k, rfl, hk, hall, hin, hbut⟩ := hrel
    have HB : Hid (But g w wr) := hbut
    have HA : Hid _ := hall
    clear hbut hall HI
    by_cases hk4 : k = 4
    · subst hk4
      go_wp2
      go_ret
      exact takesE_yes HB.out (begin_all HA.out) hin
    · by_cases hlt : k < b.length
      · have C := next_ok w0 g A c b k wr hin hlt
        by_cases hx : nth b k = nth begL k
        · have HA2 : Hid (∀ j, j < k + 1 → j < b.length ∧ nth b j = nth begL j) := fun j hj => by
            by_cases e : j = k
            · subst e; exact ⟨hlt, hx⟩
            · exact HA.out j (by omega)
          rw [hx] at C
          clear hx
          have h4 : k = 0 ∨ k = 1 ∨ k = 2 ∨ k = 3 := by omega
          rcases h4 with rfl | rfl | rfl | rfl
          · simp only [begL, nth, List.getD_cons_zero] at C
            go_wp2_with (go_at_call 136; refine C.mono ?_; rintro e w1 ⟨rfl, hin1, hb1⟩)
            exact ⟨⟨1, rfl, by omega, HA2.out, hin1, HB.out.trans hb1⟩, by simp [intOf]⟩
          · simp only [begL, nth, List.getD_cons_zero, List.getD_cons_succ] at C
            go_wp2_with (go_at_call 136; refine C.mono ?_; rintro e w1 ⟨rfl, hin1, hb1⟩)
            exact ⟨⟨2, rfl, by omega, HA2.out, hin1, HB.out.trans hb1⟩, by simp [intOf]⟩
          · simp only [begL, nth, List.getD_cons_zero, List.getD_cons_succ] at C
            go_wp2_with (go_at_call 136; refine C.mono ?_; rintro e w1 ⟨rfl, hin1, hb1⟩)
            exact ⟨⟨3, rfl, by omega, HA2.out, hin1, HB.out.trans hb1⟩, by simp [intOf]⟩
          · simp only [begL, nth, List.getD_cons_zero, List.getD_cons_succ] at C
            go_wp2_with (go_at_call 136; refine C.mono ?_; rintro e w1 ⟨rfl, hin1, hb1⟩)
            exact ⟨⟨4, rfl, by omega, HA2.out, hin1, HB.out.trans hb1⟩, by simp [intOf]⟩
        · have HN : Hid _ := begin_at (by omega) HA.out (Or.inr hx)
          have hx0 := (hin.byte hlt)
          obtain ⟨a, e, q, hx0, hx1⟩ := hx0
          clear q e
          generalize nth b k = x at *
          have h4 : k = 0 ∨ k = 1 ∨ k = 2 ∨ k = 3 := by omega
          rcases h4 with rfl | rfl | rfl | rfl
          · have hxb : (x != (((⟨#[80, 76, 79, 49]⟩ : ByteArray)[0]).toNat : Int)) = true := bne_of hx
            clear hx
            go_wp2_with (go_at_call 136; refine C.mono ?_; rintro e w1 ⟨rfl, hin1, hb1⟩)
            go_ret
            exact takesE_no (HB.out.trans hb1) HN.out (by omega) hin1
          · have hxb : (x != (((⟨#[80, 76, 79, 49]⟩ : ByteArray)[1]).toNat : Int)) = true := bne_of hx
            clear hx
            go_wp2_with (go_at_call 136; refine C.mono ?_; rintro e w1 ⟨rfl, hin1, hb1⟩)
            go_ret
            exact takesE_no (HB.out.trans hb1) HN.out (by omega) hin1
          · have hxb : (x != (((⟨#[80, 76, 79, 49]⟩ : ByteArray)[2]).toNat : Int)) = true := bne_of hx
            clear hx
            go_wp2_with (go_at_call 136; refine C.mono ?_; rintro e w1 ⟨rfl, hin1, hb1⟩)
            go_ret
            exact takesE_no (HB.out.trans hb1) HN.out (by omega) hin1
          · have hxb : (x != (((⟨#[80, 76, 79, 49]⟩ : ByteArray)[3]).toNat : Int)) = true := bne_of hx
            clear hx
            go_wp2_with (go_at_call 136; refine C.mono ?_; rintro e w1 ⟨rfl, hin1, hb1⟩)
            go_ret
            exact takesE_no (HB.out.trans hb1) HN.out (by omega) hin1
      · have C := next_end w0 g A c b k wr hin (by have := hin.pos; omega)
        unfold errV at C
        have hke : k = b.length := by have := hin.pos; omega
        have HN : Hid _ := begin_at (by omega) HA.out (Or.inl (by omega))
        go_wp2_with (go_at_call 136; refine C.mono ?_; rintro e w1 ⟨rfl, hin1, hb1⟩)
        go_ret
        exact takesE_no (HB.out.trans hb1) (by rw [HN.out, hke]) (by omega) hin1

end Go.Proofs.YthfcimmfkibmjaaGreatDoor
