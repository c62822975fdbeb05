/-
  What an object that may be is, as plain mathematics: its parts, and that each relocation is found; no Go in sight. An object that may be, with one word more, one relocation less, one symbol twice, as plain mathematics; no Go in sight. Rows that are made and then written, one place after the other. resolveAll: what each symbol stands for.
-/
import Derived.Test.YtiihfkjgdhfmiaaSR02
import Derived.Test.YtiihfkjgdhfmiaaProg
import Derived.WalkKit
import Derived.WalkSpells
import Derived.WalkLawsBesides
import Derived.RowKit3
import Derived.Below
import Derived.Deep.QuietTactic
import Derived.BigQuiet
import Derived.WalkSmall
import Derived.Laws.Rows
import Derived.Test.YtiihfkjgdhfmiaaSR18
import Derived.Test.YtiihfkjgdhfmiaaSR09
import Derived.Test.YtiihfkjgdhfmiaaSR16
import Derived.Deep.RegionWith
import Derived.Deep.RegionHeld3
namespace Go.Proofs.Ytiihfkjgdhfmiaa
open Go.RowKit

theorem first_zero {n : Nat} {f : Nat → Int} (h : (firstOf n f).1 = 0) : ∀ j, j < n → f j = 0 := by
  intro j hj
  unfold firstOf at h
  cases hf : (List.range n).find? (fun k => f k != 0) with
  | none =>
    rw [List.find?_eq_none] at hf
    simpa using hf j (by simpa using hj)
  | some k =>
    rw [hf] at h
    have := List.find?_some hf
    simp at this
    exact absurd h this
/-- An object's sizes may be. -/
def SizeOK (nm : ByteArray) (nc ns nr nd : Nat) (dA : Int) : Prop := nameOK nm = true ∧ nc ≤ 16384 ∧ ns ≤ 256 ∧ nr ≤ nc ∧ 0 ≤ dA ∧ dA ≤ 4096 ∧ (nd : Int) ≤ 4096 - dA
theorem size_ok {nm : ByteArray} {nc ns nr nd : Nat} {dA : Int} (h : SizeOK nm nc ns nr nd dA) : sizeC (nameOK nm) nc ns nr nd dA = (0, 0) := by
  obtain ⟨h1, h2, h3, h4, h5, h6, h7⟩ := h
  unfold sizeC
  rw [if_neg (by rw [h1]; simp), if_neg (by omega), if_neg (by omega), if_neg (by omega), if_neg (by omega)]
theorem ok_size {nm : ByteArray} {nc ns nr nd : Nat} {dA : Int} (h : (sizeC (nameOK nm) nc ns nr nd dA).1 = 0) : SizeOK nm nc ns nr nd dA := by
  unfold sizeC at h
  by_cases h1 : nameOK nm = false
  · rw [if_pos h1] at h; simp at h
  rw [if_neg h1] at h
  by_cases h2 : 16384 < nc
  · rw [if_pos h2] at h; simp at h
  rw [if_neg h2] at h
  by_cases h3 : 256 < ns
  · rw [if_pos h3] at h; simp at h
  rw [if_neg h3] at h
  by_cases h4 : nc < nr
  · rw [if_pos h4] at h; simp at h
  rw [if_neg h4] at h
  by_cases h5 : dA < 0 ∨ 4096 < dA ∨ 4096 - dA < (nd : Int)
  · rw [if_pos h5] at h; simp at h
  exact ⟨by simpa using h1, by omega, by omega, by omega, by omega, by omega, by omega⟩
/-- An object may be. -/
def MayBe (nm : ByteArray) (code : List Int) (dA : Int) (nd : Nat) (ss : List Sym) (rs : List Rel) : Prop :=
  SizeOK nm code.length ss.length rs.length nd dA ∧ (∀ j, j < ss.length → symE ss code.length j = 0) ∧ (∀ j, j < rs.length → relE rs code ss.length j = 0) ∧ ∀ j, j < code.length → codE code j = 0
theorem may_check {nm : ByteArray} {code : List Int} {dA : Int} {nd : Nat} {ss : List Sym} {rs : List Rel} (h : MayBe nm code dA nd ss rs) : checkC nm code dA nd ss rs = (0, 0) := by
  obtain ⟨h1, h2, h3, h4⟩ := h
  have e1 := size_ok h1
  have e2 : symC ss code.length = (0, 0) := first_none h2
  have e3 : relC rs code ss.length = (0, 0) := first_none h3
  have e4 : codC code = (0, 0) := by unfold codC; rw [first_none h4]; rfl
  unfold checkC
  rw [e1, e2, e3, e4]; simp
theorem check_may {nm : ByteArray} {code : List Int} {dA : Int} {nd : Nat} {ss : List Sym} {rs : List Rel} (h : (checkC nm code dA nd ss rs).1 = 0) : MayBe nm code dA nd ss rs := by
  unfold checkC at h
  by_cases h1 : (sizeC (nameOK nm) code.length ss.length rs.length nd dA).1 = 0
  · rw [if_neg (by simpa using h1)] at h
    by_cases h2 : (symC ss code.length).1 = 0
    · rw [if_neg (by simpa using h2)] at h
      by_cases h3 : (relC rs code ss.length).1 = 0
      · rw [if_neg (by simpa using h3)] at h
        refine ⟨ok_size h1, first_zero h2, first_zero h3, ?_⟩
        unfold codC at h
        by_cases h4 : (firstOf code.length (codE code)).1 = 0
        · exact first_zero h4
        · rw [if_neg h4] at h; simp at h
      · rw [if_pos h3] at h; exact absurd h h3
    · rw [if_pos h2] at h; exact absurd h h2
  · rw [if_pos h1] at h; exact absurd h h1
theorem sym_parts {ss : List Sym} {nc k : Nat} : symE ss nc k = 0 ↔ nameOK (sName ss k) = true ∧ ofS ss (sName ss k) = k ∧ 0 ≤ sKind ss k ∧ sKind ss k ≤ 3 ∧ 0 ≤ sAt ss k ∧ sAt ss k ≤ nc ∧ (sKind ss k = 3 → sAt ss k = 0) := by
  unfold symE
  constructor
  · intro h
    by_cases h1 : nameOK (sName ss k) = false
    · rw [if_pos h1] at h; simp at h
    rw [if_neg h1] at h
    by_cases h2 : ¬ ofS ss (sName ss k) = k
    · rw [if_pos h2] at h; simp at h
    rw [if_neg h2] at h
    by_cases h3 : sKind ss k < 0 ∨ 3 < sKind ss k
    · rw [if_pos h3] at h; simp at h
    rw [if_neg h3] at h
    by_cases h4 : sAt ss k < 0 ∨ (nc : Int) < sAt ss k ∨ (sKind ss k = 3 ∧ ¬ sAt ss k = 0)
    · rw [if_pos h4] at h; simp at h
    exact ⟨by simpa using h1, by simpa using h2, by omega, by omega, by omega, by omega, by omega⟩
  · rintro ⟨h1, h2, h3, h4, h5, h6, h7⟩
    rw [if_neg (by rw [h1]; simp), if_neg (by simpa using h2), if_neg (by omega), if_neg (by omega)]
theorem rel_parts {rs : List Rel} {code : List Int} {ns k : Nat} : relE rs code ns k = 0 ↔ 0 ≤ rAt rs k ∧ rAt rs k < code.length ∧ (0 < k → rAt rs (k - 1) < rAt rs k) ∧ 0 ≤ rSym rs k ∧ rSym rs k < ns ∧ isT (nth code (rAt rs k).toNat) = true ∧ tgV (nth code (rAt rs k).toNat) = 0 := by
  unfold relE
  constructor
  · intro h
    by_cases h1 : rAt rs k < 0 ∨ (code.length : Int) ≤ rAt rs k ∨ (0 < k ∧ rAt rs k ≤ rAt rs (k - 1)) ∨ rSym rs k < 0 ∨ (ns : Int) ≤ rSym rs k
    · rw [if_pos h1] at h; simp at h
    rw [if_neg h1] at h
    by_cases h2 : isT (nth code (rAt rs k).toNat) = false ∨ ¬ tgV (nth code (rAt rs k).toNat) = 0
    · rw [if_pos h2] at h; simp at h
    have h3 : isT (nth code (rAt rs k).toNat) = true := by
      cases e : isT (nth code (rAt rs k).toNat)
      · exact absurd (Or.inl e) h2
      · rfl
    have h4 : tgV (nth code (rAt rs k).toNat) = 0 := Classical.byContradiction fun e => h2 (Or.inr e)
    exact ⟨by omega, by omega, by omega, by omega, by omega, h3, h4⟩
  · rintro ⟨h1, h2, h3, h4, h5, h6, h7⟩
    rw [if_neg (by omega), if_neg (by rw [h6, h7]; simp)]
theorem cod_parts {code : List Int} {k : Nat} : codE code k = 0 ↔ (isT (nth code k) = true → tgV (nth code k) ≤ code.length) := by
  unfold codE
  constructor
  · intro h hT
    by_cases h1 : isT (nth code k) = true ∧ (code.length : Int) < tgV (nth code k)
    · rw [if_pos h1] at h; simp at h
    · have : ¬ (code.length : Int) < tgV (nth code k) := fun e => h1 ⟨hT, e⟩
      omega
  · intro h
    rw [if_neg]
    rintro ⟨h1, h2⟩
    have := h h1
    omega
/-- The relocations' places rise: each is found by its own. -/
theorem rel_rise {rs : List Rel} {code : List Int} {ns : Nat} (h : ∀ j, j < rs.length → relE rs code ns j = 0) : ∀ k i, i < k → k < rs.length → rAt rs i < rAt rs k := by
  intro k
  induction k with
  | zero => intro i hi; omega
  | succ k ih =>
    intro i hi hk
    have h1 := ((rel_parts.1 (h (k + 1) hk)).2.2.1) (by omega)
    rw [Nat.add_sub_cancel] at h1
    by_cases e : i = k
    · subst e; exact h1
    · have := ih i (by omega) (by omega); omega
theorem at_found {rs : List Rel} {k : Nat} {p : Int} (hk : k < rs.length) (e : rAt rs k = p) (h : ∀ i, i < k → ¬ rAt rs i = p) : atR rs p = k := by
  have step : ∀ j, j ≤ k → atFrom (rs.drop j) p j = k := by
    intro j hj
    induction hd : k - j generalizing j with
    | zero =>
      have : j = k := by omega
      subst this
      exact at_hit hk (by simpa using e)
    | succ d ih =>
      rw [at_miss (by omega) (by simpa using h j (by omega))]
      exact ih (j + 1) (by omega) (by omega)
  have := step 0 (by omega)
  simpa [atR] using this
theorem finds_at {rs : List Rel} {code : List Int} {ns : Nat} (h : ∀ j, j < rs.length → relE rs code ns j = 0) (k : Nat) (hk : k < rs.length) : atR rs (rAt rs k) = k :=
  at_found hk rfl fun i hi => by have := rel_rise h k i hi hk; omega
theorem nth_app {code : List Int} {x : Int} {i : Nat} (h : i < code.length) : nth (code ++ [x]) i = nth code i := by simp [nth, List.getD, h, List.getElem?_append_left h]
theorem nth_last {code : List Int} {x : Int} : nth (code ++ [x]) code.length = x := by simp [nth, List.getD]
theorem may_word {nm : ByteArray} {code : List Int} {dA : Int} {nd : Nat} {ss : List Sym} {rs : List Rel} (h : MayBe nm code dA nd ss rs) (hl : code.length < 16384) : MayBe nm (code ++ [1]) dA nd ss rs := by
  obtain ⟨⟨a1, a2, a3, a4, a5, a6, a7⟩, h2, h3, h4⟩ := h
  have hlen : (code ++ [1]).length = code.length + 1 := by simp
  refine ⟨⟨a1, by omega, a3, by omega, a5, a6, a7⟩, fun j hj => ?_, fun j hj => ?_, fun j hj => ?_⟩
  · obtain ⟨b1, b2, b3, b4, b5, b6, b7⟩ := sym_parts.1 (h2 j hj)
    exact sym_parts.2 ⟨b1, b2, b3, b4, b5, by rw [hlen]; omega, b7⟩
  · obtain ⟨b1, b2, b3, b4, b5, b6, b7⟩ := rel_parts.1 (h3 j hj)
    have e : nth (code ++ [1]) (rAt rs j).toNat = nth code (rAt rs j).toNat := nth_app (by omega)
    exact rel_parts.2 ⟨b1, by rw [hlen]; omega, b3, b4, b5, by rw [e]; exact b6, by rw [e]; exact b7⟩
  · by_cases e : j < code.length
    · have k := cod_parts.1 (h4 j e)
      refine cod_parts.2 fun hT => ?_
      rw [nth_app e] at hT ⊢
      have := k hT
      rw [hlen]; omega
    · have : j = code.length := by omega
      subst this
      refine cod_parts.2 fun hT => ?_
      rw [nth_last] at hT
      exact absurd hT (by decide +kernel)
theorem rAt_take {rs : List Rel} {n i : Nat} (h : i < n) : rAt (rs.take n) i = rAt rs i := by simp [rAt, List.getD, h]
theorem rSym_take {rs : List Rel} {n i : Nat} (h : i < n) : rSym (rs.take n) i = rSym rs i := by simp [rSym, List.getD, h]
theorem may_less {nm : ByteArray} {code : List Int} {dA : Int} {nd : Nat} {ss : List Sym} {rs : List Rel} (h : MayBe nm code dA nd ss rs) (n : Nat) (hn : n ≤ rs.length) : MayBe nm code dA nd ss (rs.take n) := by
  obtain ⟨⟨a1, a2, a3, a4, a5, a6, a7⟩, h2, h3, h4⟩ := h
  have hlen : (rs.take n).length = n := by rw [List.length_take, Nat.min_eq_left hn]
  refine ⟨⟨a1, a2, a3, by omega, a5, a6, a7⟩, h2, fun j hj => ?_, h4⟩
  rw [hlen] at hj
  obtain ⟨b1, b2, b3, b4, b5, b6, b7⟩ := rel_parts.1 (h3 j (by omega))
  rw [rel_parts, rAt_take hj, rSym_take hj, rAt_take (show j - 1 < n by omega)]
  exact ⟨b1, b2, b3, b4, b5, b6, b7⟩
theorem rels_take {w : World} {O : Option Addr} {rs : List Rel} (h : RelsAt w O rs) (n : Nat) (hn : n ≤ rs.length) : RelsAt w O (rs.take n) := fun i hi => by
  have hi' : i < n := by rw [List.length_take, Nat.min_eq_left hn] at hi; exact hi
  rw [rAt_take hi', rSym_take hi']
  exact h i (by omega)
theorem of_app (s : ByteArray) (t : List Sym) : ∀ (l : List Sym) (k : Nat), ¬ ofFrom l s k = -1 → ofFrom (l ++ t) s k = ofFrom l s k
  | [], k, h => absurd rfl h
  | x :: l, k, h => by
    rw [List.cons_append, ofFrom, ofFrom]
    rw [ofFrom] at h
    by_cases e : (x.1.toList == s.toList) = true
    · rw [if_pos e, if_pos e]
    · rw [if_neg e] at h
      rw [if_neg e, if_neg e]
      exact of_app s t l (k + 1) h
theorem s_app {ss : List Sym} {x : Sym} {i : Nat} (h : i < ss.length) : (ss ++ [x]).getD i symD = ss.getD i symD := by simp [List.getD, h, List.getElem?_append_left h]
theorem s_last {ss : List Sym} {x : Sym} : (ss ++ [x]).getD ss.length symD = x := by simp [List.getD]
theorem twice_check {nm : ByteArray} {code : List Int} {dA : Int} {nd : Nat} {ss : List Sym} {rs : List Rel} (h : MayBe nm code dA nd ss rs) (p : Nat) (hp : p < ss.length) (hl : ss.length < 256) : checkC nm code dA nd (ss ++ [ss.getD p symD]) rs = (26, (ss.length : Int)) := by
  obtain ⟨⟨a1, a2, a3, a4, a5, a6, a7⟩, h2, h3, h4⟩ := h
  have hlen : (ss ++ [ss.getD p symD]).length = ss.length + 1 := by simp
  have e1 : sizeC (nameOK nm) code.length (ss ++ [ss.getD p symD]).length rs.length nd dA = (0, 0) := size_ok ⟨a1, a2, by omega, a4, a5, a6, a7⟩
  have hof : ∀ j, j < ss.length → ofS (ss ++ [ss.getD p symD]) (sName ss j) = j := fun j hj => by
    obtain ⟨_, b2, _⟩ := sym_parts.1 (h2 j hj)
    have : ¬ ofFrom ss (sName ss j) 0 = -1 := by have e : ofFrom ss (sName ss j) 0 = j := b2; rw [e]; omega
    unfold ofS
    rw [of_app _ _ _ _ this]; exact b2
  have z : ∀ j, j < ss.length → symE (ss ++ [ss.getD p symD]) code.length j = 0 := fun j hj => by
    obtain ⟨b1, b2, b3, b4, b5, b6, b7⟩ := sym_parts.1 (h2 j hj)
    have g := s_app (x := ss.getD p symD) hj
    have g1 : sName (ss ++ [ss.getD p symD]) j = sName ss j := by unfold sName; rw [g]
    have g2 : sKind (ss ++ [ss.getD p symD]) j = sKind ss j := by unfold sKind; rw [g]
    have g3 : sAt (ss ++ [ss.getD p symD]) j = sAt ss j := by unfold sAt; rw [g]
    rw [sym_parts, g1, g2, g3]
    exact ⟨b1, hof j hj, b3, b4, b5, b6, b7⟩
  have y : symE (ss ++ [ss.getD p symD]) code.length ss.length = 26 := by
    have g1 : sName (ss ++ [ss.getD p symD]) ss.length = sName ss p := by unfold sName; rw [s_last]
    obtain ⟨b1, _⟩ := sym_parts.1 (h2 p hp)
    unfold symE
    rw [g1, if_neg (by rw [b1]; simp), if_pos (by rw [hof p hp]; omega)]
  have e2 : symC (ss ++ [ss.getD p symD]) code.length = (26, (ss.length : Int)) := by
    unfold symC
    rw [first_hit (k := ss.length) (by omega) z (by rw [y]; omega), y]
  unfold checkC
  rw [e1, e2]; simp
theorem may_names {nm : ByteArray} {code : List Int} {dA : Int} {nd : Nat} {ss : List Sym} {rs : List Rel} (h : MayBe nm code dA nd ss rs) (i : Nat) (hi : i < ss.length) : ofS ss (sName ss i) = i ∧ nameOK (sName ss i) = true := by
  obtain ⟨b1, b2, _⟩ := sym_parts.1 (h.2.1 i hi)
  exact ⟨b2, b1⟩
theorem may_at {nm : ByteArray} {code : List Int} {dA : Int} {nd : Nat} {ss : List Sym} {rs : List Rel} (h : MayBe nm code dA nd ss rs) (i : Nat) (hi : i < rs.length) : atR rs (rAt rs i) = i := finds_at h.2.2.1 i hi





end Go.Proofs.Ytiihfkjgdhfmiaa

namespace Go.Proofs.Ytiihfkjgdhfmiaa
open Go.RowKit

open Go.Maps Go.WideMaps
/-- A row of N cells, its first ones written. -/
def fillA (xs : List Value) (z : Value) (N : Nat) : Array Value := (xs ++ List.replicate (N - xs.length) z).toArray
theorem fill_size {xs : List Value} {z : Value} {N : Nat} (h : xs.length ≤ N) : (fillA xs z N).size = N := by
  simp [fillA]; omega
theorem fill_set {xs : List Value} {z : Value} {N : Nat} (h : xs.length < N) (v : Value) : (fillA xs z N).setIfInBounds xs.length v = fillA (xs ++ [v]) z N := by
  unfold fillA
  obtain ⟨m, hm⟩ : ∃ m, N - xs.length = m + 1 := ⟨N - xs.length - 1, by omega⟩
  rw [hm, show N - (xs ++ [v]).length = m by simp; omega, List.replicate_succ]
  simp
theorem fill_at {xs : List Value} {z : Value} {N i : Nat} (h : i < xs.length) : (fillA xs z N)[i]? = xs[i]? := by
  simp [fillA, List.getElem?_append_left h]
theorem fill_z {xs : List Value} {z : Value} {N i : Nat} (h : xs.length ≤ i) (hi : i < N) : (fillA xs z N)[i]? = some z := by
  simp [fillA, List.getElem?_append_right h, List.getElem?_replicate]
  omega
theorem fill_all {xs : List Value} {z : Value} {N : Nat} (h : xs.length = N) : (fillA xs z N).toList = xs := by
  simp [fillA, h]
theorem made_one (N : Nat) (z : Value) : madeCells #[z] N = fillA [] z N := by
  apply Array.ext_getElem?
  intro i
  by_cases hi : i < N
  · rw [fill_z (Nat.zero_le _) hi]
    simp [madeCells, hi, Nat.mod_one]
  · rw [Array.getElem?_eq_none (by simp [madeCells]; omega), Array.getElem?_eq_none (by rw [fill_size (Nat.zero_le _)]; omega)]
theorem made_two (N : Nat) : madeCells #[.int .i64 0, .int .i64 0] N = fillA [] (.int .i64 0) N := by
  apply Array.ext_getElem?
  intro i
  by_cases hi : i < N
  · rw [fill_z (Nat.zero_le _) hi]
    have h : i % 2 = 0 ∨ i % 2 = 1 := by omega
    rcases h with h | h <;> simp [madeCells, hi, h]
  · rw [Array.getElem?_eq_none (by simp [madeCells]; omega), Array.getElem?_eq_none (by rw [fill_size (Nat.zero_le _)]; omega)]
theorem info41 : ∃ i, Try.prog.info? 41 = some i ∧ i.zero = some (.slice none 0 0) ∧ i.size = 1 ∧ i.bytes = 24 :=
  ⟨(Try.prog.info? 41).get (by kernel_rfl), by kernel_rfl, by kernel_rfl, by kernel_rfl, by kernel_rfl⟩
theorem info34 : ∃ i, Try.prog.info? 34 = some i ∧ i.zero = some (.agg #[.int .i64 0, .int .i64 0]) ∧ i.size = 2 ∧ i.bytes = 16 :=
  ⟨(Try.prog.info? 34).get (by kernel_rfl), by kernel_rfl, by kernel_rfl, by kernel_rfl, by kernel_rfl⟩
theorem make26 (n : Nat) (hn : n ≤ 64) (w : World) : (Instr.makeSlice 26 (.int .i64 n) (.int .i64 n)).run Try.prog w = .ok (.slice (some ⟨w.heap.size, 0, none⟩) n n) (w.alloc (.cells (fillA [] (.slice none 0 0) n) 41)) := by
  obtain ⟨i, hi, hz, hs, hb⟩ := info41
  have h := run_makeSlice (P := Try.prog) w 26 41 i _ Try.underlying26 hi hz .i64 .i64 n n (by omega) (by omega) (by rw [hs]; omega) (by rw [hb]; omega) (by omega)
  rw [hs, show ((n : Int)).toNat = n by omega, Nat.mul_one] at h
  rw [h, ← made_one n]
  rfl
theorem make41 (n : Nat) (hn : n ≤ 1048576) (w : World) : (Instr.makeSlice 41 (.int .i64 n) (.int .i64 n)).run Try.prog w = .ok (.slice (some ⟨w.heap.size, 0, none⟩) n n) (w.alloc (.cells (fillA [] (.int .i64 0) (n * 2)) 34)) := by
  obtain ⟨i, hi, hz, hs, hb⟩ := info34
  have h := run_makeSlice (P := Try.prog) w 41 34 i _ Try.underlying41 hi hz .i64 .i64 n n (by omega) (by omega) (by rw [hs]; omega) (by rw [hb]; omega) (by omega)
  rw [hs, show ((n : Int)).toNat = n by omega] at h
  rw [h, ← made_two (n * 2)]
  rfl
theorem cell_of {w : World} {g p : Nat} {cur : Array Value} {t : TypeId} {u : Value} (h : w.heap[g]? = some (.cells cur t (0, 0))) (hp : cur[p]? = some u) : w.cell? ⟨g, p, none⟩ = some u := by
  simp [World.cell?, h, hp]
theorem froz_of {w : World} {g p : Nat} {cur : Array Value} {t : TypeId} (h : w.heap[g]? = some (.cells cur t (0, 0))) : w.frozen? ⟨g, p, none⟩ = false := by
  simp [World.frozen?, h]
theorem blk_keep {w w1 : World} {g : Nat} {o : Obj} (h : w.heap[g]? = some o) (hb : Below w.heap.size w w1) : w1.heap[g]? = some o := by
  rw [hb.block g (Array.getElem?_eq_some_iff.1 h).1]; exact h
theorem blk_set {w : World} {g k : Nat} {o : Obj} {b : Nat} (h : w.heap[g]? = some o) (hb : g ≠ b) (u : Value) : (w.setCell ⟨b, k, none⟩ u).heap[g]? = some o := by
  rw [Below.heap_setCell _ _ _ _ hb]; exact h
theorem grown_set (w : World) (g k : Nat) (u : Value) : w.grownBy (w.setCell ⟨g, k, none⟩ u) (some g) := ⟨rfl, rfl, rfl, by simp [World.setCell], fun i _ hi => Below.heap_setCell _ _ _ _ (fun e => hi (by rw [e]))⟩
/-- The rows of the first k objects are written. -/
structure Fil (w : World) (B g : Nat) (l : List Ob) (k : Nat) (vs : List Value) : Prop where
  box : w.heap[B]? = some (.cells #[F0, F1 g, F1 g, F1 g] 68 (0, 0))
  len : vs.length = k
  bag : w.heap[B + 1]? = some (.cells (fillA vs (.slice none 0 0) l.length) 41 (0, 0))
  row : ∀ i, i < k → w.ownsRow B 34 2 (vn vs i) (ob l i).ss.length (dNews (rowT l i (ob l i).ss.length))
/-- .. and the first j places of the next. -/
structure RowF (w : World) (B g : Nat) (l : List Ob) (k j h : Nat) (vs : List Value) : Prop where
  box : w.heap[B]? = some (.cells #[F0, F1 g, F1 g, F1 g] 68 (0, 0))
  len : vs.length = k
  bag : w.heap[B + 1]? = some (.cells (fillA (vs ++ [.slice (some ⟨h, 0, none⟩) (ob l k).ss.length (ob l k).ss.length]) (.slice none 0 0) l.length) 41 (0, 0))
  row : ∀ i, i < k → w.ownsRow B 34 2 (vn vs i) (ob l i).ss.length (dNews (rowT l i (ob l i).ss.length))
  far : ∀ i, i < k → (vn vs i).ownBlock ≠ some h
  hB : B + 1 < h
  cur : w.heap[h]? = some (.cells (fillA (dNews (rowT l k j)) (.int .i64 0) ((ob l k).ss.length * 2)) 34 (0, 0))
theorem Fil.keep {w w1 : World} {B g k : Nat} {l : List Ob} {vs : List Value} (h : Fil w B g l k vs) (hb : Below w.heap.size w w1) : Fil w1 B g l k vs := ⟨blk_keep h.box hb, h.len, blk_keep h.bag hb, fun i hi => own_keep (h.row i hi) hb⟩
theorem RowF.keep {w w1 : World} {B g k j h : Nat} {l : List Ob} {vs : List Value} (H : RowF w B g l k j h vs) (hb : Below w.heap.size w w1) : RowF w1 B g l k j h vs := ⟨blk_keep H.box hb, H.len, blk_keep H.bag hb, fun i hi => own_keep (H.row i hi) hb, H.far, H.hB, blk_keep H.cur hb⟩
theorem dNews_len : ∀ l : List Rel, (dNews l).length = l.length * 2
  | [] => rfl
  | x :: l => by rw [dNews, List.length_cons, List.length_cons, dNews_len l, List.length_cons]; omega
theorem rowD_len (l : List Ob) (i j : Nat) : (dNews (rowT l i j)).length = j * 2 := by rw [dNews_len, rowT_len]
theorem lt_of_blk {w : World} {g : Nat} {o : Obj} (h : w.heap[g]? = some o) : g < w.heap.size := (Array.getElem?_eq_some_iff.1 h).1
/-- A row is made and put in its place. -/
theorem Fil.start {w : World} {B g k : Nat} {l : List Ob} {vs : List Value} (h : Fil w B g l k vs) (hk : k < l.length) : RowF ((w.alloc (.cells (fillA [] (.int .i64 0) ((ob l k).ss.length * 2)) 34)).setCell ⟨B + 1, k, none⟩ (.slice (some ⟨w.heap.size, 0, none⟩) (ob l k).ss.length (ob l k).ss.length)) B g l k 0 w.heap.size vs := by
  have hb := lb_alloc (Below.refl w.heap.size w) (.cells (fillA [] (.int .i64 0) ((ob l k).ss.length * 2)) 34)
  have hB := lt_of_blk h.bag
  refine ⟨blk_set (blk_keep h.box hb) (by omega) _, h.len, ?_, fun i hi => ?_, fun i hi => ?_, by omega, ?_⟩
  · rw [set_rowM (blk_keep h.bag hb), ← h.len, fill_set (by rw [h.len]; exact hk)]
  · refine own_apart (own_keep (h.row i hi) hb) (grown_set _ _ _ _) fun b hb1 hb2 => ?_
    obtain ⟨cur, hc⟩ := own_block (own_keep (h.row i hi) hb) hb1
    cases hb2
    rw [blk_keep h.bag hb] at hc
    simp at hc
  · intro e
    have := (own_lt (h.row i hi) e)
    omega
  · refine blk_set ?_ (by omega) _
    have := heap_alloc_new w (.cells (fillA [] (.int .i64 0) ((ob l k).ss.length * 2)) 34)
    exact this
/-- One place is written. -/
theorem RowF.set {w : World} {B g k j h : Nat} {l : List Ob} {vs : List Value} (H : RowF w B g l k j h vs) (hj : j < (ob l k).ss.length) {x y : Int} (e : standS l k j = (x, y)) : RowF ((w.setCell ⟨h, j * 2, none⟩ (.int .i64 x)).setCell ⟨h, j * 2 + 1, none⟩ (.int .i64 y)) B g l k (j + 1) h vs := by
  have hB := H.hB
  refine ⟨blk_set (blk_set H.box (by omega) _) (by omega) _, H.len, blk_set (blk_set H.bag (by omega) _) (by omega) _, fun i hi => ?_, H.far, H.hB, ?_⟩
  · have a : ∀ b, (vn vs i).ownBlock = some b → some h ≠ some b := fun b hb1 hb2 => H.far i hi (by rw [hb1]; exact hb2.symm)
    exact own_apart (own_apart (H.row i hi) (grown_set _ _ _ _) a) (grown_set _ _ _ _) a
  · rw [set_rowM (set_rowM H.cur _)]
    have e1 : (fillA (dNews (rowT l k j)) (.int .i64 0) ((ob l k).ss.length * 2)).setIfInBounds (j * 2) (.int .i64 x) = fillA (dNews (rowT l k j) ++ [.int .i64 x]) (.int .i64 0) ((ob l k).ss.length * 2) := by
      have := fill_set (xs := dNews (rowT l k j)) (z := .int .i64 0) (N := (ob l k).ss.length * 2) (by rw [rowD_len]; omega) (.int .i64 x)
      rwa [rowD_len] at this
    have e2 : (fillA (dNews (rowT l k j) ++ [.int .i64 x]) (.int .i64 0) ((ob l k).ss.length * 2)).setIfInBounds (j * 2 + 1) (.int .i64 y) = fillA (dNews (rowT l k j) ++ [.int .i64 x] ++ [.int .i64 y]) (.int .i64 0) ((ob l k).ss.length * 2) := by
      have := fill_set (xs := dNews (rowT l k j) ++ [.int .i64 x]) (z := .int .i64 0) (N := (ob l k).ss.length * 2) (by rw [List.length_append, rowD_len]; simp; omega) (.int .i64 y)
      rwa [List.length_append, rowD_len] at this
    rw [e1, e2, rowT_succ, dNews_snoc, e]
    simp
/-- A row is whole. -/
theorem RowF.done {w : World} {B g k h : Nat} {l : List Ob} {vs : List Value} (H : RowF w B g l k (ob l k).ss.length h vs) (hs : (ob l k).ss.length ≤ 1048576) : Fil w B g l (k + 1) (vs ++ [.slice (some ⟨h, 0, none⟩) (ob l k).ss.length (ob l k).ss.length]) := by
  refine ⟨H.box, by rw [List.length_append, H.len]; rfl, H.bag, fun i hi => ?_⟩
  by_cases hik : i < k
  · rw [vn_old _ _ _ (by rw [H.len]; exact hik)]
    exact H.row i hik
  · obtain rfl : i = vs.length := by rw [H.len]; omega
    rw [vn_last, H.len]
    have hB := H.hB
    refine ⟨rowD_len l k _, .inr ⟨h, (ob l k).ss.length, _, rfl, by omega, H.cur, Nat.le_refl _, by unfold maxLen; omega, ?_, ?_⟩⟩
    · rw [fill_size (by rw [rowD_len]; omega)]
    · rw [fill_all (rowD_len l k _), ← rowD_len l k _, List.take_length]
/-- All rows are whole. -/
theorem Fil.end {w : World} {B g : Nat} {l : List Ob} {vs : List Value} (h : Fil w B g l l.length vs) (hl : l.length ≤ 64) : RowsD w B 41 34 (.slice (some ⟨B + 1, 0, none⟩) l.length l.length) vs (rowsT l l.length) := by
  refine ⟨?_, fun i hi => ?_⟩
  · rw [rowsT_len]
    refine ⟨by rw [h.len, Nat.mul_one], .inr ⟨B + 1, l.length, _, rfl, by omega, h.bag, Nat.le_refl _, by unfold maxLen; omega, ?_, ?_⟩⟩
    · rw [fill_size (by rw [h.len]; exact Nat.le_refl _), Nat.mul_one]
    · rw [fill_all h.len, Nat.mul_one]
      rw [← h.len, List.take_length]
  · rw [rowsT_len] at hi
    rw [rowsT_at l hi, rowT_len]
    exact h.row i hi
/-- A symbol that is Global or Weak stands for something. -/
theorem find_own {l : List Ob} {i j : Nat} (hi : i < l.length) (hj : j < (ob l i).ss.length) (h : (sKind (ob l i).ss j == 1) = true ∨ (sKind (ob l i).ss j == 2) = true) : (findF (sName (ob l i).ss j) l).isSome = true := by
  have key : ∀ kd : Int, (sKind (ob l i).ss j == kd) = true → ∃ x, firstF (sName (ob l i).ss j) kd l l.length 0 = some x := fun kd hk => by
    have a := firstF_step (sName (ob l i).ss j) kd l hi hj
    rw [hitS_yes (by simp) hk] at a
    cases hf : firstF (sName (ob l i).ss j) kd l i j with
    | some x => rw [hf] at a; exact ⟨x, firstF_full hi (by omega) a⟩
    | none => rw [hf] at a; exact ⟨_, firstF_full hi (by omega) a⟩
  unfold findF
  rcases h with h | h
  · obtain ⟨x, e⟩ := key 1 h
    rw [e]; rfl
  · obtain ⟨x, e⟩ := key 2 h
    cases firstF (sName (ob l i).ss j) 1 l l.length 0 with
    | some y => rfl
    | none => rw [e]; rfl

end Go.Proofs.Ytiihfkjgdhfmiaa

namespace Go.Proofs.Ytiihfkjgdhfmiaa
open Go.RowKit

open Go.Maps Go.WideMaps
/-- An answer of resolveAll. -/
def AllP (l : List Ob) (w : World) (e : Ending) (w' : World) : Prop :=
  (∃ x, fstN (unO l) l.length = some x ∧ e = .returned (.tuple #[.slice none 0 0, .int .i64 x.1, .int .i64 x.2.1, .int .i64 x.2.2]) ∧ Below w.heap.size w w') ∨
  (fstN (unO l) l.length = none ∧ ∃ (O : Option Addr) (c : Nat) (vs : List Value), e = .returned (.tuple #[.slice O l.length c, .int .i64 0, .int .i64 0, .int .i64 0]) ∧ RowsD w' w.heap.size 41 34 (.slice O l.length c) vs (rowsT l l.length) ∧ Below w.heap.size w w')

set_option maxHeartbeats 8000000 in
set_option maxRecDepth 100000 in
theorem pall_any (A : Option Addr) (ca : Nat) (q : Nat → Pl) (l : List Ob) (b n g : Nat) (w : World) (hA : ObsIn w A q l) (hkn : Knows w b n (seenA l l.length 0)) (hc : w.cell? ⟨g, 0, none⟩ = some (.map (some b))) (hkd : ∀ i, i < l.length → ∀ j, j < (ob l i).ss.length → 0 ≤ sKind (ob l i).ss j ∧ sKind (ob l i).ss j ≤ 3) :
    Calls Try.prog 23 #[.slice A l.length ca, .agg #[F0, F1 g, F1 g, F1 g]] w (AllP l w) := by
  have hf := hA.few
  have hm1 := make26 l.length hf
  obtain ⟨w0, hw0⟩ : ∃ w0, w0 = (w.alloc (.cells #[F0, F1 g, F1 g, F1 g] 68)).alloc (.cells (fillA [] (.slice none 0 0) l.length) 41) := ⟨_, rfl⟩
  have HB0 : Hid (Below w.heap.size w w0) := by rw [Hid, hw0]; exact lb_alloc (lb_alloc (Below.refl _ _) _) _
  have HF0 : Hid (Fil w0 w.heap.size g l 0 []) := by
    rw [Hid, hw0]
    refine ⟨blk_keep (heap_alloc_new w _) (lb_alloc (Below.refl _ _) _), rfl, ?_, fun i hi => absurd hi (Nat.not_lt_zero _)⟩
    have := heap_alloc_new (w.alloc (.cells #[F0, F1 g, F1 g, F1 g] 68)) (.cells (fillA [] (.slice none 0 0) l.length) 41)
    simpa using this
  have HA : Hid (ObsIn w A q l) := hA
  have HKn : Hid (Knows w b n (seenA l l.length 0)) := hkn
  have HC : Hid (w.cell? ⟨g, 0, none⟩ = some (.map (some b))) := hc
  have HKd : Hid (∀ i, i < l.length → ∀ j, j < (ob l i).ss.length → 0 ≤ sKind (ob l i).ss j ∧ sKind (ob l i).ss j ≤ 3) := hkd
  clear hA hkn hc hkd
  go_enter Try.func23, Try.ntmps23
  go_wp2
  rw [← hw0]
  go_loopw [20] (fun i wr => ∃ (k : Nat) (vs : List Value), i = .int .i64 k ∧ k ≤ l.length ∧ Hid (Fil wr w.heap.size g l k vs) ∧ Hid (∀ i, i < k → unO l i = none) ∧ Hid (Below w.heap.size w wr)) (fun i _ => l.length - (intOf i).toNat)
  case atStart => exact ⟨0, [], rfl, Nat.zero_le _, HF0, fun i hi => absurd hi (Nat.not_lt_zero _), HB0⟩
  case round =>
    clear hm1
    obtain ⟨k, vs, rfl, hk, HF, HN, HB⟩ := hrel
    by_cases hkl : k < l.length
    · have hkl' : (k : Int) < (l.length : Int) := by omega
      obtain ⟨a, ea, x0, x1, x2, x3, x4, x5⟩ := HA.out.cells.six HB.out k hkl
      subst ea
      have hss := (HA.out.each k hkl).hs
      have hm2 := make41 (ob l k).ss.length hss
      obtain ⟨W, hW⟩ : ∃ W, W = wr.alloc (.cells #[.string (ob l k).nm, .slice (q k).A1 (ob l k).code.length (q k).c1, .int .i64 (ob l k).dA, .slice (q k).A2 (ob l k).data.length (q k).c2, .slice (q k).A3 (ob l k).ss.length (q k).c3, .slice (q k).A4 (ob l k).rs.length (q k).c4] 49) := ⟨_, rfl⟩
      have HFW : Hid (Fil W w.heap.size g l k vs) := by rw [Hid, hW]; exact HF.out.keep (lb_alloc (Below.refl _ _) _)
      have HBW : Hid (Below w.heap.size w W) := by rw [Hid, hW]; exact lb_alloc HB.out _
      have y0 : W.cell? ⟨wr.heap.size, 4, none⟩ = some (.slice (q k).A3 (ob l k).ss.length (q k).c3) := by rw [hW]; simp [go_sem]
      have HL : Hid (Below W.heap.size W (W.alloc (.cells (fillA [] (.int .i64 0) ((ob l k).ss.length * 2)) 34))) := lb_alloc (Below.refl _ _) _
      have HG : Hid ((W.alloc (.cells (fillA [] (.int .i64 0) ((ob l k).ss.length * 2)) 34)).heap[w.heap.size + 1]? = some (.cells (fillA vs (.slice none 0 0) l.length) 41 (0, 0))) := blk_keep HFW.out.bag HL.out
      have z0 : (W.alloc (.cells (fillA [] (.int .i64 0) ((ob l k).ss.length * 2)) 34)).cell? ⟨w.heap.size + 1, k, none⟩ = some (.slice none 0 0) := cell_of HG.out (fill_z (by rw [HFW.out.len]; exact Nat.le_refl _) hkl)
      have z1 : (W.alloc (.cells (fillA [] (.int .i64 0) ((ob l k).ss.length * 2)) 34)).frozen? ⟨w.heap.size + 1, k, none⟩ = false := froz_of HG.out
      obtain ⟨V, hV⟩ : ∃ V, V = (W.alloc (.cells (fillA [] (.int .i64 0) ((ob l k).ss.length * 2)) 34)).setCell ⟨w.heap.size + 1, k, none⟩ (.slice (some ⟨W.heap.size, 0, none⟩) (ob l k).ss.length (ob l k).ss.length) := ⟨_, rfl⟩
      have HFV : Hid (RowF V w.heap.size g l k 0 W.heap.size vs) := by rw [Hid, hV]; exact HFW.out.start hkl
      have HBV : Hid (Below w.heap.size w V) := by rw [Hid, hV]; exact (lb_alloc HBW.out _).setCell (Nat.le_succ _) _
      have y1 : V.cell? ⟨wr.heap.size, 4, none⟩ = some (.slice (q k).A3 (ob l k).ss.length (q k).c3) := by
        rw [hV]
        refine cell_grown (lkeep HL.out y0) (grown_set _ _ _ _) ?_
        have := lt_of_blk HF.out.bag
        show wr.heap.size ≠ w.heap.size + 1
        omega
      go_upto_region 5 with fail
      rw [← hW]
      have HW : Hid (W = _) := hW
      clear hW
      have HV : Hid (V = _) := hV
      clear hV
      go_upto_region 6 with fail
      rw [← HV.out]
      clear hm2 z0 z1 y0 HV HW x0 x1 x2 x3 x4 x5 HG HL
      go_wp2
      go_loopw [35] (fun i wr => ∃ (j : Nat), i = .int .i64 j ∧ j ≤ (ob l k).ss.length ∧ Hid (RowF wr w.heap.size g l k j W.heap.size vs) ∧ Hid (∀ m, m < j → unS l k m = none) ∧ Hid (Below w.heap.size w wr)) (fun i _ => (ob l k).ss.length - (intOf i).toNat)
      case atStart => exact ⟨0, rfl, Nat.zero_le _, HFV, fun i hi => absurd hi (Nat.not_lt_zero _), HBV⟩
      case round =>
        clear HF HFW HFV HB HBW HBV y1
        obtain ⟨j, rfl, hj, HF, HS, HB⟩ := hrel
        by_cases hjl : j < (ob l k).ss.length
        · have hjl' : (j : Int) < ((ob l k).ss.length : Int) := by omega
          obtain ⟨a3, e3, s0, s1, s2⟩ := (HA.out.each k hkl).sy j hjl
          have t0 := lkeep HB.out s0
          have t1 : wr.cell? ⟨(a3.add (j * 3)).block, (a3.add (j * 3)).off + 1, none⟩ = some (.int .i8 (sKind (ob l k).ss j)) := lkeep HB.out s1
          have t2 : wr.cell? ⟨(a3.add (j * 3)).block, (a3.add (j * 3)).off + 2, none⟩ = some (.int .i64 (sAt (ob l k).ss j)) := lkeep HB.out s2
          rw [e3]
          clear s0 s1 s2
          obtain ⟨kd, hkd⟩ : ∃ kd, kd = sKind (ob l k).ss j := ⟨_, rfl⟩
          have HKD : Hid (kd = sKind (ob l k).ss j) := hkd
          have hk03 := HKd.out k hkl j hjl
          rw [← hkd] at t1 hk03
          clear hkd
          by_cases hk0 : kd = 0
          · subst hk0
            clear hk03
            obtain ⟨W5, hW5⟩ : ∃ W5, W5 = wr.alloc (.cells #[.string (sName (ob l k).ss j), .int .i8 0, .int .i64 (sAt (ob l k).ss j)] 52) := ⟨_, rfl⟩
            have c0 : W5.cell? ⟨wr.heap.size, 0, none⟩ = some (.string (sName (ob l k).ss j)) := by rw [hW5]; simp [go_sem]
            have c1 : W5.cell? ⟨wr.heap.size, 1, none⟩ = some (.int .i8 0) := by rw [hW5]; simp [go_sem]
            have c2 : W5.cell? ⟨wr.heap.size, 2, none⟩ = some (.int .i64 (sAt (ob l k).ss j)) := by rw [hW5]; simp [go_sem]
            have cB : W5.cell? ⟨w.heap.size, 0, none⟩ = some (.func (.func 37) #[] #[]) := by rw [hW5]; exact lkeep (lb_alloc (Below.refl _ _) _) (cell_of HF.out.box rfl)
            have HBK : Hid (Below w.heap.size w W5) := by rw [Hid, hW5]; exact lb_alloc HB.out _
            have HF5 : Hid (RowF W5 w.heap.size g l k j W.heap.size vs) := by rw [Hid, hW5]; exact HF.out.keep (lb_alloc (Below.refl _ _) _)
            have hL := lb_alloc (Below.refl W5.heap.size W5) (.cells #[.int .i64 0, .int .i64 0] 34)
            have d0 := lkeep hL c0
            have d1 := lkeep hL c1
            have d2 := lkeep hL c2
            have dB := lkeep hL cB
            clear hL
            have C := fown_any k (sName (ob l k).ss j) 0 (sAt (ob l k).ss j)
            go_upto_region 9 with fail
            rw [← hW5]
            clear hW5 HF HB
            go_cut [13, 14] (fun x y wx => ∃ p, x = .pointer (some ⟨p, 0, none⟩) ∧ y = .bool true ∧ wx.cell? ⟨p, 0, none⟩ = some (.int .i64 k) ∧ wx.cell? ⟨p, 1, none⟩ = some (.int .i64 (sAt (ob l k).ss j)) ∧ Hid (Below W5.heap.size W5 wx))
            case first =>
              have hWW := Below.refl W5.heap.size W5
              go_region_held3 (fun W' => Below W5.heap.size W5 W' ∧ W'.cell? ⟨wr.heap.size, 0, none⟩ = some (.string (sName (ob l k).ss j)) ∧ W'.cell? ⟨wr.heap.size, 1, none⟩ = some (.int .i8 0) ∧ W'.cell? ⟨wr.heap.size, 2, none⟩ = some (.int .i64 (sAt (ob l k).ss j)) ∧ W'.cell? ⟨w.heap.size, 0, none⟩ = some (.func (.func 37) #[] #[]))
                (first | (refine ⟨?_, lkeep ?_ c0, lkeep ?_ c1, lkeep ?_ c2, lkeep ?_ cB⟩ <;> ((repeat (first | assumption | exact (‹Below _ _ _ ∧ _›).1 | apply Below.drew | apply lb_alloc)); done)))
                (first | (go_at_call 37; refine (C _).mono ?_; rintro e w1 ⟨rfl, rfl⟩))
              all_goals (go_wp2_with fail; go_meet; refine ⟨_, rfl, rfl, by simp [go_sem], by simp [go_sem], ?_⟩; unfold Hid; repeat (first | exact Below.refl _ _ | apply Below.drew | apply lb_alloc))
            case rest =>
              obtain ⟨p, rfl, rfl, p0, p1, HBc⟩ := hcut
              clear c0 c1 c2 cB d0 d1 d2 dB C
              have HFc : Hid (RowF wc w.heap.size g l k j W.heap.size vs) := HF5.out.keep HBc.out
              have HBw : Hid (Below w.heap.size w wc) := lb_trans HBK.out HBc.out
              have HUN : Hid (unS l k j = none) := unS_no (Or.inl (by rw [← HKD.out]; rfl))
              have HST : Hid (standS l k j = ((k : Int), sAt (ob l k).ss j)) := by unfold Hid standS; rw [← HKD.out]; rfl
              have b0 : wc.cell? ⟨w.heap.size + 1, k, none⟩ = some (.slice (some ⟨W.heap.size, 0, none⟩) (ob l k).ss.length (ob l k).ss.length) := cell_of HFc.out.bag (by rw [fill_at (by rw [List.length_append, HFc.out.len]; simp), ← HFc.out.len]; simp)
              have q0 : wc.cell? ⟨W.heap.size, j * 2, none⟩ = some (.int .i64 0) := cell_of HFc.out.cur (fill_z (by rw [rowD_len]; exact Nat.le_refl _) (by omega))
              have q1 : wc.cell? ⟨W.heap.size, j * 2 + 1, none⟩ = some (.int .i64 0) := cell_of HFc.out.cur (fill_z (by rw [rowD_len]; omega) (by omega))
              have q2 : wc.frozen? ⟨W.heap.size, j * 2, none⟩ = false := froz_of HFc.out.cur
              have q3 : wc.frozen? ⟨W.heap.size, j * 2 + 1, none⟩ = false := froz_of HFc.out.cur
              have HF6 : Hid (RowF ((wc.setCell ⟨W.heap.size, j * 2, none⟩ (.int .i64 k)).setCell ⟨W.heap.size, j * 2 + 1, none⟩ (.int .i64 (sAt (ob l k).ss j))) w.heap.size g l k (j + 1) W.heap.size vs) := HFc.out.set hjl HST.out
              have HB6 : Hid (Below w.heap.size w ((wc.setCell ⟨W.heap.size, j * 2, none⟩ (.int .i64 k)).setCell ⟨W.heap.size, j * 2 + 1, none⟩ (.int .i64 (sAt (ob l k).ss j)))) := (HBw.out.setCell (by have := HFc.out.hB; show w.heap.size ≤ W.heap.size; omega) _).setCell (by have := HFc.out.hB; show w.heap.size ≤ W.heap.size; omega) _
              have HS2 : Hid (∀ m, m < j + 1 → unS l k m = none) := fst_step HS.out HUN.out
              go_upto_region 12 with fail
              go_region_with (fail)
              all_goals (go_wp2_with fail; go_roundw; (case rel => exact ⟨j + 1, by go_num, by omega, RowF.keep HF6.out (by repeat (first | exact Below.refl _ _ | apply Below.drew)), HS2, lb_trans HB6.out (by repeat (first | exact Below.refl _ _ | apply Below.drew))⟩); (case measure => simp [intOf]; omega))
          · have hk1 : 0 ≤ kd := by omega
            have hk4 : kd < 4 := by omega
            have hbx : (#[F0, F1 g, F1 g, F1 g] : Array Value)[kd.toNat]? = some (F1 g) := by
              rcases (show kd = 1 ∨ kd = 2 ∨ kd = 3 by omega) with rfl | rfl | rfl <;> rfl
            obtain ⟨W5, hW5⟩ : ∃ W5, W5 = wr.alloc (.cells #[.string (sName (ob l k).ss j), .int .i8 kd, .int .i64 (sAt (ob l k).ss j)] 52) := ⟨_, rfl⟩
            have c0 : W5.cell? ⟨wr.heap.size, 0, none⟩ = some (.string (sName (ob l k).ss j)) := by rw [hW5]; simp [go_sem]
            have c1 : W5.cell? ⟨wr.heap.size, 1, none⟩ = some (.int .i8 kd) := by rw [hW5]; simp [go_sem]
            have c2 : W5.cell? ⟨wr.heap.size, 2, none⟩ = some (.int .i64 (sAt (ob l k).ss j)) := by rw [hW5]; simp [go_sem]
            have cB : W5.cell? ⟨w.heap.size, kd.toNat, none⟩ = some (.func (.func 38) #[] #[.pointer (some ⟨g, 0, none⟩)]) := by rw [hW5]; exact lkeep (lb_alloc (Below.refl _ _) _) (cell_of HF.out.box hbx)
            have HBK : Hid (Below w.heap.size w W5) := by rw [Hid, hW5]; exact lb_alloc HB.out _
            have HF5 : Hid (RowF W5 w.heap.size g l k j W.heap.size vs) := by rw [Hid, hW5]; exact HF.out.keep (lb_alloc (Below.refl _ _) _)
            have hL := lb_alloc (Below.refl W5.heap.size W5) (.cells #[.int .i64 0, .int .i64 0] 34)
            have d0 := lkeep hL c0
            have d1 := lkeep hL c1
            have d2 := lkeep hL c2
            have dB := lkeep hL cB
            clear hL
            have C : ∀ wx, Below w.heap.size w wx → _ := fun wx hx => fnamed_any k (sName (ob l k).ss j) kd (sAt (ob l k).ss j) b n g (seenA l l.length 0) wx (HKn.out.keep hx) ((HA.out.each k hkl).hN j) (lkeep hx HC.out)
            obtain ⟨v, hv⟩ : ∃ v, v = seenA l l.length 0 (sName (ob l k).ss j) := ⟨_, rfl⟩
            rw [← hv] at C
            have HT : Hid (Tells v (findF (sName (ob l k).ss j) l)) := by rw [Hid, hv]; exact tells_full _ l
            clear hv
            go_upto_region 9 with fail
            rw [← hW5]
            clear hW5 HF HB
            go_cut [13, 14] (fun x y wx => ∃ p, x = .pointer (some ⟨p, 0, none⟩) ∧ y = .bool v.isSome ∧ wx.cell? ⟨p, 0, none⟩ = some (.int .i64 (mI v)) ∧ wx.cell? ⟨p, 1, none⟩ = some (.int .i64 (mA v)) ∧ Hid (Below W5.heap.size W5 wx))
            case first =>
              have hWW := Below.refl W5.heap.size W5
              go_region_held3 (fun W' => Below W5.heap.size W5 W' ∧ W'.cell? ⟨wr.heap.size, 0, none⟩ = some (.string (sName (ob l k).ss j)) ∧ W'.cell? ⟨wr.heap.size, 1, none⟩ = some (.int .i8 kd) ∧ W'.cell? ⟨wr.heap.size, 2, none⟩ = some (.int .i64 (sAt (ob l k).ss j)) ∧ W'.cell? ⟨w.heap.size, kd.toNat, none⟩ = some (.func (.func 38) #[] #[.pointer (some ⟨g, 0, none⟩)]))
                (first | (refine ⟨?_, lkeep ?_ c0, lkeep ?_ c1, lkeep ?_ c2, lkeep ?_ cB⟩ <;> ((repeat (first | assumption | exact (‹Below _ _ _ ∧ _›).1 | apply Below.drew | apply lb_alloc)); done)))
                (first | (go_at_call 38; refine (C _ (by repeat (first | exact HBK.out | exact lb_trans HBK.out (‹Below _ _ _ ∧ _›).1 | apply Below.drew | apply lb_alloc))).mono ?_; rintro e w1 ⟨rfl, rfl⟩))
              all_goals (go_wp2_with fail; go_meet; refine ⟨_, rfl, rfl, by simp [go_sem], by simp [go_sem], ?_⟩; unfold Hid; repeat (first | exact Below.refl _ _ | apply Below.drew | apply lb_alloc))
            case rest =>
              obtain ⟨p, rfl, rfl, p0, p1, HBc⟩ := hcut
              clear c0 c1 c2 cB d0 d1 d2 dB C
              have HFc : Hid (RowF wc w.heap.size g l k j W.heap.size vs) := HF5.out.keep HBc.out
              have HBw : Hid (Below w.heap.size w wc) := lb_trans HBK.out HBc.out
              cases hv : v.isSome
              · have HUN : Hid (unS l k j = some (40, (k : Int), (j : Int))) := by
                  have hfi : (findF (sName (ob l k).ss j) l).isSome = false := by rw [← HT.out.1]; exact hv
                  refine unS_yes ?_ hfi
                  rw [← HKD.out]
                  rcases (show kd = 1 ∨ kd = 2 ∨ kd = 3 by omega) with e | e | e
                  · have := find_own hkl hjl (Or.inl (by rw [← HKD.out, e]; rfl))
                    rw [hfi] at this; cases this
                  · have := find_own hkl hjl (Or.inr (by rw [← HKD.out, e]; rfl))
                    rw [hfi] at this; cases this
                  · rw [e]; rfl
                have HX : Hid (fstN (unO l) l.length = some (40, (k : Int), (j : Int))) := fst_hit HN.out (fst_hit HS.out HUN.out hjl) hkl
                go_wp2
                refine bodyPost_ret (v := .tuple #[.slice none 0 0, .int .i64 40, .int .i64 k, .int .i64 j]) (by simp [results, Try.results23, go_sem]) rfl (Or.inl ⟨_, HX.out, rfl, HBw.out⟩)
              · have HUN : Hid (unS l k j = none) := unS_no (Or.inr (by rw [← HT.out.1]; exact hv))
                have HST : Hid (standS l k j = ((mI v : Int), mA v)) := by
                  unfold Hid standS
                  rw [← HKD.out, if_pos (by simpa using hk0), HT.out.2.1, HT.out.2.2]
                have b0 : wc.cell? ⟨w.heap.size + 1, k, none⟩ = some (.slice (some ⟨W.heap.size, 0, none⟩) (ob l k).ss.length (ob l k).ss.length) := cell_of HFc.out.bag (by rw [fill_at (by rw [List.length_append, HFc.out.len]; simp), ← HFc.out.len]; simp)
                have q0 : wc.cell? ⟨W.heap.size, j * 2, none⟩ = some (.int .i64 0) := cell_of HFc.out.cur (fill_z (by rw [rowD_len]; exact Nat.le_refl _) (by omega))
                have q1 : wc.cell? ⟨W.heap.size, j * 2 + 1, none⟩ = some (.int .i64 0) := cell_of HFc.out.cur (fill_z (by rw [rowD_len]; omega) (by omega))
                have q2 : wc.frozen? ⟨W.heap.size, j * 2, none⟩ = false := froz_of HFc.out.cur
                have q3 : wc.frozen? ⟨W.heap.size, j * 2 + 1, none⟩ = false := froz_of HFc.out.cur
                have HF6 : Hid (RowF ((wc.setCell ⟨W.heap.size, j * 2, none⟩ (.int .i64 (mI v))).setCell ⟨W.heap.size, j * 2 + 1, none⟩ (.int .i64 (mA v))) w.heap.size g l k (j + 1) W.heap.size vs) := HFc.out.set hjl HST.out
                have HB6 : Hid (Below w.heap.size w ((wc.setCell ⟨W.heap.size, j * 2, none⟩ (.int .i64 (mI v))).setCell ⟨W.heap.size, j * 2 + 1, none⟩ (.int .i64 (mA v)))) := (HBw.out.setCell (by have := HFc.out.hB; show w.heap.size ≤ W.heap.size; omega) _).setCell (by have := HFc.out.hB; show w.heap.size ≤ W.heap.size; omega) _
                have HS2 : Hid (∀ m, m < j + 1 → unS l k m = none) := fst_step HS.out HUN.out
                go_upto_region 12 with fail
                go_region_with (fail)
                all_goals (go_wp2_with fail; go_roundw; (case rel => exact ⟨j + 1, by go_num, by omega, RowF.keep HF6.out (by repeat (first | exact Below.refl _ _ | apply Below.drew)), HS2, lb_trans HB6.out (by repeat (first | exact Below.refl _ _ | apply Below.drew))⟩); (case measure => simp [intOf]; omega))
        · have hjl' : ¬ (j : Int) < ((ob l k).ss.length : Int) := by omega
          obtain rfl : j = (ob l k).ss.length := by omega
          have HF2 : Hid (Fil wr w.heap.size g l (k + 1) (vs ++ [.slice (some ⟨W.heap.size, 0, none⟩) (ob l k).ss.length (ob l k).ss.length])) := HF.out.done hss
          have HU : Hid (unO l k = none) := fst_none HS.out
          go_wp2
          go_roundw
          case rel => exact ⟨k + 1, _, by go_num, by omega, HF2, fst_step HN.out HU.out, HB⟩
          case measure => simp [intOf]; omega
    · have hkl' : ¬ (k : Int) < (l.length : Int) := by omega
      obtain rfl : k = l.length := by omega
      have HX : Hid (fstN (unO l) l.length = none) := fst_none HN.out
      have HR : Hid (RowsD wr w.heap.size 41 34 (.slice (some ⟨w.heap.size + 1, 0, none⟩) l.length l.length) vs (rowsT l l.length)) := HF.out.end hf
      go_wp2
      refine bodyPost_ret (v := .tuple #[.slice (some ⟨w.heap.size + 1, 0, none⟩) l.length l.length, .int .i64 0, .int .i64 0, .int .i64 0]) (by simp [results, Try.results23, go_sem]) rfl (Or.inr ⟨HX.out, _, _, _, rfl, HR.out, HB.out⟩)

end Go.Proofs.Ytiihfkjgdhfmiaa
