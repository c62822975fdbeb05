/-
  A graph with a hub has the same least sets; sets that grow while blocks wait; plain. Blocks that leap; the text in which the first leap alone is left has the same blocks and edges; the lists with the hub; plain. Lists of lists that are written over; the lists of flow at the beginning. leaping of package live: the blocks that end in Calls or Go, rising; images of at most 1048576 words.
-/
import Derived.Test.YtmlhnnmelopleaaGreatDoorProg
import Derived.WalkKit
import Derived.WalkSpells
import Derived.WalkLawsBesides
import Derived.RowKit3
import Derived.Below
import Derived.Deep.QuietTactic
import Derived.BigQuiet
import Derived.WalkSmall
import Derived.Laws.Rows
import Derived.Test.YtmlhnnmelopleaaGreatDoorPs20
import Derived.Test.YtmlhnnmelopleaaGreatDoorPs12
import Derived.Test.YtmlhnnmelopleaaGreatDoorPs21
import Derived.Test.YtmlhnnmelopleaaGreatDoorPs23
import Derived.Test.YtmlhnnmelopleaaGreatDoorPs22
namespace Go.Proofs.YtmlhnnmelopleaaGreatDoor
open Go.RowKit

/-- A graph with a hub: what leaps goes to the hub alone, and the hub goes where each of them went. -/
structure Hub (L M : List (List Int)) (n : Nat) (lp : Nat → Bool) : Prop where
  len : M.length = n + 1
  plain : ∀ k, k < n → lp k = false → rowZ M k = rowZ L k
  leap : ∀ k, k < n → lp k = true → rowZ M k = [(n : Int)]
  hub : ∀ k, k < n → lp k = true → rowZ M n = rowZ L k
  inn : ∀ t, t < (rowZ M n).length → 0 ≤ nth (rowZ M n) t ∧ nth (rowZ M n) t < (n : Int)
/-- What the blocks read; the hub behind them nothing. -/
def hubN (R : Nat → Nat) (n : Nat) (j : Nat) : Nat := if j < n then R j else 0
theorem hubN_in {R : Nat → Nat} {n j : Nat} (h : j < n) : hubN R n j = R j := if_pos h
theorem hubN_hub (R : Nat → Nat) (n : Nat) : hubN R n n = 0 := if_neg (by omega)
theorem hubN_lt {R : Nat → Nat} (n : Nat) (h : ∀ j, R j < 65536) (j : Nat) : hubN R n j < 65536 := by
  unfold hubN
  split
  · exact h j
  · omega
theorem orE_fit {F G : Int → Nat} {l : List Int} : ∀ {k : Nat}, (∀ t, t < k → F (nth l t) = G (nth l t)) → orE F l k = orE G l k
  | 0, _ => rfl
  | k + 1, h => by
    show orE F l k ||| F (nth l k) = orE G l k ||| G (nth l k)
    rw [orE_fit fun t ht => h t (by omega), h k (by omega)]
theorem orE_one (F : Int → Nat) (x : Int) : orE F [x] [x].length = F x := by
  show (0 : Nat) ||| F (nth [x] 0) = F x
  rw [Nat.zero_or]; rfl
theorem orE_in {F : Int → Nat} {l : List Int} : ∀ {k t : Nat}, t < k → SubN (F (nth l t)) (orE F l k)
  | 0, t, h => by omega
  | k + 1, t, h => fun r x => by
    show (orE F l k ||| F (nth l k)).testBit r = true
    rw [Nat.testBit_or, Bool.or_eq_true]
    by_cases e : t = k
    · subst e; exact .inr x
    · exact .inl (orE_in (show t < k by omega) r x)
theorem orE_out {F : Int → Nat} {l : List Int} {b : Nat} : ∀ {k : Nat}, (∀ t, t < k → SubN (F (nth l t)) b) → SubN (orE F l k) b
  | 0, _ => SubN.zero b
  | k + 1, h => fun r x => by
    have x : (orE F l k ||| F (nth l k)).testBit r = true := x
    rw [Nat.testBit_or, Bool.or_eq_true] at x
    rcases x with x | x
    · exact orE_out (fun t ht => h t (by omega)) r x
    · exact h k (by omega) r x
theorem orE_ltL {F : Int → Nat} {l : List Int} : ∀ {k : Nat}, (∀ t, t < k → F (nth l t) < 65536) → orE F l k < 65536
  | 0, _ => by show 0 < 65536; decide
  | k + 1, h => orN_lt (orE_ltL fun t ht => h t (by omega)) (h k (by omega))
theorem insN_hub {o : Nat} (h : o < 65536) : insN 0 0 o = o := by
  apply Nat.eq_of_testBit_eq
  intro i
  unfold insN
  rw [Nat.zero_or, lessN_bit (by omega), Nat.zero_testBit]
  by_cases e : i < 16
  · simp [e]
  · have : o.testBit i = false := Nat.testBit_lt_two_pow (Nat.lt_of_lt_of_le h (Nat.pow_le_pow_right (n := 2) (by omega) (show 16 ≤ i by omega)))
    rw [this]; rfl
theorem insN_all {r w o : Nat} (hr : r < 65536) : insN r w o < 65536 := orN_lt hr (Nat.lt_of_le_of_lt Nat.and_le_right (by omega))
section
variable {L M : List (List Int)} {n : Nat} {lp : Nat → Bool} {R W : Nat → Nat} {F G : Int → Nat}
theorem nth_back {l : List Int} {t : Nat} {n : Nat} (h : 0 ≤ nth l t ∧ nth l t < (n : Int)) : ∃ j : Nat, j < n ∧ nth l t = (j : Int) := ⟨(nth l t).toNat, by omega, by omega⟩
theorem Hub.sol (h : Hub L M n lp) (hR : ∀ j, R j < 65536) (hs : Sol M (hubN R n) (hubN W n) (n + 1) F G) : Sol L R W n F G := by
  have hF : ∀ j : Nat, j < n + 1 → F (j : Int) < 65536 := fun j hj => by
    rw [hs.inn j hj]
    exact insN_all (hubN_lt n hR j)
  have hGn : G (n : Int) < 65536 := by
    rw [hs.out n (by omega)]
    refine orE_ltL fun t ht => ?_
    obtain ⟨j, hj, e⟩ := nth_back (h.inn t ht)
    rw [e]; exact hF j (by omega)
  refine ⟨fun j hj => ?_, fun j hj => ?_⟩
  · cases e : lp j with
    | false => rw [hs.out j (by omega), h.plain j hj e]
    | true =>
      rw [hs.out j (by omega), h.leap j hj e, orE_one, hs.inn n (by omega), hubN_hub, hubN_hub, insN_hub hGn, hs.out n (by omega), h.hub j hj e]
  · rw [hs.inn j (by omega), hubN_in hj, hubN_in hj]
theorem Hub.low (h : Hub L M n lp) (hR : ∀ j, R j < 65536) (hI : Inn L n) (hs : Sol L R W n F G) : ∃ F' G', Sol M (hubN R n) (hubN W n) (n + 1) F' G' ∧ ∀ j : Nat, j < n → F' (j : Int) = F (j : Int) ∧ G' (j : Int) = G (j : Int) := by
  have hF : ∀ j : Nat, j < n → F (j : Int) < 65536 := fun j hj => by
    rw [hs.inn j hj]
    exact insN_all (hR j)
  have hb : orE F (rowZ M n) (rowZ M n).length < 65536 := orE_ltL fun t ht => by
    obtain ⟨j, hj, e⟩ := nth_back (h.inn t ht)
    rw [e]; exact hF j hj
  generalize hv : orE F (rowZ M n) (rowZ M n).length = v at hb
  have hold : ∀ (H : Int → Nat) (j : Nat), j < n → putS H (n : Int) v (j : Int) = H (j : Int) := fun H j hj => putS_else _ _ (by omega)
  have hor : ∀ l : List Int, (∀ t, t < l.length → 0 ≤ nth l t ∧ nth l t < (n : Int)) → orE (putS F (n : Int) v) l l.length = orE F l l.length := fun l hl => orE_fit fun t ht => by
    obtain ⟨j, hj, e⟩ := nth_back (hl t ht)
    rw [e]; exact hold F j hj
  refine ⟨putS F (n : Int) v, putS G (n : Int) v, ⟨fun j hj => ?_, fun j hj => ?_⟩, fun j hj => ⟨hold F j hj, hold G j hj⟩⟩
  · by_cases e : j = n
    · subst e
      rw [putS_here, hor _ h.inn, hv]
    · have hj : j < n := by omega
      rw [hold G j hj]
      cases e : lp j with
      | false => rw [h.plain j hj e, hor _ (fun t ht => hI j t hj ht)]; exact hs.out j hj
      | true => rw [h.leap j hj e, orE_one, putS_here, ← hv, h.hub j hj e]; exact hs.out j hj
  · by_cases e : j = n
    · subst e
      rw [putS_here, putS_here, hubN_hub, hubN_hub, insN_hub hb]
    · have hj : j < n := by omega
      rw [hold F j hj, hold G j hj, hubN_in hj, hubN_in hj]
      exact hs.inn j hj
/-- The least sets of the graph with the hub are those of the graph. -/
theorem Hub.lst (h : Hub L M n lp) (hR : ∀ j, R j < 65536) (hI : Inn L n) (hs : Lst M (hubN R n) (hubN W n) (n + 1) F G) : Lst L R W n F G := by
  refine ⟨h.sol hR hs.sol, fun F' G' k j hj => ?_⟩
  obtain ⟨F2, G2, k2, e⟩ := h.low hR hI k
  have := hs.low F2 G2 k2 j (by omega)
  rw [(e j hj).1, (e j hj).2] at this
  exact this
end
/-- Sets that grow, and which blocks wait. -/
structure Wk (M : List (List Int)) (R W : Nat → Nat) (N : Nat) (F G : Int → Nat) (S : Int → Bool) : Prop where
  grw : Grw M R W N F G
  done : ∀ k : Nat, k < N → S (k : Int) = false → F (k : Int) = insN (R k) (W k) (G (k : Int)) ∧ ∀ j : Nat, j < N → (k : Int) ∈ rowZ M j → SubN (F (k : Int)) (G (j : Int))
/-- In the midst of one: m of those that come to it have been told. -/
structure Md (M : List (List Int)) (R W : Nat → Nat) (N : Nat) (l : List Int) (k m : Nat) (F G : Int → Nat) (S : Int → Bool) : Prop where
  grw : Grw M R W N F G
  done : ∀ j : Nat, j < N → j ≠ k → S (j : Int) = false → F (j : Int) = insN (R j) (W j) (G (j : Int)) ∧ ∀ i : Nat, i < N → (j : Int) ∈ rowZ M i → SubN (F (j : Int)) (G (i : Int))
  here : S (k : Int) = false → F (k : Int) = insN (R k) (W k) (G (k : Int))
  told : ∀ t, t < m → SubN (F (k : Int)) (G (nth l t))
section
variable {M : List (List Int)} {R W : Nat → Nat} {N : Nat} {F G : Int → Nat} {S S' : Int → Bool} {l : List Int} {k m : Nat}
theorem mem_at {l : List Int} {x : Int} (h : x ∈ l) : ∃ t, t < l.length ∧ nth l t = x := by
  obtain ⟨t, ht, e⟩ := List.getElem_of_mem h
  refine ⟨t, ht, ?_⟩
  unfold nth
  rw [List.getD_eq_getElem?_getD, List.getElem?_eq_getElem ht, e]; rfl
theorem Wk.zero (hS : ∀ k : Nat, k < N → S (k : Int) = true) : Wk M R W N zeroS zeroS S := ⟨Grw.zero M R W N, fun k hk e => by rw [hS k hk] at e; cases e⟩
theorem Wk.fit (h : Wk M R W N F G S) (e : ∀ k : Nat, k < N → S (k : Int) = S' (k : Int)) : Wk M R W N F G S' := ⟨h.grw, fun k hk x => h.done k hk (by rw [e k hk]; exact x)⟩
/-- One is taken out: what is live ahead of it is told anew. -/
theorem Wk.take (h : Wk M R W N F G S) (hR : ∀ j, R j < 65536) (hW : ∀ j, W j < 65536) (hk : k < N) (hSk : S (k : Int) = true) (e : ∀ j : Nat, j < N → j ≠ k → S' (j : Int) = S (j : Int)) :
    Md M R W N l k 0 (putS F (k : Int) (insN (R k) (W k) (G (k : Int)))) G S' := by
  have hup : ∀ y, SubN (F y) (putS F (k : Int) (insN (R k) (W k) (G (k : Int))) y) := fun y => by
    by_cases e : y = (k : Int)
    · rw [e, putS_here]; exact h.grw.fst k hk
    · rw [putS_else _ _ e]; exact SubN.refl _
  refine ⟨⟨fun x => ⟨?_, (h.grw.lt x).2⟩, fun j hj => ?_, fun j hj => ?_, fun F' G' hs j hj => ?_⟩, fun j hj hne hS => ?_, fun _ => by rw [putS_here], fun t ht => by omega⟩
  · unfold putS
    split
    · exact insN_lt (hR k) (h.grw.lt _).2
    · exact (h.grw.lt x).1
  · by_cases e : j = k
    · rw [e, putS_here]; exact SubN.refl _
    · rw [putS_else _ _ (by omega)]; exact h.grw.fst j hj
  · exact (h.grw.snd j hj).trans (orE_sub fun t _ => hup _)
  · have := h.grw.top F' G' hs j hj
    by_cases e : j = k
    · subst e
      rw [putS_here]
      refine ⟨?_, this.2⟩
      rw [hs.inn j hj]
      exact insN_sub (hW j) this.2
    · rw [putS_else _ _ (by omega)]; exact this
  · rw [e j hj hne] at hS
    rw [putS_else _ _ (by omega)]
    exact h.done j hj hS
/-- One more that comes to it has all that is live ahead of it already. -/
theorem Md.skip (h : Md M R W N l k m F G S) (e : SubN (F (k : Int)) (G (nth l m))) : Md M R W N l k (m + 1) F G S := ⟨h.grw, h.done, h.here, fun t ht => by
  by_cases x : t = m
  · subst x; exact e
  · exact h.told t (by omega)⟩
/-- One more that comes to it grows, and waits. -/
theorem Md.grow (h : Md M R W N l k m F G S) (hW : ∀ j, W j < 65536) (hk : k < N) {f : Nat} (hf : f < N) (hl : nth l m = (f : Int)) (hm : (k : Int) ∈ rowZ M f) (e : ∀ j : Nat, j < N → j ≠ f → S' (j : Int) = S (j : Int)) (hS' : S' (f : Int) = true) :
    Md M R W N l k (m + 1) F (putS G (f : Int) (G (f : Int) ||| F (k : Int))) S' := by
  have hup : ∀ y, SubN (G y) (putS G (f : Int) (G (f : Int) ||| F (k : Int)) y) := fun y r x => by
    by_cases e : y = (f : Int)
    · rw [e, putS_here, Nat.testBit_or, ← e, x]; rfl
    · rw [putS_else _ _ e]; exact x
  obtain ⟨t0, ht0, et0⟩ := mem_at hm
  refine ⟨⟨fun x => ⟨(h.grw.lt x).1, ?_⟩, fun j hj => ?_, fun j hj => ?_, fun F' G' hs j hj => ?_⟩, fun j hj hne hS => ?_, fun hS => ?_, fun t ht => ?_⟩
  · unfold putS
    split
    · exact orN_lt (h.grw.lt _).2 (h.grw.lt _).1
    · exact (h.grw.lt x).2
  · exact (h.grw.fst j hj).trans (insN_sub (hW j) (hup _))
  · by_cases e : j = f
    · subst e
      rw [putS_here]
      intro r x
      rw [Nat.testBit_or, Bool.or_eq_true] at x
      rcases x with x | x
      · exact h.grw.snd j hj r x
      · exact orE_in ht0 r (by rw [et0]; exact x)
    · rw [putS_else _ _ (by omega)]; exact h.grw.snd j hj
  · have ht := h.grw.top F' G' hs j hj
    by_cases e : j = f
    · subst e
      rw [putS_here]
      refine ⟨ht.1, fun r x => ?_⟩
      rw [Nat.testBit_or, Bool.or_eq_true] at x
      rcases x with x | x
      · exact ht.2 r x
      · rw [hs.out j hj]
        exact orE_in ht0 r (by rw [et0]; exact (h.grw.top F' G' hs k hk).1 r x)
    · rw [putS_else _ _ (by omega)]; exact ht
  · by_cases x : j = f
    · subst x; rw [hS'] at hS; cases hS
    · rw [e j hj x] at hS
      obtain ⟨a, b⟩ := h.done j hj hne hS
      rw [putS_else _ _ (by omega)]
      exact ⟨a, fun i hi hm => (b i hi hm).trans (hup _)⟩
  · by_cases x : k = f
    · subst x; rw [hS'] at hS; cases hS
    · rw [e k hk x] at hS
      rw [putS_else _ _ (by omega)]
      exact h.here hS
  · by_cases x : t = m
    · subst x
      rw [hl, putS_here]
      intro r y
      rw [Nat.testBit_or, y, Bool.or_true]
    · exact (h.told t (by omega)).trans (hup _)
/-- All that come to it have been told. -/
theorem Md.wk (h : Md M R W N l k m F G S) (hl : ∀ j : Nat, j < N → (k : Int) ∈ rowZ M j → (j : Int) ∈ l) (hm : m = l.length) : Wk M R W N F G S := ⟨h.grw, fun j hj hS => by
  by_cases x : j = k
  · subst x
    refine ⟨h.here hS, fun i hi hi2 => ?_⟩
    obtain ⟨t, ht, et⟩ := mem_at (hl i hi hi2)
    rw [← et]
    exact h.told t (by omega)
  · exact h.done j hj x hS⟩
/-- None waits: the least sets. -/
theorem Wk.lst (h : Wk M R W N F G S) (hI : Inn M N) (hS : ∀ k : Nat, k < N → S (k : Int) = false) : Lst M R W N F G := by
  refine ⟨⟨fun j hj => ?_, fun j hj => (h.done j hj (hS j hj)).1⟩, h.grw.top⟩
  refine SubN.anti (h.grw.snd j hj) (orE_out fun t ht => ?_)
  obtain ⟨i, hi, e⟩ := nth_back (hI j t hj ht)
  rw [e]
  refine (h.done i hi (hS i hi)).2 j hj ?_
  rw [← e]
  exact nth_mem ht
/-- A set that grows. -/
theorem or_grows {a b : Nat} (hne : lessN b a ≠ 0) (ha : a < 65536) : a < a ||| b := by
  refine Nat.lt_of_le_of_ne Nat.left_le_or fun e => hne ?_
  apply Nat.eq_of_testBit_eq
  intro i
  rw [lessN_bit ha, Nat.zero_testBit]
  have h3 : a.testBit i = (a.testBit i || b.testBit i) := by
    have := congrArg (fun x => Nat.testBit x i) e
    simp only [Nat.testBit_or] at this
    exact this
  clear e
  generalize a.testBit i = x at *
  generalize b.testBit i = y at *
  cases x <;> cases y <;> first | exact absurd h3 (by decide) | simp
theorem less_zero {a b : Nat} (ha : a < 65536) (hb : b < 65536) (h : lessN b a = 0) : SubN b a := fun r x => by
  have := congrArg (fun y => Nat.testBit y r) h
  simp only [lessN_bit ha, x, Nat.zero_testBit, Bool.true_and] at this
  cases e : a.testBit r with
  | true => rfl
  | false =>
    rw [e] at this
    have h16 : r < 16 := by
      refine Classical.byContradiction fun hn => ?_
      have : b.testBit r = false := Nat.testBit_lt_two_pow (Nat.lt_of_lt_of_le hb (Nat.pow_le_pow_right (n := 2) (by omega) (show 16 ≤ r by omega)))
      rw [this] at x; cases x
    simp [h16] at this
theorem lowS_put {F : Int → Nat} {n f : Nat} {v : Nat} (hf : f < n) (h1 : F (f : Int) < v) (h2 : v < 65536) : lowS (putS F (f : Int) v) n < lowS F n := by
  refine lowS_lt (fun i hi => ?_) hf (by rw [putS_here]; exact h1) (by rw [putS_here]; exact h2)
  by_cases e : i = f
  · subst e; rw [putS_here]; omega
  · rw [putS_else _ _ (by omega)]; exact Nat.le_refl _
end
/-- Edges turned round, as members. -/
theorem back_mem {M : List (List Int)} {k j : Nat} (hk : k < M.length) (hj : j < M.length) (h : (k : Int) ∈ rowZ M j) : (j : Int) ∈ rowZ (backT M M.length) k := by
  unfold backT
  rw [rowZ_map hk, plcT_mem]
  refine ⟨by omega, by omega, ?_⟩
  unfold backR hasZ
  rw [show ((j : Int)).toNat = j by omega]
  exact decide_eq_true h
theorem back_at {M : List (List Int)} {k t : Nat} (hk : k < M.length) (ht : t < (rowZ (backT M M.length) k).length) : ∃ f : Nat, f < M.length ∧ nth (rowZ (backT M M.length) k) t = (f : Int) ∧ (k : Int) ∈ rowZ M f := by
  have hm := nth_mem ht
  generalize nth (rowZ (backT M M.length) k) t = x at hm
  unfold backT at hm
  rw [rowZ_map hk, plcT_mem] at hm
  obtain ⟨h0, h1, h2⟩ := hm
  unfold backR hasZ at h2
  exact ⟨x.toNat, by omega, by omega, of_decide_eq_true h2⟩


end Go.Proofs.YtmlhnnmelopleaaGreatDoor

namespace Go.Proofs.YtmlhnnmelopleaaGreatDoor
open Go.RowKit

/-- Does the block k leap: end in Calls or Go? -/
def lpB (text : List Int) (ent : Int) (k : Nat) : Bool := dOp (lastW text ent k) == 18 || dOp (lastW text ent k) == 19
def lpF (text : List Int) (ent : Int) (y : Int) : Bool := lpB text ent y.toNat
def lpL (text : List Int) (ent : Int) : List Int := plcT (lpF text ent) (blkL text ent).length
theorem lpF_at (text : List Int) (ent : Int) (k : Nat) : lpF text ent (k : Int) = lpB text ent k := by unfold lpF; rw [show ((k : Int)).toNat = k by omega]
/-- The place of the t-th leap. -/
def lpP (text : List Int) (ent : Int) (t : Nat) : Nat := (rSym (blkL text ent) (nth (lpL text ent) t).toNat - 1).toNat
theorem plcT_rise (f : Int → Bool) : ∀ (k : Nat) {s t : Nat}, s < t → t < (plcT f k).length → nth (plcT f k) s < nth (plcT f k) t
  | 0, s, t, _, h => by simp [plcT] at h
  | k + 1, s, t, hst, h => by
    cases e : f (k : Int) with
    | false => rw [plcT_no e] at h ⊢; exact plcT_rise f k hst h
    | true =>
      rw [plcT_yes e] at h ⊢
      rw [List.length_append] at h
      by_cases ht : t < (plcT f k).length
      · rw [nth_left ht, nth_left (by omega)]
        exact plcT_rise f k hst ht
      · have et : t = (plcT f k).length + 0 := by simp at h; omega
        rw [et, nth_right, nth_left (by omega)]
        have := (plcT_mem.1 (nth_mem (show s < (plcT f k).length by omega))).2.1
        exact this
theorem lp_at {text : List Int} {ent : Int} {t : Nat} (h : t < (lpL text ent).length) : ∃ k : Nat, k < (blkL text ent).length ∧ nth (lpL text ent) t = (k : Int) ∧ lpB text ent k = true := by
  have hm := plcT_mem.1 (nth_mem h)
  refine ⟨(nth (lpL text ent) t).toNat, by have := hm.2.1; have := hm.1; unfold lpL at *; omega, by have := hm.1; unfold lpL at *; omega, ?_⟩
  exact hm.2.2
theorem lp_has {text : List Int} {ent : Int} {k : Nat} (hk : k < (blkL text ent).length) (h : lpB text ent k = true) : ∃ t, t < (lpL text ent).length ∧ nth (lpL text ent) t = (k : Int) := by
  have hm : (k : Int) ∈ lpL text ent := plcT_mem.2 ⟨by omega, by omega, by rw [lpF_at]; exact h⟩
  obtain ⟨t, ht, e⟩ := mem_at hm
  exact ⟨t, ht, e⟩
theorem lpP_at {text : List Int} {ent : Int} {t k : Nat} (hk : k < (blkL text ent).length) (e : nth (lpL text ent) t = (k : Int)) : (lpP text ent t : Int) = rSym (blkL text ent) k - 1 ∧ lpP text ent t < text.length ∧ nth text (lpP text ent t) = lastW text ent k := by
  obtain ⟨h0, h1, h2⟩ := blk_in hk
  unfold lpP lastW
  rw [e, show ((k : Int)).toNat = k by omega]
  refine ⟨by omega, by omega, rfl⟩
theorem lpP_ne {text : List Int} {ent : Int} (hn : 0 < text.length) {s t : Nat} (hs : s < (lpL text ent).length) (ht : t < (lpL text ent).length) (hne : s ≠ t) : lpP text ent s ≠ lpP text ent t := by
  have key : ∀ {a b : Nat}, a < b → b < (lpL text ent).length → lpP text ent a < lpP text ent b := fun {a b} hab hb => by
    obtain ⟨i, hi, ei, _⟩ := lp_at (show a < (lpL text ent).length by omega)
    obtain ⟨j, hj, ej, _⟩ := lp_at hb
    have hr := plcT_rise (lpF text ent) (blkL text ent).length hab hb
    have hij : i < j := by unfold lpL at ei ej; omega
    have h1 := blkRise hn hj i hij
    have h2 := (blk_in hj).2.1
    have h3 := (lpP_at hi ei).1
    have h4 := (lpP_at hj ej).1
    omega
  rcases Nat.lt_or_ge s t with h | h
  · exact Nat.ne_of_lt (key h ht)
  · exact (Nat.ne_of_lt (key (by omega) hs)).symm
/-- The word that takes a leap's place: a Call or a Jump to the place 0. -/
def cutW (v : Int) : Int := if dOp v = 18 then 2281701376 else 2013265920
theorem cutW18 {v : Int} (h : dOp v = 18) : cutW v = 2281701376 := if_pos h
theorem cutW19 {v : Int} (h : dOp v = 19) : cutW v = 2013265920 := if_neg (by omega)
theorem call0 : dOp 2281701376 = 17 ∧ dN 2281701376 = 0 ∧ isT 2281701376 = true ∧ tgV 2281701376 = 0 := by decide
theorem jump0 : dOp 2013265920 = 15 ∧ dN 2013265920 = 0 ∧ isT 2013265920 = true ∧ tgV 2013265920 = 0 := by decide
/-- A text in which some leaps have given way. -/
structure OneL (text T : List Int) : Prop where
  len : T.length = text.length
  word : ∀ p, p < text.length → nth T p = nth text p ∨ ((dOp (nth text p) = 18 ∨ dOp (nth text p) = 19) ∧ nth T p = cutW (nth text p))
structure OneJ (text : List Int) (ent : Int) (T : List Int) (j : Nat) : Prop where
  one : OneL text T
  rest : ∀ t, t < (lpL text ent).length → t = 0 ∨ j < t → nth T (lpP text ent t) = nth text (lpP text ent t)
theorem nth_set {l : List Int} {i p : Nat} {v : Int} (hp : p < l.length) : nth (l.set i v) p = if i = p then v else nth l p := by
  unfold nth
  rw [List.getD_eq_getElem?_getD, List.getElem?_set, List.getD_eq_getElem?_getD]
  by_cases e : i = p
  · rw [if_pos e, if_pos e, if_pos (by omega)]; rfl
  · rw [if_neg e, if_neg e]
theorem OneJ.zero (text : List Int) (ent : Int) : OneJ text ent text 0 := ⟨⟨rfl, fun _ _ => .inl rfl⟩, fun _ _ _ => rfl⟩
theorem lp_ops {text : List Int} {ent : Int} {k : Nat} (h : lpB text ent k = true) : dOp (lastW text ent k) = 18 ∨ dOp (lastW text ent k) = 19 := by
  unfold lpB at h
  simpa using h
theorem OneJ.step {text : List Int} {ent : Int} {T : List Int} {j : Nat} (h : OneJ text ent T j) (hn : 0 < text.length) (hj : j + 1 < (lpL text ent).length) : OneJ text ent (T.set (lpP text ent (j + 1)) (cutW (nth T (lpP text ent (j + 1))))) (j + 1) := by
  obtain ⟨k, hk, ek, hl⟩ := lp_at hj
  obtain ⟨_, h2, h3⟩ := lpP_at hk ek
  have hT : nth T (lpP text ent (j + 1)) = nth text (lpP text ent (j + 1)) := h.rest _ hj (.inr (by omega))
  have hlen := h.one.len
  rw [hT]
  refine ⟨⟨by rw [List.length_set]; exact hlen, fun p hp => ?_⟩, fun t ht hc => ?_⟩
  · rw [nth_set (by omega)]
    by_cases e : lpP text ent (j + 1) = p
    · rw [if_pos e]
      subst e
      exact .inr ⟨by rw [h3]; exact lp_ops hl, rfl⟩
    · rw [if_neg e]; exact h.one.word p hp
  · obtain ⟨i, hi, ei, _⟩ := lp_at ht
    have h5 := (lpP_at hi ei).2.1
    rw [nth_set (by omega), if_neg (lpP_ne hn hj ht (by omega))]
    exact h.rest t ht (by omega)
section
variable {text T : List Int} {ent : Int} {ml : Nat}
theorem OneL.oTak (h : OneL text T) {p : Nat} (hp : p < text.length) : gTak T p = gTak text p := by
  unfold gTak
  rcases h.word p hp with e | ⟨e, e2⟩
  · rw [e]
  · rw [e2]
    rcases e with e | e
    · rw [cutW18 e, call0.1, e]; rfl
    · rw [cutW19 (by assumption), jump0.1, e]; rfl
theorem OneL.oSit (h : OneL text T) {p : Nat} (hp : p < text.length) : gSit T p = gSit text p := by
  unfold gSit
  rcases h.word p hp with e | ⟨e, e2⟩
  · rw [e]
  · rw [e2]
    rcases e with e | e
    · rw [cutW18 e, call0.1, e]; rfl
    · rw [cutW19 (by assumption), jump0.1, e]; rfl
theorem OneL.oEnd (h : OneL text T) {p : Nat} (hp : p < text.length) : gEnd T p = gEnd text p := by
  unfold gEnd
  rcases h.word p hp with e | ⟨e, e2⟩
  · rw [e]
  · rw [e2]
    rcases e with e | e
    · rw [cutW18 e, call0.1, e]; rfl
    · rw [cutW19 (by assumption), jump0.1, e]; rfl
theorem anyF_fit {f g : Nat → Option Int} {k : Nat} (h : ∀ i, i < k → f i = g i) (y : Int) : anyF f k y = anyF g k y := by
  rw [Bool.eq_iff_iff, anyF_iff, anyF_iff]
  constructor
  · rintro ⟨i, hi, e⟩; exact ⟨i, hi, by rw [← h i hi]; exact e⟩
  · rintro ⟨i, hi, e⟩; exact ⟨i, hi, by rw [h i hi]; exact e⟩
theorem OneL.oLab (h : OneL text T) {p : Nat} (hp : p < text.length) : gLab T p = gLab text p ∨ (gLab text p = none ∧ gLab T p = some 0) := by
  rcases h.word p hp with e | ⟨e, e2⟩
  · left; unfold gLab; rw [e]
  · right
    have hold : isT (nth text p) = false := by
      unfold isT hP
      rcases e with e | e <;> (rw [e]; rfl)
    refine ⟨by unfold gLab; rw [hold]; rfl, ?_⟩
    unfold gLab
    rw [e2]
    rcases e with e | e
    · rw [cutW18 e, call0.2.2.1, call0.2.2.2]; rfl
    · rw [cutW19 (by assumption), jump0.2.2.1, jump0.2.2.2]; rfl
theorem OneL.oTakF (h : OneL text T) (y : Int) : takF T y = takF text y := by
  unfold takF addK
  rw [h.len, anyF_fit (fun i hi => h.oTak hi)]
theorem OneL.oSitF (h : OneL text T) (y : Int) : sitF T y = sitF text y := by
  unfold sitF addK
  rw [h.len, anyF_fit (fun i hi => h.oSit hi)]
theorem OneL.beg (h : OneL text T) (y : Int) : begF T ent y = begF text ent y := by
  rw [Bool.eq_iff_iff, beg_iff, beg_iff, lab_iff, lab_iff, h.len, anyF_fit (f := gEnd T) (fun i hi => h.oEnd hi), anyF_iff (g := gLab T), anyF_iff (g := gLab text)]
  constructor
  · rintro (a | (a | ⟨i, hi, e⟩) | a)
    · exact .inl a
    · exact .inr (.inl (.inl a))
    · rcases h.oLab hi with e2 | ⟨_, e2⟩
      · exact .inr (.inl (.inr ⟨i, hi, by rw [← e2]; exact e⟩))
      · rw [e2] at e
        injection e with e
        exact .inl e.symm
    · exact .inr (.inr a)
  · rintro (a | (a | ⟨i, hi, e⟩) | a)
    · exact .inl a
    · exact .inr (.inl (.inl a))
    · rcases h.oLab hi with e2 | ⟨e2, _⟩
      · exact .inr (.inl (.inr ⟨i, hi, by rw [e2]; exact e⟩))
      · rw [e2] at e; cases e
    · exact .inr (.inr a)
theorem OneL.blk (h : OneL text T) (ent : Int) : blkL T ent = blkL text ent := by
  unfold blkL
  rw [h.len, plcT_fit (fun i _ => h.beg (ent := ent) (i : Int))]
theorem OneL.may (h : OneL text T) (hM : MayI text ml ent) : MayI T ml ent := by
  have hl := h.len
  obtain ⟨a, b, c, d, e⟩ := hM.past
  refine ⟨⟨by omega, by omega, c, d, by omega⟩, fun j hj => ?_, ?_⟩
  · have hf := hM.far j (by omega)
    unfold farT at hf ⊢
    rw [hl]
    rcases h.word j (by omega) with e1 | ⟨e1, e2⟩
    · rw [e1]; exact hf
    · rw [e2]
      rcases e1 with e1 | e1
      · rw [cutW18 e1, call0.2.2.2, decide_eq_false (by omega), Bool.and_false]
      · rw [cutW19 (by assumption), jump0.2.2.2, decide_eq_false (by omega), Bool.and_false]
  · have hk := hM.last
    rw [hl]
    rcases h.word (text.length - 1) (by omega) with e1 | ⟨e1, e2⟩
    · rw [e1]; exact hk
    · rw [e2]
      unfold lastOK at hk ⊢
      have hk := of_decide_eq_true hk
      rcases e1 with e1 | e1
      · omega
      · rw [cutW19 (by assumption), jump0.1]; rfl
theorem OneL.range (h : OneL text T) (hR : ∀ i, i < text.length → 0 ≤ nth text i ∧ nth text i < 4294967296) : ∀ i, i < T.length → 0 ≤ nth T i ∧ nth T i < 4294967296 := fun i hi => by
  rw [h.len] at hi
  rcases h.word i hi with e | ⟨_, e⟩
  · rw [e]; exact hR i hi
  · rw [e]
    unfold cutW
    split <;> omega
theorem OneL.edg (h : OneL text T) {i : Nat} (hw : lastW T ent i = lastW text ent i) (y : Int) : edgR T ent i y = edgR text ent i y := by
  unfold edgR edgB
  rw [hw, h.blk, h.oTakF, h.oSitF]
theorem OneL.last (h : OneL text T) {k : Nat} (hk : k < (blkL text ent).length) (hl : lpB text ent k = false) : lastW T ent k = lastW text ent k := by
  obtain ⟨h0, h1, h2⟩ := blk_in hk
  unfold lastW
  rw [h.blk]
  rcases h.word (rSym (blkL text ent) k - 1).toNat (by omega) with e | ⟨e, _⟩
  · exact e
  · exfalso
    unfold lpB lastW at hl
    rcases e with e | e <;> (rw [e] at hl; revert hl; decide)
theorem OneJ.last0 {j : Nat} (h : OneJ text ent T j) {k : Nat} (hk : k < (blkL text ent).length) (h0 : 0 < (lpL text ent).length) (e : nth (lpL text ent) 0 = (k : Int)) : lastW T ent k = lastW text ent k := by
  obtain ⟨p1, _, p3⟩ := lpP_at hk e
  have := h.rest 0 h0 (.inl rfl)
  rw [p3] at this
  rw [← this]
  unfold lastW
  rw [h.one.blk]
  congr 1
  omega
theorem edgT_row {text : List Int} {ent : Int} {n i : Nat} (h : i < n) : rowZ (edgT text ent n) i = plcT (edgR text ent i) (blkL text ent).length := rowZ_map h
theorem OneL.row (h : OneL text T) {n k : Nat} (hk : k < n) (hw : lastW T ent k = lastW text ent k) : rowZ (edgT T ent n) k = rowZ (edgT text ent n) k := by
  rw [edgT_row hk, edgT_row hk, h.blk]
  exact plcT_fit fun i _ => h.edg hw (i : Int)
/-- All that leap go to the same blocks. -/
theorem leap_row {text : List Int} {ent : Int} {n i j : Nat} (hi : i < n) (hj : j < n) (li : lpB text ent i = true) (lj : lpB text ent j = true) : rowZ (edgT text ent n) i = rowZ (edgT text ent n) j := by
  rw [edgT_row hi, edgT_row hj]
  refine plcT_fit fun y _ => ?_
  unfold edgR edgB goesF
  have h1 := lp_ops li
  have h2 := lp_ops lj
  rw [if_neg (by omega), if_neg (by omega), if_neg (by omega), if_pos h1, if_neg (by omega), if_neg (by omega), if_neg (by omega), if_pos h2]
end
/-- The lists as flow writes them: the first j leaps lead to the hub. -/
structure FlJ (text : List Int) (ent : Int) (T : List Int) (M : List (List Int)) (j : Nat) : Prop where
  len : M.length = (blkL text ent).length + 1
  old : ∀ k, k < (blkL text ent).length → (∀ t, t < j → nth (lpL text ent) t ≠ (k : Int)) → rowZ M k = rowZ (edgT T ent (blkL text ent).length) k
  new : ∀ t, t < j → rowZ M (nth (lpL text ent) t).toNat = [((blkL text ent).length : Int)]
  hub : rowZ M (blkL text ent).length = if 0 < (lpL text ent).length then rowZ (edgT T ent (blkL text ent).length) (nth (lpL text ent) 0).toNat else []
theorem rowZ_setL {M : List (List Int)} {i t : Nat} {l : List Int} (ht : t < M.length) : rowZ (M.set i l) t = if i = t then l else rowZ M t := by
  unfold rowZ
  rw [List.getD_eq_getElem?_getD, List.getElem?_set, List.getD_eq_getElem?_getD]
  by_cases e : i = t
  · rw [if_pos e, if_pos e, if_pos (by omega)]; rfl
  · rw [if_neg e, if_neg e]
theorem FlJ.step {text : List Int} {ent : Int} {T : List Int} {M : List (List Int)} {j : Nat} (h : FlJ text ent T M j) (hj : j < (lpL text ent).length) : FlJ text ent T (M.set (nth (lpL text ent) j).toNat [((blkL text ent).length : Int)]) (j + 1) := by
  obtain ⟨i, hi, ei, _⟩ := lp_at hj
  have hl := h.len
  rw [ei, show ((i : Int)).toNat = i by omega]
  refine ⟨by rw [List.length_set]; exact hl, fun k hk hne => ?_, fun t ht => ?_, ?_⟩
  · rw [rowZ_setL (by omega), if_neg (fun e => hne j (by omega) (by rw [ei, e]))]
    exact h.old k hk fun t ht => hne t (by omega)
  · by_cases e : t = j
    · subst e
      rw [ei, show ((i : Int)).toNat = i by omega, rowZ_setL (by omega), if_pos rfl]
    · obtain ⟨i2, hi2, ei2, _⟩ := lp_at (show t < (lpL text ent).length by omega)
      have := h.new t (by omega)
      rw [ei2, show ((i2 : Int)).toNat = i2 by omega] at this ⊢
      rw [rowZ_setL (by omega)]
      split
      · rfl
      · exact this
  · rw [rowZ_setL (by omega), if_neg (by omega)]
    exact h.hub
theorem FlJ.is {text : List Int} {ent : Int} {T : List Int} {M : List (List Int)} {jj : Nat} (h : FlJ text ent T M (lpL text ent).length) (hT : OneJ text ent T jj) : Hub (edgT text ent (blkL text ent).length) M (blkL text ent).length (lpB text ent) := by
  have hrow0 : ∀ k, k < (blkL text ent).length → lpB text ent k = true → rowZ M (blkL text ent).length = rowZ (edgT text ent (blkL text ent).length) k := fun k hk hl => by
    obtain ⟨t, ht, et⟩ := lp_has hk hl
    have h0 : 0 < (lpL text ent).length := by omega
    obtain ⟨i, hi, ei, li⟩ := lp_at h0
    rw [h.hub, if_pos h0, ei, show ((i : Int)).toNat = i by omega, hT.one.row hi (hT.last0 hi h0 ei)]
    exact leap_row hi hk li hl
  refine ⟨h.len, fun k hk hl => ?_, fun k hk hl => ?_, hrow0, fun t ht => ?_⟩
  · rw [h.old k hk (fun t ht e => by
      obtain ⟨i, hi, ei, li⟩ := lp_at ht
      rw [ei] at e
      have : i = k := by omega
      subst this
      rw [li] at hl; cases hl)]
    exact hT.one.row hk (hT.one.last hk hl)
  · obtain ⟨t, ht, et⟩ := lp_has hk hl
    have := h.new t ht
    rwa [et, show ((k : Int)).toNat = k by omega] at this
  · by_cases h0 : 0 < (lpL text ent).length
    · obtain ⟨i, hi, ei, li⟩ := lp_at h0
      rw [hrow0 i hi li] at ht ⊢
      rw [edgT_row hi] at ht ⊢
      have := plcT_mem.1 (nth_mem ht)
      exact ⟨this.1, this.2.1⟩
    · rw [h.hub, if_neg h0] at ht
      simp at ht
theorem edgT_inn (text : List Int) (ent : Int) : Inn (edgT text ent (blkL text ent).length) (blkL text ent).length := fun k t hk ht => by
  rw [edgT_row hk] at ht ⊢
  have := plcT_mem.1 (nth_mem ht)
  exact ⟨this.1, this.2.1⟩
theorem Hub.innM {L M : List (List Int)} {n : Nat} {lp : Nat → Bool} (h : Hub L M n lp) (hI : Inn L n) : Inn M (n + 1) := fun k t hk ht => by
  by_cases e : k = n
  · subst e
    have := h.inn t ht
    omega
  · have hk : k < n := by omega
    cases el : lp k with
    | false =>
      rw [h.plain k hk el] at ht ⊢
      have := hI k t hk ht
      omega
    | true =>
      rw [h.leap k hk el] at ht ⊢
      obtain rfl : t = 0 := by simpa using ht
      show 0 ≤ (n : Int) ∧ (n : Int) < _
      omega
theorem Hub.rowlen {text : List Int} {ent : Int} {M : List (List Int)} (h : Hub (edgT text ent (blkL text ent).length) M (blkL text ent).length (lpB text ent)) (h0 : ∀ (_ : ¬ ∃ k, k < (blkL text ent).length ∧ lpB text ent k = true), rowZ M (blkL text ent).length = []) (k : Nat) (hk : k < (blkL text ent).length + 1) : (rowZ M k).length ≤ (blkL text ent).length + 1 := by
  by_cases e : k = (blkL text ent).length
  · subst e
    by_cases hx : ∃ k, k < (blkL text ent).length ∧ lpB text ent k = true
    · obtain ⟨i, hi, li⟩ := hx
      rw [h.hub i hi li, edgT_row hi]
      have := plcT_len (edgR text ent i) (blkL text ent).length
      omega
    · rw [h0 hx]; simp
  · have hk : k < (blkL text ent).length := by omega
    cases el : lpB text ent k with
    | false =>
      rw [h.plain k hk el, edgT_row hk]
      have := plcT_len (edgR text ent k) (blkL text ent).length
      omega
    | true => rw [h.leap k hk el]; simp


end Go.Proofs.YtmlhnnmelopleaaGreatDoor

namespace Go.Proofs.YtmlhnnmelopleaaGreatDoor
open Go.RowKit

/-- One list is another one now. -/
theorem RowsZ.put {w : World} {base g n c : Nat} {vs : List Value} {M : List (List Int)} (h : RowsZ w base (.slice (some ⟨g, 0, none⟩) n c) vs M) (hn : M.length = n) {i : Nat} (hi : i < n) {v : Value} {l : List Int} (hv : w.ownsRow base 3 1 v l.length (iVals .i64 l)) :
    RowsZ (w.setCell ⟨g, i, none⟩ v) base (.slice (some ⟨g, 0, none⟩) n c) (vs.set i v) (M.set i l) := by
  have hlen := h.len
  obtain ⟨hb1, hb2⟩ := h.bag
  rcases hb2 with ⟨e, h0⟩ | ⟨g', cap, cur, e, hb, hg, hc, hm, hs, ht⟩
  · cases e
  · cases e
    refine ⟨⟨by rw [List.length_set, List.length_set]; omega, .inr ⟨g, c, cur.setIfInBounds i v, by rw [List.length_set, hn], hb, box_set hg _ _, by rw [List.length_set]; omega, hm, by simpa using hs, ?_⟩⟩, fun t ht => ?_⟩
    · rw [List.length_set, ← ht]
      apply List.ext_getElem?
      intro t
      simp only [Array.toList_setIfInBounds, List.getElem?_take, List.getElem?_set, List.length_take]
      by_cases e1 : t < M.length * 1
      · by_cases e2 : i = t
        · subst e2
          simp only [if_pos e1, if_true]
          rw [if_pos (by simp; omega), if_pos (by simp; omega)]
        · simp only [if_pos e1, if_neg e2]
      · simp only [if_neg e1]
        by_cases e2 : i = t
        · rw [if_pos e2, if_neg (by simp; omega)]
        · rw [if_neg e2]
    · rw [List.length_set] at ht
      rw [vn_set (by omega), rowZ_setL (by omega)]
      by_cases e2 : i = t
      · rw [if_pos e2, if_pos e2]
        exact ownsRow_setCell_other hv (blk_off hv hg (by decide)) _
      · rw [if_neg e2, if_neg e2]
        have h1 := h.row t ht
        exact ownsRow_setCell_other h1 (blk_off h1 hg (by decide)) _
theorem RowsZ.box {w : World} {base g n c : Nat} {vs : List Value} {M : List (List Int)} (h : RowsZ w base (.slice (some ⟨g, 0, none⟩) n c) vs M) (hn : M.length = n) : base ≤ g ∧ ∀ i, i < n → w.cell? ⟨g, i, none⟩ = some (vn vs i) ∧ w.frozen? ⟨g, i, none⟩ = false := by
  have hlen := h.len
  have hcells := h.bag.cells rfl
  rcases h.bag.2 with ⟨e, h0⟩ | ⟨g', cap, cur, e, hb, hg, hc, hm, hs, ht⟩
  · cases e
  · cases e
    refine ⟨hb, fun i hi => ⟨?_, box_fro hg i⟩⟩
    have := hcells i (vn vs i) (by unfold vn; rw [List.getD_eq_getElem?_getD, List.getElem?_eq_getElem (by omega)]; rfl)
    rwa [add0] at this
theorem below_putZ {w w2 : World} {B g i : Nat} {v : Value} (hb : Below B w2 w) (hg : B ≤ g) : Below B w2 (w.setCell ⟨g, i, none⟩ v) := hb.setCell hg _
section
variable {text T : List Int} {ent : Int}
theorem rowZ_left {L : List (List Int)} {l : List Int} {k : Nat} (h : k < L.length) : rowZ (L ++ [l]) k = rowZ L k := by
  unfold rowZ
  rw [List.getD_eq_getElem?_getD, List.getD_eq_getElem?_getD, List.getElem?_append_left h]
theorem rowZ_last {L : List (List Int)} {l : List Int} : rowZ (L ++ [l]) L.length = l := by simp [rowZ]
theorem FlJ.start0 (h0 : ¬ 0 < (lpL text ent).length) : FlJ text ent T (edgT T ent (blkL text ent).length ++ [[]]) 0 := by
  have hl : (edgT T ent (blkL text ent).length).length = (blkL text ent).length := edgT_len _ _ _
  refine ⟨by simp [hl], fun k hk _ => rowZ_left (by omega), fun t ht => by omega, ?_⟩
  rw [if_neg h0]
  have := rowZ_last (L := edgT T ent (blkL text ent).length) (l := [])
  rwa [hl] at this
theorem FlJ.start1 (h0 : 0 < (lpL text ent).length) : FlJ text ent T ((edgT T ent (blkL text ent).length ++ [[]]).set (blkL text ent).length (rowZ (edgT T ent (blkL text ent).length) (nth (lpL text ent) 0).toNat)) 0 := by
  have hl : (edgT T ent (blkL text ent).length).length = (blkL text ent).length := edgT_len _ _ _
  refine ⟨by simp [hl], fun k hk _ => ?_, fun t ht => by omega, ?_⟩
  · rw [rowZ_setL (by simp [hl]; omega), if_neg (by omega)]
    exact rowZ_left (by omega)
  · rw [rowZ_setL (by simp [hl]), if_pos rfl, if_pos h0]
theorem FlJ.none {M : List (List Int)} (h : FlJ text ent T M (lpL text ent).length) (hx : ¬ ∃ k, k < (blkL text ent).length ∧ lpB text ent k = true) : rowZ M (blkL text ent).length = [] := by
  rw [h.hub, if_neg]
  intro h0
  obtain ⟨k, hk, _, hl⟩ := lp_at h0
  exact hx ⟨k, hk, hl⟩
end
/-- What flow answers. -/
def LfP (text : List Int) (ent : Int) (w : World) (e : Ending) (w' : World) : Prop := ∃ (A : Option Addr) (c : Nat) (M : List (List Int)), e = .returned (.slice A M.length c) ∧ IntsZ w' A M ∧ Hub (edgT text ent (blkL text ent).length) M (blkL text ent).length (lpB text ent) ∧ (∀ k, k < M.length → (rowZ M k).length ≤ 65536) ∧ Below w.heap.size w w'
theorem LfP.mk {text T : List Int} {ent : Int} {w w' : World} {base c jj : Nat} {A : Option Addr} {vs : List Value} {M : List (List Int)} (hl : (blkL text ent).length ≤ 16384) (hz : RowsZ w' base (.slice A ((blkL text ent).length + 1) c) vs M) (hf : FlJ text ent T M (lpL text ent).length) (hT : OneJ text ent T jj) (hb : Below w.heap.size w w') : LfP text ent w (.returned (.slice A ((blkL text ent).length + 1) c)) w' := by
  have hh := hf.is hT
  refine ⟨A, c, M, by rw [hf.len], hz.ints, hh, fun k hk => ?_, hb⟩
  have := hh.rowlen hf.none k (by rw [← hf.len]; exact hk)
  omega
theorem infoZ : ∃ i, Tryz.prog.info? 32 = some i ∧ i.zero = some (.slice none 0 0) ∧ i.size = 1 ∧ i.bytes = 24 :=
  ⟨(Tryz.prog.info? 32).get (by kernel_rfl), by kernel_rfl, by kernel_rfl, by kernel_rfl, by kernel_rfl⟩


end Go.Proofs.YtmlhnnmelopleaaGreatDoor

namespace Go.Proofs.YtmlhnnmelopleaaGreatDoor
open Go.RowKit

set_option maxRecDepth 100000 in
set_option maxHeartbeats 4000000 in
theorem leaping_any (A1 A2 B : Option Addr) (c1 ml c2 cB : Nat) (ent : Int) (text : List Int) (w : World) (hT : IntsAt w A1 .u32 text) (hR : ∀ i, i < text.length → 0 ≤ nth text i ∧ nth text i < 4294967296) (hl : text.length ≤ 1048576) (hB : RelsAt w B (blkL text ent)) :
    Calls Tryz.prog 105 #[.agg #[.slice A1 text.length c1, .int .i64 ent, .slice A2 ml c2], .slice B (blkL text ent).length cB] w (RowP (lpL text ent) w) := by
  obtain ⟨iI, hi, hz0, hz1, hz2⟩ := infoI
  have hLt := blk_len_le text ent
  obtain ⟨W, HW⟩ : ∃ W, Hid (w.alloc (.cells #[.slice A1 text.length c1, .int .i64 ent, .slice A2 ml c2] 31) = W) := ⟨_, rfl⟩
  have HB : Hid (Below w.heap.size w W) := by unfold Hid; rw [← HW.out]; exact lb_alloc (Below.refl _ _) _
  have i0 : Hid (W.cell? ⟨w.heap.size, 0, none⟩ = some (.slice A1 text.length c1)) := by unfold Hid; rw [← HW.out]; simp [go_sem]
  have HT : Hid (IntsAt W A1 .u32 text) := hT.keep HB.out
  have HR : Hid (∀ i, i < text.length → 0 ≤ nth text i ∧ nth text i < 4294967296) := hR
  have HRl : Hid (RelsAt W B (blkL text ent)) := hB.keep HB.out
  have HLn : Hid (∀ k, (plcT (lpF text ent) k).length ≤ k) := fun k => plcT_len _ k
  clear hT hR hB
  go_enter Tryz.func105, Tryz.ntmps105
  go_upto_region 1 with fail
  rw [HW.out]
  clear HW
  go_wp2
  go_loopw [5, 10] (fun v i wr => ∃ (k : Nat) (O : Option Addr) (c : Nat), i = .int .i64 k ∧ v = .slice O (plcT (lpF text ent) k).length c ∧ k ≤ (blkL text ent).length ∧ Hid (wr.ownsRow W.heap.size 3 1 v (plcT (lpF text ent) k).length (iVals .i64 (plcT (lpF text ent) k))) ∧ Hid (Below W.heap.size W wr)) (fun _ i _ => (blkL text ent).length - (intOf i).toNat)
  case atStart => exact ⟨0, none, 0, rfl, rfl, Nat.zero_le _, World.ownsRow_nil _ _ _ _, Below.refl _ _⟩
  case round =>
    obtain ⟨k, O, c, rfl, rfl, hk, HRw, HBr⟩ := hrel
    have hpl := HLn.out k
    by_cases hlt : k < (blkL text ent).length
    · have hlt' : (k : Int) < ((blkL text ent).length : Int) := by omega
      obtain ⟨b, eb, q0, q1⟩ := HRl.out k hlt
      subst eb
      have t0 := lkeep HBr.out q0
      have t1 : wr.cell? ⟨(b.add (k * 2)).block, (b.add (k * 2)).off + 1, none⟩ = some (.int .i64 (rSym (blkL text ent) k)) := lkeep HBr.out q1
      clear q0 q1
      obtain ⟨V, HV⟩ : ∃ V, Hid (wr.alloc (.cells #[.int .i64 (rAt (blkL text ent) k), .int .i64 (rSym (blkL text ent) k)] 84) = V) := ⟨_, rfl⟩
      have HBV : Hid (Below wr.heap.size wr V) := by unfold Hid; rw [← HV.out]; exact lb_alloc (Below.refl _ _) _
      have HBx : Hid (Below W.heap.size W V) := lb_trans HBr.out HBV.out
      have b1 : V.cell? ⟨wr.heap.size, 1, none⟩ = some (.int .i64 (rSym (blkL text ent) k)) := by rw [← HV.out]; simp [go_sem]
      obtain ⟨p, hpl', hpe, hlw⟩ := last_at hlt
      obtain ⟨a, ea, tv⟩ := (HT.out.keep HBx.out) p hpl'
      subst ea
      have hv := HR.out p hpl'
      have x0 := lkeep HBx.out i0.out
      have HLb : Hid (lpF text ent (k : Int) = (dOp (lastW text ent k) == 18 || dOp (lastW text ent k) == 19)) := lpF_at text ent k
      have HRV : Hid (V.ownsRow W.heap.size 3 1 (.slice O (plcT (lpF text ent) k).length c) (plcT (lpF text ent) k).length (iVals .i64 (plcT (lpF text ent) k))) := row_keep HRw.out HBV.out
      rw [← hlw] at tv hv
      rw [hpe] at b1
      have CD := fun wx => isadecode_any (lastW text ent k) hv.1 hv.2 wx
      have hwr : IntKind.i64.wrap ((p : Int) + 1 - 1) = (p : Int) := by rw [IntKind.wrap_i64]; omega
      have hwr2 : IntKind.i64.wrap (p : Int) = (p : Int) := by rw [IntKind.wrap_i64]; omega
      have p1 : (p : Int) < (text.length : Int) := by omega
      clear hlw hv
      have HPe : Hid (rSym (blkL text ent) k = (p : Int) + 1) := hpe
      clear hpe
      go_upto_region 5 with fail
      rw [HV.out]
      clear HV t0 t1
      generalize dOp (lastW text ent k) = op at *
      generalize dD (lastW text ent k) = dd at *
      generalize dA (lastW text ent k) = da at *
      generalize dB (lastW text ent k) = db at *
      generalize dN (lastW text ent k) = dn at *
      generalize lastW text ent k = v at *
      go_upto_region 6 with (go_at_call 28; refine (CD _).mono ?_; rintro r w4 ⟨rfl, hb4⟩; have HB4 : Hid (Below W.heap.size W w4) := lb_trans HBx.out hb4; have HR4 : Hid (w4.ownsRow W.heap.size 3 1 (.slice O (plcT (lpF text ent) k).length c) (plcT (lpF text ent) k).length (iVals .i64 (plcT (lpF text ent) k))) := row_keep HRV.out hb4; clear hb4)
      clear CD tv b1 x0 HRw HBr HRV HBV HBx
      by_cases h18 : op = 18
      · subst h18
        have HP : Hid (plcT (lpF text ent) (k + 1) = plcT (lpF text ent) k ++ [(k : Int)]) := plcT_yes (by rw [HLb.out]; rfl)
        have HBa : Hid (Below W.heap.size W (w4.alloc (.cells #[.int .i64 (k : Int)] 3))) := lb_alloc HB4.out _
        have HRa : Hid ((w4.alloc (.cells #[.int .i64 (k : Int)] 3)).ownsRow W.heap.size 3 1 (.slice O (plcT (lpF text ent) k).length c) (plcT (lpF text ent) k).length (iVals .i64 (plcT (lpF text ent) k))) := row_keep HR4.out (lb_alloc (Below.refl _ _) _)
        generalize plcT (lpF text ent) k = P at *
        go_upto_region 9 with (at_builtin; go_loud (refine wpList_append_own _ rfl (.tmp 27) (.tmp 29) 32 rfl W.heap.size 3 iI (.int .i64 0) 1 8 Tryz.underlying32 hi hz0 hz1 hz2 rfl (by decide) (.slice O P.length c) P.length (iVals .i64 P) rfl HRa.out ⟨w4.heap.size, 0, none⟩ 1 1 [.int .i64 (k : Int)] rfl rfl (fun j u hu => World.news_of_block (newAtK (by simp)) j u hu) one_oneI (by unfold maxLen; omega) (by omega) HBa.out.size ?_; intro v3 w5 hown hgrow _; have HR3 : Hid (w5.ownsRow W.heap.size 3 1 v3 (plcT (lpF text ent) (k + 1)).length (iVals .i64 (plcT (lpF text ent) (k + 1)))) := (by rw [Hid, HP.out, iVals_snoc, List.length_append]; exact hown); have HB3 : Hid (Below W.heap.size W w5) := HBa.out.grown hgrow HBa.out.size (fun b hb => (HRa.out.lt b hb).1); clear hown hgrow))
        obtain ⟨A5, c5, e5⟩ := own_sl HR3.out
        subst e5
        go_wp2
        go_roundw
        case rel => exact ⟨k + 1, A5, c5, by go_num, rfl, by omega, HR3, HB3⟩
        case measure => simp [intOf]; omega
      · by_cases h19 : op = 19
        · subst h19
          have HP : Hid (plcT (lpF text ent) (k + 1) = plcT (lpF text ent) k ++ [(k : Int)]) := plcT_yes (by rw [HLb.out]; rfl)
          have HBa : Hid (Below W.heap.size W (w4.alloc (.cells #[.int .i64 (k : Int)] 3))) := lb_alloc HB4.out _
          have HRa : Hid ((w4.alloc (.cells #[.int .i64 (k : Int)] 3)).ownsRow W.heap.size 3 1 (.slice O (plcT (lpF text ent) k).length c) (plcT (lpF text ent) k).length (iVals .i64 (plcT (lpF text ent) k))) := row_keep HR4.out (lb_alloc (Below.refl _ _) _)
          generalize plcT (lpF text ent) k = P at *
          go_upto_region 9 with (at_builtin; go_loud (refine wpList_append_own _ rfl (.tmp 27) (.tmp 29) 32 rfl W.heap.size 3 iI (.int .i64 0) 1 8 Tryz.underlying32 hi hz0 hz1 hz2 rfl (by decide) (.slice O P.length c) P.length (iVals .i64 P) rfl HRa.out ⟨w4.heap.size, 0, none⟩ 1 1 [.int .i64 (k : Int)] rfl rfl (fun j u hu => World.news_of_block (newAtK (by simp)) j u hu) one_oneI (by unfold maxLen; omega) (by omega) HBa.out.size ?_; intro v3 w5 hown hgrow _; have HR3 : Hid (w5.ownsRow W.heap.size 3 1 v3 (plcT (lpF text ent) (k + 1)).length (iVals .i64 (plcT (lpF text ent) (k + 1)))) := (by rw [Hid, HP.out, iVals_snoc, List.length_append]; exact hown); have HB3 : Hid (Below W.heap.size W w5) := HBa.out.grown hgrow HBa.out.size (fun b hb => (HRa.out.lt b hb).1); clear hown hgrow))
          obtain ⟨A5, c5, e5⟩ := own_sl HR3.out
          subst e5
          go_wp2
          go_roundw
          case rel => exact ⟨k + 1, A5, c5, by go_num, rfl, by omega, HR3, HB3⟩
          case measure => simp [intOf]; omega
        · have e1 : (op == 18) = false := by simpa using h18
          have e2 : (op == 19) = false := by simpa using h19
          have HP : Hid (plcT (lpF text ent) (k + 1) = plcT (lpF text ent) k) := plcT_no (by rw [HLb.out, e1, e2]; rfl)
          clear h18 h19
          go_wp2
          go_roundw
          case rel => exact ⟨k + 1, O, c, by go_num, by rw [HP.out], by omega, by rw [HP.out]; exact HR4, HB4⟩
          case measure => simp [intOf]; omega
    · obtain rfl : k = (blkL text ent).length := by omega
      go_wp2
      go_ret
      exact ⟨O, c, rfl, ownsRow_mono HRw.out HB.out.size, lb_trans HB.out HBr.out⟩


end Go.Proofs.YtmlhnnmelopleaaGreatDoor
