/-
  Numbers of words, plain: one number just if one word that is not alone. Worlds that part in one block alone; no Go in sight. Numbers as bytes, and how they are taken from the left, as plain mathematics; no Go in sight.
-/
import Derived.Test.YtblmcphmgicocaaProg
import Derived.WalkKit
import Derived.WalkSpells
import Derived.WalkLawsBesides
import Derived.RowKit3
import Derived.Below
import Derived.Deep.QuietTactic
import Derived.BigQuiet
import Derived.WalkSmall
import Derived.Laws.Rows
import Derived.Test.YtblmcphmgicocaaPn02
import Derived.Test.YtblmcphmgicocaaPn01
namespace Go.Proofs.Ytblmcphmgicocaa
open Go.RowKit

/-- One word, which is not alone? -/
def smB (v w : Int) : Bool := (v == w) && !alB v
/-- The first place ahead of i whose word is the same; i itself, if there is none. -/
def fstP (text : List Int) (i : Nat) : Nat := match (List.range i).find? fun k => smB (nth text k) (nth text i) with
  | some k => k
  | none => i
def newP (text : List Int) (i : Nat) : Bool := fstP text i == i
/-- How many places ahead of i are new. -/
def rnk (text : List Int) : Nat → Nat
  | 0 => 0
  | i + 1 => rnk text i + (if newP text i = true then 1 else 0)
/-- The number of the place i. -/
def numN (text : List Int) (i : Nat) : Nat := rnk text (fstP text i)
def numL (text : List Int) (k : Nat) : List Int := (List.range k).map fun i => ((numN text i : Nat) : Int)
theorem numL_len (text : List Int) (k : Nat) : (numL text k).length = k := by simp [numL]
theorem numL_succ (text : List Int) (k : Nat) : numL text (k + 1) = numL text k ++ [((numN text k : Nat) : Int)] := by simp [numL, List.range_succ]
theorem numL_nth {text : List Int} {k i : Nat} (h : i < k) : nth (numL text k) i = ((numN text i : Nat) : Int) := by simp [nth, numL, h]
theorem fstP_hit {text : List Int} {i k : Nat} (hk : k < i) (h0 : ∀ j, j < k → smB (nth text j) (nth text i) = false) (h : smB (nth text k) (nth text i) = true) : fstP text i = k := by
  have hf : (List.range i).find? (fun k => smB (nth text k) (nth text i)) = some k := by
    rw [List.find?_range_eq_some]
    exact ⟨h, by simpa using hk, fun j hj => by rw [h0 j hj]; rfl⟩
  unfold fstP
  rw [hf]
theorem fstP_none {text : List Int} {i : Nat} (h0 : ∀ j, j < i → smB (nth text j) (nth text i) = false) : fstP text i = i := by
  have hf : (List.range i).find? (fun k => smB (nth text k) (nth text i)) = none := by
    rw [List.find?_eq_none]
    intro j hj
    rw [h0 j (by simpa using hj)]; simp
  unfold fstP
  rw [hf]
/-- What the first place is. -/
theorem fstP_cases (text : List Int) (i : Nat) : (fstP text i = i ∧ ∀ j, j < i → smB (nth text j) (nth text i) = false) ∨ (fstP text i < i ∧ smB (nth text (fstP text i)) (nth text i) = true ∧ ∀ j, j < fstP text i → smB (nth text j) (nth text i) = false) := by
  cases h : (List.range i).find? (fun k => smB (nth text k) (nth text i)) with
  | none =>
    left
    rw [List.find?_eq_none] at h
    have h0 : ∀ j, j < i → smB (nth text j) (nth text i) = false := fun j hj => by simpa using h j (by simpa using hj)
    exact ⟨fstP_none h0, h0⟩
  | some k =>
    right
    rw [List.find?_range_eq_some] at h
    have hk : k < i := by simpa using h.2.1
    have h0 : ∀ j, j < k → smB (nth text j) (nth text i) = false := fun j hj => by simpa using h.2.2 j hj
    have e := fstP_hit hk h0 h.1
    rw [e]
    exact ⟨hk, h.1, h0⟩
theorem smB_iff {v w : Int} : smB v w = true ↔ v = w ∧ alB v = false := by
  unfold smB
  rw [Bool.and_eq_true, beq_iff_eq, Bool.not_eq_true']
theorem fstP_le (text : List Int) (i : Nat) : fstP text i ≤ i := by
  rcases fstP_cases text i with h | h <;> omega
/-- The first place is new. -/
theorem fstP_new (text : List Int) (i : Nat) : fstP text (fstP text i) = fstP text i := by
  rcases fstP_cases text i with h | ⟨h1, h2, h3⟩
  · rw [h.1, h.1]
  · refine fstP_none fun j hj => ?_
    have := h3 j hj
    rw [(smB_iff.1 h2).1]
    exact this
theorem newP_iff {text : List Int} {i : Nat} : newP text i = true ↔ fstP text i = i := by
  unfold newP
  exact beq_iff_eq
theorem rnk_le {text : List Int} {i k : Nat} (h : i ≤ k) : rnk text i ≤ rnk text k := by
  induction k with
  | zero => rw [Nat.le_zero.1 h]; exact Nat.le_refl _
  | succ k ih =>
    by_cases e : i = k + 1
    · rw [e]; exact Nat.le_refl _
    · exact Nat.le_trans (ih (by omega)) (Nat.le_add_right _ _)
theorem rnk_lt {text : List Int} {i k : Nat} (hn : fstP text i = i) (h : i < k) : rnk text i < rnk text k := by
  have : rnk text (i + 1) = rnk text i + 1 := by
    show rnk text i + (if newP text i = true then 1 else 0) = _
    rw [if_pos (newP_iff.2 hn)]
  exact Nat.lt_of_lt_of_le (by omega) (rnk_le (text := text) (show i + 1 ≤ k by omega))
theorem rnk_up (text : List Int) (i : Nat) : rnk text i ≤ i := by
  induction i with
  | zero => exact Nat.le_refl _
  | succ i ih =>
    show rnk text i + (if newP text i = true then 1 else 0) ≤ i + 1
    split <;> omega
/-- One number just if one word that is not alone. -/
theorem num_same {text : List Int} {i k : Nat} (hk : k < i) : numN text i = numN text k ↔ (nth text i = nth text k ∧ alB (nth text i) = false) := by
  have hinj : numN text i = numN text k → fstP text i = fstP text k := fun h => by
    unfold numN at h
    rcases Nat.lt_trichotomy (fstP text i) (fstP text k) with c | c | c
    · have := rnk_lt (fstP_new text i) c; omega
    · exact c
    · have := rnk_lt (fstP_new text k) c; omega
  constructor
  · intro h
    have e := hinj h
    have lk := fstP_le text k
    rcases fstP_cases text i with c | ⟨c1, c2, _⟩
    · omega
    · rw [smB_iff] at c2
      rcases fstP_cases text k with d | ⟨d1, d2, _⟩
      · rw [e, d.1] at c2
        exact ⟨c2.1.symm, by rw [← c2.1]; exact c2.2⟩
      · rw [smB_iff] at d2
        rw [e] at c2
        exact ⟨c2.1.symm.trans d2.1, by rw [← c2.1]; exact c2.2⟩
  · rintro ⟨h1, h2⟩
    unfold numN
    congr 1
    have hki : smB (nth text k) (nth text i) = true := smB_iff.2 ⟨h1.symm, by rw [← h1]; exact h2⟩
    rcases fstP_cases text i with c | ⟨c1, c2, c3⟩
    · rw [c.2 k hk] at hki; cases hki
    · rcases fstP_cases text k with d | ⟨d1, d2, d3⟩
      · rcases Nat.lt_trichotomy (fstP text i) k with e | e | e
        · have := d.2 _ e
          rw [← h1, c2] at this; cases this
        · rw [e, d.1]
        · have := c3 k e
          rw [hki] at this; cases this
      · rcases Nat.lt_trichotomy (fstP text i) (fstP text k) with e | e | e
        · have := d3 _ e
          rw [← h1, c2] at this; cases this
        · exact e
        · have := c3 _ e
          rw [h1, d2] at this; cases this
/-- How many are new below the place: what the next new one gets. -/
theorem num_le (text : List Int) (i : Nat) : numN text i ≤ rnk text i := rnk_le (fstP_le text i)
theorem num_new {text : List Int} {i : Nat} (h : fstP text i = i) : numN text i = rnk text i := by unfold numN; rw [h]
theorem rnk_step (text : List Int) (i : Nat) : rnk text (i + 1) = if fstP text i = i then rnk text i + 1 else rnk text i := by
  show rnk text i + (if newP text i = true then 1 else 0) = _
  by_cases h : fstP text i = i
  · rw [if_pos (newP_iff.2 h), if_pos h]
  · rw [if_neg (fun x => h (newP_iff.1 x)), if_neg h]; rfl
/-- How many unlike numbers the first k of a list are. -/
def frsB (l : List Int) (i : Nat) : Bool := (List.range i).all fun k => nth l k != nth l i
def cntN (l : List Int) : Nat → Nat
  | 0 => 0
  | i + 1 => cntN l i + (if frsB l i = true then 1 else 0)
theorem cnt_up (l : List Int) (i : Nat) : cntN l i ≤ i := by
  induction i with
  | zero => exact Nat.le_refl _
  | succ i ih =>
    show cntN l i + (if frsB l i = true then 1 else 0) ≤ i + 1
    split <;> omega
theorem frsB_iff {l : List Int} {i : Nat} : frsB l i = true ↔ ∀ k, k < i → nth l k ≠ nth l i := by
  unfold frsB
  simp [List.all_eq_true]
/-- Of a text's numbers the new places are counted. -/
theorem cnt_num {text : List Int} {n : Nat} : ∀ {k : Nat}, k ≤ n → cntN (numL text n) k = rnk text k
  | 0, _ => rfl
  | k + 1, h => by
    show cntN (numL text n) k + (if frsB (numL text n) k = true then 1 else 0) = _
    rw [cnt_num (by omega), rnk_step]
    have : frsB (numL text n) k = true ↔ fstP text k = k := by
      rw [frsB_iff]
      constructor
      · intro hx
        rcases fstP_cases text k with c | ⟨c1, c2, c3⟩
        · exact c.1
        · exfalso
          refine hx _ c1 ?_
          rw [numL_nth (by omega), numL_nth (by omega)]
          have := (num_same c1).2 ⟨(smB_iff.1 c2).1.symm, by rw [← (smB_iff.1 c2).1]; exact (smB_iff.1 c2).2⟩
          omega
      · intro hx j hj e
        rw [numL_nth (by omega), numL_nth (by omega)] at e
        have h1 : numN text k = numN text j := by omega
        rw [num_new hx] at h1
        have := num_le text j
        have h2 : rnk text j ≤ rnk text k := rnk_le (by omega)
        obtain ⟨a, b⟩ := (num_same hj).1 (by rw [num_new hx]; exact h1)
        rcases fstP_cases text k with c | c
        · have := c.2 j hj
          rw [smB_iff.2 ⟨a.symm, by rw [← a]; exact b⟩] at this
          cases this
        · omega
    by_cases hx : fstP text k = k
    · rw [if_pos (this.2 hx), if_pos hx]
    · rw [if_neg (fun y => hx (this.1 y)), if_neg hx]; rfl
theorem bit_top {h : Bool} {r : Int} (h0 : 0 ≤ r) : (bitN h r).testBit 15 = (h && decide (r = 15)) := by
  unfold bitN
  cases h with
  | false => rw [if_neg (by decide), Nat.zero_testBit]; rfl
  | true =>
    rw [if_pos rfl, Nat.testBit_two_pow, Bool.true_and]
    by_cases e : r = 15
    · subst e; rfl
    · rw [decide_eq_false e, decide_eq_false (by omega)]
theorem top_bit {n : Nat} (h : n < 65536) : decide (n / 32768 = 1) = n.testBit 15 := by
  rw [Nat.testBit_eq_decide_div_mod_eq]
  have : n / 2 ^ 15 = n / 32768 := rfl
  rw [this, Bool.eq_iff_iff, decide_eq_true_eq, decide_eq_true_eq]
  omega
theorem reg_zero {h : Bool} {x : Int} (hr : regOK h x = true) (hh : h = false) : x = 0 := by
  subst hh
  unfold regOK at hr
  simpa using hr
/-- A word that is alone, by its fields. -/
theorem alone_is (v : Int) (h0 : 0 ≤ v) : alB v = (decide (dOp v < 0) || decide (dOp v = 16) || (decide (dD v = 15 ∨ dA v = 15 ∨ dB v = 15) && !decide (dOp v = 19))) := by
  cases hi : isIns v with
  | false =>
    have e : dOp v = -1 := by unfold dOp; rw [hi]; rfl
    unfold alB
    rw [if_pos (.inl e), decide_eq_true (show dOp v < 0 by omega)]
    rfl
  | true =>
    have hop : dOp v = wOp v := by unfold dOp; rw [hi]; rfl
    have hd : dD v = wD v := by unfold dD; rw [hi]; rfl
    have ha : dA v = wA v := by unfold dA; rw [hi]; rfl
    have hb : dB v = wB v := by unfold dB; rw [hi]; rfl
    have hp : 0 ≤ wOp v := by unfold wOp; omega
    have hin := hi
    unfold isIns insOK at hin
    simp only [Bool.and_eq_true] at hin
    obtain ⟨_, ⟨⟨r1, r2⟩, r3⟩, _⟩ := hin
    have zD := fun e => reg_zero r1 e
    have zA := fun e => reg_zero r2 e
    have zB := fun e => reg_zero r3 e
    rw [← hop] at zD zA zB hp
    rw [← hd] at zD
    rw [← ha] at zA
    rw [← hb] at zB
    have d0 := (dD_reg v).1
    have a0 := (dA_reg v).1
    have b0 := (dB_reg v).1
    have hln : lnB v = ((hA (dOp v) && decide (dA v = 15) || hB (dOp v) && decide (dB v = 15)) || (wrN v).testBit 15) := by
      unfold lnB
      rw [top_bit (orN_lt (rdN_lt v) (wrN_lt v)), Nat.testBit_or]
      congr 1
      unfold rdN
      rw [Nat.testBit_or, bit_top a0, bit_top b0]
    have hwr : ¬ (dOp v = 17 ∨ dOp v = 18) → (wrN v).testBit 15 = (hD (dOp v) && decide (dD v = 15)) := fun h => by
      unfold wrN
      rw [if_neg h, bit_top d0]
    have key : ∀ (h : Bool) (x : Int), (h = false → x = 0) → (h && decide (x = 15)) = decide (x = 15) := fun h x hx => by
      cases h with
      | true => rfl
      | false => rw [hx rfl]; rfl
    rw [Bool.eq_iff_iff]
    unfold alB
    by_cases c16 : dOp v = 16
    · rw [if_pos (.inr c16), decide_eq_true c16]; simp
    · rw [if_neg (by omega), decide_eq_false (show ¬ dOp v < 0 by omega), decide_eq_false c16, Bool.false_or, Bool.false_or]
      by_cases c19 : dOp v = 19 ∨ dOp v = 17
      · rw [if_pos c19]
        rcases c19 with c | c
        · rw [decide_eq_true c]; simp
        · have e1 := zD (by rw [c]; rfl)
          have e2 := zA (by rw [c]; rfl)
          have e3 := zB (by rw [c]; rfl)
          rw [e1, e2, e3]; simp
      · rw [if_neg c19, decide_eq_false (fun h => c19 (.inl h)), Bool.not_false, Bool.and_true]
        by_cases c18 : dOp v = 18
        · rw [if_pos c18]
          have e1 := zD (by rw [c18]; rfl)
          have e3 := zB (by rw [c18]; rfl)
          rw [e1, e3]; simp
        · rw [if_neg c18, hln, hwr (by omega), key _ _ zA, key _ _ zB, key _ _ zD]
          simp only [Bool.or_eq_true, decide_eq_true_eq]
          constructor
          · rintro ((h | h) | h)
            · exact .inr (.inl h)
            · exact .inr (.inr h)
            · exact .inl h
          · rintro (h | h | h)
            · exact .inr h
            · exact .inl (.inl h)
            · exact .inl (.inr h)


end Go.Proofs.Ytblmcphmgicocaa

namespace Go.Proofs.Ytblmcphmgicocaa
open Go.RowKit

/-- Nothing is other but what lies in block g, and new blocks. -/
def But (g : Nat) (w w' : World) : Prop := w'.os = w.os ∧ w'.tape = w.tape ∧ w'.output = w.output ∧ w.heap.size ≤ w'.heap.size ∧ ∀ k, k < w.heap.size → k ≠ g → w'.heap[k]? = w.heap[k]?
theorem But.refl (g : Nat) (w : World) : But g w w := ⟨rfl, rfl, rfl, Nat.le_refl _, fun _ _ _ => rfl⟩
theorem But.trans {g : Nat} {a b c : World} (h : But g a b) (k : But g b c) : But g a c :=
  ⟨k.1.trans h.1, k.2.1.trans h.2.1, k.2.2.1.trans h.2.2.1, Nat.le_trans h.2.2.2.1 k.2.2.2.1, fun i hi hn => (k.2.2.2.2 i (Nat.lt_of_lt_of_le hi h.2.2.2.1) hn).trans (h.2.2.2.2 i hi hn)⟩
theorem But.of {g : Nat} {w w' : World} (h : Below w.heap.size w w') : But g w w' := ⟨h.os, h.tape, h.output, h.size, fun k hk _ => h.block k hk⟩
theorem But.on {g : Nat} {a b c : World} (h : But g a b) (k : Below b.heap.size b c) : But g a c := h.trans (But.of k)
theorem But.set {g : Nat} {a b : World} (h : But g a b) (i : Nat) (v : Value) : But g a (b.setCell ⟨g, i, none⟩ v) :=
  h.trans ⟨rfl, rfl, rfl, Nat.le_of_eq (by simp [go_sem]), fun k _ hn => Below.heap_setCell _ _ _ _ hn⟩
theorem But.drewN {g : Nat} {a b : World} (h : But g a b) (n : Nat) : But g a (b.drewN n) := h
theorem But.cell {g : Nat} {w w' : World} (h : But g w w') {p : Addr} {v : Value} (hp : p.block ≠ g) (hc : w.cell? p = some v) : w'.cell? p = some v := by
  rw [World.cell?_of_block (w := w) (h.2.2.2.2 p.block (World.block_lt_of_cell? w _ hc) hp)]; exact hc
theorem But.below {g : Nat} {w0 w w' : World} (h : But g w w') (hb : Below w0.heap.size w0 w) (hg : w0.heap.size ≤ g) : Below w0.heap.size w0 w' :=
  ⟨h.1.trans hb.os, h.2.1.trans hb.tape, h.2.2.1.trans hb.output, Nat.le_trans hb.size h.2.2.2.1, fun k hk => (h.2.2.2.2 k (Nat.lt_of_lt_of_le hk hb.size) (by omega)).trans (hb.block k hk)⟩








end Go.Proofs.Ytblmcphmgicocaa

namespace Go.Proofs.Ytblmcphmgicocaa
open Go.RowKit

/-- A number's four bytes, the highest first; of eight. -/
def be4 (n : Int) : List Int := [n / 16777216 % 256, n / 65536 % 256, n / 256 % 256, n % 256]
def be8 (n : Int) : List Int := be4 (n / 4294967296) ++ be4 n
def v4 : List Int → Int
  | a :: b :: c :: d :: _ => ((a * 256 + b) * 256 + c) * 256 + d
  | _ => 0
def s64 (x : Int) : Int := if x < 9223372036854775808 then x else x - 18446744073709551616
def v8 (l : List Int) : Int := s64 (v4 l * 4294967296 + v4 (l.drop 4))
/-- Each is a byte. -/
def AreB (l : List Int) : Prop := ∀ x ∈ l, 0 ≤ x ∧ x < 256
theorem AreB.drop {l : List Int} (h : AreB l) (k : Nat) : AreB (l.drop k) := fun x hx => h x (List.mem_of_mem_drop hx)
theorem AreB.take {l : List Int} (h : AreB l) (k : Nat) : AreB (l.take k) := fun x hx => h x (List.mem_of_mem_take hx)
theorem AreB.app {l r : List Int} (h : AreB l) (k : AreB r) : AreB (l ++ r) := fun x hx => (List.mem_append.1 hx).elim (h x) (k x)
theorem be4_len (n : Int) : (be4 n).length = 4 := rfl
theorem be8_len (n : Int) : (be8 n).length = 8 := rfl
theorem be4_areB (n : Int) : AreB (be4 n) := fun x hx => by
  simp [be4] at hx
  omega
theorem be8_areB (n : Int) : AreB (be8 n) := (be4_areB _).app (be4_areB _)
theorem v4_be4 (n : Int) (r : List Int) : v4 (be4 n ++ r) = n % 4294967296 := by
  simp only [be4, List.cons_append, List.nil_append, v4]
  omega
theorem four_parts {l : List Int} (h : 4 ≤ l.length) : ∃ a b c d r, l = a :: b :: c :: d :: r := by
  match l, h with
  | a :: b :: c :: d :: r, _ => exact ⟨a, b, c, d, r, rfl⟩
theorem be4_v4 {l : List Int} (h : 4 ≤ l.length) (hb : AreB l) : l = be4 (v4 l) ++ l.drop 4 ∧ 0 ≤ v4 l ∧ v4 l < 4294967296 := by
  obtain ⟨a, b, c, d, r, rfl⟩ := four_parts h
  have h0 := hb a (by simp)
  have h1 := hb b (by simp)
  have h2 := hb c (by simp)
  have h3 := hb d (by simp)
  simp only [v4, be4, List.cons_append, List.nil_append, List.drop_succ_cons, List.drop_zero, List.cons.injEq, and_true]
  omega
theorem v8_be8 (n : Int) (r : List Int) (h0 : -9223372036854775808 ≤ n) (h1 : n < 9223372036854775808) : v8 (be8 n ++ r) = n := by
  have e : (be8 n ++ r).drop 4 = be4 n ++ r := rfl
  unfold v8
  rw [e, v4_be4]
  unfold be8
  rw [List.append_assoc, v4_be4]
  unfold s64
  split <;> omega
theorem be8_v8 {l : List Int} (h : 8 ≤ l.length) (hb : AreB l) : l = be8 (v8 l) ++ l.drop 8 ∧ -9223372036854775808 ≤ v8 l ∧ v8 l < 9223372036854775808 := by
  obtain ⟨e1, a1, a2⟩ := be4_v4 (l := l) (by omega) hb
  obtain ⟨e2, b1, b2⟩ := be4_v4 (l := l.drop 4) (by simp; omega) (hb.drop 4)
  have k1 : v8 l / 4294967296 % 4294967296 = v4 l := by
    unfold v8 s64
    split <;> omega
  have k2 : v8 l % 4294967296 = v4 (l.drop 4) := by
    unfold v8 s64
    split <;> omega
  have m4 : ∀ x : Int, be4 (x % 4294967296) = be4 x := fun x => by
    simp only [be4, List.cons.injEq, and_true]
    omega
  refine ⟨?_, ?_, ?_⟩
  · unfold be8
    rw [← m4 (v8 l / 4294967296), ← m4 (v8 l), k1, k2, List.append_assoc, show l.drop 8 = (l.drop 4).drop 4 by rw [List.drop_drop], ← e2]
    exact e1
  · unfold v8 s64
    split <;> omega
  · unfold v8 s64
    split <;> omega
/-- The sum of bytes. -/
def sumB (l : List Int) : Int := l.foldl (fun s b => (31 * s + b) % 4294967296) 0
/-- A text's bytes. -/
def strB (s : ByteArray) : List Int := s.data.toList.map fun c => (c.toNat : Int)
def textB (s : ByteArray) : List Int := be4 s.size ++ strB s
def symB (x : Sym) : List Int := textB x.1 ++ be4 x.2.1 ++ be4 x.2.2
def relB (x : Rel) : List Int := be4 x.1 ++ be4 x.2
def bodyB (nm : ByteArray) (code : List Int) (dA : Int) (data : List Int) (ss : List Sym) (rs : List Rel) : List Int :=
  [80, 76, 79, 49] ++ textB nm ++ be4 code.length ++ code.flatMap be4 ++ be4 dA ++ be4 data.length ++ data.flatMap be8 ++ be4 ss.length ++ ss.flatMap symB ++ be4 rs.length ++ rs.flatMap relB
def bytesB (nm : ByteArray) (code : List Int) (dA : Int) (data : List Int) (ss : List Sym) (rs : List Rel) : List Int :=
  bodyB nm code dA data ss rs ++ be4 (sumB (bodyB nm code dA data ss rs))
/-- Where a taker stands, and what is wrong. -/
structure Tk where
  pos : Nat
  bad : Int
  place : Int
def tWrong (t : Tk) (e p : Int) : Tk := if t.bad = 0 then ⟨t.pos, e, p⟩ else t
def tHas (N : Nat) (t : Tk) (n : Int) : Tk := if t.bad = 0 ∧ (N : Int) - t.pos < n then ⟨t.pos, 27, N⟩ else t
def tFour (b : List Int) (t : Tk) : Int × Tk := if (tHas b.length t 4).bad = 0 then (v4 (b.drop t.pos), ⟨t.pos + 4, 0, t.place⟩) else (0, tHas b.length t 4)
def tEight (b : List Int) (t : Tk) : Int × Tk := if (tHas b.length t 8).bad = 0 then (v8 (b.drop t.pos), ⟨t.pos + 8, 0, t.place⟩) else (0, tHas b.length t 8)
def tCount (b : List Int) (most : Int) (t : Tk) : Int × Tk :=
  if (tFour b t).2.bad = 0 then (if most < (tFour b t).1 then (0, ⟨t.pos + 4, 27, t.pos⟩) else tFour b t) else (0, (tFour b t).2)
def tBegin (b want : List Int) : Tk := match (List.range want.length).find? (fun i => decide (b.length ≤ i) || nth b i != nth want i) with
  | some i => ⟨want.length, 27, i⟩
  | none => ⟨want.length, 0, 0⟩
def strOf (l : List Int) : ByteArray := ⟨(l.map fun x => UInt8.ofNat x.toNat).toArray⟩
def tName (b : List Int) (t : Tk) : ByteArray × Tk :=
  if (tHas b.length (tCount b 24 t).2 (tCount b 24 t).1).bad = 0 then (strOf ((b.drop (tCount b 24 t).2.pos).take (tCount b 24 t).1.toNat), ⟨(tCount b 24 t).2.pos + (tCount b 24 t).1.toNat, 0, (tCount b 24 t).2.place⟩) else (⟨#[]⟩, tHas b.length (tCount b 24 t).2 (tCount b 24 t).1)
def tList {α : Type} (f : Tk → α × Tk) : Nat → Tk → List α × Tk
  | 0, t => ([], t)
  | n + 1, t => if t.bad = 0 then ((f t).1 :: (tList f n (f t).2).1, (tList f n (f t).2).2) else ([], t)
def great : Int := 2147483647
def tSym (b : List Int) (t : Tk) : Sym × Tk :=
  (((tName b t).1, (tCount b 3 (tName b t).2).1, (tCount b great (tCount b 3 (tName b t).2).2).1), (tCount b great (tCount b 3 (tName b t).2).2).2)
def tRel (b : List Int) (t : Tk) : Rel × Tk := (((tCount b great t).1, (tCount b great (tCount b great t).2).1), (tCount b great (tCount b great t).2).2)
def tEnd (b : List Int) (t : Tk) : Tk :=
  if (tFour b t).2.bad = 0 then (if t.pos + 4 < b.length then ⟨t.pos + 4, 27, t.pos + 4⟩ else if (tFour b t).1 = sumB (b.take t.pos) then (tFour b t).2 else ⟨t.pos + 4, 28, t.pos⟩) else (tFour b t).2
/-- All that is taken of an object's bytes. -/
structure Took where
  nm : ByteArray
  code : List Int
  dA : Int
  data : List Int
  ss : List Sym
  rs : List Rel
  t : Tk
def tCode (b : List Int) : List Int × Tk := tList (tFour b) (tCount b 16384 (tName b (tBegin b [80, 76, 79, 49])).2).1.toNat (tCount b 16384 (tName b (tBegin b [80, 76, 79, 49])).2).2
def tDat (b : List Int) : Int × Tk := tCount b great (tCode b).2
def tData (b : List Int) : List Int × Tk := tList (tEight b) (tCount b 4096 (tDat b).2).1.toNat (tCount b 4096 (tDat b).2).2
def tSyms (b : List Int) : List Sym × Tk := tList (tSym b) (tCount b 256 (tData b).2).1.toNat (tCount b 256 (tData b).2).2
def tRels (b : List Int) : List Rel × Tk := tList (tRel b) (tCount b (tCode b).1.length (tSyms b).2).1.toNat (tCount b (tCode b).1.length (tSyms b).2).2
def took (b : List Int) : Took := ⟨(tName b (tBegin b [80, 76, 79, 49])).1, (tCode b).1, (tDat b).1, (tData b).1, (tSyms b).1, (tRels b).1, tEnd b (tRels b).2⟩









end Go.Proofs.Ytblmcphmgicocaa
