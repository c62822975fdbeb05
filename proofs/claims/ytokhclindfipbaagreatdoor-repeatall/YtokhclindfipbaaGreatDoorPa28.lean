/-
  Numbers of words, plain: one number just if one word that is not alone. The document on what a word reads and writes; each word is of 32 bits. The document on what a word writes, on links, on what stands alone, on rows; each word is of 32 bits. The document's Same, Numbers and Count.
-/
import Derived.Test.YtokhclindfipbaaGreatDoorProg
import Derived.WalkKit
import Derived.WalkSpells
import Derived.WalkLawsBesides
import Derived.RowKit3
import Derived.Below
import Derived.Deep.QuietTactic
import Derived.BigQuiet
import Derived.WalkSmall
import Derived.Laws.Rows
import Derived.Test.YtokhclindfipbaaGreatDoorPa27
import Derived.Deep.RegionHeld3
import Derived.Test.YtokhclindfipbaaGreatDoorPa24
import Derived.Test.YtokhclindfipbaaGreatDoorPa06
import Derived.Test.YtokhclindfipbaaGreatDoorPa18
namespace Go.Proofs.YtokhclindfipbaaGreatDoor
open Go.RowKit

/-- One word, which is not alone? -/
def smB (v w : Int) : Bool := (v == w) && !alB v
/-- The first place ahead of i whose word is the same; i itself, if there is none. -/
def fstP (text : List Int) (i : Nat) : Nat := match (List.range i).find? fun k => smB (nth text k) (nth text i) with
  | some k => k
  | none => i
def newP (text : List Int) (i : Nat) : Bool := fstP text i == i
/-- How many places ahead of i are new. -/
def rnk (text : List Int) : Nat → Nat
  | 0 => 0
  | i + 1 => rnk text i + (if newP text i = true then 1 else 0)
/-- The number of the place i. -/
def numN (text : List Int) (i : Nat) : Nat := rnk text (fstP text i)
def numL (text : List Int) (k : Nat) : List Int := (List.range k).map fun i => ((numN text i : Nat) : Int)
theorem numL_len (text : List Int) (k : Nat) : (numL text k).length = k := by simp [numL]
theorem numL_succ (text : List Int) (k : Nat) : numL text (k + 1) = numL text k ++ [((numN text k : Nat) : Int)] := by simp [numL, List.range_succ]
theorem numL_nth {text : List Int} {k i : Nat} (h : i < k) : nth (numL text k) i = ((numN text i : Nat) : Int) := by simp [nth, numL, h]
theorem fstP_hit {text : List Int} {i k : Nat} (hk : k < i) (h0 : ∀ j, j < k → smB (nth text j) (nth text i) = false) (h : smB (nth text k) (nth text i) = true) : fstP text i = k := by
  have hf : (List.range i).find? (fun k => smB (nth text k) (nth text i)) = some k := by
    rw [List.find?_range_eq_some]
    exact ⟨h, by simpa using hk, fun j hj => by rw [h0 j hj]; rfl⟩
  unfold fstP
  rw [hf]
theorem fstP_none {text : List Int} {i : Nat} (h0 : ∀ j, j < i → smB (nth text j) (nth text i) = false) : fstP text i = i := by
  have hf : (List.range i).find? (fun k => smB (nth text k) (nth text i)) = none := by
    rw [List.find?_eq_none]
    intro j hj
    rw [h0 j (by simpa using hj)]; simp
  unfold fstP
  rw [hf]
/-- What the first place is. -/
theorem fstP_cases (text : List Int) (i : Nat) : (fstP text i = i ∧ ∀ j, j < i → smB (nth text j) (nth text i) = false) ∨ (fstP text i < i ∧ smB (nth text (fstP text i)) (nth text i) = true ∧ ∀ j, j < fstP text i → smB (nth text j) (nth text i) = false) := by
  cases h : (List.range i).find? (fun k => smB (nth text k) (nth text i)) with
  | none =>
    left
    rw [List.find?_eq_none] at h
    have h0 : ∀ j, j < i → smB (nth text j) (nth text i) = false := fun j hj => by simpa using h j (by simpa using hj)
    exact ⟨fstP_none h0, h0⟩
  | some k =>
    right
    rw [List.find?_range_eq_some] at h
    have hk : k < i := by simpa using h.2.1
    have h0 : ∀ j, j < k → smB (nth text j) (nth text i) = false := fun j hj => by simpa using h.2.2 j hj
    have e := fstP_hit hk h0 h.1
    rw [e]
    exact ⟨hk, h.1, h0⟩
theorem smB_iff {v w : Int} : smB v w = true ↔ v = w ∧ alB v = false := by
  unfold smB
  rw [Bool.and_eq_true, beq_iff_eq, Bool.not_eq_true']
theorem fstP_le (text : List Int) (i : Nat) : fstP text i ≤ i := by
  rcases fstP_cases text i with h | h <;> omega
/-- The first place is new. -/
theorem fstP_new (text : List Int) (i : Nat) : fstP text (fstP text i) = fstP text i := by
  rcases fstP_cases text i with h | ⟨h1, h2, h3⟩
  · rw [h.1, h.1]
  · refine fstP_none fun j hj => ?_
    have := h3 j hj
    rw [(smB_iff.1 h2).1]
    exact this
theorem newP_iff {text : List Int} {i : Nat} : newP text i = true ↔ fstP text i = i := by
  unfold newP
  exact beq_iff_eq
theorem rnk_le {text : List Int} {i k : Nat} (h : i ≤ k) : rnk text i ≤ rnk text k := by
  induction k with
  | zero => rw [Nat.le_zero.1 h]; exact Nat.le_refl _
  | succ k ih =>
    by_cases e : i = k + 1
    · rw [e]; exact Nat.le_refl _
    · exact Nat.le_trans (ih (by omega)) (Nat.le_add_right _ _)
theorem rnk_lt {text : List Int} {i k : Nat} (hn : fstP text i = i) (h : i < k) : rnk text i < rnk text k := by
  have : rnk text (i + 1) = rnk text i + 1 := by
    show rnk text i + (if newP text i = true then 1 else 0) = _
    rw [if_pos (newP_iff.2 hn)]
  exact Nat.lt_of_lt_of_le (by omega) (rnk_le (text := text) (show i + 1 ≤ k by omega))
theorem rnk_up (text : List Int) (i : Nat) : rnk text i ≤ i := by
  induction i with
  | zero => exact Nat.le_refl _
  | succ i ih =>
    show rnk text i + (if newP text i = true then 1 else 0) ≤ i + 1
    split <;> omega
/-- One number just if one word that is not alone. -/
theorem num_same {text : List Int} {i k : Nat} (hk : k < i) : numN text i = numN text k ↔ (nth text i = nth text k ∧ alB (nth text i) = false) := by
  have hinj : numN text i = numN text k → fstP text i = fstP text k := fun h => by
    unfold numN at h
    rcases Nat.lt_trichotomy (fstP text i) (fstP text k) with c | c | c
    · have := rnk_lt (fstP_new text i) c; omega
    · exact c
    · have := rnk_lt (fstP_new text k) c; omega
  constructor
  · intro h
    have e := hinj h
    have lk := fstP_le text k
    rcases fstP_cases text i with c | ⟨c1, c2, _⟩
    · omega
    · rw [smB_iff] at c2
      rcases fstP_cases text k with d | ⟨d1, d2, _⟩
      · rw [e, d.1] at c2
        exact ⟨c2.1.symm, by rw [← c2.1]; exact c2.2⟩
      · rw [smB_iff] at d2
        rw [e] at c2
        exact ⟨c2.1.symm.trans d2.1, by rw [← c2.1]; exact c2.2⟩
  · rintro ⟨h1, h2⟩
    unfold numN
    congr 1
    have hki : smB (nth text k) (nth text i) = true := smB_iff.2 ⟨h1.symm, by rw [← h1]; exact h2⟩
    rcases fstP_cases text i with c | ⟨c1, c2, c3⟩
    · rw [c.2 k hk] at hki; cases hki
    · rcases fstP_cases text k with d | ⟨d1, d2, d3⟩
      · rcases Nat.lt_trichotomy (fstP text i) k with e | e | e
        · have := d.2 _ e
          rw [← h1, c2] at this; cases this
        · rw [e, d.1]
        · have := c3 k e
          rw [hki] at this; cases this
      · rcases Nat.lt_trichotomy (fstP text i) (fstP text k) with e | e | e
        · have := d3 _ e
          rw [← h1, c2] at this; cases this
        · exact e
        · have := c3 _ e
          rw [h1, d2] at this; cases this
/-- How many are new below the place: what the next new one gets. -/
theorem num_le (text : List Int) (i : Nat) : numN text i ≤ rnk text i := rnk_le (fstP_le text i)
theorem num_new {text : List Int} {i : Nat} (h : fstP text i = i) : numN text i = rnk text i := by unfold numN; rw [h]
theorem rnk_step (text : List Int) (i : Nat) : rnk text (i + 1) = if fstP text i = i then rnk text i + 1 else rnk text i := by
  show rnk text i + (if newP text i = true then 1 else 0) = _
  by_cases h : fstP text i = i
  · rw [if_pos (newP_iff.2 h), if_pos h]
  · rw [if_neg (fun x => h (newP_iff.1 x)), if_neg h]; rfl
/-- How many unlike numbers the first k of a list are. -/
def frsB (l : List Int) (i : Nat) : Bool := (List.range i).all fun k => nth l k != nth l i
def cntN (l : List Int) : Nat → Nat
  | 0 => 0
  | i + 1 => cntN l i + (if frsB l i = true then 1 else 0)
theorem cnt_up (l : List Int) (i : Nat) : cntN l i ≤ i := by
  induction i with
  | zero => exact Nat.le_refl _
  | succ i ih =>
    show cntN l i + (if frsB l i = true then 1 else 0) ≤ i + 1
    split <;> omega
theorem frsB_iff {l : List Int} {i : Nat} : frsB l i = true ↔ ∀ k, k < i → nth l k ≠ nth l i := by
  unfold frsB
  simp [List.all_eq_true]
/-- Of a text's numbers the new places are counted. -/
theorem cnt_num {text : List Int} {n : Nat} : ∀ {k : Nat}, k ≤ n → cntN (numL text n) k = rnk text k
  | 0, _ => rfl
  | k + 1, h => by
    show cntN (numL text n) k + (if frsB (numL text n) k = true then 1 else 0) = _
    rw [cnt_num (by omega), rnk_step]
    have : frsB (numL text n) k = true ↔ fstP text k = k := by
      rw [frsB_iff]
      constructor
      · intro hx
        rcases fstP_cases text k with c | ⟨c1, c2, c3⟩
        · exact c.1
        · exfalso
          refine hx _ c1 ?_
          rw [numL_nth (by omega), numL_nth (by omega)]
          have := (num_same c1).2 ⟨(smB_iff.1 c2).1.symm, by rw [← (smB_iff.1 c2).1]; exact (smB_iff.1 c2).2⟩
          omega
      · intro hx j hj e
        rw [numL_nth (by omega), numL_nth (by omega)] at e
        have h1 : numN text k = numN text j := by omega
        rw [num_new hx] at h1
        have := num_le text j
        have h2 : rnk text j ≤ rnk text k := rnk_le (by omega)
        obtain ⟨a, b⟩ := (num_same hj).1 (by rw [num_new hx]; exact h1)
        rcases fstP_cases text k with c | c
        · have := c.2 j hj
          rw [smB_iff.2 ⟨a.symm, by rw [← a]; exact b⟩] at this
          cases this
        · omega
    by_cases hx : fstP text k = k
    · rw [if_pos (this.2 hx), if_pos hx]
    · rw [if_neg (fun y => hx (this.1 y)), if_neg hx]; rfl
theorem bit_top {h : Bool} {r : Int} (h0 : 0 ≤ r) : (bitN h r).testBit 15 = (h && decide (r = 15)) := by
  unfold bitN
  cases h with
  | false => rw [if_neg (by decide), Nat.zero_testBit]; rfl
  | true =>
    rw [if_pos rfl, Nat.testBit_two_pow, Bool.true_and]
    by_cases e : r = 15
    · subst e; rfl
    · rw [decide_eq_false e, decide_eq_false (by omega)]
theorem top_bit {n : Nat} (h : n < 65536) : decide (n / 32768 = 1) = n.testBit 15 := by
  rw [Nat.testBit_eq_decide_div_mod_eq]
  have : n / 2 ^ 15 = n / 32768 := rfl
  rw [this, Bool.eq_iff_iff, decide_eq_true_eq, decide_eq_true_eq]
  omega
theorem reg_zero {h : Bool} {x : Int} (hr : regOK h x = true) (hh : h = false) : x = 0 := by
  subst hh
  unfold regOK at hr
  simpa using hr
/-- A word that is alone, by its fields. -/
theorem alone_is (v : Int) (h0 : 0 ≤ v) : alB v = (decide (dOp v < 0) || decide (dOp v = 16) || (decide (dD v = 15 ∨ dA v = 15 ∨ dB v = 15) && !decide (dOp v = 19))) := by
  cases hi : isIns v with
  | false =>
    have e : dOp v = -1 := by unfold dOp; rw [hi]; rfl
    unfold alB
    rw [if_pos (.inl e), decide_eq_true (show dOp v < 0 by omega)]
    rfl
  | true =>
    have hop : dOp v = wOp v := by unfold dOp; rw [hi]; rfl
    have hd : dD v = wD v := by unfold dD; rw [hi]; rfl
    have ha : dA v = wA v := by unfold dA; rw [hi]; rfl
    have hb : dB v = wB v := by unfold dB; rw [hi]; rfl
    have hp : 0 ≤ wOp v := by unfold wOp; omega
    have hin := hi
    unfold isIns insOK at hin
    simp only [Bool.and_eq_true] at hin
    obtain ⟨_, ⟨⟨r1, r2⟩, r3⟩, _⟩ := hin
    have zD := fun e => reg_zero r1 e
    have zA := fun e => reg_zero r2 e
    have zB := fun e => reg_zero r3 e
    rw [← hop] at zD zA zB hp
    rw [← hd] at zD
    rw [← ha] at zA
    rw [← hb] at zB
    have d0 := (dD_reg v).1
    have a0 := (dA_reg v).1
    have b0 := (dB_reg v).1
    have hln : lnB v = ((hA (dOp v) && decide (dA v = 15) || hB (dOp v) && decide (dB v = 15)) || (wrN v).testBit 15) := by
      unfold lnB
      rw [top_bit (orN_lt (rdN_lt v) (wrN_lt v)), Nat.testBit_or]
      congr 1
      unfold rdN
      rw [Nat.testBit_or, bit_top a0, bit_top b0]
    have hwr : ¬ (dOp v = 17 ∨ dOp v = 18) → (wrN v).testBit 15 = (hD (dOp v) && decide (dD v = 15)) := fun h => by
      unfold wrN
      rw [if_neg h, bit_top d0]
    have key : ∀ (h : Bool) (x : Int), (h = false → x = 0) → (h && decide (x = 15)) = decide (x = 15) := fun h x hx => by
      cases h with
      | true => rfl
      | false => rw [hx rfl]; rfl
    rw [Bool.eq_iff_iff]
    unfold alB
    by_cases c16 : dOp v = 16
    · rw [if_pos (.inr c16), decide_eq_true c16]; simp
    · rw [if_neg (by omega), decide_eq_false (show ¬ dOp v < 0 by omega), decide_eq_false c16, Bool.false_or, Bool.false_or]
      by_cases c19 : dOp v = 19 ∨ dOp v = 17
      · rw [if_pos c19]
        rcases c19 with c | c
        · rw [decide_eq_true c]; simp
        · have e1 := zD (by rw [c]; rfl)
          have e2 := zA (by rw [c]; rfl)
          have e3 := zB (by rw [c]; rfl)
          rw [e1, e2, e3]; simp
      · rw [if_neg c19, decide_eq_false (fun h => c19 (.inl h)), Bool.not_false, Bool.and_true]
        by_cases c18 : dOp v = 18
        · rw [if_pos c18]
          have e1 := zD (by rw [c18]; rfl)
          have e3 := zB (by rw [c18]; rfl)
          rw [e1, e3]; simp
        · rw [if_neg c18, hln, hwr (by omega), key _ _ zA, key _ _ zB, key _ _ zD]
          simp only [Bool.or_eq_true, decide_eq_true_eq]
          constructor
          · rintro ((h | h) | h)
            · exact .inr (.inl h)
            · exact .inr (.inr h)
            · exact .inl h
          · rintro (h | h | h)
            · exact .inr h
            · exact .inl (.inl h)
            · exact .inl (.inr h)




end Go.Proofs.YtokhclindfipbaaGreatDoor

namespace Go.Proofs.YtokhclindfipbaaGreatDoor
open Go.RowKit

set_option maxHeartbeats 2000000 in
theorem bit_any (h : Bool) (r : Int) (h0 : 0 ≤ r) (h1 : r ≤ 15) (w : World) : Calls Tryz.prog 143 #[.bool h, .int .i8 r] w fun e w' => e = .returned (.int .u16 ((bitN h r : Nat) : Int)) ∧ w' = w := by
  cases h with
  | false =>
    go_enter Tryz.func143, Tryz.ntmps143
    go_wp2
    go_ret
    exact ⟨rfl, rfl⟩
  | true =>
    rcases (show r = 0 ∨ r = 1 ∨ r = 2 ∨ r = 3 ∨ r = 4 ∨ r = 5 ∨ r = 6 ∨ r = 7 ∨ r = 8 ∨ r = 9 ∨ r = 10 ∨ r = 11 ∨ r = 12 ∨ r = 13 ∨ r = 14 ∨ r = 15 by omega) with rfl | rfl | rfl | rfl | rfl | rfl | rfl | rfl | rfl | rfl | rfl | rfl | rfl | rfl | rfl | rfl
    all_goals (
      go_enter Tryz.func143, Tryz.ntmps143
      go_wp2
      go_ret
      exact ⟨rfl, rfl⟩)
set_option maxRecDepth 100000 in
set_option maxHeartbeats 2000000 in
theorem refreads_any (v : Int) (h0 : 0 ≤ v) (h1 : v < 4294967296) (w : World) : Calls Tryz.prog 128 #[.int .u32 v] w fun e w' => e = .returned (.int .u16 ((rdN v : Nat) : Int)) ∧ Below w.heap.size w w' := by
  have C := refdecode_any v h0 h1 w
  have ha := dA_reg v
  have hb := dB_reg v
  have B1 := fun wx => bit_any (hA (dOp v)) (dA v) ha.1 ha.2 wx
  have B2 := fun wx => bit_any (hB (dOp v)) (dB v) hb.1 hb.2 wx
  have CH := fun wx => refhas_any (dOp v) wx
  have hor := orI (bitN_lt (hA (dOp v)) ha.2) (bitN_lt (hB (dOp v)) hb.2)
  have HR : Hid (rdN v = bitN (hA (dOp v)) (dA v) ||| bitN (hB (dOp v)) (dB v)) := rfl
  rw [HR.out]
  clear HR ha hb
  generalize bitN (hA (dOp v)) (dA v) = x at *
  generalize bitN (hB (dOp v)) (dB v) = y at *
  generalize dOp v = op at *
  generalize dD v = dd at *
  generalize dA v = da at *
  generalize dB v = db at *
  generalize dN v = dn at *
  generalize hD op = p1 at *
  generalize hA op = p2 at *
  generalize hB op = p3 at *
  generalize hN op = p4 at *
  generalize hP op = p5 at *
  go_enter Tryz.func128, Tryz.ntmps128
  go_upto_region 3 with (first
    | (go_at_call 58; refine C.mono ?_; rintro e w1 ⟨rfl, hb1⟩; have HB1 : Hid (Below w.heap.size w w1) := hb1; clear hb1)
    | (go_at_call 72; refine (CH _).mono ?_; rintro e w2 ⟨rfl, rfl⟩))
  obtain ⟨X, HX⟩ : ∃ X, Hid ((((w1.alloc (.cells #[.int .i8 op, .int .i8 dd, .int .i8 da, .int .i8 db, .int .i64 dn] 99)).alloc (.cells #[.bool p1, .bool p2, .bool p3, .bool p4, .bool p5] 148)).alloc (.cells #[.bool p1, .bool p2, .bool p3, .bool p4, .bool p5] 148)) = X) := ⟨_, rfl⟩
  have HBX : Hid (Below w.heap.size w X) := by unfold Hid; rw [← HX.out]; exact lb_alloc (lb_alloc (lb_alloc HB1.out _) _) _
  have c2 : X.cell? ⟨w1.heap.size, 2, none⟩ = some (.int .i8 da) := by rw [← HX.out]; simp [go_sem]
  have c3 : X.cell? ⟨w1.heap.size, 3, none⟩ = some (.int .i8 db) := by rw [← HX.out]; simp [go_sem]
  have f1 : X.cell? ⟨w1.heap.size + 1 + 1, 1, none⟩ = some (.bool p2) := by rw [← HX.out]; simp [go_sem]
  have f2 : X.cell? ⟨w1.heap.size + 1 + 1, 2, none⟩ = some (.bool p3) := by rw [← HX.out]; simp [go_sem]
  rw [HX.out]
  clear HX
  go_region_held3 (fun Y => Below w.heap.size w Y ∧ Y.cell? ⟨w1.heap.size, 2, none⟩ = some (.int .i8 da) ∧ Y.cell? ⟨w1.heap.size, 3, none⟩ = some (.int .i8 db) ∧ Y.cell? ⟨w1.heap.size + 1 + 1, 1, none⟩ = some (.bool p2) ∧ Y.cell? ⟨w1.heap.size + 1 + 1, 2, none⟩ = some (.bool p3)) (first | exact ⟨HBX.out, c2, c3, f1, f2⟩ | exact ⟨HBX.out.drew, c2, c3, f1, f2⟩ | (simp [*]; done))
    ((go_at_call 143; first | (refine (B1 _).mono ?_; rintro e w5 ⟨rfl, hw5⟩; have hw5 := hw5.symm; subst hw5) | (refine (B2 _).mono ?_; rintro e w5 ⟨rfl, hw5⟩; have hw5 := hw5.symm; subst hw5)))
  all_goals (
    rename_i hS
    clear hS
    go_wp2_with fail
    go_ret
    exact ⟨by first | rfl | (rw [← hor]), by first | exact HBX.out | exact HBX.out.drew⟩)






end Go.Proofs.YtokhclindfipbaaGreatDoor

namespace Go.Proofs.YtokhclindfipbaaGreatDoor
open Go.RowKit

@[go_sem] theorem field_has0 (x d a b n : Bool) (w : World) : (Instr.field 148 (.agg #[.bool x, .bool d, .bool a, .bool b, .bool n]) 0).run Tryz.prog w = .ok (.bool x) w := by kernel_rfl
set_option maxRecDepth 100000 in
set_option maxHeartbeats 2000000 in
theorem refwrites_any (v : Int) (h0 : 0 ≤ v) (h1 : v < 4294967296) (w : World) : Calls Tryz.prog 129 #[.int .u32 v] w fun e w' => e = .returned (.int .u16 ((wrN v : Nat) : Int)) ∧ Below w.heap.size w w' := by
  have C := refdecode_any v h0 h1 w
  by_cases hc : dOp v = 17 ∨ dOp v = 18
  · have HR : Hid (wrN v = 32768) := if_pos hc
    rw [HR.out]
    clear HR
    generalize dOp v = op at *
    generalize dD v = dd at *
    generalize dA v = da at *
    generalize dB v = db at *
    generalize dN v = dn at *
    rcases hc with rfl | rfl
    all_goals (
      go_enter Tryz.func129, Tryz.ntmps129
      go_wp2_with (go_at_call 58; refine C.mono ?_; rintro e w1 ⟨rfl, hb1⟩)
      go_ret
      exact ⟨rfl, lb_alloc hb1 _⟩)
  · have HR : Hid (wrN v = bitN (hD (dOp v)) (dD v)) := if_neg hc
    have hd := dD_reg v
    have B1 := fun wx => bit_any (hD (dOp v)) (dD v) hd.1 hd.2 wx
    have CH := fun wx => refhas_any (dOp v) wx
    rw [HR.out]
    clear HR hd
    have o1 : (dOp v == 17) = false := by rw [beq_eq_false_iff_ne]; exact fun e => hc (.inl e)
    have o2 : (dOp v == 18) = false := by rw [beq_eq_false_iff_ne]; exact fun e => hc (.inr e)
    clear hc
    generalize bitN (hD (dOp v)) (dD v) = x at *
    generalize dOp v = op at *
    generalize dD v = dd at *
    generalize dA v = da at *
    generalize dB v = db at *
    generalize dN v = dn at *
    generalize hD op = p1 at *
    generalize hA op = p2 at *
    generalize hB op = p3 at *
    generalize hN op = p4 at *
    generalize hP op = p5 at *
    go_enter Tryz.func129, Tryz.ntmps129
    go_upto_region 4 with (go_at_call 58; refine C.mono ?_; rintro e w1 ⟨rfl, hb1⟩; have HB1 : Hid (Below w.heap.size w w1) := hb1; clear hb1)
    obtain ⟨X, HX⟩ : ∃ X, Hid (w1.alloc (.cells #[.int .i8 op, .int .i8 dd, .int .i8 da, .int .i8 db, .int .i64 dn] 99) = X) := ⟨_, rfl⟩
    have HBX : Hid (Below w.heap.size w X) := by unfold Hid; rw [← HX.out]; exact lb_alloc HB1.out _
    have c0 : X.cell? ⟨w1.heap.size, 0, none⟩ = some (.int .i8 op) := by rw [← HX.out]; simp [go_sem]
    have c1 : X.cell? ⟨w1.heap.size, 1, none⟩ = some (.int .i8 dd) := by rw [← HX.out]; simp [go_sem]
    rw [HX.out]
    clear HX
    have hXX := Below.refl X.heap.size X
    go_region_held3 (fun Y => Below X.heap.size X Y ∧ Y.cell? ⟨w1.heap.size, 0, none⟩ = some (.int .i8 op) ∧ Y.cell? ⟨w1.heap.size, 1, none⟩ = some (.int .i8 dd)) (first | exact ⟨hXX, c0, c1⟩ | exact ⟨hXX.drew, c0, c1⟩ | exact ⟨hY, lkeep hY c0, lkeep hY c1⟩ | exact ⟨hY.drew, lkeep hY.drew c0, lkeep hY.drew c1⟩)
      (first
        | (go_at_call 72; refine (CH _).mono ?_; rintro e w2 ⟨rfl, hw2⟩; have hY : Below X.heap.size X w2 := (by rw [hw2]; first | exact lb_alloc hXX _ | exact lb_alloc hXX.drew _); clear hw2)
        | (go_at_call 143; refine (B1 _).mono ?_; rintro e w5 ⟨rfl, hw5⟩; have hw5 := hw5.symm; subst hw5))
    all_goals (
      rename_i hS
      clear hS
      go_wp2_with fail
      go_ret
      exact ⟨rfl, by first | exact lb_trans HBX.out hY | exact lb_trans HBX.out hY.drew⟩)
set_option maxHeartbeats 2000000 in
theorem reflinks_any (v : Int) (h0 : 0 ≤ v) (h1 : v < 4294967296) (w : World) : Calls Tryz.prog 109 #[.int .u32 v] w fun e w' => e = .returned (.bool (lnB v)) ∧ Below w.heap.size w w' := by
  have C1 := fun wx => refreads_any v h0 h1 wx
  have C2 := fun wx => refwrites_any v h0 h1 wx
  have hor := orI (rdN_lt v) (wrN_lt v)
  have hlk := linkI (orN_lt (rdN_lt v) (wrN_lt v))
  have HL : Hid (lnB v = decide ((rdN v ||| wrN v) / 32768 = 1)) := rfl
  rw [← hlk] at HL
  rw [HL.out]
  clear hlk HL
  generalize rdN v = x at *
  generalize wrN v = y at *
  generalize x ||| y = z at *
  go_enter Tryz.func109, Tryz.ntmps109
  go_wp2_with (first
    | (go_at_call 128; refine (C1 _).mono ?_; rintro e w1 ⟨rfl, hb1⟩)
    | (go_at_call 129; refine (C2 _).mono ?_; rintro e w2 ⟨rfl, hb2⟩))
  go_ret
  exact ⟨rfl, lb_trans hb1 hb2⟩
set_option maxHeartbeats 2000000 in
theorem refalone_any (v : Int) (h0 : 0 ≤ v) (h1 : v < 4294967296) (w : World) : Calls Tryz.prog 94 #[.int .u32 v] w fun e w' => e = .returned (.bool (alB v)) ∧ Below w.heap.size w w' := by
  have C := refdecode_any v h0 h1 w
  have CL := fun wx => reflinks_any v h0 h1 wx
  have HA : Hid (alB v = if dOp v = -1 ∨ dOp v = 16 then true else if dOp v = 19 ∨ dOp v = 17 then false else if dOp v = 18 then dA v == 15 else lnB v) := rfl
  generalize alB v = r at *
  generalize lnB v = lk at *
  generalize dOp v = op at *
  generalize dD v = dd at *
  generalize dA v = da at *
  generalize dB v = db at *
  generalize dN v = dn at *
  by_cases k1 : op = -1 ∨ op = 16
  · rw [if_pos k1] at HA
    rcases k1 with rfl | rfl
    all_goals (
      go_enter Tryz.func94, Tryz.ntmps94
      go_wp2_with (go_at_call 58; refine C.mono ?_; rintro e w1 ⟨rfl, hb1⟩)
      go_ret
      exact ⟨by rw [HA.out]; rfl, lb_alloc hb1 _⟩)
  · rw [if_neg k1] at HA
    by_cases k2 : op = 19 ∨ op = 17
    · rw [if_pos k2] at HA
      rcases k2 with rfl | rfl
      all_goals (
        go_enter Tryz.func94, Tryz.ntmps94
        go_wp2_with (go_at_call 58; refine C.mono ?_; rintro e w1 ⟨rfl, hb1⟩)
        go_ret
        exact ⟨by rw [HA.out]; rfl, lb_alloc hb1 _⟩)
    · rw [if_neg k2] at HA
      by_cases k3 : op = 18
      · rw [if_pos k3] at HA
        subst k3
        go_enter Tryz.func94, Tryz.ntmps94
        go_wp2_with (go_at_call 58; refine C.mono ?_; rintro e w1 ⟨rfl, hb1⟩)
        go_ret
        exact ⟨by rw [HA.out]; rfl, lb_alloc hb1 _⟩
      · rw [if_neg k3] at HA
        have o1 : (op == -1) = false := by rw [beq_eq_false_iff_ne]; omega
        have o2 : (op == 16) = false := by rw [beq_eq_false_iff_ne]; omega
        have o3 : (op == 19) = false := by rw [beq_eq_false_iff_ne]; omega
        have o4 : (op == 17) = false := by rw [beq_eq_false_iff_ne]; omega
        have o5 : (op == 18) = false := by rw [beq_eq_false_iff_ne]; omega
        clear k1 k2 k3
        go_enter Tryz.func94, Tryz.ntmps94
        go_wp2_with (first
          | (go_at_call 58; refine C.mono ?_; rintro e w1 ⟨rfl, hb1⟩)
          | (go_at_call 109; refine (CL _).mono ?_; rintro e w2 ⟨rfl, hb2⟩))
        go_ret
        exact ⟨by rw [HA.out]; rfl, lb_trans (lb_alloc hb1 _) hb2⟩
/-- An answer of All. -/
def AllP (l : List Int) (w : World) (e : Ending) (w' : World) : Prop := e = .returned (.tuple #[.int .u16 ((allR l l.length : Nat) : Int), .int .u16 ((allW l l.length : Nat) : Int)]) ∧ Below w.heap.size w w'




end Go.Proofs.YtokhclindfipbaaGreatDoor

namespace Go.Proofs.YtokhclindfipbaaGreatDoor
open Go.RowKit

set_option maxHeartbeats 1000000 in
theorem refsame_any (v u : Int) (h0 : 0 ≤ v) (h1 : v < 4294967296) (w : World) : Calls Tryz.prog 70 #[.int .u32 v, .int .u32 u] w fun e w' => e = .returned (.bool (smB v u)) ∧ Below w.heap.size w w' := by
  have C := fun wx => refalone_any v h0 h1 wx
  unfold smB
  by_cases hv : v = u
  · subst hv
    have e : (v == v) = true := by simp
    rw [e, Bool.true_and]
    clear e
    generalize alB v = b at *
    go_enter Tryz.func70, Tryz.ntmps70
    go_wp2_with (go_at_call 94; refine (C _).mono ?_; rintro e w1 ⟨rfl, hb1⟩)
    go_ret
    exact ⟨rfl, hb1⟩
  · have e : (v == u) = false := by simpa using hv
    rw [e, Bool.false_and]
    go_enter Tryz.func70, Tryz.ntmps70
    go_wp2
    go_ret
    exact ⟨rfl, Below.refl _ _⟩
/-- A list of numbers of memory of its own. -/
def NewL (l : List Int) (w : World) (e : Ending) (w' : World) : Prop := ∃ (A : Option Addr) (c : Nat), e = .returned (.slice A l.length c) ∧ w'.ownsRow w.heap.size 3 1 (.slice A l.length c) l.length (iVals .i64 l) ∧ Below w.heap.size w w'
/-- How the search has come on: none below k, or found. -/
def SrN (text : List Int) (i k : Nat) (n : Int) : Prop := (n = -1 ∧ ∀ j, j < k → smB (nth text j) (nth text i) = false) ∨ (fstP text i < i ∧ n = ((numN text i : Nat) : Int) ∧ fstP text i < k)
theorem SrN.hit {text : List Int} {i k : Nat} (hk : k < i) (h : ∀ j, j < k → smB (nth text j) (nth text i) = false) (e : smB (nth text k) (nth text i) = true) : SrN text i (k + 1) ((numN text k : Nat) : Int) := by
  have e1 := fstP_hit hk h e
  refine .inr ⟨by omega, ?_, by omega⟩
  have : numN text i = numN text k := (num_same hk).2 ⟨(smB_iff.1 e).1.symm, by rw [← (smB_iff.1 e).1]; exact (smB_iff.1 e).2⟩
  rw [this]
theorem SrN.miss {text : List Int} {i k : Nat} (h : ∀ j, j < k → smB (nth text j) (nth text i) = false) (e : smB (nth text k) (nth text i) = false) : SrN text i (k + 1) (-1) := .inl ⟨rfl, fun j hj => by
  by_cases x : j = k
  · subst x; exact e
  · exact h j (by omega)⟩
set_option maxRecDepth 100000 in
set_option maxHeartbeats 4000000 in
theorem refnumbers_any (A : Option Addr) (c : Nat) (text : List Int) (w : World) (hA : IntsAt w A .u32 text) (hR : ∀ i, i < text.length → 0 ≤ nth text i ∧ nth text i < 4294967296) (hl : text.length ≤ 1048576) :
    Calls Tryz.prog 32 #[.slice A text.length c] w (NewL (numL text text.length) w) := by
  obtain ⟨iI, hi, hz0, hz1, hz2⟩ := infoI
  have HA : Hid (IntsAt w A .u32 text) := hA
  have HR : Hid (∀ i, i < text.length → 0 ≤ nth text i ∧ nth text i < 4294967296) := hR
  clear hA hR
  go_enter Tryz.func32, Tryz.ntmps32
  go_wp2
  go_loopw [3, 4, 5] (fun v x i wr => ∃ (k : Nat) (O : Option Addr) (co : Nat), i = .int .i64 k ∧ x = .int .i64 ((rnk text k : Nat) : Int) ∧ v = .slice O k co ∧ k ≤ text.length ∧ Hid (wr.ownsRow w.heap.size 3 1 v k (iVals .i64 (numL text k))) ∧ Hid (Below w.heap.size w wr)) (fun _ _ i _ => text.length - (intOf i).toNat)
  case atStart => exact ⟨0, none, 0, rfl, rfl, rfl, Nat.zero_le _, World.ownsRow_nil _ _ _ _, Below.refl _ _⟩
  case round =>
    obtain ⟨i, O, co, rfl, rfl, rfl, hk, HO, HB⟩ := hrel
    by_cases hlt : i < text.length
    · have hlt' : (i : Int) < (text.length : Int) := by omega
      have hru := rnk_up text i
      have HRk : Hid (rnk text (i + 1) = if fstP text i = i then rnk text i + 1 else rnk text i) := rnk_step text i
      have HNn : Hid (fstP text i = i → numN text i = rnk text i) := num_new
      have HS : Hid (numL text (i + 1) = numL text i ++ [((numN text i : Nat) : Int)]) := numL_succ text i
      have HLn : Hid ((numL text i).length = i) := numL_len text i
      have HNt : Hid (∀ k, k < i → nth (numL text i) k = ((numN text k : Nat) : Int)) := fun k hk => numL_nth hk
      have hnu : numN text i ≤ 1048576 := by have := num_le text i; omega
      generalize rnk text i = r at *
      go_wp2
      go_loopw [6, 7] (fun n k wr => ∃ (k' : Nat) (n' : Int), k = .int .i64 k' ∧ n = .int .i64 n' ∧ k' ≤ i ∧ Hid (SrN text i k' n') ∧ Hid (wr.ownsRow w.heap.size 3 1 (.slice O i co) i (iVals .i64 (numL text i))) ∧ Hid (Below w.heap.size w wr)) (fun _ k _ => i - (intOf k).toNat)
      case atStart => exact ⟨0, -1, rfl, rfl, Nat.zero_le _, .inl ⟨rfl, fun j hj => absurd hj (Nat.not_lt_zero _)⟩, HO, HB⟩
      case round =>
        clear HO HB
        obtain ⟨k, n, rfl, rfl, hk2, HSr, HO, HB⟩ := hrel
        rcases HSr.out with ⟨en, hno⟩ | ⟨hf1, en, hf2⟩
        · subst en
          have HNo : Hid (∀ j, j < k → smB (nth text j) (nth text i) = false) := hno
          clear hno HSr
          by_cases hki : k < i
          · have hki' : (k : Int) < (i : Int) := by omega
            have hkt : (k : Int) < (text.length : Int) := by omega
            obtain ⟨a, ea, q1⟩ := (HA.out.keep HB.out) k (by omega)
            subst ea
            obtain ⟨a2, ea2, q2⟩ := (HA.out.keep HB.out) i hlt
            obtain rfl := Option.some.inj ea2
            obtain ⟨v0, v1⟩ := HR.out k (by omega)
            have C := fun wx => refsame_any (nth text k) (nth text i) v0 v1 wx
            have HHit : Hid (smB (nth text k) (nth text i) = true → SrN text i (k + 1) ((numN text k : Nat) : Int)) := fun e => SrN.hit hki HNo.out e
            have HMis : Hid (smB (nth text k) (nth text i) = false → SrN text i (k + 1) (-1)) := fun e => SrN.miss HNo.out e
            have hXX := Below.refl wr.heap.size wr
            cases hs : smB (nth text k) (nth text i) with
            | true =>
              rw [hs] at C
              have HSr := HHit.out hs
              have HSr : Hid (SrN text i (k + 1) ((numN text k : Nat) : Int)) := HSr
              obtain ⟨b, eb, q3⟩ := (row_ints (l := numL text i) (by rw [HLn.out]; exact HO.out)) k (by rw [HLn.out]; exact hki)
              rw [HNt.out k hki] at q3
              subst eb
              have HQ3 : Hid (wr.cell? (b.add k) = some (.int .i64 ((numN text k : Nat) : Int))) := q3
              clear hs HHit HMis HNo q3
              generalize numN text k = nk at *
              generalize nth text k = vk at *
              generalize nth text i = vi at *
              go_upto_region 10 with fail
              go_region_held3 (fun Y => Y.cell? (a.add k) = some (.int .u32 vk) ∧ Y.cell? (a.add i) = some (.int .u32 vi)) (first | exact ⟨q1, q2⟩ | exact ⟨lkeep hY q1, lkeep hY q2⟩) (first | (go_at_call 70; refine (C _).mono ?_; rintro e w5 ⟨rfl, hb5⟩; have hY : Below wr.heap.size wr w5 := (by first | exact hb5 | exact lb_trans hXX.drew hb5); clear hb5))
              all_goals (
                rename_i hS
                clear hS
                have q3 := lkeep hY HQ3.out
                have HO5 : Hid (w5.ownsRow w.heap.size 3 1 (.slice (some b) i co) i (iVals .i64 (numL text i))) := row_keep HO.out hY
                have HB5 : Hid (Below w.heap.size w w5) := lb_trans HB.out hY
                go_wp2
                go_roundw
                (case rel => exact ⟨k + 1, _, by go_num, rfl, by omega, HSr, HO5, HB5⟩)
                (case measure => simp [intOf]; omega))
            | false =>
              rw [hs] at C
              have HSr := HMis.out hs
              have HSr : Hid (SrN text i (k + 1) (-1)) := HSr
              clear hs HHit HMis HNo
              generalize nth text k = vk at *
              generalize nth text i = vi at *
              go_upto_region 10 with fail
              go_region_held3 (fun Y => Y.cell? (a.add k) = some (.int .u32 vk) ∧ Y.cell? (a.add i) = some (.int .u32 vi)) (first | exact ⟨q1, q2⟩ | exact ⟨lkeep hY q1, lkeep hY q2⟩) (first | (go_at_call 70; refine (C _).mono ?_; rintro e w5 ⟨rfl, hb5⟩; have hY : Below wr.heap.size wr w5 := (by first | exact hb5 | exact lb_trans hXX.drew hb5); clear hb5))
              all_goals (
                rename_i hS
                clear hS
                have HO5 : Hid (w5.ownsRow w.heap.size 3 1 (.slice O i co) i (iVals .i64 (numL text i))) := row_keep HO.out hY
                have HB5 : Hid (Below w.heap.size w w5) := lb_trans HB.out hY
                go_wp2
                go_roundw
                (case rel => exact ⟨k + 1, -1, by go_num, rfl, by omega, HSr, HO5, HB5⟩)
                (case measure => simp [intOf]; omega))
          · obtain rfl : k = i := by omega
            have ef := fstP_none HNo.out
            have HXV : Hid (((r : Nat) : Int) = ((numN text k : Nat) : Int)) := by rw [Hid, HNn.out ef]
            have HRk2 : Hid (rnk text (k + 1) = r + 1) := by rw [Hid, HRk.out, if_pos ef]
            clear ef HRk HNn HNo
            generalize numL text k = l at *
            go_upto_region 15 with fail
            have HBa : Hid (Below w.heap.size w (wr.alloc (.cells #[.int .i64 ((r : Nat) : Int)] 3))) := lb_alloc HB.out _
            have HRa : Hid ((wr.alloc (.cells #[.int .i64 ((r : Nat) : Int)] 3)).ownsRow w.heap.size 3 1 (.slice O k co) k (iVals .i64 l)) := row_keep HO.out (lb_alloc (Below.refl _ _) _)
            go_upto_region 5 with (at_builtin; go_loud (refine wpList_append_own _ rfl (.tmp 41) (.tmp 43) 36 rfl w.heap.size 3 iI (.int .i64 0) 1 8 Tryz.underlying36 hi hz0 hz1 hz2 rfl (by decide) (.slice O k co) k (iVals .i64 l) rfl HRa.out ⟨wr.heap.size, 0, none⟩ 1 1 [.int .i64 ((r : Nat) : Int)] rfl rfl (fun j u hu => World.news_of_block (new_at (by simp)) j u hu) one_oneI (by unfold maxLen; omega) (by omega) HBa.out.size ?_; intro v3 w5 hown hgrow _; have HR3 : Hid (w5.ownsRow w.heap.size 3 1 v3 (k + 1) (iVals .i64 (numL text (k + 1)))) := (by rw [Hid, HS.out, iVals_snoc, ← HXV.out]; exact hown); have HB3 : Hid (Below w.heap.size w w5) := HBa.out.grown hgrow HBa.out.size (fun b hb => (HRa.out.lt b hb).1); clear hown hgrow))
            obtain ⟨A5, c5, e5⟩ := own_sl HR3.out
            subst e5
            go_wp2
            go_roundw
            case rel => exact ⟨k + 1, A5, c5, by go_num, by rw [HRk2.out]; go_num, rfl, by omega, HR3, HB3⟩
            case measure => simp [intOf]; omega
        · have HXV : Hid (n = ((numN text i : Nat) : Int)) := en
          have HRk2 : Hid (rnk text (i + 1) = r) := by rw [Hid, HRk.out, if_neg (by omega)]
          have hn0 : 0 ≤ n := by omega
          have hn1 : ¬ n < 0 := by omega
          have hn2 : n ≤ 1048576 := by omega
          clear en HRk HNn HSr hf1 hf2
          generalize numL text i = l at *
          by_cases hki : k < i
          · have hki' : (k : Int) < (i : Int) := by omega
            go_upto_region 15 with fail
            have HBa : Hid (Below w.heap.size w (wr.alloc (.cells #[.int .i64 n] 3))) := lb_alloc HB.out _
            have HRa : Hid ((wr.alloc (.cells #[.int .i64 n] 3)).ownsRow w.heap.size 3 1 (.slice O i co) i (iVals .i64 l)) := row_keep HO.out (lb_alloc (Below.refl _ _) _)
            go_upto_region 5 with (at_builtin; go_loud (refine wpList_append_own _ rfl (.tmp 41) (.tmp 43) 36 rfl w.heap.size 3 iI (.int .i64 0) 1 8 Tryz.underlying36 hi hz0 hz1 hz2 rfl (by decide) (.slice O i co) i (iVals .i64 l) rfl HRa.out ⟨wr.heap.size, 0, none⟩ 1 1 [.int .i64 n] rfl rfl (fun j u hu => World.news_of_block (new_at (by simp)) j u hu) one_oneI (by unfold maxLen; omega) (by omega) HBa.out.size ?_; intro v3 w5 hown hgrow _; have HR3 : Hid (w5.ownsRow w.heap.size 3 1 v3 (i + 1) (iVals .i64 (numL text (i + 1)))) := (by rw [Hid, HS.out, iVals_snoc, ← HXV.out]; exact hown); have HB3 : Hid (Below w.heap.size w w5) := HBa.out.grown hgrow HBa.out.size (fun b hb => (HRa.out.lt b hb).1); clear hown hgrow))
            obtain ⟨A5, c5, e5⟩ := own_sl HR3.out
            subst e5
            go_wp2
            go_roundw
            case rel => exact ⟨i + 1, A5, c5, by go_num, by rw [HRk2.out], rfl, by omega, HR3, HB3⟩
            case measure => simp [intOf]; omega
          · have hki' : ¬ (k : Int) < (i : Int) := by omega
            go_upto_region 15 with fail
            have HBa : Hid (Below w.heap.size w (wr.alloc (.cells #[.int .i64 n] 3))) := lb_alloc HB.out _
            have HRa : Hid ((wr.alloc (.cells #[.int .i64 n] 3)).ownsRow w.heap.size 3 1 (.slice O i co) i (iVals .i64 l)) := row_keep HO.out (lb_alloc (Below.refl _ _) _)
            go_upto_region 5 with (at_builtin; go_loud (refine wpList_append_own _ rfl (.tmp 41) (.tmp 43) 36 rfl w.heap.size 3 iI (.int .i64 0) 1 8 Tryz.underlying36 hi hz0 hz1 hz2 rfl (by decide) (.slice O i co) i (iVals .i64 l) rfl HRa.out ⟨wr.heap.size, 0, none⟩ 1 1 [.int .i64 n] rfl rfl (fun j u hu => World.news_of_block (new_at (by simp)) j u hu) one_oneI (by unfold maxLen; omega) (by omega) HBa.out.size ?_; intro v3 w5 hown hgrow _; have HR3 : Hid (w5.ownsRow w.heap.size 3 1 v3 (i + 1) (iVals .i64 (numL text (i + 1)))) := (by rw [Hid, HS.out, iVals_snoc, ← HXV.out]; exact hown); have HB3 : Hid (Below w.heap.size w w5) := HBa.out.grown hgrow HBa.out.size (fun b hb => (HRa.out.lt b hb).1); clear hown hgrow))
            obtain ⟨A5, c5, e5⟩ := own_sl HR3.out
            subst e5
            go_wp2
            go_roundw
            case rel => exact ⟨i + 1, A5, c5, by go_num, by rw [HRk2.out], rfl, by omega, HR3, HB3⟩
            case measure => simp [intOf]; omega
    · obtain rfl : i = text.length := by omega
      have HLn : Hid ((numL text text.length).length = text.length) := numL_len _ _
      go_wp2
      go_ret
      refine ⟨O, co, ?_, ?_, HB.out⟩
      · rw [HLn.out]; rfl
      · rw [HLn.out]; exact HO.out



end Go.Proofs.YtokhclindfipbaaGreatDoor
