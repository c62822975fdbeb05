/-
  What coding and aiming words keep; no Go in sight. A word, aimed; no Go in sight. Address of package word and of the document's answer return the same two numbers for every word, number and size, and the law over them returns true; no condition. What the document asks of a calculation, as two plain functions: the value and the fault; no condition.
-/
import Derived.Test.YtfnicgihpelhhaaGreatProg
import Derived.Test.YtfnicgihpelhhaaGreatPd05
import Derived.WalkKit
import Derived.WalkSpells
import Derived.WalkLawsBesides
import Derived.RowKit3
import Derived.Below
import Derived.Deep.QuietTactic
import Derived.BigQuiet
import Derived.WalkSmall
import Derived.Laws.Rows
import Derived.Deep.RegionHeld3
import Derived.Laws.Pointers
import Derived.Outline
import Derived.StillTactics
namespace Go.Proofs.YtfnicgihpelhhaaGreat
open Go.RowKit

theorem dOp_yes {v : Int} (h0 : 0 ≤ v) (h : isIns v = true) : 0 ≤ dOp v := by
  unfold dOp; rw [if_pos h]; unfold wOp; omega
theorem dOp_no {v : Int} (h : isIns v = false) : dOp v = -1 := by
  unfold dOp; rw [h]; rfl
theorem word_yes {v : Int} (h0 : 0 ≤ v) (h1 : v < 4294967296) (h : isIns v = true) : encV (dOp v) (dD v) (dA v) (dB v) (dN v) = v ∧ encE (dOp v) (dD v) (dA v) (dB v) (dN v) = 0 := by
  have e := enc_yes h0 h1 h
  unfold dOp dD dA dB dN
  rw [if_pos h, if_pos h, if_pos h, if_pos h, if_pos h]
  exact e
theorem word_no {v : Int} (h : isIns v = false) : encV (dOp v) (dD v) (dA v) (dB v) (dN v) = 0 ∧ encE (dOp v) (dD v) (dA v) (dB v) (dN v) = 10 := by
  rw [dOp_no h]
  unfold encV encE
  rw [if_pos (by omega), if_pos (by omega)]
  exact ⟨rfl, rfl⟩

theorem regOK_range {h : Bool} {r : Int} (hr : regOK h r = true) : 0 ≤ r ∧ r < 16 := by
  unfold regOK at hr
  cases h
  · simp at hr; omega
  · simp at hr; omega
theorem encE_ok {op d a b n : Int} (h : encE op d a b n = 0) : 0 ≤ op ∧ op ≤ 21 ∧ insOK op d a b n = true ∧ encV op d a b n = encW op d a b n := by
  unfold encE at h
  by_cases h1 : op < 0 ∨ 21 < op
  · rw [if_pos h1] at h; omega
  · rw [if_neg h1] at h
    cases hi : insOK op d a b n with
    | false => rw [hi] at h; simp at h
    | true =>
      refine ⟨by omega, by omega, rfl, ?_⟩
      unfold encV; rw [if_neg h1, hi]; rfl
theorem insOK_parts {op d a b n : Int} (h : insOK op d a b n = true) : (0 ≤ d ∧ d < 16) ∧ (0 ≤ a ∧ a < 16) ∧ (0 ≤ b ∧ b < 16) ∧ numOK (hN op) (hP op) n = true := by
  unfold insOK at h
  simp only [Bool.and_eq_true] at h
  exact ⟨regOK_range h.1.1.1, regOK_range h.1.1.2, regOK_range h.1.2, h.2⟩

theorem fields_enc {op d a b n : Int} (ho : 0 ≤ op ∧ op ≤ 21) (h : insOK op d a b n = true) :
    wOp (encW op d a b n) = op ∧ wD (encW op d a b n) = d ∧ wA (encW op d a b n) = a ∧ wB (encW op d a b n) = b ∧ wN (encW op d a b n) = n ∧ 0 ≤ encW op d a b n ∧ encW op d a b n < 4294967296 := by
  obtain ⟨hd, ha, hb, hn⟩ := insOK_parts h
  have e1 : wOp (encW op d a b n) = op := by unfold wOp encW; omega
  have e2 : wD (encW op d a b n) = d := by unfold wD encW; omega
  have e3 : wA (encW op d a b n) = a := by unfold wA encW; omega
  have e4 : wB (encW op d a b n) = b := by unfold wB encW; omega
  have e5 : encW op d a b n % 32768 = n % 32768 := by unfold encW; omega
  have e6 : 0 ≤ encW op d a b n ∧ encW op d a b n < 4294967296 := by unfold encW; omega
  refine ⟨e1, e2, e3, e4, ?_, e6.1, e6.2⟩
  unfold wN
  rw [e1, e5]
  unfold numOK at hn
  cases h1 : hN op with
  | false => rw [h1] at hn; simp at hn; subst hn; rfl
  | true =>
    rw [h1] at hn
    cases h2 : hP op with
    | true => rw [h2] at hn; simp at hn ⊢; omega
    | false =>
      rw [h2] at hn
      simp at hn
      by_cases hs : n < 0
      · have e7 : n % 32768 = n + 32768 := by omega
        rw [e7, decide_eq_true (by omega)]; simp
      · have e7 : n % 32768 = n := by omega
        rw [e7, decide_eq_false (by omega)]; simp

theorem dec_enc {op d a b n : Int} (h : encE op d a b n = 0) : dOp (encV op d a b n) = op ∧ dD (encV op d a b n) = d ∧ dA (encV op d a b n) = a ∧ dB (encV op d a b n) = b ∧ dN (encV op d a b n) = n := by
  obtain ⟨h1, h2, h3, h4⟩ := encE_ok h
  obtain ⟨e1, e2, e3, e4, e5, _, _⟩ := fields_enc ⟨h1, h2⟩ h3
  rw [h4]
  have hi : isIns (encW op d a b n) = true := by
    unfold isIns; rw [e1, e2, e3, e4, e5, h3, decide_eq_true h2]; rfl
  unfold dOp dD dA dB dN
  rw [if_pos hi, if_pos hi, if_pos hi, if_pos hi, if_pos hi]
  exact ⟨e1, e2, e3, e4, e5⟩
theorem enc_range (op d a b n : Int) : 0 ≤ encV op d a b n ∧ encV op d a b n < 4294967296 := by
  unfold encV
  by_cases h1 : op < 0 ∨ 21 < op
  · rw [if_pos h1]; omega
  · rw [if_neg h1]
    cases hi : insOK op d a b n with
    | false => simp
    | true =>
      obtain ⟨_, _, _, _, _, h, k⟩ := fields_enc ⟨by omega, by omega⟩ hi
      exact ⟨h, k⟩
theorem aim_range (v p : Int) : 0 ≤ aimV v p ∧ aimV v p < 4294967296 := by
  unfold aimV
  split
  · exact enc_range _ _ _ _ _
  · omega
theorem aim_target {v p : Int} (h : aimE v p = 0) : isT (aimV v p) = true ∧ tgV (aimV v p) = p := by
  unfold aimE at h
  cases hT : isT v with
  | false => rw [hT] at h; simp at h
  | true =>
    rw [hT] at h
    simp only [if_true] at h
    cases hp : decide (0 ≤ p ∧ p < 16384) with
    | false => rw [hp] at h; simp at h
    | true =>
      rw [hp] at h
      simp only [if_true] at h
      have ha : aimV v p = encV (dOp v) (dD v) (dA v) (dB v) p := by unfold aimV; rw [hT, hp]; rfl
      obtain ⟨e1, _, _, _, e5⟩ := dec_enc h
      have hq : isT (aimV v p) = true := by
        unfold isT; rw [ha, e1]; exact hT
      refine ⟨hq, ?_⟩
      unfold tgV; rw [hq, ha, e5]; rfl




end Go.Proofs.YtfnicgihpelhhaaGreat

namespace Go.Proofs.YtfnicgihpelhhaaGreat
open Go.RowKit

theorem isT_ins {v : Int} (h : isT v = true) : isIns v = true ∧ hP (dOp v) = true ∧ 0 ≤ dOp v := by
  unfold isT at h
  rw [Bool.and_eq_true, decide_eq_true_iff] at h
  refine ⟨?_, h.2, h.1⟩
  cases hi : isIns v
  · have := dOp_no hi
    omega
  · rfl
theorem zhP_hN {op : Int} (h : hP op = true) : hN op = true := by
  unfold hP at h
  unfold hN
  rw [decide_eq_true_iff] at h ⊢
  omega
theorem aim_ok {v p : Int} (hT : isT v = true) (hp : 0 ≤ p ∧ p < 16384) : aimE v p = 0 := by
  obtain ⟨hi, hP', h0⟩ := isT_ins hT
  have hd : dOp v = wOp v ∧ dD v = wD v ∧ dA v = wA v ∧ dB v = wB v := by
    unfold dOp dD dA dB
    rw [hi]
    simp
  have hi2 := hi
  unfold isIns at hi2
  rw [Bool.and_eq_true, decide_eq_true_iff] at hi2
  obtain ⟨h21, hok⟩ := hi2
  unfold insOK at hok
  simp only [Bool.and_eq_true] at hok
  obtain ⟨⟨⟨r1, r2⟩, r3⟩, -⟩ := hok
  unfold aimE
  rw [hT, decide_eq_true hp]
  simp only [if_true]
  rw [hd.1] at hP' h0
  unfold encE
  rw [hd.1, hd.2.1, hd.2.2.1, hd.2.2.2, if_neg (by omega)]
  have : insOK (wOp v) (wD v) (wA v) (wB v) p = true := by
    unfold insOK numOK
    rw [r1, r2, r3, zhP_hN hP', hP']
    simp only [if_true, Bool.true_and]
    exact decide_eq_true hp
  rw [this]
  rfl
theorem aim_is {v p : Int} (hT : isT v = true) (hp : 0 ≤ p ∧ p < 16384) : aimV v p = encV (dOp v) (dD v) (dA v) (dB v) p := by
  unfold aimV; rw [hT, decide_eq_true hp]; rfl



end Go.Proofs.YtfnicgihpelhhaaGreat

namespace Go.Proofs.YtfnicgihpelhhaaGreat
open Go.RowKit

/-- The address. -/
def addrV (x n z : Int) (p : Bool) : Int := if p then 0 else if wrap64 (x + n) < 0 ∨ z ≤ wrap64 (x + n) then 0 else wrap64 (x + n)
/-- The fault. -/
def addrE (x n z : Int) (p : Bool) : Int := if p then 4 else if wrap64 (x + n) < 0 ∨ z ≤ wrap64 (x + n) then 5 else 0

theorem addr_any (x n z : Int) (p : Bool) (w : World) : Calls Tryz.prog 129 #[.agg #[.int .i64 x, .bool p], .int .i64 n, .int .i64 z] w fun e w' =>
    e = .returned (.tuple #[.int .i64 (addrV x n z p), .int .i8 (addrE x n z p)]) ∧ w' = w.alloc (.cells #[.int .i64 x, .bool p] 82) := by
  unfold addrV addrE
  cases p
  · by_cases h1 : wrap64 (x + n) < 0
    · go_enter Tryz.func129, Tryz.ntmps129
      go_wp2
      go_ret2
      exact ⟨by simp, rfl⟩
    · by_cases h2 : z ≤ wrap64 (x + n)
      · go_enter Tryz.func129, Tryz.ntmps129
        go_wp2
        go_ret2
        exact ⟨by simp, rfl⟩
      · go_enter Tryz.func129, Tryz.ntmps129
        go_wp2
        go_ret2
        exact ⟨by simp, rfl⟩
  · go_enter Tryz.func129, Tryz.ntmps129
    go_wp2
    go_ret2
    exact ⟨rfl, rfl⟩







end Go.Proofs.YtfnicgihpelhhaaGreat

namespace Go.Proofs.YtfnicgihpelhhaaGreat
open Go.RowKit

/-- The fault of a calculation: 0 is none. -/
def calcE (op : Int) (p q : Bool) : Int := if op < 3 ∨ 10 < op then 3 else if op = 10 then (if p = q then 0 else 4) else if p || q then 4 else 0

/-- The number of a calculation; 0 where it faults. -/
def calcV (op x y : Int) (p q : Bool) : Int :=
  if calcE op p q = 0 then
    (if op = 3 then wrap64 (x + y) else if op = 4 then wrap64 (x - y) else if op = 5 then wrap64 (x * y) else if op = 6 then bits BinOp.and IntKind.i64 x y
      else if op = 7 then bits BinOp.or IntKind.i64 x y else if op = 8 then bits BinOp.xor IntKind.i64 x y else if op = 9 then (if x < y then 1 else 0) else (if x = y then 1 else 0))
  else 0







end Go.Proofs.YtfnicgihpelhhaaGreat
