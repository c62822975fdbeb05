/-
  A word, aimed; no Go in sight. Address of package word and of the document's answer return the same two numbers for every word, number and size, and the law over them returns true; no condition. What the document asks of a calculation, as two plain functions: the value and the fault; no condition.
-/
import Derived.Test.YtfnicgihpelhhaaGreatProg
import Derived.WalkKit
import Derived.WalkSpells
import Derived.WalkLawsBesides
import Derived.RowKit3
import Derived.Below
import Derived.Deep.QuietTactic
import Derived.BigQuiet
import Derived.WalkSmall
import Derived.Laws.Rows
import Derived.Test.YtfnicgihpelhhaaGreatPd14
import Derived.Deep.RegionHeld3
import Derived.Laws.Pointers
import Derived.Outline
import Derived.StillTactics
namespace Go.Proofs.YtfnicgihpelhhaaGreat
open Go.RowKit

theorem isT_ins {v : Int} (h : isT v = true) : isIns v = true ∧ hP (dOp v) = true ∧ 0 ≤ dOp v := by
  unfold isT at h
  rw [Bool.and_eq_true, decide_eq_true_iff] at h
  refine ⟨?_, h.2, h.1⟩
  cases hi : isIns v
  · have := dOp_no hi
    omega
  · rfl
theorem zhP_hN {op : Int} (h : hP op = true) : hN op = true := by
  unfold hP at h
  unfold hN
  rw [decide_eq_true_iff] at h ⊢
  omega
theorem aim_ok {v p : Int} (hT : isT v = true) (hp : 0 ≤ p ∧ p < 16384) : aimE v p = 0 := by
  obtain ⟨hi, hP', h0⟩ := isT_ins hT
  have hd : dOp v = wOp v ∧ dD v = wD v ∧ dA v = wA v ∧ dB v = wB v := by
    unfold dOp dD dA dB
    rw [hi]
    simp
  have hi2 := hi
  unfold isIns at hi2
  rw [Bool.and_eq_true, decide_eq_true_iff] at hi2
  obtain ⟨h21, hok⟩ := hi2
  unfold insOK at hok
  simp only [Bool.and_eq_true] at hok
  obtain ⟨⟨⟨r1, r2⟩, r3⟩, -⟩ := hok
  unfold aimE
  rw [hT, decide_eq_true hp]
  simp only [if_true]
  rw [hd.1] at hP' h0
  unfold encE
  rw [hd.1, hd.2.1, hd.2.2.1, hd.2.2.2, if_neg (by omega)]
  have : insOK (wOp v) (wD v) (wA v) (wB v) p = true := by
    unfold insOK numOK
    rw [r1, r2, r3, zhP_hN hP', hP']
    simp only [if_true, Bool.true_and]
    exact decide_eq_true hp
  rw [this]
  rfl
theorem aim_is {v p : Int} (hT : isT v = true) (hp : 0 ≤ p ∧ p < 16384) : aimV v p = encV (dOp v) (dD v) (dA v) (dB v) p := by
  unfold aimV; rw [hT, decide_eq_true hp]; rfl



end Go.Proofs.YtfnicgihpelhhaaGreat

namespace Go.Proofs.YtfnicgihpelhhaaGreat
open Go.RowKit

/-- The address. -/
def addrV (x n z : Int) (p : Bool) : Int := if p then 0 else if wrap64 (x + n) < 0 ∨ z ≤ wrap64 (x + n) then 0 else wrap64 (x + n)
/-- The fault. -/
def addrE (x n z : Int) (p : Bool) : Int := if p then 4 else if wrap64 (x + n) < 0 ∨ z ≤ wrap64 (x + n) then 5 else 0

theorem addr_any (x n z : Int) (p : Bool) (w : World) : Calls Tryz.prog 129 #[.agg #[.int .i64 x, .bool p], .int .i64 n, .int .i64 z] w fun e w' =>
    e = .returned (.tuple #[.int .i64 (addrV x n z p), .int .i8 (addrE x n z p)]) ∧ w' = w.alloc (.cells #[.int .i64 x, .bool p] 82) := by
  unfold addrV addrE
  cases p
  · by_cases h1 : wrap64 (x + n) < 0
    · go_enter Tryz.func129, Tryz.ntmps129
      go_wp2
      go_ret2
      exact ⟨by simp, rfl⟩
    · by_cases h2 : z ≤ wrap64 (x + n)
      · go_enter Tryz.func129, Tryz.ntmps129
        go_wp2
        go_ret2
        exact ⟨by simp, rfl⟩
      · go_enter Tryz.func129, Tryz.ntmps129
        go_wp2
        go_ret2
        exact ⟨by simp, rfl⟩
  · go_enter Tryz.func129, Tryz.ntmps129
    go_wp2
    go_ret2
    exact ⟨rfl, rfl⟩







end Go.Proofs.YtfnicgihpelhhaaGreat

namespace Go.Proofs.YtfnicgihpelhhaaGreat
open Go.RowKit

/-- The fault of a calculation: 0 is none. -/
def calcE (op : Int) (p q : Bool) : Int := if op < 3 ∨ 10 < op then 3 else if op = 10 then (if p = q then 0 else 4) else if p || q then 4 else 0

/-- The number of a calculation; 0 where it faults. -/
def calcV (op x y : Int) (p q : Bool) : Int :=
  if calcE op p q = 0 then
    (if op = 3 then wrap64 (x + y) else if op = 4 then wrap64 (x - y) else if op = 5 then wrap64 (x * y) else if op = 6 then bits BinOp.and IntKind.i64 x y
      else if op = 7 then bits BinOp.or IntKind.i64 x y else if op = 8 then bits BinOp.xor IntKind.i64 x y else if op = 9 then (if x < y then 1 else 0) else (if x = y then 1 else 0))
  else 0







end Go.Proofs.YtfnicgihpelhhaaGreat
