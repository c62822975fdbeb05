/-
  The small known run. The law TouchWords, from what is asked of the program. What the program asks of sets of registers; no Go in sight.
-/
import Derived.Test.YtlnclldoodpcgaaProg
import Derived.WalkKit
import Derived.WalkSpells
import Derived.WalkLawsBesides
import Derived.RowKit3
import Derived.Below
import Derived.Deep.QuietTactic
import Derived.BigQuiet
import Derived.WalkSmall
import Derived.Laws.Rows
import Derived.Test.YtlnclldoodpcgaaPw07
import Derived.Test.YtlnclldoodpcgaaPw03
import Derived.Test.YtlnclldoodpcgaaPw02
namespace Go.Proofs.Ytlnclldoodpcgaa
open Go.RowKit

theorem pair_at (w : World) (x y : Int) : IntsAt (w.alloc (.cells #[.int .u32 x, .int .u32 y] 22)) (some ⟨w.heap.size, 0, none⟩) .u32 [x, y] := fun i hi => by
  have hi : i = 0 ∨ i = 1 := by simp at hi; omega
  rcases hi with rfl | rfl
  · exact ⟨_, rfl, by simp [go_sem, nth, Addr.add]⟩
  · exact ⟨_, rfl, by simp [go_sem, nth, Addr.add]⟩
set_option maxRecDepth 100000 in
set_option maxHeartbeats 2000000 in
theorem works_any (hr : ReadsOK) (hw : WritesOK) (hl : LinksOK) (ha : AloneOK) (hal : AllOK) (w : World) : Calls Try.prog 13 #[] w fun e w' => e = .returned (.bool true) ∧ Below w.heap.size w w' := by
  have hP := pair_at w 142606341 420052992
  have C0 := hal (some ⟨w.heap.size, 0, none⟩) 2 [142606341, 420052992] _ hP (fun i hi => by
    have hi : i = 0 ∨ i = 1 := by simp at hi; omega
    rcases hi with rfl | rfl <;> exact ⟨by decide, by decide⟩) (by decide)
  have C0 : Calls Try.prog 15 #[.slice (some ⟨w.heap.size, 0, none⟩) 2 2] (w.alloc (.cells #[.int .u32 142606341, .int .u32 420052992] 22)) fun e w' => e = .returned (.tuple #[.int .u16 8, .int .u16 6]) ∧ Below (w.alloc (.cells #[.int .u32 142606341, .int .u32 420052992] 22)).heap.size (w.alloc (.cells #[.int .u32 142606341, .int .u32 420052992] 22)) w' := C0
  have C1 : ∀ wx, Calls Try.prog 5 #[.int .u32 412188672] wx fun e w' => e = .returned (.int .u16 12) ∧ Below wx.heap.size wx w' := fun wx => hr 412188672 wx (by decide) (by decide)
  have C2 : ∀ wx, Calls Try.prog 7 #[.int .u32 412188672] wx fun e w' => e = .returned (.int .u16 2) ∧ Below wx.heap.size wx w' := fun wx => hw 412188672 wx (by decide) (by decide)
  have C3 : ∀ wx, Calls Try.prog 9 #[.int .u32 2558001152] wx fun e w' => e = .returned (.bool true) ∧ Below wx.heap.size wx w' := fun wx => hl 2558001152 wx (by decide) (by decide)
  have A1 : alB 2558001152 = false := by decide
  have A2 : alB 1 = true := by decide
  clear hP hr hw hl hal
  go_enter Try.func13, Try.ntmps13
  go_upto_region 2 with (go_at_call 15; refine C0.mono ?_; rintro e w1 ⟨rfl, hb1⟩; have HB1 : Hid (Below w.heap.size w w1) := lb_trans (lb_alloc (Below.refl _ _) _) hb1; clear hb1)
  go_wp2_with (first
    | (go_at_call 5; refine (C1 _).mono ?_; rintro e w2 ⟨rfl, hb2⟩)
    | (go_at_call 7; refine (C2 _).mono ?_; rintro e w3 ⟨rfl, hb3⟩)
    | (go_at_call 9; refine (C3 _).mono ?_; rintro e w4 ⟨rfl, hb4⟩)
    | (go_at_call 11; refine (ha _ _ (by decide) (by decide)).mono ?_; first | (revert hb5; intro hb5; rintro e w6 ⟨rfl, hb6⟩) | (rintro e w5 ⟨rfl, hb5⟩)))
  go_ret
  exact ⟨rfl, lb_trans (lb_trans (lb_trans (lb_trans (lb_trans HB1.out hb2) hb3) hb4) hb5) hb6⟩

end Go.Proofs.Ytlnclldoodpcgaa

namespace Go.Proofs.Ytlnclldoodpcgaa
open Go.RowKit

set_option maxRecDepth 100000 in
set_option maxHeartbeats 4000000 in
theorem lawWords (hr : ReadsOK) (hw : WritesOK) (hl : LinksOK) (ha : AloneOK) (hal : AllOK) (v : Int) (h0 : 0 ≤ v) (h1 : v < 4294967296) (w : World) : Calls Try.prog 3 #[.int .u32 v] w fun e w' => e = .returned (.bool true) ∧ Below w.heap.size w w' := by
  have C1 := fun wx => hr v wx h0 h1
  have D1 := fun wx => refreads_any v h0 h1 wx
  have C2 := fun wx => hw v wx h0 h1
  have D2 := fun wx => refwrites_any v h0 h1 wx
  have C3 := fun wx => hl v wx h0 h1
  have D3 := fun wx => reflinks_any v h0 h1 wx
  have C4 := fun wx => ha v wx h0 h1
  have D4 := fun wx => refalone_any v h0 h1 wx
  have CW := fun wx => works_any hr hw hl ha hal wx
  clear hr hw hl ha hal
  generalize rdN v = x at *
  generalize wrN v = y at *
  generalize lnB v = p at *
  generalize alB v = q at *
  go_enter Try.func3, Try.ntmps3
  go_wp2_with (first
    | (go_at_call 5; refine (C1 _).mono ?_; rintro e w1 ⟨rfl, hb1⟩)
    | (go_at_call 6; refine (D1 _).mono ?_; rintro e w2 ⟨rfl, hb2⟩)
    | (go_at_call 7; refine (C2 _).mono ?_; rintro e w3 ⟨rfl, hb3⟩)
    | (go_at_call 8; refine (D2 _).mono ?_; rintro e w4 ⟨rfl, hb4⟩)
    | (go_at_call 9; refine (C3 _).mono ?_; rintro e w5 ⟨rfl, hb5⟩)
    | (go_at_call 10; refine (D3 _).mono ?_; rintro e w6 ⟨rfl, hb6⟩)
    | (go_at_call 11; refine (C4 _).mono ?_; rintro e w7 ⟨rfl, hb7⟩)
    | (go_at_call 12; refine (D4 _).mono ?_; rintro e w8 ⟨rfl, hb8⟩)
    | (go_at_call 13; refine (CW _).mono ?_; rintro e w9 ⟨rfl, hb9⟩))
  go_ret
  exact ⟨rfl, lb_trans (lb_trans (lb_trans (lb_trans (lb_trans (lb_trans (lb_trans (lb_trans hb1 hb2) hb3) hb4) hb5) hb6) hb7) hb8) hb9⟩

end Go.Proofs.Ytlnclldoodpcgaa

namespace Go.Proofs.Ytlnclldoodpcgaa
open Go.RowKit

/-- Is it a call? -/
def cllB (op : Int) : Bool := op == 17 || op == 18
/-- What an instruction reads and writes, by its fields. -/
def irdN (op da db : Int) : Nat := bitN (hA op) da ||| bitN (hB op) db
def iwrN (op dd : Int) : Nat := bitN (hD op) dd ||| bitN (cllB op) 15
theorem rdN_is (v : Int) : rdN v = irdN (dOp v) (dA v) (dB v) := rfl
theorem wrN_is (v : Int) : wrN v = iwrN (dOp v) (dD v) := by
  unfold wrN iwrN
  generalize dOp v = op
  by_cases h : op = 17 ∨ op = 18
  · rw [if_pos h]
    rcases h with rfl | rfl
    · rw [show hD 17 = false by decide, show cllB 17 = true by decide, show bitN false (dD v) = 0 from rfl, Nat.zero_or]; decide
    · rw [show hD 18 = false by decide, show cllB 18 = true by decide, show bitN false (dD v) = 0 from rfl, Nat.zero_or]; decide
  · rw [if_neg h]
    have : cllB op = false := by
      unfold cllB
      rw [Bool.or_eq_false_iff, beq_eq_false_iff_ne, beq_eq_false_iff_ne]
      exact ⟨fun e => h (.inl e), fun e => h (.inr e)⟩
    rw [this, show bitN false 15 = 0 from rfl, Nat.or_zero]
theorem irdN_lt {op da db : Int} (h : da ≤ 15) (k : db ≤ 15) : irdN op da db < 65536 := orN_lt (bitN_lt _ h) (bitN_lt _ k)
theorem iwrN_lt {op dd : Int} (h : dd ≤ 15) : iwrN op dd < 65536 := orN_lt (bitN_lt _ h) (bitN_lt _ (by omega))
theorem linkA {n : Nat} (h : n < 65536) : ((bits .and .u16 (n : Int) 32768) != 0) = decide (n / 32768 = 1) := by
  rw [u16_and _ _ (by omega) (by omega) (by omega) (by omega)]
  have e : ((n : Int).toNat &&& (32768 : Int).toNat : Nat) = if n / 32768 = 1 then 32768 else 0 := by
    show n &&& 32768 = _
    apply Nat.eq_of_testBit_eq
    intro i
    rw [Nat.testBit_and, show (32768 : Nat) = 2 ^ 15 from rfl, Nat.testBit_two_pow]
    by_cases hi : 15 = i
    · subst hi
      rw [Nat.testBit_eq_decide_div_mod_eq]
      by_cases e : n / 2 ^ 15 = 1
      · rw [if_pos e, e, Nat.testBit_two_pow]; rfl
      · rw [if_neg e]
        have : n / 2 ^ 15 = 0 := by omega
        rw [this]; rfl
    · by_cases e : n / 2 ^ 15 = 1
      · rw [if_pos e, Nat.testBit_two_pow]; simp [hi]
      · rw [if_neg e]; simp [hi]
  rw [e]
  by_cases k : n / 32768 = 1
  · rw [if_pos k, decide_eq_true k]; rfl
  · rw [if_neg k, decide_eq_false k]; rfl

end Go.Proofs.Ytlnclldoodpcgaa
