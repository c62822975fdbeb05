/-
  Has of package isa, for every op that is an int8's number. Ends, Falls, Target and Aim of package isa, each by what it returns; a word is of 32 bits. A map of marks in memory: which places it has.
-/
import Derived.Test.YtgkdagnpefgjcaaProg
import Derived.Test.YtgkdagnpefgjcaaPb07
import Derived.Test.YtgkdagnpefgjcaaPb08
import Derived.WalkKit
import Derived.WalkSpells
import Derived.WalkLawsBesides
import Derived.RowKit3
import Derived.Below
import Derived.Deep.QuietTactic
import Derived.BigQuiet
import Derived.WalkSmall
import Derived.Laws.Rows
import Derived.Maps.OwnSet
import Derived.Maps.Own
import Derived.Maps.OwnOps
import Derived.Test.YtgkdagnpefgjcaaPb04
namespace Go.Proofs.Ytgkdagnpefgjcaa
open Go.RowKit


set_option maxRecDepth 100000 in
theorem isahas_any (op : Int) (h8 : op ≤ 127) (w : World) : Calls Try.prog 79 #[.int .i8 op] w fun e w' => e = .returned (.tuple #[.bool (hD op), .bool (hA op), .bool (hB op), .bool (hN op), .bool (hP op)]) ∧ Below w.heap.size w w' := by
  have CK := known_any op h8
  by_cases hr : 0 ≤ op ∧ op ≤ 21
  · rw [decide_eq_true hr] at CK
    obtain ⟨b1, b2, b4, b8, b16⟩ := sh_bits op hr.1 hr.2
    have hI := index_sh op hr.1 hr.2
    have C1 := fun wx => fhas_any (sh op) 1 wx
    have C2 := fun wx => fhas_any (sh op) 2 wx
    have C4 := fun wx => fhas_any (sh op) 4 wx
    have C8 := fun wx => fhas_any (sh op) 8 wx
    have C16 := fun wx => fhas_any (sh op) 16 wx
    rw [b1] at C1; rw [b2] at C2; rw [b4] at C4; rw [b8] at C8; rw [b16] at C16
    clear b1 b2 b4 b8 b16
    go_enter Try.func79, Try.ntmps79
    go_wp2_with fail
    refine (CK _).mono ?_
    rintro e w1 ⟨rfl, rfl⟩
    go_wp2_with fail
    refine (shapes_any _).mono ?_
    rintro e w2 ⟨rfl, hb⟩
    have HB : Hid (Below w1.heap.size w1 w2) := hb
    clear hb CK
    go_wp2_with fail
    refine (C1 _).mono ?_
    rintro e w3 ⟨rfl, rfl⟩
    go_wp2_with fail
    refine (C2 _).mono ?_
    rintro e w3 ⟨rfl, rfl⟩
    go_wp2_with fail
    refine (C4 _).mono ?_
    rintro e w3 ⟨rfl, rfl⟩
    go_wp2_with fail
    refine (C8 _).mono ?_
    rintro e w3 ⟨rfl, rfl⟩
    go_wp2_with fail
    refine (C16 _).mono ?_
    rintro e w3 ⟨rfl, rfl⟩
    go_wp2
    exact bodyPost_ret (v := .tuple #[.bool (hD op), .bool (hA op), .bool (hB op), .bool (hN op), .bool (hP op)]) (by simp [results, Try.results79, go_sem]) rfl ⟨rfl, HB.out⟩
  · rw [decide_eq_false hr] at CK
    have e1 : hD op = false := by unfold hD; exact decide_eq_false (by omega)
    have e2 : hA op = false := by unfold hA; exact decide_eq_false (by omega)
    have e3 : hB op = false := by unfold hB; exact decide_eq_false (by omega)
    have e4 : hN op = false := by unfold hN; exact decide_eq_false (by omega)
    have e5 : hP op = false := by unfold hP; exact decide_eq_false (by omega)
    rw [e1, e2, e3, e4, e5]
    clear e1 e2 e3 e4 e5
    go_enter Try.func79, Try.ntmps79
    go_wp2_with fail
    refine (CK _).mono ?_
    rintro e w1 ⟨rfl, rfl⟩
    go_wp2
    exact bodyPost_ret (v := .tuple #[.bool false, .bool false, .bool false, .bool false, .bool false]) (by simp [results, Try.results79, go_sem]) rfl ⟨rfl, Below.refl _ _⟩




end Go.Proofs.Ytgkdagnpefgjcaa

namespace Go.Proofs.Ytgkdagnpefgjcaa
open Go.RowKit

theorem dOp_le {v : Int} (h1 : v < 4294967296) : dOp v ≤ 31 := by
  unfold dOp wOp; split <;> omega
theorem isafalls_any (v : Int) (h0 : 0 ≤ v) (h1 : v < 4294967296) (w : World) : Calls Try.prog 65 #[.int .u32 v] w fun e w' => e = .returned (.bool (!endsB (dOp v) || dOp v == 16)) ∧ Below w.heap.size w w' :=
  falls_of v _ _ _ _ _ w (isadecode_any v h0 h1)
theorem isaends_any (v : Int) (h0 : 0 ≤ v) (h1 : v < 4294967296) (w : World) : Calls Try.prog 57 #[.int .u32 v] w fun e w' => e = .returned (.bool (endsB (dOp v))) ∧ Below w.heap.size w w' := by
  have h := ends_of v _ _ _ _ _ _ w (isadecode_any v h0 h1) (isafalls_any v h0 h1)
  rw [ends_falls] at h
  exact h
theorem isT_hP (v : Int) : isT v = hP (dOp v) := by
  unfold isT
  cases h : hP (dOp v)
  · simp
  · unfold hP at h
    simp at h
    rw [decide_eq_true (by omega)]; rfl
theorem isatarget_any (v : Int) (h0 : 0 ≤ v) (h1 : v < 4294967296) (w : World) : Calls Try.prog 63 #[.int .u32 v] w fun e w' => e = .returned (.tuple #[.int .i64 (tgV v), .bool (isT v)]) ∧ Below w.heap.size w w' := by
  have h := target_of v _ _ _ _ _ _ _ _ _ _ w (isadecode_any v h0 h1) (isahas_any (dOp v) (by have := dOp_le h1; omega))
  rw [← isT_hP] at h
  exact h
theorem aim_no {v p : Int} (hT : isT v = true) (hp : ¬ (0 ≤ p ∧ p < 16384)) : encV (dOp v) (dD v) (dA v) (dB v) p = 0 ∧ encE (dOp v) (dD v) (dA v) (dB v) p = 11 := by
  rw [isT_hP] at hT
  have hN := hP_hN _ hT
  have hr : ¬ (dOp v < 0 ∨ 21 < dOp v) := by unfold hP at hT; simp at hT; omega
  refine encE_no hr ?_
  unfold insOK numOK
  rw [hT, hN, decide_eq_false hp]
  simp



end Go.Proofs.Ytgkdagnpefgjcaa

namespace Go.Proofs.Ytgkdagnpefgjcaa
open Go.RowKit

open Go.Maps Go.WideMaps
theorem lawI : Keyed Try.prog 3 := int_keyed Try.underlying3
theorem zeroU (w : World) : (zeroValue 95).run Try.prog w = .ok (.agg #[]) w := by kernel_rfl
theorem mapU : Try.prog.underlying 94 = some (.map 3 95) := by kernel_rfl
theorem mkM (w : World) : (Instr.makeMap 94 none).run Try.prog w = .ok (.map (some w.heap.size)) (w.alloc (.map #[] 0)) := by
  first | kernel_rfl | (simp [Instr.makeMap, run_underlying mapU, Result.andThen])
/-- A map of marks, of at most n places. -/
def Mks (w : World) (b n : Nat) (f : Int → Bool) : Prop := ∃ D : DataW Unit, w.ownsMap Try.prog 3 unitElem b n D ∧ ∀ x : Int, Maps.has D (.int .i64 x) = f x
theorem Mks.made (w : World) : Mks (w.alloc (.map #[] 0)) w.heap.size 0 noF := ⟨_, World.ownsMap_made w Try.prog 3 unitElem, fun _x => rfl⟩
theorem Mks.lt {w : World} {b n : Nat} {f : Int → Bool} (h : Mks w b n f) : b < w.heap.size := by
  obtain ⟨D, h, _⟩ := h
  exact h.lt
theorem Mks.below {w w1 : World} {B b n : Nat} {f : Int → Bool} (h : Mks w b n f) (hb : Below B w w1) (hB : b < B) : Mks w1 b n f := by
  obtain ⟨D, ⟨es, clock, h1, h2⟩, h3⟩ := h
  exact ⟨D, ⟨es, clock, by rw [hb.block b hB]; exact h1, h2⟩, h3⟩
theorem Mks.keep {w w1 : World} {b n : Nat} {f : Int → Bool} (h : Mks w b n f) (hb : Below w.heap.size w w1) : Mks w1 b n f := h.below hb h.lt
theorem Mks.kept {w w1 : World} {b n : Nat} {row : Option Nat} {f : Int → Bool} (h : Mks w b n f) (hg : w.grownBy w1 row) (hne : some b ≠ row) : Mks w1 b n f := by
  obtain ⟨D, h1, h3⟩ := h
  exact ⟨D, h1.kept hg hne, h3⟩
theorem Mks.fit {w : World} {b n : Nat} {f g : Int → Bool} (h : Mks w b n f) (e : ∀ x, f x = g x) : Mks w b n g := by
  obtain ⟨D, h, h3⟩ := h
  exact ⟨D, h, fun s => by rw [← e s]; exact h3 s⟩
theorem Mks.more {w : World} {b n m : Nat} {f : Int → Bool} (h : Mks w b n f) (hn : n ≤ m) : Mks w b m f := by
  obtain ⟨D, h, h3⟩ := h
  exact ⟨D, h.mono hn, h3⟩
theorem keyI {x : Int} (h0 : -9223372036854775808 ≤ x) (h1 : x ≤ 9223372036854775807) : keyOf Try.prog 3 (.int .i64 x) = some (.int .i64 x) := keyOf_int_mk Try.underlying3 (WalkArith.wf_i64 (by omega))
theorem Mks.look {w : World} {b n : Nat} {f : Int → Bool} (h : Mks w b n f) {x : Int} (h0 : -9223372036854775808 ≤ x) (h1 : x ≤ 9223372036854775807) : (Instr.lookup 94 (.map (some b)) (.int .i64 x) true).run Try.prog w = .ok (.tuple #[.agg #[], .bool (f x)]) w := by
  obtain ⟨D, h, h3⟩ := h
  obtain ⟨v, ps, hrun, hv⟩ := h.look_ok lawI mapU (zeroU w) unitElem_mk (keyI h0 h1)
  obtain ⟨rfl, _⟩ := unitElem_inv hv
  rw [hrun, h3]
theorem Mks.put {w : World} {b n : Nat} {f : Int → Bool} (h : Mks w b n f) (hn : n < 1000000000000) {x : Int} (h0 : -9223372036854775808 ≤ x) (h1 : x ≤ 9223372036854775807) : ∃ w', (Instr.mapUpdate 94 (.map (some b)) (.int .i64 x) (.agg #[])).run Try.prog w = .ok () w' ∧ Mks w' b (n + 1) (setF f x) ∧ w.grownBy w' (some b) := by
  obtain ⟨D, h, h3⟩ := h
  obtain ⟨w', hrun, k1, hg⟩ := h.update lawI mapU (by unfold maxLen; omega) (keyI h0 h1) unitElem_mk
  refine ⟨w', hrun, ⟨_, k1, fun y => ?_⟩, hg⟩
  unfold setF
  cases hy : (y == x) with
  | true =>
    have : y = x := by simpa using hy
    subst this
    exact Maps.has_put_same h.isMap (by simp [WideAt.IsKeyLit]) _
  | false =>
    have hne : (Lit.int .i64 y) ≠ .int .i64 x := fun e => by
      injection e with _ e
      subst e
      simp at hy
    rw [Maps.has_put_other hne, Bool.false_or]
    exact h3 y
theorem wpList_mks_put (w : World) {ops : Array Oper} {rest : List Oper} {o : Oper} {a : Act} {Q : Exit → Act → World → Prop} (hg : o.guard = none) (m x v : Operand) (hop : o.op = Op.mapUpdate 94 m x v)
    (b n : Nat) (f : Int → Bool) (hk : Mks w b n f) (hn : n < 1000000000000) (y : Int) (h0 : -9223372036854775808 ≤ y) (h1 : y ≤ 9223372036854775807) (hm : a.eval m = .map (some b)) (hx : a.eval x = .int .i64 y) (hv : a.eval v = .agg #[])
    (hK : ∀ w', Mks w' b (n + 1) (setF f y) → w.grownBy w' (some b) → wpList Try.prog ops Q rest (a.put o.dst undef) w') : wpList Try.prog ops Q (o :: rest) a w := by
  refine wpList_plain hg fun K' hK' => ?_
  obtain ⟨w', hrun, k1, k2⟩ := hk.put hn h0 h1
  unfold Oper.wp
  simp [execOp, hop, hm, hx, hv, hrun, Result.andThen]
  exact hK' _ _ (hK w' k1 k2)
theorem wpList_mks_look (w : World) {ops : Array Oper} {rest : List Oper} {o : Oper} {a : Act} {Q : Exit → Act → World → Prop} (hg : o.guard = none) (m x : Operand) (hop : o.op = Op.lookup 94 m x true)
    (b n : Nat) (f : Int → Bool) (hk : Mks w b n f) (y : Int) (h0 : -9223372036854775808 ≤ y) (h1 : y ≤ 9223372036854775807) (hm : a.eval m = .map (some b)) (hx : a.eval x = .int .i64 y)
    (hK : wpList Try.prog ops Q rest (a.put o.dst (.tuple #[.agg #[], .bool (f y)])) w) : wpList Try.prog ops Q (o :: rest) a w := by
  refine wpList_plain hg fun K' hK' => ?_
  have hrun := hk.look h0 h1
  unfold Oper.wp
  simp [execOp, hop, hm, hx, hrun, Result.andThen]
  exact hK' _ _ hK
set_option maxHeartbeats 1000000 in
theorem mark_any (b n : Nat) (f : Int → Bool) (x : Int) (w : World) (hk : Mks w b n f) (hn : n < 1000000000000) (h0 : -9223372036854775808 ≤ x) (h1 : x ≤ 9223372036854775807) :
    Calls Try.prog 55 #[.map (some b), .int .i64 x] w fun e w' => e = .returned (.tuple #[]) ∧ Mks w' b (n + 1) (setF f x) ∧ w.grownBy w' (some b) := by
  have HK : Hid (Mks w b n f) := hk
  clear hk
  go_enter Try.func55, Try.ntmps55
  go_wp2_with (at_mapUpdate; refine wpList_mks_put _ rfl _ _ _ rfl b n f HK.out hn x h0 h1 rfl rfl rfl ?_; intro w2 hk2 hg2)
  refine bodyPost_end (v := .tuple #[]) (by simp [results, Try.results55, go_sem]) rfl ?_
  exact ⟨rfl, hk2, hg2⟩


end Go.Proofs.Ytgkdagnpefgjcaa
