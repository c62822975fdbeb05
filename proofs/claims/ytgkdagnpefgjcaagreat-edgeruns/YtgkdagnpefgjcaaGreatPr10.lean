/-
  Ends, Falls, Target and Aim of package isa, each by what it returns; a word is of 32 bits. leaves and Check of package image, by what they return; each word is of 32 bits. A map of marks in memory: which places it has.
-/
import Derived.Test.YtgkdagnpefgjcaaGreatProg
import Derived.Test.YtgkdagnpefgjcaaGreatPr09
import Derived.WalkKit
import Derived.WalkSpells
import Derived.WalkLawsBesides
import Derived.RowKit3
import Derived.Below
import Derived.Deep.QuietTactic
import Derived.BigQuiet
import Derived.WalkSmall
import Derived.Laws.Rows
import Derived.Test.YtgkdagnpefgjcaaGreatPr05
import Derived.Maps.OwnSet
import Derived.Maps.Own
import Derived.Maps.OwnOps
namespace Go.Proofs.YtgkdagnpefgjcaaGreat
open Go.RowKit

theorem dOp_le {v : Int} (h1 : v < 4294967296) : dOp v ≤ 31 := by
  unfold dOp wOp; split <;> omega
theorem isafalls_any (v : Int) (h0 : 0 ≤ v) (h1 : v < 4294967296) (w : World) : Calls Tryz.prog 40 #[.int .u32 v] w fun e w' => e = .returned (.bool (!endsB (dOp v) || dOp v == 16)) ∧ Below w.heap.size w w' :=
  falls_of v _ _ _ _ _ w (isadecode_any v h0 h1)
theorem isaends_any (v : Int) (h0 : 0 ≤ v) (h1 : v < 4294967296) (w : World) : Calls Tryz.prog 29 #[.int .u32 v] w fun e w' => e = .returned (.bool (endsB (dOp v))) ∧ Below w.heap.size w w' := by
  have h := ends_of v _ _ _ _ _ _ w (isadecode_any v h0 h1) (isafalls_any v h0 h1)
  rw [ends_falls] at h
  exact h
theorem isT_hP (v : Int) : isT v = hP (dOp v) := by
  unfold isT
  cases h : hP (dOp v)
  · simp
  · unfold hP at h
    simp at h
    rw [decide_eq_true (by omega)]; rfl
theorem isatarget_any (v : Int) (h0 : 0 ≤ v) (h1 : v < 4294967296) (w : World) : Calls Tryz.prog 35 #[.int .u32 v] w fun e w' => e = .returned (.tuple #[.int .i64 (tgV v), .bool (isT v)]) ∧ Below w.heap.size w w' := by
  have h := target_of v _ _ _ _ _ _ _ _ _ _ w (isadecode_any v h0 h1) (isahas_any (dOp v) (by have := dOp_le h1; omega))
  rw [← isT_hP] at h
  exact h
theorem aim_no {v p : Int} (hT : isT v = true) (hp : ¬ (0 ≤ p ∧ p < 16384)) : encV (dOp v) (dD v) (dA v) (dB v) p = 0 ∧ encE (dOp v) (dD v) (dA v) (dB v) p = 11 := by
  rw [isT_hP] at hT
  have hN := hP_hN _ hT
  have hr : ¬ (dOp v < 0 ∨ 21 < dOp v) := by unfold hP at hT; simp at hT; omega
  refine encE_no hr ?_
  unfold insOK numOK
  rw [hT, hN, decide_eq_false hp]
  simp



end Go.Proofs.YtgkdagnpefgjcaaGreat

namespace Go.Proofs.YtgkdagnpefgjcaaGreat
open Go.RowKit

theorem leaves_any (v : Int) (h0 : 0 ≤ v) (h1 : v < 4294967296) (w : World) : Calls Tryz.prog 36 #[.int .u32 v] w fun e w' => e = .returned (.bool (lastOK v)) ∧ Below w.heap.size w w' := by
  have C := isadecode_any v h0 h1 w
  unfold lastOK
  generalize dOp v = x at *
  generalize dD v = x1 at *
  generalize dA v = x2 at *
  generalize dB v = x3 at *
  generalize dN v = x4 at *
  go_enter Tryz.func36, Tryz.ntmps36
  go_wp2_with fail
  refine C.mono ?_
  rintro e w1 ⟨rfl, hb⟩
  clear C
  go_wp2
  all_goals (
    go_ret
    refine ⟨retB ?_, hb⟩
    simp_all)
theorem lb_box0 {w w1 : World} {B : Nat} {cs : Array Value} {t : TypeId} (h : w.heap[B]? = some (.cells cs t (0, 0))) (hb : Below w.heap.size w w1) : w1.heap[B]? = some (.cells cs t (0, 0)) := by
  rw [hb.block B (Array.getElem?_eq_some_iff.1 h).1]; exact h
def ChkP (E N : Int) (w : World) (e : Ending) (w' : World) : Prop := e = .returned (.tuple #[.int .i64 E, .int .i64 N]) ∧ Below w.heap.size w w'
set_option maxRecDepth 100000 in
set_option maxHeartbeats 1000000 in
theorem check_any (A1 A2 : Option Addr) (c1 ml c2 : Nat) (ent : Int) (text : List Int) (w : World) (hT : IntsAt w A1 .u32 text) (hR : ∀ i, i < text.length → 0 ≤ nth text i ∧ nth text i < 4294967296) (hl : text.length ≤ 1048576) (hm : ml ≤ 1048576) :
    Calls Tryz.prog 19 #[.agg #[.slice A1 text.length c1, .int .i64 ent, .slice A2 ml c2]] w (ChkP (checkI text ml ent).1 (checkI text ml ent).2 w) := by
  by_cases h0 : text.length = 0
  · rw [check0 h0, h0]
    go_enter Tryz.func19, Tryz.ntmps19
    go_wp2
    go_ret2
    exact ⟨rfl, lb_alloc (Below.refl _ _) _⟩
  have n0 : ((text.length : Int) == 0) = false := by simpa using h0
  by_cases h1 : 16384 < text.length
  · rw [check1 h0 h1]
    go_enter Tryz.func19, Tryz.ntmps19
    go_wp2
    go_ret2
    exact ⟨rfl, lb_alloc (Below.refl _ _) _⟩
  by_cases h2 : 4096 < ml
  · rw [check2 h0 h1 h2]
    go_enter Tryz.func19, Tryz.ntmps19
    go_wp2
    go_ret2
    exact ⟨rfl, lb_alloc (Below.refl _ _) _⟩
  by_cases h3 : ent < 0
  · rw [check3 h0 h1 h2 (.inl h3)]
    go_enter Tryz.func19, Tryz.ntmps19
    go_wp2
    go_ret2
    exact ⟨rfl, lb_alloc (Below.refl _ _) _⟩
  by_cases h4 : (text.length : Int) ≤ ent
  · rw [check3 h0 h1 h2 (.inr h4)]
    go_enter Tryz.func19, Tryz.ntmps19
    go_wp2
    go_ret2
    exact ⟨rfl, lb_alloc (Below.refl _ _) _⟩
  have HP : Hid (Past text ml ent) := ⟨by omega, by omega, by omega, by omega, by omega⟩
  have HB0 : Hid (Below w.heap.size w (w.alloc (.cells #[.slice A1 text.length c1, .int .i64 ent, .slice A2 ml c2] 25))) := lb_alloc (Below.refl _ _) _
  have HX : Hid ((w.alloc (.cells #[.slice A1 text.length c1, .int .i64 ent, .slice A2 ml c2] 25)).heap[w.heap.size]? = some (.cells #[.slice A1 text.length c1, .int .i64 ent, .slice A2 ml c2] 25 (0, 0))) := heap_alloc_new _ _
  have HS : Hid (∀ i, i < text.length → ∃ a : Addr, A1 = some a) := fun i hi => (hT i hi).imp fun a h => h.1
  clear h1 h2 h3 h4
  have hlen : text.length ≤ 16384 := HP.out.len
  have hml := HP.out.mem
  have hpos := HP.out.pos
  have he0 := HP.out.ent0
  have he1 := HP.out.ent1
  go_enter Tryz.func19, Tryz.ntmps19
  go_wp2
  go_loopw [37] (fun i wr => ∃ k : Nat, i = .int .i64 k ∧ k ≤ text.length ∧ Hid (∀ j, j < k → farT text j = false) ∧ Hid (Below (w.alloc (.cells #[.slice A1 text.length c1, .int .i64 ent, .slice A2 ml c2] 25)).heap.size (w.alloc (.cells #[.slice A1 text.length c1, .int .i64 ent, .slice A2 ml c2] 25)) wr)) (fun i _ => text.length - (intOf i).toNat)
  case atStart => exact ⟨0, rfl, by omega, fun j hj => by omega, Below.refl _ _⟩
  case round =>
    obtain ⟨k, rfl, hk, hj, hb⟩ := hrel
    have HBr : Hid (Below w.heap.size w wr) := lb_trans HB0.out hb.out
    by_cases hlt : k < text.length
    · obtain ⟨a, rfl, q⟩ := (hT.keep HBr.out) k hlt
      obtain ⟨hv0, hv1⟩ := hR k hlt
      have C := isatarget_any (nth text k) hv0 hv1 wr
      have HF : Hid (farT text k = (isT (nth text k) && decide ((text.length : Int) ≤ tgV (nth text k)))) := rfl
      generalize nth text k = v at *
      generalize isT v = t at *
      generalize tgV v = z at *
      cases t with
      | false =>
        go_wp2_with (go_at_call 35; refine C.mono ?_; rintro e w1 ⟨rfl, hb1⟩)
        go_roundw
        case rel => exact ⟨k + 1, by go_num, by omega, fun j hj1 => by
          by_cases hjk : j = k
          · subst hjk; rw [HF.out]; rfl
          · exact hj.out j (by omega), lb_trans hb.out hb1⟩
        case measure => simp [intOf]; omega
      | true =>
        by_cases hz : (text.length : Int) ≤ z
        · go_wp2_with (go_at_call 35; refine C.mono ?_; rintro e w1 ⟨rfl, hb1⟩)
          go_ret2
          have e := check_far HP.out hlt hj.out (by rw [HF.out]; simpa using hz)
          rw [e]
          exact ⟨rfl, lb_trans HBr.out hb1⟩
        · go_wp2_with (go_at_call 35; refine C.mono ?_; rintro e w1 ⟨rfl, hb1⟩)
          go_roundw
          case rel => exact ⟨k + 1, by go_num, by omega, fun j hj1 => by
            by_cases hjk : j = k
            · subst hjk; rw [HF.out]; simpa using hz
            · exact hj.out j (by omega), lb_trans hb.out hb1⟩
          case measure => simp [intOf]; omega
    · obtain rfl : k = text.length := by omega
      obtain ⟨a, rfl, q⟩ := (hT.keep HBr.out) (text.length - 1) (by omega)
      have hx := lb_box0 HX.out hb.out
      have x0 : wr.cell? ⟨w.heap.size, 0, none⟩ = some (.slice (some a) text.length c1) := by simp [World.cell?, hx]
      obtain ⟨hv0, hv1⟩ := hR (text.length - 1) (by omega)
      have C := leaves_any (nth text (text.length - 1)) hv0 hv1 wr
      have HE : Hid _ := check_end HP.out hj.out
      have hc : ((text.length - 1 : Nat) : Int) = (text.length : Int) - 1 := by omega
      generalize nth text (text.length - 1) = v at *
      generalize lastOK v = t at *
      cases t with
      | true =>
        go_wp2_with (go_at_call 36; refine C.mono ?_; rintro e w1 ⟨rfl, hb1⟩)
        go_ret2
        rw [HE.out]
        exact ⟨rfl, lb_trans HBr.out hb1⟩
      | false =>
        go_wp2_with (go_at_call 36; refine C.mono ?_; rintro e w1 ⟨rfl, hb1⟩)
        go_ret2
        rw [HE.out]
        exact ⟨by simp; omega, lb_trans HBr.out hb1⟩





end Go.Proofs.YtgkdagnpefgjcaaGreat

namespace Go.Proofs.YtgkdagnpefgjcaaGreat
open Go.RowKit

open Go.Maps Go.WideMaps
theorem lawI : Keyed Tryz.prog 3 := int_keyed Tryz.underlying3
theorem zeroU (w : World) : (zeroValue 81).run Tryz.prog w = .ok (.agg #[]) w := by kernel_rfl
theorem mapU : Tryz.prog.underlying 80 = some (.map 3 81) := by kernel_rfl
theorem mkM (w : World) : (Instr.makeMap 80 none).run Tryz.prog w = .ok (.map (some w.heap.size)) (w.alloc (.map #[] 0)) := by
  first | kernel_rfl | (simp [Instr.makeMap, run_underlying mapU, Result.andThen])
/-- A map of marks, of at most n places. -/
def Mks (w : World) (b n : Nat) (f : Int → Bool) : Prop := ∃ D : DataW Unit, w.ownsMap Tryz.prog 3 unitElem b n D ∧ ∀ x : Int, Maps.has D (.int .i64 x) = f x
theorem Mks.made (w : World) : Mks (w.alloc (.map #[] 0)) w.heap.size 0 noF := ⟨_, World.ownsMap_made w Tryz.prog 3 unitElem, fun _x => rfl⟩
theorem Mks.lt {w : World} {b n : Nat} {f : Int → Bool} (h : Mks w b n f) : b < w.heap.size := by
  obtain ⟨D, h, _⟩ := h
  exact h.lt
theorem Mks.below {w w1 : World} {B b n : Nat} {f : Int → Bool} (h : Mks w b n f) (hb : Below B w w1) (hB : b < B) : Mks w1 b n f := by
  obtain ⟨D, ⟨es, clock, h1, h2⟩, h3⟩ := h
  exact ⟨D, ⟨es, clock, by rw [hb.block b hB]; exact h1, h2⟩, h3⟩
theorem Mks.keep {w w1 : World} {b n : Nat} {f : Int → Bool} (h : Mks w b n f) (hb : Below w.heap.size w w1) : Mks w1 b n f := h.below hb h.lt
theorem Mks.kept {w w1 : World} {b n : Nat} {row : Option Nat} {f : Int → Bool} (h : Mks w b n f) (hg : w.grownBy w1 row) (hne : some b ≠ row) : Mks w1 b n f := by
  obtain ⟨D, h1, h3⟩ := h
  exact ⟨D, h1.kept hg hne, h3⟩
theorem Mks.fit {w : World} {b n : Nat} {f g : Int → Bool} (h : Mks w b n f) (e : ∀ x, f x = g x) : Mks w b n g := by
  obtain ⟨D, h, h3⟩ := h
  exact ⟨D, h, fun s => by rw [← e s]; exact h3 s⟩
theorem Mks.more {w : World} {b n m : Nat} {f : Int → Bool} (h : Mks w b n f) (hn : n ≤ m) : Mks w b m f := by
  obtain ⟨D, h, h3⟩ := h
  exact ⟨D, h.mono hn, h3⟩
theorem keyI {x : Int} (h0 : -9223372036854775808 ≤ x) (h1 : x ≤ 9223372036854775807) : keyOf Tryz.prog 3 (.int .i64 x) = some (.int .i64 x) := keyOf_int_mk Tryz.underlying3 (WalkArith.wf_i64 (by omega))
theorem Mks.look {w : World} {b n : Nat} {f : Int → Bool} (h : Mks w b n f) {x : Int} (h0 : -9223372036854775808 ≤ x) (h1 : x ≤ 9223372036854775807) : (Instr.lookup 80 (.map (some b)) (.int .i64 x) true).run Tryz.prog w = .ok (.tuple #[.agg #[], .bool (f x)]) w := by
  obtain ⟨D, h, h3⟩ := h
  obtain ⟨v, ps, hrun, hv⟩ := h.look_ok lawI mapU (zeroU w) unitElem_mk (keyI h0 h1)
  obtain ⟨rfl, _⟩ := unitElem_inv hv
  rw [hrun, h3]
theorem Mks.put {w : World} {b n : Nat} {f : Int → Bool} (h : Mks w b n f) (hn : n < 1000000000000) {x : Int} (h0 : -9223372036854775808 ≤ x) (h1 : x ≤ 9223372036854775807) : ∃ w', (Instr.mapUpdate 80 (.map (some b)) (.int .i64 x) (.agg #[])).run Tryz.prog w = .ok () w' ∧ Mks w' b (n + 1) (setF f x) ∧ w.grownBy w' (some b) := by
  obtain ⟨D, h, h3⟩ := h
  obtain ⟨w', hrun, k1, hg⟩ := h.update lawI mapU (by unfold maxLen; omega) (keyI h0 h1) unitElem_mk
  refine ⟨w', hrun, ⟨_, k1, fun y => ?_⟩, hg⟩
  unfold setF
  cases hy : (y == x) with
  | true =>
    have : y = x := by simpa using hy
    subst this
    exact Maps.has_put_same h.isMap (by simp [WideAt.IsKeyLit]) _
  | false =>
    have hne : (Lit.int .i64 y) ≠ .int .i64 x := fun e => by
      injection e with _ e
      subst e
      simp at hy
    rw [Maps.has_put_other hne, Bool.false_or]
    exact h3 y
theorem wpList_mks_put (w : World) {ops : Array Oper} {rest : List Oper} {o : Oper} {a : Act} {Q : Exit → Act → World → Prop} (hg : o.guard = none) (m x v : Operand) (hop : o.op = Op.mapUpdate 80 m x v)
    (b n : Nat) (f : Int → Bool) (hk : Mks w b n f) (hn : n < 1000000000000) (y : Int) (h0 : -9223372036854775808 ≤ y) (h1 : y ≤ 9223372036854775807) (hm : a.eval m = .map (some b)) (hx : a.eval x = .int .i64 y) (hv : a.eval v = .agg #[])
    (hK : ∀ w', Mks w' b (n + 1) (setF f y) → w.grownBy w' (some b) → wpList Tryz.prog ops Q rest (a.put o.dst undef) w') : wpList Tryz.prog ops Q (o :: rest) a w := by
  refine wpList_plain hg fun K' hK' => ?_
  obtain ⟨w', hrun, k1, k2⟩ := hk.put hn h0 h1
  unfold Oper.wp
  simp [execOp, hop, hm, hx, hv, hrun, Result.andThen]
  exact hK' _ _ (hK w' k1 k2)
theorem wpList_mks_look (w : World) {ops : Array Oper} {rest : List Oper} {o : Oper} {a : Act} {Q : Exit → Act → World → Prop} (hg : o.guard = none) (m x : Operand) (hop : o.op = Op.lookup 80 m x true)
    (b n : Nat) (f : Int → Bool) (hk : Mks w b n f) (y : Int) (h0 : -9223372036854775808 ≤ y) (h1 : y ≤ 9223372036854775807) (hm : a.eval m = .map (some b)) (hx : a.eval x = .int .i64 y)
    (hK : wpList Tryz.prog ops Q rest (a.put o.dst (.tuple #[.agg #[], .bool (f y)])) w) : wpList Tryz.prog ops Q (o :: rest) a w := by
  refine wpList_plain hg fun K' hK' => ?_
  have hrun := hk.look h0 h1
  unfold Oper.wp
  simp [execOp, hop, hm, hx, hrun, Result.andThen]
  exact hK' _ _ hK
set_option maxHeartbeats 1000000 in
theorem mark_any (b n : Nat) (f : Int → Bool) (x : Int) (w : World) (hk : Mks w b n f) (hn : n < 1000000000000) (h0 : -9223372036854775808 ≤ x) (h1 : x ≤ 9223372036854775807) :
    Calls Tryz.prog 27 #[.map (some b), .int .i64 x] w fun e w' => e = .returned (.tuple #[]) ∧ Mks w' b (n + 1) (setF f x) ∧ w.grownBy w' (some b) := by
  have HK : Hid (Mks w b n f) := hk
  clear hk
  go_enter Tryz.func27, Tryz.ntmps27
  go_wp2_with (at_mapUpdate; refine wpList_mks_put _ rfl _ _ _ rfl b n f HK.out hn x h0 h1 rfl rfl rfl ?_; intro w2 hk2 hg2)
  refine bodyPost_end (v := .tuple #[]) (by simp [results, Tryz.results27, go_sem]) rfl ?_
  exact ⟨rfl, hk2, hg2⟩


end Go.Proofs.YtgkdagnpefgjcaaGreat
