/-
  Ends, Falls, Target and Aim of package isa, each by what it returns; a word is of 32 bits. A map of marks in memory: which places it has. Worlds that part in one block alone; no Go in sight. Rows of numbers as lists lie in memory; an image of its own memory; no Go in sight.
-/
import Derived.Test.YtmlhnnmelopleaaGreatDoorProg
import Derived.Test.YtmlhnnmelopleaaGreatDoorPs08
import Derived.WalkKit
import Derived.WalkSpells
import Derived.WalkLawsBesides
import Derived.RowKit3
import Derived.Below
import Derived.Deep.QuietTactic
import Derived.BigQuiet
import Derived.WalkSmall
import Derived.Laws.Rows
import Derived.Maps.OwnSet
import Derived.Maps.Own
import Derived.Maps.OwnOps
import Derived.Test.YtmlhnnmelopleaaGreatDoorPs04
import Derived.Test.YtmlhnnmelopleaaGreatDoorPs01
import Derived.Laws.OwnMore
import Derived.Test.YtmlhnnmelopleaaGreatDoorPs03
namespace Go.Proofs.YtmlhnnmelopleaaGreatDoor
open Go.RowKit

theorem dOp_le {v : Int} (h1 : v < 4294967296) : dOp v ≤ 31 := by
  unfold dOp wOp; split <;> omega
theorem isafalls_any (v : Int) (h0 : 0 ≤ v) (h1 : v < 4294967296) (w : World) : Calls Tryz.prog 48 #[.int .u32 v] w fun e w' => e = .returned (.bool (!endsB (dOp v) || dOp v == 16)) ∧ Below w.heap.size w w' :=
  falls_of v _ _ _ _ _ w (isadecode_any v h0 h1)
theorem isaends_any (v : Int) (h0 : 0 ≤ v) (h1 : v < 4294967296) (w : World) : Calls Tryz.prog 27 #[.int .u32 v] w fun e w' => e = .returned (.bool (endsB (dOp v))) ∧ Below w.heap.size w w' := by
  have h := ends_of v _ _ _ _ _ _ w (isadecode_any v h0 h1) (isafalls_any v h0 h1)
  rw [ends_falls] at h
  exact h
theorem isT_hP (v : Int) : isT v = hP (dOp v) := by
  unfold isT
  cases h : hP (dOp v)
  · simp
  · unfold hP at h
    simp at h
    rw [decide_eq_true (by omega)]; rfl
theorem isatarget_any (v : Int) (h0 : 0 ≤ v) (h1 : v < 4294967296) (w : World) : Calls Tryz.prog 97 #[.int .u32 v] w fun e w' => e = .returned (.tuple #[.int .i64 (tgV v), .bool (isT v)]) ∧ Below w.heap.size w w' := by
  have h := target_of v _ _ _ _ _ _ _ _ _ _ w (isadecode_any v h0 h1) (isahas_any (dOp v) (by have := dOp_le h1; omega))
  rw [← isT_hP] at h
  exact h
theorem aim_no {v p : Int} (hT : isT v = true) (hp : ¬ (0 ≤ p ∧ p < 16384)) : encV (dOp v) (dD v) (dA v) (dB v) p = 0 ∧ encE (dOp v) (dD v) (dA v) (dB v) p = 11 := by
  rw [isT_hP] at hT
  have hN := hP_hN _ hT
  have hr : ¬ (dOp v < 0 ∨ 21 < dOp v) := by unfold hP at hT; simp at hT; omega
  refine encE_no hr ?_
  unfold insOK numOK
  rw [hT, hN, decide_eq_false hp]
  simp





end Go.Proofs.YtmlhnnmelopleaaGreatDoor

namespace Go.Proofs.YtmlhnnmelopleaaGreatDoor
open Go.RowKit

open Go.Maps Go.WideMaps
theorem lawI : Keyed Tryz.prog 3 := int_keyed Tryz.underlying3
theorem zeroU (w : World) : (zeroValue 138).run Tryz.prog w = .ok (.agg #[]) w := by kernel_rfl
theorem mapU : Tryz.prog.underlying 137 = some (.map 3 138) := by kernel_rfl
theorem mkM (w : World) : (Instr.makeMap 137 none).run Tryz.prog w = .ok (.map (some w.heap.size)) (w.alloc (.map #[] 0)) := by
  first | kernel_rfl | (simp [Instr.makeMap, run_underlying mapU, Result.andThen])
/-- A map of marks, of at most n places. -/
def Mks (w : World) (b n : Nat) (f : Int → Bool) : Prop := ∃ D : DataW Unit, w.ownsMap Tryz.prog 3 unitElem b n D ∧ ∀ x : Int, Maps.has D (.int .i64 x) = f x
theorem Mks.made (w : World) : Mks (w.alloc (.map #[] 0)) w.heap.size 0 noF := ⟨_, World.ownsMap_made w Tryz.prog 3 unitElem, fun _x => rfl⟩
theorem Mks.lt {w : World} {b n : Nat} {f : Int → Bool} (h : Mks w b n f) : b < w.heap.size := by
  obtain ⟨D, h, _⟩ := h
  exact h.lt
theorem Mks.below {w w1 : World} {B b n : Nat} {f : Int → Bool} (h : Mks w b n f) (hb : Below B w w1) (hB : b < B) : Mks w1 b n f := by
  obtain ⟨D, ⟨es, clock, h1, h2⟩, h3⟩ := h
  exact ⟨D, ⟨es, clock, by rw [hb.block b hB]; exact h1, h2⟩, h3⟩
theorem Mks.keep {w w1 : World} {b n : Nat} {f : Int → Bool} (h : Mks w b n f) (hb : Below w.heap.size w w1) : Mks w1 b n f := h.below hb h.lt
theorem Mks.kept {w w1 : World} {b n : Nat} {row : Option Nat} {f : Int → Bool} (h : Mks w b n f) (hg : w.grownBy w1 row) (hne : some b ≠ row) : Mks w1 b n f := by
  obtain ⟨D, h1, h3⟩ := h
  exact ⟨D, h1.kept hg hne, h3⟩
theorem Mks.fit {w : World} {b n : Nat} {f g : Int → Bool} (h : Mks w b n f) (e : ∀ x, f x = g x) : Mks w b n g := by
  obtain ⟨D, h, h3⟩ := h
  exact ⟨D, h, fun s => by rw [← e s]; exact h3 s⟩
theorem Mks.more {w : World} {b n m : Nat} {f : Int → Bool} (h : Mks w b n f) (hn : n ≤ m) : Mks w b m f := by
  obtain ⟨D, h, h3⟩ := h
  exact ⟨D, h.mono hn, h3⟩
theorem keyI {x : Int} (h0 : -9223372036854775808 ≤ x) (h1 : x ≤ 9223372036854775807) : keyOf Tryz.prog 3 (.int .i64 x) = some (.int .i64 x) := keyOf_int_mk Tryz.underlying3 (WalkArith.wf_i64 (by omega))
theorem Mks.look {w : World} {b n : Nat} {f : Int → Bool} (h : Mks w b n f) {x : Int} (h0 : -9223372036854775808 ≤ x) (h1 : x ≤ 9223372036854775807) : (Instr.lookup 137 (.map (some b)) (.int .i64 x) true).run Tryz.prog w = .ok (.tuple #[.agg #[], .bool (f x)]) w := by
  obtain ⟨D, h, h3⟩ := h
  obtain ⟨v, ps, hrun, hv⟩ := h.look_ok lawI mapU (zeroU w) unitElem_mk (keyI h0 h1)
  obtain ⟨rfl, _⟩ := unitElem_inv hv
  rw [hrun, h3]
theorem Mks.put {w : World} {b n : Nat} {f : Int → Bool} (h : Mks w b n f) (hn : n < 1000000000000) {x : Int} (h0 : -9223372036854775808 ≤ x) (h1 : x ≤ 9223372036854775807) : ∃ w', (Instr.mapUpdate 137 (.map (some b)) (.int .i64 x) (.agg #[])).run Tryz.prog w = .ok () w' ∧ Mks w' b (n + 1) (setF f x) ∧ w.grownBy w' (some b) := by
  obtain ⟨D, h, h3⟩ := h
  obtain ⟨w', hrun, k1, hg⟩ := h.update lawI mapU (by unfold maxLen; omega) (keyI h0 h1) unitElem_mk
  refine ⟨w', hrun, ⟨_, k1, fun y => ?_⟩, hg⟩
  unfold setF
  cases hy : (y == x) with
  | true =>
    have : y = x := by simpa using hy
    subst this
    exact Maps.has_put_same h.isMap (by simp [WideAt.IsKeyLit]) _
  | false =>
    have hne : (Lit.int .i64 y) ≠ .int .i64 x := fun e => by
      injection e with _ e
      subst e
      simp at hy
    rw [Maps.has_put_other hne, Bool.false_or]
    exact h3 y
theorem wpList_mks_put (w : World) {ops : Array Oper} {rest : List Oper} {o : Oper} {a : Act} {Q : Exit → Act → World → Prop} (hg : o.guard = none) (m x v : Operand) (hop : o.op = Op.mapUpdate 137 m x v)
    (b n : Nat) (f : Int → Bool) (hk : Mks w b n f) (hn : n < 1000000000000) (y : Int) (h0 : -9223372036854775808 ≤ y) (h1 : y ≤ 9223372036854775807) (hm : a.eval m = .map (some b)) (hx : a.eval x = .int .i64 y) (hv : a.eval v = .agg #[])
    (hK : ∀ w', Mks w' b (n + 1) (setF f y) → w.grownBy w' (some b) → wpList Tryz.prog ops Q rest (a.put o.dst undef) w') : wpList Tryz.prog ops Q (o :: rest) a w := by
  refine wpList_plain hg fun K' hK' => ?_
  obtain ⟨w', hrun, k1, k2⟩ := hk.put hn h0 h1
  unfold Oper.wp
  simp [execOp, hop, hm, hx, hv, hrun, Result.andThen]
  exact hK' _ _ (hK w' k1 k2)
theorem wpList_mks_look (w : World) {ops : Array Oper} {rest : List Oper} {o : Oper} {a : Act} {Q : Exit → Act → World → Prop} (hg : o.guard = none) (m x : Operand) (hop : o.op = Op.lookup 137 m x true)
    (b n : Nat) (f : Int → Bool) (hk : Mks w b n f) (y : Int) (h0 : -9223372036854775808 ≤ y) (h1 : y ≤ 9223372036854775807) (hm : a.eval m = .map (some b)) (hx : a.eval x = .int .i64 y)
    (hK : wpList Tryz.prog ops Q rest (a.put o.dst (.tuple #[.agg #[], .bool (f y)])) w) : wpList Tryz.prog ops Q (o :: rest) a w := by
  refine wpList_plain hg fun K' hK' => ?_
  have hrun := hk.look h0 h1
  unfold Oper.wp
  simp [execOp, hop, hm, hx, hrun, Result.andThen]
  exact hK' _ _ hK
set_option maxHeartbeats 1000000 in
theorem mark_any (b n : Nat) (f : Int → Bool) (x : Int) (w : World) (hk : Mks w b n f) (hn : n < 1000000000000) (h0 : -9223372036854775808 ≤ x) (h1 : x ≤ 9223372036854775807) :
    Calls Tryz.prog 89 #[.map (some b), .int .i64 x] w fun e w' => e = .returned (.tuple #[]) ∧ Mks w' b (n + 1) (setF f x) ∧ w.grownBy w' (some b) := by
  have HK : Hid (Mks w b n f) := hk
  clear hk
  go_enter Tryz.func89, Tryz.ntmps89
  go_wp2_with (at_mapUpdate; refine wpList_mks_put _ rfl _ _ _ rfl b n f HK.out hn x h0 h1 rfl rfl rfl ?_; intro w2 hk2 hg2)
  refine bodyPost_end (v := .tuple #[]) (by simp [results, Tryz.results89, go_sem]) rfl ?_
  exact ⟨rfl, hk2, hg2⟩




end Go.Proofs.YtmlhnnmelopleaaGreatDoor

namespace Go.Proofs.YtmlhnnmelopleaaGreatDoor
open Go.RowKit

/-- Nothing is other but what lies in block g, and new blocks. -/
def But (g : Nat) (w w' : World) : Prop := w'.os = w.os ∧ w'.tape = w.tape ∧ w'.output = w.output ∧ w.heap.size ≤ w'.heap.size ∧ ∀ k, k < w.heap.size → k ≠ g → w'.heap[k]? = w.heap[k]?
theorem But.refl (g : Nat) (w : World) : But g w w := ⟨rfl, rfl, rfl, Nat.le_refl _, fun _ _ _ => rfl⟩
theorem But.trans {g : Nat} {a b c : World} (h : But g a b) (k : But g b c) : But g a c :=
  ⟨k.1.trans h.1, k.2.1.trans h.2.1, k.2.2.1.trans h.2.2.1, Nat.le_trans h.2.2.2.1 k.2.2.2.1, fun i hi hn => (k.2.2.2.2 i (Nat.lt_of_lt_of_le hi h.2.2.2.1) hn).trans (h.2.2.2.2 i hi hn)⟩
theorem But.of {g : Nat} {w w' : World} (h : Below w.heap.size w w') : But g w w' := ⟨h.os, h.tape, h.output, h.size, fun k hk _ => h.block k hk⟩
theorem But.on {g : Nat} {a b c : World} (h : But g a b) (k : Below b.heap.size b c) : But g a c := h.trans (But.of k)
theorem But.set {g : Nat} {a b : World} (h : But g a b) (i : Nat) (v : Value) : But g a (b.setCell ⟨g, i, none⟩ v) :=
  h.trans ⟨rfl, rfl, rfl, Nat.le_of_eq (by simp [go_sem]), fun k _ hn => Below.heap_setCell _ _ _ _ hn⟩
theorem But.drewN {g : Nat} {a b : World} (h : But g a b) (n : Nat) : But g a (b.drewN n) := h
theorem But.cell {g : Nat} {w w' : World} (h : But g w w') {p : Addr} {v : Value} (hp : p.block ≠ g) (hc : w.cell? p = some v) : w'.cell? p = some v := by
  rw [World.cell?_of_block (w := w) (h.2.2.2.2 p.block (World.block_lt_of_cell? w _ hc) hp)]; exact hc
theorem But.below {g : Nat} {w0 w w' : World} (h : But g w w') (hb : Below w0.heap.size w0 w) (hg : w0.heap.size ≤ g) : Below w0.heap.size w0 w' :=
  ⟨h.1.trans hb.os, h.2.1.trans hb.tape, h.2.2.1.trans hb.output, Nat.le_trans hb.size h.2.2.2.1, fun k hk => (h.2.2.2.2 k (Nat.lt_of_lt_of_le hk hb.size) (by omega)).trans (hb.block k hk)⟩







end Go.Proofs.YtmlhnnmelopleaaGreatDoor

namespace Go.Proofs.YtmlhnnmelopleaaGreatDoor
open Go.RowKit

theorem row_but {w w1 : World} {base g n : Nat} {e : TypeId} {sz : Nat} {v : Value} {xs : List Value} (ho : w.ownsRow base e sz v n xs) (hg : g < base) (hb : But g w w1) : w1.ownsRow base e sz v n xs := by
  refine ho.kept (row := some g) ⟨hb.1, hb.2.1, hb.2.2.1, hb.2.2.2.1, fun k hk hn => hb.2.2.2.2 k hk (fun e => hn (by rw [e]))⟩ ?_
  cases hv : v.ownBlock with
  | none => exact Or.inl rfl
  | some k => exact Or.inr fun e => by cases e; have := ho.lt g hv; omega
theorem but_grown {w w1 w2 : World} {g : Nat} {row : Option Nat} (h : But g w w1) (hs : w1.grownBy w2 row) (hr : ∀ k, row = some k → w.heap.size ≤ k) : But g w w2 :=
  ⟨hs.os.trans h.1, hs.tape.trans h.2.1, hs.output.trans h.2.2.1, Nat.le_trans h.2.2.2.1 hs.size, fun k hk hn => (hs.block k (Nat.lt_of_lt_of_le hk h.2.2.2.1) (fun e => by have := hr k e.symm; omega)).trans (h.2.2.2.2 k hk hn)⟩
theorem any_form {w : World} {b n : Nat} {e : TypeId} {sz : Nat} {v : Value} {xs : List Value} (h : w.ownsRow b e sz v n xs) : ∃ A n c, v = .slice A n c := by
  rcases h.2 with ⟨rfl, _⟩ | ⟨g, cap, cur, rfl, _⟩
  · exact ⟨_, _, _, rfl⟩
  · exact ⟨_, _, _, rfl⟩

/-- A new block reads as it was made. -/
theorem new_cells (w : World) (l : List Value) (T : TypeId) (h : l.length ≤ 1048576) : ∀ j u, l[j]? = some u → (w.alloc (.cells l.toArray T)).cell? ((⟨w.heap.size, 0, none⟩ : Addr).add j) = some u := by
  have hr : (w.alloc (.cells l.toArray T)).ownsRow w.heap.size T 1 (.slice (some ⟨w.heap.size, 0, none⟩) l.length l.length) l.length l := by
    refine ⟨by omega, Or.inr ⟨w.heap.size, l.length, l.toArray, rfl, Nat.le_refl _, heap_alloc_new _ _, Nat.le_refl _, by unfold maxLen; omega, by simp, ?_⟩⟩
    simp only [Nat.mul_one]
    exact List.take_length
  exact hr.cells rfl
/-- Items as cells. -/
def iVals (K : IntKind) (zs : List Int) : List Value := zs.map (Value.int K)
theorem iVals_snoc (K : IntKind) (zs : List Int) (x : Int) : iVals K (zs ++ [x]) = iVals K zs ++ [.int K x] := by simp [iVals]
theorem add0 (j i : Nat) : (⟨j, 0, none⟩ : Addr).add i = ⟨j, i, none⟩ := by
  unfold Addr.add
  split <;> simp_all
theorem but_setB {w w1 : World} {g : Nat} (h : But g w w1) {B : Nat} (hB : w.heap.size ≤ B) (i : Nat) (v : Value) : But g w (w1.setCell ⟨B, i, none⟩ v) :=
  ⟨h.1, h.2.1, h.2.2.1, by simpa [go_sem] using h.2.2.2.1, fun k hk hn => (Below.heap_setCell _ _ _ _ (by show k ≠ B; omega)).trans (h.2.2.2.2 k hk hn)⟩
theorem but_box {w w1 : World} {g : Nat} (h : But g w w1) {B : Nat} {cs : Array Value} {t : TypeId} (hb : w.heap[B]? = some (.cells cs t (0, 0))) (hB : B ≠ g) : w1.heap[B]? = some (.cells cs t (0, 0)) := by
  rw [h.2.2.2.2 B (Array.getElem?_eq_some_iff.1 hb).1 hB]; exact hb
theorem box_set {w : World} {B : Nat} {cs : Array Value} {t : TypeId} (h : w.heap[B]? = some (.cells cs t (0, 0))) (i : Nat) (v : Value) : (w.setCell ⟨B, i, none⟩ v).heap[B]? = some (.cells (cs.setIfInBounds i v) t (0, 0)) := by
  simp [World.setCell, Array.getElem?_modify, h]
theorem box_fro {w : World} {B : Nat} {cs : Array Value} {t : TypeId} (h : w.heap[B]? = some (.cells cs t (0, 0))) (i : Nat) : w.frozen? ⟨B, i, none⟩ = false := by
  simp [World.frozen?, h]
theorem all_stick {α : Type} {b : List Int} {m : Int} {f : Tk → α × Tk} {t : Tk} (h : ¬ t.bad = 0) : (tAll b m f t).2 = t := by
  unfold tAll
  rw [count_stick h]
  rfl
theorem count_stick2 {b : List Int} {m : Int} {t : Tk} (h : ¬ t.bad = 0) : (tCount b m t).2 = t := by rw [count_stick h]
theorem end_stick {b : List Int} {t : Tk} (h : ¬ t.bad = 0) : tEnd b t = t := by
  unfold tEnd
  rw [four_stick h, if_neg h]
theorem own_form {w : World} {b n : Nat} {e : TypeId} {sz : Nat} {v : Value} {xs : List Value} (h : w.ownsRow b e sz v n xs) : ∃ A c, v = .slice A n c := by
  rcases h.2 with ⟨rfl, rfl⟩ | ⟨g, cap, cur, rfl, _⟩
  · exact ⟨_, _, rfl⟩
  · exact ⟨_, _, rfl⟩
theorem end_a {b : List Int} {p : Nat} (h : ¬ p + 4 ≤ b.length) : tEnd b ⟨p, 0, 0⟩ = ⟨p, 27, b.length⟩ := by
  unfold tEnd
  rw [four_no h, if_neg (by simp)]
theorem end_b {b : List Int} {p : Nat} (h : p + 4 < b.length) : tEnd b ⟨p, 0, 0⟩ = ⟨p + 4, 27, p + 4⟩ := by
  unfold tEnd
  rw [four_yes (by omega), if_pos rfl, if_pos h]
theorem end_c {b : List Int} {p : Nat} (h : p + 4 = b.length) (hs : ¬ v4 (b.drop p) = sumB (b.take p)) : tEnd b ⟨p, 0, 0⟩ = ⟨p + 4, 28, p⟩ := by
  unfold tEnd
  rw [four_yes (by omega), if_pos rfl, if_neg (by simp; omega), if_neg hs]
theorem end_d {b : List Int} {p : Nat} (h : p + 4 = b.length) (hs : v4 (b.drop p) = sumB (b.take p)) : tEnd b ⟨p, 0, 0⟩ = ⟨p + 4, 0, 0⟩ := by
  unfold tEnd
  rw [four_yes (by omega), if_pos rfl, if_neg (by simp; omega), if_pos hs]
theorem end_good {b : List Int} {p : Nat} (h : (tEnd b ⟨p, 0, 0⟩).bad = 0) : tEnd b ⟨p, 0, 0⟩ = ⟨(tEnd b ⟨p, 0, 0⟩).pos, 0, 0⟩ := by
  by_cases h1 : p + 4 ≤ b.length
  · by_cases h2 : p + 4 < b.length
    · rw [end_b h2] at h; cases h
    · by_cases h3 : v4 (b.drop p) = sumB (b.take p)
      · rw [end_d (by omega) h3]
      · rw [end_c (by omega) h3] at h; cases h
  · rw [end_a h1] at h; cases h
theorem all_len {α : Type} {b : List Int} {m : Nat} {f : Tk → α × Tk} {p : Nat} (hb : AreB b) (h : (tAll b (m : Int) f ⟨p, 0, 0⟩).2.bad = 0) : (tAll b (m : Int) f ⟨p, 0, 0⟩).1.length ≤ m := by
  by_cases hg : (tCount b m ⟨p, 0, 0⟩).2.bad = 0
  · have := (count_range hb hg).2
    have hl : ∀ (n : Nat) (t : Tk), (tList f n t).1.length ≤ n := by
      intro n
      induction n with
      | zero => intro t; simp [tList]
      | succ n ih =>
        intro t
        rw [tList]
        split
        · have := ih (f t).2
          simp
          omega
        · simp
    have h2 := hl (tCount b m ⟨p, 0, 0⟩).1.toNat (tCount b m ⟨p, 0, 0⟩).2
    unfold tAll
    omega
  · rw [all_bad hg] at h
    exact absurd h hg
theorem ownsRow_mono {w : World} {b b' : Nat} {e : TypeId} {k n : Nat} {v : Value} {xs : List Value} (h : w.ownsRow b e k v n xs) (hb : b' ≤ b) : w.ownsRow b' e k v n xs := by
  refine ⟨h.1, ?_⟩
  rcases h.2 with h0 | ⟨g, cap, cur, hv, hg, r⟩
  · exact Or.inl h0
  · exact Or.inr ⟨g, cap, cur, hv, Nat.le_trans hb hg, r⟩
theorem iVals_get {K : IntKind} {l : List Int} {i : Nat} (h : i < l.length) : (iVals K l)[i]? = some (.int K (nth l i)) := by simp [iVals, nth, List.getD, h]
theorem add_add (j k i : Nat) : ((⟨j, 0, none⟩ : Addr).add k).add i = (⟨j, 0, none⟩ : Addr).add (k + i) := by
  rw [add0, add0]
  unfold Addr.add
  split
  · next h => subst h; rfl
  · rfl
theorem row_ints {w : World} {base c n : Nat} {e : TypeId} {A : Option Addr} {K : IntKind} {l : List Int} (h : w.ownsRow base e 1 (.slice A n c) l.length (iVals K l)) : IntsAt w A K l := fun i hi => by
  rcases h.2 with ⟨_, h0⟩ | ⟨j, cap, cur, hv, hb, hg, hc, _⟩
  · omega
  · cases hv
    exact ⟨_, rfl, h.cells rfl i _ (iVals_get hi)⟩
theorem row_keep {w w1 : World} {base n : Nat} {e : TypeId} {sz : Nat} {v : Value} {xs : List Value} (h : w.ownsRow base e sz v n xs) (hb : Below w.heap.size w w1) : w1.ownsRow base e sz v n xs := by
  refine h.kept (row := none) ⟨hb.os, hb.tape, hb.output, hb.size, fun k hk _ => hb.block k hk⟩ ?_
  cases hv : v.ownBlock <;> simp
theorem lb_box {w w1 : World} {B : Nat} {cs : Array Value} {t : TypeId} (h : w.heap[B]? = some (.cells cs t (0, 0))) (hb : Below w.heap.size w w1) : w1.heap[B]? = some (.cells cs t (0, 0)) := by
  rw [hb.block B (Array.getElem?_eq_some_iff.1 h).1]; exact h

/-- The two lists of an image, each a row of its own behind base. -/
structure RowsI (w : World) (base : Nat) (A1 A2 : Option Addr) (c1 c2 : Nat) (text mem : List Int) : Prop where
  r1 : w.ownsRow base 63 1 (.slice A1 text.length c1) text.length (iVals .u32 text)
  r2 : w.ownsRow base 2 1 (.slice A2 mem.length c2) mem.length (iVals .i64 mem)
theorem RowsI.keep {w w1 : World} {base : Nat} {A1 A2 : Option Addr} {c1 c2 : Nat} {text mem : List Int} (h : RowsI w base A1 A2 c1 c2 text mem) (hb : Below w.heap.size w w1) : RowsI w1 base A1 A2 c1 c2 text mem := ⟨row_keep h.r1 hb, row_keep h.r2 hb⟩
theorem RowsI.mono {w : World} {base base' : Nat} {A1 A2 : Option Addr} {c1 c2 : Nat} {text mem : List Int} (h : RowsI w base A1 A2 c1 c2 text mem) (hb : base' ≤ base) : RowsI w base' A1 A2 c1 c2 text mem := ⟨ownsRow_mono h.r1 hb, ownsRow_mono h.r2 hb⟩
theorem RowsI.but {w w1 : World} {g base : Nat} {A1 A2 : Option Addr} {c1 c2 : Nat} {text mem : List Int} (h : RowsI w base A1 A2 c1 c2 text mem) (hb : But g w w1) (hg : g < base) : RowsI w1 base A1 A2 c1 c2 text mem := ⟨row_but h.r1 hg hb, row_but h.r2 hg hb⟩
theorem row_setB {w1 : World} {B base n : Nat} {e : TypeId} {sz : Nat} {v : Value} {xs : List Value} (h : w1.ownsRow base e sz v n xs) (hB : B < base) (i : Nat) (x : Value) : (w1.setCell ⟨B, i, none⟩ x).ownsRow base e sz v n xs := ownsRow_setCell_below h hB x
theorem RowsI.set {w : World} {B base : Nat} {A1 A2 : Option Addr} {c1 c2 : Nat} {text mem : List Int} (h : RowsI w base A1 A2 c1 c2 text mem) (hB : B < base) (i : Nat) (x : Value) : RowsI (w.setCell ⟨B, i, none⟩ x) base A1 A2 c1 c2 text mem := ⟨row_setB h.r1 hB i x, row_setB h.r2 hB i x⟩
theorem no_ints (w : World) (K : IntKind) : IntsAt w none K [] := fun i hi => by simp at hi







end Go.Proofs.YtmlhnnmelopleaaGreatDoor
