/-
  A map of the blocks that wait: put, has, taken out one by one. Lists that rise, each number once; no Go in sight. What the flow of an image is; no Go in sight. Contracts of the library, laid at this program.
-/
import Derived.Test.YtfnicgihpelhhaaGreatProg
import Derived.WalkKit
import Derived.WalkSpells
import Derived.WalkLawsBesides
import Derived.RowKit3
import Derived.Below
import Derived.Deep.QuietTactic
import Derived.BigQuiet
import Derived.WalkSmall
import Derived.Laws.Rows
import Derived.Test.YtfnicgihpelhhaaGreatPd10
import Derived.Test.YtfnicgihpelhhaaGreatPd18
import Derived.Maps.RangeWalk
import Derived.Lib.SlicesCompact
import Derived.Lib.RowBridge
import Derived.Test.YtfnicgihpelhhaaGreatPd12
import Derived.Shelf.Sort.Plain
import Derived.Shelf.Slices.Clone
import Derived.Shelf.Slices.CompactI
import Derived.Shelf.Slices.In.SortNone
namespace Go.Proofs.YtfnicgihpelhhaaGreat
open Go.RowKit

open Go.Maps Go.WideMaps
theorem mapW : Tryz.prog.underlying 132 = some (.map 3 123) := by kernel_rfl
theorem zeroW (w : World) : (zeroValue 123).run Tryz.prog w = .ok (.agg #[]) w := by kernel_rfl
theorem mkW (w : World) : (Instr.makeMap 132 none).run Tryz.prog w = .ok (.map (some w.heap.size)) (w.alloc (.map #[] 0)) := by
  first | kernel_rfl | (simp [Instr.makeMap, run_underlying mapW, Result.andThen])
theorem Mks.lookW {w : World} {b n : Nat} {f : Int → Bool} (h : Mks w b n f) {x : Int} (h0 : -9223372036854775808 ≤ x) (h1 : x ≤ 9223372036854775807) : (Instr.lookup 132 (.map (some b)) (.int .i64 x) true).run Tryz.prog w = .ok (.tuple #[.agg #[], .bool (f x)]) w := by
  obtain ⟨D, h, h3⟩ := h
  obtain ⟨v, ps, hrun, hv⟩ := h.look_ok lawI mapW (zeroW w) unitElem_mk (keyI h0 h1)
  obtain ⟨rfl, _⟩ := unitElem_inv hv
  rw [hrun, h3]
theorem Mks.putW {w : World} {b n : Nat} {f : Int → Bool} (h : Mks w b n f) (hn : n < 1000000000000) {x : Int} (h0 : -9223372036854775808 ≤ x) (h1 : x ≤ 9223372036854775807) : ∃ w', (Instr.mapUpdate 132 (.map (some b)) (.int .i64 x) (.agg #[])).run Tryz.prog w = .ok () w' ∧ Mks w' b (n + 1) (setF f x) ∧ w.grownBy w' (some b) := by
  obtain ⟨D, h, h3⟩ := h
  obtain ⟨w', hrun, k1, hg⟩ := h.update lawI mapW (by unfold maxLen; omega) (keyI h0 h1) unitElem_mk
  refine ⟨w', hrun, ⟨_, k1, fun y => ?_⟩, hg⟩
  unfold setF
  cases hy : (y == x) with
  | true =>
    have : y = x := by simpa using hy
    subst this
    exact Maps.has_put_same h.isMap (by simp [WideAt.IsKeyLit]) _
  | false =>
    have hne : (Lit.int .i64 y) ≠ .int .i64 x := fun e => by
      injection e with _ e
      subst e
      simp at hy
    rw [Maps.has_put_other hne, Bool.false_or]
    exact h3 y
theorem wpList_mks_putW (w : World) {ops : Array Oper} {rest : List Oper} {o : Oper} {a : Act} {Q : Exit → Act → World → Prop} (hg : o.guard = none) (m x v : Operand) (hop : o.op = Op.mapUpdate 132 m x v)
    (b n : Nat) (f : Int → Bool) (hk : Mks w b n f) (hn : n < 1000000000000) (y : Int) (h0 : -9223372036854775808 ≤ y) (h1 : y ≤ 9223372036854775807) (hm : a.eval m = .map (some b)) (hx : a.eval x = .int .i64 y) (hv : a.eval v = .agg #[])
    (hK : ∀ w', Mks w' b (n + 1) (setF f y) → w.grownBy w' (some b) → wpList Tryz.prog ops Q rest (a.put o.dst undef) w') : wpList Tryz.prog ops Q (o :: rest) a w := by
  refine wpList_plain hg fun K' hK' => ?_
  obtain ⟨w', hrun, k1, k2⟩ := hk.putW hn h0 h1
  unfold Oper.wp
  simp [execOp, hop, hm, hx, hv, hrun, Result.andThen]
  exact hK' _ _ (hK w' k1 k2)
set_option maxHeartbeats 1000000 in
theorem wput_any (b n : Nat) (f : Int → Bool) (x : Int) (w : World) (hk : Mks w b n f) (hn : n < 1000000000000) (h0 : -9223372036854775808 ≤ x) (h1 : x ≤ 9223372036854775807) :
    Calls Tryz.prog 77 #[.map (some b), .int .i64 x] w fun e w' => e = .returned (.tuple #[]) ∧ Mks w' b (n + 1) (setF f x) ∧ w.grownBy w' (some b) := by
  have HK : Hid (Mks w b n f) := hk
  clear hk
  go_enter Tryz.func77, Tryz.ntmps77
  go_wp2_with (at_mapUpdate; refine wpList_mks_putW _ rfl _ _ _ rfl b n f HK.out hn x h0 h1 rfl rfl rfl ?_; intro w2 hk2 hg2)
  refine bodyPost_end (v := .tuple #[]) (by simp [results, Tryz.results77, go_sem]) rfl ?_
  exact ⟨rfl, hk2, hg2⟩
set_option maxHeartbeats 1000000 in
theorem whas_any (b n : Nat) (f : Int → Bool) (x : Int) (w : World) (hk : Mks w b n f) (h0 : -9223372036854775808 ≤ x) (h1 : x ≤ 9223372036854775807) :
    Calls Tryz.prog 91 #[.map (some b), .int .i64 x] w fun e w' => e = .returned (.bool (f x)) ∧ Below w.heap.size w w' := by
  have hlk := hk.lookW h0 h1
  clear hk
  generalize f x = v at *
  go_enter Tryz.func91, Tryz.ntmps91
  go_wp2
  go_ret
  exact ⟨rfl, lb_alloc (Below.refl _ _) _⟩
/-- How many there are: none just if it has none. -/
theorem size_none {D : DataW Unit} {w : World} {b n : Nat} (h : w.ownsMap Tryz.prog 3 unitElem b n D) (hz : Maps.size D = 0) (x : Int) : Maps.has D (.int .i64 x) = false := by
  obtain ⟨es, rfl, _, _⟩ := h.entries lawI
  have : es = [] := List.eq_nil_of_length_eq_zero hz
  subst this
  rfl
/-- The range under way: f: what the map has, g: what is still to come. -/
def Rn (w : World) (b r n : Nat) (f g : Int → Bool) (cnt : Nat) : Prop := ∃ (D : DataW Unit) (left : Lit → Bool), w.ranges Tryz.prog 3 unitElem b r n D left cnt ∧ (∀ x : Int, Maps.has D (.int .i64 x) = f x) ∧ ∀ x : Int, left (.int .i64 x) = g x
section
variable {w w1 : World} {b r n : Nat} {f g : Int → Bool} {cnt : Nat}
theorem Rn.mks (h : Rn w b r n f g cnt) : Mks w b n f := by
  obtain ⟨D, left, h1, h2, _⟩ := h
  exact ⟨D, h1.owns, h2⟩
theorem Rn.left (h : Rn w b r n f g cnt) : w.rangeLeft b r = cnt := by
  obtain ⟨D, left, h1, _⟩ := h
  exact h1.left_eq
theorem Rn.ltR (h : Rn w b r n f g cnt) : r < w.heap.size := by
  obtain ⟨D, left, h1, _⟩ := h
  exact h1.lt
theorem Rn.kept {row : Option Nat} (h : Rn w b r n f g cnt) (hg : w.grownBy w1 row) (hb : some b ≠ row) (hr : some r ≠ row) : Rn w1 b r n f g cnt := by
  obtain ⟨D, left, h1, h2⟩ := h
  exact ⟨D, left, h1.kept hg hb hr, h2⟩
theorem Rn.fit {f' g' : Int → Bool} (h : Rn w b r n f g cnt) (ef : ∀ x, f x = f' x) (eg : ∀ x, g x = g' x) : Rn w b r n f' g' cnt := by
  obtain ⟨D, left, h1, h2, h3⟩ := h
  exact ⟨D, left, h1, fun x => by rw [← ef, h2], fun x => by rw [← eg, h3]⟩
/-- A range's blocks are no row of cells. -/
theorem Rn.notcells (h : Rn w b r n f g cnt) {k : Nat} {cs : Array Value} {t : TypeId} (hk : w.heap[k]? = some (.cells cs t (0, 0))) : k ≠ b ∧ k ≠ r := by
  obtain ⟨D, left, h1, _⟩ := h
  obtain ⟨es, clock, since, seen, c0, hb, _, _, _, hr, _⟩ := h1
  constructor
  · rintro rfl
    rw [hb] at hk; cases hk
  · rintro rfl
    rw [hr] at hk; cases hk
end
def cutF (f : Int → Bool) (x : Int) (y : Int) : Bool := f y && !(y == x)
theorem lit_same (x y : Int) : (Lit.int .i64 y).sameKey (.int .i64 x) = (y == x) := by
  cases h : (y == x) with
  | true =>
    have : y = x := by simpa using h
    subst this
    exact WideAt.sameKey_self (by simp [WideAt.IsKeyLit])
  | false =>
    cases h2 : (Lit.int .i64 y).sameKey (.int .i64 x) with
    | false => rfl
    | true =>
      have := WideAt.sameKey_eq h2
      injection this with _ e
      subst e
      simp at h
theorem wpList_rn_range (w : World) {ops : Array Oper} {rest : List Oper} {o : Oper} {a : Act} {Q : Exit → Act → World → Prop} (hg : o.guard = none) (m : Operand) (hop : o.op = Op.range 132 m)
    (b n : Nat) (f : Int → Bool) (hk : Mks w b n f) (hm : a.eval m = .map (some b))
    (hK : ∀ w' cnt, Rn w' b w.heap.size n f f cnt → w.grownBy w' none → w'.heap.size = w.heap.size + 1 → wpList Tryz.prog ops Q rest (a.put o.dst (.pointer (some ⟨w.heap.size, 0, none⟩))) w') : wpList Tryz.prog ops Q (o :: rest) a w := by
  obtain ⟨D, h, h3⟩ := hk
  exact wpList_range_own w hg m _ hop 3 _ lawI mapW unitElem b n D hm h fun w' h1 h2 h4 => hK w' _ ⟨D, _, h1, h3, h3⟩ h2 h4
theorem wpList_rn_next (w : World) {ops : Array Oper} {rest : List Oper} {o : Oper} {a : Act} {Q : Exit → Act → World → Prop} (hg : o.guard = none) (it : Operand) (hop : o.op = Op.next it false)
    (b r n : Nat) (f g : Int → Bool) (cnt : Nat) (hit : a.eval it = .pointer (some ⟨r, 0, none⟩)) (h : Rn w b r n f g cnt)
    (hDone : (∀ x, g x = false) → wpList Tryz.prog ops Q rest (a.put o.dst (.tuple #[.bool false])) w)
    (hMore : ∀ (x : Int) (w' : World) (cnt' : Nat), g x = true → -9223372036854775808 ≤ x → x ≤ 9223372036854775807 → Rn w' b r n f (cutF g x) cnt' → cnt' < cnt → w.grownBy w' (some r) → w'.heap.size = w.heap.size → (Instr.entry (.pointer (some ⟨r, 0, none⟩))).run Tryz.prog w' = .ok (.tuple #[.int .i64 x, .agg #[]]) w' → wpList Tryz.prog ops Q rest (a.put o.dst (.tuple #[.bool true, .int .i64 x, .agg #[]])) w') : wpList Tryz.prog ops Q (o :: rest) a w := by
  obtain ⟨D, left, h1, h2, h3⟩ := h
  refine wpList_next_ranges w hg it hop 3 lawI unitElem (Value.int .i64) (fun _ : Unit => .agg #[]) (fun key kl hkey => by obtain ⟨x, rfl, _⟩ := Maps.keyOf_int_inv Tryz.underlying3 hkey; exact ⟨x, rfl⟩) (fun v y hv => ⟨(), (unitElem_inv hv).1⟩) b r n D left cnt hit h1 (fun _ hl => hDone fun x => by rw [← h3, hl]) ?_
  intro x c kl y w' cnt' hkey hlk hv hat hrg hlt hgr hsz hen
  obtain ⟨x', ex, rfl, hwx⟩ := Maps.keyOf_int_inv Tryz.underlying3 hkey
  cases ex
  have hb : -9223372036854775808 ≤ x ∧ x ≤ 9223372036854775807 := by
    simp [Lit.wf, IntKind.min, IntKind.max, IntKind.signed, IntKind.bits] at hwx
    omega
  refine hMore x w' cnt' (by rw [← h3]; exact hlk) hb.1 hb.2 ⟨D, _, hrg, h2, fun y => ?_⟩ hlt hgr hsz hen
  show (left _ && !_) = _
  rw [h3, lit_same]; rfl
theorem wpList_rn_delete (w : World) {ops : Array Oper} {rest : List Oper} {o : Oper} {a : Act} {Q : Exit → Act → World → Prop} (hg : o.guard = none) (m x : Operand) (hop : o.op = Op.call { callee := Callee.builtin Builtin.delete, args := #[m, x], argTypes := #[132, 3] })
    (b r n : Nat) (f g : Int → Bool) (cnt : Nat) {y : Int} (h : Rn w b r n f (cutF g y) cnt) (h0 : -9223372036854775808 ≤ y) (h1 : y ≤ 9223372036854775807) (hm : a.eval m = .map (some b)) (hx : a.eval x = .int .i64 y)
    (hK : ∀ w' cnt', Rn w' b r n (cutF f y) (cutF g y) cnt' → cnt' ≤ cnt → w.grownBy w' (some b) → w'.heap.size = w.heap.size → wpList Tryz.prog ops Q rest (a.put o.dst (.tuple #[])) w') : wpList Tryz.prog ops Q (o :: rest) a w := by
  obtain ⟨D, left, k1, k2, k3⟩ := h
  refine wpList_delete_ranges w hg m x _ 3 hop _ lawI mapW unitElem b r n D left cnt hm k1 _ _ hx (keyI h0 h1) ?_
  intro w' cnt' hrg hle ht
  refine hK w' cnt' ⟨_, _, hrg, fun z => ?_, fun z => ?_⟩ hle ht.grown ?_
  · by_cases e : z = y
    · subst e
      rw [Maps.has_del_same]
      simp [cutF]
    · rw [Maps.has_del_other (by intro h; injection h with _ h; exact e h), k2]
      simp [cutF, e]
  · show (left _ && !_) = _
    rw [k3, lit_same]
    unfold cutF
    cases g z <;> cases (z == y) <;> rfl
  · obtain ⟨es, c, es', c', _, e⟩ := ht
    rw [e]
    simp [ChangeMaps.setBlock]

end Go.Proofs.YtfnicgihpelhhaaGreat

namespace Go.Proofs.YtfnicgihpelhhaaGreat
open Go.RowKit

/-- Two lists that rise and have the same numbers are one. -/
theorem rise_uniq : ∀ {l m : List Int}, l.Pairwise (· < ·) → m.Pairwise (· < ·) → (∀ y, y ∈ l ↔ y ∈ m) → l = m
  | [], [], _, _, _ => rfl
  | [], b :: m, _, _, h => absurd ((h b).2 (by simp)) (by simp)
  | a :: l, [], _, _, h => absurd ((h a).1 (by simp)) (by simp)
  | a :: l, b :: m, hl, hm, h => by
    rw [List.pairwise_cons] at hl hm
    have hab : a = b := by
      have h1 : a ∈ b :: m := (h a).1 (by simp)
      have h2 : b ∈ a :: l := (h b).2 (by simp)
      rw [List.mem_cons] at h1 h2
      rcases h1 with h1 | h1
      · exact h1
      · rcases h2 with h2 | h2
        · exact h2.symm
        · have := hl.1 b h2
          have := hm.1 a h1
          omega
    subst hab
    congr 1
    refine rise_uniq hl.2 hm.2 fun y => ?_
    constructor
    · intro hy
      have h1 : y ∈ a :: m := (h y).1 (List.mem_cons_of_mem _ hy)
      have h2 := hl.1 y hy
      rw [List.mem_cons] at h1
      rcases h1 with rfl | h1
      · omega
      · exact h1
    · intro hy
      have h1 : y ∈ a :: l := (h y).2 (List.mem_cons_of_mem _ hy)
      have h2 := hm.1 y hy
      rw [List.mem_cons] at h1
      rcases h1 with rfl | h1
      · omega
      · exact h1
theorem plc_pair (f : Int → Bool) (n : Nat) : (plcT f n).Pairwise (· < ·) := by
  unfold plcT
  rw [List.pairwise_map]
  exact (List.pairwise_lt_range.filter _).imp (fun {a b} h => by omega)
theorem plc_uniq {f : Int → Bool} {n : Nat} {l : List Int} (hl : l.Pairwise (· < ·)) (h : ∀ y, y ∈ l ↔ 0 ≤ y ∧ y < n ∧ f y = true) : l = plcT f n :=
  rise_uniq hl (plc_pair f n) fun y => by rw [h y, plcT_mem]
/-- What is left of a list that rises, each number once. -/
theorem compact_rise {zs : List Int} (h : zs.Pairwise (· ≤ ·)) : (Lib.compact zs).Pairwise (· < ·) ∧ ∀ y, y ∈ Lib.compact zs ↔ y ∈ zs := by
  have hget : ∀ i, i < zs.length → zs.toArray[i]! = zs.getD i 0 := fun i hi => by
    simp [List.getD, hi]
  have hle : ∀ i j, i ≤ j → j < zs.length → zs.getD i 0 ≤ zs.getD j 0 := fun i j hij hj => by
    by_cases e : i = j
    · subst e; exact Int.le_refl _
    · rw [List.pairwise_iff_getElem] at h
      have := h i j (by omega) hj (by omega)
      simpa [List.getD, hj, show i < zs.length by omega] using this
  have key : ∀ m, m ≤ zs.length → (Lib.compactUpTo zs.toArray m).Pairwise (· < ·) ∧ (∀ y, y ∈ Lib.compactUpTo zs.toArray m ↔ ∃ i, i < m ∧ zs.getD i 0 = y) := by
    intro m
    induction m with
    | zero => exact fun _ => ⟨by simp [Lib.compactUpTo], fun y => by simp [Lib.compactUpTo]⟩
    | succ m ih =>
      intro hm
      obtain ⟨i1, i2⟩ := ih (by omega)
      rw [Lib.compactUpTo_succ]
      by_cases hk : Lib.keeps zs.toArray m = true
      · rw [if_pos hk, hget m (by omega)]
        constructor
        · rw [List.pairwise_append]
          refine ⟨i1, by simp, fun x hx y hy => ?_⟩
          rw [List.mem_singleton] at hy
          subst hy
          obtain ⟨i, hi, rfl⟩ := (i2 x).1 hx
          unfold Lib.keeps at hk
          rw [decide_eq_true_eq] at hk
          rcases hk with rfl | hk
          · omega
          · rw [hget m (by omega), hget (m - 1) (by omega)] at hk
            have h1 := hle i (m - 1) (by omega) (by omega)
            have h2 := hle (m - 1) m (by omega) (by omega)
            omega
        · intro y
          rw [List.mem_append, i2, List.mem_singleton]
          constructor
          · rintro (⟨i, hi, e⟩ | rfl)
            · exact ⟨i, by omega, e⟩
            · exact ⟨m, by omega, rfl⟩
          · rintro ⟨i, hi, e⟩
            by_cases him : i = m
            · subst him; exact .inr e.symm
            · exact .inl ⟨i, by omega, e⟩
      · have hk' : Lib.keeps zs.toArray m = false := by simpa using hk
        rw [if_neg hk, List.append_nil]
        refine ⟨i1, fun y => ?_⟩
        rw [i2]
        unfold Lib.keeps at hk'
        rw [decide_eq_false_iff_not] at hk'
        have hm0 : m ≠ 0 := fun e => hk' (.inl e)
        have he : zs.getD m 0 = zs.getD (m - 1) 0 := by
          rw [← hget m (by omega), ← hget (m - 1) (by omega)]
          exact Decidable.byContradiction fun e => hk' (.inr e)
        constructor
        · rintro ⟨i, hi, e⟩
          exact ⟨i, by omega, e⟩
        · rintro ⟨i, hi, e⟩
          by_cases him : i = m
          · subst him; exact ⟨i - 1, by omega, by rw [← he]; exact e⟩
          · exact ⟨i, by omega, e⟩
  obtain ⟨k1, k2⟩ := key zs.length (Nat.le_refl _)
  refine ⟨k1, fun y => ?_⟩
  show y ∈ Lib.compactUpTo zs.toArray zs.length ↔ _
  rw [k2, List.mem_iff_getElem]
  constructor
  · rintro ⟨i, hi, e⟩
    exact ⟨i, hi, by simpa [List.getD, hi] using e⟩
  · rintro ⟨i, hi, e⟩
    exact ⟨i, hi, by simpa [List.getD, hi] using e⟩
/-- What rising tells. -/
def risZ (zs : List Int) : List Int := Lib.compact (zs.mergeSort fun x y => decide (x ≤ y))
theorem ris_rise (zs : List Int) : (risZ zs).Pairwise (· < ·) ∧ ∀ y, y ∈ risZ zs ↔ y ∈ zs := by
  have hs : (zs.mergeSort fun x y => decide (x ≤ y)).Pairwise (· ≤ ·) := by
    have := List.pairwise_mergeSort (le := fun x y : Int => decide (x ≤ y)) (fun a b c h1 h2 => by simp at h1 h2 ⊢; omega) (fun a b => by simp; omega) zs
    exact this.imp fun {a b} h => by simpa using h
  obtain ⟨h1, h2⟩ := compact_rise hs
  exact ⟨h1, fun y => by
    show y ∈ Lib.compact _ ↔ _
    rw [h2, List.mem_mergeSort]⟩
theorem ris_plc {zs : List Int} {f : Int → Bool} {n : Nat} (h : ∀ y, y ∈ zs ↔ 0 ≤ y ∧ y < n ∧ f y = true) : risZ zs = plcT f n :=
  plc_uniq (ris_rise zs).1 fun y => by rw [(ris_rise zs).2, h]
theorem ris_len (zs : List Int) : (risZ zs).length ≤ zs.length := by
  unfold risZ
  have h1 := Lib.compact_length_le (zs.mergeSort fun x y => decide (x ≤ y))
  have h2 : (zs.mergeSort fun x y => decide (x ≤ y)).length = zs.length := List.length_mergeSort zs
  omega


end Go.Proofs.YtfnicgihpelhhaaGreat

namespace Go.Proofs.YtfnicgihpelhhaaGreat
open Go.RowKit

theorem zisT_of {v : Int} (h : dOp v = 15 ∨ dOp v = 16 ∨ dOp v = 17 ∨ dOp v = 20) : isT v = true ∧ tgV v = dN v := by
  have : isT v = true := by
    unfold isT hP
    rw [Bool.and_eq_true, decide_eq_true_eq, decide_eq_true_eq]
    omega
  exact ⟨this, by unfold tgV; rw [if_pos this]⟩
theorem zlab_place {text : List Int} {ml : Nat} {ent : Int} (hM : MayI text ml ent) {i : Nat} (hi : i < text.length) (h : dOp (nth text i) = 15 ∨ dOp (nth text i) = 16 ∨ dOp (nth text i) = 17 ∨ dOp (nth text i) = 20) : dN (nth text i) ∈ plcT (begF text ent) text.length := by
  obtain ⟨h1, h2⟩ := zisT_of h
  have h3 := tg_pos h1
  have h4 := far_in (hM.far i hi) h1
  rw [h2] at h3 h4
  refine plcT_mem.2 ⟨h3.1, h4, beg_lab (lab_iff.2 (.inr (anyF_iff.2 ⟨i, hi, ?_⟩)))⟩
  rw [gLab_yes h1, h2]
theorem zkn_place {text : List Int} {ml : Nat} {ent : Int} (hM : MayI text ml ent) {x : Int} (h : (takF text x || sitF text x) = true) : x ∈ plcT (begF text ent) text.length := by
  rw [Bool.or_eq_true] at h
  rcases h with h | h
  · have h' : anyF (gTak text) text.length x = true := by simpa [takF, addK, noF] using h
    obtain ⟨i, hi, e⟩ := anyF_iff.1 h'
    unfold gTak at e
    split at e
    · rename_i h20
      have h20 : dOp (nth text i) = 20 := by simpa using h20
      obtain rfl := Option.some.inj e
      exact zlab_place hM hi (by omega)
    · cases e
  · have h' : anyF (gSit text) text.length x = true := by simpa [sitF, addK, noF] using h
    obtain ⟨i, hi, e⟩ := anyF_iff.1 h'
    unfold gSit at e
    split at e
    · rename_i h17
      obtain rfl := Option.some.inj e
      have := sit_in hM hi h17
      exact sit_beg (plcT_mem.2 ⟨by omega, by omega, h⟩)
    · cases e
/-- Which numbers tell the blocks by their beginnings. -/
def NumF (text : List Int) (ent : Int) (k : Nat) (F : Int → Int) : Prop := ∀ j : Nat, j < k → F (rAt (blkL text ent) j) = (j : Int)
theorem blk_place {text : List Int} {ent x : Int} {F : Int → Int} (hF : NumF text ent (blkL text ent).length F) (hx : x ∈ plcT (begF text ent) text.length) : ∃ k : Nat, k < (blkL text ent).length ∧ rAt (blkL text ent) k = x ∧ F x = (k : Int) := by
  obtain ⟨k, hk, _, e⟩ := blk_begin (f := begF text ent) (n := text.length) hx
  have e : rAt (blkL text ent) k = x := e
  exact ⟨k, hk, e, by rw [← e]; exact hF k hk⟩
theorem rAt_rise {text : List Int} {ent : Int} {i j : Nat} (hij : i < j) (hj : j < (blkL text ent).length) : rAt (blkL text ent) i < rAt (blkL text ent) j := by
  have hj2 : j < (plcT (begF text ent) text.length).length := by rw [← blkN_len]; exact hj
  have h1 := blk_from (f := begF text ent) (n := text.length) (k := i) (by omega)
  have h2 := blk_from (f := begF text ent) (n := text.length) hj2
  have e : blkN (begF text ent) text.length = blkL text ent := rfl
  rw [e] at h1 h2
  rw [h1, h2]
  exact plc_rise hij hj2
theorem NumF.more {text : List Int} {ent : Int} {k : Nat} {F : Int → Int} (h : NumF text ent k F) (hk : k < (blkL text ent).length) : NumF text ent (k + 1) (fun y => if y = rAt (blkL text ent) k then (k : Int) else F y) := fun j hj => by
  by_cases e : j = k
  · subst e
    show (if _ then _ else _) = _
    rw [if_pos rfl]
  · have := rAt_rise (text := text) (ent := ent) (show j < k by omega) hk
    show (if _ then _ else _) = _
    rw [if_neg (by omega)]
    exact h j (by omega)
def knK (text : List Int) (ent : Int) (y : Int) : Bool := takF text (rAt (blkL text ent) y.toNat) || sitF text (rAt (blkL text ent) y.toNat)
/-- The blocks at whose beginnings a leap can end. -/
theorem known_plc {text : List Int} {ml : Nat} {ent : Int} (hM : MayI text ml ent) {F : Int → Int} (hF : NumF text ent (blkL text ent).length F) : risZ ((plcT (takF text) text.length ++ plcT (sitF text) text.length).map F) = plcT (knK text ent) (blkL text ent).length := by
  refine ris_plc fun y => ?_
  rw [List.mem_map]
  constructor
  · rintro ⟨p, hp, rfl⟩
    have hk : (takF text p || sitF text p) = true := by
      rw [List.mem_append] at hp
      rw [Bool.or_eq_true]
      rcases hp with hp | hp
      · exact .inl (plcT_mem.1 hp).2.2
      · exact .inr (plcT_mem.1 hp).2.2
    obtain ⟨k, hk1, e1, e2⟩ := blk_place hF (zkn_place hM hk)
    rw [e2]
    refine ⟨by omega, by omega, ?_⟩
    unfold knK
    rw [show ((k : Int)).toNat = k by omega, e1]
    exact hk
  · rintro ⟨h0, h1, h2⟩
    have hk : y.toNat < (blkL text ent).length := by omega
    have hin := blk_in hk
    refine ⟨rAt (blkL text ent) y.toNat, ?_, ?_⟩
    · unfold knK at h2
      rw [Bool.or_eq_true] at h2
      rw [List.mem_append]
      rcases h2 with h2 | h2
      · exact .inl (plcT_mem.2 ⟨hin.1, by omega, h2⟩)
      · exact .inr (plcT_mem.2 ⟨hin.1, by omega, h2⟩)
    · rw [hF _ hk]; omega
section
variable {text : List Int} {ml : Nat} {ent : Int} {k : Nat}
theorem last_at (hk : k < (blkL text ent).length) : ∃ p : Nat, p < text.length ∧ rSym (blkL text ent) k = (p : Int) + 1 ∧ lastW text ent k = nth text p := by
  have hin := blk_in hk
  refine ⟨(rSym (blkL text ent) k - 1).toNat, by omega, by omega, rfl⟩
theorem zblk_after {p : Nat} (hb : k < (blkL text ent).length) (e : rSym (blkL text ent) k = (p : Int) + 1) (hp : p + 1 < text.length) : k + 1 < (blkL text ent).length ∧ rAt (blkL text ent) (k + 1) = (p : Int) + 1 := by
  have hb' : k < (plcT (begF text ent) text.length).length := by rw [← blkN_len]; exact hb
  by_cases h4 : k + 1 < (plcT (begF text ent) text.length).length
  · have h5 := blk_next (f := begF text ent) (n := text.length) h4
    exact ⟨by show k + 1 < (blkN (begF text ent) text.length).length; rw [blkN_len]; exact h4, by rw [← e]; exact h5.symm⟩
  · have h5 : rSym (blkL text ent) k = (text.length : Int) := blk_last (f := begF text ent) (n := text.length) (k := k) (by omega)
    omega
theorem znot_last {p : Nat} (hM : MayI text ml ent) (hp : p < text.length) (h : ¬ (dOp (nth text p) = 0 ∨ dOp (nth text p) = 15 ∨ dOp (nth text p) = 19 ∨ dOp (nth text p) = 21)) : p + 1 < text.length := by
  by_cases e : p + 1 = text.length
  · have hl := hM.last
    rw [show text.length - 1 = p by omega] at hl
    unfold lastOK at hl
    rw [decide_eq_true_eq] at hl
    exact absurd hl h
  · omega
theorem next_blk (hM : MayI text ml ent) (hk : k < (blkL text ent).length) (h : ¬ (dOp (lastW text ent k) = 0 ∨ dOp (lastW text ent k) = 15 ∨ dOp (lastW text ent k) = 19 ∨ dOp (lastW text ent k) = 21)) : k + 1 < (blkL text ent).length := by
  obtain ⟨p, hp, e, el⟩ := last_at hk
  rw [el] at h
  exact (zblk_after hk e (znot_last hM hp h)).1
theorem edg_at (hk : k < (blkL text ent).length) : rowZ (edgT text ent (blkL text ent).length) k = plcT (edgR text ent k) (blkL text ent).length := edg_row hk
theorem from_known (hk : k < (blkL text ent).length) (h : dOp (lastW text ent k) = 18 ∨ dOp (lastW text ent k) = 19) : rowZ (edgT text ent (blkL text ent).length) k = plcT (knK text ent) (blkL text ent).length := by
  rw [edg_at hk]
  refine plcT_fit fun i _ => ?_
  unfold edgR edgB knK goesF
  rw [if_neg (by omega), if_neg (by omega), if_neg (by omega), if_pos h]
theorem from_none (hk : k < (blkL text ent).length) (h : dOp (lastW text ent k) = -1 ∨ dOp (lastW text ent k) = 0 ∨ dOp (lastW text ent k) = 21) : rowZ (edgT text ent (blkL text ent).length) k = [] := by
  rw [edg_at hk]
  symm
  refine plc_uniq (by simp) fun y => ?_
  constructor
  · intro hy; simp at hy
  · rintro ⟨_, _, h2⟩
    unfold edgR edgB goesF at h2
    rw [if_pos h] at h2
    cases h2
theorem from_jump (hM : MayI text ml ent) {F : Int → Int} (hF : NumF text ent (blkL text ent).length F) (hk : k < (blkL text ent).length) (h : dOp (lastW text ent k) = 15 ∨ dOp (lastW text ent k) = 17) : rowZ (edgT text ent (blkL text ent).length) k = [F (dN (lastW text ent k))] := by
  obtain ⟨p, hp, e, el⟩ := last_at hk
  have hl := zlab_place hM hp (by rw [← el]; omega)
  rw [← el] at hl
  obtain ⟨j, hj, e1, e2⟩ := blk_place hF hl
  rw [edg_at hk]
  symm
  refine plc_uniq (by simp) fun y => ?_
  rw [List.mem_singleton, e2]
  have hg : edgR text ent k y = (dN (lastW text ent k) == rAt (blkL text ent) y.toNat) := by
    unfold edgR edgB goesF
    rw [if_neg (by omega), if_pos h]
  rw [hg, beq_iff_eq]
  constructor
  · rintro rfl
    refine ⟨by omega, by omega, ?_⟩
    rw [show ((j : Int)).toNat = j by omega]; exact e1.symm
  · rintro ⟨h0, h1, h2⟩
    have := hF y.toNat (by omega)
    rw [← h2, e2] at this
    omega
theorem from_zero (hM : MayI text ml ent) {F : Int → Int} (hF : NumF text ent (blkL text ent).length F) (hk : k < (blkL text ent).length) (h : dOp (lastW text ent k) = 16) : rowZ (edgT text ent (blkL text ent).length) k = risZ [F (dN (lastW text ent k)), (k : Int) + 1] := by
  obtain ⟨p, hp, e, el⟩ := last_at hk
  have hl := zlab_place hM hp (by rw [← el]; omega)
  rw [← el] at hl
  obtain ⟨j, hj, e1, e2⟩ := blk_place hF hl
  have hnx := next_blk hM hk (by omega)
  rw [edg_at hk]
  symm
  refine ris_plc fun y => ?_
  rw [List.mem_cons, List.mem_singleton, e2]
  have hg : edgR text ent k y = ((dN (lastW text ent k) == rAt (blkL text ent) y.toNat) || (((y.toNat : Nat) : Int) == (k : Int) + 1)) := by
    unfold edgR edgB goesF
    rw [if_neg (by omega), if_neg (by omega), if_pos h]
  rw [hg, Bool.or_eq_true, beq_iff_eq, beq_iff_eq]
  constructor
  · rintro (rfl | rfl)
    · refine ⟨by omega, by omega, .inl ?_⟩
      rw [show ((j : Int)).toNat = j by omega]; exact e1.symm
    · exact ⟨by omega, by omega, .inr (by omega)⟩
  · rintro ⟨h0, h1, h2 | h2⟩
    · have := hF y.toNat (by omega)
      rw [← h2, e2] at this
      exact .inl (by omega)
    · exact .inr (by omega)
theorem from_next (hM : MayI text ml ent) (hk : k < (blkL text ent).length) (h : ¬ (dOp (lastW text ent k) = -1 ∨ dOp (lastW text ent k) = 0 ∨ dOp (lastW text ent k) = 21 ∨ dOp (lastW text ent k) = 15 ∨ dOp (lastW text ent k) = 17 ∨ dOp (lastW text ent k) = 16 ∨ dOp (lastW text ent k) = 18 ∨ dOp (lastW text ent k) = 19)) : rowZ (edgT text ent (blkL text ent).length) k = [(k : Int) + 1] := by
  have hnx := next_blk hM hk (by omega)
  rw [edg_at hk]
  symm
  refine plc_uniq (by simp) fun y => ?_
  rw [List.mem_singleton]
  have hg : edgR text ent k y = (((y.toNat : Nat) : Int) == (k : Int) + 1) := by
    unfold edgR edgB goesF
    rw [if_neg (by omega), if_neg (by omega), if_neg (by omega), if_neg (by omega)]
  rw [hg, beq_iff_eq]
  constructor
  · rintro rfl
    exact ⟨by omega, by omega, by omega⟩
  · rintro ⟨h0, h1, h2⟩
    omega
theorem jump_in (hM : MayI text ml ent) (hk : k < (blkL text ent).length) (h : dOp (lastW text ent k) = 15 ∨ dOp (lastW text ent k) = 16 ∨ dOp (lastW text ent k) = 17) : 0 ≤ dN (lastW text ent k) ∧ dN (lastW text ent k) < (text.length : Int) := by
  obtain ⟨p, hp, e, el⟩ := last_at hk
  have hl := zlab_place hM hp (by rw [← el]; omega)
  rw [← el] at hl
  exact ⟨(plcT_mem.1 hl).1, (plcT_mem.1 hl).2.1⟩
end
/-- The cells of an instruction. -/
def insC (v : Int) : List Value := [.int .i8 (dOp v), .int .i8 (dD v), .int .i8 (dA v), .int .i8 (dB v), .int .i64 (dN v)]
def lstV : List Int → List Value
  | [] => []
  | v :: l => insC v ++ lstV l
theorem lstV_snoc : ∀ (l : List Int) (v : Int), lstV (l ++ [v]) = lstV l ++ insC v
  | [], v => by simp [lstV]
  | x :: l, v => by rw [List.cons_append, lstV, lstV, lstV_snoc l v, List.append_assoc]
theorem lstV_len : ∀ l : List Int, (lstV l).length = l.length * 5
  | [] => rfl
  | x :: l => by rw [lstV, List.length_append, lstV_len l, List.length_cons]; simp [insC]; omega
theorem lstV_get : ∀ {l : List Int} {i j : Nat}, i < l.length → j < 5 → (lstV l)[i * 5 + j]? = (insC (nth l i))[j]?
  | [], i, j, h, _ => absurd h (Nat.not_lt_zero _)
  | x :: l, 0, j, _, hj => by
    rw [lstV, List.getElem?_append_left (by simp [insC]; omega)]
    simp [nth]
  | x :: l, i + 1, j, h, hj => by
    rw [lstV, List.getElem?_append_right (by simp [insC]; omega), show (i + 1) * 5 + j - (insC x).length = i * 5 + j by simp [insC]; omega, lstV_get (l := l) (by simpa using h) hj]
    simp [nth]
theorem insC_one (v : Int) : ∀ u ∈ insC v, u.oneCell' = true := fun u hu => by
  simp only [insC, List.mem_cons, List.not_mem_nil, or_false] at hu
  rcases hu with rfl | rfl | rfl | rfl | rfl <;> rfl
/-- The last words of the first k blocks. -/
def lastL (text : List Int) (ent : Int) (k : Nat) : List Int := (List.range k).map (lastW text ent)
theorem lastL_len (text : List Int) (ent : Int) (k : Nat) : (lastL text ent k).length = k := by simp [lastL]
theorem lastL_succ (text : List Int) (ent : Int) (k : Nat) : lastL text ent (k + 1) = lastL text ent k ++ [lastW text ent k] := by simp [lastL, List.range_succ]
theorem lastL_nth {text : List Int} {ent : Int} {k i : Nat} (h : i < k) : nth (lastL text ent k) i = lastW text ent i := by simp [nth, lastL, List.getD, h]


end Go.Proofs.YtfnicgihpelhhaaGreat

namespace Go.Proofs
open Go.Shelf
def Tryz.layC_ren : Go.Shelf.Ren := ⟨fun | 15 => 88 | n => n, fun | 22 => 72 | 3 => 3 | 4 => 4 | n => n, fun | n => n⟩
theorem Tryz.layC : Go.Proofs.Lays2.n15 Tryz.prog Tryz.layC_ren := {
  mixed := by kernel_rfl
  f15 := Tryz.func88.trans (congrArg some (by kernel_rfl))
  t3 := Tryz.underlying3
  a3 := Tryz.isAgg3
  z3 := Tryz.sizeOf3
  v3 := Tryz.zeroValue3
  t4 := Tryz.underlying4
  a4 := Tryz.isAgg4
  z4 := Tryz.sizeOf4
  v4 := Tryz.zeroValue4
  t22 := Tryz.underlying72
  a22 := Tryz.isAgg72
  z22 := Tryz.sizeOf72
  v22 := Tryz.zeroValue72
  i3 := by kernel_rfl
}
def Tryz.layS_ren : Go.Shelf.Ren := ⟨fun | 189 => 126 | 125 => 131 | 257 => 130 | 128 => 151 | 129 => 152 | 294 => 142 | 295 => 143 | 296 => 144 | 297 => 145 | 298 => 146 | 299 => 147 | 216 => 148 | 300 => 149 | 301 => 150 | 328 => 153 | 329 => 154 | 330 => 155 | 331 => 156 | 332 => 157 | 215 => 158 | 343 => 159 | n => n, fun | 28 => 72 | 3 => 3 | 46 => 95 | 0 => 0 | 51 => 45 | 53 => 188 | 4 => 4 | 183 => 180 | 182 => 179 | 131 => 51 | 5 => 5 | 9 => 9 | 218 => 189 | 222 => 193 | 228 => 195 | 229 => 196 | n => n, fun | n => n⟩
theorem Tryz.layS : Go.Proofs.Lays.n189 Tryz.prog Tryz.layS_ren := {
  mixed := by kernel_rfl
  f125 := Tryz.func131.trans (congrArg some (by kernel_rfl))
  f128 := Tryz.func151.trans (congrArg some (by kernel_rfl))
  f129 := Tryz.func152.trans (congrArg some (by kernel_rfl))
  f189 := Tryz.func126.trans (congrArg some (by kernel_rfl))
  f215 := Tryz.func158.trans (congrArg some (by kernel_rfl))
  f216 := Tryz.func148.trans (congrArg some (by kernel_rfl))
  f257 := Tryz.func130.trans (congrArg some (by kernel_rfl))
  f294 := Tryz.func142.trans (congrArg some (by kernel_rfl))
  f295 := Tryz.func143.trans (congrArg some (by kernel_rfl))
  f296 := Tryz.func144.trans (congrArg some (by kernel_rfl))
  f297 := Tryz.func145.trans (congrArg some (by kernel_rfl))
  f298 := Tryz.func146.trans (congrArg some (by kernel_rfl))
  f299 := Tryz.func147.trans (congrArg some (by kernel_rfl))
  f300 := Tryz.func149.trans (congrArg some (by kernel_rfl))
  f301 := Tryz.func150.trans (congrArg some (by kernel_rfl))
  f328 := Tryz.func153.trans (congrArg some (by kernel_rfl))
  f329 := Tryz.func154.trans (congrArg some (by kernel_rfl))
  f330 := Tryz.func155.trans (congrArg some (by kernel_rfl))
  f331 := Tryz.func156.trans (congrArg some (by kernel_rfl))
  f332 := Tryz.func157.trans (congrArg some (by kernel_rfl))
  f343 := Tryz.func159.trans (congrArg some (by kernel_rfl))
  t0 := Tryz.underlying0
  a0 := Tryz.isAgg0
  z0 := Tryz.sizeOf0
  v0 := Tryz.zeroValue0
  t3 := Tryz.underlying3
  a3 := Tryz.isAgg3
  z3 := Tryz.sizeOf3
  v3 := Tryz.zeroValue3
  t4 := Tryz.underlying4
  a4 := Tryz.isAgg4
  z4 := Tryz.sizeOf4
  v4 := Tryz.zeroValue4
  t5 := Tryz.underlying5
  a5 := Tryz.isAgg5
  z5 := Tryz.sizeOf5
  v5 := Tryz.zeroValue5
  t9 := Tryz.underlying9
  a9 := Tryz.isAgg9
  z9 := Tryz.sizeOf9
  v9 := Tryz.zeroValue9
  t28 := Tryz.underlying72
  a28 := Tryz.isAgg72
  z28 := Tryz.sizeOf72
  v28 := Tryz.zeroValue72
  t46 := Tryz.underlying95
  a46 := Tryz.isAgg95
  z46 := Tryz.sizeOf95
  v46 := Tryz.zeroValue95
  t51 := Tryz.underlying45
  a51 := Tryz.isAgg45
  z51 := Tryz.sizeOf45
  v51 := Tryz.zeroValue45
  t53 := Tryz.underlying188
  a53 := Tryz.isAgg188
  z53 := Tryz.sizeOf188
  v53 := Tryz.zeroValue188
  t131 := Tryz.underlying51
  a131 := Tryz.isAgg51
  z131 := Tryz.sizeOf51
  v131 := Tryz.zeroValue51
  t182 := Tryz.underlying179
  a182 := Tryz.isAgg179
  z182 := Tryz.sizeOf179
  v182 := Tryz.zeroValue179
  t183 := Tryz.underlying180
  a183 := Tryz.isAgg180
  z183 := Tryz.sizeOf180
  v183 := Tryz.zeroValue180
  t218 := Tryz.underlying189
  a218 := Tryz.isAgg189
  z218 := Tryz.sizeOf189
  v218 := Tryz.zeroValue189
  t222 := Tryz.underlying193
  a222 := Tryz.isAgg193
  z222 := Tryz.sizeOf193
  v222 := Tryz.zeroValue193
  t228 := Tryz.underlying195
  a228 := Tryz.isAgg195
  z228 := Tryz.sizeOf195
  v228 := Tryz.zeroValue195
  t229 := Tryz.underlying196
  a229 := Tryz.isAgg196
  z229 := Tryz.sizeOf196
  v229 := Tryz.zeroValue196
}
def Tryz.layK_ren : Go.Shelf.Ren := ⟨fun | 20 => 127 | n => n, fun | 22 => 72 | 3 => 3 | 4 => 4 | 0 => 0 | n => n, fun | n => n⟩
theorem Tryz.layK : Go.Proofs.Lays2.n20 Tryz.prog Tryz.layK_ren := {
  mixed := by kernel_rfl
  f20 := Tryz.func127.trans (congrArg some (by kernel_rfl))
  t0 := Tryz.underlying0
  a0 := Tryz.isAgg0
  z0 := Tryz.sizeOf0
  v0 := Tryz.zeroValue0
  t3 := Tryz.underlying3
  a3 := Tryz.isAgg3
  z3 := Tryz.sizeOf3
  v3 := Tryz.zeroValue3
  t4 := Tryz.underlying4
  a4 := Tryz.isAgg4
  z4 := Tryz.sizeOf4
  v4 := Tryz.zeroValue4
  t22 := Tryz.underlying72
  a22 := Tryz.isAgg72
  z22 := Tryz.sizeOf72
  v22 := Tryz.zeroValue72
  i3 := by kernel_rfl
}
end Go.Proofs
