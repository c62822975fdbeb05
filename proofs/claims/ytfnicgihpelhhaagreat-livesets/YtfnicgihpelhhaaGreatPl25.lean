/-
  A map of the blocks that wait: put, has, taken out one by one. Edges turned round, step by step; no Go in sight. A graph with a hub has the same least sets; sets that grow while blocks wait; plain.
-/
import Derived.Test.YtfnicgihpelhhaaGreatProg
import Derived.WalkKit
import Derived.WalkSpells
import Derived.WalkLawsBesides
import Derived.RowKit3
import Derived.Below
import Derived.Deep.QuietTactic
import Derived.BigQuiet
import Derived.WalkSmall
import Derived.Laws.Rows
import Derived.Test.YtfnicgihpelhhaaGreatPl11
import Derived.Test.YtfnicgihpelhhaaGreatPl17
import Derived.Maps.RangeWalk
import Derived.Test.YtfnicgihpelhhaaGreatPl05
import Derived.Test.YtfnicgihpelhhaaGreatPl13
import Derived.Test.YtfnicgihpelhhaaGreatPl15
namespace Go.Proofs.YtfnicgihpelhhaaGreat
open Go.RowKit

open Go.Maps Go.WideMaps
theorem mapW : Tryz.prog.underlying 132 = some (.map 3 123) := by kernel_rfl
theorem zeroW (w : World) : (zeroValue 123).run Tryz.prog w = .ok (.agg #[]) w := by kernel_rfl
theorem mkW (w : World) : (Instr.makeMap 132 none).run Tryz.prog w = .ok (.map (some w.heap.size)) (w.alloc (.map #[] 0)) := by
  first | kernel_rfl | (simp [Instr.makeMap, run_underlying mapW, Result.andThen])
theorem Mks.lookW {w : World} {b n : Nat} {f : Int → Bool} (h : Mks w b n f) {x : Int} (h0 : -9223372036854775808 ≤ x) (h1 : x ≤ 9223372036854775807) : (Instr.lookup 132 (.map (some b)) (.int .i64 x) true).run Tryz.prog w = .ok (.tuple #[.agg #[], .bool (f x)]) w := by
  obtain ⟨D, h, h3⟩ := h
  obtain ⟨v, ps, hrun, hv⟩ := h.look_ok lawI mapW (zeroW w) unitElem_mk (keyI h0 h1)
  obtain ⟨rfl, _⟩ := unitElem_inv hv
  rw [hrun, h3]
theorem Mks.putW {w : World} {b n : Nat} {f : Int → Bool} (h : Mks w b n f) (hn : n < 1000000000000) {x : Int} (h0 : -9223372036854775808 ≤ x) (h1 : x ≤ 9223372036854775807) : ∃ w', (Instr.mapUpdate 132 (.map (some b)) (.int .i64 x) (.agg #[])).run Tryz.prog w = .ok () w' ∧ Mks w' b (n + 1) (setF f x) ∧ w.grownBy w' (some b) := by
  obtain ⟨D, h, h3⟩ := h
  obtain ⟨w', hrun, k1, hg⟩ := h.update lawI mapW (by unfold maxLen; omega) (keyI h0 h1) unitElem_mk
  refine ⟨w', hrun, ⟨_, k1, fun y => ?_⟩, hg⟩
  unfold setF
  cases hy : (y == x) with
  | true =>
    have : y = x := by simpa using hy
    subst this
    exact Maps.has_put_same h.isMap (by simp [WideAt.IsKeyLit]) _
  | false =>
    have hne : (Lit.int .i64 y) ≠ .int .i64 x := fun e => by
      injection e with _ e
      subst e
      simp at hy
    rw [Maps.has_put_other hne, Bool.false_or]
    exact h3 y
theorem wpList_mks_putW (w : World) {ops : Array Oper} {rest : List Oper} {o : Oper} {a : Act} {Q : Exit → Act → World → Prop} (hg : o.guard = none) (m x v : Operand) (hop : o.op = Op.mapUpdate 132 m x v)
    (b n : Nat) (f : Int → Bool) (hk : Mks w b n f) (hn : n < 1000000000000) (y : Int) (h0 : -9223372036854775808 ≤ y) (h1 : y ≤ 9223372036854775807) (hm : a.eval m = .map (some b)) (hx : a.eval x = .int .i64 y) (hv : a.eval v = .agg #[])
    (hK : ∀ w', Mks w' b (n + 1) (setF f y) → w.grownBy w' (some b) → wpList Tryz.prog ops Q rest (a.put o.dst undef) w') : wpList Tryz.prog ops Q (o :: rest) a w := by
  refine wpList_plain hg fun K' hK' => ?_
  obtain ⟨w', hrun, k1, k2⟩ := hk.putW hn h0 h1
  unfold Oper.wp
  simp [execOp, hop, hm, hx, hv, hrun, Result.andThen]
  exact hK' _ _ (hK w' k1 k2)
set_option maxHeartbeats 1000000 in
theorem wput_any (b n : Nat) (f : Int → Bool) (x : Int) (w : World) (hk : Mks w b n f) (hn : n < 1000000000000) (h0 : -9223372036854775808 ≤ x) (h1 : x ≤ 9223372036854775807) :
    Calls Tryz.prog 77 #[.map (some b), .int .i64 x] w fun e w' => e = .returned (.tuple #[]) ∧ Mks w' b (n + 1) (setF f x) ∧ w.grownBy w' (some b) := by
  have HK : Hid (Mks w b n f) := hk
  clear hk
  go_enter Tryz.func77, Tryz.ntmps77
  go_wp2_with (at_mapUpdate; refine wpList_mks_putW _ rfl _ _ _ rfl b n f HK.out hn x h0 h1 rfl rfl rfl ?_; intro w2 hk2 hg2)
  refine bodyPost_end (v := .tuple #[]) (by simp [results, Tryz.results77, go_sem]) rfl ?_
  exact ⟨rfl, hk2, hg2⟩
set_option maxHeartbeats 1000000 in
theorem whas_any (b n : Nat) (f : Int → Bool) (x : Int) (w : World) (hk : Mks w b n f) (h0 : -9223372036854775808 ≤ x) (h1 : x ≤ 9223372036854775807) :
    Calls Tryz.prog 91 #[.map (some b), .int .i64 x] w fun e w' => e = .returned (.bool (f x)) ∧ Below w.heap.size w w' := by
  have hlk := hk.lookW h0 h1
  clear hk
  generalize f x = v at *
  go_enter Tryz.func91, Tryz.ntmps91
  go_wp2
  go_ret
  exact ⟨rfl, lb_alloc (Below.refl _ _) _⟩
/-- How many there are: none just if it has none. -/
theorem size_none {D : DataW Unit} {w : World} {b n : Nat} (h : w.ownsMap Tryz.prog 3 unitElem b n D) (hz : Maps.size D = 0) (x : Int) : Maps.has D (.int .i64 x) = false := by
  obtain ⟨es, rfl, _, _⟩ := h.entries lawI
  have : es = [] := List.eq_nil_of_length_eq_zero hz
  subst this
  rfl
/-- The range under way: f: what the map has, g: what is still to come. -/
def Rn (w : World) (b r n : Nat) (f g : Int → Bool) (cnt : Nat) : Prop := ∃ (D : DataW Unit) (left : Lit → Bool), w.ranges Tryz.prog 3 unitElem b r n D left cnt ∧ (∀ x : Int, Maps.has D (.int .i64 x) = f x) ∧ ∀ x : Int, left (.int .i64 x) = g x
section
variable {w w1 : World} {b r n : Nat} {f g : Int → Bool} {cnt : Nat}
theorem Rn.mks (h : Rn w b r n f g cnt) : Mks w b n f := by
  obtain ⟨D, left, h1, h2, _⟩ := h
  exact ⟨D, h1.owns, h2⟩
theorem Rn.left (h : Rn w b r n f g cnt) : w.rangeLeft b r = cnt := by
  obtain ⟨D, left, h1, _⟩ := h
  exact h1.left_eq
theorem Rn.ltR (h : Rn w b r n f g cnt) : r < w.heap.size := by
  obtain ⟨D, left, h1, _⟩ := h
  exact h1.lt
theorem Rn.kept {row : Option Nat} (h : Rn w b r n f g cnt) (hg : w.grownBy w1 row) (hb : some b ≠ row) (hr : some r ≠ row) : Rn w1 b r n f g cnt := by
  obtain ⟨D, left, h1, h2⟩ := h
  exact ⟨D, left, h1.kept hg hb hr, h2⟩
theorem Rn.fit {f' g' : Int → Bool} (h : Rn w b r n f g cnt) (ef : ∀ x, f x = f' x) (eg : ∀ x, g x = g' x) : Rn w b r n f' g' cnt := by
  obtain ⟨D, left, h1, h2, h3⟩ := h
  exact ⟨D, left, h1, fun x => by rw [← ef, h2], fun x => by rw [← eg, h3]⟩
/-- A range's blocks are no row of cells. -/
theorem Rn.notcells (h : Rn w b r n f g cnt) {k : Nat} {cs : Array Value} {t : TypeId} (hk : w.heap[k]? = some (.cells cs t (0, 0))) : k ≠ b ∧ k ≠ r := by
  obtain ⟨D, left, h1, _⟩ := h
  obtain ⟨es, clock, since, seen, c0, hb, _, _, _, hr, _⟩ := h1
  constructor
  · rintro rfl
    rw [hb] at hk; cases hk
  · rintro rfl
    rw [hr] at hk; cases hk
end
def cutF (f : Int → Bool) (x : Int) (y : Int) : Bool := f y && !(y == x)
theorem lit_same (x y : Int) : (Lit.int .i64 y).sameKey (.int .i64 x) = (y == x) := by
  cases h : (y == x) with
  | true =>
    have : y = x := by simpa using h
    subst this
    exact WideAt.sameKey_self (by simp [WideAt.IsKeyLit])
  | false =>
    cases h2 : (Lit.int .i64 y).sameKey (.int .i64 x) with
    | false => rfl
    | true =>
      have := WideAt.sameKey_eq h2
      injection this with _ e
      subst e
      simp at h
theorem wpList_rn_range (w : World) {ops : Array Oper} {rest : List Oper} {o : Oper} {a : Act} {Q : Exit → Act → World → Prop} (hg : o.guard = none) (m : Operand) (hop : o.op = Op.range 132 m)
    (b n : Nat) (f : Int → Bool) (hk : Mks w b n f) (hm : a.eval m = .map (some b))
    (hK : ∀ w' cnt, Rn w' b w.heap.size n f f cnt → w.grownBy w' none → w'.heap.size = w.heap.size + 1 → wpList Tryz.prog ops Q rest (a.put o.dst (.pointer (some ⟨w.heap.size, 0, none⟩))) w') : wpList Tryz.prog ops Q (o :: rest) a w := by
  obtain ⟨D, h, h3⟩ := hk
  exact wpList_range_own w hg m _ hop 3 _ lawI mapW unitElem b n D hm h fun w' h1 h2 h4 => hK w' _ ⟨D, _, h1, h3, h3⟩ h2 h4
theorem wpList_rn_next (w : World) {ops : Array Oper} {rest : List Oper} {o : Oper} {a : Act} {Q : Exit → Act → World → Prop} (hg : o.guard = none) (it : Operand) (hop : o.op = Op.next it false)
    (b r n : Nat) (f g : Int → Bool) (cnt : Nat) (hit : a.eval it = .pointer (some ⟨r, 0, none⟩)) (h : Rn w b r n f g cnt)
    (hDone : (∀ x, g x = false) → wpList Tryz.prog ops Q rest (a.put o.dst (.tuple #[.bool false])) w)
    (hMore : ∀ (x : Int) (w' : World) (cnt' : Nat), g x = true → -9223372036854775808 ≤ x → x ≤ 9223372036854775807 → Rn w' b r n f (cutF g x) cnt' → cnt' < cnt → w.grownBy w' (some r) → w'.heap.size = w.heap.size → (Instr.entry (.pointer (some ⟨r, 0, none⟩))).run Tryz.prog w' = .ok (.tuple #[.int .i64 x, .agg #[]]) w' → wpList Tryz.prog ops Q rest (a.put o.dst (.tuple #[.bool true, .int .i64 x, .agg #[]])) w') : wpList Tryz.prog ops Q (o :: rest) a w := by
  obtain ⟨D, left, h1, h2, h3⟩ := h
  refine wpList_next_ranges w hg it hop 3 lawI unitElem (Value.int .i64) (fun _ : Unit => .agg #[]) (fun key kl hkey => by obtain ⟨x, rfl, _⟩ := Maps.keyOf_int_inv Tryz.underlying3 hkey; exact ⟨x, rfl⟩) (fun v y hv => ⟨(), (unitElem_inv hv).1⟩) b r n D left cnt hit h1 (fun _ hl => hDone fun x => by rw [← h3, hl]) ?_
  intro x c kl y w' cnt' hkey hlk hv hat hrg hlt hgr hsz hen
  obtain ⟨x', ex, rfl, hwx⟩ := Maps.keyOf_int_inv Tryz.underlying3 hkey
  cases ex
  have hb : -9223372036854775808 ≤ x ∧ x ≤ 9223372036854775807 := by
    simp [Lit.wf, IntKind.min, IntKind.max, IntKind.signed, IntKind.bits] at hwx
    omega
  refine hMore x w' cnt' (by rw [← h3]; exact hlk) hb.1 hb.2 ⟨D, _, hrg, h2, fun y => ?_⟩ hlt hgr hsz hen
  show (left _ && !_) = _
  rw [h3, lit_same]; rfl
theorem wpList_rn_delete (w : World) {ops : Array Oper} {rest : List Oper} {o : Oper} {a : Act} {Q : Exit → Act → World → Prop} (hg : o.guard = none) (m x : Operand) (hop : o.op = Op.call { callee := Callee.builtin Builtin.delete, args := #[m, x], argTypes := #[132, 3] })
    (b r n : Nat) (f g : Int → Bool) (cnt : Nat) {y : Int} (h : Rn w b r n f (cutF g y) cnt) (h0 : -9223372036854775808 ≤ y) (h1 : y ≤ 9223372036854775807) (hm : a.eval m = .map (some b)) (hx : a.eval x = .int .i64 y)
    (hK : ∀ w' cnt', Rn w' b r n (cutF f y) (cutF g y) cnt' → cnt' ≤ cnt → w.grownBy w' (some b) → w'.heap.size = w.heap.size → wpList Tryz.prog ops Q rest (a.put o.dst (.tuple #[])) w') : wpList Tryz.prog ops Q (o :: rest) a w := by
  obtain ⟨D, left, k1, k2, k3⟩ := h
  refine wpList_delete_ranges w hg m x _ 3 hop _ lawI mapW unitElem b r n D left cnt hm k1 _ _ hx (keyI h0 h1) ?_
  intro w' cnt' hrg hle ht
  refine hK w' cnt' ⟨_, _, hrg, fun z => ?_, fun z => ?_⟩ hle ht.grown ?_
  · by_cases e : z = y
    · subst e
      rw [Maps.has_del_same]
      simp [cutF]
    · rw [Maps.has_del_other (by intro h; injection h with _ h; exact e h), k2]
      simp [cutF, e]
  · show (left _ && !_) = _
    rw [k3, lit_same]
    unfold cutF
    cases g z <;> cases (z == y) <;> rfl
  · obtain ⟨es, c, es', c', _, e⟩ := ht
    rw [e]
    simp [ChangeMaps.setBlock]

end Go.Proofs.YtfnicgihpelhhaaGreat

namespace Go.Proofs.YtfnicgihpelhhaaGreat
open Go.RowKit

/-- What the list i has, when k lists and j numbers of the next one were gone through. -/
def curB (L : List (List Int)) (k j i : Nat) : List Int := plcT (backR L i) k ++ (if (i : Int) ∈ (rowZ L k).take j then [(k : Int)] else [])
def bst (L : List (List Int)) (k j : Nat) : List (List Int) := (List.range L.length).map (curB L k j)
theorem bst_len (L : List (List Int)) (k j : Nat) : (bst L k j).length = L.length := by simp [bst]
theorem bst_row {L : List (List Int)} {k j i : Nat} (h : i < L.length) : rowZ (bst L k j) i = curB L k j i := rowZ_map h
theorem take_next {l : List Int} {j : Nat} (h : j < l.length) (x : Int) : x ∈ l.take (j + 1) ↔ x ∈ l.take j ∨ x = nth l j := by
  rw [List.take_succ_eq_append_getElem h, List.mem_append, List.mem_singleton]
  have : nth l j = l[j] := by simp [nth, List.getD, h]
  rw [this]
theorem curB_same {L : List (List Int)} {k j i : Nat} (hj : j < (rowZ L k).length) (h : (i : Int) ≠ nth (rowZ L k) j ∨ nth (rowZ L k) j ∈ (rowZ L k).take j) : curB L k (j + 1) i = curB L k j i := by
  unfold curB
  by_cases h1 : (i : Int) ∈ (rowZ L k).take j
  · rw [if_pos h1, if_pos ((take_next hj _).2 (.inl h1))]
  · rw [if_neg h1, if_neg]
    intro h2
    rcases (take_next hj _).1 h2 with h2 | h2
    · exact h1 h2
    · rcases h with h | h
      · exact h h2
      · rw [h2] at h1; exact h1 h
theorem bst_skip {L : List (List Int)} {k j : Nat} (hj : j < (rowZ L k).length) (h : nth (rowZ L k) j < 0 ∨ (L.length : Int) ≤ nth (rowZ L k) j ∨ nth (rowZ L k) j ∈ (rowZ L k).take j) : bst L k (j + 1) = bst L k j := by
  unfold bst
  refine List.map_congr_left fun i hi => ?_
  have hi : i < L.length := by simpa using hi
  refine curB_same hj ?_
  rcases h with h | h | h
  · exact .inl (by omega)
  · exact .inl (by omega)
  · exact .inr h
theorem bst_add {L : List (List Int)} {k j : Nat} (hj : j < (rowZ L k).length) {i : Nat} (hi : i < L.length) (h0 : nth (rowZ L k) j = (i : Int)) (h1 : (i : Int) ∉ (rowZ L k).take j) : bst L k (j + 1) = (bst L k j).set i (rowZ (bst L k j) i ++ [(k : Int)]) := by
  apply List.ext_getElem?
  intro t
  rw [List.getElem?_set, bst_len]
  by_cases ht : t < L.length
  · by_cases e : i = t
    · subst e
      rw [if_pos rfl, if_pos hi, bst_row hi]
      have : (bst L k (j + 1))[i]? = some (curB L k (j + 1) i) := by simp [bst, hi]
      rw [this]
      congr 1
      unfold curB
      rw [if_neg h1, if_pos ((take_next hj _).2 (.inr h0.symm)), List.append_nil]
    · rw [if_neg e]
      have a : (bst L k (j + 1))[t]? = some (curB L k (j + 1) t) := by simp [bst, ht]
      have b : (bst L k j)[t]? = some (curB L k j t) := by simp [bst, ht]
      rw [a, b, curB_same hj (.inl (by rw [h0]; omega))]
  · rw [List.getElem?_eq_none (by rw [bst_len]; omega), if_neg (by omega), List.getElem?_eq_none (by rw [bst_len]; omega)]
theorem bst_next (L : List (List Int)) (k : Nat) : bst L k (rowZ L k).length = bst L (k + 1) 0 := by
  unfold bst
  refine List.map_congr_left fun i hi => ?_
  unfold curB
  rw [List.take_length, List.take_zero, if_neg (List.not_mem_nil), List.append_nil]
  by_cases h : (i : Int) ∈ rowZ L k
  · rw [if_pos h, plcT_yes]
    unfold backR hasZ
    rw [decide_eq_true_eq]
    simpa using h
  · rw [if_neg h, List.append_nil, plcT_no]
    unfold backR hasZ
    rw [decide_eq_false_iff_not]
    simpa using h
theorem bst_end (L : List (List Int)) : bst L L.length 0 = backT L L.length := by
  unfold bst backT
  refine List.map_congr_left fun i hi => ?_
  unfold curB
  rw [List.take_zero, if_neg (List.not_mem_nil), List.append_nil]
theorem bst_zero (L : List (List Int)) : bst L 0 0 = List.replicate L.length [] := by
  apply List.ext_getElem?
  intro t
  by_cases ht : t < L.length
  · have a : (bst L 0 0)[t]? = some (curB L 0 0 t) := by simp [bst, ht]
    rw [a, List.getElem?_replicate, if_pos ht]
    first | rfl | (unfold curB; rw [List.take_zero, if_neg (List.not_mem_nil), List.append_nil, plcT_zero])
  · rw [List.getElem?_eq_none (by rw [bst_len]; omega), List.getElem?_replicate, if_neg ht]
/-- Does a list end in a number? -/
def endZ (l : List Int) (x : Int) : Bool := decide (0 < l.length ∧ nth l (l.length - 1) = x)
theorem curB_ends (L : List (List Int)) (k j i : Nat) : endZ (curB L k j i) (k : Int) = decide ((i : Int) ∈ (rowZ L k).take j) := by
  unfold endZ
  by_cases h : (i : Int) ∈ (rowZ L k).take j
  · rw [decide_eq_true h, decide_eq_true_eq]
    unfold curB
    rw [if_pos h, List.length_append]
    refine ⟨by simp, ?_⟩
    unfold nth
    simp [List.getD]
  · rw [decide_eq_false h, decide_eq_false_iff_not]
    unfold curB
    rw [if_neg h, List.append_nil]
    rintro ⟨h1, h2⟩
    have h3 := plcT_mem.1 (nth_mem (show (plcT (backR L i) k).length - 1 < (plcT (backR L i) k).length by omega))
    omega
theorem curB_len (L : List (List Int)) (k j i : Nat) : (curB L k j i).length ≤ k + 1 := by
  unfold curB
  have := plcT_len (backR L i) k
  rw [List.length_append]
  split <;> simp <;> omega
theorem rowZ_set {M : List (List Int)} {i t : Nat} {l : List Int} (ht : t < M.length) : rowZ (M.set i l) t = if i = t then l else rowZ M t := by
  unfold rowZ
  rw [List.getD_eq_getElem?_getD, List.getElem?_set, List.getD_eq_getElem?_getD]
  by_cases e : i = t
  · rw [if_pos e, if_pos e, if_pos (by omega)]; rfl
  · rw [if_neg e, if_neg e]


end Go.Proofs.YtfnicgihpelhhaaGreat

namespace Go.Proofs.YtfnicgihpelhhaaGreat
open Go.RowKit

/-- A graph with a hub: what leaps goes to the hub alone, and the hub goes where each of them went. -/
structure Hub (L M : List (List Int)) (n : Nat) (lp : Nat → Bool) : Prop where
  len : M.length = n + 1
  plain : ∀ k, k < n → lp k = false → rowZ M k = rowZ L k
  leap : ∀ k, k < n → lp k = true → rowZ M k = [(n : Int)]
  hub : ∀ k, k < n → lp k = true → rowZ M n = rowZ L k
  inn : ∀ t, t < (rowZ M n).length → 0 ≤ nth (rowZ M n) t ∧ nth (rowZ M n) t < (n : Int)
/-- What the blocks read; the hub behind them nothing. -/
def hubN (R : Nat → Nat) (n : Nat) (j : Nat) : Nat := if j < n then R j else 0
theorem hubN_in {R : Nat → Nat} {n j : Nat} (h : j < n) : hubN R n j = R j := if_pos h
theorem hubN_hub (R : Nat → Nat) (n : Nat) : hubN R n n = 0 := if_neg (by omega)
theorem hubN_lt {R : Nat → Nat} (n : Nat) (h : ∀ j, R j < 65536) (j : Nat) : hubN R n j < 65536 := by
  unfold hubN
  split
  · exact h j
  · omega
theorem orE_fit {F G : Int → Nat} {l : List Int} : ∀ {k : Nat}, (∀ t, t < k → F (nth l t) = G (nth l t)) → orE F l k = orE G l k
  | 0, _ => rfl
  | k + 1, h => by
    show orE F l k ||| F (nth l k) = orE G l k ||| G (nth l k)
    rw [orE_fit fun t ht => h t (by omega), h k (by omega)]
theorem orE_one (F : Int → Nat) (x : Int) : orE F [x] [x].length = F x := by
  show (0 : Nat) ||| F (nth [x] 0) = F x
  rw [Nat.zero_or]; rfl
theorem orE_in {F : Int → Nat} {l : List Int} : ∀ {k t : Nat}, t < k → SubN (F (nth l t)) (orE F l k)
  | 0, t, h => by omega
  | k + 1, t, h => fun r x => by
    show (orE F l k ||| F (nth l k)).testBit r = true
    rw [Nat.testBit_or, Bool.or_eq_true]
    by_cases e : t = k
    · subst e; exact .inr x
    · exact .inl (orE_in (show t < k by omega) r x)
theorem orE_out {F : Int → Nat} {l : List Int} {b : Nat} : ∀ {k : Nat}, (∀ t, t < k → SubN (F (nth l t)) b) → SubN (orE F l k) b
  | 0, _ => SubN.zero b
  | k + 1, h => fun r x => by
    have x : (orE F l k ||| F (nth l k)).testBit r = true := x
    rw [Nat.testBit_or, Bool.or_eq_true] at x
    rcases x with x | x
    · exact orE_out (fun t ht => h t (by omega)) r x
    · exact h k (by omega) r x
theorem orE_ltL {F : Int → Nat} {l : List Int} : ∀ {k : Nat}, (∀ t, t < k → F (nth l t) < 65536) → orE F l k < 65536
  | 0, _ => by show 0 < 65536; decide
  | k + 1, h => orN_lt (orE_ltL fun t ht => h t (by omega)) (h k (by omega))
theorem insN_hub {o : Nat} (h : o < 65536) : insN 0 0 o = o := by
  apply Nat.eq_of_testBit_eq
  intro i
  unfold insN
  rw [Nat.zero_or, lessN_bit (by omega), Nat.zero_testBit]
  by_cases e : i < 16
  · simp [e]
  · have : o.testBit i = false := Nat.testBit_lt_two_pow (Nat.lt_of_lt_of_le h (Nat.pow_le_pow_right (n := 2) (by omega) (show 16 ≤ i by omega)))
    rw [this]; rfl
theorem insN_all {r w o : Nat} (hr : r < 65536) : insN r w o < 65536 := orN_lt hr (Nat.lt_of_le_of_lt Nat.and_le_right (by omega))
section
variable {L M : List (List Int)} {n : Nat} {lp : Nat → Bool} {R W : Nat → Nat} {F G : Int → Nat}
theorem nth_back {l : List Int} {t : Nat} {n : Nat} (h : 0 ≤ nth l t ∧ nth l t < (n : Int)) : ∃ j : Nat, j < n ∧ nth l t = (j : Int) := ⟨(nth l t).toNat, by omega, by omega⟩
theorem Hub.sol (h : Hub L M n lp) (hR : ∀ j, R j < 65536) (hs : Sol M (hubN R n) (hubN W n) (n + 1) F G) : Sol L R W n F G := by
  have hF : ∀ j : Nat, j < n + 1 → F (j : Int) < 65536 := fun j hj => by
    rw [hs.inn j hj]
    exact insN_all (hubN_lt n hR j)
  have hGn : G (n : Int) < 65536 := by
    rw [hs.out n (by omega)]
    refine orE_ltL fun t ht => ?_
    obtain ⟨j, hj, e⟩ := nth_back (h.inn t ht)
    rw [e]; exact hF j (by omega)
  refine ⟨fun j hj => ?_, fun j hj => ?_⟩
  · cases e : lp j with
    | false => rw [hs.out j (by omega), h.plain j hj e]
    | true =>
      rw [hs.out j (by omega), h.leap j hj e, orE_one, hs.inn n (by omega), hubN_hub, hubN_hub, insN_hub hGn, hs.out n (by omega), h.hub j hj e]
  · rw [hs.inn j (by omega), hubN_in hj, hubN_in hj]
theorem Hub.low (h : Hub L M n lp) (hR : ∀ j, R j < 65536) (hI : Inn L n) (hs : Sol L R W n F G) : ∃ F' G', Sol M (hubN R n) (hubN W n) (n + 1) F' G' ∧ ∀ j : Nat, j < n → F' (j : Int) = F (j : Int) ∧ G' (j : Int) = G (j : Int) := by
  have hF : ∀ j : Nat, j < n → F (j : Int) < 65536 := fun j hj => by
    rw [hs.inn j hj]
    exact insN_all (hR j)
  have hb : orE F (rowZ M n) (rowZ M n).length < 65536 := orE_ltL fun t ht => by
    obtain ⟨j, hj, e⟩ := nth_back (h.inn t ht)
    rw [e]; exact hF j hj
  generalize hv : orE F (rowZ M n) (rowZ M n).length = v at hb
  have hold : ∀ (H : Int → Nat) (j : Nat), j < n → putS H (n : Int) v (j : Int) = H (j : Int) := fun H j hj => putS_else _ _ (by omega)
  have hor : ∀ l : List Int, (∀ t, t < l.length → 0 ≤ nth l t ∧ nth l t < (n : Int)) → orE (putS F (n : Int) v) l l.length = orE F l l.length := fun l hl => orE_fit fun t ht => by
    obtain ⟨j, hj, e⟩ := nth_back (hl t ht)
    rw [e]; exact hold F j hj
  refine ⟨putS F (n : Int) v, putS G (n : Int) v, ⟨fun j hj => ?_, fun j hj => ?_⟩, fun j hj => ⟨hold F j hj, hold G j hj⟩⟩
  · by_cases e : j = n
    · subst e
      rw [putS_here, hor _ h.inn, hv]
    · have hj : j < n := by omega
      rw [hold G j hj]
      cases e : lp j with
      | false => rw [h.plain j hj e, hor _ (fun t ht => hI j t hj ht)]; exact hs.out j hj
      | true => rw [h.leap j hj e, orE_one, putS_here, ← hv, h.hub j hj e]; exact hs.out j hj
  · by_cases e : j = n
    · subst e
      rw [putS_here, putS_here, hubN_hub, hubN_hub, insN_hub hb]
    · have hj : j < n := by omega
      rw [hold F j hj, hold G j hj, hubN_in hj, hubN_in hj]
      exact hs.inn j hj
/-- The least sets of the graph with the hub are those of the graph. -/
theorem Hub.lst (h : Hub L M n lp) (hR : ∀ j, R j < 65536) (hI : Inn L n) (hs : Lst M (hubN R n) (hubN W n) (n + 1) F G) : Lst L R W n F G := by
  refine ⟨h.sol hR hs.sol, fun F' G' k j hj => ?_⟩
  obtain ⟨F2, G2, k2, e⟩ := h.low hR hI k
  have := hs.low F2 G2 k2 j (by omega)
  rw [(e j hj).1, (e j hj).2] at this
  exact this
end
/-- Sets that grow, and which blocks wait. -/
structure Wk (M : List (List Int)) (R W : Nat → Nat) (N : Nat) (F G : Int → Nat) (S : Int → Bool) : Prop where
  grw : Grw M R W N F G
  done : ∀ k : Nat, k < N → S (k : Int) = false → F (k : Int) = insN (R k) (W k) (G (k : Int)) ∧ ∀ j : Nat, j < N → (k : Int) ∈ rowZ M j → SubN (F (k : Int)) (G (j : Int))
/-- In the midst of one: m of those that come to it have been told. -/
structure Md (M : List (List Int)) (R W : Nat → Nat) (N : Nat) (l : List Int) (k m : Nat) (F G : Int → Nat) (S : Int → Bool) : Prop where
  grw : Grw M R W N F G
  done : ∀ j : Nat, j < N → j ≠ k → S (j : Int) = false → F (j : Int) = insN (R j) (W j) (G (j : Int)) ∧ ∀ i : Nat, i < N → (j : Int) ∈ rowZ M i → SubN (F (j : Int)) (G (i : Int))
  here : S (k : Int) = false → F (k : Int) = insN (R k) (W k) (G (k : Int))
  told : ∀ t, t < m → SubN (F (k : Int)) (G (nth l t))
section
variable {M : List (List Int)} {R W : Nat → Nat} {N : Nat} {F G : Int → Nat} {S S' : Int → Bool} {l : List Int} {k m : Nat}
theorem mem_at {l : List Int} {x : Int} (h : x ∈ l) : ∃ t, t < l.length ∧ nth l t = x := by
  obtain ⟨t, ht, e⟩ := List.getElem_of_mem h
  refine ⟨t, ht, ?_⟩
  unfold nth
  rw [List.getD_eq_getElem?_getD, List.getElem?_eq_getElem ht, e]; rfl
theorem Wk.zero (hS : ∀ k : Nat, k < N → S (k : Int) = true) : Wk M R W N zeroS zeroS S := ⟨Grw.zero M R W N, fun k hk e => by rw [hS k hk] at e; cases e⟩
theorem Wk.fit (h : Wk M R W N F G S) (e : ∀ k : Nat, k < N → S (k : Int) = S' (k : Int)) : Wk M R W N F G S' := ⟨h.grw, fun k hk x => h.done k hk (by rw [e k hk]; exact x)⟩
/-- One is taken out: what is live ahead of it is told anew. -/
theorem Wk.take (h : Wk M R W N F G S) (hR : ∀ j, R j < 65536) (hW : ∀ j, W j < 65536) (hk : k < N) (hSk : S (k : Int) = true) (e : ∀ j : Nat, j < N → j ≠ k → S' (j : Int) = S (j : Int)) :
    Md M R W N l k 0 (putS F (k : Int) (insN (R k) (W k) (G (k : Int)))) G S' := by
  have hup : ∀ y, SubN (F y) (putS F (k : Int) (insN (R k) (W k) (G (k : Int))) y) := fun y => by
    by_cases e : y = (k : Int)
    · rw [e, putS_here]; exact h.grw.fst k hk
    · rw [putS_else _ _ e]; exact SubN.refl _
  refine ⟨⟨fun x => ⟨?_, (h.grw.lt x).2⟩, fun j hj => ?_, fun j hj => ?_, fun F' G' hs j hj => ?_⟩, fun j hj hne hS => ?_, fun _ => by rw [putS_here], fun t ht => by omega⟩
  · unfold putS
    split
    · exact insN_lt (hR k) (h.grw.lt _).2
    · exact (h.grw.lt x).1
  · by_cases e : j = k
    · rw [e, putS_here]; exact SubN.refl _
    · rw [putS_else _ _ (by omega)]; exact h.grw.fst j hj
  · exact (h.grw.snd j hj).trans (orE_sub fun t _ => hup _)
  · have := h.grw.top F' G' hs j hj
    by_cases e : j = k
    · subst e
      rw [putS_here]
      refine ⟨?_, this.2⟩
      rw [hs.inn j hj]
      exact insN_sub (hW j) this.2
    · rw [putS_else _ _ (by omega)]; exact this
  · rw [e j hj hne] at hS
    rw [putS_else _ _ (by omega)]
    exact h.done j hj hS
/-- One more that comes to it has all that is live ahead of it already. -/
theorem Md.skip (h : Md M R W N l k m F G S) (e : SubN (F (k : Int)) (G (nth l m))) : Md M R W N l k (m + 1) F G S := ⟨h.grw, h.done, h.here, fun t ht => by
  by_cases x : t = m
  · subst x; exact e
  · exact h.told t (by omega)⟩
/-- One more that comes to it grows, and waits. -/
theorem Md.grow (h : Md M R W N l k m F G S) (hW : ∀ j, W j < 65536) (hk : k < N) {f : Nat} (hf : f < N) (hl : nth l m = (f : Int)) (hm : (k : Int) ∈ rowZ M f) (e : ∀ j : Nat, j < N → j ≠ f → S' (j : Int) = S (j : Int)) (hS' : S' (f : Int) = true) :
    Md M R W N l k (m + 1) F (putS G (f : Int) (G (f : Int) ||| F (k : Int))) S' := by
  have hup : ∀ y, SubN (G y) (putS G (f : Int) (G (f : Int) ||| F (k : Int)) y) := fun y r x => by
    by_cases e : y = (f : Int)
    · rw [e, putS_here, Nat.testBit_or, ← e, x]; rfl
    · rw [putS_else _ _ e]; exact x
  obtain ⟨t0, ht0, et0⟩ := mem_at hm
  refine ⟨⟨fun x => ⟨(h.grw.lt x).1, ?_⟩, fun j hj => ?_, fun j hj => ?_, fun F' G' hs j hj => ?_⟩, fun j hj hne hS => ?_, fun hS => ?_, fun t ht => ?_⟩
  · unfold putS
    split
    · exact orN_lt (h.grw.lt _).2 (h.grw.lt _).1
    · exact (h.grw.lt x).2
  · exact (h.grw.fst j hj).trans (insN_sub (hW j) (hup _))
  · by_cases e : j = f
    · subst e
      rw [putS_here]
      intro r x
      rw [Nat.testBit_or, Bool.or_eq_true] at x
      rcases x with x | x
      · exact h.grw.snd j hj r x
      · exact orE_in ht0 r (by rw [et0]; exact x)
    · rw [putS_else _ _ (by omega)]; exact h.grw.snd j hj
  · have ht := h.grw.top F' G' hs j hj
    by_cases e : j = f
    · subst e
      rw [putS_here]
      refine ⟨ht.1, fun r x => ?_⟩
      rw [Nat.testBit_or, Bool.or_eq_true] at x
      rcases x with x | x
      · exact ht.2 r x
      · rw [hs.out j hj]
        exact orE_in ht0 r (by rw [et0]; exact (h.grw.top F' G' hs k hk).1 r x)
    · rw [putS_else _ _ (by omega)]; exact ht
  · by_cases x : j = f
    · subst x; rw [hS'] at hS; cases hS
    · rw [e j hj x] at hS
      obtain ⟨a, b⟩ := h.done j hj hne hS
      rw [putS_else _ _ (by omega)]
      exact ⟨a, fun i hi hm => (b i hi hm).trans (hup _)⟩
  · by_cases x : k = f
    · subst x; rw [hS'] at hS; cases hS
    · rw [e k hk x] at hS
      rw [putS_else _ _ (by omega)]
      exact h.here hS
  · by_cases x : t = m
    · subst x
      rw [hl, putS_here]
      intro r y
      rw [Nat.testBit_or, y, Bool.or_true]
    · exact (h.told t (by omega)).trans (hup _)
/-- All that come to it have been told. -/
theorem Md.wk (h : Md M R W N l k m F G S) (hl : ∀ j : Nat, j < N → (k : Int) ∈ rowZ M j → (j : Int) ∈ l) (hm : m = l.length) : Wk M R W N F G S := ⟨h.grw, fun j hj hS => by
  by_cases x : j = k
  · subst x
    refine ⟨h.here hS, fun i hi hi2 => ?_⟩
    obtain ⟨t, ht, et⟩ := mem_at (hl i hi hi2)
    rw [← et]
    exact h.told t (by omega)
  · exact h.done j hj x hS⟩
/-- None waits: the least sets. -/
theorem Wk.lst (h : Wk M R W N F G S) (hI : Inn M N) (hS : ∀ k : Nat, k < N → S (k : Int) = false) : Lst M R W N F G := by
  refine ⟨⟨fun j hj => ?_, fun j hj => (h.done j hj (hS j hj)).1⟩, h.grw.top⟩
  refine SubN.anti (h.grw.snd j hj) (orE_out fun t ht => ?_)
  obtain ⟨i, hi, e⟩ := nth_back (hI j t hj ht)
  rw [e]
  refine (h.done i hi (hS i hi)).2 j hj ?_
  rw [← e]
  exact nth_mem ht
/-- A set that grows. -/
theorem or_grows {a b : Nat} (hne : lessN b a ≠ 0) (ha : a < 65536) : a < a ||| b := by
  refine Nat.lt_of_le_of_ne Nat.left_le_or fun e => hne ?_
  apply Nat.eq_of_testBit_eq
  intro i
  rw [lessN_bit ha, Nat.zero_testBit]
  have h3 : a.testBit i = (a.testBit i || b.testBit i) := by
    have := congrArg (fun x => Nat.testBit x i) e
    simp only [Nat.testBit_or] at this
    exact this
  clear e
  generalize a.testBit i = x at *
  generalize b.testBit i = y at *
  cases x <;> cases y <;> first | exact absurd h3 (by decide) | simp
theorem less_zero {a b : Nat} (ha : a < 65536) (hb : b < 65536) (h : lessN b a = 0) : SubN b a := fun r x => by
  have := congrArg (fun y => Nat.testBit y r) h
  simp only [lessN_bit ha, x, Nat.zero_testBit, Bool.true_and] at this
  cases e : a.testBit r with
  | true => rfl
  | false =>
    rw [e] at this
    have h16 : r < 16 := by
      refine Classical.byContradiction fun hn => ?_
      have : b.testBit r = false := Nat.testBit_lt_two_pow (Nat.lt_of_lt_of_le hb (Nat.pow_le_pow_right (n := 2) (by omega) (show 16 ≤ r by omega)))
      rw [this] at x; cases x
    simp [h16] at this
theorem lowS_put {F : Int → Nat} {n f : Nat} {v : Nat} (hf : f < n) (h1 : F (f : Int) < v) (h2 : v < 65536) : lowS (putS F (f : Int) v) n < lowS F n := by
  refine lowS_lt (fun i hi => ?_) hf (by rw [putS_here]; exact h1) (by rw [putS_here]; exact h2)
  by_cases e : i = f
  · subst e; rw [putS_here]; omega
  · rw [putS_else _ _ (by omega)]; exact Nat.le_refl _
end
/-- Edges turned round, as members. -/
theorem back_mem {M : List (List Int)} {k j : Nat} (hk : k < M.length) (hj : j < M.length) (h : (k : Int) ∈ rowZ M j) : (j : Int) ∈ rowZ (backT M M.length) k := by
  unfold backT
  rw [rowZ_map hk, plcT_mem]
  refine ⟨by omega, by omega, ?_⟩
  unfold backR hasZ
  rw [show ((j : Int)).toNat = j by omega]
  exact decide_eq_true h
theorem back_at {M : List (List Int)} {k t : Nat} (hk : k < M.length) (ht : t < (rowZ (backT M M.length) k).length) : ∃ f : Nat, f < M.length ∧ nth (rowZ (backT M M.length) k) t = (f : Int) ∧ (k : Int) ∈ rowZ M f := by
  have hm := nth_mem ht
  generalize nth (rowZ (backT M M.length) k) t = x at hm
  unfold backT at hm
  rw [rowZ_map hk, plcT_mem] at hm
  obtain ⟨h0, h1, h2⟩ := hm
  unfold backR hasZ at h2
  exact ⟨x.toNat, by omega, by omega, of_decide_eq_true h2⟩

end Go.Proofs.YtfnicgihpelhhaaGreat
